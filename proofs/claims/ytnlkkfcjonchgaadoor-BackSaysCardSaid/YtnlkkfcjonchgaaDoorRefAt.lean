/- The walk of the document's answer for the values at the beginning: At. -/
import Derived.Test.YtnlkkfcjonchgaaDoorRefTab
namespace Go.Proofs.YtnlkkfcjonchgaaDoor.Fm
open Go.RowKit Go.IntWalk Go.Proofs.YtnlkkfcjonchgaaDoor.Wd Go.Proofs.YtnlkkfcjonchgaaDoor.Wo

theorem to_at {w0 w' : World} {N k cap : Nat} {A : Option Addr} {M : Nat → Nat → Bool} (h : TO w0 w' N (.slice A k cap) k M) (hN : 0 < N) (wr : World) (hb : Below w'.heap.size w' wr) {i : Nat} (hi : i < k) :
    ∃ ad g, A = some ad ∧ ad.block < wr.heap.size ∧ wr.cell? (ad.add i) = some (.slice (some ⟨g, 0, none⟩) N N) ∧ g < wr.heap.size ∧ (∀ q, q < N → wr.cell? ⟨g, q, none⟩ = some (.bool (M i q))) := by
  obtain ⟨rs, hT, hl, hM⟩ := h
  subst hl
  have hT := (Rc.ownT_tab hN hT).on hb
  obtain ⟨r, hr⟩ : ∃ r, rs[i]? = some r := ⟨_, List.getElem?_eq_getElem hi⟩
  obtain ⟨_, ⟨ad, e, h2, h3⟩, h4, h5⟩ := hT i r hr
  exact ⟨ad, r.1, e, h2, h3, h4, fun q hq => h5 q _ (by rw [hM i r hr]; exact Rc.bF_get _ hq)⟩
theorem TO.below {w0 w' : World} {N k : Nat} {tv : Value} {M : Nat → Nat → Bool} (h : TO w0 w' N tv k M) : Below w0.heap.size w0 w' := by
  obtain ⟨rs, hT, _⟩ := h
  exact hT.1.below
set_option maxRecDepth 100000 in
set_option maxHeartbeats 2000000 in
theorem at_own {L : Int} (A0 : Option Addr) (c : Nat) (f : List Nd) (B : Option Addr) (cb : Nat) (zz : List Int) (w : World) (hA : NodesAt w w.heap.size A0 f) (hB : IntsAt w w.heap.size B zz) (hg : FGood L f) (hz : Fine L zz) :
    Calls Tryd.prog 20 #[.slice A0 f.length c, .slice B zz.length cb] w fun e w' => Hid (∃ A cap, e = .returned (.slice A f.length cap) ∧ Own w w' [eBools (.slice A f.length cap) (vec f zz)] []) := by
  have hn40 := hg.le
  have HT := Lib.hid (table_any A0 c f B cb zz w hA hB hg hz)
  have HVl := Lib.hid (vec_length f zz)
  have HVa := Lib.hid (fun k (h : k < f.length) => vec_at f zz h)
  obtain ⟨N, hN⟩ : ∃ N, f.length = N := ⟨_, rfl⟩
  rw [hN] at hn40 HT HVl HVa ⊢
  generalize vec f zz = V at *
  generalize zz.length = n at *
  clear hN hA hB hg hz
  go_enter Tryd.func20, Tryd.ntmps20
  go_wp2_with fail
  refine HT.out.mono ?_
  rintro e w1 he
  obtain ⟨A, cap, rfl, hto⟩ := he.out
  have HB1 := Lib.hid hto.below
  have HR := Lib.hid (fun wr (hb : Below w1.heap.size w1 wr) i (hi : i < N) => to_at hto (by omega) wr hb hi)
  have HO0 : Hid (Own w1 w1 [eBools (.slice none 0 0) (V.take 0)] []) := (own_start w1).nil 4 1
  clear HT he hto
  go_wp2
  go_loopw [6, 7] (fun v i wr => ∃ (k : Nat), k ≤ N ∧ i = .int .i64 k ∧ Hid (Own w1 wr [eBools v (V.take k)] [])) (fun _ i _ => N - (intOf i).toNat)
  case atStart => exact ⟨0, by omega, rfl, HO0⟩
  case round =>
    clear HO0
    obtain ⟨k, hk, rfl, HO⟩ := hrel
    by_cases hlt : k < N
    · obtain ⟨ad, g, rfl, hadb, hrow, hgb, hcs⟩ := HR.out wr HO.out.below k hlt
      have hc := hcs 0 (by omega)
      have HVk := Lib.hid (HVa.out k hlt)
      generalize vat f zz k 0 = b at *
      have e1 : (k : Int) < (N : Int) := by omega
      have hlen : (V.take k).length < 17592186044416 := by rw [List.length_take]; omega
      obtain ⟨P, hP⟩ : ∃ P, V.take k = P := ⟨_, rfl⟩
      have HP := Lib.hid hP
      rw [hP] at hlen HO
      clear hcs hP
      go_wp2_with (at_builtin; refine own_bool (by rfl) _ _ (by rfl) (by rfl) (HO.out) (by rfl) hlen ?_)
      intro g6 cap6 w6 ho6
      have HE : Hid (Own w1 w6 [eBools (.slice (some ⟨g6, 0, none⟩) (P.length + 1) cap6) (V.take (k + 1))] []) := by
        have hkV : k < V.length := by rw [HVl.out]; exact hlt
        have := HVk.out
        rw [List.getElem?_eq_getElem hkV] at this
        rw [← List.take_append_getElem hkV, Option.some.inj this, HP.out]
        exact ho6
      clear ho6 HO hrow hc
      go_wp2
      go_roundw
      case rel => exact ⟨k + 1, by omega, by go_num, HE⟩
      case measure => simp [intOf]; omega
    · obtain rfl : k = N := by omega
      have ho := HO.out
      rw [List.take_of_length_le (by rw [HVl.out]; exact Nat.le_refl _)] at ho
      obtain ⟨A7, c7, e7, h1, h2, h3⟩ := Df.own_bools ho List.mem_cons_self
      rw [HVl.out] at e7
      subst e7
      have HE := Lib.hid (ho.base HB1.out)
      clear ho HO h1 h2 h3
      go_wp2
      go_ret
      exact ⟨_, _, rfl, HE.out⟩
theorem at_any {L : Int} (A0 : Option Addr) (c : Nat) (f : List Nd) (B : Option Addr) (cb : Nat) (zz : List Int) (w : World) (hA : NodesAt w w.heap.size A0 f) (hB : IntsAt w w.heap.size B zz) (hg : FGood L f) (hz : Fine L zz) :
    Calls Tryd.prog 20 #[.slice A0 f.length c, .slice B zz.length cb] w fun e w' => Hid (∃ A cap, e = .returned (.slice A f.length cap) ∧ f.length ≤ cap ∧ cap ≤ 9223372036854775807 ∧ Df.BoolsAt w' w'.heap.size A (vec f zz)) ∧ Below w.heap.size w w' := by
  refine (at_own A0 c f B cb zz w hA hB hg hz).mono fun e w' he => ?_
  obtain ⟨A, cap, rfl, ho⟩ := he.out
  obtain ⟨A7, c7, e7, h1, h2, h3⟩ := Df.own_bools ho List.mem_cons_self
  rw [vec_length] at e7 h1
  cases e7
  exact ⟨⟨_, _, rfl, h1, h2, h3⟩, ho.below⟩
end Go.Proofs.YtnlkkfcjonchgaaDoor.Fm

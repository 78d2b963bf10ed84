/- The walks of package mean's Values and Holds. -/
import Derived.Test.YtdkbdoogjehkfaaDoorMeanW
import Derived.Test.YtdkbdoogjehkfaaDoorFormW
namespace Go.Proofs.YtdkbdoogjehkfaaDoor.Fm
open Go.RowKit Go.IntWalk Go.Proofs.YtdkbdoogjehkfaaDoor.Wd Go.Proofs.YtdkbdoogjehkfaaDoor.Wo

theorem errV_pos {n : Nat} (h : n ≠ 0) : errV n = .iface 59 (.int .i64 (n : Int)) := by
  rcases n with _ | m
  · exact absurd rfl h
  · rfl
/-- What is wrong with a formula and a word. -/
def verr (L : Int) (f : List Nd) (z : List Int) : Nat := if fchk L f = 0 then chk L z else fchk L f
theorem verr_iff {L : Int} {f : List Nd} {z : List Int} : verr L f z = 0 ↔ FGood L f ∧ Fine L z := by
  unfold verr
  rw [← fchk_iff, ← chk_iff]
  split <;> simp_all
/-- A row of bools that a call has made. -/
def RowIs (w w' : World) (v : Value) (l : List Bool) : Prop := ∃ g, v = .slice (some ⟨g, 0, none⟩) l.length l.length ∧ Own w w' [eBools v l] []
set_option maxRecDepth 100000 in
set_option maxHeartbeats 2000000 in
theorem values_bad (L : Int) (A : Option Addr) (c : Nat) (f : List Nd) (B : Option Addr) (cb : Nat) (z : List Int) (w : World) (hL : Small L) (hA : NodesAt w w.heap.size A f) (hf : f.length ≤ 9223372036854775807)
    (hB : IntsAt w w.heap.size B z) (hz : z.length ≤ 17592186044416) (h : verr L f z ≠ 0) :
    Calls Tryd.prog 44 #[.int .i64 L, .slice A f.length c, .slice B z.length cb] w fun e w' => e = .returned (.tuple #[.slice none 0 0, errV (verr L f z)]) ∧ Below w.heap.size w w' := by
  obtain ⟨E, hE⟩ : ∃ E, E = errV (verr L f z) := ⟨_, rfl⟩
  rw [← hE]
  rw [errV_pos h] at hE
  have HC := fcheck_any L A c f w hL hA hf
  by_cases hf0 : fchk L f = 0
  · have hv : verr L f z = chk L z := by unfold verr; rw [if_pos hf0]
    have hW := fun (W : World) (hb : Below w.heap.size w W) => (check_any L B cb z W hL (hB.on hb) hz).mono (R' := fun e w' => e = .returned E ∧ w' = W) fun e w' ⟨h1, h2⟩ => by
      refine ⟨?_, h2.symm⟩
      rw [h1.out, hE, ← errV_pos h, hv]
    rw [hf0] at HC
    have HC := Lib.hid HC
    have HW := Lib.hid hW
    obtain ⟨q, hq⟩ : ∃ q : Int, q = (verr L f z : Int) := ⟨_, rfl⟩
    rw [← hq] at hE
    clear hf0 hv hW h hA hB hq hL
    subst hE
    generalize f.length = N at *
    generalize z.length = M at *
    go_enter Tryd.func44, Tryd.ntmps44
    go_wp2_with fail
    refine HC.out.mono ?_
    rintro e w2 ⟨he, hb2⟩
    obtain rfl := he.out
    have HW2 := Lib.hid (HW.out w2 hb2)
    have HB2 := Lib.hid hb2
    clear HC he HW hb2
    simp only [errV]
    go_wp2_with fail
    refine HW2.out.mono ?_
    rintro e w3 ⟨rfl, rfl⟩
    clear HW2
    go_wp2
    go_ret2
    exact ⟨rfl, HB2.out⟩
  · have hv : verr L f z = fchk L f := by unfold verr; rw [if_neg hf0]
    rw [← hv, errV_pos h, ← hE] at HC
    have HC := Lib.hid HC
    obtain ⟨q, hq⟩ : ∃ q : Int, q = (verr L f z : Int) := ⟨_, rfl⟩
    rw [← hq] at hE
    clear hf0 hv h hA hB hq hL
    subst hE
    generalize f.length = N at *
    generalize z.length = M at *
    go_enter Tryd.func44, Tryd.ntmps44
    go_wp2_with fail
    refine HC.out.mono ?_
    rintro e w2 ⟨he, hb2⟩
    obtain rfl := he.out
    have HB2 := Lib.hid hb2
    clear HC he hb2
    go_wp2
    go_ret2
    exact ⟨rfl, HB2.out⟩
set_option maxRecDepth 100000 in
set_option maxHeartbeats 2000000 in
theorem values_ok (L : Int) (A : Option Addr) (c : Nat) (f : List Nd) (B : Option Addr) (cb : Nat) (z : List Int) (w : World) (hL : Small L) (hA : NodesAt w w.heap.size A f)
    (hB : IntsAt w w.heap.size B z) (hg : FGood L f) (hz : Fine L z) :
    Calls Tryd.prog 44 #[.int .i64 L, .slice A f.length c, .slice B z.length cb] w fun e w' => Hid (∃ v, e = .returned (.tuple #[v, .nilIface]) ∧ RowIs w w' v (vec f z)) := by
  have HC := fcheck_any L A c f w hL hA (by have := hg.le; omega)
  rw [fchk_iff.2 hg] at HC
  have HC := Lib.hid HC
  have h80 := hz.2.1
  have HW := Lib.hid (fun (W : World) (hb : Below w.heap.size w W) => check_ok L B cb z W hL (hB.on hb) (by omega) (chk_iff.2 hz))
  have HE := Lib.hid (fun (W : World) (hb : Below w.heap.size w W) => end_any A c f W (hA.on hb) hg)
  have HH := Lib.hid (fun (W : World) (hb : Below w.heap.size w W) => fun D cd u a => ahead_any (L := L) A c f D cd u a W (hA.on hb) hg)
  have HZ := Lib.hid (fun (W : World) (hb : Below w.heap.size w W) => hB.on hb)
  have HF := Lib.hid hz
  have hlen : (vec f z).length = f.length := vec_length f z
  obtain ⟨N, hN⟩ : ∃ N, f.length = N := ⟨_, rfl⟩
  have HN := Lib.hid hN
  have HVL := Lib.hid (fun u => (vec_length f u).trans hN)
  rw [hN] at hlen
  have HLen := Lib.hid hlen
  have hn40 := hg.le
  rw [hN] at hn40 HC HE HH
  rw [hN]
  clear hN hlen hL hA hB hg hz
  obtain ⟨M, hM⟩ : ∃ M, z.length = M := ⟨_, rfl⟩
  have HM := Lib.hid hM
  rw [hM] at h80 HW
  rw [hM]
  clear hM
  have HB0 := Lib.hid (Below.refl w.heap.size w)
  go_enter Tryd.func44, Tryd.ntmps44
  go_wp2_with fail
  refine HC.out.mono ?_
  rintro e w2 ⟨he, hb2⟩
  obtain rfl := he.out
  have HB2 := Lib.hid hb2
  clear HC he hb2 HB0
  simp only [errV]
  go_wp2_with fail
  refine (HW.out w2 HB2.out).mono ?_
  rintro e w3 ⟨rfl, rfl⟩
  clear HW
  go_wp2_with fail
  refine (HE.out w2 HB2.out).mono ?_
  rintro e w3 he
  obtain ⟨g, rfl, ho⟩ := he.out
  have hdr : z.drop M = [] := List.drop_of_length_le (by rw [HM.out]; exact Nat.le_refl _)
  have HO : Hid (∃ g', Value.slice (some ⟨g, 0, none⟩) N N = .slice (some ⟨g', 0, none⟩) N N ∧ Own w w3 [eBools (.slice (some ⟨g, 0, none⟩) N N) (vec f (z.drop M))] []) := ⟨g, rfl, by rw [hdr]; exact ho.base HB2.out⟩
  clear HE he ho hdr HB2
  generalize Value.slice (some ⟨g, 0, none⟩) N N = v0 at *
  go_wp2
  go_loopw [10, 11] (fun v s wr => ∃ (p : Nat) (x : Int), p ≤ M ∧ s = .int .i64 x ∧ x = (p : Int) - 1 ∧ Hid (∃ g, v = .slice (some ⟨g, 0, none⟩) N N ∧ Own w wr [eBools v (vec f (z.drop p))] [])) (fun _ s _ => (intOf s + 1).toNat)
  case atStart => exact ⟨M, _, by omega, rfl, rfl, HO⟩
  case round =>
    clear HO
    obtain ⟨p, x, hp, rfl, hx, HS⟩ := hrel
    rcases p with _ | i
    · have hx0 : x < 0 := by omega
      clear hx
      obtain ⟨g, rfl, ho⟩ := HS.out
      have HR : Hid (RowIs w wr (.slice (some ⟨g, 0, none⟩) N N) (vec f z)) := ⟨g, by rw [HLen.out], ho⟩
      clear ho HS
      go_wp2
      go_ret2
      exact ⟨_, rfl, HR.out⟩
    · obtain rfl : x = (i : Int) := by omega
      clear hx
      have hlt : i < M := by omega
      obtain ⟨g, rfl, ho⟩ := HS.out
      have hbw := ho.below
      have hzl : i < z.length := by rw [HM.out]; exact hlt
      obtain ⟨adz, rfl, hadzb, hcz, _, _⟩ := (HZ.out wr hbw).at_ i hzl
      have hfa := HF.out.2.2 z[i] (List.getElem_mem hzl)
      have hl6 := HF.out.1.2
      have hbt : Df.BoolsAt wr wr.heap.size (some ⟨g, 0, none⟩) (vec f (z.drop (i + 1))) := by
        obtain ⟨A1, c1, hv1, _, _, h1⟩ := Df.own_bools ho (fv := .slice (some ⟨g, 0, none⟩) N N) (bs := vec f (z.drop (i + 1))) (by simp)
        simp only [Value.slice.injEq] at hv1
        rw [hv1.1]; exact h1
      have HA1 := Lib.hid (HH.out wr hbw (some ⟨g, 0, none⟩) N (z.drop (i + 1)) z[i] hbt hfa.1 (by omega))
      have hdr : z[i] :: z.drop (i + 1) = z.drop i := (List.drop_eq_getElem_cons hzl).symm
      rw [hdr] at HA1
      have HBW := Lib.hid hbw
      clear hdr hbt hfa hl6 ho HS hbw
      generalize z[i] = a at *
      have e1 : (i : Int) < (M : Int) := by omega
      go_wp2_with fail
      refine HA1.out.mono ?_
      rintro e w5 he
      obtain ⟨g5, rfl, ho5⟩ := he.out
      have HO : Hid (∃ g', Value.slice (some ⟨g5, 0, none⟩) N N = .slice (some ⟨g', 0, none⟩) N N ∧ Own w w5 [eBools (.slice (some ⟨g5, 0, none⟩) N N) (vec f (z.drop i))] []) := ⟨g5, rfl, ho5.base HBW.out⟩
      clear HA1 he ho5 HBW hcz
      generalize Value.slice (some ⟨g5, 0, none⟩) N N = v5 at *
      go_wp2
      go_roundw
      case rel => exact ⟨i, _, by omega, rfl, by omega, HO⟩
      case measure => first | (simp [intOf]; done) | (simp [intOf]; omega)
set_option maxRecDepth 100000 in
set_option maxHeartbeats 2000000 in
theorem holds_bad (L : Int) (A : Option Addr) (c : Nat) (f : List Nd) (B : Option Addr) (cb : Nat) (z : List Int) (w : World) (hL : Small L) (hA : NodesAt w w.heap.size A f) (hf : f.length ≤ 9223372036854775807)
    (hB : IntsAt w w.heap.size B z) (hz : z.length ≤ 17592186044416) (h : verr L f z ≠ 0) :
    Calls Tryd.prog 30 #[.int .i64 L, .slice A f.length c, .slice B z.length cb] w fun e w' => e = .returned (.tuple #[.bool false, errV (verr L f z)]) ∧ Below w.heap.size w w' := by
  have HV := Lib.hid (values_bad L A c f B cb z w hL hA hf hB hz h)
  obtain ⟨E, hE⟩ : ∃ E, E = errV (verr L f z) := ⟨_, rfl⟩
  rw [← hE] at HV
  rw [← hE]
  rw [errV_pos h] at hE
  obtain ⟨q, hq⟩ : ∃ q : Int, q = (verr L f z : Int) := ⟨_, rfl⟩
  rw [← hq] at hE
  clear h hA hB hq hL
  subst hE
  generalize f.length = N at *
  generalize z.length = M at *
  go_enter Tryd.func30, Tryd.ntmps30
  go_wp2_with fail
  refine HV.out.mono ?_
  rintro e w2 ⟨rfl, hb2⟩
  have HB2 := Lib.hid hb2
  clear HV hb2
  go_wp2
  go_ret2
  exact ⟨rfl, HB2.out⟩
/-- The value of the whole formula. -/
def fval (f : List Nd) (z : List Int) : Bool := vat f z (f.length - 1) 0
set_option maxRecDepth 100000 in
set_option maxHeartbeats 2000000 in
theorem holds_ok (L : Int) (A : Option Addr) (c : Nat) (f : List Nd) (B : Option Addr) (cb : Nat) (z : List Int) (w : World) (hL : Small L) (hA : NodesAt w w.heap.size A f)
    (hB : IntsAt w w.heap.size B z) (hg : FGood L f) (hz : Fine L z) :
    Calls Tryd.prog 30 #[.int .i64 L, .slice A f.length c, .slice B z.length cb] w fun e w' => e = .returned (.tuple #[.bool (fval f z), .nilIface]) ∧ Below w.heap.size w w' := by
  have HV := Lib.hid (values_ok L A c f B cb z w hL hA hB hg hz)
  have h0 := hg.ne
  have h40 := hg.le
  have HVk := Lib.hid (vec_at f z (k := f.length - 1) (by omega))
  have HLv := Lib.hid (vec_length f z)
  obtain ⟨b, hb⟩ : ∃ b, b = fval f z := ⟨_, rfl⟩
  rw [← hb]
  have HB := Lib.hid hb
  obtain ⟨N, hN⟩ : ∃ N, f.length = N + 1 := ⟨f.length - 1, by omega⟩
  rw [hN] at HV HVk HLv h40
  rw [hN]
  have HVb : Hid ((vec f z)[N]? = some b) := by rw [Hid, HB.out, fval, hN]; exact HVk.out
  clear hA hB hg hz hL hb h0 HVk hN HB
  generalize z.length = M at *
  go_enter Tryd.func30, Tryd.ntmps30
  go_wp2_with fail
  refine HV.out.mono ?_
  rintro e w2 he
  obtain ⟨v, rfl, g, rfl, ho⟩ := he.out
  obtain ⟨t0, _⟩ := Rc.own_bools_cell (g := g) (n := (vec f z).length) (cap := (vec f z).length) (l := vec f z) ho (by simp) rfl HVb.out
  have HB2 := Lib.hid ho.below
  clear HV he ho
  rw [HLv.out] at *
  clear HLv
  go_wp2
  go_ret2
  exact ⟨rfl, HB2.out⟩
end Go.Proofs.YtdkbdoogjehkfaaDoor.Fm

/- The walks of package mean's Values and Holds. The walks of the laws' own helpers over formulas: more, known. What laws about meanings ask: formulas with more nodes behind, the contracts of Holds by their two ways. -/
import Derived.Test.YtciopfiddfmckaaDoorMeanW
import Derived.Test.YtciopfiddfmckaaDoorFormW
import Derived.Maps.AppendAt

namespace Go.Proofs.YtciopfiddfmckaaDoor.Fm
open Go.RowKit Go.IntWalk Go.Proofs.YtciopfiddfmckaaDoor.Wd Go.Proofs.YtciopfiddfmckaaDoor.Wo

theorem errV_pos {n : Nat} (h : n ≠ 0) : errV n = .iface 67 (.int .i64 (n : Int)) := by
  rcases n with _ | m
  · exact absurd rfl h
  · rfl
/-- A row of bools that a call has made. -/
def RowIs (w w' : World) (v : Value) (l : List Bool) : Prop := ∃ g, v = .slice (some ⟨g, 0, none⟩) l.length l.length ∧ Own w w' [eBools v l] []
set_option maxRecDepth 100000 in
set_option maxHeartbeats 2000000 in
theorem values_ok (L : Int) (A : Option Addr) (c : Nat) (f : List Nd) (B : Option Addr) (cb : Nat) (z : List Int) (w : World) (hL : Small L) (hA : NodesAt w w.heap.size A f)
    (hB : IntsAt w w.heap.size B z) (hg : FGood L f) (hz : Fine L z) :
    Calls Tryd.prog 58 #[.int .i64 L, .slice A f.length c, .slice B z.length cb] w fun e w' => Hid (∃ v, e = .returned (.tuple #[v, .nilIface]) ∧ RowIs w w' v (vec f z)) := by
  have HC := fcheck_any L A c f w hL hA (by have := hg.le; omega)
  rw [fchk_iff.2 hg] at HC
  have HC := Lib.hid HC
  have h80 := hz.2.1
  have HW := Lib.hid (fun (W : World) (hb : Below w.heap.size w W) => check_ok L B cb z W hL (hB.on hb) (by omega) (chk_iff.2 hz))
  have HE := Lib.hid (fun (W : World) (hb : Below w.heap.size w W) => end_any A c f W (hA.on hb) hg)
  have HH := Lib.hid (fun (W : World) (hb : Below w.heap.size w W) => fun D cd u a => ahead_any (L := L) A c f D cd u a W (hA.on hb) hg)
  have HZ := Lib.hid (fun (W : World) (hb : Below w.heap.size w W) => hB.on hb)
  have HF := Lib.hid hz
  have hlen : (vec f z).length = f.length := vec_length f z
  obtain ⟨N, hN⟩ : ∃ N, f.length = N := ⟨_, rfl⟩
  have HN := Lib.hid hN
  have HVL := Lib.hid (fun u => (vec_length f u).trans hN)
  rw [hN] at hlen
  have HLen := Lib.hid hlen
  have hn40 := hg.le
  rw [hN] at hn40 HC HE HH
  rw [hN]
  clear hN hlen hL hA hB hg hz
  obtain ⟨M, hM⟩ : ∃ M, z.length = M := ⟨_, rfl⟩
  have HM := Lib.hid hM
  rw [hM] at h80 HW
  rw [hM]
  clear hM
  have HB0 := Lib.hid (Below.refl w.heap.size w)
  go_enter Tryd.func58, Tryd.ntmps58
  go_wp2_with fail
  refine HC.out.mono ?_
  rintro e w2 ⟨he, hb2⟩
  obtain rfl := he.out
  have HB2 := Lib.hid hb2
  clear HC he hb2 HB0
  simp only [errV]
  go_wp2_with fail
  refine (HW.out w2 HB2.out).mono ?_
  rintro e w3 ⟨rfl, rfl⟩
  clear HW
  go_wp2_with fail
  refine (HE.out w2 HB2.out).mono ?_
  rintro e w3 he
  obtain ⟨g, rfl, ho⟩ := he.out
  have hdr : z.drop M = [] := List.drop_of_length_le (by rw [HM.out]; exact Nat.le_refl _)
  have HO : Hid (∃ g', Value.slice (some ⟨g, 0, none⟩) N N = .slice (some ⟨g', 0, none⟩) N N ∧ Own w w3 [eBools (.slice (some ⟨g, 0, none⟩) N N) (vec f (z.drop M))] []) := ⟨g, rfl, by rw [hdr]; exact ho.base HB2.out⟩
  clear HE he ho hdr HB2
  generalize Value.slice (some ⟨g, 0, none⟩) N N = v0 at *
  go_wp2
  go_loopw [10, 11] (fun v s wr => ∃ (p : Nat) (x : Int), p ≤ M ∧ s = .int .i64 x ∧ x = (p : Int) - 1 ∧ Hid (∃ g, v = .slice (some ⟨g, 0, none⟩) N N ∧ Own w wr [eBools v (vec f (z.drop p))] [])) (fun _ s _ => (intOf s + 1).toNat)
  case atStart => exact ⟨M, _, by omega, rfl, rfl, HO⟩
  case round =>
    clear HO
    obtain ⟨p, x, hp, rfl, hx, HS⟩ := hrel
    rcases p with _ | i
    · have hx0 : x < 0 := by omega
      clear hx
      obtain ⟨g, rfl, ho⟩ := HS.out
      have HR : Hid (RowIs w wr (.slice (some ⟨g, 0, none⟩) N N) (vec f z)) := ⟨g, by rw [HLen.out], ho⟩
      clear ho HS
      go_wp2
      go_ret2
      exact ⟨_, rfl, HR.out⟩
    · obtain rfl : x = (i : Int) := by omega
      clear hx
      have hlt : i < M := by omega
      obtain ⟨g, rfl, ho⟩ := HS.out
      have hbw := ho.below
      have hzl : i < z.length := by rw [HM.out]; exact hlt
      obtain ⟨adz, rfl, hadzb, hcz, _, _⟩ := (HZ.out wr hbw).at_ i hzl
      have hfa := HF.out.2.2 z[i] (List.getElem_mem hzl)
      have hl6 := HF.out.1.2
      have hbt : Df.BoolsAt wr wr.heap.size (some ⟨g, 0, none⟩) (vec f (z.drop (i + 1))) := by
        obtain ⟨A1, c1, hv1, _, _, h1⟩ := Df.own_bools ho (fv := .slice (some ⟨g, 0, none⟩) N N) (bs := vec f (z.drop (i + 1))) (by simp)
        simp only [Value.slice.injEq] at hv1
        rw [hv1.1]; exact h1
      have HA1 := Lib.hid (HH.out wr hbw (some ⟨g, 0, none⟩) N (z.drop (i + 1)) z[i] hbt hfa.1 (by omega))
      have hdr : z[i] :: z.drop (i + 1) = z.drop i := (List.drop_eq_getElem_cons hzl).symm
      rw [hdr] at HA1
      have HBW := Lib.hid hbw
      clear hdr hbt hfa hl6 ho HS hbw
      generalize z[i] = a at *
      have e1 : (i : Int) < (M : Int) := by omega
      go_wp2_with fail
      refine HA1.out.mono ?_
      rintro e w5 he
      obtain ⟨g5, rfl, ho5⟩ := he.out
      have HO : Hid (∃ g', Value.slice (some ⟨g5, 0, none⟩) N N = .slice (some ⟨g', 0, none⟩) N N ∧ Own w w5 [eBools (.slice (some ⟨g5, 0, none⟩) N N) (vec f (z.drop i))] []) := ⟨g5, rfl, ho5.base HBW.out⟩
      clear HA1 he ho5 HBW hcz
      generalize Value.slice (some ⟨g5, 0, none⟩) N N = v5 at *
      go_wp2
      go_roundw
      case rel => exact ⟨i, _, by omega, rfl, by omega, HO⟩
      case measure => first | (simp [intOf]; done) | (simp [intOf]; omega)
/-- The value of the whole formula. -/
def fval (f : List Nd) (z : List Int) : Bool := vat f z (f.length - 1) 0
set_option maxRecDepth 100000 in
set_option maxHeartbeats 2000000 in
theorem holds_ok (L : Int) (A : Option Addr) (c : Nat) (f : List Nd) (B : Option Addr) (cb : Nat) (z : List Int) (w : World) (hL : Small L) (hA : NodesAt w w.heap.size A f)
    (hB : IntsAt w w.heap.size B z) (hg : FGood L f) (hz : Fine L z) :
    Calls Tryd.prog 42 #[.int .i64 L, .slice A f.length c, .slice B z.length cb] w fun e w' => e = .returned (.tuple #[.bool (fval f z), .nilIface]) ∧ Below w.heap.size w w' := by
  have HV := Lib.hid (values_ok L A c f B cb z w hL hA hB hg hz)
  have h0 := hg.ne
  have h40 := hg.le
  have HVk := Lib.hid (vec_at f z (k := f.length - 1) (by omega))
  have HLv := Lib.hid (vec_length f z)
  obtain ⟨b, hb⟩ : ∃ b, b = fval f z := ⟨_, rfl⟩
  rw [← hb]
  have HB := Lib.hid hb
  obtain ⟨N, hN⟩ : ∃ N, f.length = N + 1 := ⟨f.length - 1, by omega⟩
  rw [hN] at HV HVk HLv h40
  rw [hN]
  have HVb : Hid ((vec f z)[N]? = some b) := by rw [Hid, HB.out, fval, hN]; exact HVk.out
  clear hA hB hg hz hL hb h0 HVk hN HB
  generalize z.length = M at *
  go_enter Tryd.func42, Tryd.ntmps42
  go_wp2_with fail
  refine HV.out.mono ?_
  rintro e w2 he
  obtain ⟨v, rfl, g, rfl, ho⟩ := he.out
  obtain ⟨t0, _⟩ := Rc.own_bools_cell (g := g) (n := (vec f z).length) (cap := (vec f z).length) (l := vec f z) ho (by simp) rfl HVb.out
  have HB2 := Lib.hid ho.below
  clear HV he ho
  rw [HLv.out] at *
  clear HLv
  go_wp2
  go_ret2
  exact ⟨rfl, HB2.out⟩
end Go.Proofs.YtciopfiddfmckaaDoor.Fm

namespace Go.Proofs.YtciopfiddfmckaaDoor.Fm
open Go.RowKit Go.IntWalk Go.Proofs.YtciopfiddfmckaaDoor.Wd Go.Proofs.YtciopfiddfmckaaDoor.Wo

/-- A literal of nodes. -/
theorem lit_nodes (w : World) (l : List Nd) (t : TypeId) (hl : ∀ m ∈ l, NdSmall m) (cs : Array Value) (hc : cs.toList = ncells l) : NodesAt (w.alloc (.cells cs t)) (w.alloc (.cells cs t)).heap.size (some ⟨w.heap.size, 0, none⟩) l := by
  refine ⟨fun k u hk => ⟨_, rfl, by simp, ?_⟩, hl⟩
  have e : ((⟨w.heap.size, 0, none⟩ : Addr).add k) = ⟨w.heap.size, k, none⟩ := by simp [Addr.add]; intro h; exact h.symm
  rw [e, box_at]
  rw [← hc] at hk
  simpa using hk
/-- A literal of ints. -/
theorem lit_ints (w : World) (l : List Int) (t : TypeId) (hl : ∀ x ∈ l, Small x) (cs : Array Value) (hc : cs.toList = l.map i64) : IntsAt (w.alloc (.cells cs t)) (w.alloc (.cells cs t)).heap.size (some ⟨w.heap.size, 0, none⟩) l := by
  refine ⟨fun k u hk => ⟨_, rfl, by simp, ?_⟩, hl⟩
  have e : ((⟨w.heap.size, 0, none⟩ : Addr).add k) = ⟨w.heap.size, k, none⟩ := by simp [Addr.add]; intro h; exact h.symm
  rw [e, box_at]
  rw [← hc] at hk
  simpa using hk

/-! ### a closed fact -/
end Go.Proofs.YtciopfiddfmckaaDoor.Fm

namespace Go.Proofs.YtciopfiddfmckaaDoor.Fm
open Go.RowKit Go.IntWalk Go.Proofs.YtciopfiddfmckaaDoor.Wd Go.Proofs.YtciopfiddfmckaaDoor.Wo

/-! ### one node more -/
/-! ### contracts -/
theorem nds_small {L : Int} {f : List Nd} (g : FGood L f) : ∀ m ∈ f, NdSmall m := by
  intro m hm
  obtain ⟨i, hi⟩ := List.getElem?_of_mem hm
  have := (List.getElem?_eq_some_iff.1 hi).1
  exact good_small g.l6 (by have := g.le; omega) (g.nd i m hi)
end Go.Proofs.YtciopfiddfmckaaDoor.Fm

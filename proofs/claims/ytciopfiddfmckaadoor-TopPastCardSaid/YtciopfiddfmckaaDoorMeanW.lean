/- The walks of package mean: joined, end, ahead. The walk of package mean's ahead. -/
import Derived.Test.YtciopfiddfmckaaDoorFormM
import Derived.Test.YtciopfiddfmckaaDoorNodes
import Derived.Test.YtciopfiddfmckaaDoorWordW
import Derived.Test.YtciopfiddfmckaaDoorBoolT
import Derived.Handy

namespace Go.Proofs.YtciopfiddfmckaaDoor.Fm
open Go.RowKit Go.IntWalk Go.Proofs.YtciopfiddfmckaaDoor.Wd Go.Proofs.YtciopfiddfmckaaDoor.Wo

theorem getD_at {l : List Bool} {i : Nat} {b : Bool} (h : l[i]? = some b) : l.getD i false = b := by rw [List.getD_eq_getElem?_getD, h]; rfl
theorem nat_of {x : Int} {n : Nat} (h : 0 ≤ x ∧ x < (n : Int)) : ∃ i : Nat, x = (i : Int) ∧ i < n := ⟨x.toNat, by omega, by omega⟩
theorem some_at {l : List Bool} {i : Nat} (h : i < l.length) : ∃ b, l[i]? = some b := ⟨_, List.getElem?_eq_getElem h⟩
set_option maxRecDepth 100000 in
set_option maxHeartbeats 2000000 in
theorem joined_any (n : Nd) (B : Option Addr) (c : Nat) (l : List Bool) (w : World) (hB : Df.BoolsAt w w.heap.size B l)
    (ha : n.1 = 3 ∨ n.1 = 4 ∨ n.1 = 5 → 0 ≤ n.2.1 ∧ n.2.1 < (l.length : Int)) (hb : n.1 = 4 ∨ n.1 = 5 → 0 ≤ n.2.2 ∧ n.2.2 < (l.length : Int)) :
    Calls Tryd.prog 78 #[.agg #[.int .i64 n.1, .int .i64 n.2.1, .int .i64 n.2.2], .slice B l.length c] w fun e w' => Hid (e = .returned (.bool (joinV n l))) ∧ Below w.heap.size w w' := by
  obtain ⟨k, x, y⟩ := n
  show Calls _ _ #[.agg #[.int .i64 k, .int .i64 x, .int .i64 y], _] _ _
  simp only at ha hb
  obtain ⟨R, hR⟩ : ∃ R, R = joinV (k, x, y) l := ⟨_, rfl⟩
  rw [← hR]
  have HR := Lib.hid hR
  have HB := Lib.hid (hB.on (bel_alloc w (.cells #[.int .i64 k, .int .i64 x, .int .i64 y] 51)))
  have HBl := Lib.hid (bel_alloc w (.cells #[.int .i64 k, .int .i64 x, .int .i64 y] 51))
  clear hB hR
  by_cases k0 : k = 0
  · subst k0
    obtain rfl : R = true := HR.out
    go_enter Tryd.func78, Tryd.ntmps78
    go_wp2
    go_ret
    exact ⟨rfl, HBl.out⟩
  by_cases k3 : k = 3
  · subst k3
    obtain ⟨i, rfl, hi⟩ := nat_of (ha (.inl rfl))
    obtain ⟨b, hb1⟩ := some_at hi
    obtain ⟨ad, rfl, hadb, hcell, _⟩ := HB.out.at_ hb1
    obtain rfl : R = !b := by rw [HR.out]; show (!l.getD i false) = _; rw [getD_at hb1]
    have e1 : (i : Int) < (l.length : Int) := by omega
    clear hb1 ha hb
    go_enter Tryd.func78, Tryd.ntmps78
    go_wp2
    go_ret
    exact ⟨rfl, HBl.out⟩
  have q0 : (k == 0) = false := beq_eq_false_iff_ne.2 k0
  have q3 : (k == 3) = false := beq_eq_false_iff_ne.2 k3
  by_cases k4 : k = 4
  · subst k4
    obtain ⟨i, rfl, hi⟩ := nat_of (ha (.inr (.inl rfl)))
    obtain ⟨j, rfl, hj⟩ := nat_of (hb (.inl rfl))
    obtain ⟨b, hb1⟩ := some_at hi
    obtain ⟨d, hd1⟩ := some_at hj
    obtain ⟨ad, rfl, hadb, hcell, _⟩ := HB.out.at_ hb1
    obtain ⟨ad2, he2, _, hcell2, _⟩ := HB.out.at_ hd1
    obtain rfl := Option.some.inj he2
    have hR : R = (b && d) := by rw [HR.out]; show (l.getD i false && l.getD j false) = _; rw [getD_at hb1, getD_at hd1]
    have e1 : (i : Int) < (l.length : Int) := by omega
    have e2 : (j : Int) < (l.length : Int) := by omega
    clear hb1 hd1 ha hb he2 q0 q3
    rcases b with _ | _
    · obtain rfl : R = false := hR
      go_enter Tryd.func78, Tryd.ntmps78
      go_wp2
      go_ret
      exact ⟨rfl, HBl.out⟩
    · obtain rfl : R = d := by rw [hR, Bool.true_and]
      clear hR
      go_enter Tryd.func78, Tryd.ntmps78
      go_wp2
      go_ret
      exact ⟨rfl, HBl.out⟩
  have q4 : (k == 4) = false := beq_eq_false_iff_ne.2 k4
  by_cases k5 : k = 5
  · subst k5
    obtain ⟨i, rfl, hi⟩ := nat_of (ha (.inr (.inr rfl)))
    obtain ⟨j, rfl, hj⟩ := nat_of (hb (.inr rfl))
    obtain ⟨b, hb1⟩ := some_at hi
    obtain ⟨d, hd1⟩ := some_at hj
    obtain ⟨ad, rfl, hadb, hcell, _⟩ := HB.out.at_ hb1
    obtain ⟨ad2, he2, _, hcell2, _⟩ := HB.out.at_ hd1
    obtain rfl := Option.some.inj he2
    have hR : R = (b || d) := by rw [HR.out]; show (l.getD i false || l.getD j false) = _; rw [getD_at hb1, getD_at hd1]
    have e1 : (i : Int) < (l.length : Int) := by omega
    have e2 : (j : Int) < (l.length : Int) := by omega
    clear hb1 hd1 ha hb he2 q0 q3 q4
    rcases b with _ | _
    · obtain rfl : R = d := by rw [hR, Bool.false_or]
      clear hR
      go_enter Tryd.func78, Tryd.ntmps78
      go_wp2
      go_ret
      exact ⟨rfl, HBl.out⟩
    · obtain rfl : R = true := by rw [hR, Bool.true_or]
      clear hR
      go_enter Tryd.func78, Tryd.ntmps78
      go_wp2
      go_ret
      exact ⟨rfl, HBl.out⟩
  have q5 : (k == 5) = false := beq_eq_false_iff_ne.2 k5
  obtain rfl : R = false := by rw [HR.out]; unfold joinV; rw [if_neg k0, if_neg k3, if_neg k4, if_neg k5]
  clear ha hb
  go_enter Tryd.func78, Tryd.ntmps78
  go_wp2
  go_ret
  exact ⟨rfl, HBl.out⟩

def rowB (g n : Nat) : Value := .slice (some ⟨g, 0, none⟩) n n
/-- A row under way. -/
def Mid (w wr : World) (g : Nat) (V : List Bool) (k : Nat) : Prop := Own w wr [eBools (rowB g V.length) (mid V k)] []
theorem Mid.start {w wr : World} {g : Nat} {V : List Bool} {n : Nat} (hn : V.length = n) (h : Own w wr [eBools (.slice (some ⟨g, 0, none⟩) n n) (List.replicate n false)] []) : Mid w wr g V 0 := by
  unfold Mid rowB; rw [mid_zero, hn]; exact h
theorem Mid.on {w wr wr' : World} {g : Nat} {V : List Bool} {k : Nat} (h : Mid w wr g V k) (hb : Below wr.heap.size wr wr') : Mid w wr' g V k := Own.on h hb
theorem Mid.cell {w wr : World} {g : Nat} {V : List Bool} {k n : Nat} (h : Mid w wr g V k) (hn : V.length = n) (hk : k < n) : wr.cell? ⟨g, k, none⟩ = some (.bool false) ∧ wr.frozen? ⟨g, k, none⟩ = false := by
  refine Rc.own_bools_cell (g := g) (n := V.length) (cap := V.length) (l := mid V k) h (by unfold rowB; simp) (mid_length (by omega)) (mid_at (by omega))
theorem Mid.set {w wr : World} {g : Nat} {V : List Bool} {k : Nat} {b : Bool} (h : Mid w wr g V k) (hb : V[k]? = some b) : Mid w (wr.setCell ⟨g, k, none⟩ (.bool b)) g V (k + 1) := by
  have hk := (List.getElem?_eq_some_iff.1 hb).1
  have := Rc.own_bools_set (g := g) (n := V.length) (cap := V.length) (l := mid V k) h (mid_length (by omega)) k b
  rw [mid_set hb] at this
  exact this
theorem Mid.at_ {w wr : World} {g : Nat} {V : List Bool} {k : Nat} (h : Mid w wr g V k) : Df.BoolsAt wr wr.heap.size (some ⟨g, 0, none⟩) (mid V k) := by
  have hm : eBools (rowB g V.length) (mid V k) ∈ [eBools (rowB g V.length) (mid V k)] ++ ([] : List Ent) := by simp
  obtain ⟨A, cap, hv, _, _, hB⟩ := Df.own_bools h hm
  simp only [rowB, Value.slice.injEq] at hv
  rw [hv.1]; exact hB
theorem Mid.val {w wr : World} {g : Nat} {V : List Bool} {k i : Nat} {b : Bool} (h : Mid w wr g V k) (hk : k ≤ V.length) (hi : i < k) (hb : V[i]? = some b) : wr.cell? ⟨g, i, none⟩ = some (.bool b) := by
  exact (Rc.own_bools_cell (g := g) (n := V.length) (cap := V.length) (l := mid V k) h (by unfold rowB; simp) (mid_length hk) (by rw [mid_get hi hk]; exact hb)).1
theorem Mid.done {w wr : World} {g : Nat} {V : List Bool} {n : Nat} (h : Mid w wr g V n) (hn : V.length = n) : Own w wr [eBools (.slice (some ⟨g, 0, none⟩) n n) V] [] := by
  subst hn
  have := h
  unfold Mid at this
  rw [mid_all] at this
  exact this
theorem kinds {k : Int} (h0 : 0 ≤ k) (h9 : k ≤ 9) : (k = 0 ∨ k = 1 ∨ k = 3 ∨ k = 4 ∨ k = 5) ∨ k = 2 ∨ k = 6 ∨ k = 7 ∨ k = 8 ∨ k = 9 := by omega
set_option maxRecDepth 100000 in
set_option maxHeartbeats 4000000 in
theorem end_any {L : Int} (A : Option Addr) (c : Nat) (f : List Nd) (w : World) (hA : NodesAt w w.heap.size A f) (hg : FGood L f) :
    Calls Tryd.prog 65 #[.slice A f.length c] w fun e w' => Hid (∃ g, e = .returned (.slice (some ⟨g, 0, none⟩) f.length f.length) ∧ Own w w' [eBools (.slice (some ⟨g, 0, none⟩) f.length f.length) (vec f [])] []) := by
  have hn40 := hg.le
  have HG := Lib.hid hg
  have HA := Lib.hid (fun wr g V k (h : Mid w wr g V k) => hA.on h.below)
  obtain ⟨V, hV⟩ : ∃ V, V = vec f [] := ⟨_, rfl⟩
  rw [← hV]
  have HL : Hid (V.length = f.length) := by unfold Hid; rw [hV, vec_length]
  have HV := Lib.hid hV
  clear hV hA hg
  obtain ⟨N, hN⟩ : ∃ N, f.length = N := ⟨_, rfl⟩
  have HN := Lib.hid hN
  have HLN : Hid (V.length = N) := by unfold Hid; rw [HL.out, HN.out]
  rw [hN] at hn40
  rw [hN]
  clear hN HL
  go_enter Tryd.func65, Tryd.ntmps65
  go_wp2_with (at_make; refine Rc.mk_bools rfl _ _ rfl N rfl rfl (by omega) ?_)
  intro w1 ho
  have HM0 := Lib.hid (Mid.start HLN.out ho)
  clear ho
  generalize w.heap.size = gw at *
  go_wp2
  go_loopw [11] (fun i wr => ∃ (k : Nat), k ≤ N ∧ i = .int .i64 k ∧ Hid (Mid w wr gw V k)) (fun i _ => N - (intOf i).toNat)
  case atStart => exact ⟨0, by omega, rfl, HM0⟩
  case round =>
    clear HM0
    obtain ⟨k, hk, rfl, HM⟩ := hrel
    by_cases hlt : k < N
    · obtain ⟨n, hn⟩ : ∃ n, f[k]? = some n := ⟨_, List.getElem?_eq_getElem (by rw [HN.out]; exact hlt)⟩
      obtain ⟨ad, e, hadb, c0, c1, c2⟩ := (HA.out _ _ _ _ HM.out).at_ hn
      subst e
      have HE := Lib.hid (nodeE_ok HG.out.nd hn (mid_vec f [] (by have := HN.out; omega)))
      have gd := HG.out.nd k n hn
      have hk0 := gd.k0
      have hk9 := gd.k9
      have ha1 := gd.a1
      have hb2 := gd.b2
      obtain ⟨x, y, z⟩ := n
      simp only at hk0 hk9 ha1 hb2
      have HVk : Hid (V[k]? = some (nodeE (x, y, z) (mid V k))) := by
        unfold Hid
        have := HE.out
        rw [← HV.out] at this
        rw [this, HV.out]; exact vec_at f [] (by rw [HN.out]; exact hlt)
      have HM1 := Lib.hid (HM.out.on (bel_alloc wr (.cells #[.int .i64 x, .int .i64 y, .int .i64 z] 51)))
      obtain ⟨t0, t1⟩ := HM1.out.cell HLN.out hlt
      have HS := Lib.hid (HM1.out.set HVk.out)
      have e1 : (k : Int) < (N : Int) := by omega
      simp only at c0 c1 c2
      clear hn gd HE HM
      rcases kinds hk0 hk9 with hj | rfl | rfl | rfl | rfl | rfl
      · have q2 : (x == 2) = false := beq_eq_false_iff_ne.2 (by omega)
        have q6 : (x == 6) = false := beq_eq_false_iff_ne.2 (by omega)
        have q7 : (x == 7) = false := beq_eq_false_iff_ne.2 (by omega)
        have q8 : (x == 8) = false := beq_eq_false_iff_ne.2 (by omega)
        have q9 : (x == 9) = false := beq_eq_false_iff_ne.2 (by omega)
        have eJ : nodeE (x, y, z) (mid V k) = joinV (x, y, z) (mid V k) := by unfold nodeE; rw [if_neg (by simp only; omega), if_neg (by simp only; omega)]
        rw [eJ] at HS
        have hml := mid_length (l := V) (k := k) (by have := HLN.out; omega)
        have HJ := joined_any (x, y, z) (some ⟨gw, 0, none⟩) N (mid V k) (wr.alloc (.cells #[.int .i64 x, .int .i64 y, .int .i64 z] 51)) HM1.out.at_
          (fun h => by
            have := ha1 (by rcases h with h | h | h <;> rw [show x = _ from h] <;> decide)
            rw [hml, HLN.out]; exact ⟨this.1, show y < (N : Int) by omega⟩)
          (fun h => by
            have := hb2 (by rcases h with h | h <;> rw [show x = _ from h] <;> decide)
            rw [hml, HLN.out]; exact ⟨this.1, show z < (N : Int) by omega⟩)
        rw [hml, HLN.out] at HJ
        have HJ := Lib.hid HJ
        have HVj : Hid (V[k]? = some (joinV (x, y, z) (mid V k))) := by rw [Hid, ← eJ]; exact HVk.out
        generalize joinV (x, y, z) (mid V k) = b at *
        clear HS hml eJ ha1 hb2 HVk t0 t1
        obtain ⟨W1, hW1⟩ : ∃ W1, W1 = wr.alloc (.cells #[.int .i64 x, .int .i64 y, .int .i64 z] 51) := ⟨_, rfl⟩
        have HW1 := Lib.hid hW1
        rw [← hW1] at HJ HM1
        clear hW1
        go_wp2_with fail
        rw [← HW1.out]
        refine HJ.out.mono ?_
        rintro e w4 ⟨he, hb4⟩
        obtain rfl := he.out
        have HM4 := HM1.out.on hb4
        obtain ⟨t0, t1⟩ := HM4.cell HLN.out hlt
        have HS := Lib.hid (HM4.set HVj.out)
        clear HJ he hb4 HM4 c0 c1 c2
        go_wp2
        go_roundw
        case rel => exact ⟨k + 1, by omega, by go_num, HS⟩
        case measure => simp [intOf]; omega
      all_goals
        change Hid (Mid w (World.setCell (wr.alloc (.cells _ _)) ⟨gw, k, none⟩ (.bool _)) gw V (k + 1)) at HS
        clear HVk ha1 hb2 HM1
        go_wp2
        go_roundw
        case rel => exact ⟨k + 1, by omega, by go_num, HS⟩
        case measure => simp [intOf]; omega
    · obtain rfl : k = N := by omega
      have HD := Lib.hid (HM.out.done HLN.out)
      go_wp2
      go_ret
      exact ⟨_, rfl, HD.out⟩
end Go.Proofs.YtciopfiddfmckaaDoor.Fm

namespace Go.Proofs.YtciopfiddfmckaaDoor.Fm
open Go.RowKit Go.IntWalk Go.Proofs.YtciopfiddfmckaaDoor.Wd Go.Proofs.YtciopfiddfmckaaDoor.Wo

theorem has_test (y a : Int) : has y a = y.toNat.testBit a.toNat := by
  unfold has
  rw [Nat.testBit_eq_decide_div_mod_eq]
  rfl
theorem Mid.get {w wr : World} {g : Nat} {V : List Bool} {k i : Nat} {b : Bool} (h : Mid w wr g V k) (hk : k ≤ V.length) (hb : (mid V k)[i]? = some b) : wr.cell? ⟨g, i, none⟩ = some (.bool b) :=
  (Rc.own_bools_cell (g := g) (n := V.length) (cap := V.length) (l := mid V k) h (by unfold rowB; simp) (mid_length hk) hb).1
set_option maxRecDepth 100000 in
set_option maxHeartbeats 4000000 in
theorem nah_any {L : Int} (A : Option Addr) (c : Nat) (f : List Nd) (B : Option Addr) (cb : Nat) (T : List Bool) (a : Int) (w : World) (hA : NodesAt w w.heap.size A f) (hg : FGood L f) (hT : T.length = f.length) (hB : Df.BoolsAt w w.heap.size B T) (ha0 : 0 ≤ a) (ha6 : a ≤ 6) :
    Calls Tryd.prog 63 #[.slice A f.length c, .slice B f.length cb, .int .i64 a] w fun e w' => Hid (∃ g, e = .returned (.slice (some ⟨g, 0, none⟩) f.length f.length) ∧ Own w w' [eBools (.slice (some ⟨g, 0, none⟩) f.length f.length) (nxt f T a)] []) := by
  have hn40 := hg.le
  have HG := Lib.hid hg
  have HA := Lib.hid (fun wr g V k (h : Mid w wr g V k) => hA.on h.below)
  have HT := Lib.hid (fun wr g V k (h : Mid w wr g V k) => hB.on h.below)
  have HK := Lib.hid (fun (k : Nat) (n : Nd) (hn : f[k]? = some n) => nxt_at hg.nd T a hn (l := mid (nxt f T a) k) fun i hi => mid_getD hi (by rw [nxt_length]; have := (List.getElem?_eq_some_iff.1 hn).1; omega))
  obtain ⟨V, hV⟩ : ∃ V, V = nxt f T a := ⟨_, rfl⟩
  rw [← hV] at HK
  rw [← hV]
  have HL : Hid (V.length = f.length) := by unfold Hid; rw [hV, nxt_length]
  have HTl : Hid (T.length = f.length) := hT
  clear hV hA hg hB hT
  obtain ⟨N, hN⟩ : ∃ N, f.length = N := ⟨_, rfl⟩
  have HN := Lib.hid hN
  have HLN : Hid (V.length = N) := by unfold Hid; rw [HL.out, HN.out]
  have HTN : Hid (T.length = N) := by unfold Hid; rw [HTl.out, HN.out]
  rw [hN] at hn40
  rw [hN]
  clear hN HL HTl
  go_enter Tryd.func63, Tryd.ntmps63
  go_wp2_with (at_make; refine Rc.mk_bools rfl _ _ rfl N rfl rfl (by omega) ?_)
  intro w1 ho
  have HM0 := Lib.hid (Mid.start HLN.out ho)
  clear ho
  generalize w.heap.size = gw at *
  go_wp2
  go_loopw [15] (fun i wr => ∃ (k : Nat), k ≤ N ∧ i = .int .i64 k ∧ Hid (Mid w wr gw V k)) (fun i _ => N - (intOf i).toNat)
  case atStart => exact ⟨0, by omega, rfl, HM0⟩
  case round =>
    clear HM0
    obtain ⟨k, hk, rfl, HM⟩ := hrel
    by_cases hlt : k < N
    · obtain ⟨n, hn⟩ : ∃ n, f[k]? = some n := ⟨_, List.getElem?_eq_getElem (by rw [HN.out]; exact hlt)⟩
      obtain ⟨ad, e, hadb, c0, c1, c2⟩ := (HA.out _ _ _ _ HM.out).at_ hn
      subst e
      have HE := Lib.hid (HK.out k n hn)
      have gd := HG.out.nd k n hn
      have hk0 := gd.k0
      have hk9 := gd.k9
      have hst := gd.set
      have ha1 := gd.a1
      have hb2 := gd.b2
      obtain ⟨x, y, z⟩ := n
      simp only at hk0 hk9 hst ha1 hb2
      have HVk : Hid (V[k]? = some (nodeK (x, y, z) a k (mid V k) T)) := HE.out
      have hml := mid_length (l := V) (k := k) (by have := HLN.out; omega)
      rw [HLN.out] at hml
      have HM1 := Lib.hid (HM.out.on (bel_alloc wr (.cells #[.int .i64 x, .int .i64 y, .int .i64 z] 51)))
      obtain ⟨t0, t1⟩ := HM1.out.cell HLN.out hlt
      have HS := Lib.hid (HM1.out.set HVk.out)
      have HTw := Lib.hid (HT.out _ _ _ _ HM1.out)
      have e1 : (k : Int) < (N : Int) := by omega
      simp only at c0 c1 c2
      clear hn gd HE HM
      rcases kinds hk0 hk9 with hj | rfl | rfl | rfl | rfl | rfl
      · have q2 : (x == 2) = false := beq_eq_false_iff_ne.2 (by omega)
        have q6 : (x == 6) = false := beq_eq_false_iff_ne.2 (by omega)
        have q7 : (x == 7) = false := beq_eq_false_iff_ne.2 (by omega)
        have q8 : (x == 8) = false := beq_eq_false_iff_ne.2 (by omega)
        have q9 : (x == 9) = false := beq_eq_false_iff_ne.2 (by omega)
        have eJ : nodeK (x, y, z) a k (mid V k) T = joinV (x, y, z) (mid V k) := by
          rcases hj with rfl | rfl | rfl | rfl | rfl <;> rfl
        have HJ := joined_any (x, y, z) (some ⟨gw, 0, none⟩) N (mid V k) (wr.alloc (.cells #[.int .i64 x, .int .i64 y, .int .i64 z] 51)) HM1.out.at_
          (fun h => by
            have := ha1 (by rcases h with h | h | h <;> rw [show x = _ from h] <;> decide)
            rw [hml]; exact ⟨this.1, show y < (N : Int) by omega⟩)
          (fun h => by
            have := hb2 (by rcases h with h | h <;> rw [show x = _ from h] <;> decide)
            rw [hml]; exact ⟨this.1, show z < (N : Int) by omega⟩)
        rw [hml] at HJ
        have HJ := Lib.hid HJ
        have HVj : Hid (V[k]? = some (joinV (x, y, z) (mid V k))) := by rw [Hid, ← eJ]; exact HVk.out
        generalize joinV (x, y, z) (mid V k) = b at *
        clear HS hml eJ ha1 hb2 HVk t0 t1 HTw hst
        obtain ⟨W1, hW1⟩ : ∃ W1, W1 = wr.alloc (.cells #[.int .i64 x, .int .i64 y, .int .i64 z] 51) := ⟨_, rfl⟩
        have HW1 := Lib.hid hW1
        rw [← hW1] at HJ HM1
        clear hW1
        go_wp2_with fail
        rw [← HW1.out]
        refine HJ.out.mono ?_
        rintro e w4 ⟨he, hb4⟩
        obtain rfl := he.out
        have HM4 := HM1.out.on hb4
        obtain ⟨t0, t1⟩ := HM4.cell HLN.out hlt
        have HS := Lib.hid (HM4.set HVj.out)
        clear HJ he hb4 HM4 c0 c1 c2
        go_wp2
        go_roundw
        case rel => exact ⟨k + 1, by omega, by go_num, HS⟩
        case measure => simp [intOf]; omega
      · have hy := (hst rfl).1
        have hbit := bit_has (s := y) (a := a) hy
        change Hid (Mid w (World.setCell (wr.alloc (.cells _ _)) ⟨gw, k, none⟩ (.bool (y.toNat.testBit a.toNat))) gw V (k + 1)) at HS
        rw [← has_test] at HS
        generalize has y a = b at *
        clear HVk ha1 hb2 HM1 HTw hst hml
        go_wp2
        go_roundw
        case rel => exact ⟨k + 1, by omega, by go_num, HS⟩
        case measure => simp [intOf]; omega
      iterate 2
        · change Hid (Mid w (World.setCell (wr.alloc (.cells _ _)) ⟨gw, k, none⟩ (.bool (T.getD y.toNat false))) gw V (k + 1)) at HS
          have hya := ha1 (by decide)
          obtain ⟨i, rfl, hi⟩ := nat_of hya
          obtain ⟨b, hb1⟩ := some_at (l := T) (i := i) (by have := HTN.out; omega)
          obtain ⟨ad2, rfl, hadb2, hcell2, _⟩ := HTw.out.at_ hb1
          rw [Int.toNat_natCast, getD_at hb1] at HS
          have e2 : (i : Int) < (N : Int) := by omega
          clear HVk ha1 hb2 HM1 HTw hst hml hb1 hya
          go_wp2
          go_roundw
          case rel => exact ⟨k + 1, by omega, by go_num, HS⟩
          case measure => simp [intOf]; omega
      · change Hid (Mid w (World.setCell (wr.alloc (.cells _ _)) ⟨gw, k, none⟩ (.bool ((mid V k).getD z.toNat false || ((mid V k).getD y.toNat false && T.getD k false)))) gw V (k + 1)) at HS
        obtain ⟨i, rfl, hi⟩ := nat_of (ha1 (by decide))
        obtain ⟨j, rfl, hj⟩ := nat_of (hb2 (by decide))
        obtain ⟨d, hd1⟩ := some_at (l := mid V k) (i := i) (by omega)
        obtain ⟨b, hb1⟩ := some_at (l := mid V k) (i := j) (by omega)
        obtain ⟨t, ht1⟩ := some_at (l := T) (i := k) (by have := HTN.out; omega)
        have n1 := HM1.out.get (by have := HLN.out; omega) hd1
        have n2 := HM1.out.get (by have := HLN.out; omega) hb1
        obtain ⟨ad2, rfl, hadb2, hcell2, _⟩ := HTw.out.at_ ht1
        rw [Int.toNat_natCast, Int.toNat_natCast, getD_at hd1, getD_at hb1, getD_at ht1] at HS
        have e2 : (i : Int) < (N : Int) := by omega
        have e3 : (j : Int) < (N : Int) := by omega
        clear HVk ha1 hb2 HM1 HTw hst hml hb1 hd1 ht1
        rcases b with _ | _
        · rw [Bool.false_or] at HS
          rcases d with _ | _
          · rw [Bool.false_and] at HS
            go_wp2
            go_roundw
            case rel => exact ⟨k + 1, by omega, by go_num, HS⟩
            case measure => simp [intOf]; omega
          · rw [Bool.true_and] at HS
            go_wp2
            go_roundw
            case rel => exact ⟨k + 1, by omega, by go_num, HS⟩
            case measure => simp [intOf]; omega
        · rw [Bool.true_or] at HS
          go_wp2
          go_roundw
          case rel => exact ⟨k + 1, by omega, by go_num, HS⟩
          case measure => simp [intOf]; omega
      · change Hid (Mid w (World.setCell (wr.alloc (.cells _ _)) ⟨gw, k, none⟩ (.bool ((mid V k).getD z.toNat false && ((mid V k).getD y.toNat false || T.getD k false)))) gw V (k + 1)) at HS
        obtain ⟨i, rfl, hi⟩ := nat_of (ha1 (by decide))
        obtain ⟨j, rfl, hj⟩ := nat_of (hb2 (by decide))
        obtain ⟨d, hd1⟩ := some_at (l := mid V k) (i := i) (by omega)
        obtain ⟨b, hb1⟩ := some_at (l := mid V k) (i := j) (by omega)
        obtain ⟨t, ht1⟩ := some_at (l := T) (i := k) (by have := HTN.out; omega)
        have n1 := HM1.out.get (by have := HLN.out; omega) hd1
        have n2 := HM1.out.get (by have := HLN.out; omega) hb1
        obtain ⟨ad2, rfl, hadb2, hcell2, _⟩ := HTw.out.at_ ht1
        rw [Int.toNat_natCast, Int.toNat_natCast, getD_at hd1, getD_at hb1, getD_at ht1] at HS
        have e2 : (i : Int) < (N : Int) := by omega
        have e3 : (j : Int) < (N : Int) := by omega
        clear HVk ha1 hb2 HM1 HTw hst hml hb1 hd1 ht1
        rcases b with _ | _
        · rw [Bool.false_and] at HS
          go_wp2
          go_roundw
          case rel => exact ⟨k + 1, by omega, by go_num, HS⟩
          case measure => simp [intOf]; omega
        · rw [Bool.true_and] at HS
          rcases d with _ | _
          · rw [Bool.false_or] at HS
            go_wp2
            go_roundw
            case rel => exact ⟨k + 1, by omega, by go_num, HS⟩
            case measure => simp [intOf]; omega
          · rw [Bool.true_or] at HS
            go_wp2
            go_roundw
            case rel => exact ⟨k + 1, by omega, by go_num, HS⟩
            case measure => simp [intOf]; omega
    · obtain rfl : k = N := by omega
      have HD := Lib.hid (HM.out.done HLN.out)
      go_wp2
      go_ret
      exact ⟨_, rfl, HD.out⟩
theorem ahead_any {L : Int} (A : Option Addr) (c : Nat) (f : List Nd) (B : Option Addr) (cb : Nat) (u : List Int) (a : Int) (w : World) (hA : NodesAt w w.heap.size A f) (hg : FGood L f) (hB : Df.BoolsAt w w.heap.size B (vec f u)) (ha0 : 0 ≤ a) (ha6 : a ≤ 6) :
    Calls Tryd.prog 63 #[.slice A f.length c, .slice B f.length cb, .int .i64 a] w fun e w' => Hid (∃ g, e = .returned (.slice (some ⟨g, 0, none⟩) f.length f.length) ∧ Own w w' [eBools (.slice (some ⟨g, 0, none⟩) f.length f.length) (vec f (a :: u))] []) := by
  have h := nah_any A c f B cb (vec f u) a w hA hg (vec_length f u) hB ha0 ha6
  rwa [vec_next hg.nd] at h
end Go.Proofs.YtciopfiddfmckaaDoor.Fm

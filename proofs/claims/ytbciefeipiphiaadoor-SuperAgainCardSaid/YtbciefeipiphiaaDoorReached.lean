/- The walks of package reach that count: leading and Count. The walks of package reach's Reached and Alive. -/
import Derived.Test.YtbciefeipiphiaaDoorDfaP
import Derived.Test.YtbciefeipiphiaaDoorReachC
import Derived.Handy
import Derived.Test.YtbciefeipiphiaaDoorFirst
import Derived.Test.YtbciefeipiphiaaDoorSort

namespace Go.Proofs.YtbciefeipiphiaaDoor.Rc
open Go.RowKit Go.IntWalk Go.Proofs.YtbciefeipiphiaaDoor.Wd Go.Proofs.YtbciefeipiphiaaDoor.Wo Go.Proofs.YtbciefeipiphiaaDoor.Df

/-- Numbers as ints. -/
def ints (l : List Nat) : List Int := l.map fun (x : Nat) => (x : Int)
theorem ints_length (l : List Nat) : (ints l).length = l.length := List.length_map _
theorem ints_get {l : List Nat} {i x : Nat} (h : l[i]? = some x) : (ints l)[i]? = some (x : Int) := by unfold ints; rw [List.getElem?_map, h]; rfl
theorem ints_set (l : List Nat) (i x : Nat) : ints (l.set i x) = (ints l).set i (x : Int) := by unfold ints; rw [List.map_set]
theorem ints_zero (n : Nat) : ints (List.replicate n 0) = List.replicate n 0 := by unfold ints; rw [List.map_replicate]; rfl
theorem get_of_lt {l : List Nat} {i : Nat} (h : i < l.length) : ∃ x, l[i]? = some x := ⟨_, List.getElem?_eq_getElem h⟩
/-- A row of n ints in block g. -/
abbrev rowV (g n : Nat) : Value := .slice (some ⟨g, 0, none⟩) n n
def LInv (w1 wr : World) (d : Aut) (N k : Nat) (pv : Value) : Prop := ∃ g l, pv = rowV g N ∧ Lead d k l ∧ Own w1 wr [eInts (rowV g N) (ints l)] []
def MInv (w1 wr : World) (d : Aut) (N : Nat) (l : List Nat) (g gm s c : Nat) : Prop := ∃ m, Push d l m s c ∧ Own w1 wr [eInts (rowV gm N) (ints m), eInts (rowV g N) (ints l)] []
theorem minv_set {w1 wr : World} {d : Aut} {N : Nat} {l m : List Nat} {g gm s c x y t : Nat} (hp : Push d l m s c) (ho : Own w1 wr [eInts (rowV gm N) (ints m), eInts (rowV g N) (ints l)] []) (hN : d.next.length = N)
    (hx : l[s]? = some x) (ht : Df.step d s c = t) (hy : m[t]? = some y) (n : Nat) : MInv w1 ((wr.drewN n).setCell ⟨gm, t, none⟩ (.int .i64 ((y : Int) + (x : Int)))) d N l g gm s (c + 1) := by
  refine ⟨_, hp.step hx ht hy, ?_⟩
  rw [ints_set]
  have h := own_ints_set (ho.drewN n) (by rw [ints_length, hp.len, hN]) t ((y + x : Nat) : Int)
  simpa using h
theorem countOut_ok {d : Aut} {n : Nat} (h : dchk d = 0) (hn : n ≤ 20) : countOut d n = (((cnt d n d.s.toNat : Nat) : Int), 0) := by
  unfold countOut; rw [if_pos h, if_pos ⟨by omega, by omega⟩]; rfl
theorem countOut_far {d : Aut} {n : Int} (h : dchk d = 0) (hn : n < 0 ∨ 20 < n) : countOut d n = (0, 1) := by
  unfold countOut; rw [if_pos h, if_neg (by omega)]
theorem countOut_bad {d : Aut} {n : Int} (h : dchk d ≠ 0) : countOut d n = (0, dchk d) := by unfold countOut; rw [if_neg h]
end Go.Proofs.YtbciefeipiphiaaDoor.Rc

namespace Go.Proofs.YtbciefeipiphiaaDoor.Rc
open Go.RowKit Go.IntWalk Go.Proofs.YtbciefeipiphiaaDoor.Wd Go.Proofs.YtbciefeipiphiaaDoor.Wo Go.Proofs.YtbciefeipiphiaaDoor.Df

/-! ### sorted lists -/
theorem sorted_eq : ∀ (l m : List Int), l.Pairwise (· ≤ ·) → m.Pairwise (· ≤ ·) → l.Perm m → l = m
  | [], m, _, _, p => p.nil_eq
  | x :: l, [], _, _, p => by have := p.length_eq; simp at this
  | x :: l, y :: m, hl, hm, p => by
    obtain ⟨hl1, hl2⟩ := List.pairwise_cons.1 hl
    obtain ⟨hm1, hm2⟩ := List.pairwise_cons.1 hm
    have e : x = y := by
      have h1 : x ∈ y :: m := p.mem_iff.1 List.mem_cons_self
      have h2 : y ∈ x :: l := p.mem_iff.2 List.mem_cons_self
      rcases List.mem_cons.1 h1 with h1 | h1
      · exact h1
      · rcases List.mem_cons.1 h2 with h2 | h2
        · exact h2.symm
        · have := hm1 x h1; have := hl1 y h2; omega
    subst e
    rw [sorted_eq l m hl2 hm2 (List.perm_cons _ |>.1 p)]
theorem srt_sorted (l : List Int) : (srt l).Pairwise (· ≤ ·) := by
  have h := List.pairwise_mergeSort (le := fun (x y : Int) => decide (x ≤ y)) (fun a b c h1 h2 => by
    have h1 := of_decide_eq_true h1; have h2 := of_decide_eq_true h2; exact decide_eq_true (by omega)) (fun a b => by
    rcases Int.le_total a b with h | h
    · rw [decide_eq_true h]; rfl
    · rw [decide_eq_true h, Bool.or_true]) l
  exact h.imp fun h => of_decide_eq_true h
theorem upto_sorted (n : Nat) (p : Nat → Bool) : (upto n p).Pairwise (· ≤ ·) := by
  unfold upto
  rw [List.pairwise_map]
  exact (List.Pairwise.filter _ List.pairwise_lt_range).imp (fun h => by omega)
theorem nodup_map_int {l : List Nat} (h : l.Nodup) : (l.map fun (t : Nat) => (t : Int)).Nodup := by
  rw [List.nodup_iff_pairwise_ne, List.pairwise_map]
  exact (List.nodup_iff_pairwise_ne.1 h).imp fun h e => h (by omega)
theorem srt_reached {d : Aut} (g : Df.Good d) : srt (ints (rset d d.s.toNat)) = upto d.next.length (isReached d d.s.toNat) := by
  refine sorted_eq _ _ (srt_sorted _) (upto_sorted _ _) ((List.mergeSort_perm _ _).trans ?_)
  have hn := (rset_whole g g.s_lt).nd
  unfold ints upto
  refine List.Perm.map _ ((List.perm_ext_iff_of_nodup hn (List.nodup_range.filter _)).2 fun t => ?_)
  rw [List.mem_filter, List.mem_range]
  constructor
  · exact fun h => ⟨rset_lt g g.s_lt h, decide_eq_true h⟩
  · exact fun h => of_decide_eq_true h.2
/-- The states of the first k that are found. -/
def stt (rs : List Fv) (k : Nat) : List Int := (rs.take k).map fun p => ((p.1.1 : Nat) : Int)
theorem stt_zero (rs : List Fv) : stt rs 0 = [] := rfl
theorem stt_succ {rs : List Fv} {k : Nat} {p : Fv} (h : rs[k]? = some p) : stt rs (k + 1) = stt rs k ++ [((p.1.1 : Nat) : Int)] := take_succ_map _ _ h
theorem stt_length {rs : List Fv} {k : Nat} (h : k ≤ rs.length) : (stt rs k).length = k := by unfold stt; rw [List.length_map, List.length_take]; omega
theorem stt_all (rs : List Fv) : stt rs rs.length = ints ((rs.map (·.1)).map (·.1)) := by unfold stt ints; rw [List.take_length, List.map_map, List.map_map]; rfl
/-- What Reached and Alive return. -/
def reachedR (d : Aut) : List Int × Nat := if dchk d = 0 then (upto d.next.length (isReached d d.s.toNat), 0) else ([], dchk d)
def aliveR (d : Aut) : List Int × Nat := if dchk d = 0 then (upto d.next.length (isAlive d), 0) else ([], dchk d)
theorem reachedR_ok {d : Aut} (h : dchk d = 0) : reachedR d = (upto d.next.length (isReached d d.s.toNat), 0) := by unfold reachedR; rw [if_pos h]
theorem reachedR_bad {d : Aut} (h : dchk d ≠ 0) : reachedR d = ([], dchk d) := by unfold reachedR; rw [if_neg h]
theorem aliveR_ok {d : Aut} (h : dchk d = 0) : aliveR d = (upto d.next.length (isAlive d), 0) := by unfold aliveR; rw [if_pos h]
theorem aliveR_bad {d : Aut} (h : dchk d ≠ 0) : aliveR d = ([], dchk d) := by unfold aliveR; rw [if_neg h]
theorem sizeAl (w : World) (o : Obj) : (w.alloc o).heap.size = w.heap.size + 1 := by simp
theorem alive_of_some {d : Aut} (g : Df.Good d) {k : Nat} (hk : k < d.next.length) {u : List Int} (h : firstW d k = some u) : isAlive d k = true := by
  obtain ⟨h1, _, h3, _⟩ := firstW_some g hk h
  exact (isAlive_iff g hk).2 ⟨u, h1, h3⟩
theorem alive_of_none {d : Aut} (g : Df.Good d) {k : Nat} (hk : k < d.next.length) (h : firstW d k = none) : isAlive d k = false := by
  rcases e : isAlive d k with _ | _
  · rfl
  · obtain ⟨w, hw, hf⟩ := (isAlive_iff g hk).1 e
    rw [firstW_none g hk h hw] at hf; cases hf
theorem upto_hit {n : Nat} {p : Nat → Bool} (h : p n = true) : upto (n + 1) p = upto n p ++ [(n : Int)] := by rw [upto_succ, if_pos h]
theorem upto_miss {n : Nat} {p : Nat → Bool} (h : p n = false) : upto (n + 1) p = upto n p := by rw [upto_succ, if_neg (by rw [h]; decide), List.append_nil]
set_option maxRecDepth 100000 in
set_option maxHeartbeats 2000000 in
theorem alive_any (v : Value) (d : Aut) (w : World) (h : DfaAt w w.heap.size v d) :
    Calls Tryd.prog 66 #[v] w fun e w' => Hid (IntsR (aliveR d) w e w') := by
  have HV := h
  obtain ⟨L, s, A, c, F, cf, rfl, h⟩ := h
  obtain ⟨w1, hw1, hB1, hX, hd1⟩ := box_dfa w h
  have HB := Lib.hid hB1
  have HX := Lib.hid hX
  have HW := Lib.hid hw1
  have HD := Lib.hid hd1
  have HV := Lib.hid (HV.on hB1)
  have hc0 := hX.c0
  have hc1 := hX.c1
  have hc2 := hX.c2
  have hc3 := hX.c3
  rcases g1 : dchk d with _ | e0
  · have HC := Lib.hid (dcheck_ok HV.out g1)
    have hg := dchk_iff.1 g1
    have HG := Lib.hid hg
    have HFF := Lib.hid (fun v k hk W hA => firstFrom_any v d k W hA hg hk)
    have HR := Lib.hid (aliveR_ok g1)
    have h40 := hg.n40
    clear h hd1 hw1 hX hB1 g1 hg
    generalize d.fin.length = m at *
    generalize hN : d.next.length = N at *
    have HN := Lib.hid hN
    clear hN
    go_enter Tryd.func66, Tryd.ntmps66
    go_wp2_with fail
    rw [← HW.out]
    clear HW
    refine HC.out.mono ?_
    rintro e w2 ⟨rfl, hb⟩
    have HX := Lib.hid (HX.out.on hb)
    have HV := Lib.hid (HV.out.on hb)
    have HB := Lib.hid (HB.out.trans (hb.mono HB.out.size))
    clear hb HC hc0 hc1 hc2 hc3 HD
    have hc2 := HX.out.c2
    have HY : Hid (Own w2 w2 [eInts (.slice none 0 0) (upto 0 (isAlive d))] []) := (own_start w2).nil 3 1
    go_wp2
    clear hc2
    go_loopw [5, 17] (fun rv i wr => ∃ (k : Nat), k ≤ N ∧ i = .int .i64 k ∧ Hid (Own w2 wr [eInts rv (upto k (isAlive d))] [])) (fun _ i _ => N - (intOf i).toNat)
    case atStart => exact ⟨0, by omega, rfl, HY⟩
    case round =>
      clear HY
      obtain ⟨k, hk, rfl, HS⟩ := hrel
      by_cases hlt : k < N
      · have hkl : k < d.next.length := by rw [HN.out]; exact hlt
        have HXw := Lib.hid (HX.out.on HS.out.below)
        have HVw := Lib.hid (HV.out.on HS.out.below)
        have hc0 := HXw.out.c0
        have hc1 := HXw.out.c1
        have hc2 := HXw.out.c2
        have hc3 := HXw.out.c3
        have hln : (upto k (isAlive d)).length < 17592186044416 := by have := upto_length k (isAlive d); omega
        go_wp2_with fail
        refine (HFF.out _ k hlt _ HVw.out).mono ?_
        rintro e w3 he
        rcases he.out with ⟨u, wv, h1, h2, h3⟩ | ⟨h1, h2, h3⟩
        · subst h2
          have HO := Lib.hid (HS.out.on h3.below)
          have HU := Lib.hid (upto_hit (alive_of_some HG.out hkl h1))
          clear h1 h3 he hc0 hc1 hc2 hc3 HS
          go_wp2_with (at_builtin; refine own_int (by rfl) _ _ (by rfl) (by rfl) HO.out (by rfl) hln ?_)
          intro g5 cap5 w5 ho5
          have HO5 := Lib.hid ho5
          rw [← HU.out] at HO5
          clear ho5 HO HU
          go_wp2
          go_roundw
          case rel => exact ⟨k + 1, by omega, by go_num, HO5⟩
          case measure => simp [intOf]; omega
        · subst h2
          have HU := Lib.hid (upto_miss (alive_of_none HG.out hkl h1))
          have HO := Lib.hid (HS.out.on h3)
          rw [← HU.out] at HO
          clear h1 h3 he hc0 hc1 hc2 hc3 HS HU
          go_wp2
          go_roundw
          case rel => exact ⟨k + 1, by omega, by go_num, HO⟩
          case measure => simp [intOf]; omega
      · obtain rfl : k = N := by omega
        have HE := Lib.hid (HS.out.base HB.out).fin
        clear HS
        go_wp2
        go_ret2
        exact ⟨_, by rw [HR.out]; rfl, by rw [HR.out]; exact HE.out⟩
  · have HC := Lib.hid (dcheck_bad HV.out g1 rfl)
    have HR : Hid (aliveR d = ([], e0 + 1)) := by unfold Hid; rw [aliveR_bad (by omega), g1]
    clear h hd1 hw1 hX hB1 g1
    generalize d.fin.length = m at *
    generalize d.next.length = N at *
    generalize hE : ((e0 + 1 : Nat) : Int) = E at *
    have HE := Lib.hid hE
    clear hE
    go_enter Tryd.func66, Tryd.ntmps66
    go_wp2_with fail
    rw [← HW.out]
    clear HW
    refine HC.out.mono ?_
    rintro e w2 ⟨rfl, hb⟩
    have HB := Lib.hid (HB.out.trans (hb.mono HB.out.size))
    clear hb HC hc0 hc1 hc2 hc3 HX HD HV
    go_wp2
    go_ret2
    exact ⟨_, by rw [HR.out, errV_succ, HE.out]; rfl, by rw [HR.out]; exact own_nil HB.out⟩
end Go.Proofs.YtbciefeipiphiaaDoor.Rc

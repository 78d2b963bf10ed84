/- Plain mathematics of counting forwards: what a row of numbers weighs, and what is left when all of it is moved on by a letter. slices.Sort of a row of ints that a call owns, by the library's contract. The walks of package reach that count: leading and Count. The walks of package reach's Reached and Alive. -/
import Derived.Test.YtbciefeipiphiaaDoorDfaM
import Derived.Test.YtbciefeipiphiaaDoorDfaP
import Derived.Shelf.Sort.Plain
import Derived.Sort.OwnSortedInts
import Derived.Handy
import Derived.Test.YtbciefeipiphiaaDoorFirst

namespace Go.Proofs.YtbciefeipiphiaaDoor.Rc
open Go.Proofs.YtbciefeipiphiaaDoor.Df Go.Proofs.YtbciefeipiphiaaDoor.Wo

/-- What a row of numbers weighs. -/
def dot : List Nat → (Nat → Nat) → Nat
  | [], _ => 0
  | x :: l, v => x * v 0 + dot l (fun i => v (i + 1))
theorem dot_set {l : List Nat} {i x : Nat} (hi : i < l.length) (v : Nat → Nat) : dot (l.set i (l[i] + x)) v = dot l v + x * v i := by
  induction l generalizing i v with
  | nil => simp at hi
  | cons y l ih =>
    rcases i with _ | i
    · simp only [List.set_cons_zero, List.getElem_cons_zero, dot, Nat.add_mul]; omega
    · have := ih (i := i) (by simpa using hi) (fun i => v (i + 1))
      simp only [List.set_cons_succ, List.getElem_cons_succ, dot, this]; omega
theorem dot_append (l : List Nat) (x : Nat) (v : Nat → Nat) : dot (l ++ [x]) v = dot l v + x * v l.length := by
  induction l generalizing v with
  | nil => simp [dot]
  | cons y l ih => simp only [List.cons_append, dot, ih, List.length_cons]; omega
theorem get_le_dot {l : List Nat} {i x : Nat} (h : l[i]? = some x) : x ≤ dot l (fun _ => 1) := by
  induction l generalizing i with
  | nil => simp at h
  | cons y l ih =>
    rw [dot]
    rcases i with _ | i
    · simp at h; subst h; omega
    · have := ih (i := i) (by simpa using h); omega
theorem dot_take_succ {l : List Nat} {i x : Nat} (h : l[i]? = some x) (v : Nat → Nat) : dot (l.take (i + 1)) v = dot (l.take i) v + x * v i := by
  obtain ⟨h1, h2⟩ := List.getElem?_eq_some_iff.1 h
  rw [← List.take_append_getElem h1, dot_append, h2, List.length_take, Nat.min_eq_left (by omega)]

/-- What follows, weighed. -/
def back1 (d : Aut) (v : Nat → Nat) (s : Nat) : Nat := ((List.range d.L.toNat).map fun c => v (Df.step d s c)).sum
/-- The same of the letters below c alone. -/
def backTo (d : Aut) (v : Nat → Nat) (s c : Nat) : Nat := ((List.range c).map fun c => v (Df.step d s c)).sum
theorem backTo_zero (d : Aut) (v : Nat → Nat) (s : Nat) : backTo d v s 0 = 0 := rfl
theorem backTo_succ (d : Aut) (v : Nat → Nat) (s c : Nat) : backTo d v s (c + 1) = backTo d v s c + v (Df.step d s c) := by
  unfold backTo; rw [List.range_succ, List.map_append, List.sum_append]; simp
theorem backTo_full (d : Aut) (v : Nat → Nat) (s : Nat) : backTo d v s d.L.toNat = back1 d v s := rfl
def backN (d : Aut) : Nat → (Nat → Nat) → Nat → Nat
  | 0, v, s => v s
  | k + 1, v, s => backN d k (back1 d v) s
theorem back1_cnt (d : Aut) (j : Nat) : back1 d (cnt d j) = cnt d (j + 1) := rfl
theorem backN_cnt (d : Aut) (k j s : Nat) : backN d k (cnt d j) s = cnt d (k + j) s := by
  induction k generalizing j with
  | zero => rw [Nat.zero_add]; rfl
  | succ k ih => rw [backN, back1_cnt, ih]; congr 1; omega
theorem back1_const (d : Aut) (b : Nat) : back1 d (fun _ => b) = fun _ => d.L.toNat * b := by
  funext s
  unfold back1
  have : ∀ n : Nat, ((List.range n).map fun _ => b).sum = n * b := by
    intro n
    induction n with
    | zero => simp
    | succ n ih => rw [List.range_succ, List.map_append, List.sum_append, ih, Nat.succ_mul]; simp
  exact this _
theorem backN_const (d : Aut) (k b s : Nat) : backN d k (fun _ => b) s = d.L.toNat ^ k * b := by
  induction k generalizing b with
  | zero => simp [backN]
  | succ k ih => rw [backN, back1_const, ih, Nat.pow_succ, Nat.mul_assoc]
/-- A row says how many words of k letters lead to each state. -/
structure Lead (d : Aut) (k : Nat) (l : List Nat) : Prop where
  len : l.length = d.next.length
  eq : ∀ v, dot l v = backN d k v d.s.toNat
theorem pow6 {L : Nat} (h : L ≤ 6) {k : Nat} (hk : k ≤ 20) : L ^ k ≤ 3656158440062976 :=
  Nat.le_trans (Nat.pow_le_pow_left h k) (Nat.le_trans (Nat.pow_le_pow_right (by omega) hk) (by decide))
theorem Lead.small {d : Aut} (g : Df.Good d) {k : Nat} {l : List Nat} (h : Lead d k l) (hk : k ≤ 20) {i x : Nat} (hx : l[i]? = some x) : x ≤ 3656158440062976 := by
  have h1 := get_le_dot hx
  rw [h.eq, backN_const, Nat.mul_one] at h1
  exact Nat.le_trans h1 (pow6 (by have := g.l6; omega) hk)
/-- Midway: all states below s are moved on, and of state s all letters below c. -/
structure Push (d : Aut) (l m : List Nat) (s c : Nat) : Prop where
  len : m.length = d.next.length
  eq : ∀ v, dot m v = dot (l.take s) (back1 d v) + (l[s]?.getD 0) * backTo d v s c
theorem Push.step {d : Aut} {l m : List Nat} {s c x y t : Nat} (h : Push d l m s c) (hx : l[s]? = some x) (ht : Df.step d s c = t) (hy : m[t]? = some y) : Push d l (m.set t (y + x)) s (c + 1) := by
  obtain ⟨h1, h2⟩ := List.getElem?_eq_some_iff.1 hy
  subst ht h2
  refine ⟨by rw [List.length_set]; exact h.len, fun v => ?_⟩
  rw [dot_set h1, h.eq v, backTo_succ, hx, Option.getD_some, Nat.mul_add]
  omega
theorem Push.row {d : Aut} {l m : List Nat} {s x : Nat} (h : Push d l m s d.L.toNat) (hx : l[s]? = some x) : Push d l m (s + 1) 0 :=
  ⟨h.len, fun v => by rw [h.eq v, dot_take_succ hx, backTo_full, backTo_zero, hx, Option.getD_some]; omega⟩
theorem Push.done {d : Aut} {k : Nat} {l m : List Nat} {s : Nat} (hl : Lead d k l) (h : Push d l m s 0) (hs : l.length ≤ s) : Lead d (k + 1) m :=
  ⟨h.len, fun v => by rw [h.eq v, backTo_zero, List.take_of_length_le hs, hl.eq]; rfl⟩
theorem backTo_le (d : Aut) (v : Nat → Nat) (b s c : Nat) (h : ∀ t, v t ≤ b) : backTo d v s c ≤ c * b := by
  induction c with
  | zero => simp [backTo]
  | succ c ih => rw [backTo_succ, Nat.succ_mul]; have := h (Df.step d s c); omega
/-- What stands in a row midway is no more than what is there at the end. -/
theorem Push.small {d : Aut} (g : Df.Good d) {k : Nat} {l m : List Nat} {s c : Nat} (hl : Lead d k l) (h : Push d l m s c) (hk : k + 1 ≤ 20) (hc : c ≤ d.L.toNat) {i x : Nat} (hx : m[i]? = some x) : x ≤ 3656158440062976 := by
  have h1 := get_le_dot hx
  have h2 : dot m (fun _ => 1) ≤ dot l (back1 d (fun _ => 1)) := by
    rw [h.eq, back1_const]
    rcases e : l[s]? with _ | y
    · rw [List.take_of_length_le (List.getElem?_eq_none_iff.1 e)]; simp
    · have h3 := backTo_le d (fun _ => 1) 1 s c (fun _ => Nat.le_refl _)
      have h4 := dot_take_succ e (fun _ => d.L.toNat * 1)
      have h5 : dot (l.take (s + 1)) (fun _ => d.L.toNat * 1) ≤ dot l (fun _ => d.L.toNat * 1) := by
        have : ∀ (l : List Nat) (n b : Nat), dot (l.take n) (fun _ => b) ≤ dot l (fun _ => b) := by
          intro l
          induction l with
          | nil => intro n b; simp
          | cons y l ih =>
            intro n b
            rcases n with _ | n
            · simp [dot]
            · rw [List.take_succ_cons, dot, dot]; have := ih n b; omega
        exact this _ _ _
      rw [Option.getD_some]
      have h6 : y * backTo d (fun _ => 1) s c ≤ y * (d.L.toNat * 1) := Nat.mul_le_mul_left _ (by omega)
      omega
  rw [hl.eq, back1_const, backN_const, Nat.mul_one] at h2
  have h3 := pow6 (L := d.L.toNat) (by have := g.l6; omega) hk
  rw [Nat.pow_succ] at h3
  omega
/-- How many words are accepted, out of the row. -/
theorem Lead.count {d : Aut} {k : Nat} {l : List Nat} (h : Lead d k l) : dot l (cnt d 0) = cnt d k d.s.toNat := by rw [h.eq, backN_cnt]; rfl
end Go.Proofs.YtbciefeipiphiaaDoor.Rc

namespace Go.Proofs.YtbciefeipiphiaaDoor.Wd
open Go.RowKit Go.IntWalk Go.Shelf Go.Sort

end Go.Proofs.YtbciefeipiphiaaDoor.Wd

namespace Go.Proofs.YtbciefeipiphiaaDoor.Rc
open Go.RowKit Go.IntWalk Go.Proofs.YtbciefeipiphiaaDoor.Wd Go.Proofs.YtbciefeipiphiaaDoor.Wo Go.Proofs.YtbciefeipiphiaaDoor.Df

/-- Numbers as ints. -/
def ints (l : List Nat) : List Int := l.map fun (x : Nat) => (x : Int)
theorem ints_length (l : List Nat) : (ints l).length = l.length := List.length_map _
theorem ints_get {l : List Nat} {i x : Nat} (h : l[i]? = some x) : (ints l)[i]? = some (x : Int) := by unfold ints; rw [List.getElem?_map, h]; rfl
theorem get_of_lt {l : List Nat} {i : Nat} (h : i < l.length) : ∃ x, l[i]? = some x := ⟨_, List.getElem?_eq_getElem h⟩
/-- A row of n ints in block g. -/
abbrev rowV (g n : Nat) : Value := .slice (some ⟨g, 0, none⟩) n n
end Go.Proofs.YtbciefeipiphiaaDoor.Rc

namespace Go.Proofs.YtbciefeipiphiaaDoor.Rc
open Go.RowKit Go.IntWalk Go.Proofs.YtbciefeipiphiaaDoor.Wd Go.Proofs.YtbciefeipiphiaaDoor.Wo Go.Proofs.YtbciefeipiphiaaDoor.Df

/-! ### sorted lists -/
def aliveR (d : Aut) : List Int × Nat := if dchk d = 0 then (upto d.next.length (isAlive d), 0) else ([], dchk d)
theorem aliveR_ok {d : Aut} (h : dchk d = 0) : aliveR d = (upto d.next.length (isAlive d), 0) := by unfold aliveR; rw [if_pos h]
theorem aliveR_bad {d : Aut} (h : dchk d ≠ 0) : aliveR d = ([], dchk d) := by unfold aliveR; rw [if_neg h]
theorem alive_of_some {d : Aut} (g : Df.Good d) {k : Nat} (hk : k < d.next.length) {u : List Int} (h : firstW d k = some u) : isAlive d k = true := by
  obtain ⟨h1, _, h3, _⟩ := firstW_some g hk h
  exact (isAlive_iff g hk).2 ⟨u, h1, h3⟩
theorem alive_of_none {d : Aut} (g : Df.Good d) {k : Nat} (hk : k < d.next.length) (h : firstW d k = none) : isAlive d k = false := by
  rcases e : isAlive d k with _ | _
  · rfl
  · obtain ⟨w, hw, hf⟩ := (isAlive_iff g hk).1 e
    rw [firstW_none g hk h hw] at hf; cases hf
theorem upto_hit {n : Nat} {p : Nat → Bool} (h : p n = true) : upto (n + 1) p = upto n p ++ [(n : Int)] := by rw [upto_succ, if_pos h]
theorem upto_miss {n : Nat} {p : Nat → Bool} (h : p n = false) : upto (n + 1) p = upto n p := by rw [upto_succ, if_neg (by rw [h]; decide), List.append_nil]
set_option maxRecDepth 100000 in
set_option maxHeartbeats 2000000 in
theorem alive_any (v : Value) (d : Aut) (w : World) (h : DfaAt w w.heap.size v d) :
    Calls Tryd.prog 66 #[v] w fun e w' => Hid (IntsR (aliveR d) w e w') := by
  have HV := h
  obtain ⟨L, s, A, c, F, cf, rfl, h⟩ := h
  obtain ⟨w1, hw1, hB1, hX, hd1⟩ := box_dfa w h
  have HB := Lib.hid hB1
  have HX := Lib.hid hX
  have HW := Lib.hid hw1
  have HD := Lib.hid hd1
  have HV := Lib.hid (HV.on hB1)
  have hc0 := hX.c0
  have hc1 := hX.c1
  have hc2 := hX.c2
  have hc3 := hX.c3
  rcases g1 : dchk d with _ | e0
  · have HC := Lib.hid (dcheck_ok HV.out g1)
    have hg := dchk_iff.1 g1
    have HG := Lib.hid hg
    have HFF := Lib.hid (fun v k hk W hA => firstFrom_any v d k W hA hg hk)
    have HR := Lib.hid (aliveR_ok g1)
    have h40 := hg.n40
    clear h hd1 hw1 hX hB1 g1 hg
    generalize d.fin.length = m at *
    generalize hN : d.next.length = N at *
    have HN := Lib.hid hN
    clear hN
    go_enter Tryd.func66, Tryd.ntmps66
    go_wp2_with fail
    rw [← HW.out]
    clear HW
    refine HC.out.mono ?_
    rintro e w2 ⟨rfl, hb⟩
    have HX := Lib.hid (HX.out.on hb)
    have HV := Lib.hid (HV.out.on hb)
    have HB := Lib.hid (HB.out.trans (hb.mono HB.out.size))
    clear hb HC hc0 hc1 hc2 hc3 HD
    have hc2 := HX.out.c2
    have HY : Hid (Own w2 w2 [eInts (.slice none 0 0) (upto 0 (isAlive d))] []) := (own_start w2).nil 3 1
    go_wp2
    clear hc2
    go_loopw [5, 17] (fun rv i wr => ∃ (k : Nat), k ≤ N ∧ i = .int .i64 k ∧ Hid (Own w2 wr [eInts rv (upto k (isAlive d))] [])) (fun _ i _ => N - (intOf i).toNat)
    case atStart => exact ⟨0, by omega, rfl, HY⟩
    case round =>
      clear HY
      obtain ⟨k, hk, rfl, HS⟩ := hrel
      by_cases hlt : k < N
      · have hkl : k < d.next.length := by rw [HN.out]; exact hlt
        have HXw := Lib.hid (HX.out.on HS.out.below)
        have HVw := Lib.hid (HV.out.on HS.out.below)
        have hc0 := HXw.out.c0
        have hc1 := HXw.out.c1
        have hc2 := HXw.out.c2
        have hc3 := HXw.out.c3
        have hln : (upto k (isAlive d)).length < 17592186044416 := by have := upto_length k (isAlive d); omega
        go_wp2_with fail
        refine (HFF.out _ k hlt _ HVw.out).mono ?_
        rintro e w3 he
        rcases he.out with ⟨u, wv, h1, h2, h3⟩ | ⟨h1, h2, h3⟩
        · subst h2
          have HO := Lib.hid (HS.out.on h3.below)
          have HU := Lib.hid (upto_hit (alive_of_some HG.out hkl h1))
          clear h1 h3 he hc0 hc1 hc2 hc3 HS
          go_wp2_with (at_builtin; refine own_int (by rfl) _ _ (by rfl) (by rfl) HO.out (by rfl) hln ?_)
          intro g5 cap5 w5 ho5
          have HO5 := Lib.hid ho5
          rw [← HU.out] at HO5
          clear ho5 HO HU
          go_wp2
          go_roundw
          case rel => exact ⟨k + 1, by omega, by go_num, HO5⟩
          case measure => simp [intOf]; omega
        · subst h2
          have HU := Lib.hid (upto_miss (alive_of_none HG.out hkl h1))
          have HO := Lib.hid (HS.out.on h3)
          rw [← HU.out] at HO
          clear h1 h3 he hc0 hc1 hc2 hc3 HS HU
          go_wp2
          go_roundw
          case rel => exact ⟨k + 1, by omega, by go_num, HO⟩
          case measure => simp [intOf]; omega
      · obtain rfl : k = N := by omega
        have HE := Lib.hid (HS.out.base HB.out).fin
        clear HS
        go_wp2
        go_ret2
        exact ⟨_, by rw [HR.out]; rfl, by rw [HR.out]; exact HE.out⟩
  · have HC := Lib.hid (dcheck_bad HV.out g1 rfl)
    have HR : Hid (aliveR d = ([], e0 + 1)) := by unfold Hid; rw [aliveR_bad (by omega), g1]
    clear h hd1 hw1 hX hB1 g1
    generalize d.fin.length = m at *
    generalize d.next.length = N at *
    generalize hE : ((e0 + 1 : Nat) : Int) = E at *
    have HE := Lib.hid hE
    clear hE
    go_enter Tryd.func66, Tryd.ntmps66
    go_wp2_with fail
    rw [← HW.out]
    clear HW
    refine HC.out.mono ?_
    rintro e w2 ⟨rfl, hb⟩
    have HB := Lib.hid (HB.out.trans (hb.mono HB.out.size))
    clear hb HC hc0 hc1 hc2 hc3 HX HD HV
    go_wp2
    go_ret2
    exact ⟨_, by rw [HR.out, errV_succ, HE.out]; rfl, by rw [HR.out]; exact own_nil HB.out⟩
end Go.Proofs.YtbciefeipiphiaaDoor.Rc

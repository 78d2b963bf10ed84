/- Plain mathematics of counting forwards: what a row of numbers weighs, and what is left when all of it is moved on by a letter. -/
import Derived.Test.YtbciefeipiphiaaDoorDfaM
namespace Go.Proofs.YtbciefeipiphiaaDoor.Rc
open Go.Proofs.YtbciefeipiphiaaDoor.Df Go.Proofs.YtbciefeipiphiaaDoor.Wo

/-- What a row of numbers weighs. -/
def dot : List Nat → (Nat → Nat) → Nat
  | [], _ => 0
  | x :: l, v => x * v 0 + dot l (fun i => v (i + 1))
theorem dot_congr {l : List Nat} {u v : Nat → Nat} (h : ∀ i, i < l.length → u i = v i) : dot l u = dot l v := by
  induction l generalizing u v with
  | nil => rfl
  | cons x l ih =>
    rw [dot, dot, h 0 (by simp), ih (fun i hi => h (i + 1) (by simpa using hi))]
theorem dot_set {l : List Nat} {i x : Nat} (hi : i < l.length) (v : Nat → Nat) : dot (l.set i (l[i] + x)) v = dot l v + x * v i := by
  induction l generalizing i v with
  | nil => simp at hi
  | cons y l ih =>
    rcases i with _ | i
    · simp only [List.set_cons_zero, List.getElem_cons_zero, dot, Nat.add_mul]; omega
    · have := ih (i := i) (by simpa using hi) (fun i => v (i + 1))
      simp only [List.set_cons_succ, List.getElem_cons_succ, dot, this]; omega
theorem dot_append (l : List Nat) (x : Nat) (v : Nat → Nat) : dot (l ++ [x]) v = dot l v + x * v l.length := by
  induction l generalizing v with
  | nil => simp [dot]
  | cons y l ih => simp only [List.cons_append, dot, ih, List.length_cons]; omega
theorem dot_zero (n : Nat) (v : Nat → Nat) : dot (List.replicate n 0) v = 0 := by
  induction n generalizing v with
  | zero => rfl
  | succ n ih => rw [List.replicate_succ, dot, ih]; omega
theorem dot_unit {n s : Nat} (hs : s < n) (v : Nat → Nat) : dot ((List.replicate n 0).set s 1) v = v s := by
  have h := dot_set (l := List.replicate n 0) (i := s) (x := 1) (by simpa using hs) v
  rw [dot_zero] at h
  simpa using h
theorem get_le_dot {l : List Nat} {i x : Nat} (h : l[i]? = some x) : x ≤ dot l (fun _ => 1) := by
  induction l generalizing i with
  | nil => simp at h
  | cons y l ih =>
    rw [dot]
    rcases i with _ | i
    · simp at h; subst h; omega
    · have := ih (i := i) (by simpa using h); omega
theorem dot_mono {l : List Nat} {u v : Nat → Nat} (h : ∀ i, u i ≤ v i) : dot l u ≤ dot l v := by
  induction l generalizing u v with
  | nil => exact Nat.le_refl _
  | cons x l ih =>
    rw [dot, dot]
    exact Nat.add_le_add (Nat.mul_le_mul_left _ (h 0)) (ih (fun i => h (i + 1)))
theorem dot_take_succ {l : List Nat} {i x : Nat} (h : l[i]? = some x) (v : Nat → Nat) : dot (l.take (i + 1)) v = dot (l.take i) v + x * v i := by
  obtain ⟨h1, h2⟩ := List.getElem?_eq_some_iff.1 h
  rw [← List.take_append_getElem h1, dot_append, h2, List.length_take, Nat.min_eq_left (by omega)]

/-- What follows, weighed. -/
def back1 (d : Aut) (v : Nat → Nat) (s : Nat) : Nat := ((List.range d.L.toNat).map fun c => v (step d s c)).sum
/-- The same of the letters below c alone. -/
def backTo (d : Aut) (v : Nat → Nat) (s c : Nat) : Nat := ((List.range c).map fun c => v (step d s c)).sum
theorem backTo_zero (d : Aut) (v : Nat → Nat) (s : Nat) : backTo d v s 0 = 0 := rfl
theorem backTo_succ (d : Aut) (v : Nat → Nat) (s c : Nat) : backTo d v s (c + 1) = backTo d v s c + v (step d s c) := by
  unfold backTo; rw [List.range_succ, List.map_append, List.sum_append]; simp
theorem backTo_full (d : Aut) (v : Nat → Nat) (s : Nat) : backTo d v s d.L.toNat = back1 d v s := rfl
def backN (d : Aut) : Nat → (Nat → Nat) → Nat → Nat
  | 0, v, s => v s
  | k + 1, v, s => backN d k (back1 d v) s
theorem back1_cnt (d : Aut) (j : Nat) : back1 d (cnt d j) = cnt d (j + 1) := rfl
theorem backN_cnt (d : Aut) (k j s : Nat) : backN d k (cnt d j) s = cnt d (k + j) s := by
  induction k generalizing j with
  | zero => rw [Nat.zero_add]; rfl
  | succ k ih => rw [backN, back1_cnt, ih]; congr 1; omega
theorem back1_const (d : Aut) (b : Nat) : back1 d (fun _ => b) = fun _ => d.L.toNat * b := by
  funext s
  unfold back1
  have : ∀ n : Nat, ((List.range n).map fun _ => b).sum = n * b := by
    intro n
    induction n with
    | zero => simp
    | succ n ih => rw [List.range_succ, List.map_append, List.sum_append, ih, Nat.succ_mul]; simp
  exact this _
theorem backN_const (d : Aut) (k b s : Nat) : backN d k (fun _ => b) s = d.L.toNat ^ k * b := by
  induction k generalizing b with
  | zero => simp [backN]
  | succ k ih => rw [backN, back1_const, ih, Nat.pow_succ, Nat.mul_assoc]
/-- A row says how many words of k letters lead to each state. -/
structure Lead (d : Aut) (k : Nat) (l : List Nat) : Prop where
  len : l.length = d.next.length
  eq : ∀ v, dot l v = backN d k v d.s.toNat
theorem lead_zero {d : Aut} (g : Df.Good d) : Lead d 0 ((List.replicate d.next.length 0).set d.s.toNat 1) :=
  ⟨by simp, fun v => dot_unit g.s_lt v⟩
theorem pow6 {L : Nat} (h : L ≤ 6) {k : Nat} (hk : k ≤ 20) : L ^ k ≤ 3656158440062976 :=
  Nat.le_trans (Nat.pow_le_pow_left h k) (Nat.le_trans (Nat.pow_le_pow_right (by omega) hk) (by decide))
theorem Lead.small {d : Aut} (g : Df.Good d) {k : Nat} {l : List Nat} (h : Lead d k l) (hk : k ≤ 20) {i x : Nat} (hx : l[i]? = some x) : x ≤ 3656158440062976 := by
  have h1 := get_le_dot hx
  rw [h.eq, backN_const, Nat.mul_one] at h1
  exact Nat.le_trans h1 (pow6 (by have := g.l6; omega) hk)
/-- Midway: all states below s are moved on, and of state s all letters below c. -/
structure Push (d : Aut) (l m : List Nat) (s c : Nat) : Prop where
  len : m.length = d.next.length
  eq : ∀ v, dot m v = dot (l.take s) (back1 d v) + (l[s]?.getD 0) * backTo d v s c
theorem push_start (d : Aut) (l : List Nat) : Push d l (List.replicate d.next.length 0) 0 0 :=
  ⟨by simp, fun v => by rw [dot_zero, backTo_zero, List.take_zero, Nat.mul_zero]; rfl⟩
theorem Push.step {d : Aut} {l m : List Nat} {s c x y t : Nat} (h : Push d l m s c) (hx : l[s]? = some x) (ht : step d s c = t) (hy : m[t]? = some y) : Push d l (m.set t (y + x)) s (c + 1) := by
  obtain ⟨h1, h2⟩ := List.getElem?_eq_some_iff.1 hy
  subst ht h2
  refine ⟨by rw [List.length_set]; exact h.len, fun v => ?_⟩
  rw [dot_set h1, h.eq v, backTo_succ, hx, Option.getD_some, Nat.mul_add]
  omega
theorem Push.row {d : Aut} {l m : List Nat} {s x : Nat} (h : Push d l m s d.L.toNat) (hx : l[s]? = some x) : Push d l m (s + 1) 0 :=
  ⟨h.len, fun v => by rw [h.eq v, dot_take_succ hx, backTo_full, backTo_zero, hx, Option.getD_some]; omega⟩
theorem Push.done {d : Aut} {k : Nat} {l m : List Nat} {s : Nat} (hl : Lead d k l) (h : Push d l m s 0) (hs : l.length ≤ s) : Lead d (k + 1) m :=
  ⟨h.len, fun v => by rw [h.eq v, backTo_zero, List.take_of_length_le hs, hl.eq]; rfl⟩
theorem backTo_le (d : Aut) (v : Nat → Nat) (b s c : Nat) (h : ∀ t, v t ≤ b) : backTo d v s c ≤ c * b := by
  induction c with
  | zero => simp [backTo]
  | succ c ih => rw [backTo_succ, Nat.succ_mul]; have := h (Df.step d s c); omega
/-- What stands in a row midway is no more than what is there at the end. -/
theorem Push.small {d : Aut} (g : Df.Good d) {k : Nat} {l m : List Nat} {s c : Nat} (hl : Lead d k l) (h : Push d l m s c) (hk : k + 1 ≤ 20) (hc : c ≤ d.L.toNat) {i x : Nat} (hx : m[i]? = some x) : x ≤ 3656158440062976 := by
  have h1 := get_le_dot hx
  have h2 : dot m (fun _ => 1) ≤ dot l (back1 d (fun _ => 1)) := by
    rw [h.eq, back1_const]
    rcases e : l[s]? with _ | y
    · rw [List.take_of_length_le (List.getElem?_eq_none_iff.1 e)]; simp
    · have h3 := backTo_le d (fun _ => 1) 1 s c (fun _ => Nat.le_refl _)
      have h4 := dot_take_succ e (fun _ => d.L.toNat * 1)
      have h5 : dot (l.take (s + 1)) (fun _ => d.L.toNat * 1) ≤ dot l (fun _ => d.L.toNat * 1) := by
        have : ∀ (l : List Nat) (n b : Nat), dot (l.take n) (fun _ => b) ≤ dot l (fun _ => b) := by
          intro l
          induction l with
          | nil => intro n b; simp
          | cons y l ih =>
            intro n b
            rcases n with _ | n
            · simp [dot]
            · rw [List.take_succ_cons, dot, dot]; have := ih n b; omega
        exact this _ _ _
      rw [Option.getD_some]
      have h6 : y * backTo d (fun _ => 1) s c ≤ y * (d.L.toNat * 1) := Nat.mul_le_mul_left _ (by omega)
      omega
  rw [hl.eq, back1_const, backN_const, Nat.mul_one] at h2
  have h3 := pow6 (L := d.L.toNat) (by have := g.l6; omega) hk
  rw [Nat.pow_succ] at h3
  omega
/-- How many words are accepted, out of the row. -/
theorem Lead.count {d : Aut} {k : Nat} {l : List Nat} (h : Lead d k l) : dot l (cnt d 0) = cnt d k d.s.toNat := by rw [h.eq, backN_cnt]; rfl
/-- Of the states below i. -/
def accTo (d : Aut) (l : List Nat) (i : Nat) : Nat := dot (l.take i) (cnt d 0)
theorem accTo_zero (d : Aut) (l : List Nat) : accTo d l 0 = 0 := rfl
theorem accTo_hit {d : Aut} {l : List Nat} {i x : Nat} (h : l[i]? = some x) (hf : finA d i = true) : accTo d l (i + 1) = accTo d l i + x := by
  unfold accTo; rw [dot_take_succ h, cnt, if_pos hf, Nat.mul_one]
theorem accTo_miss {d : Aut} {l : List Nat} {i x : Nat} (h : l[i]? = some x) (hf : finA d i = false) : accTo d l (i + 1) = accTo d l i := by
  unfold accTo; rw [dot_take_succ h, cnt, if_neg (by rw [hf]; decide), Nat.mul_zero]; rfl
theorem accTo_all {d : Aut} {k : Nat} {l : List Nat} (h : Lead d k l) {i : Nat} (hi : l.length ≤ i) : accTo d l i = cnt d k d.s.toNat := by
  unfold accTo; rw [List.take_of_length_le hi]; exact h.count
theorem cnt_small {d : Aut} (g : Df.Good d) {k s : Nat} (hk : k ≤ 20) : cnt d k s ≤ 3656158440062976 :=
  Nat.le_trans (cnt_le g k s) (Nat.le_trans (Nat.pow_le_pow_right (by omega) hk) (by decide))
theorem accTo_small {d : Aut} (g : Df.Good d) {k : Nat} {l : List Nat} (h : Lead d k l) (hk : k ≤ 20) (i : Nat) : accTo d l i ≤ 3656158440062976 := by
  have h1 : ∀ (l : List Nat) (n : Nat) (v : Nat → Nat), dot (l.take n) v ≤ dot l v := by
    intro l
    induction l with
    | nil => intro n v; simp
    | cons y l ih =>
      intro n v
      rcases n with _ | n
      · simp [dot]
      · rw [List.take_succ_cons, dot, dot]; have := ih n (fun i => v (i + 1)); omega
  have h2 := h1 l i (cnt d 0)
  rw [h.count] at h2
  exact Nat.le_trans h2 (cnt_small g hk)
def countOut (d : Aut) (n : Int) : Int × Nat := if dchk d = 0 then (if 0 ≤ n ∧ n ≤ 20 then (((cnt d n.toNat d.s.toNat : Nat) : Int), 0) else (0, 1)) else (0, dchk d)
/-- Backwards: of state s all letters below c. -/
theorem cnt_step (d : Aut) (k s : Nat) : cnt d (k + 1) s = backTo d (cnt d k) s d.L.toNat := rfl
theorem backTo_small {d : Aut} (g : Df.Good d) {k s c : Nat} (hk : k + 1 ≤ 20) (hc : c ≤ d.L.toNat) : backTo d (cnt d k) s c ≤ 3656158440062976 := by
  have h1 := backTo_le d (cnt d k) (6 ^ k) s c (fun t => cnt_le g k t)
  have h6 : c ≤ 6 := by have := g.l6; omega
  have h2 : c * 6 ^ k ≤ 6 * 6 ^ k := Nat.mul_le_mul_right _ h6
  have h3 : (6 : Nat) ^ (k + 1) ≤ 6 ^ 20 := Nat.pow_le_pow_right (by omega) hk
  rw [Nat.pow_succ, Nat.mul_comm] at h3
  have h4 : (6 : Nat) ^ 20 = 3656158440062976 := by decide
  omega
end Go.Proofs.YtbciefeipiphiaaDoor.Rc

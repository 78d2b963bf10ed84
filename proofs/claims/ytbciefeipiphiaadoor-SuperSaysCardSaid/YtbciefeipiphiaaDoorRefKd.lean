/- The document's answer whether a plant is kept: the table of how many letters lead out (its rows and rounds in memory). -/
import Derived.Test.YtbciefeipiphiaaDoorRefSame
import Derived.Test.YtbciefeipiphiaaDoorRefLive
import Derived.Test.YtbciefeipiphiaaDoorSuperM
namespace Go.Proofs.YtbciefeipiphiaaDoor.Su
open Go.RowKit Go.IntWalk Go.Proofs.YtbciefeipiphiaaDoor.Wd Go.Proofs.YtbciefeipiphiaaDoor.Wo Go.Proofs.YtbciefeipiphiaaDoor.Df Go.Proofs.YtbciefeipiphiaaDoor.Rc Go.Proofs.YtbciefeipiphiaaDoor.Sm

/-! ### the first rows -/
def v0K (P D : Aut) (free : Int) (p q y : Nat) : Int := if y < q then kv P D free 1 false p y else 0
theorem v0K_start (P D : Aut) (free : Int) (p n : Nat) : List.replicate n 0 = iF n (v0K P D free p 0) := by
  rw [← iF_zero]; exact iF_congr fun t _ => by unfold v0K; rw [if_neg (by omega)]
/-- Does one of the first letters lead out? -/
def anyTo (P D : Aut) (free : Int) (p q c : Nat) : Bool := live2 P D p q && (List.range c).any (badC P D free p q)
theorem anyTo_zero (P D : Aut) (free : Int) (p q : Nat) : anyTo P D free p q 0 = false := by unfold anyTo; simp
theorem anyTo_succ (P D : Aut) (free : Int) (p q c : Nat) : anyTo P D free p q (c + 1) = (anyTo P D free p q c || (live2 P D p q && badC P D free p q c)) := by
  unfold anyTo
  rw [List.range_succ, List.any_append]
  rcases live2 P D p q with _ | _ <;> simp
def zOf (b : Bool) : Int := if b = true then 1 else -1
/-- A row under way, one place of it on its way to the value. -/
def rowZ (P D : Aut) (free : Int) (N p q : Nat) (b : Bool) : List Int := (iF N (v0K P D free p q)).set q (zOf b)
theorem rowZ_length (P D : Aut) (free : Int) (N p q : Nat) (b : Bool) : (rowZ P D free N p q b).length = N := by unfold rowZ; rw [List.length_set, iF_length]
theorem rowZ_get {P D : Aut} {free : Int} {N p q : Nat} {b : Bool} (h : q < N) : (rowZ P D free N p q b)[q]? = some (zOf b) := by unfold rowZ; rw [List.getElem?_set, if_pos rfl, if_pos (by rw [iF_length]; exact h)]
theorem rowZ_hit (P D : Aut) (free : Int) (N p q : Nat) (b : Bool) : (rowZ P D free N p q b).set q 1 = rowZ P D free N p q true := by unfold rowZ; rw [List.set_set]; rfl
theorem rowZ_end {P D : Aut} (g : Good2 P D) {free : Int} {N p q c : Nat} (hp : p < P.next.length) (hq : q < D.next.length) (hc : P.L = (c : Int)) : rowZ P D free N p q (anyTo P D free p q c) = iF N (v0K P D free p (q + 1)) := by
  unfold rowZ
  rw [iF_set]
  refine iF_congr fun y _ => ?_
  unfold v0K
  by_cases e : y = q
  · subst e
    rw [if_pos rfl, if_pos (by omega), kv_start g hp hq]
    have : anyTo P D free p y c = lenB P D free 0 p y := by
      unfold anyTo lenB
      rw [show P.L.toNat = c by omega]
    rw [this]; rfl
  · rw [if_neg e]
    by_cases e2 : y < q
    · rw [if_pos e2, if_pos (by omega)]
    · rw [if_neg e2, if_neg (by omega)]
theorem v0K_full {P D : Aut} {free : Int} {s n : Nat} : iF n (v0K P D free s n) = iF n (kv P D free 1 false s) := iF_congr fun y hy => by unfold v0K; rw [if_pos hy]
/-- The first rows under way. -/
def KP (w1 wr : World) (P D : Aut) (free : Int) (N k : Nat) (tv : Value) : Prop := ∃ rs, OwnI w1 wr N tv rs ∧ rs.length = k ∧ RowsI N rs (kv P D free 1 false)

/-! ### the rounds -/
def vtK (P D : Aut) (free : Int) (k s t x y : Nat) : Int := kv P D free k (turn s t x y) x y
/-- Has a pair whose turn is over been set in this round? -/
def AgK (P D : Aut) (free : Int) (k s t : Nat) (g : Bool) : Prop := (g = true → ∃ x y, x < P.next.length ∧ y < D.next.length ∧ lk P D free x y = (k : Int)) ∧ (g = false → ∀ x y, x < P.next.length → y < D.next.length → turn s t x y = true → lk P D free x y ≠ (k : Int))
/-- The table in round k + 1, at the pair's turn. -/
def K2 (w1 wr : World) (P D : Aut) (free : Int) (N k s t : Nat) (g : Bool) (tv : Value) : Prop := ∃ rs, OwnI w1 wr N tv rs ∧ rs.length = P.next.length ∧ RowsI N rs (vtK P D free (k + 1) s t) ∧ AgK P D free (k + 1) s t g
/-- The head of round k + 1. -/
def K1 (w1 wr : World) (P D : Aut) (free : Int) (N k : Nat) (g : Bool) (tv : Value) : Prop := ∃ rs, OwnI w1 wr N tv rs ∧ rs.length = P.next.length ∧ RowsI N rs (kv P D free (k + 1) false) ∧ (g = true → k = 0 ∨ ∃ x y, x < P.next.length ∧ y < D.next.length ∧ lk P D free x y = (k : Int)) ∧ (g = false → ∀ x y, x < P.next.length → y < D.next.length → lk P D free x y ≠ (k : Int))
theorem k1_start {w1 wr : World} {P D : Aut} {free : Int} {N k : Nat} {g : Bool} {tv : Value} (h : K1 w1 wr P D free N k g tv) : K2 w1 wr P D free N k 0 0 false tv := by
  obtain ⟨rs, h1, h2, h3, _⟩ := h
  exact ⟨rs, h1, h2, rowsI_congr h3 fun x y _ _ => by unfold vtK; rw [turn_start], ⟨fun e => absurd e (by decide), fun _ x y _ _ e => by rw [turn_start] at e; cases e⟩⟩
theorem k2_row {w1 wr : World} {P D : Aut} {free : Int} {N k s : Nat} {g : Bool} {tv : Value} (hN : D.next.length = N) (h : K2 w1 wr P D free N k s N g tv) : K2 w1 wr P D free N k (s + 1) 0 g tv := by
  obtain ⟨rs, h1, h2, h3, h4, h5⟩ := h
  exact ⟨rs, h1, h2, rowsI_congr h3 fun x y _ hy => by unfold vtK; rw [turn_row s N x y hy], h4, fun e x y hx hy ht => h5 e x y hx hy (by rw [turn_row s N x y (by omega)]; exact ht)⟩
theorem k2_end {w1 wr : World} {P D : Aut} {free : Int} {N k s : Nat} {g : Bool} {tv : Value} (hs : P.next.length = s) (h : K2 w1 wr P D free N k s 0 g tv) : K1 w1 wr P D free N (k + 1) g tv := by
  obtain ⟨rs, h1, h2, h3, h4, h5⟩ := h
  exact ⟨rs, h1, h2, rowsI_congr h3 fun x y hx _ => by unfold vtK; rw [turn_all y (by omega), kv_next], fun e => .inr (h4 e), fun e x y hx hy => h5 e x y hx hy (turn_all y (by omega))⟩
/-- A pair that is known already: its turn changes nothing. -/
theorem k2_known {w1 wr : World} {P D : Aut} {free : Int} {N k s t : Nat} {g : Bool} {tv : Value} (h : K2 w1 wr P D free N k s t g tv) (h0 : 0 ≤ kv P D free (k + 1) false s t) : K2 w1 wr P D free N k s (t + 1) g tv := by
  obtain ⟨rs, h1, h2, h3, h4, h5⟩ := h
  refine ⟨rs, h1, h2, rowsI_congr h3 fun x y _ _ => ?_, h4, fun e x y hx hy ht => ?_⟩
  · unfold vtK
    by_cases q : x = s ∧ y = t
    · obtain ⟨rfl, rfl⟩ := q; rw [turn_at, turn_done, kv_old h0]
    · rw [turn_next s t x y q]
  · by_cases q : x = s ∧ y = t
    · obtain ⟨rfl, rfl⟩ := q
      have h6 := (kv_known h0).2.2
      intro el
      rcases h6 with h6 | h6
      · omega
      · exact absurd h6.2 (by decide)
    · exact h5 e x y hx hy (by rw [turn_next s t x y q]; exact ht)
theorem k2_keep {w1 wr : World} {P D : Aut} {free : Int} {N k s t : Nat} {g : Bool} {tv : Value} (gd : Good2 P D) (hs : s < P.next.length) (ht : t < D.next.length) (h : K2 w1 wr P D free N k s t g tv) (h0 : ∀ c : Nat, (c : Int) < P.L → lk P D free (Df.step P s c) (Df.step D t c) ≠ (k : Int)) : K2 w1 wr P D free N k s (t + 1) g tv := by
  obtain ⟨rs, h1, h2, h3, h4, h5⟩ := h
  obtain ⟨k1, k2⟩ := kv_keep gd hs ht h0
  refine ⟨rs, h1, h2, rowsI_congr h3 fun x y _ _ => ?_, h4, fun e x y hx hy ht' => ?_⟩
  · unfold vtK
    by_cases q : x = s ∧ y = t
    · obtain ⟨rfl, rfl⟩ := q; rw [turn_at, turn_done, k1]
    · rw [turn_next s t x y q]
  · by_cases q : x = s ∧ y = t
    · obtain ⟨rfl, rfl⟩ := q; exact k2
    · exact h5 e x y hx hy (by rw [turn_next s t x y q]; exact ht')
theorem k2_set {w1 wr : World} {P D : Aut} {free : Int} {N k s t c : Nat} {tv : Value} {rs : List Ir} {r : Ir} (gd : Good2 P D) (hs : s < P.next.length) (ht : t < D.next.length) (h1 : OwnI w1 wr N tv rs) (h2 : rs.length = P.next.length) (h3 : RowsI N rs (vtK P D free (k + 1) s t))
    (hr : rs[s]? = some r) (h0 : kv P D free (k + 1) false s t < 0) (hc : (c : Int) < P.L) (hl : lk P D free (Df.step P s c) (Df.step D t c) = (k : Int)) : K2 w1 (wr.setCell ⟨r.1, t, none⟩ (.int .i64 (((k + 1 : Nat) : Int) + 1))) P D free N k s (t + 1) true tv := by
  obtain ⟨k0, k1⟩ := kv_set gd hs ht h0 hc hl
  refine ⟨_, ownI_set h1 hr t _, by rw [List.length_set]; exact h2, rowsI_set h3 hr ?_ fun y z _ _ q => ?_, ⟨fun _ => ⟨s, t, hs, ht, ?_⟩, fun e => absurd e (by decide)⟩⟩
  · unfold vtK; rw [turn_done]; exact k1
  · unfold vtK; rw [turn_next s t y z q]
  · exact k0
/-- Within the letters: not set yet, or set. -/
def KC (w1 wr : World) (P D : Aut) (free : Int) (N k s t c : Nat) (g : Bool) (tv : Value) : Prop :=
  (K2 w1 wr P D free N k s t g tv ∧ kv P D free (k + 1) false s t < 0 ∧ ∀ e : Nat, e < c → lk P D free (Df.step P s e) (Df.step D t e) ≠ (k : Int)) ∨ (K2 w1 wr P D free N k s (t + 1) g tv ∧ 0 ≤ kv P D free (k + 1) true s t)
theorem kc_start {w1 wr : World} {P D : Aut} {free : Int} {N k s t : Nat} {g : Bool} {tv : Value} (h : K2 w1 wr P D free N k s t g tv) : KC w1 wr P D free N k s t 0 g tv := by
  by_cases h0 : 0 ≤ kv P D free (k + 1) false s t
  · exact .inr ⟨k2_known h h0, by rw [kv_old h0]; exact h0⟩
  · exact .inl ⟨h, by omega, fun e he => by omega⟩
theorem kc_end {w1 wr : World} {P D : Aut} {free : Int} {N k s t c : Nat} {g : Bool} {tv : Value} (gd : Good2 P D) (hs : s < P.next.length) (ht : t < D.next.length) (hc : P.L = (c : Int)) (h : KC w1 wr P D free N k s t c g tv) : K2 w1 wr P D free N k s (t + 1) g tv := by
  rcases h with ⟨h1, h2, h3⟩ | ⟨h1, _⟩
  · exact k2_keep gd hs ht h1 fun e he => h3 e (by omega)
  · exact h1
/-- A pair from which one of both is dead is never set. -/
theorem k2_dead {w1 wr : World} {P D : Aut} {free : Int} {N k s t : Nat} {g : Bool} {tv : Value} (gd : Good2 P D) (hs : s < P.next.length) (ht : t < D.next.length) (hl : live2 P D s t = false) (h : K2 w1 wr P D free N k s t g tv) : K2 w1 wr P D free N k s (t + 1) g tv := by
  obtain ⟨rs, h1, h2, h3, h4, h5⟩ := h
  refine ⟨rs, h1, h2, rowsI_congr h3 fun x y _ _ => ?_, h4, fun e x y hx hy ht' => ?_⟩
  · unfold vtK
    by_cases q : x = s ∧ y = t
    · obtain ⟨rfl, rfl⟩ := q; rw [kv_dead gd hs ht hl, kv_dead gd hs ht hl]
    · rw [turn_next s t x y q]
  · by_cases q : x = s ∧ y = t
    · obtain ⟨rfl, rfl⟩ := q
      rw [lk_live gd hs ht hl]; omega
    · exact h5 e x y hx hy (by rw [turn_next s t x y q]; exact ht')
theorem kc_dead {w1 wr : World} {P D : Aut} {free : Int} {N k s t c : Nat} {g : Bool} {tv : Value} (gd : Good2 P D) (hs : s < P.next.length) (ht : t < D.next.length) (hl : live2 P D s t = false) (h : KC w1 wr P D free N k s t c g tv) : K2 w1 wr P D free N k s (t + 1) g tv := by
  rcases h with ⟨h1, _⟩ | ⟨h1, _⟩
  · exact k2_dead gd hs ht hl h1
  · exact h1
/-- What it answers. -/
noncomputable def tellsB (P D : Aut) (free : Int) : Bool × List Int := match keptW P D free with
  | none => (true, [])
  | some w => (false, w)
/-- The word under way: what is written, and what is still to come. -/
def WK (w2 wr : World) (P D : Aut) (free : Int) (x y k : Nat) (lv : Value) (W : List Int) : Prop := ∃ l, Own w2 wr [eInts lv l] [] ∧ l ++ pickB P D free k x y = W ∧ lk P D free x y = (k : Int) ∧ x < P.next.length ∧ y < D.next.length ∧ l.length + k ≤ 1600
end Go.Proofs.YtbciefeipiphiaaDoor.Su

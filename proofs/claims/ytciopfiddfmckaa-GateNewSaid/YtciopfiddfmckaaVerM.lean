/- Plain mathematics of package verdict: the verdict of a state, what is settled, the first word that settles it; what can be watched. -/
import Derived.Test.YtciopfiddfmckaaSafeM
namespace Go.Proofs.Ytciopfiddfmckaa.Ve
open Go.Proofs.Ytciopfiddfmckaa.Df Go.Proofs.Ytciopfiddfmckaa.Wo Go.Proofs.Ytciopfiddfmckaa.Rc Go.Proofs.Ytciopfiddfmckaa.Sm Go.Proofs.Ytciopfiddfmckaa.Sa

/-- The verdict by two bools and the state's own: is something accepted behind it, is something not? -/
def verN (yes no fin : Bool) : Nat := if yes then (if no then (if fin then 2 else 1) else 3) else 0
def verd (d : Aut) (s : Nat) : Nat := verN (isAlive d s) (isAlive (notA d) s) (finA d s)
def isSet (n : Nat) : Bool := n == 0 || n == 3
def settled (d : Aut) (s : Nat) : Bool := isSet (verd d s)
/-- The settled states are final. -/
def settA (d : Aut) : Aut := ⟨d.L, d.s, d.next, (List.range d.next.length).map (settled d)⟩
theorem verN_le (a b c : Bool) : verN a b c ≤ 3 := by rcases a with _ | _ <;> rcases b with _ | _ <;> rcases c with _ | _ <;> decide
theorem verd_le (d : Aut) (s : Nat) : verd d s ≤ 3 := verN_le _ _ _
theorem alive_not {d : Aut} (g : Good d) {s : Nat} (hs : s < d.next.length) : isAlive (notA d) s = true ↔ ∃ w, Word d.L w ∧ finA d (runA d s w) = false := by
  rw [isAlive_iff (notA_good g) (by exact hs)]
  constructor
  · rintro ⟨w, hw, h⟩
    refine ⟨w, hw, ?_⟩
    rw [notA_run, notA_fin g (g.run_lt hw hs)] at h
    simpa using h
  · rintro ⟨w, hw, h⟩
    exact ⟨w, hw, by rw [notA_run, notA_fin g (g.run_lt hw hs), h]; rfl⟩
theorem alive_no {d : Aut} (g : Good d) {s : Nat} (hs : s < d.next.length) : isAlive d s = false ↔ ∀ w, Word d.L w → finA d (runA d s w) = false := by
  constructor
  · intro h w hw
    rcases h2 : finA d (runA d s w) with _ | _
    · rfl
    · rw [(isAlive_iff g hs).2 ⟨w, hw, h2⟩] at h; cases h
  · intro h
    rcases h2 : isAlive d s with _ | _
    · rfl
    · obtain ⟨w, hw, h3⟩ := (isAlive_iff g hs).1 h2
      rw [h w hw] at h3; cases h3
theorem alive_not_no {d : Aut} (g : Good d) {s : Nat} (hs : s < d.next.length) : isAlive (notA d) s = false ↔ ∀ w, Word d.L w → finA d (runA d s w) = true := by
  constructor
  · intro h w hw
    rcases h2 : finA d (runA d s w) with _ | _
    · rw [(alive_not g hs).2 ⟨w, hw, h2⟩] at h; cases h
    · rfl
  · intro h
    rcases h2 : isAlive (notA d) s with _ | _
    · rfl
    · obtain ⟨w, hw, h3⟩ := (alive_not g hs).1 h2
      rw [h w hw] at h3; cases h3
theorem word_nil (L : Int) : Word L [] := fun a ha => by simp at ha
/-- Never, Forever, and what the word is. -/
theorem verd_zero {d : Aut} (g : Good d) {s : Nat} (hs : s < d.next.length) : verd d s = 0 ↔ ∀ w, Word d.L w → finA d (runA d s w) = false := by
  rw [← alive_no g hs]
  unfold verd verN
  rcases isAlive d s with _ | _ <;> rcases isAlive (notA d) s with _ | _ <;> rcases finA d s with _ | _ <;> simp
theorem verd_three {d : Aut} (g : Good d) {s : Nat} (hs : s < d.next.length) : verd d s = 3 ↔ ∀ w, Word d.L w → finA d (runA d s w) = true := by
  rw [← alive_not_no g hs]
  have h : isAlive (notA d) s = false → isAlive d s = true := fun h => (isAlive_iff g hs).2 ⟨[], word_nil _, (alive_not_no g hs).1 h [] (word_nil _)⟩
  unfold verd verN
  generalize isAlive d s = a at *
  generalize isAlive (notA d) s = b at *
  rcases a with _ | _ <;> rcases b with _ | _ <;> rcases finA d s with _ | _ <;> simp_all
theorem verd_two {d : Aut} (g : Good d) {s : Nat} (hs : s < d.next.length) : 2 ≤ verd d s ↔ finA d s = true := by
  have h0 := verd_zero g hs
  have h3 := verd_three g hs
  constructor
  · intro h
    by_cases e : verd d s = 3
    · exact h3.1 e [] (word_nil _)
    · unfold verd verN at h e
      rcases hf : finA d s with _ | _
      · rw [hf] at h e; repeat' split at h
        all_goals first | omega | simp_all
      · rfl
  · intro h
    have : verd d s ≠ 0 := fun e => by have := h0.1 e [] (word_nil _); rw [show finA d (runA d s []) = finA d s from rfl, h] at this; cases this
    unfold verd verN at this ⊢
    rw [h] at this ⊢
    repeat' split
    all_goals first | omega | simp_all
/-- What is settled stays so. -/
theorem verd_stays {d : Aut} (g : Good d) {s : Nat} (hs : s < d.next.length) {u : List Int} (hu : Word d.L u) (h : verd d s = 0 ∨ verd d s = 3) : verd d (runA d s u) = verd d s := by
  have hl := g.run_lt hu hs
  rcases h with h | h
  · rw [h, verd_zero g hl]
    intro w hw
    rw [← runA_append]
    exact (verd_zero g hs).1 h _ (word_append hu hw)
  · rw [h, verd_three g hl]
    intro w hw
    rw [← runA_append]
    exact (verd_three g hs).1 h _ (word_append hu hw)
theorem verd_not {d : Aut} (g : Good d) {s : Nat} (hs : s < d.next.length) : verd (notA d) s = 3 - verd d s := by
  have h : isAlive d s = false → isAlive (notA d) s = true := fun h => (alive_not g hs).2 ⟨[], word_nil _, (alive_no g hs).1 h [] (word_nil _)⟩
  unfold verd
  rw [notA_notA, notA_fin g hs]
  unfold verN
  generalize isAlive d s = a at *
  generalize isAlive (notA d) s = b at *
  rcases a with _ | _ <;> rcases b with _ | _ <;> rcases finA d s with _ | _ <;> simp_all
/-- By words. -/
theorem zero_word {d : Aut} (g : Good d) {w : List Int} (hw : Word d.L w) : verd d (runA d d.s.toNat w) = 0 ↔ ∀ u, Word d.L u → accA d (w ++ u) = false := by
  rw [verd_zero g (g.run_lt hw g.s_lt)]
  unfold accA
  simp only [runA_append]
theorem three_word {d : Aut} (g : Good d) {w : List Int} (hw : Word d.L w) : verd d (runA d d.s.toNat w) = 3 ↔ ∀ u, Word d.L u → accA d (w ++ u) = true := by
  rw [verd_three g (g.run_lt hw g.s_lt)]
  unfold accA
  simp only [runA_append]
theorem two_word {d : Aut} (g : Good d) {w : List Int} (hw : Word d.L w) : 2 ≤ verd d (runA d d.s.toNat w) ↔ accA d w = true := verd_two g (g.run_lt hw g.s_lt)
/-- Of what both accept it is never more than of the one. -/
theorem both_le {a b c : Aut} (ga : Good a) (gb : Good b) (gc : Good c) (h1 : a.L = c.L) (h2 : b.L = c.L) (h : ∀ w, Word c.L w → accA c w = (accA a w && accA b w)) {w : List Int} (hw : Word c.L w) :
    verd c (runA c c.s.toNat w) ≤ verd a (runA a a.s.toNat w) ∧ verd c (runA c c.s.toNat w) ≤ verd b (runA b b.s.toNat w) ∧
      (verd c (runA c c.s.toNat w) = 3 ↔ verd a (runA a a.s.toNat w) = 3 ∧ verd b (runA b b.s.toNat w) = 3) := by
  have hwa : Word a.L w := by rw [h1]; exact hw
  have hwb : Word b.L w := by rw [h2]; exact hw
  have a0 := zero_word ga hwa
  have a3 := three_word ga hwa
  have a2 := two_word ga hwa
  have b0 := zero_word gb hwb
  have b3 := three_word gb hwb
  have b2 := two_word gb hwb
  have c0 := zero_word gc hw
  have c3 := three_word gc hw
  have c2 := two_word gc hw
  rw [h1] at a0 a3
  rw [h2] at b0 b3
  have k3 : (∀ u, Word c.L u → accA c (w ++ u) = true) ↔ (∀ u, Word c.L u → accA a (w ++ u) = true) ∧ (∀ u, Word c.L u → accA b (w ++ u) = true) := by
    constructor
    · intro k
      refine ⟨fun u hu => ?_, fun u hu => ?_⟩
      · have := k u hu; rw [h _ (word_append hw hu), Bool.and_eq_true] at this; exact this.1
      · have := k u hu; rw [h _ (word_append hw hu), Bool.and_eq_true] at this; exact this.2
    · rintro ⟨k1, k2⟩ u hu
      rw [h _ (word_append hw hu), k1 u hu, k2 u hu]; rfl
  have ka : (∀ u, Word c.L u → accA a (w ++ u) = false) → (∀ u, Word c.L u → accA c (w ++ u) = false) := fun k u hu => by rw [h _ (word_append hw hu), k u hu]; rfl
  have kb : (∀ u, Word c.L u → accA b (w ++ u) = false) → (∀ u, Word c.L u → accA c (w ++ u) = false) := fun k u hu => by rw [h _ (word_append hw hu), k u hu, Bool.and_false]
  rw [← a3, ← b3, ← c3] at k3
  rw [← a0, ← c0] at ka
  rw [← b0, ← c0] at kb
  have kf : accA c w = true ↔ accA a w = true ∧ accA b w = true := by rw [h w hw, Bool.and_eq_true]
  rw [← a2, ← b2, ← c2] at kf
  have la := verd_le a (runA a a.s.toNat w)
  have lb := verd_le b (runA b b.s.toNat w)
  have lc := verd_le c (runA c c.s.toNat w)
  generalize verd a (runA a a.s.toNat w) = x at *
  generalize verd b (runA b b.s.toNat w) = y at *
  generalize verd c (runA c c.s.toNat w) = z at *
  refine ⟨?_, ?_, k3⟩
  · by_cases e : z = 3
    · have := (k3.1 e).1; omega
    · by_cases e2 : 2 ≤ z
      · have := (kf.1 e2).1; omega
      · have : x ≠ 0 ∨ z = 0 := by
          by_cases e3 : x = 0
          · exact .inr (ka e3)
          · exact .inl e3
        omega
  · by_cases e : z = 3
    · have := (k3.1 e).2; omega
    · by_cases e2 : 2 ≤ z
      · have := (kf.1 e2).2; omega
      · have : y ≠ 0 ∨ z = 0 := by
          by_cases e3 : y = 0
          · exact .inr (kb e3)
          · exact .inl e3
        omega

/-! ### the first word that settles it -/
theorem sett_good {d : Aut} (g : Good d) : Good (settA d) := ⟨g.l1, g.l6, g.n1, g.n40, by simp [settA], g.row, g.st, g.go⟩
theorem sett_run (d : Aut) (q : Nat) (w : List Int) : runA (settA d) q w = runA d q w := rfl
theorem sett_fin {d : Aut} {q : Nat} (hq : q < d.next.length) : finA (settA d) q = settled d q := by
  unfold finA settA; simp only; rw [List.getElem?_map, List.getElem?_range hq]; rfl
theorem isSet_iff (n : Nat) : isSet n = true ↔ n = 0 ∨ n = 3 := by unfold isSet; simp
/-- The first word behind w that settles it. -/
def soon (d : Aut) (s : Nat) : Option (List Int) := firstW (settA d) s
theorem soon_some {d : Aut} (g : Good d) {s : Nat} (hs : s < d.next.length) {u : List Int} (h : soon d s = some u) :
    Word d.L u ∧ settled d (runA d s u) = true ∧ u.length < d.next.length ∧ ∀ v, Word d.L v → settled d (runA d s v) = true → lss v u = false := by
  obtain ⟨h1, h2, h3, h4⟩ := firstW_some (sett_good g) (s := s) (by exact hs) h
  have h1 : Word d.L u := h1
  refine ⟨h1, ?_, h2, fun v hv hf => h4 v hv ?_⟩
  · rw [sett_run, sett_fin (g.run_lt h1 hs)] at h3; exact h3
  · rw [sett_run, sett_fin (g.run_lt hv hs)]; exact hf
theorem soon_none {d : Aut} (g : Good d) {s : Nat} (hs : s < d.next.length) (h : soon d s = none) {v : List Int} (hv : Word d.L v) : settled d (runA d s v) = false := by
  have := firstW_none (sett_good g) (s := s) (by exact hs) h (v := v) hv
  rw [sett_run, sett_fin (g.run_lt hv hs)] at this
  exact this
theorem soon_alive {d : Aut} (g : Good d) {s : Nat} (hs : s < d.next.length) : isAlive (settA d) s = (soon d s).isSome := by
  rcases h : soon d s with _ | u
  · show isAlive (settA d) s = false
    rw [alive_no (sett_good g) (by exact hs)]
    intro w hw
    rw [sett_run, sett_fin (g.run_lt hw hs)]
    exact soon_none g hs h hw
  · obtain ⟨h1, h2, _⟩ := soon_some g hs h
    exact (isAlive_iff (sett_good g) (by exact hs)).2 ⟨u, h1, by rw [sett_run, sett_fin (g.run_lt h1 hs)]; exact h2⟩
/-- All that is reached can be settled. -/
def watchB (d : Aut) : Bool := (List.range d.next.length).all fun s => !(isReached d d.s.toNat s && !isAlive (settA d) s)
theorem watch_iff {d : Aut} (g : Good d) : watchB d = true ↔ ∀ w, Word d.L w → (soon d (runA d d.s.toNat w)).isSome = true := by
  unfold watchB
  rw [List.all_eq_true]
  constructor
  · intro h w hw
    have hl := g.run_lt hw g.s_lt
    have := h _ (List.mem_range.2 hl)
    rw [(reached_iff g g.s_lt).2 ⟨w, hw, rfl⟩, soon_alive g hl] at this
    simpa using this
  · intro h s hs
    have hs := List.mem_range.1 hs
    rcases hr : isReached d d.s.toNat s with _ | _
    · rfl
    · obtain ⟨w, hw, rfl⟩ := (reached_iff g g.s_lt).1 hr
      rw [soon_alive g hs, h w hw]; rfl
/-- By the places so far (the reference's loop). -/
def watchTo (d : Aut) (k : Nat) : Bool := (List.range k).all fun s => !(isReached d d.s.toNat s && !isAlive (settA d) s)
theorem watchTo_succ (d : Aut) (k : Nat) : watchTo d (k + 1) = (watchTo d k && !(isReached d d.s.toNat k && !isAlive (settA d) k)) := by unfold watchTo; rw [List.range_succ, List.all_append]; simp
theorem watchTo_all (d : Aut) : watchTo d d.next.length = watchB d := rfl
/-- Another start. -/
def startA (d : Aut) (s : Nat) : Aut := ⟨d.L, (s : Int), d.next, d.fin⟩
theorem start_good {d : Aut} (g : Good d) {s : Nat} (hs : s < d.next.length) : Good (startA d s) := ⟨g.l1, g.l6, g.n1, g.n40, g.fin, g.row, ⟨by show (0 : Int) ≤ s; omega, by show (s : Int) < d.next.length; omega⟩, g.go⟩
theorem inK_start (d : Aut) (s : Nat) : ∀ (k q : Nat), inK (startA d s) k q = inK d k q
  | 0, _ => rfl
  | k + 1, q => by
    show (List.range d.L.toNat).any (fun a => inK (startA d s) k (step d q a)) = (List.range d.L.toNat).any (fun a => inK d k (step d q a))
    congr 1
    funext a
    exact inK_start d s k _
/-- Nothing accepted is ahead just if no word is. -/
theorem first_none_iff {d : Aut} (g : Good d) {s : Nat} (hs : s < d.next.length) : firstW d s = none ↔ isAlive d s = false := by
  constructor
  · intro h
    rw [alive_no g hs]
    intro w hw
    exact firstW_none g hs h hw
  · intro h
    exact firstW_is_none g hs fun v hv => (alive_no g hs).1 h v hv
theorem start_alive {d : Aut} (g : Good d) {s : Nat} (hs : s < d.next.length) (q : Nat) (hq : q < d.next.length) : isAlive (startA d s) q = isAlive d q := by
  refine Bool.eq_iff_iff.2 ?_
  rw [isAlive_iff (start_good g hs) (by exact hq), isAlive_iff g hq]
  rfl
theorem early_zero {d : Aut} (g : Good d) {s : Nat} (hs : s < d.next.length) : (verd d s == 0) = (firstW (startA d s) s).isNone := by
  have h := (first_none_iff (start_good g hs) (s := s) (by exact hs))
  rw [start_alive g hs s hs] at h
  rcases hf : firstW (startA d s) s with _ | u
  · have := h.1 hf
    unfold verd verN; rw [this]; rfl
  · have : isAlive d s = true := by
      rcases h2 : isAlive d s with _ | _
      · rw [h.2 h2] at hf; cases hf
      · rfl
    unfold verd verN; rw [this]
    rcases isAlive (notA d) s with _ | _ <;> rcases finA d s with _ | _ <;> rfl
theorem early_three {d : Aut} (g : Good d) {s : Nat} (hs : s < d.next.length) : (verd d s == 3) = (firstW (startA (notA d) s) s).isNone := by
  rw [← early_zero (notA_good g) (by exact hs), verd_not g hs]
  have := verd_le d s
  generalize verd d s = x at *
  have hx : x = 0 ∨ x = 1 ∨ x = 2 ∨ x = 3 := by omega
  rcases hx with rfl | rfl | rfl | rfl <;> rfl
end Go.Proofs.Ytciopfiddfmckaa.Ve

/- Plain facts on frames as lists of bytes: written, read, read on, cut, turned, scanned. -/
import Derived.Test.YtjebkipdooimbaaDoorPackM
import Derived.Test.YtjebkipdooimbaaDoorSumM
namespace Go.Proofs.YtjebkipdooimbaaDoor.Fr
open Go.Proofs.YtjebkipdooimbaaDoor.Pk Go.Proofs.YtjebkipdooimbaaDoor.Sm

theorem rd_ext {s : List UInt8} (t : List UInt8) {n u e : Nat} (h : rd s = (n, u, e)) (he : e ≠ 5) : rd (s ++ t) = (n, u, e) := by
  rcases Pk.shape s with ⟨p, b, r, rfl, hp, hl, hb⟩ | ⟨hp, hl⟩ | ⟨p, r, rfl, hp, hl⟩
  · rw [rd_stop p r b hp hl hb] at h
    rw [List.append_assoc, List.cons_append, rd_stop p (r ++ t) b hp hl hb, h]
  · rw [rd_short s hp hl] at h
    simp only [Prod.mk.injEq] at h
    omega
  · rw [rd_long p r hp hl] at h
    rw [List.append_assoc, rd_long p (r ++ t) hp hl, h]

/-! ### one frame -/
def frm (b : List UInt8) : List UInt8 := num b.length ++ b ++ num (sm b)
def rfT (s : List UInt8) (n u : Nat) : List UInt8 × Nat × Nat :=
  match rd (s.drop (u + n)) with
  | (c, v, 0) => if c = sm ((s.drop u).take n) then ((s.drop u).take n, u + n + v, 0) else ([], 0, 7)
  | (_, _, e + 1) => ([], 0, e + 1)
def rf (s : List UInt8) : List UInt8 × Nat × Nat :=
  match rd s with
  | (n, u, 0) => if 200 < n then ([], 0, 4) else if s.length < u + n then ([], 0, 5) else rfT s n u
  | (_, _, e + 1) => ([], 0, e + 1)

theorem rf_head {s : List UInt8} {n u : Nat} (h : rd s = (n, u, 0)) : rf s = if 200 < n then ([], 0, 4) else if s.length < u + n then ([], 0, 5) else rfT s n u := by
  unfold rf; rw [h]
theorem rf_headBad {s : List UInt8} {n u e : Nat} (h : rd s = (n, u, e + 1)) : rf s = ([], 0, e + 1) := by
  unfold rf; rw [h]
theorem rfT_ok {s : List UInt8} {n u c v : Nat} (h : rd (s.drop (u + n)) = (c, v, 0)) : rfT s n u = if c = sm ((s.drop u).take n) then ((s.drop u).take n, u + n + v, 0) else ([], 0, 7) := by
  unfold rfT; rw [h]
theorem rfT_bad {s : List UInt8} {n u c v e : Nat} (h : rd (s.drop (u + n)) = (c, v, e + 1)) : rfT s n u = ([], 0, e + 1) := by
  unfold rfT; rw [h]
theorem rf_nil : rf [] = ([], 0, 5) := by
  have : rd [] = (0, 0, 5) := rd_short [] (by simp) (by simp)
  exact rf_headBad this

/-- What a text reads as, whatever the body says: the number n, the body of n bytes, another number. -/
theorem rf_parts (b : List UInt8) (c : Nat) (rest : List UInt8) (hb : b.length ≤ 200) (hc : c < 9223372036854775808) :
    rf (num b.length ++ b ++ num c ++ rest) = if c = sm b then (b, (num b.length).length + b.length + (num c).length, 0) else ([], 0, 7) := by
  have h1 : rd (num b.length ++ b ++ num c ++ rest) = (b.length, (num b.length).length, 0) := by
    rw [List.append_assoc, List.append_assoc]; exact rd_num _ _ (by omega)
  have e1 : (num b.length ++ b ++ num c ++ rest).drop (num b.length).length = b ++ (num c ++ rest) := by
    rw [List.append_assoc, List.append_assoc, List.drop_left]
  have e2 : ((num b.length ++ b ++ num c ++ rest).drop (num b.length).length).take b.length = b := by
    rw [e1, List.take_left]
  have e3 : (num b.length ++ b ++ num c ++ rest).drop ((num b.length).length + b.length) = num c ++ rest := by
    rw [← List.drop_drop, e1, List.drop_left]
  have h2 : rd ((num b.length ++ b ++ num c ++ rest).drop ((num b.length).length + b.length)) = (c, (num c).length, 0) := by
    rw [e3]; exact rd_num _ _ hc
  rw [rf_head h1, if_neg (by omega), if_neg (by simp only [List.length_append]; omega), rfT_ok h2, e2]
theorem rf_frm (b rest : List UInt8) (hb : b.length ≤ 200) : rf (frm b ++ rest) = (b, (frm b).length, 0) := by
  have hs := sm_lt b
  unfold frm
  rw [rf_parts b (sm b) rest hb (by omega), if_pos rfl, List.length_append, List.length_append]
theorem frm_len (b : List UInt8) (hb : b.length ≤ 200) : 2 ≤ (frm b).length ∧ (frm b).length ≤ 218 := by
  have h1 := num_len b.length
  have h2 := num_len (sm b)
  unfold frm
  rw [List.length_append, List.length_append]
  omega

theorem rf_ok {s b : List UInt8} {u : Nat} (h : rf s = (b, u, 0)) : b.length ≤ 200 ∧ frm b = s.take u ∧ u ≤ s.length ∧ 2 ≤ u := by
  rcases hx : rd s with ⟨n, v, _ | e⟩
  · rw [rf_head hx] at h
    have ho := rd_ok hx
    by_cases h1 : 200 < n
    · rw [if_pos h1] at h; simp at h
    · by_cases h2 : s.length < v + n
      · rw [if_neg h1, if_pos h2] at h; simp at h
      · rw [if_neg h1, if_neg h2] at h
        rcases hy : rd (s.drop (v + n)) with ⟨c, m, _ | e⟩
        · rw [rfT_ok hy] at h
          have hq := rd_ok hy
          rw [List.length_drop] at hq
          by_cases h3 : c = sm ((s.drop v).take n)
          · rw [if_pos h3] at h
            obtain ⟨rfl, rfl, _⟩ := h
            have hl : ((s.drop v).take n).length = n := by rw [List.length_take, List.length_drop]; omega
            refine ⟨by omega, ?_, by omega, by omega⟩
            unfold frm
            rw [hl, ← h3, num_rd hx, num_rd hy, List.take_add, List.take_add]
          · rw [if_neg h3] at h; simp at h
        · rw [rfT_bad hy] at h; simp at h
  · rw [rf_headBad hx] at h; simp at h
theorem rf_bad {s b : List UInt8} {u e : Nat} (h : rf s = (b, u, e)) (he : e ≠ 0) : b = [] ∧ u = 0 ∧ (e = 2 ∨ e = 4 ∨ e = 5 ∨ e = 7) := by
  rcases hx : rd s with ⟨n, v, _ | e1⟩
  · rw [rf_head hx] at h
    by_cases h1 : 200 < n
    · rw [if_pos h1] at h; simp at h; obtain ⟨rfl, rfl, rfl⟩ := h; simp
    · by_cases h2 : s.length < v + n
      · rw [if_neg h1, if_pos h2] at h; simp at h; obtain ⟨rfl, rfl, rfl⟩ := h; simp
      · rw [if_neg h1, if_neg h2] at h
        rcases hy : rd (s.drop (v + n)) with ⟨c, m, _ | e2⟩
        · rw [rfT_ok hy] at h
          by_cases h3 : c = sm ((s.drop v).take n)
          · rw [if_pos h3] at h; simp at h; omega
          · rw [if_neg h3] at h; simp at h; obtain ⟨rfl, rfl, rfl⟩ := h; simp
        · have hq := rd_bad hy (by omega)
          rw [rfT_bad hy] at h; simp at h; obtain ⟨rfl, rfl, rfl⟩ := h
          refine ⟨rfl, rfl, by omega⟩
  · have hq := rd_bad hx (by omega)
    rw [rf_headBad hx] at h; simp at h; obtain ⟨rfl, rfl, rfl⟩ := h
    refine ⟨rfl, rfl, by omega⟩
/-- What is told of a text is told of it with more behind, unless more was wanted. -/
theorem rf_ext {s : List UInt8} (t : List UInt8) {b : List UInt8} {u e : Nat} (h : rf s = (b, u, e)) (he : e ≠ 5) : rf (s ++ t) = (b, u, e) := by
  rcases hx : rd s with ⟨n, v, _ | e1⟩
  · rw [rf_head hx] at h
    have ho := rd_ok hx
    rw [rf_head (rd_ext t hx (by omega))]
    by_cases h1 : 200 < n
    · rw [if_pos h1] at h; rw [if_pos h1, h]
    · by_cases h2 : s.length < v + n
      · rw [if_neg h1, if_pos h2] at h; simp at h; omega
      · rw [if_neg h1, if_neg h2] at h
        rw [if_neg h1, if_neg (by rw [List.length_append]; omega)]
        have ed : (s ++ t).drop (v + n) = s.drop (v + n) ++ t := List.drop_append_of_le_length (by omega)
        have et : ((s ++ t).drop v).take n = (s.drop v).take n := by
          rw [List.drop_append_of_le_length (by omega), List.take_append_of_le_length (by rw [List.length_drop]; omega)]
        rcases hy : rd (s.drop (v + n)) with ⟨c, m, _ | e2⟩
        · have hy2 : rd ((s ++ t).drop (v + n)) = (c, m, 0) := by rw [ed]; exact rd_ext t hy (by omega)
          rw [rfT_ok hy] at h
          rw [rfT_ok hy2, et, h]
        · rw [rfT_bad hy] at h
          have he2 : e2 + 1 ≠ 5 := by intro h5; simp at h; omega
          have hy2 : rd ((s ++ t).drop (v + n)) = (c, m, e2 + 1) := by rw [ed]; exact rd_ext t hy he2
          rw [rfT_bad hy2, h]
  · rw [rf_headBad hx] at h
    have he2 : e1 + 1 ≠ 5 := by intro h5; simp at h; omega
    rw [rf_headBad (rd_ext t hx he2), h]
theorem rf_cut (b : List UInt8) (k : Nat) (hb : b.length ≤ 200) (hk : k < (frm b).length) : rf ((frm b).take k) = ([], 0, 5) := by
  rcases hx : rf ((frm b).take k) with ⟨b1, u, e⟩
  by_cases he : e = 5
  · subst he
    obtain ⟨rfl, rfl, _⟩ := rf_bad hx (by omega)
    rfl
  · have h1 := rf_ext ((frm b).drop k) hx he
    have h2 := rf_frm b [] hb
    rw [List.take_append_drop] at h1
    rw [List.append_nil] at h2
    rw [h2] at h1
    simp only [Prod.mk.injEq] at h1
    obtain ⟨rfl, rfl, rfl⟩ := h1
    have := (rf_ok hx).2.2.1
    rw [List.length_take] at this
    omega
theorem rf_turn (p r : List UInt8) (b c : UInt8) (rest : List UInt8) (hb : (p ++ b :: r).length ≤ 200) (hc : b ≠ c) :
    rf (num (p ++ b :: r).length ++ (p ++ c :: r) ++ num (sm (p ++ b :: r)) ++ rest) = ([], 0, 7) := by
  have hl : (p ++ b :: r).length = (p ++ c :: r).length := by simp
  have hs := sm_lt (p ++ b :: r)
  rw [hl] at hb ⊢
  rw [rf_parts (p ++ c :: r) (sm (p ++ b :: r)) rest hb (by omega), if_neg (fun h => hc ((sm_one p r b c).1 h))]

/-! ### many -/
def sc : Nat → List UInt8 → List (List UInt8) × Nat × Nat
  | 0, _ => ([], 0, 0)
  | f + 1, s => match rf s with
    | (b, u, 0) => (b :: (sc f (s.drop u)).1, u + (sc f (s.drop u)).2.1, (sc f (s.drop u)).2.2)
    | (_, _, e + 1) => ([], 0, if e = 4 then 0 else e + 1)
def scan (s : List UInt8) : List (List UInt8) × Nat × Nat := sc s.length s
theorem sc_ok {s b : List UInt8} {u : Nat} (f : Nat) (h : rf s = (b, u, 0)) : sc (f + 1) s = (b :: (sc f (s.drop u)).1, u + (sc f (s.drop u)).2.1, (sc f (s.drop u)).2.2) := by
  rw [sc, h]
theorem sc_bad {s b : List UInt8} {u e : Nat} (f : Nat) (h : rf s = (b, u, e + 1)) : sc (f + 1) s = ([], 0, if e = 4 then 0 else e + 1) := by
  rw [sc, h]
theorem sc_fuel (m : Nat) : ∀ (s : List UInt8) (f : Nat), s.length = m → m ≤ f → sc f s = sc m s := by
  induction m using Nat.strongRecOn with
  | ind m ih =>
    intro s f hm hf
    rcases m with _ | m
    · have : s = [] := List.length_eq_zero_iff.1 hm
      subst this
      rcases f with _ | f
      · rfl
      · rw [sc_bad f rf_nil, sc]; rfl
    · obtain ⟨f, rfl⟩ : ∃ g, f = g + 1 := ⟨f - 1, by omega⟩
      rcases hx : rf s with ⟨b, u, _ | e⟩
      · have ho := rf_ok hx
        have hl : (s.drop u).length = m + 1 - u := by rw [List.length_drop]; omega
        rw [sc_ok f hx, sc_ok m hx, ih (m + 1 - u) (by omega) (s.drop u) f hl (by omega), ih (m + 1 - u) (by omega) (s.drop u) m hl (by omega)]
      · rw [sc_bad f hx, sc_bad m hx]
theorem scan_more {s b : List UInt8} {u : Nat} (h : rf s = (b, u, 0)) : scan s = (b :: (scan (s.drop u)).1, u + (scan (s.drop u)).2.1, (scan (s.drop u)).2.2) := by
  have ho := rf_ok h
  unfold scan
  obtain ⟨m, hm⟩ : ∃ m, s.length = m + 1 := ⟨s.length - 1, by omega⟩
  rw [hm, sc_ok m h, sc_fuel (s.drop u).length (s.drop u) m rfl (by rw [List.length_drop]; omega)]
theorem scan_stop {s : List UInt8} (h : rf s = ([], 0, 5)) : scan s = ([], 0, 0) := by
  unfold scan
  rw [← sc_fuel s.length s (s.length + 1) rfl (by omega), sc_bad _ h]; rfl
theorem scan_bad {s b : List UInt8} {u e : Nat} (h : rf s = (b, u, e)) (h0 : e ≠ 0) (h5 : e ≠ 5) : scan s = ([], 0, e) := by
  obtain ⟨e, rfl⟩ : ∃ g, e = g + 1 := ⟨e - 1, by omega⟩
  unfold scan
  rw [← sc_fuel s.length s (s.length + 1) rfl (by omega), sc_bad _ h, if_neg (by omega)]
theorem scan_nil : scan [] = ([], 0, 0) := rfl

def frames (l : List (List UInt8)) : List UInt8 := l.flatMap frm
theorem frames_nil : frames [] = [] := rfl
theorem frames_cons (b : List UInt8) (l : List (List UInt8)) : frames (b :: l) = frm b ++ frames l := rfl
theorem frames_append (l m : List (List UInt8)) : frames (l ++ m) = frames l ++ frames m := by simp [frames]
theorem frames_snoc (l : List (List UInt8)) (b : List UInt8) : frames (l ++ [b]) = frames l ++ frm b := by simp [frames]
theorem frames_le (l : List (List UInt8)) (h : ∀ b ∈ l, b.length ≤ 200) : 2 * l.length ≤ (frames l).length ∧ (frames l).length ≤ 218 * l.length := by
  induction l with
  | nil => simp [frames]
  | cons b r ih =>
    have h1 := ih fun x hx => h x (by simp [hx])
    have h2 := frm_len b (h b (by simp))
    rw [frames_cons, List.length_append, List.length_cons]
    omega
/-- Frames ahead are scanned first. -/
theorem scan_frames (l : List (List UInt8)) (rest : List UInt8) (h : ∀ b ∈ l, b.length ≤ 200) :
    scan (frames l ++ rest) = (l ++ (scan rest).1, (frames l).length + (scan rest).2.1, (scan rest).2.2) := by
  induction l with
  | nil => simp [frames]
  | cons b r ih =>
    rw [frames_cons, List.append_assoc, scan_more (rf_frm b _ (h b (by simp))), List.drop_left, ih fun x hx => h x (by simp [hx])]
    simp only [List.cons_append, List.length_append]
    rw [Nat.add_assoc]
/-- What a scan tells, whole. -/
theorem scan_tells (m : Nat) : ∀ (s : List UInt8), s.length = m → ∀ {l : List (List UInt8)} {u e : Nat}, scan s = (l, u, e) →
    (∀ b ∈ l, b.length ≤ 200) ∧ u = (frames l).length ∧ ∃ r, s = frames l ++ r ∧ ((e = 0 ∧ rf r = ([], 0, 5)) ∨ (e ≠ 0 ∧ e ≠ 5 ∧ rf r = ([], 0, e))) := by
  induction m using Nat.strongRecOn with
  | ind m ih =>
    intro s hm l u e h
    rcases hx : rf s with ⟨b, v, e0⟩
    by_cases h0 : e0 = 0
    · subst h0
      have ho := rf_ok hx
      rw [scan_more hx] at h
      rcases hy : scan (s.drop v) with ⟨l2, u2, e2⟩
      rw [hy] at h
      simp only [Prod.mk.injEq] at h
      obtain ⟨rfl, rfl, rfl⟩ := h
      obtain ⟨k1, k2, r, k3, k4⟩ := ih (m - v) (by omega) (s.drop v) (by rw [List.length_drop]; omega) hy
      refine ⟨?_, ?_, r, ?_, k4⟩
      · intro x hx
        rcases List.mem_cons.1 hx with rfl | hx
        · exact ho.1
        · exact k1 x hx
      · rw [frames_cons, List.length_append, ho.2.1, List.length_take, k2]; omega
      · rw [frames_cons, List.append_assoc, ← k3, ho.2.1, List.take_append_drop]
    · obtain ⟨rfl, rfl, hc⟩ := rf_bad hx h0
      by_cases h5 : e0 = 5
      · subst h5
        rw [scan_stop hx] at h
        simp only [Prod.mk.injEq] at h
        obtain ⟨rfl, rfl, rfl⟩ := h
        exact ⟨by simp, rfl, s, rfl, Or.inl ⟨rfl, hx⟩⟩
      · rw [scan_bad hx h0 h5] at h
        simp only [Prod.mk.injEq] at h
        obtain ⟨rfl, rfl, rfl⟩ := h
        exact ⟨by simp, rfl, s, rfl, Or.inr ⟨h0, h5, hx⟩⟩
theorem scan_whole (l : List (List UInt8)) (h : ∀ b ∈ l, b.length ≤ 200) : scan (frames l) = (l, (frames l).length, 0) := by
  have := scan_frames l [] h
  rw [scan_nil] at this
  simpa using this
/-- Frames that are cut at k: the whole ones, and what is left of one. -/
theorem torn (l : List (List UInt8)) : ∀ (k : Nat), (∀ b ∈ l, b.length ≤ 200) → k ≤ (frames l).length →
    ∃ j r, j ≤ l.length ∧ (frames l).take k = frames (l.take j) ++ r ∧ rf r = ([], 0, 5) ∧ (frames (l.take j)).length + r.length = k ∧
      (j = l.length → r = []) ∧ (∀ x, l[j]? = some x → r.length < (frm x).length) := by
  induction l with
  | nil => intro k _ hk; exact ⟨0, [], by simp, by simp [frames], rf_nil, by simp [frames] at hk ⊢; omega, by simp, by simp⟩
  | cons b t ih =>
    intro k h hk
    rw [frames_cons] at hk ⊢
    by_cases hlt : k < (frm b).length
    · refine ⟨0, (frm b).take k, by simp, ?_, rf_cut b k (h b (by simp)) hlt, ?_, by simp, ?_⟩
      · rw [List.take_append_of_le_length (by omega)]; rfl
      · simp [frames, List.length_take]; omega
      · intro x hx
        simp at hx; subst hx
        rw [List.length_take]; omega
    · obtain ⟨j, r, h1, h2, h3, h4, h5, h6⟩ := ih (k - (frm b).length) (fun x hx => h x (by simp [hx])) (by rw [List.length_append] at hk; omega)
      refine ⟨j + 1, r, by simp; omega, ?_, h3, ?_, fun e => h5 (by simpa using e), fun x hx => h6 x (by simpa using hx)⟩
      · rw [List.take_append, List.take_of_length_le (by omega), h2, List.take_succ_cons, frames_cons, List.append_assoc]
      · rw [List.take_succ_cons, frames_cons, List.length_append]; omega
theorem scan_torn (l : List (List UInt8)) (k : Nat) (h : ∀ b ∈ l, b.length ≤ 200) (hk : k ≤ (frames l).length) :
    ∃ j, j ≤ l.length ∧ scan ((frames l).take k) = (l.take j, (frames (l.take j)).length, 0) ∧ (frames (l.take j)).length ≤ k ∧
      (j = l.length → (frames (l.take j)).length = k) ∧ (∀ x, l[j]? = some x → k - (frames (l.take j)).length < (frm x).length) := by
  obtain ⟨j, r, h1, h2, h3, h4, h5, h6⟩ := torn l k h hk
  refine ⟨j, h1, ?_, by omega, fun e => by rw [h5 e] at h4; simpa using h4, fun x hx => by have := h6 x hx; omega⟩
  rw [h2, scan_frames (l.take j) r (fun x hx => h x (List.mem_of_mem_take hx)), scan_stop h3]
  simp
/-- A text that goes on. -/
theorem scan_goes {s : List UInt8} (t : List UInt8) {l : List (List UInt8)} {u : Nat} (h : scan s = (l, u, 0)) :
    u ≤ s.length ∧ scan (s ++ t) = (l ++ (scan (s.drop u ++ t)).1, u + (scan (s.drop u ++ t)).2.1, (scan (s.drop u ++ t)).2.2) := by
  obtain ⟨h1, rfl, r, rfl, h3⟩ := scan_tells s.length s rfl h
  refine ⟨by rw [List.length_append]; omega, ?_⟩
  rw [List.append_assoc, scan_frames l _ h1, List.drop_left]
theorem scan_stays {s : List UInt8} (t : List UInt8) {l : List (List UInt8)} {u e : Nat} (h : scan s = (l, u, e)) (he : e ≠ 0) :
    u ≤ s.length ∧ scan (s ++ t) = (l, u, e) := by
  obtain ⟨h1, rfl, r, rfl, h3⟩ := scan_tells s.length s rfl h
  rcases h3 with ⟨h3, _⟩ | ⟨_, h5, hr⟩
  · exact absurd h3 he
  · refine ⟨by rw [List.length_append]; omega, ?_⟩
    rw [List.append_assoc, scan_frames l _ h1, scan_bad (rf_ext t hr h5) he h5]
    simp
theorem scan_le {s : List UInt8} {l : List (List UInt8)} {u e : Nat} (h : scan s = (l, u, e)) : u ≤ s.length ∧ 2 * l.length ≤ u ∧ (∀ b ∈ l, b.length ≤ 200) ∧ e ≤ 7 := by
  obtain ⟨h1, rfl, r, rfl, h3⟩ := scan_tells s.length s rfl h
  refine ⟨by rw [List.length_append]; omega, (frames_le l h1).1, h1, ?_⟩
  rcases h3 with ⟨h0, _⟩ | ⟨h0, h5, hr⟩
  · omega
  · have := (rf_bad hr h0).2.2; omega
theorem scan_turn (l : List (List UInt8)) (p r : List UInt8) (b c : UInt8) (h : ∀ x ∈ l, x.length ≤ 200) (hb : (p ++ b :: r).length ≤ 200) (hc : b ≠ c) :
    scan (frames l ++ (num (p ++ b :: r).length ++ (p ++ c :: r) ++ num (sm (p ++ b :: r)))) = (l, (frames l).length, 7) := by
  have := rf_turn p r b c [] hb hc
  rw [List.append_nil] at this
  rw [scan_frames l _ h, scan_bad this (by omega) (by omega)]
  simp
end Go.Proofs.YtjebkipdooimbaaDoor.Fr

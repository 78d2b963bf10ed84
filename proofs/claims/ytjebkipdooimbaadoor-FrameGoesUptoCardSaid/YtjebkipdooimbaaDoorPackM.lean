/- Plain facts on base-128 numbers as lists of bytes: writing, reading, reading back, one form, cut too early. -/
import Derived.PlainAid
namespace Go.Proofs.YtjebkipdooimbaaDoor.Pk

/-! ### writing -/
def enc : Nat → Nat → List UInt8
  | 0, n => [UInt8.ofNat n]
  | f + 1, n => if n < 128 then [UInt8.ofNat n] else UInt8.ofNat (n % 128 + 128) :: enc f (n / 128)
/-- A number below 2^63, its digits. -/
def num (n : Nat) : List UInt8 := enc 8 n

theorem enc_len (f : Nat) : ∀ n, 1 ≤ (enc f n).length ∧ (enc f n).length ≤ f + 1 := by
  induction f with
  | zero => intro n; simp [enc]
  | succ f ih =>
    intro n
    unfold enc
    have := ih (n / 128)
    split <;> simp <;> omega
theorem num_len (n : Nat) : 1 ≤ (num n).length ∧ (num n).length ≤ 9 := enc_len 8 n

/-! ### reading -/
def hi (b : UInt8) : Bool := decide (128 ≤ b.toNat)
def val : List UInt8 → Nat
  | [] => 0
  | b :: r => b.toNat % 128 + 128 * val r
/-- f: how many digits may still come; first: is this the first digit? Number, bytes, what is wrong. -/
def rdF : Nat → Bool → List UInt8 → Nat × Nat × Nat
  | 0, _, _ => (0, 0, 2)
  | _ + 1, _, [] => (0, 0, 5)
  | f + 1, first, b :: r =>
    if 128 ≤ b.toNat then
      match rdF f false r with
      | (n, u, 0) => (b.toNat % 128 + 128 * n, u + 1, 0)
      | (_, _, e + 1) => (0, 0, e + 1)
    else if b.toNat = 0 ∧ first = false then (0, 0, 2) else (b.toNat, 1, 0)
def rd (s : List UInt8) : Nat × Nat × Nat := rdF 9 true s

theorem rdF_hi (f : Nat) (first : Bool) (b : UInt8) (r : List UInt8) (hb : 128 ≤ b.toNat) : rdF (f + 1) first (b :: r) = match rdF f false r with
      | (n, u, 0) => (b.toNat % 128 + 128 * n, u + 1, 0)
      | (_, _, e + 1) => (0, 0, e + 1) := by
  rw [rdF, if_pos hb]
theorem val_append (a b : List UInt8) : val (a ++ b) = val a + 128 ^ a.length * val b := by
  induction a with
  | nil => simp [val]
  | cons x r ih => simp [val, ih, Nat.pow_succ, Nat.mul_add]; rw [Nat.mul_comm (128 ^ r.length) 128, Nat.mul_assoc]; omega
theorem val_lt (a : List UInt8) : val a < 128 ^ a.length := by
  induction a with
  | nil => simp [val]
  | cons x r ih =>
    simp only [val, List.length_cons, Nat.pow_succ]
    have := Nat.mod_lt x.toNat (show 0 < 128 by omega)
    omega

/-- All high so far: what is left of the reading. -/
theorem rdF_step (f : Nat) (first : Bool) (p r : List UInt8) (hp : ∀ b ∈ p, 128 ≤ b.toNat) (h0 : p ≠ []) :
    rdF (f + p.length) first (p ++ r) = match rdF f false r with
      | (n, u, 0) => (val p + 128 ^ p.length * n, u + p.length, 0)
      | (_, _, e + 1) => (0, 0, e + 1) := by
  induction p generalizing first with
  | nil => exact absurd rfl h0
  | cons b q ih =>
    have hb : 128 ≤ b.toNat := hp b (by simp)
    rw [List.length_cons, ← Nat.add_assoc, List.cons_append]
    by_cases hq : q = []
    · subst hq
      simp only [List.length_nil, Nat.add_zero, List.nil_append, rdF, if_pos hb]
      generalize rdF f false r = x
      rcases x with ⟨n, u, _ | e⟩ <;> simp [val]
    · have h1 := ih false (fun c hc => hp c (by simp [hc])) hq
      rw [rdF_hi _ _ _ _ hb, h1]
      generalize rdF f false r = x
      rcases x with ⟨n, u, _ | e⟩
      · simp only [val, Nat.pow_succ]
        rw [Prod.mk.injEq, Prod.mk.injEq]
        refine ⟨?_, by omega, rfl⟩
        rw [Nat.mul_add, Nat.mul_comm (128 ^ q.length) 128, Nat.mul_assoc]
        omega
      · rfl
theorem rd_stop (p r : List UInt8) (b : UInt8) (hp : ∀ c ∈ p, 128 ≤ c.toNat) (hl : p.length < 9) (hb : b.toNat < 128) :
    rd (p ++ b :: r) = if b.toNat = 0 ∧ p ≠ [] then (0, 0, 2) else (val (p ++ [b]), p.length + 1, 0) := by
  by_cases h0 : p = []
  · subst h0
    simp [rd, rdF, val, Nat.not_le.2 hb, Nat.mod_eq_of_lt hb]
  · have h := rdF_step (9 - p.length) true p (b :: r) hp h0
    rw [show 9 - p.length + p.length = 9 from by omega] at h
    unfold rd
    rw [h]
    obtain ⟨m, hm⟩ : ∃ m, 9 - p.length = m + 1 := ⟨8 - p.length, by omega⟩
    rw [hm]
    simp only [rdF, if_neg (Nat.not_le.2 hb), and_true, h0, ne_eq, not_false_eq_true]
    by_cases hz : b.toNat = 0
    · simp [hz]
    · simp only [if_neg hz, val_append, val, Nat.mod_eq_of_lt hb]
      simp; omega
theorem rd_short (p : List UInt8) (hp : ∀ c ∈ p, 128 ≤ c.toNat) (hl : p.length < 9) : rd p = (0, 0, 5) := by
  by_cases h0 : p = []
  · subst h0; rfl
  · have h := rdF_step (9 - p.length) true p [] hp h0
    rw [show 9 - p.length + p.length = 9 from by omega] at h
    unfold rd
    rw [List.append_nil] at h
    rw [h]
    obtain ⟨m, hm⟩ : ∃ m, 9 - p.length = m + 1 := ⟨8 - p.length, by omega⟩
    rw [hm]
    rfl
theorem rd_long (p r : List UInt8) (hp : ∀ c ∈ p, 128 ≤ c.toNat) (hl : p.length = 9) : rd (p ++ r) = (0, 0, 2) := by
  have h := rdF_step 0 true p r hp (by intro h; subst h; cases hl)
  unfold rd
  rw [hl, Nat.zero_add] at h
  rw [h]
  rfl

/-! ### the reading's shape -/
/-- Every text is one of the three. -/
theorem shape (s : List UInt8) : (∃ p b r, s = p ++ b :: r ∧ (∀ c ∈ p, 128 ≤ c.toNat) ∧ p.length < 9 ∧ b.toNat < 128) ∨
    ((∀ c ∈ s, 128 ≤ c.toNat) ∧ s.length < 9) ∨ (∃ p r, s = p ++ r ∧ (∀ c ∈ p, 128 ≤ c.toNat) ∧ p.length = 9) := by
  suffices h : ∀ k, k ≤ 9 → (∃ p b r, s = p ++ b :: r ∧ (∀ c ∈ p, 128 ≤ c.toNat) ∧ p.length < 9 ∧ b.toNat < 128) ∨
      ((∀ c ∈ s, 128 ≤ c.toNat) ∧ s.length < 9) ∨ (∃ p r, s = p ++ r ∧ (∀ c ∈ p, 128 ≤ c.toNat) ∧ p.length = k) by exact h 9 (Nat.le_refl _)
  intro k
  induction k with
  | zero => intro _; exact .inr (.inr ⟨[], s, rfl, by simp, rfl⟩)
  | succ k ih =>
    intro hk
    rcases ih (by omega) with h | h | ⟨p, r, rfl, hp, hl⟩
    · exact .inl h
    · exact .inr (.inl h)
    · cases r with
      | nil => exact .inr (.inl ⟨by simpa using hp, by simp; omega⟩)
      | cons b r =>
        by_cases hb : b.toNat < 128
        · exact .inl ⟨p, b, r, rfl, hp, by omega, hb⟩
        · refine .inr (.inr ⟨p ++ [b], r, by simp, ?_, by simp [hl]⟩)
          intro c hc
          rcases List.mem_append.1 hc with h | h
          · exact hp c h
          · simp at h; subst h; omega

/-- What was read is below 2^63, and no longer than the text. -/
theorem rd_ok {s : List UInt8} {n u : Nat} (h : rd s = (n, u, 0)) : n < 9223372036854775808 ∧ 1 ≤ u ∧ u ≤ 9 ∧ u ≤ s.length := by
  rcases shape s with ⟨p, b, r, rfl, hp, hl, hb⟩ | ⟨hp, hl⟩ | ⟨p, r, rfl, hp, hl⟩
  · rw [rd_stop p r b hp hl hb] at h
    split at h
    · simp at h
    · simp only [Prod.mk.injEq, and_true] at h
      obtain ⟨rfl, rfl⟩ := h
      have hv := val_lt (p ++ [b])
      have hpw : 128 ^ (p ++ [b]).length ≤ 128 ^ 9 := Nat.pow_le_pow_right (by omega) (by simp; omega)
      have e9 : 128 ^ 9 = 9223372036854775808 := by decide
      refine ⟨by omega, by omega, by omega, by simp⟩
  · rw [rd_short s hp hl] at h; simp at h
  · rw [rd_long p r hp hl] at h; simp at h
theorem rd_bad {s : List UInt8} {n u e : Nat} (h : rd s = (n, u, e)) (he : e ≠ 0) : n = 0 ∧ u = 0 ∧ (e = 2 ∨ e = 5) := by
  rcases shape s with ⟨p, b, r, rfl, hp, hl, hb⟩ | ⟨hp, hl⟩ | ⟨p, r, rfl, hp, hl⟩
  · rw [rd_stop p r b hp hl hb] at h
    split at h <;> simp only [Prod.mk.injEq] at h <;> omega
  · rw [rd_short s hp hl] at h; simp only [Prod.mk.injEq] at h; omega
  · rw [rd_long p r hp hl] at h; simp only [Prod.mk.injEq] at h; omega

/-! ### reading back -/
theorem ofNat_toNat (n : Nat) (h : n < 256) : (UInt8.ofNat n).toNat = n := by
  rw [UInt8.toNat_ofNat']; exact Nat.mod_eq_of_lt h
theorem rdF_enc (f : Nat) : ∀ (n : Nat) (first : Bool) (rest : List UInt8), n < 128 ^ (f + 1) → (n ≠ 0 ∨ first = true) →
    rdF (f + 1) first (enc f n ++ rest) = (n, (enc f n).length, 0) := by
  induction f with
  | zero =>
    intro n first rest h h0
    have hn : n < 128 := by simpa using h
    simp only [enc, List.cons_append, rdF, ofNat_toNat n (by omega), if_neg (Nat.not_le.2 hn)]
    rw [if_neg (by rintro ⟨a, b⟩; rcases h0 with h | h <;> simp_all)]
    simp
  | succ f ih =>
    intro n first rest h h0
    by_cases hn : n < 128
    · simp only [enc, if_pos hn, List.cons_append, rdF, ofNat_toNat n (by omega), if_neg (Nat.not_le.2 hn)]
      rw [if_neg (by rintro ⟨a, b⟩; rcases h0 with h | h <;> simp_all)]
      simp
    · have hd : n / 128 < 128 ^ (f + 1) := by
        rw [Nat.pow_succ] at h
        exact Nat.div_lt_of_lt_mul (by omega)
      have hi := ih (n / 128) false rest hd (.inl (by omega))
      unfold enc
      rw [if_neg hn, List.cons_append]
      unfold rdF
      rw [ofNat_toNat _ (by omega), if_pos (by omega), hi]
      simp only [List.length_cons, Prod.mk.injEq, and_true]
      omega
theorem rd_num (n : Nat) (rest : List UInt8) (h : n < 9223372036854775808) : rd (num n ++ rest) = (n, (num n).length, 0) :=
  rdF_enc 8 n true rest (by have e9 : 128 ^ (8 + 1) = 9223372036854775808 := by decide
                            omega) (.inr rfl)

/-! ### one form -/
theorem enc_rdF (f : Nat) : ∀ (first : Bool) (s : List UInt8) (n u : Nat), rdF (f + 1) first s = (n, u, 0) → enc f n = s.take u ∧ (first = false → n ≠ 0) := by
  induction f with
  | zero =>
    intro first s n u h
    rcases s with _ | ⟨b, r⟩
    · simp [rdF] at h
    · simp only [rdF] at h
      split at h
      · simp at h
      · split at h
        · simp at h
        · rename_i h1 h2
          simp only [Prod.mk.injEq, and_true] at h
          obtain ⟨rfl, rfl⟩ := h
          refine ⟨by simp [enc], fun hf hz => h2 ⟨hz, hf⟩⟩
  | succ f ih =>
    intro first s n u h
    rcases s with _ | ⟨b, r⟩
    · simp [rdF] at h
    · unfold rdF at h
      by_cases hb : 128 ≤ b.toNat
      · rw [if_pos hb] at h
        generalize hx : rdF (f + 1) false r = x at h
        rcases x with ⟨m, v, _ | e⟩
        · simp only [Prod.mk.injEq, and_true] at h
          obtain ⟨rfl, rfl⟩ := h
          obtain ⟨h1, h2⟩ := ih false r m v hx
          have hm := h2 rfl
          have hlt := b.toNat_lt
          refine ⟨?_, fun _ => by omega⟩
          unfold enc
          rw [if_neg (by omega)]
          have e1 : (b.toNat % 128 + 128 * m) / 128 = m := by omega
          have e2 : (b.toNat % 128 + 128 * m) % 128 + 128 = b.toNat := by omega
          rw [e1, e2, h1]
          simp
        · simp at h
      · rw [if_neg hb] at h
        split at h
        · simp at h
        · rename_i h2
          simp only [Prod.mk.injEq, and_true] at h
          obtain ⟨rfl, rfl⟩ := h
          refine ⟨?_, fun hf hz => h2 ⟨hz, hf⟩⟩
          unfold enc
          rw [if_pos (by omega)]
          simp
theorem num_rd {s : List UInt8} {n u : Nat} (h : rd s = (n, u, 0)) : num n = s.take u := (enc_rdF 8 true s n u h).1

/-! ### cut too early -/
theorem rd_cut (n k : Nat) (h : n < 9223372036854775808) (hk : k < (num n).length) : rd ((num n).take k) = (0, 0, 5) := by
  have hr := rd_num n [] h
  rw [List.append_nil] at hr
  have hl := num_len n
  rcases shape (num n) with ⟨p, b, r, he, hp, hl', hb⟩ | ⟨hp, hl'⟩ | ⟨p, r, he, hp, hl'⟩
  · rw [he, rd_stop p r b hp hl' hb] at hr
    split at hr
    · simp at hr
    · simp only [Prod.mk.injEq, and_true] at hr
      have hkp : k ≤ p.length := by rw [he] at hk; omega
      rw [he, List.take_append_of_le_length hkp]
      exact rd_short _ (fun c hc => hp c (List.mem_of_mem_take hc)) (by rw [List.length_take]; omega)
  · rw [rd_short _ hp hl'] at hr; simp at hr
  · rw [he, rd_long p r hp hl'] at hr; simp at hr

/-! ### a greater number has no fewer bytes -/
theorem enc_mono (f : Nat) : ∀ a b, a ≤ b → (enc f a).length ≤ (enc f b).length := by
  induction f with
  | zero => intro a b _; simp [enc]
  | succ f ih =>
    intro a b h
    unfold enc
    by_cases hb : b < 128
    · rw [if_pos hb, if_pos (by omega)]; simp
    · rw [if_neg hb]
      by_cases ha : a < 128
      · rw [if_pos ha]; simp
      · rw [if_neg ha]
        simp only [List.length_cons]
        have := ih (a / 128) (b / 128) (Nat.div_le_div_right h)
        omega
theorem num_inj {a b : Nat} (ha : a < 9223372036854775808) (hb : b < 9223372036854775808) (h : num a = num b) : a = b := by
  have h1 := rd_num a [] ha
  have h2 := rd_num b [] hb
  rw [h] at h1
  rw [h1] at h2
  simpa using congrArg Prod.fst h2

/-! ### lists -/
def items (l : List Nat) : List UInt8 := l.flatMap num
def lst (l : List Nat) : List UInt8 := num l.length ++ items l
/-- m numbers more, from place at on: what was read, where it ended, what is wrong. -/
def rdL (s : List UInt8) : Nat → Nat → List Nat → List Nat × Nat × Nat
  | 0, at_, acc => (acc, at_, 0)
  | m + 1, at_, acc => match rd (s.drop at_) with
    | (n, u, 0) => rdL s m (at_ + u) (acc ++ [n])
    | (_, _, e + 1) => ([], 0, e + 1)
def rdList (s : List UInt8) : List Nat × Nat × Nat := match rd s with
  | (c, u, 0) => if 200 < c then ([], 0, 4) else rdL s c u []
  | (_, _, e + 1) => ([], 0, e + 1)

theorem rdL_items (l : List Nat) : ∀ (pre rest : List UInt8) (acc : List Nat), (∀ n ∈ l, n < 9223372036854775808) →
    rdL (pre ++ items l ++ rest) l.length pre.length acc = (acc ++ l, pre.length + (items l).length, 0) := by
  induction l with
  | nil => intro pre rest acc _; simp [rdL, items]
  | cons n r ih =>
    intro pre rest acc h
    have e : pre ++ items (n :: r) ++ rest = (pre ++ num n) ++ items r ++ rest := by simp [items]
    simp only [List.length_cons, rdL]
    have hd : (pre ++ items (n :: r) ++ rest).drop pre.length = num n ++ (items r ++ rest) := by simp [items]
    rw [hd, rd_num n _ (h n (by simp))]
    simp only
    have := ih (pre ++ num n) rest (acc ++ [n]) (fun m hm => h m (by simp [hm]))
    rw [e, ← List.length_append, this]
    simp [items]
    omega
theorem rdList_lst (l : List Nat) (rest : List UInt8) (hl : l.length ≤ 200) (h : ∀ n ∈ l, n < 9223372036854775808) :
    rdList (lst l ++ rest) = (l, (lst l).length, 0) := by
  unfold rdList
  have e : lst l ++ rest = num l.length ++ (items l ++ rest) := by simp [lst]
  rw [e, rd_num l.length _ (by omega)]
  simp only
  rw [if_neg (by omega)]
  have := rdL_items l (num l.length) rest [] h
  rw [List.append_assoc] at this
  rw [this]
  simp [lst]
theorem items_len (l : List Nat) : l.length ≤ (items l).length := by
  induction l with
  | nil => simp [items]
  | cons n r ih =>
    have := num_len n
    simp [items] at *
    omega
theorem items_le (l : List Nat) : (items l).length ≤ 9 * l.length := by
  induction l with
  | nil => simp [items]
  | cons n r ih =>
    have := num_len n
    simp [items] at *
    omega
theorem lst_len (l : List Nat) : l.length < (lst l).length ∧ (lst l).length ≤ 9 * l.length + 9 := by
  have h1 := num_len l.length
  have h2 := items_len l
  have h3 := items_le l
  simp [lst]; omega

/-- What is read as a list: each number below 2^63; no more than was there; its form is what was read. -/
theorem rdL_ok (s : List UInt8) (m : Nat) : ∀ (at_ : Nat) (acc l : List Nat) (u : Nat), at_ ≤ s.length → rdL s m at_ acc = (l, u, 0) →
    ∃ r, l = acc ++ r ∧ r.length = m ∧ (∀ n ∈ r, n < 9223372036854775808) ∧ at_ ≤ u ∧ u ≤ s.length ∧ items r = (s.drop at_).take (u - at_) := by
  induction m with
  | zero =>
    intro at_ acc l u ha h
    simp only [rdL, Prod.mk.injEq, and_true] at h
    obtain ⟨rfl, rfl⟩ := h
    exact ⟨[], by simp, rfl, by simp, Nat.le_refl _, ha, by simp [items]⟩
  | succ m ih =>
    intro at_ acc l u ha h
    simp only [rdL] at h
    generalize hx : rd (s.drop at_) = x at h
    rcases x with ⟨n, v, _ | e⟩
    · simp only at h
      have ho := rd_ok hx
      rw [List.length_drop] at ho
      obtain ⟨r, rfl, hl, hn, h1, h2, h3⟩ := ih (at_ + v) (acc ++ [n]) l u (by omega) h
      refine ⟨n :: r, by simp, by simp [hl], ?_, by omega, h2, ?_⟩
      · intro k hk
        rcases List.mem_cons.1 hk with rfl | hk
        · exact ho.1
        · exact hn k hk
      · have hnm := num_rd hx
        show num n ++ items r = _
        rw [hnm, h3, show u - at_ = v + (u - (at_ + v)) from by omega, List.take_add, List.drop_drop]
    · simp at h
theorem rdL_bad (s : List UInt8) (m : Nat) : ∀ (at_ : Nat) (acc l : List Nat) (u e : Nat), rdL s m at_ acc = (l, u, e) → e ≠ 0 → l = [] ∧ u = 0 ∧ (e = 2 ∨ e = 5) := by
  induction m with
  | zero => intro at_ acc l u e h he; simp only [rdL, Prod.mk.injEq] at h; omega
  | succ m ih =>
    intro at_ acc l u e h he
    simp only [rdL] at h
    generalize hx : rd (s.drop at_) = x at h
    rcases x with ⟨n, v, _ | e'⟩
    · exact ih _ _ _ _ _ h he
    · simp only [Prod.mk.injEq] at h
      obtain ⟨rfl, rfl, rfl⟩ := h
      exact ⟨rfl, rfl, (rd_bad hx (by omega)).2.2⟩
theorem rdList_ok {s : List UInt8} {l : List Nat} {u : Nat} (h : rdList s = (l, u, 0)) :
    l.length ≤ 200 ∧ (∀ n ∈ l, n < 9223372036854775808) ∧ u ≤ s.length ∧ lst l = s.take u := by
  unfold rdList at h
  generalize hx : rd s = x at h
  rcases x with ⟨c, v, _ | e⟩
  · simp only at h
    have ho := rd_ok hx
    split at h
    · simp at h
    · obtain ⟨r, rfl, hl, hn, h1, h2, h3⟩ := rdL_ok s c v [] l u ho.2.2.2 h
      refine ⟨by omega, hn, h2, ?_⟩
      have hnm := num_rd hx
      rw [lst, hl, hnm, h3, ← List.take_add, show v + (u - v) = u from by omega]
  · simp at h
theorem rdList_bad {s : List UInt8} {l : List Nat} {u e : Nat} (h : rdList s = (l, u, e)) (he : e ≠ 0) : l = [] ∧ u = 0 ∧ (e = 2 ∨ e = 4 ∨ e = 5) := by
  unfold rdList at h
  generalize hx : rd s = x at h
  rcases x with ⟨c, v, _ | e'⟩
  · simp only at h
    split at h
    · simp only [Prod.mk.injEq] at h
      obtain ⟨rfl, rfl, rfl⟩ := h
      exact ⟨rfl, rfl, .inr (.inl rfl)⟩
    · obtain ⟨h1, h2, h3⟩ := rdL_bad s c v [] l u e h he
      exact ⟨h1, h2, by omega⟩
  · simp only [Prod.mk.injEq] at h
    obtain ⟨rfl, rfl, rfl⟩ := h
    have := rd_bad hx (by omega)
    exact ⟨rfl, rfl, by omega⟩

/-- A list's form cut short ends too early. -/
theorem rdL_cut (l : List Nat) : ∀ (pre : List UInt8) (acc : List Nat) (k : Nat), (∀ n ∈ l, n < 9223372036854775808) → k < (items l).length →
    rdL (pre ++ (items l).take k) l.length pre.length acc = ([], 0, 5) := by
  induction l with
  | nil => intro pre acc k _ hk; simp [items] at hk
  | cons n r ih =>
    intro pre acc k h hk
    have hn := h n (by simp)
    simp only [List.length_cons, rdL]
    have hd : (pre ++ (items (n :: r)).take k).drop pre.length = (num n ++ items r).take k := by simp [items]
    rw [hd]
    by_cases hkn : k < (num n).length
    · rw [List.take_append_of_le_length (by omega), rd_cut n k hn hkn]
    · have e1 : (num n ++ items r).take k = num n ++ (items r).take (k - (num n).length) := by
        rw [List.take_append, List.take_of_length_le (by omega)]
      rw [e1, rd_num n _ hn]
      simp only
      have e2 : pre ++ (items (n :: r)).take k = (pre ++ num n) ++ (items r).take (k - (num n).length) := by
        have : items (n :: r) = num n ++ items r := rfl
        rw [this, e1]; simp
      rw [e2, ← List.length_append]
      refine ih (pre ++ num n) _ _ (fun m hm => h m (by simp [hm])) ?_
      have : items (n :: r) = num n ++ items r := rfl
      rw [this, List.length_append] at hk
      omega
theorem rdList_cut (l : List Nat) (k : Nat) (hl : l.length ≤ 200) (h : ∀ n ∈ l, n < 9223372036854775808) (hk : k < (lst l).length) :
    rdList ((lst l).take k) = ([], 0, 5) := by
  unfold rdList
  by_cases hkn : k < (num l.length).length
  · have e1 : (lst l).take k = (num l.length).take k := by
      rw [lst, List.take_append_of_le_length (by omega)]
    rw [e1, rd_cut _ k (by omega) hkn]
  · have e1 : (lst l).take k = num l.length ++ (items l).take (k - (num l.length).length) := by
      rw [lst, List.take_append, List.take_of_length_le (by omega)]
    rw [e1, rd_num l.length _ (by omega)]
    simp only
    rw [if_neg (by omega)]
    refine rdL_cut l (num l.length) [] _ h ?_
    rw [lst, List.length_append] at hk
    omega
end Go.Proofs.YtjebkipdooimbaaDoor.Pk

/- Plain mathematics of the checksums: base 257 modulo 1000003, over lists of bytes. -/
namespace Go.Proofs.YtjebkipdooimbaaDoor.Sm

/-- The checksum before it is taken modulo. -/
def ev (l : List UInt8) : Nat := l.foldl (fun a b => a * 257 + b.toNat + 1) 0
/-- The checksum. -/
def sm (l : List UInt8) : Nat := ev l % 1000003
/-- A power of the base, modulo. -/
def pw (n : Nat) : Nat := 257 ^ n % 1000003

theorem ev_from (a : Nat) (l : List UInt8) : l.foldl (fun a b => a * 257 + b.toNat + 1) a = a * 257 ^ l.length + ev l := by
  induction l generalizing a with
  | nil => simp [ev]
  | cons b r ih =>
    unfold ev
    simp only [List.foldl_cons, List.length_cons]
    rw [ih, ih (0 * 257 + b.toNat + 1), Nat.pow_succ]
    simp only [Nat.add_mul, Nat.zero_mul, Nat.zero_add, Nat.one_mul, Nat.mul_assoc, Nat.mul_comm (257 ^ r.length) 257]
    omega
theorem ev_nil : ev [] = 0 := rfl
theorem ev_append (l r : List UInt8) : ev (l ++ r) = ev l * 257 ^ r.length + ev r := by
  rw [← ev_from]; unfold ev; rw [List.foldl_append]
theorem ev_cons (b : UInt8) (r : List UInt8) : ev (b :: r) = (b.toNat + 1) * 257 ^ r.length + ev r := by
  have := ev_append [b] r
  simpa [ev] using this
theorem ev_snoc (l : List UInt8) (b : UInt8) : ev (l ++ [b]) = ev l * 257 + b.toNat + 1 := by
  unfold ev; rw [List.foldl_append]; rfl
theorem sm_lt (l : List UInt8) : sm l < 1000003 := Nat.mod_lt _ (by omega)
theorem sm_nil : sm [] = 0 := rfl
theorem sm_snoc (l : List UInt8) (b : UInt8) : sm (l ++ [b]) = (sm l * 257 + b.toNat + 1) % 1000003 := by
  unfold sm; rw [ev_snoc]; omega
theorem pw_lt (n : Nat) : pw n < 1000003 := Nat.mod_lt _ (by omega)
theorem mul_pw (a n : Nat) : a * pw n % 1000003 = a * 257 ^ n % 1000003 := by
  unfold pw; rw [Nat.mul_mod a (257 ^ n % 1000003), Nat.mod_mod, ← Nat.mul_mod]

/-- Join's sum. -/
def jn (a b n : Nat) : Nat := (a * pw n + b) % 1000003
theorem jn_lt (a b n : Nat) : jn a b n < 1000003 := Nat.mod_lt _ (by omega)
theorem jn_eq (a b n : Nat) : jn a b n = (a * 257 ^ n + b) % 1000003 := by
  unfold jn
  have := mul_pw a n
  omega
theorem jn_append (l r : List UInt8) : jn (sm l) (sm r) r.length = sm (l ++ r) := by
  rw [jn_eq]
  unfold sm
  rw [ev_append, Nat.add_mod (ev l * 257 ^ r.length), Nat.add_mod (ev l % 1000003 * 257 ^ r.length), Nat.mod_mod]
  rw [Nat.mul_mod (ev l % 1000003), Nat.mod_mod, ← Nat.mul_mod]
theorem jn_nil (a : Nat) (h : a < 1000003) : jn a 0 0 = a := by
  rw [jn_eq]; omega
theorem jn_front (a n : Nat) (h : a < 1000003) : jn 0 a n = a := by
  rw [jn_eq]; omega
theorem mod_join (x y p c : Nat) (h : x % 1000003 = y % 1000003) : (x * p + c) % 1000003 = (y * p + c) % 1000003 := by
  have : x * p % 1000003 = y * p % 1000003 := by rw [Nat.mul_mod, h, ← Nat.mul_mod]
  omega
theorem jn_group (a b c n m : Nat) : jn (jn a b n) c m = jn a (jn b c m) (n + m) := by
  rw [jn_eq (jn a b n), jn_eq a (jn b c m)]
  rw [mod_join (jn a b n) (a * 257 ^ n + b) _ _ (by rw [jn_eq, Nat.mod_mod])]
  have h : jn b c m % 1000003 = (b * 257 ^ m + c) % 1000003 := by rw [jn_eq, Nat.mod_mod]
  have e : (a * 257 ^ n + b) * 257 ^ m = a * 257 ^ (n + m) + b * 257 ^ m := by rw [Nat.add_mul, Nat.mul_assoc, ← Nat.pow_add]
  rw [e]
  omega

/-- The power's loop: what is left to multiply in. -/
def Pow (k : Nat) (r q n : Nat) : Prop := r < 1000003 ∧ q < 1000003 ∧ r * q ^ n % 1000003 = pw k
theorem pow_start (k : Nat) : Pow k 1 257 k := ⟨by omega, by omega, by rw [Nat.one_mul]; rfl⟩
theorem pow_end {k r q : Nat} (h : Pow k r q 0) : r = pw k := by
  have := h.2.2
  have := h.1
  rw [Nat.pow_zero, Nat.mul_one] at *
  omega
theorem sq_pow (q j : Nat) : (q * q % 1000003) ^ j % 1000003 = q ^ (2 * j) % 1000003 := by
  rw [← Nat.pow_mod, Nat.pow_mul, show q ^ 2 = q * q from Nat.pow_two q]
theorem pow_even {k r q n : Nat} (h : Pow k r q n) (he : n % 2 = 0) : Pow k r (q * q % 1000003) (n / 2) := by
  refine ⟨h.1, Nat.mod_lt _ (by omega), ?_⟩
  rw [← h.2.2, Nat.mul_mod, sq_pow, show 2 * (n / 2) = n from by omega, ← Nat.mul_mod]
theorem pow_odd {k r q n : Nat} (h : Pow k r q n) (ho : n % 2 = 1) : Pow k (r * q % 1000003) (q * q % 1000003) (n / 2) := by
  refine ⟨Nat.mod_lt _ (by omega), Nat.mod_lt _ (by omega), ?_⟩
  rw [← h.2.2, Nat.mul_mod, sq_pow, Nat.mod_mod, ← Nat.mul_mod, Nat.mul_assoc, show q * q ^ (2 * (n / 2)) = q ^ n from by
    rw [Nat.mul_comm, ← Nat.pow_succ]; congr 1; omega]
theorem mul_lt (a b : Nat) (ha : a < 1000003) (hb : b < 1000003) : a * b < 1000006000009 :=
  Nat.lt_of_le_of_lt (Nat.mul_le_mul (show a ≤ 1000002 by omega) (show b ≤ 1000002 by omega)) (by decide)

/-- Roll's sum, as it is computed: gone is what has left. -/
def gone (o n : Nat) : Nat := (o + 1) * pw (n - 1) % 1000003
def rl (s o i n : Nat) : Nat := ((s + 1000003 - gone o n) * 257 + i + 1) % 1000003
theorem rl_lt (s o i n : Nat) : rl s o i n < 1000003 := Nat.mod_lt _ (by omega)
theorem gone_lt (o n : Nat) : gone o n < 1000003 := Nat.mod_lt _ (by omega)
theorem rl_window (o i : UInt8) (r : List UInt8) : rl (sm (o :: r)) o.toNat i.toNat (r.length + 1) = sm (r ++ [i]) := by
  rw [sm_snoc]
  unfold rl gone
  rw [mul_pw, Nat.add_sub_cancel]
  unfold sm
  rw [ev_cons]
  generalize (o.toNat + 1) * 257 ^ r.length = P
  generalize ev r = E
  omega
/-- The same by the whole power. -/
theorem rl_whole (s o i n : Nat) (hn : 0 < n) : ((rl s o i n : Nat) : Int) = ((s : Int) * 257 - (((o + 1) * pw n % 1000003 : Nat) : Int) + i + 1) % 1000003 := by
  unfold rl gone
  have e : (o + 1) * 257 ^ n = (o + 1) * 257 ^ (n - 1) * 257 := by
    rw [Nat.mul_assoc, ← Nat.pow_succ]; congr 2; omega
  rw [mul_pw, mul_pw, e]
  generalize (o + 1) * 257 ^ (n - 1) = P
  omega

/-- What a factor of the base hides. -/
theorem base_back (x y : Nat) (h : x * 257 % 1000003 = y * 257 % 1000003) : x % 1000003 = y % 1000003 := by omega
theorem pow_back (x y k : Nat) (h : x * 257 ^ k % 1000003 = y * 257 ^ k % 1000003) : x % 1000003 = y % 1000003 := by
  induction k with
  | zero => simpa using h
  | succ k ih =>
    refine ih (base_back _ _ ?_)
    rwa [Nat.mul_assoc, Nat.mul_assoc, ← Nat.pow_succ]
theorem sm_mid (p m m' r : List UInt8) (hl : m.length = m'.length) (h : sm (p ++ (m ++ r)) = sm (p ++ (m' ++ r))) : ev m % 1000003 = ev m' % 1000003 := by
  unfold sm at h
  simp only [ev_append, List.length_append, ← hl] at h
  refine pow_back _ _ r.length ?_
  generalize ev m * 257 ^ r.length = X at *
  generalize ev m' * 257 ^ r.length = Y at *
  omega
theorem sm_one (p r : List UInt8) (b c : UInt8) : sm (p ++ (b :: r)) = sm (p ++ (c :: r)) ↔ b = c := by
  refine ⟨fun h => ?_, fun h => by rw [h]⟩
  have := sm_mid p [b] [c] r rfl h
  have h1 := b.toNat_lt
  have h2 := c.toNat_lt
  have e1 : ev [b] = b.toNat + 1 := by simp [ev]
  have e2 : ev [c] = c.toNat + 1 := by simp [ev]
  rw [e1, e2] at this
  exact UInt8.toNat_inj.1 (by omega)
theorem sm_swap (p r : List UInt8) (b c : UInt8) : sm (p ++ (b :: c :: r)) = sm (p ++ (c :: b :: r)) ↔ b = c := by
  refine ⟨fun h => ?_, fun h => by rw [h]⟩
  have := sm_mid p [b, c] [c, b] r rfl h
  have h1 := b.toNat_lt
  have h2 := c.toNat_lt
  have e1 : ev [b, c] = (b.toNat + 1) * 257 + c.toNat + 1 := by simp [ev]
  have e2 : ev [c, b] = (c.toNat + 1) * 257 + b.toNat + 1 := by simp [ev]
  rw [e1, e2] at this
  exact UInt8.toNat_inj.1 (by omega)

/-- The sum from the end. -/
theorem sm_cons (b : UInt8) (r : List UInt8) : sm (b :: r) = (sm r + (b.toNat + 1) * pw r.length) % 1000003 := by
  have := mul_pw (b.toNat + 1) r.length
  unfold sm
  rw [ev_cons]
  omega
theorem pw_zero : pw 0 = 1 := rfl
theorem pw_succ (n : Nat) : pw (n + 1) = pw n * 257 % 1000003 := by
  unfold pw; rw [Nat.pow_succ]; omega
/-- A third of the power, thrice. -/
theorem pw_third (n : Nat) : pw (3 * n) = pw n * pw n % 1000003 * pw n % 1000003 := by
  rw [mul_pw, Nat.mul_mod, Nat.mod_mod, mul_pw, ← Nat.mul_mod, Nat.mul_assoc, Nat.mul_comm (pw n), mul_pw]
  unfold pw
  rw [← Nat.pow_add, ← Nat.pow_add]
  congr 2
  omega
end Go.Proofs.YtjebkipdooimbaaDoor.Sm

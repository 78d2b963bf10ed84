/- The walk of the reference's parse, put together. -/
import Derived.Test.YtlhhhdgkdbplmaaDoorRefParse
namespace Go.Proofs.YtlhhhdgkdbplmaaDoor.Fm
open Go.RowKit Go.IntWalk Go.PlainAid Go.Proofs.YtlhhhdgkdbplmaaDoor.Wd Go.Proofs.YtlhhhdgkdbplmaaDoor.Wo
set_option linter.unusedVariables false

theorem Rp_size {L : Nat} {s : List UInt8} {x : Option Tree} (h : Rp L s x) : ∀ t, x = some t → t.size ≤ s.length := by
  induction h with
  | nil => intro t e; cases e
  | neg => intro t e; cases e
  | @two k c p q x y _ _ _ _ ih1 ih2 =>
    intro t e
    rcases x with _ | a
    · cases e
    rcases y with _ | b
    · cases e
    simp only [mk, Option.some.injEq] at e
    subst e
    have := ih1 a rfl; have := ih2 b rfl
    simp [Tree.size]; omega
  | @un k c s x _ _ _ ih =>
    intro t e
    rcases x with _ | a
    · cases e
    simp only [Option.map_some, Option.some.injEq] at e
    subst e
    have := ih a rfl
    simp [Tree.size]; omega
  | par _ _ ih => intro t e; have := ih t e; simp; omega
  | tt => rintro t e; simp only [Option.some.injEq] at e; subst e; simp [Tree.size]
  | ff => rintro t e; simp only [Option.some.injEq] at e; subst e; simp [Tree.size]
  | set _ _ => rintro t e; simp only [Option.some.injEq] at e; subst e; simp [Tree.size, setText]
  | bad => intro t e; cases e
theorem alone_cuts {S : ByteArray} (hS : S.size ≤ 300) {s : List UInt8} (e : S.data.toList = s) (h : Alone s) :
    (∀ W, Calls Tryd.prog 75 #[.string S, .int .u8 124, .int .u8 124, .bool true] W fun e w' => e = .returned (.int .i64 (-1)) ∧ w' = W) ∧
    (∀ W, Calls Tryd.prog 75 #[.string S, .int .u8 38, .int .u8 38, .bool true] W fun e w' => e = .returned (.int .i64 (-1)) ∧ w' = W) ∧
    (∀ W, Calls Tryd.prog 75 #[.string S, .int .u8 85, .int .u8 82, .bool false] W fun e w' => e = .returned (.int .i64 (-1)) ∧ w' = W) :=
  ⟨fun W => cut3 S hS _ (by rw [e]; exact cut_nowhere (by decide) h.1 h.2.1) W, fun W => cut2 S hS _ (by rw [e]; exact cut_nowhere (by decide) h.1 h.2.2.1) W, fun W => cut1 S hS _ (by rw [e]; exact cut_nowhere (by decide) h.1 h.2.2.2) W⟩
theorem two_parts {S : ByteArray} (hS : S.size ≤ 300) {p q : List UInt8} {c : UInt8} (e : S.data.toList = p ++ c :: q) :
    p.length < S.size ∧ (S.extract 0 p.length).data.toList = p ∧ (S.extract (p.length + 1) S.size).data.toList = q ∧ (S.extract 0 p.length).size ≤ 300 ∧ (S.extract (p.length + 1) S.size).size ≤ 300 ∧ (c.toNat : Int) = bt S p.length := by
  have hl : S.size = p.length + q.length + 1 := by rw [← data_len, e]; simp; omega
  have h1 : (S.extract 0 p.length).data.toList = p := by rw [ex_front, e, List.take_left]
  have h2 : (S.extract (p.length + 1) S.size).data.toList = q := by
    rw [ex_back, e, show p ++ c :: q = (p ++ [c]) ++ q by simp]
    exact List.drop_left' (by simp)
  refine ⟨by omega, h1, h2, by rw [← data_len, h1]; omega, by rw [← data_len, h2]; omega, ?_⟩
  exact (data_bt (k := p.length) (c := c) (by rw [e]; simp)).1.symm
theorem head_tail {S : ByteArray} (hS : S.size ≤ 300) {c : UInt8} {q : List UInt8} (e : S.data.toList = c :: q) : 0 < S.size ∧ bt S 0 = (c.toNat : Int) ∧ (S.extract 1 S.size).data.toList = q ∧ (S.extract 1 S.size).size ≤ 300 ∧ S.size = q.length + 1 := by
  have hl : S.size = q.length + 1 := by rw [← data_len, e]; simp
  have h2 : (S.extract 1 S.size).data.toList = q := by rw [ex_back, e]; rfl
  exact ⟨by omega, (data_bt (k := 0) (c := c) (by rw [e]; rfl)).1, h2, by rw [← data_len, h2]; omega, hl⟩
theorem par_parts {S : ByteArray} (hS : S.size ≤ 300) {q : List UInt8} (e : S.data.toList = 40 :: (q ++ [41])) : bt S 0 = 40 ∧ bt S (S.size - 1) = 41 ∧ S.size = q.length + 2 ∧ (S.extract 1 (S.size - 1)).data.toList = q ∧ (S.extract 1 (S.size - 1)).size ≤ 300 := by
  have hl : S.size = q.length + 2 := by rw [← data_len, e]; simp
  have h2 : (S.extract 1 (S.size - 1)).data.toList = q := by
    rw [ex_mid, e, hl]
    simp
  refine ⟨(data_bt (k := 0) (c := 40) (by rw [e]; rfl)).1, (data_bt (k := S.size - 1) (c := 41) (by rw [e, hl]; simp)).1, hl, h2, by rw [← data_len, h2]; omega⟩
/-- Which tests fall when nothing fits. -/
theorem bad_tests {S : ByteArray} {s : List UInt8} (e : S.data.toList = s) (hne : s ≠ []) (hu : ∀ k c s', Un k c → s ≠ c :: s') (hp : ∀ s', s ≠ 40 :: (s' ++ [41])) :
    0 < S.size ∧ bt S 0 ≠ 33 ∧ bt S 0 ≠ 88 ∧ bt S 0 ≠ 87 ∧ ((bt S 0 == 40) = false ∨ ((bt S 0 == 40) = true ∧ (bt S (S.size - 1) == 41) = false)) := by
  rcases s with _ | ⟨c, r⟩
  · exact absurd rfl hne
  have hl : S.size = r.length + 1 := by rw [← data_len, e]; simp
  have h0 : bt S 0 = (c.toNat : Int) := (data_bt (k := 0) (c := c) (by rw [e]; rfl)).1
  refine ⟨by omega, fun h => ?_, fun h => ?_, fun h => ?_, ?_⟩
  · obtain rfl : c = 33 := u8_inj (b := 33) (h0.symm.trans h)
    exact hu 3 33 r (.inl ⟨rfl, rfl⟩) rfl
  · obtain rfl : c = 88 := u8_inj (b := 88) (h0.symm.trans h)
    exact hu 6 88 r (.inr (.inl ⟨rfl, rfl⟩)) rfl
  · obtain rfl : c = 87 := u8_inj (b := 87) (h0.symm.trans h)
    exact hu 7 87 r (.inr (.inr ⟨rfl, rfl⟩)) rfl
  · by_cases h4 : bt S 0 = 40
    · right
      refine ⟨beq_iff_eq.2 h4, beq_eq_false_iff_ne.2 fun hl2 => ?_⟩
      obtain rfl : c = 40 := u8_inj (b := 40) (h0.symm.trans h4)
      rcases List.eq_nil_or_concat r with rfl | ⟨m, y, rfl⟩
      · rw [hl] at hl2
        have : bt S 0 = 41 := hl2
        omega
      · simp only [List.concat_eq_append] at *
        have h5 : bt S (S.size - 1) = (y.toNat : Int) := (data_bt (k := S.size - 1) (c := y) (by rw [e, hl]; simp)).1
        obtain rfl : y = 41 := u8_inj (b := 41) (h5.symm.trans hl2)
        exact hp m rfl
    · exact .inl (beq_eq_false_iff_ne.2 h4)
theorem parse_does {L : Int} (h1 : 1 ≤ L) (h6 : L ≤ 6) {s : List UInt8} {x : Option Tree} (h : Rp L.toNat s x) : PDoes L s x := by
  induction h with
  | nil =>
    intro S w0 w v f e hS hO hf
    exact parse_nil S (by rw [← data_len, e]; rfl) w0 w v f hS hO
  | @neg s hne hr =>
    intro S w0 w v f e hS hO hf
    have hp : 0 < S.size := by
      rw [← data_len, e]
      rcases s with _ | ⟨c, r⟩
      · exact absurd rfl hne
      · simp
    exact parse_neg S hp (fun W => cut3 S hS _ (by rw [e]; exact cutL_none _ _ _ _ hr) W) w0 w v f hS hO
  | @two k c p q x y hr hc h1' h2' ih1 ih2 =>
    intro S w0 w v f e hS hO hf
    obtain ⟨k1, k2, k3, k4, k5, k6⟩ := two_parts hS e
    have hf2 : f.length + p.length + q.length ≤ 999 := by simp only [List.length_append, List.length_cons] at hf; omega
    have hrp := hc.1
    rcases hc.2 with ⟨rfl, rfl, n3⟩ | ⟨rfl, rfl, n3, n2⟩ | ⟨hu, n3, n2, n1⟩
    · exact parse_two3 S (k := 5) w0 w v f (by decide) k1 k2 k3 k4 k5 k6 hf2 ih1 ih2 (Rp_size h1') (Rp_size h2') (fun W => cut3 S hS _ (by rw [e]; exact cut_last (by decide) hrp rfl hr n3) W) hS hO
    · exact parse_two2 S (k := 4) w0 w v f (by decide) k1 k2 k3 k4 k5 k6 hf2 ih1 ih2 (Rp_size h1') (Rp_size h2') (fun W => cut3 S hS _ (by rw [e]; exact cut_nowhere (by decide) hr n3) W) (fun W => cut2 S hS _ (by rw [e]; exact cut_last (by decide) hrp rfl hr n2) W) hS hO
    · have hk : k ≤ 9 := by rcases hu with ⟨rfl, _⟩ | ⟨rfl, _⟩ <;> decide
      have hb : ((sgn k).toNat : Int) = bt S p.length := by rw [← k6]; rcases hu with ⟨rfl, rfl⟩ | ⟨rfl, rfl⟩ <;> rfl
      exact parse_two1 S (k := k) w0 w v f hk k1 k2 k3 k4 k5 hb hf2 ih1 ih2 (Rp_size h1') (Rp_size h2') (fun W => cut3 S hS _ (by rw [e]; exact cut_nowhere (by decide) hr n3) W) (fun W => cut2 S hS _ (by rw [e]; exact cut_nowhere (by decide) hr n2) W) (fun W => cut1 S hS _ (by rw [e]; exact cut_first (by decide) hrp hu.plain.2.2 hr n1) W) hS hO
  | @un k c s x ha hu hx ih =>
    intro S w0 w v f e hS hO hf
    obtain ⟨k1, k2, k3, k4, k5⟩ := head_tail hS e
    obtain ⟨c3, c2, c1⟩ := alone_cuts hS e ha
    have hf2 : f.length + s.length ≤ 999 := by simp only [List.length_cons] at hf; omega
    rcases hu with ⟨rfl, rfl⟩ | ⟨rfl, rfl⟩ | ⟨rfl, rfl⟩
    · exact parse_un3 S w0 w v f k2 k1 k3 k4 hf2 ih (Rp_size hx) c3 c2 c1 hS hO
    · exact parse_un6 S w0 w v f k2 k1 k3 k4 hf2 ih (Rp_size hx) c3 c2 c1 hS hO
    · exact parse_un7 S w0 w v f k2 k1 k3 k4 hf2 ih (Rp_size hx) c3 c2 c1 hS hO
  | @par s x ha hx ih =>
    intro S w0 w v f e hS hO hf
    obtain ⟨k1, k2, k3, k4, k5⟩ := par_parts hS e
    obtain ⟨c3, c2, c1⟩ := alone_cuts hS e ha
    exact parse_par S w0 w v f k1 k2 (by omega) k4 k5 (by simp only [List.length_cons, List.length_append] at hf; omega) ih c3 c2 c1 hS hO
  | tt =>
    intro S w0 w v f e hS hO hf
    obtain ⟨c3, c2, c1⟩ := alone_cuts hS e (alone0 (L := L.toNat) (by omega) .tt)
    exact parse_leaf0 S e w0 w v f (by simp only [List.length_cons] at hf; omega) c3 c2 c1 hS hO
  | ff =>
    intro S w0 w v f e hS hO hf
    obtain ⟨c3, c2, c1⟩ := alone_cuts hS e (alone0 (L := L.toNat) (by omega) .ff)
    exact parse_leaf1 S e w0 w v f (by simp only [List.length_cons] at hf; omega) c3 c2 c1 hS hO
  | @set ds ha hd =>
    intro S w0 w v f e hS hO hf
    obtain ⟨c3, c2, c1⟩ := alone_cuts hS e ha
    obtain ⟨b0, b1, b2, b3, b4⟩ := bad_tests e (by simp [setText]) (fun k c s' hu he => by
      simp only [setText, List.cons.injEq] at he
      rcases hu with ⟨_, rfl⟩ | ⟨_, rfl⟩ | ⟨_, rfl⟩ <;> exact absurd he.1 (by decide)) (fun s' he => by simp only [setText, List.cons.injEq] at he; exact absurd he.1 (by decide))
    have hT := fun W => rset_any L.toNat S (ds.map dg) W (by omega) hS e _ (setL_yes (by omega) hd)
    rw [show ((L.toNat : Nat) : Int) = L by omega] at hT
    exact parse_set S b0 b1 b2 b3 b4 (by rw [e]; simp [setText]) (by rw [e]; simp [setText]) hT w0 w v f (by simp only [setText, List.length_cons] at hf; omega) c3 c2 c1 hS hO
  | @bad s ha hne hu hp ht hf' hd =>
    intro S w0 w v f e hS hO hf
    obtain ⟨c3, c2, c1⟩ := alone_cuts hS e ha
    obtain ⟨b0, b1, b2, b3, b4⟩ := bad_tests e hne hu hp
    have hT : ∀ W, Calls Tryd.prog 77 #[.int .i64 L, .string S] W fun e w' => e = .returned (.int .i64 (-1)) ∧ w' = W := by
      by_cases hm : ∃ m, s = 91 :: (m ++ [93])
      · obtain ⟨m, rfl⟩ := hm
        have := fun W => rset_any L.toNat S m W (by omega) hS e _ (setL_no fun ds h1 h2 => hd ds h1 (by rw [h2]; rfl))
        rwa [show ((L.toNat : Nat) : Int) = L by omega] at this
      · exact fun W => rset_bad L S W hS fun m he => hm ⟨m, e.symm.trans he⟩
    exact parse_bad S b0 b1 b2 b3 b4 (by rw [e]; exact ht) (by rw [e]; exact hf') hT w0 w v f (by have : 0 < s.length := List.length_pos_iff.2 hne; omega) c3 c2 c1 hS hO
end Go.Proofs.YtlhhhdgkdbplmaaDoor.Fm

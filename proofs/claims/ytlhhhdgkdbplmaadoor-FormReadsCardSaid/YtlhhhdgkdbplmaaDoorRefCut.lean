/- The walks of the reference's sign, cut, set. -/
import Derived.Test.YtlhhhdgkdbplmaaDoorRefForm
import Derived.Test.YtlhhhdgkdbplmaaDoorParser2
namespace Go.Proofs.YtlhhhdgkdbplmaaDoor.Fm
open Go.RowKit Go.IntWalk Go.PlainAid Go.Proofs.YtlhhhdgkdbplmaaDoor.Wd Go.Proofs.YtlhhhdgkdbplmaaDoor.Wo

/-! ### where a text is cut -/
/-- The reference's search: n: how loose the sign is; last: the last one, or the first. -/
def cutL (n : Nat) (last : Bool) : Nat → Nat → Int → List UInt8 → Int
  | _, _, a, [] => a
  | i, d, a, c :: r => match run d [c] with
    | none => -2
    | some e => cutL n last (i + 1) e (if e = 0 ∧ loose c = n ∧ (last = true ∨ a < 0) then (i : Int) else a) r
theorem run_two' (d : Nat) (c : UInt8) (r : List UInt8) : run d (c :: r) = (run d [c]).bind fun e => run e r := run_append [c] r d
theorem cutL_none {n : Nat} {last : Bool} : ∀ (s : List UInt8) (i d : Nat) (a : Int), run d s = none → cutL n last i d a s = -2
  | [], _, _, _, h => by cases h
  | c :: r, i, d, a, h => by
    rw [run_two'] at h
    unfold cutL
    rcases h2 : run d [c] with _ | e
    · rfl
    · rw [h2] at h
      exact cutL_none r _ _ _ h
theorem cutL_app {n : Nat} {last : Bool} : ∀ (p q : List UInt8) (i d e : Nat) (a : Int), run d p = some e → cutL n last i d a (p ++ q) = cutL n last (i + p.length) e (cutL n last i d a p) q
  | [], q, i, d, e, a, h => by
    simp only [run, Option.some.injEq] at h
    subst h; rfl
  | c :: p, q, i, d, e, a, h => by
    rw [run_two'] at h
    rcases h2 : run d [c] with _ | m
    · rw [h2] at h; cases h
    · rw [h2] at h
      simp only [List.cons_append, cutL, h2]
      rw [cutL_app p q _ _ _ _ h, show i + (c :: p).length = i + 1 + p.length by simp; omega]
/-- No such sign outside of brackets, from depth d on. -/
def noD (n d : Nat) (s : List UInt8) : Prop := ∀ p c q, s = p ++ c :: q → run d p = some 0 → loose c ≠ n
theorem run_one {d : Nat} {c : UInt8} (h : loose c ≠ 0) : run d [c] = some d := by
  have := loose_par h
  simp [run, this.1, this.2]
theorem cutL_stay {n : Nat} (hn : n ≠ 0) {last : Bool} : ∀ (s : List UInt8) (i d : Nat) (a : Int), run d s ≠ none → noD n d s → cutL n last i d a s = a
  | [], _, _, _, _, _ => rfl
  | c :: r, i, d, a, h, hno => by
    rw [run_two'] at h
    rcases h2 : run d [c] with _ | e
    · rw [h2] at h; exact absurd rfl h
    · rw [h2] at h
      simp only [cutL, h2]
      rw [if_neg]
      · exact cutL_stay hn r _ _ _ h fun p x q e2 hp => hno (c :: p) x q (by rw [e2]; rfl) (by rw [run_two', h2]; exact hp)
      · rintro ⟨rfl, hl, _⟩
        have := run_one (d := d) (by omega : loose c ≠ 0)
        rw [h2] at this
        obtain rfl := Option.some.inj this
        exact hno [] c r rfl rfl hl
theorem cutL_kept {n : Nat} : ∀ (s : List UInt8) (i d : Nat) (a : Int), run d s ≠ none → 0 ≤ a → cutL n false i d a s = a
  | [], _, _, _, _, _ => rfl
  | c :: r, i, d, a, h, ha => by
    rw [run_two'] at h
    rcases h2 : run d [c] with _ | e
    · rw [h2] at h; exact absurd rfl h
    · rw [h2] at h
      simp only [cutL, h2]
      rw [if_neg (by rintro ⟨_, _, k | k⟩; · cases k
                     · omega)]
      exact cutL_kept r _ _ _ h ha
theorem cut_nowhere {n : Nat} (hn : n ≠ 0) {last : Bool} {s : List UInt8} (h : run 0 s ≠ none) (hno : no n s) : cutL n last 0 0 (-1) s = -1 := cutL_stay hn s 0 0 _ h hno
theorem run_back {p q : List UInt8} {c : UInt8} (hr : run 0 p = some 0) (hc : loose c ≠ 0) (h : run 0 (p ++ c :: q) ≠ none) : run 0 q ≠ none := by
  rw [run_append, hr, Option.bind_some, run_two', run_one hc] at h
  exact h
theorem cut_last {n : Nat} (hn : n ≠ 0) {p q : List UInt8} {c : UInt8} (hr : run 0 p = some 0) (hc : loose c = n) (h : run 0 (p ++ c :: q) ≠ none) (hq : no n q) : cutL n true 0 0 (-1) (p ++ c :: q) = p.length := by
  rw [cutL_app p _ _ _ _ _ hr]
  have h1 := run_one (d := 0) (by omega : loose c ≠ 0)
  simp only [cutL, h1]
  rw [if_pos ⟨trivial, hc, .inl trivial⟩, cutL_stay hn q _ _ _ (run_back hr (by omega) h) hq, Nat.zero_add]
theorem cut_first {n : Nat} (hn : n ≠ 0) {p q : List UInt8} {c : UInt8} (hr : run 0 p = some 0) (hc : loose c = n) (h : run 0 (p ++ c :: q) ≠ none) (hp : no n p) : cutL n false 0 0 (-1) (p ++ c :: q) = p.length := by
  rw [cutL_app p _ _ _ _ _ hr, cutL_stay hn p _ _ _ (by rw [hr]; simp) hp]
  have h1 := run_one (d := 0) (by omega : loose c ≠ 0)
  simp only [cutL, h1]
  rw [if_pos ⟨trivial, hc, .inr (by decide)⟩, cutL_kept q _ _ _ (run_back hr (by omega) h) (by omega), Nat.zero_add]

/-! ### a set's letters -/
def setL (L : Nat) : Int → Nat → List UInt8 → Int
  | _, n, [] => n
  | a, n, c :: r => if (c.toNat : Int) - 48 ≤ a ∨ (L : Int) ≤ (c.toNat : Int) - 48 then -1 else setL L ((c.toNat : Int) - 48) (n + 2 ^ (c.toNat - 48)) r
theorem subl {L : Nat} : ∀ (m lo : Nat) (ds : List Nat), L - lo = m → ds.Pairwise (· < ·) → (∀ d ∈ ds, lo ≤ d ∧ d < L) → ds.Sublist (List.range' lo m) := by
  intro m
  induction m with
  | zero =>
    intro lo ds hm _ hd
    rcases ds with _ | ⟨d, ds⟩
    · exact List.Sublist.slnil
    · have := hd d (by simp); omega
  | succ m ih =>
    intro lo ds hm hp hd
    rw [List.range'_succ]
    rcases ds with _ | ⟨d, ds⟩
    · exact List.nil_sublist _
    · rw [List.pairwise_cons] at hp
      by_cases h : d = lo
      · subst h
        exact (ih (d + 1) ds (by omega) hp.2 fun x hx => ⟨hp.1 x hx, (hd x (by simp [hx])).2⟩).cons_cons _
      · refine (ih (lo + 1) (d :: ds) (by omega) (List.pairwise_cons.2 hp) fun x hx => ⟨?_, (hd x hx).2⟩).cons _
        rcases List.mem_cons.1 hx with rfl | hx
        · have := (hd x (by simp)).1; omega
        · have := hp.1 x hx; have := (hd d (by simp)).1; omega
theorem sub_range {L : Nat} {ds : List Nat} (hp : ds.Pairwise (· < ·)) (hd : ∀ d ∈ ds, d < L) : ds.Sublist (List.range L) := by
  rw [List.range_eq_range']
  exact subl L 0 ds (by omega) hp fun d h => ⟨Nat.zero_le _, hd d h⟩
theorem setL_sound {L : Nat} : ∀ (m : List UInt8) (a : Int) (n : Nat), -1 ≤ a → setL L a n m ≠ -1 → ∃ ds : List Nat, m = ds.map dg ∧ ds.Pairwise (· < ·) ∧ (∀ d ∈ ds, a < (d : Int) ∧ d < L)
  | [], a, n, _, _ => ⟨[], rfl, List.Pairwise.nil, by simp⟩
  | c :: r, a, n, ha, h => by
    simp only [setL] at h
    split at h
    · exact absurd rfl h
    · rename_i hc
      obtain ⟨ds, rfl, hp, hd⟩ := setL_sound r _ _ (by omega) h
      have e : c = dg (c.toNat - 48) := by
        apply UInt8.toNat_inj.1
        have := c.toNat_lt
        simp only [dg, UInt8.toNat_ofNat']
        omega
      refine ⟨(c.toNat - 48) :: ds, by rw [List.map_cons, ← e], List.pairwise_cons.2 ⟨fun x hx => by have := (hd x hx).1; omega, hp⟩, ?_⟩
      intro d hx
      rcases List.mem_cons.1 hx with rfl | hx
      · constructor <;> omega
      · have := hd d hx; constructor <;> omega
theorem dg_nat {d : Nat} (h : d < 6) : (dg d).toNat = 48 + d := by
  have : d = 0 ∨ d = 1 ∨ d = 2 ∨ d = 3 ∨ d = 4 ∨ d = 5 := by omega
  rcases this with rfl | rfl | rfl | rfl | rfl | rfl <;> rfl
theorem setL_full {L : Nat} (hL : L ≤ 6) : ∀ (ds : List Nat) (a : Int) (n : Nat), ds.Pairwise (· < ·) → (∀ d ∈ ds, a < (d : Int) ∧ d < L) → setL L a n (ds.map dg) = ((n + val ds : Nat) : Int)
  | [], a, n, _, _ => rfl
  | d :: ds, a, n, hp, hd => by
    have h := hd d (by simp)
    have e := dg_nat (d := d) (by omega)
    rw [List.pairwise_cons] at hp
    simp only [List.map_cons, setL, e]
    rw [if_neg (by omega), show ((48 + d : Nat) : Int) - 48 = d by omega, show 48 + d - 48 = d by omega, setL_full hL ds _ _ hp.2 fun x hx => ⟨by have := hp.1 x hx; omega, (hd x (by simp [hx])).2⟩]
    simp only [val]
    omega
theorem setL_yes {L : Nat} (hL : L ≤ 6) {ds : List Nat} (h : ds.Sublist (List.range L)) : setL L (-1) 0 (ds.map dg) = (val ds : Nat) := by
  rw [setL_full hL ds _ _ (List.Pairwise.sublist h List.pairwise_lt_range) fun d hd => ⟨by omega, sub_lt h hd⟩, Nat.zero_add]
theorem setL_no {L : Nat} {m : List UInt8} (h : ∀ ds : List Nat, ds.Sublist (List.range L) → m ≠ ds.map dg) : setL L (-1) 0 m = -1 := by
  rcases Classical.em (setL L (-1) 0 m = -1) with e | e
  · exact e
  · obtain ⟨ds, rfl, hp, hd⟩ := setL_sound m _ _ (by omega) e
    exact absurd rfl (h ds (sub_range hp fun d hx => (hd d hx).2))

/-! ### walks -/
theorem sgn_num {z : Nat} (hz : z ≤ 9) : (z = 0 ∧ ((sgn z).toNat : Int) = 116) ∨ (z = 1 ∧ ((sgn z).toNat : Int) = 102) ∨ (z = 2 ∧ ((sgn z).toNat : Int) = 91) ∨ (z = 3 ∧ ((sgn z).toNat : Int) = 33) ∨ (z = 4 ∧ ((sgn z).toNat : Int) = 38) ∨ (z = 5 ∧ ((sgn z).toNat : Int) = 124) ∨ (z = 6 ∧ ((sgn z).toNat : Int) = 88) ∨ (z = 7 ∧ ((sgn z).toNat : Int) = 87) ∨ (z = 8 ∧ ((sgn z).toNat : Int) = 85) ∨ (z = 9 ∧ ((sgn z).toNat : Int) = 82) := by
  have : z = 0 ∨ z = 1 ∨ z = 2 ∨ z = 3 ∨ z = 4 ∨ z = 5 ∨ z = 6 ∨ z = 7 ∨ z = 8 ∨ z = 9 := by omega
  rcases this with rfl | rfl | rfl | rfl | rfl | rfl | rfl | rfl | rfl | rfl <;> decide
def signs : ByteArray := { data := #[116, 102, 91, 33, 38, 124, 88, 87, 85, 82] }
theorem signs_bt : bt signs 0 = 116 ∧ bt signs 1 = 102 ∧ bt signs 2 = 91 ∧ bt signs 3 = 33 ∧ bt signs 4 = 38 ∧ bt signs 5 = 124 ∧ bt signs 6 = 88 ∧ bt signs 7 = 87 ∧ bt signs 8 = 85 ∧ bt signs 9 = 82 := by decide
theorem signs_at {k : Nat} (hk : k ≤ 9) : bt signs k = ((sgn k).toNat : Int) := by
  obtain ⟨h0, h1, h2, h3, h4, h5, h6, h7, h8, h9⟩ := signs_bt
  rcases sgn_num hk with ⟨rfl, e⟩ | ⟨rfl, e⟩ | ⟨rfl, e⟩ | ⟨rfl, e⟩ | ⟨rfl, e⟩ | ⟨rfl, e⟩ | ⟨rfl, e⟩ | ⟨rfl, e⟩ | ⟨rfl, e⟩ | ⟨rfl, e⟩ <;> rw [e] <;> assumption
theorem sgn_inj {k z : Nat} (hk : k ≤ 9) (hz : z ≤ 9) (h : ((sgn k).toNat : Int) = ((sgn z).toNat : Int)) : k = z := by
  rcases sgn_num hk with ⟨rfl, e⟩ | ⟨rfl, e⟩ | ⟨rfl, e⟩ | ⟨rfl, e⟩ | ⟨rfl, e⟩ | ⟨rfl, e⟩ | ⟨rfl, e⟩ | ⟨rfl, e⟩ | ⟨rfl, e⟩ | ⟨rfl, e⟩ <;> rw [e] at h <;>
    rcases sgn_num hz with ⟨rfl, e2⟩ | ⟨rfl, e2⟩ | ⟨rfl, e2⟩ | ⟨rfl, e2⟩ | ⟨rfl, e2⟩ | ⟨rfl, e2⟩ | ⟨rfl, e2⟩ | ⟨rfl, e2⟩ | ⟨rfl, e2⟩ | ⟨rfl, e2⟩ <;> rw [e2] at h <;> first | rfl | omega
set_option maxRecDepth 100000 in
theorem rsign_any (z : Nat) (hz : z ≤ 9) (x : Int) (hx : ((sgn z).toNat : Int) = x) (w : World) : Calls Tryd.prog 76 #[.int .u8 x] w fun e w' => e = .returned (.int .i64 (z : Int)) ∧ w' = w := by
  have hsz : signs.size = 10 := rfl
  have hbt := get_bt signs
  have hat : Hid (∀ k, k ≤ 9 → bt signs k = ((sgn k).toNat : Int)) := fun k h => signs_at h
  have hin : Hid (∀ k, k ≤ 9 → ((sgn k).toNat : Int) = x → k = z) := fun k hk h => sgn_inj hk hz (h.trans hx.symm)
  have hzx : Hid (bt signs z = x) := by rw [Hid, signs_at hz, hx]
  clear hx
  go_enter Tryd.func76, Tryd.ntmps76
  rw [show ({ data := #[116, 102, 91, 33, 38, 124, 88, 87, 85, 82] } : ByteArray) = signs from rfl]
  generalize signs = S at *
  go_wp2
  go_loop [4] (fun i => ∃ (k : Nat), k ≤ z ∧ i = .int .i64 k) (fun i => 10 - (intOf i).toNat)
  case atStart => exact ⟨0, by omega, rfl⟩
  case round =>
    obtain ⟨k, hk, rfl⟩ := hrel
    by_cases e : k = z
    · subst e
      have q : (bt S k == x) = true := beq_iff_eq.2 hzx.out
      go_wp2
      go_ret
      exact ⟨rfl, rfl⟩
    · have q : (bt S k == x) = false := beq_eq_false_iff_ne.2 fun h => e (hin.out k (by omega) (by rw [← hat.out k (by omega)]; exact h))
      go_wp2
      go_round
      case rel => exact ⟨k + 1, by omega, by go_num⟩
      case measure => simp [intOf]; omega

theorem cutL_at {n : Nat} {last : Bool} {i d : Nat} {a : Int} {l : List UInt8} {c : UInt8} (h : l[i]? = some c) :
    cutL n last i d a (l.drop i) = match run d [c] with
      | none => -2
      | some e => cutL n last (i + 1) e (if e = 0 ∧ loose c = n ∧ (last = true ∨ a < 0) then (i : Int) else a) (l.drop (i + 1)) := by
  rw [drop_yes h]
  rfl
set_option maxRecDepth 100000 in
set_option maxHeartbeats 2000000 in
theorem cut_any (s : ByteArray) (A B : UInt8) (X Y : Int) (hX : (A.toNat : Int) = X) (hY : (B.toNat : Int) = Y) (n : Nat) (hn : n ≠ 0) (hab : ∀ c, loose c = n ↔ c = A ∨ c = B) (last : Bool) (hs : s.size ≤ 300) (w : World) (R : Int) (hR : cutL n last 0 0 (-1) s.data.toList = R) :
    Calls Tryd.prog 75 #[.string s, .int .u8 X, .int .u8 Y, .bool last] w fun e w' => e = .returned (.int .i64 R) ∧ w' = w := by
  have hbt := get_bt s
  have HAB := Lib.hid hab
  have HX := Lib.hid hX
  have HY := Lib.hid hY
  have HR : Hid (cutL n last 0 0 (-1) (s.data.toList.drop 0) = R) := hR
  clear hR hX hY hab
  go_enter Tryd.func75, Tryd.ntmps75
  go_wp2
  go_loop [9, 10, 11] (fun a d i => ∃ (k d1 : Nat) (a1 : Int), k ≤ s.size ∧ d1 ≤ k ∧ -1 ≤ a1 ∧ a1 ≤ 300 ∧ a = .int .i64 a1 ∧ d = .int .i64 (d1 : Int) ∧ i = .int .i64 (k : Int) ∧ Hid (cutL n last k d1 a1 (s.data.toList.drop k) = R)) (fun _ _ i => s.size - (intOf i).toNat)
  case atStart => exact ⟨0, 0, -1, by omega, by omega, by omega, by omega, rfl, rfl, rfl, HR⟩
  case round =>
    clear HR
    obtain ⟨k, d, a, hk, hd, ha, ha2, rfl, rfl, rfl, HR⟩ := hrel
    by_cases hlt : k < s.size
    · obtain ⟨c, hc, hcb⟩ := bt_some hlt
      have HE := HR.out
      rw [cutL_at hc] at HE
      have hcl : c.toNat < 256 := c.toNat_lt
      have HB := Lib.hid hcb
      clear HR hc hcb
      by_cases h40 : c = 40
      · subst h40
        have q1 : (bt s k == 40) = true := by rw [HB.out]; rfl
        have q2 : (bt s k == 41) = false := by rw [HB.out]; rfl
        have HN : Hid (cutL n last (k + 1) (d + 1) a (s.data.toList.drop (k + 1)) = R) := by
          simp only [run, if_true] at HE
          rwa [if_neg (by omega)] at HE
        have q3 : decide ((d : Int) + 1 < 0) = false := decide_eq_false (by omega)
        have q4 : (((d : Int) + 1) == 0) = false := beq_eq_false_iff_ne.2 (by omega)
        clear HE HB HAB HX HY
        go_wp2
        go_round
        case rel => exact ⟨k + 1, d + 1, a, by omega, by omega, by omega, by omega, rfl, by go_num, by go_num, HN⟩
        case measure => simp [intOf]; omega
      have q1 : (bt s k == 40) = false := by rw [HB.out]; exact beq_eq_false_iff_ne.2 fun h => h40 (u8_inj (b := 40) h)
      by_cases h41 : c = 41
      · subst h41
        have q2 : (bt s k == 41) = true := by rw [HB.out]; rfl
        by_cases hd0 : d = 0
        · subst hd0
          have HN : Hid (R = -2) := HE.symm
          clear HE HB HAB HX HY
          go_wp2
          go_ret
          exact ⟨by rw [HN.out]; rfl, rfl⟩
        · have hl : loose 41 ≠ n := fun h => hn h.symm
          have HN : Hid (cutL n last (k + 1) (d - 1) a (s.data.toList.drop (k + 1)) = R) := by
            have e : run d [41] = some (d - 1) := by simp [run, hd0]
            rw [e] at HE
            simp only at HE
            rwa [if_neg (by rintro ⟨_, h, _⟩; exact hl h)] at HE
          have hA : (bt s k == X) = false := by rw [HB.out, ← HX.out]; exact beq_eq_false_iff_ne.2 fun h => hl ((HAB.out 41).2 (.inl (u8_inj h)))
          have hB : (bt s k == Y) = false := by rw [HB.out, ← HY.out]; exact beq_eq_false_iff_ne.2 fun h => hl ((HAB.out 41).2 (.inr (u8_inj h)))
          clear HE HB HAB HX HY
          by_cases hd1 : d = 1
          · subst hd1
            go_wp2
            go_round
            case rel => exact ⟨k + 1, 0, a, by omega, by omega, by omega, by omega, rfl, by go_num, by go_num, HN⟩
            case measure => simp [intOf]; omega
          · have q4 : (((d : Int) - 1) == 0) = false := beq_eq_false_iff_ne.2 (by omega)
            go_wp2
            go_round
            case rel => exact ⟨k + 1, d - 1, a, by omega, by omega, by omega, by omega, rfl, by go_num, by go_num, HN⟩
            case measure => simp [intOf]; omega
      have q2 : (bt s k == 41) = false := by rw [HB.out]; exact beq_eq_false_iff_ne.2 fun h => h41 (u8_inj (b := 41) h)
      have er : run d [c] = some d := by simp [run, h40, h41]
      rw [er] at HE
      simp only at HE
      have q3 : decide ((d : Int) < 0) = false := decide_eq_false (by omega)
      by_cases hd0 : d = 0
      · subst hd0
        by_cases hl : loose c = n
        · by_cases hu : last = true ∨ a < 0
          · have HN : Hid (cutL n last (k + 1) 0 (k : Int) (s.data.toList.drop (k + 1)) = R) := by rwa [if_pos ⟨rfl, hl, hu⟩] at HE
            have hu2 : (last = true) ∨ (last = false ∧ decide (a < 0) = true) := by
              rcases last with _ | _
              · rcases hu with h | h
                · cases h
                · exact .inr ⟨rfl, decide_eq_true h⟩
              · exact .inl rfl
            have hab : (bt s k == X) = true ∨ ((bt s k == X) = false ∧ (bt s k == Y) = true) := by
              rcases hx : (bt s k == X) with _ | _
              · right
                refine ⟨rfl, ?_⟩
                rcases (HAB.out c).1 hl with h | h
                · rw [HB.out, ← HX.out, h] at hx; simp at hx
                · rw [HB.out, ← HY.out, h]; simp
              · exact .inl rfl
            clear HE HB HAB HX HY hu
            rcases hab with hA | ⟨hA, hB⟩ <;> rcases hu2 with rfl | ⟨rfl, hq⟩
            all_goals
              go_wp2
              go_round
              case rel => exact ⟨k + 1, 0, k, by omega, by omega, by omega, by omega, rfl, rfl, by go_num, HN⟩
              case measure => simp [intOf]; omega
          · have HN : Hid (cutL n last (k + 1) 0 a (s.data.toList.drop (k + 1)) = R) := by rwa [if_neg (by rintro ⟨_, _, h⟩; exact hu h)] at HE
            obtain rfl : last = false := by
              rcases last with _ | _
              · rfl
              · exact absurd (.inl rfl) hu
            have hq : decide (a < 0) = false := decide_eq_false fun h => hu (.inr h)
            have hab : (bt s k == X) = true ∨ ((bt s k == X) = false ∧ (bt s k == Y) = true) := by
              rcases hx : (bt s k == X) with _ | _
              · right
                refine ⟨rfl, ?_⟩
                rcases (HAB.out c).1 hl with h | h
                · rw [HB.out, ← HX.out, h] at hx; simp at hx
                · rw [HB.out, ← HY.out, h]; simp
              · exact .inl rfl
            clear HE HB HAB HX HY hu
            rcases hab with hA | ⟨hA, hB⟩
            all_goals
              go_wp2
              go_round
              case rel => exact ⟨k + 1, 0, a, by omega, by omega, by omega, by omega, rfl, rfl, by go_num, HN⟩
              case measure => simp [intOf]; omega
        · have HN : Hid (cutL n last (k + 1) 0 a (s.data.toList.drop (k + 1)) = R) := by rwa [if_neg (by rintro ⟨_, h, _⟩; exact hl h)] at HE
          have hA : (bt s k == X) = false := by rw [HB.out, ← HX.out]; exact beq_eq_false_iff_ne.2 fun h => hl ((HAB.out c).2 (.inl (u8_inj h)))
          have hB : (bt s k == Y) = false := by rw [HB.out, ← HY.out]; exact beq_eq_false_iff_ne.2 fun h => hl ((HAB.out c).2 (.inr (u8_inj h)))
          clear HE HB HAB HX HY
          go_wp2
          go_round
          case rel => exact ⟨k + 1, 0, a, by omega, by omega, by omega, by omega, rfl, rfl, by go_num, HN⟩
          case measure => simp [intOf]; omega
      · have HN : Hid (cutL n last (k + 1) d a (s.data.toList.drop (k + 1)) = R) := by rwa [if_neg (by rintro ⟨h, _⟩; exact hd0 h)] at HE
        have q4 : ((d : Int) == 0) = false := beq_eq_false_iff_ne.2 (by omega)
        clear HE HB HAB HX HY
        go_wp2
        go_round
        case rel => exact ⟨k + 1, d, a, by omega, by omega, by omega, by omega, rfl, rfl, by go_num, HN⟩
        case measure => simp [intOf]; omega
    · have HN : Hid (a = R) := by
        have e : s.data.toList.drop k = [] := List.drop_eq_nil_of_le (by rw [data_len]; omega)
        have := HR.out
        rw [e] at this
        exact this
      clear HR
      go_wp2
      go_ret
      exact ⟨by rw [← HN.out]; rfl, rfl⟩

set_option maxRecDepth 100000 in
set_option maxHeartbeats 2000000 in
theorem rset_bad (L : Int) (s : ByteArray) (w : World) (hs : s.size ≤ 300) (h : ∀ m, s.data.toList ≠ 91 :: (m ++ [93])) :
    Calls Tryd.prog 77 #[.int .i64 L, .string s] w fun e w' => e = .returned (.int .i64 (-1)) ∧ w' = w := by
  have hbt := get_bt s
  by_cases h2 : s.size < 2
  · clear h
    go_enter Tryd.func77, Tryd.ntmps77
    go_wp2
    go_ret
    exact ⟨rfl, rfl⟩
  · by_cases h0 : bt s 0 = 91
    · have q0 : (bt s 0 != 91) = false := by simp [h0]
      have hl : bt s (s.size - 1) ≠ 93 := by
        intro hl
        obtain ⟨c, hc, hb⟩ := bt_some (T := s) (k := 0) (by omega)
        obtain ⟨d, hd, hb2⟩ := bt_some (T := s) (k := s.size - 1) (by omega)
        rw [h0] at hb
        rw [hl] at hb2
        obtain rfl : c = 91 := u8_inj (b := 91) hb.symm
        obtain rfl : d = 93 := u8_inj (b := 93) hb2.symm
        rcases he : s.data.toList with _ | ⟨x, r⟩
        · rw [he] at hc; cases hc
        · rw [he] at hc hd
          obtain rfl : x = 91 := by simpa using hc
          have hr : ((91 : UInt8) :: r).length = s.size := by rw [← he, data_len]
          simp only [List.length_cons] at hr
          rcases List.eq_nil_or_concat r with rfl | ⟨m, y, rfl⟩
          · simp at hr; omega
          · simp only [List.concat_eq_append] at *
            simp only [List.length_append, List.length_cons, List.length_nil] at hr
            have e1 : s.size - 1 = m.length + 1 := by omega
            rw [e1, List.getElem?_cons_succ, List.getElem?_append_right (Nat.le_refl _), Nat.sub_self] at hd
            obtain rfl : y = 93 := by simpa using hd
            exact h m he
      have q1 : (bt s (s.size - 1) != 93) = true := by simp [hl]
      clear h hl h0
      go_enter Tryd.func77, Tryd.ntmps77
      go_wp2
      go_ret
      exact ⟨rfl, rfl⟩
    · have q0 : (bt s 0 != 91) = true := by simp [h0]
      clear h h0
      go_enter Tryd.func77, Tryd.ntmps77
      go_wp2
      go_ret
      exact ⟨rfl, rfl⟩
theorem setL_at {L : Nat} {a : Int} {n i : Nat} {l : List UInt8} {c : UInt8} (h : l[i]? = some c) :
    setL L a n (l.drop i) = if (c.toNat : Int) - 48 ≤ a ∨ (L : Int) ≤ (c.toNat : Int) - 48 then -1 else setL L ((c.toNat : Int) - 48) (n + 2 ^ (c.toNat - 48)) (l.drop (i + 1)) := by
  rw [drop_yes h]
  rfl
set_option maxRecDepth 100000 in
set_option maxHeartbeats 2000000 in
theorem rset_any (L : Nat) (s : ByteArray) (m : List UInt8) (w : World) (h6 : L ≤ 6) (hs : s.size ≤ 300) (hm : s.data.toList = 91 :: (m ++ [93])) (R : Int) (hR : setL L (-1) 0 m = R) :
    Calls Tryd.prog 77 #[.int .i64 (L : Int), .string s] w fun e w' => e = .returned (.int .i64 R) ∧ w' = w := by
  have hbt := get_bt s
  have hsz : s.size = m.length + 2 := by rw [← data_len, hm]; simp
  have h0 : bt s 0 = 91 := (data_bt (k := 0) (c := 91) (by rw [hm]; rfl)).1
  have h1 : bt s (m.length + 1) = 93 := (data_bt (k := m.length + 1) (c := 93) (by rw [hm]; simp)).1
  have HC : Hid (∀ j c, m[j]? = some c → bt s (j + 1) = ((c : UInt8).toNat : Int)) := fun j c h => (data_bt (k := j + 1) (c := c) (by
    rw [hm, List.getElem?_cons_succ, List.getElem?_append_left (List.getElem?_eq_some_iff.1 h).1]; exact h)).1
  have q0 : (bt s 0 != 91) = false := by simp [h0]
  have q1 : (bt s (m.length + 1) != 93) = false := by simp [h1]
  have HP := fun a ha hb W => Lib.hid (pow2_any a W ha hb)
  have HR : Hid (setL L (-1) 0 (m.drop 0) = R) := hR
  clear hR hm h0 h1
  go_enter Tryd.func77, Tryd.ntmps77
  go_wp2
  go_loop [5, 6, 7] (fun n a i => ∃ (j k : Nat) (z : Int), j ≤ m.length ∧ k ≤ 100 * j ∧ -1 ≤ z ∧ z ≤ 300 ∧ n = .int .i64 (k : Int) ∧ a = .int .i64 z ∧ i = .int .i64 ((j : Int) + 1) ∧ Hid (setL L z k (m.drop j) = R)) (fun _ _ i => m.length + 1 - (intOf i).toNat)
  case atStart => exact ⟨0, 0, -1, by omega, by omega, by omega, by omega, rfl, rfl, rfl, HR⟩
  case round =>
    clear HR
    obtain ⟨j, k, z, hj, hk, hz, hz2, rfl, rfl, rfl, HR⟩ := hrel
    by_cases hlt : j < m.length
    · obtain ⟨c, hc⟩ : ∃ c, m[j]? = some c := ⟨_, List.getElem?_eq_getElem hlt⟩
      have hb := HC.out j c hc
      have HE := HR.out
      rw [setL_at hc] at HE
      have hcl : c.toNat < 256 := c.toNat_lt
      clear HR hc
      generalize c.toNat = x at *
      by_cases hbad : (x : Int) - 48 ≤ z ∨ (L : Int) ≤ (x : Int) - 48
      · rw [if_pos hbad] at HE
        have HN : Hid (R = -1) := HE.symm
        clear HE
        by_cases hz3 : (x : Int) - 48 ≤ z
        · clear hbad
          go_wp2
          go_ret
          exact ⟨by rw [HN.out]; rfl, rfl⟩
        · have hL3 : (L : Int) ≤ (x : Int) - 48 := by omega
          clear hbad
          go_wp2
          go_ret
          exact ⟨by rw [HN.out]; rfl, rfl⟩
      · rw [if_neg hbad] at HE
        have HX := HP ((x : Int) - 48) (by omega) (by omega) w
        obtain ⟨P, hP⟩ : ∃ P : Nat, P = 2 ^ (x - 48) := ⟨_, rfl⟩
        have hP2 : (2 : Int) ^ ((x : Int) - 48).toNat = (P : Int) := by
          rw [hP, show ((x : Int) - 48).toNat = x - 48 by omega, Int.natCast_pow]; rfl
        have hPl : P ≤ 100 := by
          have : x - 48 = 0 ∨ x - 48 = 1 ∨ x - 48 = 2 ∨ x - 48 = 3 ∨ x - 48 = 4 ∨ x - 48 = 5 := by omega
          rw [hP]
          rcases this with e | e | e | e | e | e <;> rw [e] <;> decide
        rw [hP2] at HX
        rw [← hP] at HE
        have HN := Lib.hid HE
        have hz3 : decide ((x : Int) - 48 ≤ z) = false := decide_eq_false (by omega)
        have hz4 : decide ((x : Int) - 48 ≥ (L : Int)) = false := decide_eq_false (by omega)
        clear HE hP hP2 HP
        go_wp2_with fail
        refine HX.out.mono ?_
        rintro e w2 ⟨he, rfl⟩
        obtain rfl := he.out
        clear HX he
        go_wp2
        go_round
        case rel => exact ⟨j + 1, k + P, (x : Int) - 48, by omega, by omega, by omega, by omega, by go_num, by go_num, by go_num, HN⟩
        case measure => simp [intOf]; omega
    · have HN : Hid (R = (k : Int)) := by
        have := HR.out
        rw [List.drop_eq_nil_of_le (by omega)] at this
        exact this.symm
      clear HR HP
      go_wp2
      go_ret
      exact ⟨by rw [HN.out]; rfl, rfl⟩
end Go.Proofs.YtlhhhdgkdbplmaaDoor.Fm

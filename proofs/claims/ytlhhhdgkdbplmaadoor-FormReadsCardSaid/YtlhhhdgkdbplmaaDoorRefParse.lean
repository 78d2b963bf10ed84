/- The walks of the reference's parse and Parse. -/
import Derived.Test.YtlhhhdgkdbplmaaDoorRefCut
import Derived.Test.YtlhhhdgkdbplmaaDoorNodes
import Derived.Deep.QuietTactic
namespace Go.Proofs.YtlhhhdgkdbplmaaDoor.Fm
open Go.RowKit Go.IntWalk Go.PlainAid Go.Proofs.YtlhhhdgkdbplmaaDoor.Wd Go.Proofs.YtlhhhdgkdbplmaaDoor.Wo
set_option linter.unusedVariables false

def PRes (w0 : World) (f : List Nd) (x : Option Tree) (e : Ending) (w' : World) : Prop :=
  match x with
  | some t => ∃ v', e = .returned (.tuple #[v', .bool true]) ∧ Hid (Own w0 w' [eNodes v' (flat t f)] [])
  | none => ∃ v', e = .returned (.tuple #[v', .bool false]) ∧ Hid (Own w0 w' [] [])
def PDoes (L : Int) (s : List UInt8) (x : Option Tree) : Prop :=
  ∀ (S : ByteArray) (w0 w : World) (v : Value) (f : List Nd), S.data.toList = s → S.size ≤ 300 → Own w0 w [eNodes v f] [] → f.length + s.length ≤ 1000 →
    Calls Tryd.prog 55 #[.int .i64 L, .string S, v] w (PRes w0 f x)
theorem nd_form {w0 w : World} {v : Value} {l : List Nd} (h : Own w0 w [eNodes v l] []) : ∃ A cap, v = .slice A l.length cap := by
  obtain ⟨A, cap, hv, _⟩ := h.form (e := eNodes v l) (by simp)
  exact ⟨A, cap, hv⟩
theorem ex_mid (s : ByteArray) (p k : Nat) : (s.extract p k).data.toList = (s.data.toList.drop p).take (k - p) := by
  rw [ByteArray.data_extract, Array.toList_extract, List.extract_eq_take_drop]
theorem ex_front (s : ByteArray) (k : Nat) : (s.extract 0 k).data.toList = s.data.toList.take k := by
  rw [ex_mid, List.drop_zero, Nat.sub_zero]
theorem ex_back (s : ByteArray) (k : Nat) : (s.extract k s.size).data.toList = s.data.toList.drop k := by
  rw [ex_mid]
  exact List.take_of_length_le (by rw [List.length_drop, data_len]; omega)
theorem cut3 (S : ByteArray) (hS : S.size ≤ 300) (R : Int) (hR : cutL 3 true 0 0 (-1) S.data.toList = R) (w : World) : Calls Tryd.prog 75 #[.string S, .int .u8 124, .int .u8 124, .bool true] w fun e w' => e = .returned (.int .i64 R) ∧ w' = w :=
  cut_any S 124 124 124 124 rfl rfl 3 (by decide) (fun c => ⟨fun h => .inl (loose3 h), by rintro (rfl | rfl) <;> rfl⟩) true hS w R hR
theorem cut2 (S : ByteArray) (hS : S.size ≤ 300) (R : Int) (hR : cutL 2 true 0 0 (-1) S.data.toList = R) (w : World) : Calls Tryd.prog 75 #[.string S, .int .u8 38, .int .u8 38, .bool true] w fun e w' => e = .returned (.int .i64 R) ∧ w' = w :=
  cut_any S 38 38 38 38 rfl rfl 2 (by decide) (fun c => ⟨fun h => .inl (loose2 h), by rintro (rfl | rfl) <;> rfl⟩) true hS w R hR
theorem cut1 (S : ByteArray) (hS : S.size ≤ 300) (R : Int) (hR : cutL 1 false 0 0 (-1) S.data.toList = R) (w : World) : Calls Tryd.prog 75 #[.string S, .int .u8 85, .int .u8 82, .bool false] w fun e w' => e = .returned (.int .i64 R) ∧ w' = w :=
  cut_any S 85 82 85 82 rfl rfl 1 (by decide) (fun c => ⟨fun h => by obtain ⟨k, ⟨_, h⟩ | ⟨_, h⟩⟩ := loose1 h <;> simp [h], by rintro (rfl | rfl) <;> rfl⟩) false hS w R hR
set_option maxRecDepth 100000 in
set_option maxHeartbeats 2000000 in
theorem parse_nil {L : Int} (S : ByteArray) (h : S.size = 0) (w0 w : World) (v : Value) (f : List Nd) (hS : S.size ≤ 300) (hO : Own w0 w [eNodes v f] []) :
    Calls Tryd.prog 55 #[.int .i64 L, .string S, v] w (PRes w0 f none) := by
  go_enter Tryd.func55, Tryd.ntmps55
  go_wp2
  go_ret2
  exact ⟨v, rfl, hO.only⟩
set_option maxRecDepth 100000 in
set_option maxHeartbeats 2000000 in
theorem parse_neg {L : Int} (S : ByteArray) (hp : 0 < S.size) (HC3 : ∀ W, Calls Tryd.prog 75 #[.string S, .int .u8 124, .int .u8 124, .bool true] W fun e w' => e = .returned (.int .i64 (-2)) ∧ w' = W) (w0 w : World) (v : Value) (f : List Nd) (hS : S.size ≤ 300) (hO : Own w0 w [eNodes v f] []) :
    Calls Tryd.prog 55 #[.int .i64 L, .string S, v] w (PRes w0 f none) := by
  have HO := Lib.hid hO
  clear hO
  go_enter Tryd.func55, Tryd.ntmps55
  go_wp2_with fail
  refine (HC3 _).mono ?_
  rintro e w4 ⟨rfl, rfl⟩
  clear HC3
  go_wp2
  go_ret2
  exact ⟨v, rfl, HO.out.only⟩
set_option maxRecDepth 100000 in
set_option maxHeartbeats 2000000 in
theorem parse_two3 {L : Int} (S : ByteArray) {p q : List UInt8} {x y : Option Tree} {m k : Nat} (w0 w : World) (v : Value) (f : List Nd) (hk : k ≤ 9) (hm : m < S.size) (hp1 : (S.extract 0 m).data.toList = p) (hq1 : (S.extract (m + 1) S.size).data.toList = q) (hs1 : (S.extract 0 m).size ≤ 300) (hs2 : (S.extract (m + 1) S.size).size ≤ 300) (hb : ((sgn k).toNat : Int) = bt S m) (hf : f.length + p.length + q.length ≤ 999) (hx : PDoes L p x) (hy : PDoes L q y) (hxs : ∀ a, x = some a → a.size ≤ p.length) (hys : ∀ b, y = some b → b.size ≤ q.length) (HC3 : ∀ W, Calls Tryd.prog 75 #[.string S, .int .u8 124, .int .u8 124, .bool true] W fun e w' => e = .returned (.int .i64 m) ∧ w' = W) (hS : S.size ≤ 300) (hO : Own w0 w [eNodes v f] []) :
    Calls Tryd.prog 55 #[.int .i64 L, .string S, v] w (PRes w0 f (mk k x y)) := by
  have HO := Lib.hid hO
  have HS := fun W => rsign_any k hk (bt S m) hb W
  have HX := fun W W0 V g (hW : Own W0 W [eNodes V g] []) (hg : g.length + p.length ≤ 1000) => hx (S.extract 0 m) W0 W V g hp1 hs1 hW hg
  have HY := fun W W0 V g (hW : Own W0 W [eNodes V g] []) (hg : g.length + q.length ≤ 1000) => hy (S.extract (m + 1) S.size) W0 W V g hq1 hs2 hW hg
  have HXS := Lib.hid hxs
  have HYS := Lib.hid hys
  have hbt := get_bt S
  have q1 : ((m : Int) == -1) = false := beq_eq_false_iff_ne.2 (by omega)
  have q2 : ((m : Int) == -2) = false := beq_eq_false_iff_ne.2 (by omega)
  clear hO hx hy hp1 hq1 hs1 hs2 hb hxs hys
  go_enter Tryd.func55, Tryd.ntmps55
  go_wp2_with fail
  refine (HC3 _).mono ?_
  rintro e w4 ⟨rfl, rfl⟩
  clear HC3
  go_wp2_with fail
  refine (HX _ w0 v f HO.out (by omega)).mono ?_
  rcases x with _ | a
  · rintro e w5 ⟨v5, rfl, h5⟩
    clear HX HY HS HO HXS HYS
    go_wp2
    go_ret2
    exact ⟨v5, rfl, h5⟩
  rintro e w5 ⟨v5, rfl, h5⟩
  obtain ⟨A5, c5, rfl⟩ := nd_form h5.out
  have ha := HXS.out a rfl
  have hap := a.size_pos
  have e5 : (flat a f).length ≤ f.length + a.size := Nat.le_of_eq (flat_length a f)
  have e5' : f.length + a.size ≤ (flat a f).length := Nat.le_of_eq (flat_length a f).symm
  have HF : Hid (∀ b, flat (.bin k a b) f = flat b (flat a f) ++ [((k : Int), (((flat a f).length - 1 : Nat) : Int), (((flat b (flat a f)).length - 1 : Nat) : Int))]) := fun b => rfl
  have HL : Hid (∀ b, (flat b (flat a f)).length = (flat a f).length + b.size) := fun b => flat_length b _
  clear HX HO HXS
  generalize flat a f = fa at *
  go_wp2_with fail
  refine (HY _ w0 _ fa h5.out (by omega)).mono ?_
  rcases y with _ | b
  · rintro e w6 ⟨v6, rfl, h6⟩
    clear HY HS h5 HYS HF HL
    go_wp2
    go_ret2
    exact ⟨v6, rfl, h6⟩
  rintro e w6 ⟨v6, rfl, h6⟩
  obtain ⟨A6, c6, rfl⟩ := nd_form h6.out
  have hbs := HYS.out b rfl
  have hbp := b.size_pos
  have e6 := Nat.le_of_eq (HL.out b)
  have e6' := Nat.le_of_eq (HL.out b).symm
  have HFb := Lib.hid (HF.out b)
  clear HY h5 HYS HF HL
  generalize flat b fa = fb at *
  go_wp2_with fail
  refine (HS _).mono ?_
  rintro e w7 ⟨rfl, rfl⟩
  go_wp2_with (at_builtin; refine own_node (m := ((k : Int), (fa.length : Int) - 1, (fb.length : Int) - 1)) rfl _ _ rfl rfl h6.out rfl (by omega) ?_)
  intro g cap w8 ho
  have H8 := Lib.hid ho
  clear ho h6 HS
  go_wp2
  go_ret2
  refine ⟨_, rfl, ?_⟩
  show Hid (Own w0 w8 [eNodes _ (flat (.bin k a b) f)] [])
  unfold Hid
  rw [HFb.out, show ((fa.length - 1 : Nat) : Int) = (fa.length : Int) - 1 by omega, show ((fb.length - 1 : Nat) : Int) = (fb.length : Int) - 1 by omega]
  exact H8.out
set_option maxRecDepth 100000 in
set_option maxHeartbeats 2000000 in
theorem parse_two2 {L : Int} (S : ByteArray) {p q : List UInt8} {x y : Option Tree} {m k : Nat} (w0 w : World) (v : Value) (f : List Nd) (hk : k ≤ 9) (hm : m < S.size) (hp1 : (S.extract 0 m).data.toList = p) (hq1 : (S.extract (m + 1) S.size).data.toList = q) (hs1 : (S.extract 0 m).size ≤ 300) (hs2 : (S.extract (m + 1) S.size).size ≤ 300) (hb : ((sgn k).toNat : Int) = bt S m) (hf : f.length + p.length + q.length ≤ 999) (hx : PDoes L p x) (hy : PDoes L q y) (hxs : ∀ a, x = some a → a.size ≤ p.length) (hys : ∀ b, y = some b → b.size ≤ q.length) (HC3 : ∀ W, Calls Tryd.prog 75 #[.string S, .int .u8 124, .int .u8 124, .bool true] W fun e w' => e = .returned (.int .i64 (-1)) ∧ w' = W) (HC2 : ∀ W, Calls Tryd.prog 75 #[.string S, .int .u8 38, .int .u8 38, .bool true] W fun e w' => e = .returned (.int .i64 m) ∧ w' = W) (hS : S.size ≤ 300) (hO : Own w0 w [eNodes v f] []) :
    Calls Tryd.prog 55 #[.int .i64 L, .string S, v] w (PRes w0 f (mk k x y)) := by
  have HO := Lib.hid hO
  have HS := fun W => rsign_any k hk (bt S m) hb W
  have HX := fun W W0 V g (hW : Own W0 W [eNodes V g] []) (hg : g.length + p.length ≤ 1000) => hx (S.extract 0 m) W0 W V g hp1 hs1 hW hg
  have HY := fun W W0 V g (hW : Own W0 W [eNodes V g] []) (hg : g.length + q.length ≤ 1000) => hy (S.extract (m + 1) S.size) W0 W V g hq1 hs2 hW hg
  have HXS := Lib.hid hxs
  have HYS := Lib.hid hys
  have hbt := get_bt S
  have q1 : ((m : Int) == -1) = false := beq_eq_false_iff_ne.2 (by omega)
  have q2 : ((m : Int) == -2) = false := beq_eq_false_iff_ne.2 (by omega)
  clear hO hx hy hp1 hq1 hs1 hs2 hb hxs hys
  go_enter Tryd.func55, Tryd.ntmps55
  go_wp2_with fail
  refine (HC3 _).mono ?_
  rintro e w4 ⟨rfl, rfl⟩
  clear HC3
  go_wp2_with fail
  refine (HC2 _).mono ?_
  rintro e w3 ⟨rfl, rfl⟩
  clear HC2
  go_wp2_with fail
  refine (HX _ w0 v f HO.out (by omega)).mono ?_
  rcases x with _ | a
  · rintro e w5 ⟨v5, rfl, h5⟩
    clear HX HY HS HO HXS HYS
    go_wp2
    go_ret2
    exact ⟨v5, rfl, h5⟩
  rintro e w5 ⟨v5, rfl, h5⟩
  obtain ⟨A5, c5, rfl⟩ := nd_form h5.out
  have ha := HXS.out a rfl
  have hap := a.size_pos
  have e5 : (flat a f).length ≤ f.length + a.size := Nat.le_of_eq (flat_length a f)
  have e5' : f.length + a.size ≤ (flat a f).length := Nat.le_of_eq (flat_length a f).symm
  have HF : Hid (∀ b, flat (.bin k a b) f = flat b (flat a f) ++ [((k : Int), (((flat a f).length - 1 : Nat) : Int), (((flat b (flat a f)).length - 1 : Nat) : Int))]) := fun b => rfl
  have HL : Hid (∀ b, (flat b (flat a f)).length = (flat a f).length + b.size) := fun b => flat_length b _
  clear HX HO HXS
  generalize flat a f = fa at *
  go_wp2_with fail
  refine (HY _ w0 _ fa h5.out (by omega)).mono ?_
  rcases y with _ | b
  · rintro e w6 ⟨v6, rfl, h6⟩
    clear HY HS h5 HYS HF HL
    go_wp2
    go_ret2
    exact ⟨v6, rfl, h6⟩
  rintro e w6 ⟨v6, rfl, h6⟩
  obtain ⟨A6, c6, rfl⟩ := nd_form h6.out
  have hbs := HYS.out b rfl
  have hbp := b.size_pos
  have e6 := Nat.le_of_eq (HL.out b)
  have e6' := Nat.le_of_eq (HL.out b).symm
  have HFb := Lib.hid (HF.out b)
  clear HY h5 HYS HF HL
  generalize flat b fa = fb at *
  go_wp2_with fail
  refine (HS _).mono ?_
  rintro e w7 ⟨rfl, rfl⟩
  go_wp2_with (at_builtin; refine own_node (m := ((k : Int), (fa.length : Int) - 1, (fb.length : Int) - 1)) rfl _ _ rfl rfl h6.out rfl (by omega) ?_)
  intro g cap w8 ho
  have H8 := Lib.hid ho
  clear ho h6 HS
  go_wp2
  go_ret2
  refine ⟨_, rfl, ?_⟩
  show Hid (Own w0 w8 [eNodes _ (flat (.bin k a b) f)] [])
  unfold Hid
  rw [HFb.out, show ((fa.length - 1 : Nat) : Int) = (fa.length : Int) - 1 by omega, show ((fb.length - 1 : Nat) : Int) = (fb.length : Int) - 1 by omega]
  exact H8.out
set_option maxRecDepth 100000 in
set_option maxHeartbeats 2000000 in
theorem parse_two1 {L : Int} (S : ByteArray) {p q : List UInt8} {x y : Option Tree} {m k : Nat} (w0 w : World) (v : Value) (f : List Nd) (hk : k ≤ 9) (hm : m < S.size) (hp1 : (S.extract 0 m).data.toList = p) (hq1 : (S.extract (m + 1) S.size).data.toList = q) (hs1 : (S.extract 0 m).size ≤ 300) (hs2 : (S.extract (m + 1) S.size).size ≤ 300) (hb : ((sgn k).toNat : Int) = bt S m) (hf : f.length + p.length + q.length ≤ 999) (hx : PDoes L p x) (hy : PDoes L q y) (hxs : ∀ a, x = some a → a.size ≤ p.length) (hys : ∀ b, y = some b → b.size ≤ q.length) (HC3 : ∀ W, Calls Tryd.prog 75 #[.string S, .int .u8 124, .int .u8 124, .bool true] W fun e w' => e = .returned (.int .i64 (-1)) ∧ w' = W) (HC2 : ∀ W, Calls Tryd.prog 75 #[.string S, .int .u8 38, .int .u8 38, .bool true] W fun e w' => e = .returned (.int .i64 (-1)) ∧ w' = W) (HC1 : ∀ W, Calls Tryd.prog 75 #[.string S, .int .u8 85, .int .u8 82, .bool false] W fun e w' => e = .returned (.int .i64 m) ∧ w' = W) (hS : S.size ≤ 300) (hO : Own w0 w [eNodes v f] []) :
    Calls Tryd.prog 55 #[.int .i64 L, .string S, v] w (PRes w0 f (mk k x y)) := by
  have HO := Lib.hid hO
  have HS := fun W => rsign_any k hk (bt S m) hb W
  have HX := fun W W0 V g (hW : Own W0 W [eNodes V g] []) (hg : g.length + p.length ≤ 1000) => hx (S.extract 0 m) W0 W V g hp1 hs1 hW hg
  have HY := fun W W0 V g (hW : Own W0 W [eNodes V g] []) (hg : g.length + q.length ≤ 1000) => hy (S.extract (m + 1) S.size) W0 W V g hq1 hs2 hW hg
  have HXS := Lib.hid hxs
  have HYS := Lib.hid hys
  have hbt := get_bt S
  have q1 : ((m : Int) == -1) = false := beq_eq_false_iff_ne.2 (by omega)
  have q2 : ((m : Int) == -2) = false := beq_eq_false_iff_ne.2 (by omega)
  clear hO hx hy hp1 hq1 hs1 hs2 hb hxs hys
  go_enter Tryd.func55, Tryd.ntmps55
  go_wp2_with fail
  refine (HC3 _).mono ?_
  rintro e w4 ⟨rfl, rfl⟩
  clear HC3
  go_wp2_with fail
  refine (HC2 _).mono ?_
  rintro e w3 ⟨rfl, rfl⟩
  clear HC2
  go_wp2_with fail
  refine (HC1 _).mono ?_
  rintro e w2 ⟨rfl, rfl⟩
  clear HC1
  go_wp2_with fail
  refine (HX _ w0 v f HO.out (by omega)).mono ?_
  rcases x with _ | a
  · rintro e w5 ⟨v5, rfl, h5⟩
    clear HX HY HS HO HXS HYS
    go_wp2
    go_ret2
    exact ⟨v5, rfl, h5⟩
  rintro e w5 ⟨v5, rfl, h5⟩
  obtain ⟨A5, c5, rfl⟩ := nd_form h5.out
  have ha := HXS.out a rfl
  have hap := a.size_pos
  have e5 : (flat a f).length ≤ f.length + a.size := Nat.le_of_eq (flat_length a f)
  have e5' : f.length + a.size ≤ (flat a f).length := Nat.le_of_eq (flat_length a f).symm
  have HF : Hid (∀ b, flat (.bin k a b) f = flat b (flat a f) ++ [((k : Int), (((flat a f).length - 1 : Nat) : Int), (((flat b (flat a f)).length - 1 : Nat) : Int))]) := fun b => rfl
  have HL : Hid (∀ b, (flat b (flat a f)).length = (flat a f).length + b.size) := fun b => flat_length b _
  clear HX HO HXS
  generalize flat a f = fa at *
  go_wp2_with fail
  refine (HY _ w0 _ fa h5.out (by omega)).mono ?_
  rcases y with _ | b
  · rintro e w6 ⟨v6, rfl, h6⟩
    clear HY HS h5 HYS HF HL
    go_wp2
    go_ret2
    exact ⟨v6, rfl, h6⟩
  rintro e w6 ⟨v6, rfl, h6⟩
  obtain ⟨A6, c6, rfl⟩ := nd_form h6.out
  have hbs := HYS.out b rfl
  have hbp := b.size_pos
  have e6 := Nat.le_of_eq (HL.out b)
  have e6' := Nat.le_of_eq (HL.out b).symm
  have HFb := Lib.hid (HF.out b)
  clear HY h5 HYS HF HL
  generalize flat b fa = fb at *
  go_wp2_with fail
  refine (HS _).mono ?_
  rintro e w7 ⟨rfl, rfl⟩
  go_wp2_with (at_builtin; refine own_node (m := ((k : Int), (fa.length : Int) - 1, (fb.length : Int) - 1)) rfl _ _ rfl rfl h6.out rfl (by omega) ?_)
  intro g cap w8 ho
  have H8 := Lib.hid ho
  clear ho h6 HS
  go_wp2
  go_ret2
  refine ⟨_, rfl, ?_⟩
  show Hid (Own w0 w8 [eNodes _ (flat (.bin k a b) f)] [])
  unfold Hid
  rw [HFb.out, show ((fa.length - 1 : Nat) : Int) = (fa.length : Int) - 1 by omega, show ((fb.length - 1 : Nat) : Int) = (fb.length : Int) - 1 by omega]
  exact H8.out
set_option maxRecDepth 100000 in
set_option maxHeartbeats 2000000 in
theorem parse_un3 {L : Int} (S : ByteArray) {q : List UInt8} {y : Option Tree} (w0 w : World) (v : Value) (f : List Nd) (h0 : bt S 0 = 33) (hm : 0 < S.size) (hq1 : (S.extract 1 S.size).data.toList = q) (hs2 : (S.extract 1 S.size).size ≤ 300) (hf : f.length + q.length ≤ 999) (hy : PDoes L q y) (hys : ∀ b, y = some b → b.size ≤ q.length) (HC3 : ∀ W, Calls Tryd.prog 75 #[.string S, .int .u8 124, .int .u8 124, .bool true] W fun e w' => e = .returned (.int .i64 (-1)) ∧ w' = W) (HC2 : ∀ W, Calls Tryd.prog 75 #[.string S, .int .u8 38, .int .u8 38, .bool true] W fun e w' => e = .returned (.int .i64 (-1)) ∧ w' = W) (HC1 : ∀ W, Calls Tryd.prog 75 #[.string S, .int .u8 85, .int .u8 82, .bool false] W fun e w' => e = .returned (.int .i64 (-1)) ∧ w' = W) (hS : S.size ≤ 300) (hO : Own w0 w [eNodes v f] []) :
    Calls Tryd.prog 55 #[.int .i64 L, .string S, v] w (PRes w0 f (y.map (.un 3))) := by
  have HO := Lib.hid hO
  have HS := fun W => rsign_any 3 (by decide) (bt S 0) (by rw [h0]; rfl) W
  have HY := fun W W0 V g (hW : Own W0 W [eNodes V g] []) (hg : g.length + q.length ≤ 1000) => hy (S.extract 1 S.size) W0 W V g hq1 hs2 hW hg
  have HYS := Lib.hid hys
  have hbt := get_bt S
  have q0 : (bt S 0 == 33) = true := by rw [h0]; rfl
  clear hO hy hq1 hs2 hys h0
  go_enter Tryd.func55, Tryd.ntmps55
  go_wp2_with fail
  refine (HC3 _).mono ?_
  rintro e w4 ⟨rfl, rfl⟩
  clear HC3
  go_wp2_with fail
  refine (HC2 _).mono ?_
  rintro e w3 ⟨rfl, rfl⟩
  clear HC2
  go_wp2_with fail
  refine (HC1 _).mono ?_
  rintro e w2 ⟨rfl, rfl⟩
  clear HC1
  go_wp2_with fail
  refine (HY _ w0 v f HO.out (by omega)).mono ?_
  rcases y with _ | b
  · rintro e w6 ⟨v6, rfl, h6⟩
    clear HY HS HO HYS
    go_wp2
    go_ret2
    exact ⟨v6, rfl, h6⟩
  rintro e w6 ⟨v6, rfl, h6⟩
  obtain ⟨A6, c6, rfl⟩ := nd_form h6.out
  have hbs := HYS.out b rfl
  have hbp := b.size_pos
  have e6 := Nat.le_of_eq (flat_length b f)
  have e6' := Nat.le_of_eq (flat_length b f).symm
  have HFb : Hid (flat (.un 3 b) f = flat b f ++ [((3 : Int), (((flat b f).length - 1 : Nat) : Int), 0)]) := rfl
  clear HY HO HYS
  generalize flat b f = fb at *
  go_wp2_with fail
  refine (HS _).mono ?_
  rintro e w7 ⟨rfl, rfl⟩
  go_wp2_with (at_builtin; refine own_node (m := (3, (fb.length : Int) - 1, 0)) rfl _ _ rfl rfl h6.out rfl (by omega) ?_)
  intro g cap w8 ho
  have H8 := Lib.hid ho
  clear ho h6 HS
  go_wp2
  go_ret2
  refine ⟨_, rfl, ?_⟩
  show Hid (Own w0 w8 [eNodes _ (flat (.un 3 b) f)] [])
  unfold Hid
  rw [HFb.out, show ((fb.length - 1 : Nat) : Int) = (fb.length : Int) - 1 by omega]
  exact H8.out
set_option maxRecDepth 100000 in
set_option maxHeartbeats 2000000 in
theorem parse_un6 {L : Int} (S : ByteArray) {q : List UInt8} {y : Option Tree} (w0 w : World) (v : Value) (f : List Nd) (h0 : bt S 0 = 88) (hm : 0 < S.size) (hq1 : (S.extract 1 S.size).data.toList = q) (hs2 : (S.extract 1 S.size).size ≤ 300) (hf : f.length + q.length ≤ 999) (hy : PDoes L q y) (hys : ∀ b, y = some b → b.size ≤ q.length) (HC3 : ∀ W, Calls Tryd.prog 75 #[.string S, .int .u8 124, .int .u8 124, .bool true] W fun e w' => e = .returned (.int .i64 (-1)) ∧ w' = W) (HC2 : ∀ W, Calls Tryd.prog 75 #[.string S, .int .u8 38, .int .u8 38, .bool true] W fun e w' => e = .returned (.int .i64 (-1)) ∧ w' = W) (HC1 : ∀ W, Calls Tryd.prog 75 #[.string S, .int .u8 85, .int .u8 82, .bool false] W fun e w' => e = .returned (.int .i64 (-1)) ∧ w' = W) (hS : S.size ≤ 300) (hO : Own w0 w [eNodes v f] []) :
    Calls Tryd.prog 55 #[.int .i64 L, .string S, v] w (PRes w0 f (y.map (.un 6))) := by
  have HO := Lib.hid hO
  have HS := fun W => rsign_any 6 (by decide) (bt S 0) (by rw [h0]; rfl) W
  have HY := fun W W0 V g (hW : Own W0 W [eNodes V g] []) (hg : g.length + q.length ≤ 1000) => hy (S.extract 1 S.size) W0 W V g hq1 hs2 hW hg
  have HYS := Lib.hid hys
  have hbt := get_bt S
  have q0 : (bt S 0 == 33) = false := by rw [h0]; rfl
  have q1 : (bt S 0 == 88) = true := by rw [h0]; rfl
  clear hO hy hq1 hs2 hys h0
  go_enter Tryd.func55, Tryd.ntmps55
  go_wp2_with fail
  refine (HC3 _).mono ?_
  rintro e w4 ⟨rfl, rfl⟩
  clear HC3
  go_wp2_with fail
  refine (HC2 _).mono ?_
  rintro e w3 ⟨rfl, rfl⟩
  clear HC2
  go_wp2_with fail
  refine (HC1 _).mono ?_
  rintro e w2 ⟨rfl, rfl⟩
  clear HC1
  go_wp2_with fail
  refine (HY _ w0 v f HO.out (by omega)).mono ?_
  rcases y with _ | b
  · rintro e w6 ⟨v6, rfl, h6⟩
    clear HY HS HO HYS
    go_wp2
    go_ret2
    exact ⟨v6, rfl, h6⟩
  rintro e w6 ⟨v6, rfl, h6⟩
  obtain ⟨A6, c6, rfl⟩ := nd_form h6.out
  have hbs := HYS.out b rfl
  have hbp := b.size_pos
  have e6 := Nat.le_of_eq (flat_length b f)
  have e6' := Nat.le_of_eq (flat_length b f).symm
  have HFb : Hid (flat (.un 6 b) f = flat b f ++ [((6 : Int), (((flat b f).length - 1 : Nat) : Int), 0)]) := rfl
  clear HY HO HYS
  generalize flat b f = fb at *
  go_wp2_with fail
  refine (HS _).mono ?_
  rintro e w7 ⟨rfl, rfl⟩
  go_wp2_with (at_builtin; refine own_node (m := (6, (fb.length : Int) - 1, 0)) rfl _ _ rfl rfl h6.out rfl (by omega) ?_)
  intro g cap w8 ho
  have H8 := Lib.hid ho
  clear ho h6 HS
  go_wp2
  go_ret2
  refine ⟨_, rfl, ?_⟩
  show Hid (Own w0 w8 [eNodes _ (flat (.un 6 b) f)] [])
  unfold Hid
  rw [HFb.out, show ((fb.length - 1 : Nat) : Int) = (fb.length : Int) - 1 by omega]
  exact H8.out
set_option maxRecDepth 100000 in
set_option maxHeartbeats 2000000 in
theorem parse_un7 {L : Int} (S : ByteArray) {q : List UInt8} {y : Option Tree} (w0 w : World) (v : Value) (f : List Nd) (h0 : bt S 0 = 87) (hm : 0 < S.size) (hq1 : (S.extract 1 S.size).data.toList = q) (hs2 : (S.extract 1 S.size).size ≤ 300) (hf : f.length + q.length ≤ 999) (hy : PDoes L q y) (hys : ∀ b, y = some b → b.size ≤ q.length) (HC3 : ∀ W, Calls Tryd.prog 75 #[.string S, .int .u8 124, .int .u8 124, .bool true] W fun e w' => e = .returned (.int .i64 (-1)) ∧ w' = W) (HC2 : ∀ W, Calls Tryd.prog 75 #[.string S, .int .u8 38, .int .u8 38, .bool true] W fun e w' => e = .returned (.int .i64 (-1)) ∧ w' = W) (HC1 : ∀ W, Calls Tryd.prog 75 #[.string S, .int .u8 85, .int .u8 82, .bool false] W fun e w' => e = .returned (.int .i64 (-1)) ∧ w' = W) (hS : S.size ≤ 300) (hO : Own w0 w [eNodes v f] []) :
    Calls Tryd.prog 55 #[.int .i64 L, .string S, v] w (PRes w0 f (y.map (.un 7))) := by
  have HO := Lib.hid hO
  have HS := fun W => rsign_any 7 (by decide) (bt S 0) (by rw [h0]; rfl) W
  have HY := fun W W0 V g (hW : Own W0 W [eNodes V g] []) (hg : g.length + q.length ≤ 1000) => hy (S.extract 1 S.size) W0 W V g hq1 hs2 hW hg
  have HYS := Lib.hid hys
  have hbt := get_bt S
  have q0 : (bt S 0 == 33) = false := by rw [h0]; rfl
  have q1 : (bt S 0 == 88) = false := by rw [h0]; rfl
  have q2 : (bt S 0 == 87) = true := by rw [h0]; rfl
  clear hO hy hq1 hs2 hys h0
  go_enter Tryd.func55, Tryd.ntmps55
  go_wp2_with fail
  refine (HC3 _).mono ?_
  rintro e w4 ⟨rfl, rfl⟩
  clear HC3
  go_wp2_with fail
  refine (HC2 _).mono ?_
  rintro e w3 ⟨rfl, rfl⟩
  clear HC2
  go_wp2_with fail
  refine (HC1 _).mono ?_
  rintro e w2 ⟨rfl, rfl⟩
  clear HC1
  go_wp2_with fail
  refine (HY _ w0 v f HO.out (by omega)).mono ?_
  rcases y with _ | b
  · rintro e w6 ⟨v6, rfl, h6⟩
    clear HY HS HO HYS
    go_wp2
    go_ret2
    exact ⟨v6, rfl, h6⟩
  rintro e w6 ⟨v6, rfl, h6⟩
  obtain ⟨A6, c6, rfl⟩ := nd_form h6.out
  have hbs := HYS.out b rfl
  have hbp := b.size_pos
  have e6 := Nat.le_of_eq (flat_length b f)
  have e6' := Nat.le_of_eq (flat_length b f).symm
  have HFb : Hid (flat (.un 7 b) f = flat b f ++ [((7 : Int), (((flat b f).length - 1 : Nat) : Int), 0)]) := rfl
  clear HY HO HYS
  generalize flat b f = fb at *
  go_wp2_with fail
  refine (HS _).mono ?_
  rintro e w7 ⟨rfl, rfl⟩
  go_wp2_with (at_builtin; refine own_node (m := (7, (fb.length : Int) - 1, 0)) rfl _ _ rfl rfl h6.out rfl (by omega) ?_)
  intro g cap w8 ho
  have H8 := Lib.hid ho
  clear ho h6 HS
  go_wp2
  go_ret2
  refine ⟨_, rfl, ?_⟩
  show Hid (Own w0 w8 [eNodes _ (flat (.un 7 b) f)] [])
  unfold Hid
  rw [HFb.out, show ((fb.length - 1 : Nat) : Int) = (fb.length : Int) - 1 by omega]
  exact H8.out
set_option maxRecDepth 100000 in
set_option maxHeartbeats 2000000 in
theorem parse_par {L : Int} (S : ByteArray) {q : List UInt8} {y : Option Tree} (w0 w : World) (v : Value) (f : List Nd) (h0 : bt S 0 = 40) (h1 : bt S (S.size - 1) = 41) (hm : 2 ≤ S.size) (hq1 : (S.extract 1 (S.size - 1)).data.toList = q) (hs2 : (S.extract 1 (S.size - 1)).size ≤ 300) (hf : f.length + q.length ≤ 999) (hy : PDoes L q y) (HC3 : ∀ W, Calls Tryd.prog 75 #[.string S, .int .u8 124, .int .u8 124, .bool true] W fun e w' => e = .returned (.int .i64 (-1)) ∧ w' = W) (HC2 : ∀ W, Calls Tryd.prog 75 #[.string S, .int .u8 38, .int .u8 38, .bool true] W fun e w' => e = .returned (.int .i64 (-1)) ∧ w' = W) (HC1 : ∀ W, Calls Tryd.prog 75 #[.string S, .int .u8 85, .int .u8 82, .bool false] W fun e w' => e = .returned (.int .i64 (-1)) ∧ w' = W) (hS : S.size ≤ 300) (hO : Own w0 w [eNodes v f] []) :
    Calls Tryd.prog 55 #[.int .i64 L, .string S, v] w (PRes w0 f y) := by
  have HO := Lib.hid hO
  have HY := fun W W0 V g (hW : Own W0 W [eNodes V g] []) (hg : g.length + q.length ≤ 1000) => hy (S.extract 1 (S.size - 1)) W0 W V g hq1 hs2 hW hg
  have hbt := get_bt S
  have q0 : (bt S 0 == 33) = false := by rw [h0]; rfl
  have q1 : (bt S 0 == 88) = false := by rw [h0]; rfl
  have q2 : (bt S 0 == 87) = false := by rw [h0]; rfl
  have q3 : (bt S 0 == 40) = true := by rw [h0]; rfl
  have q4 : (bt S (S.size - 1) == 41) = true := by rw [h1]; rfl
  have hsl : ∀ W : World, (Instr.slice 9 (.string S) (some (.int .i64 1)) (some (.int .i64 ((S.size : Int) - 1))) none).run Tryd.prog W = .ok (.string (S.extract 1 (S.size - 1))) W := fun W => by
    have h := run_slice_string (P := Tryd.prog) W 9 S .i64 .i64 1 ((S.size : Int) - 1) Tryd.underlying9 (by omega) (by omega) (by omega)
    rw [h, show ((S.size : Int) - 1).toNat = S.size - 1 by omega]
    rfl
  clear hO hy hq1 hs2 h0 h1
  go_enter Tryd.func55, Tryd.ntmps55
  go_wp2_with fail
  refine (HC3 _).mono ?_
  rintro e w4 ⟨rfl, rfl⟩
  clear HC3
  go_wp2_with fail
  refine (HC2 _).mono ?_
  rintro e w3 ⟨rfl, rfl⟩
  clear HC2
  go_wp2_with fail
  refine (HC1 _).mono ?_
  rintro e w2 ⟨rfl, rfl⟩
  clear HC1
  go_wp2_with fail
  refine (HY _ w0 v f HO.out (by omega)).mono ?_
  rcases y with _ | b
  · rintro e w6 ⟨v6, rfl, h6⟩
    clear HY HO
    go_wp2
    go_ret2
    exact ⟨v6, rfl, h6⟩
  · rintro e w6 ⟨v6, rfl, h6⟩
    clear HY HO
    go_wp2
    go_ret2
    exact ⟨v6, rfl, h6⟩
set_option maxRecDepth 100000 in
set_option maxHeartbeats 2000000 in
theorem parse_leaf0 {L : Int} (S : ByteArray) (hd : S.data.toList = [116]) (w0 w : World) (v : Value) (f : List Nd) (hf : f.length ≤ 999) (HC3 : ∀ W, Calls Tryd.prog 75 #[.string S, .int .u8 124, .int .u8 124, .bool true] W fun e w' => e = .returned (.int .i64 (-1)) ∧ w' = W) (HC2 : ∀ W, Calls Tryd.prog 75 #[.string S, .int .u8 38, .int .u8 38, .bool true] W fun e w' => e = .returned (.int .i64 (-1)) ∧ w' = W) (HC1 : ∀ W, Calls Tryd.prog 75 #[.string S, .int .u8 85, .int .u8 82, .bool false] W fun e w' => e = .returned (.int .i64 (-1)) ∧ w' = W) (hS : S.size ≤ 300) (hO : Own w0 w [eNodes v f] []) :
    Calls Tryd.prog 55 #[.int .i64 L, .string S, v] w (PRes w0 f (some (.leaf 0 0))) := by
  have hm : 0 < S.size := by rw [← data_len, hd]; decide
  have h0 : bt S 0 = 116 := (data_bt (k := 0) (c := 116) (by rw [hd]; rfl)).1
  have HO := Lib.hid hO
  have HS := fun W => rsign_any 0 (by decide) (bt S 0) (by rw [h0]; rfl) W
  obtain ⟨A, c5, rfl⟩ := nd_form hO
  have hbt := get_bt S
  have q0 : (bt S 0 == 33) = false := by rw [h0]; rfl
  have q1 : (bt S 0 == 88) = false := by rw [h0]; rfl
  have q2 : (bt S 0 == 87) = false := by rw [h0]; rfl
  have q3 : (bt S 0 == 40) = false := by rw [h0]; rfl
  have t0 : (S.toList == [116]) = true := by rw [ByteArray.toList_eq, hd]; rfl
  clear hO h0 hd
  go_enter Tryd.func55, Tryd.ntmps55
  go_wp2_with fail
  refine (HC3 _).mono ?_
  rintro e w4 ⟨rfl, rfl⟩
  clear HC3
  go_wp2_with fail
  refine (HC2 _).mono ?_
  rintro e w3 ⟨rfl, rfl⟩
  clear HC2
  go_wp2_with fail
  refine (HC1 _).mono ?_
  rintro e w2 ⟨rfl, rfl⟩
  clear HC1
  go_wp2_with fail
  refine (HS _).mono ?_
  rintro e w7 ⟨rfl, rfl⟩
  go_wp2_with (at_builtin; refine own_node (m := (0, 0, 0)) rfl _ _ rfl rfl HO.out rfl (by omega) ?_)
  intro g cap w8 ho
  have H8 := Lib.hid ho
  clear ho HO HS
  go_wp2
  go_ret2
  exact ⟨_, rfl, H8⟩
set_option maxRecDepth 100000 in
set_option maxHeartbeats 2000000 in
theorem parse_leaf1 {L : Int} (S : ByteArray) (hd : S.data.toList = [102]) (w0 w : World) (v : Value) (f : List Nd) (hf : f.length ≤ 999) (HC3 : ∀ W, Calls Tryd.prog 75 #[.string S, .int .u8 124, .int .u8 124, .bool true] W fun e w' => e = .returned (.int .i64 (-1)) ∧ w' = W) (HC2 : ∀ W, Calls Tryd.prog 75 #[.string S, .int .u8 38, .int .u8 38, .bool true] W fun e w' => e = .returned (.int .i64 (-1)) ∧ w' = W) (HC1 : ∀ W, Calls Tryd.prog 75 #[.string S, .int .u8 85, .int .u8 82, .bool false] W fun e w' => e = .returned (.int .i64 (-1)) ∧ w' = W) (hS : S.size ≤ 300) (hO : Own w0 w [eNodes v f] []) :
    Calls Tryd.prog 55 #[.int .i64 L, .string S, v] w (PRes w0 f (some (.leaf 1 0))) := by
  have hm : 0 < S.size := by rw [← data_len, hd]; decide
  have h0 : bt S 0 = 102 := (data_bt (k := 0) (c := 102) (by rw [hd]; rfl)).1
  have HO := Lib.hid hO
  have HS := fun W => rsign_any 1 (by decide) (bt S 0) (by rw [h0]; rfl) W
  obtain ⟨A, c5, rfl⟩ := nd_form hO
  have hbt := get_bt S
  have q0 : (bt S 0 == 33) = false := by rw [h0]; rfl
  have q1 : (bt S 0 == 88) = false := by rw [h0]; rfl
  have q2 : (bt S 0 == 87) = false := by rw [h0]; rfl
  have q3 : (bt S 0 == 40) = false := by rw [h0]; rfl
  have t0 : (S.toList == [116]) = false := by rw [ByteArray.toList_eq, hd]; rfl
  have t1 : (S.toList == [102]) = true := by rw [ByteArray.toList_eq, hd]; rfl
  clear hO h0 hd
  go_enter Tryd.func55, Tryd.ntmps55
  go_wp2_with fail
  refine (HC3 _).mono ?_
  rintro e w4 ⟨rfl, rfl⟩
  clear HC3
  go_wp2_with fail
  refine (HC2 _).mono ?_
  rintro e w3 ⟨rfl, rfl⟩
  clear HC2
  go_wp2_with fail
  refine (HC1 _).mono ?_
  rintro e w2 ⟨rfl, rfl⟩
  clear HC1
  go_wp2_with fail
  refine (HS _).mono ?_
  rintro e w7 ⟨rfl, rfl⟩
  go_wp2_with (at_builtin; refine own_node (m := (1, 0, 0)) rfl _ _ rfl rfl HO.out rfl (by omega) ?_)
  intro g cap w8 ho
  have H8 := Lib.hid ho
  clear ho HO HS
  go_wp2
  go_ret2
  exact ⟨_, rfl, H8⟩
set_option maxRecDepth 100000 in
set_option maxHeartbeats 2000000 in
theorem parse_set {L : Int} (S : ByteArray) {n : Nat} (hm : 0 < S.size) (n0 : bt S 0 ≠ 33) (n1 : bt S 0 ≠ 88) (n2 : bt S 0 ≠ 87) (np : (bt S 0 == 40) = false ∨ ((bt S 0 == 40) = true ∧ (bt S (S.size - 1) == 41) = false)) (nt : S.data.toList ≠ [116]) (nf : S.data.toList ≠ [102]) (HT : ∀ W, Calls Tryd.prog 77 #[.int .i64 L, .string S] W fun e w' => e = .returned (.int .i64 (n : Int)) ∧ w' = W) (w0 w : World) (v : Value) (f : List Nd) (hf : f.length ≤ 999) (HC3 : ∀ W, Calls Tryd.prog 75 #[.string S, .int .u8 124, .int .u8 124, .bool true] W fun e w' => e = .returned (.int .i64 (-1)) ∧ w' = W) (HC2 : ∀ W, Calls Tryd.prog 75 #[.string S, .int .u8 38, .int .u8 38, .bool true] W fun e w' => e = .returned (.int .i64 (-1)) ∧ w' = W) (HC1 : ∀ W, Calls Tryd.prog 75 #[.string S, .int .u8 85, .int .u8 82, .bool false] W fun e w' => e = .returned (.int .i64 (-1)) ∧ w' = W) (hS : S.size ≤ 300) (hO : Own w0 w [eNodes v f] []) :
    Calls Tryd.prog 55 #[.int .i64 L, .string S, v] w (PRes w0 f (some (.leaf 2 n))) := by
  have HO := Lib.hid hO
  obtain ⟨A, c5, rfl⟩ := nd_form hO
  have hbt := get_bt S
  have q0 : (bt S 0 == 33) = false := beq_eq_false_iff_ne.2 n0
  have q1 : (bt S 0 == 88) = false := beq_eq_false_iff_ne.2 n1
  have q2 : (bt S 0 == 87) = false := beq_eq_false_iff_ne.2 n2
  have t0 : (S.toList == [116]) = false := by rw [ByteArray.toList_eq]; exact beq_eq_false_iff_ne.2 nt
  have t1 : (S.toList == [102]) = false := by rw [ByteArray.toList_eq]; exact beq_eq_false_iff_ne.2 nf
  clear hO n0 n1 n2 nt nf
  rcases np with np | ⟨np, np2⟩
  all_goals
    go_enter Tryd.func55, Tryd.ntmps55
    go_wp2_with fail
    refine (HC3 _).mono ?_
    rintro e w4 ⟨rfl, rfl⟩
    clear HC3
    go_wp2_with fail
    refine (HC2 _).mono ?_
    rintro e w3 ⟨rfl, rfl⟩
    clear HC2
    go_wp2_with fail
    refine (HC1 _).mono ?_
    rintro e w2 ⟨rfl, rfl⟩
    clear HC1
    go_wp2_with fail
    refine (HT _).mono ?_
    rintro e w7 ⟨rfl, rfl⟩
    clear HT
    go_wp2_with (at_builtin; refine own_node (m := (2, (n : Int), 0)) rfl _ _ rfl rfl HO.out rfl (by omega) ?_)
    intro g cap w8 ho
    have H8 := Lib.hid ho
    clear ho HO
    go_wp2
    go_ret2
    exact ⟨_, rfl, H8⟩
set_option maxRecDepth 100000 in
set_option maxHeartbeats 2000000 in
theorem parse_bad {L : Int} (S : ByteArray) (hm : 0 < S.size) (n0 : bt S 0 ≠ 33) (n1 : bt S 0 ≠ 88) (n2 : bt S 0 ≠ 87) (np : (bt S 0 == 40) = false ∨ ((bt S 0 == 40) = true ∧ (bt S (S.size - 1) == 41) = false)) (nt : S.data.toList ≠ [116]) (nf : S.data.toList ≠ [102]) (HT : ∀ W, Calls Tryd.prog 77 #[.int .i64 L, .string S] W fun e w' => e = .returned (.int .i64 (-1)) ∧ w' = W) (w0 w : World) (v : Value) (f : List Nd) (hf : f.length ≤ 999) (HC3 : ∀ W, Calls Tryd.prog 75 #[.string S, .int .u8 124, .int .u8 124, .bool true] W fun e w' => e = .returned (.int .i64 (-1)) ∧ w' = W) (HC2 : ∀ W, Calls Tryd.prog 75 #[.string S, .int .u8 38, .int .u8 38, .bool true] W fun e w' => e = .returned (.int .i64 (-1)) ∧ w' = W) (HC1 : ∀ W, Calls Tryd.prog 75 #[.string S, .int .u8 85, .int .u8 82, .bool false] W fun e w' => e = .returned (.int .i64 (-1)) ∧ w' = W) (hS : S.size ≤ 300) (hO : Own w0 w [eNodes v f] []) :
    Calls Tryd.prog 55 #[.int .i64 L, .string S, v] w (PRes w0 f none) := by
  have HO := Lib.hid hO
  obtain ⟨A, c5, rfl⟩ := nd_form hO
  have hbt := get_bt S
  have q0 : (bt S 0 == 33) = false := beq_eq_false_iff_ne.2 n0
  have q1 : (bt S 0 == 88) = false := beq_eq_false_iff_ne.2 n1
  have q2 : (bt S 0 == 87) = false := beq_eq_false_iff_ne.2 n2
  have t0 : (S.toList == [116]) = false := by rw [ByteArray.toList_eq]; exact beq_eq_false_iff_ne.2 nt
  have t1 : (S.toList == [102]) = false := by rw [ByteArray.toList_eq]; exact beq_eq_false_iff_ne.2 nf
  clear hO n0 n1 n2 nt nf
  rcases np with np | ⟨np, np2⟩
  all_goals
    go_enter Tryd.func55, Tryd.ntmps55
    go_wp2_with fail
    refine (HC3 _).mono ?_
    rintro e w4 ⟨rfl, rfl⟩
    clear HC3
    go_wp2_with fail
    refine (HC2 _).mono ?_
    rintro e w3 ⟨rfl, rfl⟩
    clear HC2
    go_wp2_with fail
    refine (HC1 _).mono ?_
    rintro e w2 ⟨rfl, rfl⟩
    clear HC1
    go_wp2_with fail
    refine (HT _).mono ?_
    rintro e w7 ⟨rfl, rfl⟩
    clear HT
    go_wp2
    go_ret2
    exact ⟨_, rfl, HO.out.only⟩
end Go.Proofs.YtlhhhdgkdbplmaaDoor.Fm

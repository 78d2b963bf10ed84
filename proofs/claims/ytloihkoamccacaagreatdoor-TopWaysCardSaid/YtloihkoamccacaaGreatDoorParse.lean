/- The walks of package form: single. -/
import Derived.Test.YtloihkoamccacaaGreatDoorParser
import Derived.Lib.Bytealg
import Derived.Laws.Externs
namespace Go.Proofs.YtloihkoamccacaaGreatDoor.Fm
open Go.RowKit Go.IntWalk Go.PlainAid Go.Proofs.YtloihkoamccacaaGreatDoor.Wd Go.Proofs.YtloihkoamccacaaGreatDoor.Wo

set_option maxRecDepth 100000 in
theorem sidx_any (s : ByteArray) (c : Int) (w : World) :
    Calls Tryz.prog 103 #[.string s, .int .u8 c] w fun e w' => e = .returned (.int .i64 (Lib.indexByte s.data.toList c.toNat.toUInt8)) ∧ w' = w := by
  go_enter Tryz.func103, Tryz.ntmps103
  go_wp2
  rw [run_callFunc_extern Tryz.func100 (by kernel_rfl) (by kernel_rfl) (by kernel_rfl) (e := Extern.BytealgIndexByte.indexByte) (by kernel_rfl), Lib.run_indexByteString]
  simp only [Result.andThen]
  rw [Oper.upon_value]
  go_wp2
  go_ret
  exact ⟨rfl, rfl⟩
theorem sig_idx (c : UInt8) (z : Int) (hz : Lib.indexByte sgs c = z) (x : Int) (hx : (c.toNat : Int) = x) (w : World) :
    Calls Tryz.prog 103 #[.string { data := #[116, 102, 91, 33, 38, 124, 88, 87, 85, 82] }, .int .u8 x] w fun e w' => e = .returned (.int .i64 z) ∧ w' = w :=
  (sidx_any _ x w).mono fun e w' ⟨he, hw⟩ => ⟨by
    rw [he, ← hx, Int.toNat_natCast, show c.toNat.toUInt8 = c from UInt8.ofNat_toNat, ← hz]; rfl, hw⟩
/-- What a reading of the grammar's part comes to. -/
def Res (w0 : World) (g : Nat) (T : ByteArray) (L : Int) (fs : List Ent) (f : List Nd) (x : Option (Tree × List UInt8)) (e : Ending) (w' : World) : Prop :=
  match x with
  | some (t, r) => ∃ k', k' ≤ T.size ∧ T.data.toList.drop k' = r ∧ e = .returned (.int .i64 (((flat t f).length - 1 : Nat) : Int)) ∧ Hid (Pr w0 g T L fs w' k' (flat t f))
  | none => Gave w0 fs 2 e w'
def Does (fn : Nat) (lv : Lv) (L : Int) (T : ByteArray) (s : List UInt8) : Prop :=
  ∀ (w0 w : World) (g : Nat) (fs : List Ent) (k : Nat) (f : List Nd) (x : Option (Tree × List UInt8)), Pr w0 g T L fs w k f → k ≤ T.size → T.data.toList.drop k = s → f.length + s.length ≤ 600 → Ps L.toNat lv s x →
    Calls Tryz.prog fn #[.pointer (some ⟨g, 0, none⟩)] w (Res w0 g T L fs f x)
theorem drop_end {T : ByteArray} {k : Nat} (hk : k ≤ T.size) (h : T.data.toList.drop k = []) : k = T.size := by
  have := List.drop_eq_nil_iff.1 h
  rw [data_len] at this
  omega
theorem drop_none {l : List UInt8} {k : Nat} (h : l.drop k = []) (c : UInt8) : l[k]? ≠ some c := fun e => by rw [drop_yes e] at h; cases h
theorem drop_other {l : List UInt8} {k : Nat} {c d : UInt8} {s : List UInt8} (h : l.drop k = c :: s) (hne : c ≠ d) : l[k]? ≠ some d := fun e => hne (by rw [(drop_get h).1] at e; simpa using e)
theorem fits_sg {L : Nat} {s r : List UInt8} {t : Tree} (h : Ps L .sg s (some (t, r))) (f : List Nd) : (flat t f).length + r.length ≤ f.length + s.length ∧ 0 < (flat t f).length := by
  have := Ps_size h t r rfl
  rw [flat_length]; have := t.size_pos; simp only [Szd] at *; omega
set_option maxRecDepth 100000 in
set_option maxHeartbeats 1000000 in
theorem single_end {T : ByteArray} {L : Int} {w0 w : World} {g : Nat} {fs : List Ent} {k : Nat} {f : List Nd} (h : Pr w0 g T L fs w k f) (hk : k ≤ T.size) (hs : T.data.toList.drop k = []) :
    Calls Tryz.prog 99 #[.pointer (some ⟨g, 0, none⟩)] w (Res w0 g T L fs f none) := by
  obtain rfl := drop_end hk hs
  have HS0 := Lib.hid (skip_no h hk 40 40 rfl (drop_none hs 40))
  clear h hs hk
  go_enter Tryz.func99, Tryz.ntmps99
  go_wp2_with fail
  refine HS0.out.mono ?_
  rintro e w1 ⟨rfl, h1⟩
  clear HS0
  have HN := Lib.hid (next_no h1.out)
  clear h1
  go_wp2_with fail
  refine HN.out.mono ?_
  rintro e w2 ⟨rfl, h2⟩
  clear HN
  exact ⟨rfl, rfl, h2⟩
set_option maxRecDepth 100000 in
set_option maxHeartbeats 1000000 in
theorem single_par {T : ByteArray} {L : Int} {w0 w : World} {g : Nat} {fs : List Ent} {k : Nat} {f : List Nd} (hT : T.size ≤ 300) (h : Pr w0 g T L fs w k f) {s r : List UInt8} {t : Tree} (hs : T.data.toList.drop k = 40 :: s) (hf : f.length + s.length ≤ 599) (hp : Ps L.toNat .ei s (some (t, r)))
    (hE : Does 59 .ei L T s) {y : Option (Tree × List UInt8)} (hy : (∃ r2, r = 41 :: r2 ∧ y = some (t, r2)) ∨ ((∀ r2, r ≠ 41 :: r2) ∧ y = none)) :
    Calls Tryz.prog 99 #[.pointer (some ⟨g, 0, none⟩)] w (Res w0 g T L fs f y) := by
  have HS0 := Lib.hid (skip_yes h hT 40 40 rfl (drop_get hs).1)
  have hk1 := (data_bt (drop_get hs).1).2
  have hd1 := (drop_get hs).2
  have HE := fun w1 (h1 : Pr w0 g T L fs w1 (k + 1) f) => hE w0 w1 g fs (k + 1) f _ h1 (by omega) hd1 (by omega) hp
  clear hE h hs hd1 hp
  go_enter Tryz.func99, Tryz.ntmps99
  go_wp2_with fail
  refine HS0.out.mono ?_
  rintro e w1 ⟨rfl, h1⟩
  clear HS0
  have HX := Lib.hid (HE w1 h1.out)
  clear HE h1
  go_wp2_with fail
  refine HX.out.mono ?_
  rintro e w2 ⟨k2, hk2, hd2, rfl, h2⟩
  clear HX
  rcases hy with ⟨r2, rfl, rfl⟩ | ⟨hn, rfl⟩
  · have HP := Lib.hid (expect_yes h2.out hT 41 41 rfl (drop_get hd2).1)
    have hk3 := (data_bt (drop_get hd2).1).2
    have HD := Lib.hid (drop_get hd2).2
    clear h2 hd2
    go_wp2_with fail
    refine HP.out.mono ?_
    rintro e w3 ⟨rfl, h3⟩
    clear HP
    go_wp2
    go_ret
    exact ⟨k2 + 1, by omega, HD.out, rfl, h3⟩
  · have HP := Lib.hid (expect_no h2.out hk2 41 41 rfl (drop_not (fun r2 e => hn r2 (hd2.symm.trans e))))
    clear h2 hd2 hn
    go_wp2_with fail
    refine HP.out.mono ?_
    rintro e w3 ⟨rfl, h3⟩
    exact ⟨rfl, rfl, h3⟩
set_option maxRecDepth 100000 in
set_option maxHeartbeats 1000000 in
theorem single_parBad {T : ByteArray} {L : Int} {w0 w : World} {g : Nat} {fs : List Ent} {k : Nat} {f : List Nd} (hT : T.size ≤ 300) (h : Pr w0 g T L fs w k f) {s : List UInt8} (hs : T.data.toList.drop k = 40 :: s) (hf : f.length + s.length ≤ 599) (hp : Ps L.toNat .ei s none)
    (hE : Does 59 .ei L T s) :
    Calls Tryz.prog 99 #[.pointer (some ⟨g, 0, none⟩)] w (Res w0 g T L fs f none) := by
  have HS0 := Lib.hid (skip_yes h hT 40 40 rfl (drop_get hs).1)
  have hk1 := (data_bt (drop_get hs).1).2
  have hd1 := (drop_get hs).2
  have HE := fun w1 (h1 : Pr w0 g T L fs w1 (k + 1) f) => hE w0 w1 g fs (k + 1) f _ h1 (by omega) hd1 (by omega) hp
  clear hE h hs hd1 hp
  go_enter Tryz.func99, Tryz.ntmps99
  go_wp2_with fail
  refine HS0.out.mono ?_
  rintro e w1 ⟨rfl, h1⟩
  clear HS0
  have HX := Lib.hid (HE w1 h1.out)
  clear HE h1
  go_wp2_with fail
  refine HX.out.mono ?_
  rintro e w2 ⟨rfl, h2⟩
  exact ⟨rfl, rfl, h2⟩
set_option maxRecDepth 100000 in
set_option maxHeartbeats 1000000 in
theorem single_tt {T : ByteArray} {L : Int} {w0 w : World} {g : Nat} {fs : List Ent} {k : Nat} {f : List Nd} (hT : T.size ≤ 300) (h : Pr w0 g T L fs w k f) (hk : k ≤ T.size) {s : List UInt8} (hs : T.data.toList.drop k = 116 :: s) (hf : f.length ≤ 600) :
    Calls Tryz.prog 99 #[.pointer (some ⟨g, 0, none⟩)] w (Res w0 g T L fs f (some (.leaf 0 0, s))) := by
  have HS0 := Lib.hid (skip_no h hk 40 40 rfl (drop_other hs (by decide)))
  have HX := fun W (h1 : Pr w0 g T L fs W k f) => Lib.hid (next_yes h1 hT 116 116 rfl (drop_get hs).1)
  have HI := fun W => Lib.hid (sig_idx 116 0 (by decide) 116 rfl W)
  have hk1 := (data_bt (drop_get hs).1).2
  have HD := Lib.hid (drop_get hs).2
  clear h hs
  go_enter Tryz.func99, Tryz.ntmps99
  go_wp2_with fail
  refine HS0.out.mono ?_
  rintro e w1 ⟨rfl, h1⟩
  clear HS0
  have HX1 := HX _ h1.out
  clear HX h1
  go_wp2_with fail
  refine HX1.out.mono ?_
  rintro e w2 ⟨rfl, h2⟩
  clear HX1
  go_wp2_with fail
  refine (HI _).out.mono ?_
  rintro e w3 ⟨rfl, rfl⟩
  clear HI
  have HA := Lib.hid (add_any h2.out (by omega) (0, 0, 0))
  clear h2
  go_wp2_with fail
  refine HA.out.mono ?_
  rintro e w5 ⟨rfl, h5⟩
  clear HA
  go_wp2
  go_ret
  exact ⟨k + 1, by omega, HD.out, by simp [flat], h5⟩
set_option maxRecDepth 100000 in
set_option maxHeartbeats 1000000 in
theorem single_ff {T : ByteArray} {L : Int} {w0 w : World} {g : Nat} {fs : List Ent} {k : Nat} {f : List Nd} (hT : T.size ≤ 300) (h : Pr w0 g T L fs w k f) (hk : k ≤ T.size) {s : List UInt8} (hs : T.data.toList.drop k = 102 :: s) (hf : f.length ≤ 600) :
    Calls Tryz.prog 99 #[.pointer (some ⟨g, 0, none⟩)] w (Res w0 g T L fs f (some (.leaf 1 0, s))) := by
  have HS0 := Lib.hid (skip_no h hk 40 40 rfl (drop_other hs (by decide)))
  have HX := fun W (h1 : Pr w0 g T L fs W k f) => Lib.hid (next_yes h1 hT 102 102 rfl (drop_get hs).1)
  have HI := fun W => Lib.hid (sig_idx 102 1 (by decide) 102 rfl W)
  have hk1 := (data_bt (drop_get hs).1).2
  have HD := Lib.hid (drop_get hs).2
  clear h hs
  go_enter Tryz.func99, Tryz.ntmps99
  go_wp2_with fail
  refine HS0.out.mono ?_
  rintro e w1 ⟨rfl, h1⟩
  clear HS0
  have HX1 := HX _ h1.out
  clear HX h1
  go_wp2_with fail
  refine HX1.out.mono ?_
  rintro e w2 ⟨rfl, h2⟩
  clear HX1
  go_wp2_with fail
  refine (HI _).out.mono ?_
  rintro e w3 ⟨rfl, rfl⟩
  clear HI
  have HA := Lib.hid (add_any h2.out (by omega) (1, 0, 0))
  clear h2
  go_wp2_with fail
  refine HA.out.mono ?_
  rintro e w5 ⟨rfl, h5⟩
  clear HA
  go_wp2
  go_ret
  exact ⟨k + 1, by omega, HD.out, by simp [flat], h5⟩
set_option maxRecDepth 100000 in
set_option maxHeartbeats 1000000 in
theorem single_set {T : ByteArray} {L : Int} {w0 w : World} {g : Nat} {fs : List Ent} {k : Nat} {f : List Nd} (hT : T.size ≤ 300) (h : Pr w0 g T L fs w k f) (hk : k ≤ T.size) {s r : List UInt8} {n : Nat} (h1 : 1 ≤ L) (h6 : L ≤ 6) (hs : T.data.toList.drop k = 91 :: s) (hf : f.length ≤ 600) (hd : digs (List.range L.toNat) s 0 = (n, r)) {y : Option (Tree × List UInt8)}
    (hy : (∃ r2, r = 93 :: r2 ∧ y = some (.leaf 2 n, r2)) ∨ ((∀ r2, r ≠ 93 :: r2) ∧ y = none)) :
    Calls Tryz.prog 99 #[.pointer (some ⟨g, 0, none⟩)] w (Res w0 g T L fs f y) := by
  have HS0 := Lib.hid (skip_no h hk 40 40 rfl (drop_other hs (by decide)))
  have HX := fun W (h1 : Pr w0 g T L fs W k f) => Lib.hid (next_yes h1 hT 91 91 rfl (drop_get hs).1)
  have HI := fun W => Lib.hid (sig_idx 91 2 (by decide) 91 rfl W)
  have hk1 := (data_bt (drop_get hs).1).2
  have HD := Lib.hid (drop_get hs).2
  have HSET := fun W (hW : Pr w0 g T L fs W (k + 1) f) => set_any hW hT (by omega) h1 h6 (n := n) (r := r) (by rw [(drop_get hs).2]; exact hd)
  clear hd h1 h6
  clear h hs
  go_enter Tryz.func99, Tryz.ntmps99
  go_wp2_with fail
  refine HS0.out.mono ?_
  rintro e w1 ⟨rfl, hh1⟩
  clear HS0
  have HX1 := HX _ hh1.out
  clear HX hh1
  go_wp2_with fail
  refine HX1.out.mono ?_
  rintro e w2 ⟨rfl, h2⟩
  clear HX1
  go_wp2_with fail
  refine (HI _).out.mono ?_
  rintro e w3 ⟨rfl, rfl⟩
  clear HI
  have HG := Lib.hid (HSET w3 h2.out)
  clear HSET h2
  go_wp2_with fail
  refine HG.out.mono ?_
  clear HG
  rintro e w4 (⟨k4, hk4, hr4, rfl, h4⟩ | ⟨hn, rfl, h4⟩)
  · rcases hy with ⟨r2, rfl, rfl⟩ | ⟨hn, rfl⟩
    · have HR := Lib.hid (show T.data.toList.drop k4 = r2 by simpa using hr4.symm)
      clear hr4
      have HA := Lib.hid (add_any h4.out (by omega) (2, (n : Int), 0))
      clear h4
      go_wp2_with fail
      refine HA.out.mono ?_
      rintro e w5 ⟨rfl, h5⟩
      clear HA
      go_wp2
      go_ret
      exact ⟨k4, by omega, HR.out, by simp [flat], h5⟩
    · exact absurd hr4 (hn _)
  · rcases hy with ⟨r2, rfl, rfl⟩ | ⟨_, rfl⟩
    · exact absurd rfl (hn _)
    · exact ⟨rfl, rfl, h4⟩
set_option maxRecDepth 100000 in
set_option maxHeartbeats 1000000 in
theorem single_un3 {T : ByteArray} {L : Int} {w0 w : World} {g : Nat} {fs : List Ent} {k : Nat} {f : List Nd} (hT : T.size ≤ 300) (h : Pr w0 g T L fs w k f) (hk : k ≤ T.size) {s : List UInt8} (hs : T.data.toList.drop k = 33 :: s) (hf : f.length + s.length ≤ 599) {x : Option (Tree × List UInt8)} (hp : Ps L.toNat .sg s x)
    (hE : Does 99 .sg L T s) :
    Calls Tryz.prog 99 #[.pointer (some ⟨g, 0, none⟩)] w (Res w0 g T L fs f (x.map fun p => (.un 3 p.1, p.2))) := by
  have HS0 := Lib.hid (skip_no h hk 40 40 rfl (drop_other hs (by decide)))
  have HX := fun W (h1 : Pr w0 g T L fs W k f) => Lib.hid (next_yes h1 hT 33 33 rfl (drop_get hs).1)
  have HI := fun W => Lib.hid (sig_idx 33 3 (by decide) 33 rfl W)
  have hk1 := (data_bt (drop_get hs).1).2
  have HD := Lib.hid (drop_get hs).2
  have HE := fun w1 (h1 : Pr w0 g T L fs w1 (k + 1) f) => hE w0 w1 g fs (k + 1) f _ h1 (by omega) (drop_get hs).2 (by omega) hp
  clear hE
  clear h hs
  go_enter Tryz.func99, Tryz.ntmps99
  go_wp2_with fail
  refine HS0.out.mono ?_
  rintro e w1 ⟨rfl, h1⟩
  clear HS0
  have HX1 := HX _ h1.out
  clear HX h1
  go_wp2_with fail
  refine HX1.out.mono ?_
  rintro e w2 ⟨rfl, h2⟩
  clear HX1
  go_wp2_with fail
  refine (HI _).out.mono ?_
  rintro e w3 ⟨rfl, rfl⟩
  clear HI
  have HG := Lib.hid (HE w3 h2.out)
  clear HE h2
  go_wp2_with fail
  refine HG.out.mono ?_
  clear HG
  rcases x with _ | ⟨t, r⟩
  · rintro e w4 ⟨rfl, h4⟩
    exact ⟨rfl, rfl, h4⟩
  · rintro e w4 ⟨k4, hk4, hd4, rfl, h4⟩
    have HR := Lib.hid hd4
    have hb := fits_sg hp f
    have HA := Lib.hid (add_any h4.out (by omega) (3, (((flat t f).length - 1 : Nat) : Int), 0))
    have HF : Hid (flat (.un 3 t) f = flat t f ++ [(3, (((flat t f).length - 1 : Nat) : Int), 0)]) := rfl
    have HU : Hid (((flat (.un 3 t) f).length - 1 : Nat) = (flat t f).length) := by unfold Hid; simp [flat]
    clear h4 hd4 hp
    generalize (flat t f).length - 1 = q at *
    go_wp2_with fail
    refine HA.out.mono ?_
    rintro e w5 ⟨rfl, h5⟩
    clear HA
    go_wp2
    go_ret
    exact ⟨k4, hk4, HR.out, by show _ = Ending.returned (Value.int .i64 (((flat (.un 3 t) f).length - 1 : Nat) : Int)); rw [HU.out]; rfl, by show Hid (Pr w0 g T L fs w5 k4 (flat (.un 3 t) f)); rw [HF.out]; exact h5⟩
set_option maxRecDepth 100000 in
set_option maxHeartbeats 1000000 in
theorem single_un6 {T : ByteArray} {L : Int} {w0 w : World} {g : Nat} {fs : List Ent} {k : Nat} {f : List Nd} (hT : T.size ≤ 300) (h : Pr w0 g T L fs w k f) (hk : k ≤ T.size) {s : List UInt8} (hs : T.data.toList.drop k = 88 :: s) (hf : f.length + s.length ≤ 599) {x : Option (Tree × List UInt8)} (hp : Ps L.toNat .sg s x)
    (hE : Does 99 .sg L T s) :
    Calls Tryz.prog 99 #[.pointer (some ⟨g, 0, none⟩)] w (Res w0 g T L fs f (x.map fun p => (.un 6 p.1, p.2))) := by
  have HS0 := Lib.hid (skip_no h hk 40 40 rfl (drop_other hs (by decide)))
  have HX := fun W (h1 : Pr w0 g T L fs W k f) => Lib.hid (next_yes h1 hT 88 88 rfl (drop_get hs).1)
  have HI := fun W => Lib.hid (sig_idx 88 6 (by decide) 88 rfl W)
  have hk1 := (data_bt (drop_get hs).1).2
  have HD := Lib.hid (drop_get hs).2
  have HE := fun w1 (h1 : Pr w0 g T L fs w1 (k + 1) f) => hE w0 w1 g fs (k + 1) f _ h1 (by omega) (drop_get hs).2 (by omega) hp
  clear hE
  clear h hs
  go_enter Tryz.func99, Tryz.ntmps99
  go_wp2_with fail
  refine HS0.out.mono ?_
  rintro e w1 ⟨rfl, h1⟩
  clear HS0
  have HX1 := HX _ h1.out
  clear HX h1
  go_wp2_with fail
  refine HX1.out.mono ?_
  rintro e w2 ⟨rfl, h2⟩
  clear HX1
  go_wp2_with fail
  refine (HI _).out.mono ?_
  rintro e w3 ⟨rfl, rfl⟩
  clear HI
  have HG := Lib.hid (HE w3 h2.out)
  clear HE h2
  go_wp2_with fail
  refine HG.out.mono ?_
  clear HG
  rcases x with _ | ⟨t, r⟩
  · rintro e w4 ⟨rfl, h4⟩
    exact ⟨rfl, rfl, h4⟩
  · rintro e w4 ⟨k4, hk4, hd4, rfl, h4⟩
    have HR := Lib.hid hd4
    have hb := fits_sg hp f
    have HA := Lib.hid (add_any h4.out (by omega) (6, (((flat t f).length - 1 : Nat) : Int), 0))
    have HF : Hid (flat (.un 6 t) f = flat t f ++ [(6, (((flat t f).length - 1 : Nat) : Int), 0)]) := rfl
    have HU : Hid (((flat (.un 6 t) f).length - 1 : Nat) = (flat t f).length) := by unfold Hid; simp [flat]
    clear h4 hd4 hp
    generalize (flat t f).length - 1 = q at *
    go_wp2_with fail
    refine HA.out.mono ?_
    rintro e w5 ⟨rfl, h5⟩
    clear HA
    go_wp2
    go_ret
    exact ⟨k4, hk4, HR.out, by show _ = Ending.returned (Value.int .i64 (((flat (.un 6 t) f).length - 1 : Nat) : Int)); rw [HU.out]; rfl, by show Hid (Pr w0 g T L fs w5 k4 (flat (.un 6 t) f)); rw [HF.out]; exact h5⟩
set_option maxRecDepth 100000 in
set_option maxHeartbeats 1000000 in
theorem single_un7 {T : ByteArray} {L : Int} {w0 w : World} {g : Nat} {fs : List Ent} {k : Nat} {f : List Nd} (hT : T.size ≤ 300) (h : Pr w0 g T L fs w k f) (hk : k ≤ T.size) {s : List UInt8} (hs : T.data.toList.drop k = 87 :: s) (hf : f.length + s.length ≤ 599) {x : Option (Tree × List UInt8)} (hp : Ps L.toNat .sg s x)
    (hE : Does 99 .sg L T s) :
    Calls Tryz.prog 99 #[.pointer (some ⟨g, 0, none⟩)] w (Res w0 g T L fs f (x.map fun p => (.un 7 p.1, p.2))) := by
  have HS0 := Lib.hid (skip_no h hk 40 40 rfl (drop_other hs (by decide)))
  have HX := fun W (h1 : Pr w0 g T L fs W k f) => Lib.hid (next_yes h1 hT 87 87 rfl (drop_get hs).1)
  have HI := fun W => Lib.hid (sig_idx 87 7 (by decide) 87 rfl W)
  have hk1 := (data_bt (drop_get hs).1).2
  have HD := Lib.hid (drop_get hs).2
  have HE := fun w1 (h1 : Pr w0 g T L fs w1 (k + 1) f) => hE w0 w1 g fs (k + 1) f _ h1 (by omega) (drop_get hs).2 (by omega) hp
  clear hE
  clear h hs
  go_enter Tryz.func99, Tryz.ntmps99
  go_wp2_with fail
  refine HS0.out.mono ?_
  rintro e w1 ⟨rfl, h1⟩
  clear HS0
  have HX1 := HX _ h1.out
  clear HX h1
  go_wp2_with fail
  refine HX1.out.mono ?_
  rintro e w2 ⟨rfl, h2⟩
  clear HX1
  go_wp2_with fail
  refine (HI _).out.mono ?_
  rintro e w3 ⟨rfl, rfl⟩
  clear HI
  have HG := Lib.hid (HE w3 h2.out)
  clear HE h2
  go_wp2_with fail
  refine HG.out.mono ?_
  clear HG
  rcases x with _ | ⟨t, r⟩
  · rintro e w4 ⟨rfl, h4⟩
    exact ⟨rfl, rfl, h4⟩
  · rintro e w4 ⟨k4, hk4, hd4, rfl, h4⟩
    have HR := Lib.hid hd4
    have hb := fits_sg hp f
    have HA := Lib.hid (add_any h4.out (by omega) (7, (((flat t f).length - 1 : Nat) : Int), 0))
    have HF : Hid (flat (.un 7 t) f = flat t f ++ [(7, (((flat t f).length - 1 : Nat) : Int), 0)]) := rfl
    have HU : Hid (((flat (.un 7 t) f).length - 1 : Nat) = (flat t f).length) := by unfold Hid; simp [flat]
    clear h4 hd4 hp
    generalize (flat t f).length - 1 = q at *
    go_wp2_with fail
    refine HA.out.mono ?_
    rintro e w5 ⟨rfl, h5⟩
    clear HA
    go_wp2
    go_ret
    exact ⟨k4, hk4, HR.out, by show _ = Ending.returned (Value.int .i64 (((flat (.un 7 t) f).length - 1 : Nat) : Int)); rw [HU.out]; rfl, by show Hid (Pr w0 g T L fs w5 k4 (flat (.un 7 t) f)); rw [HF.out]; exact h5⟩
theorem other_idx (c : UInt8) (h : Other c) : (Lib.indexByte sgs c == 0) = false ∧ (Lib.indexByte sgs c == 1) = false ∧ (Lib.indexByte sgs c == 2) = false ∧ (Lib.indexByte sgs c == 3) = false ∧ (Lib.indexByte sgs c == 6) = false ∧ (Lib.indexByte sgs c == 7) = false := by
  have key : ∀ n : Nat, n < 256 → (UInt8.ofNat n ≠ 40 ∧ UInt8.ofNat n ≠ 116 ∧ UInt8.ofNat n ≠ 102 ∧ UInt8.ofNat n ≠ 91 ∧ UInt8.ofNat n ≠ 33 ∧ UInt8.ofNat n ≠ 88 ∧ UInt8.ofNat n ≠ 87) →
      (Lib.indexByte sgs (UInt8.ofNat n) == 0) = false ∧ (Lib.indexByte sgs (UInt8.ofNat n) == 1) = false ∧ (Lib.indexByte sgs (UInt8.ofNat n) == 2) = false ∧ (Lib.indexByte sgs (UInt8.ofNat n) == 3) = false ∧ (Lib.indexByte sgs (UInt8.ofNat n) == 6) = false ∧ (Lib.indexByte sgs (UInt8.ofNat n) == 7) = false := by decide +kernel
  have hc : UInt8.ofNat c.toNat = c := UInt8.ofNat_toNat
  have := key c.toNat c.toNat_lt
  rw [hc] at this
  exact this h
set_option maxRecDepth 100000 in
set_option maxHeartbeats 1000000 in
theorem single_other {T : ByteArray} {L : Int} {w0 w : World} {g : Nat} {fs : List Ent} {k : Nat} {f : List Nd} (hT : T.size ≤ 300) (h : Pr w0 g T L fs w k f) (hk : k ≤ T.size) {c : UInt8} {s : List UInt8} (hc : Other c) (hs : T.data.toList.drop k = c :: s) :
    Calls Tryz.prog 99 #[.pointer (some ⟨g, 0, none⟩)] w (Res w0 g T L fs f none) := by
  obtain ⟨z0, z1, z2, z3, z6, z7⟩ := other_idx c hc
  have HS0 := Lib.hid (skip_no h hk 40 40 rfl (drop_other hs hc.1))
  obtain ⟨x, hx⟩ : ∃ x : Int, (c.toNat : Int) = x := ⟨_, rfl⟩
  have HX := fun W (h1 : Pr w0 g T L fs W k f) => Lib.hid (next_yes h1 hT c x hx (drop_get hs).1)
  have HI := fun W => Lib.hid (sig_idx c _ rfl x hx W)
  generalize Lib.indexByte sgs c = z at *
  clear h hs hc hx hk
  go_enter Tryz.func99, Tryz.ntmps99
  go_wp2_with fail
  refine HS0.out.mono ?_
  rintro e w1 ⟨rfl, h1⟩
  clear HS0
  have HX1 := HX _ h1.out
  clear HX h1
  go_wp2_with fail
  refine HX1.out.mono ?_
  rintro e w2 ⟨rfl, h2⟩
  clear HX1
  go_wp2_with fail
  refine (HI _).out.mono ?_
  rintro e w3 ⟨rfl, rfl⟩
  clear HI
  have h3 := Lib.hid h2.out.only
  clear h2
  go_wp2
  exact ⟨rfl, rfl, h3⟩
theorem single_does {T : ByteArray} {L : Int} (hT : T.size ≤ 300) (h1 : 1 ≤ L) (h6 : L ≤ 6) (s : List UInt8) (hE : ∀ s', s'.length < s.length → Does 59 .ei L T s')
    (hS : ∀ s', s'.length < s.length → Does 99 .sg L T s') : Does 99 .sg L T s := by
  intro w0 w g fs k f x h hk hs hf hp
  cases hp with
  | endd => exact single_end h hk hs
  | par hp => exact single_par hT h hs (by simp at hf ⊢; omega) hp (hE _ (by simp)) (.inl ⟨_, rfl, rfl⟩)
  | parBad hp => exact single_parBad hT h hs (by simp at hf ⊢; omega) hp (hE _ (by simp))
  | parShut hp hn => exact single_par hT h hs (by simp at hf ⊢; omega) hp (hE _ (by simp)) (.inr ⟨hn, rfl⟩)
  | tt => exact single_tt hT h hk hs (by omega)
  | ff => exact single_ff hT h hk hs (by omega)
  | set hd => exact single_set hT h hk h1 h6 hs (by omega) hd (.inl ⟨_, rfl, rfl⟩)
  | setBad hd hn => exact single_set hT h hk h1 h6 hs (by omega) hd (.inr ⟨hn, rfl⟩)
  | un hu hp =>
    rcases hu with ⟨rfl, rfl⟩ | ⟨rfl, rfl⟩ | ⟨rfl, rfl⟩
    · exact single_un3 hT h hk hs (by simp at hf ⊢; omega) hp (hS _ (by simp))
    · exact single_un6 hT h hk hs (by simp at hf ⊢; omega) hp (hS _ (by simp))
    · exact single_un7 hT h hk hs (by simp at hf ⊢; omega) hp (hS _ (by simp))
  | unBad hu hp =>
    rcases hu with ⟨rfl, rfl⟩ | ⟨rfl, rfl⟩ | ⟨rfl, rfl⟩
    · exact single_un3 hT h hk hs (by simp at hf ⊢; omega) hp (hS _ (by simp))
    · exact single_un6 hT h hk hs (by simp at hf ⊢; omega) hp (hS _ (by simp))
    · exact single_un7 hT h hk hs (by simp at hf ⊢; omega) hp (hS _ (by simp))
  | other hc => exact single_other hT h hk hc hs
end Go.Proofs.YtloihkoamccacaaGreatDoor.Fm

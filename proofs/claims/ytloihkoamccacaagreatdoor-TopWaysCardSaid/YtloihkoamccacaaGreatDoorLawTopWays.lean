/-
  The statement TopWaysCardSaid of this seat, proved: for every input the law returns true and its arguments read behind the call as before. Conditions: none but the row's own (each argument within the reach; the listed variable as the program lays it, tied by the given tie).
-/
import Derived.Test.YtloihkoamccacaaGreatDoorRows
import Derived.Test.YtloihkoamccacaaGreatDoorCards
import Derived.Test.YtloihkoamccacaaGreatDoorTie
import Derived.SevenTiedAt
import Derived.LaidLaws
import Derived.LaidHandle
import Derived.LaidMore
import Derived.Lay
import Derived.MakeChecks
import Derived.Stop.Joined
import Derived.JoinedOf
import Derived.RowKit
import Derived.RowKitTokens
import Derived.ChangeSame
import Derived.ChangeVars
import Derived.Test.YtloihkoamccacaaGreatDoorWords
import Derived.WalkKit
import Derived.ProofKit
import Derived.OpenShut
import Derived.ShutString
import Derived.ChangeOld
import Derived.Below
import Derived.SizedLaws
import Derived.Lib.Hide
import Derived.Test.YtloihkoamccacaaGreatDoorBackQ
import Derived.Test.YtloihkoamccacaaGreatDoorMinW
import Derived.Test.YtloihkoamccacaaGreatDoorPlainP
import Derived.Test.YtloihkoamccacaaGreatDoorWrites
import Derived.Test.YtloihkoamccacaaGreatDoorRead
import Derived.Test.YtloihkoamccacaaGreatDoorTop
namespace Go.Proofs.YtloihkoamccacaaGreatDoor.topWays
open Go.ChangeShapes Go.WideShapes Go.ChangeAt Go.RowKit Go.IntWalk Go.Proofs.YtloihkoamccacaaGreatDoor.Wd
open Go.ChangeMaps (open_string shut_string)
set_option linter.unusedVariables false

theorem own : ownKnob Tryz.prog.godebug = none := by kernel_rfl
theorem laidOut : laidOutB Tryz.prog = true := by kernel_rfl
theorem etx : Tryz.prog.globalNamed "stileward/mean.exchanged" = some 0 := by kernel_rfl
theorem tyx : (Tryz.prog.globals[0]?).map (·.type) = some 112 := by kernel_rfl
set_option maxRecDepth 100000 in
set_option maxHeartbeats 4000000 in
/-- What the condition gives a walk: the table's ten cells. -/
theorem exchanged_of_laid {w : World} (h : laidMetH Tryz.prog [("unicode/utf8.acceptRanges", Rows.laid_unicode_utf8_acceptRanges), ("stileward/mean.exchanged", Rows.laid_stileward_mean_exchanged), ("unicode/utf8.first", Rows.laid_unicode_utf8_first)] w) : Fm.ExAt w := by
  have h' : laidMet Tryz.prog [("unicode/utf8.acceptRanges", Rows.laid_unicode_utf8_acceptRanges), ("stileward/mean.exchanged", Rows.laid_stileward_mean_exchanged), ("unicode/utf8.first", Rows.laid_unicode_utf8_first)] w ∧ True := ⟨by rw [MakeChecks.laidMetH_plain _ _ _ (by kernel_rfl)] at h; exact h, trivial⟩
  obtain ⟨ps, hR0, _, _⟩ := h'.1
  obtain ⟨_, _, _, _, _, _, _, _, _, _, hR1, _⟩ := hR0
  obtain ⟨g, t, cs, fuel, p, q, hg, ht, hv, hd, _, _⟩ := hR1
  obtain rfl := Option.some.inj (etx.symm.trans hg)
  obtain rfl := Option.some.inj (tyx.symm.trans ht)
  have c5 : Tryz.prog.cellsOf 3 = 1 := by kernel_rfl
  have c97 : Tryz.prog.cellsOf 112 = 10 := by kernel_rfl
  have hvv : w.var? Tryz.prog "stileward/mean.exchanged" = some #[.int .i64 1, .int .i64 0, .int .i64 2, .int .i64 3, .int .i64 5, .int .i64 4, .int .i64 7, .int .i64 6, .int .i64 9, .int .i64 8] := by
    obtain ⟨xs, m, _, ex, hlen, hl, hel⟩ := DataW.trod_array Tryz.underlying112 hd
    rw [c97] at hlen
    obtain ⟨l⟩ := cs
    match l, hlen with
    | [a0, a1, a2, a3, a4, a5, a6, a7, a8, a9], _ =>
      match xs, hl with
      | [x0, x1, x2, x3, x4, x5, x6, x7, x8, x9], _ =>
        have e3 := (DataW.agg.inj (Prod.mk.inj ex).1)
        simp only [List.map_cons, List.map_nil, List.cons.injEq, and_true] at e3
        obtain ⟨f0, f1, f2, f3, f4, f5, f6, f7, f8, f9⟩ := e3
        have k0 := hel 0 (by omega)
        rw [c5] at k0
        obtain ⟨z0, b0, d0, _⟩ := DataW.trod_int Tryz.underlying3 k0
        have k1 := hel 1 (by omega)
        rw [c5] at k1
        obtain ⟨z1, b1, d1, _⟩ := DataW.trod_int Tryz.underlying3 k1
        have k2 := hel 2 (by omega)
        rw [c5] at k2
        obtain ⟨z2, b2, d2, _⟩ := DataW.trod_int Tryz.underlying3 k2
        have k3 := hel 3 (by omega)
        rw [c5] at k3
        obtain ⟨z3, b3, d3, _⟩ := DataW.trod_int Tryz.underlying3 k3
        have k4 := hel 4 (by omega)
        rw [c5] at k4
        obtain ⟨z4, b4, d4, _⟩ := DataW.trod_int Tryz.underlying3 k4
        have k5 := hel 5 (by omega)
        rw [c5] at k5
        obtain ⟨z5, b5, d5, _⟩ := DataW.trod_int Tryz.underlying3 k5
        have k6 := hel 6 (by omega)
        rw [c5] at k6
        obtain ⟨z6, b6, d6, _⟩ := DataW.trod_int Tryz.underlying3 k6
        have k7 := hel 7 (by omega)
        rw [c5] at k7
        obtain ⟨z7, b7, d7, _⟩ := DataW.trod_int Tryz.underlying3 k7
        have k8 := hel 8 (by omega)
        rw [c5] at k8
        obtain ⟨z8, b8, d8, _⟩ := DataW.trod_int Tryz.underlying3 k8
        have k9 := hel 9 (by omega)
        rw [c5] at k9
        obtain ⟨z9, b9, d9, _⟩ := DataW.trod_int Tryz.underlying3 k9
        rw [hv]
        simp_all
  intro k hk
  match k, hk with
  | 0, _ => exact (by simpa using World.var?_cell etx hvv 0 : w.cell? ⟨0, 0, none⟩ = some (.int .i64 1))
  | 1, _ => exact (by simpa using World.var?_cell etx hvv 1 : w.cell? ⟨0, 1, none⟩ = some (.int .i64 0))
  | 2, _ => exact (by simpa using World.var?_cell etx hvv 2 : w.cell? ⟨0, 2, none⟩ = some (.int .i64 2))
  | 3, _ => exact (by simpa using World.var?_cell etx hvv 3 : w.cell? ⟨0, 3, none⟩ = some (.int .i64 3))
  | 4, _ => exact (by simpa using World.var?_cell etx hvv 4 : w.cell? ⟨0, 4, none⟩ = some (.int .i64 5))
  | 5, _ => exact (by simpa using World.var?_cell etx hvv 5 : w.cell? ⟨0, 5, none⟩ = some (.int .i64 4))
  | 6, _ => exact (by simpa using World.var?_cell etx hvv 6 : w.cell? ⟨0, 6, none⟩ = some (.int .i64 7))
  | 7, _ => exact (by simpa using World.var?_cell etx hvv 7 : w.cell? ⟨0, 7, none⟩ = some (.int .i64 6))
  | 8, _ => exact (by simpa using World.var?_cell etx hvv 8 : w.cell? ⟨0, 8, none⟩ = some (.int .i64 9))
  | 9, _ => exact (by simpa using World.var?_cell etx hvv 9 : w.cell? ⟨0, 9, none⟩ = some (.int .i64 8))
noncomputable def laidWorld (os : Os) : World := World.laidAll Tryz.prog os [("unicode/utf8.acceptRanges", Rows.laid_unicode_utf8_acceptRanges), ("stileward/mean.exchanged", Rows.laid_stileward_mean_exchanged), ("unicode/utf8.first", Rows.laid_unicode_utf8_first)]
theorem laidWorld_met (os : Os) (args : Array Value) : laidMetH Tryz.prog [("unicode/utf8.acceptRanges", Rows.laid_unicode_utf8_acceptRanges), ("stileward/mean.exchanged", Rows.laid_stileward_mean_exchanged), ("unicode/utf8.first", Rows.laid_unicode_utf8_first)] ((laidWorld os).forCall (fun _ _ => 0) ⟨#[], args, []⟩).memory := by
  rw [MakeChecks.laidMetH_plain _ _ _ (by kernel_rfl)]
  exact laidMet_laidAll _ (by kernel_rfl) (by kernel_rfl)
open Go.Proofs.YtloihkoamccacaaGreatDoor.Wo Go.Proofs.YtloihkoamccacaaGreatDoor.Df Go.Proofs.YtloihkoamccacaaGreatDoor.Sm Go.Proofs.YtloihkoamccacaaGreatDoor.Mp Go.Proofs.YtloihkoamccacaaGreatDoor.Fm
theorem make_len {L : Int} (hL : Small L) {H : List Nd} {n : Nat} (hn : H.length = n) (hb : n ≤ 9223372036854775807) {E : Value} {r : Aut} {k : Nat} (hr : mkOut L H = (r, k)) (hE : errV k = E) (W : World) (A : Option Addr) (c : Nat) (hA : NodesAt W W.heap.size A H) : Gives 4 #[.int .i64 L, .slice A n c] W E r := by
  subst hn
  exact bmake_gives hL hA hb hr hE
theorem read_gives {L : Int} {s : ByteArray} (hL : Small L) (hs : s.size ≤ 140737488351232) {n : Nat} {f : List Nd} (hr : Rd L s.data.toList n f) {k : Nat} (hk : f.length = k) {E : Value} (hE : errV n = E) (W : World) :
    Calls Tryz.prog 9 #[.int .i64 L, .string s] W fun e w' => Hid (∃ A c, e = .returned (.tuple #[.slice A k c, E]) ∧ Hid (NodesAt w' w'.heap.size A f)) ∧ Below W.heap.size W w' := by
  subst hE hk
  exact (read_any L s W hL hs hr).mono fun e w' ⟨h, hb⟩ => by
    obtain ⟨A, c, h1, _, _, h2⟩ := h
    exact ⟨⟨A, c, h1, h2⟩, hb⟩
theorem write_is {L : Int} (hL : Small L) {f : List Nd} (hf : f.length ≤ 9223372036854775807) {n : Nat} (hn : f.length = n) {s : ByteArray} {E : Value} (hs : str (wtext L f) = s) (hE : errV (werr L f) = E) (A : Option Addr) (c : Nat) (W : World) (hA : NodesAt W W.heap.size A f) :
    Calls Tryz.prog 8 #[.int .i64 L, .slice A n c] W fun e w' => e = .returned (.tuple #[.string s, E]) ∧ Below W.heap.size W w' := by
  subst hn hs hE
  exact (write_any L A c f W hL hA hf).mono fun e w' ⟨h, hb⟩ => ⟨h.out, hb⟩

set_option maxRecDepth 100000 in
set_option maxHeartbeats 4000000 in
theorem walk (a0 : Int) (A1 : Option Addr) (c1 : Nat) (z1 : List Fm.Nd) (w : World) (l0 : -9223372036854775808 ≤ a0) (h0 : a0 ≤ 9223372036854775807) (v1 : Fm.NodesAt w w.heap.size A1 z1) (m1 : z1.length ≤ c1) (n1 : c1 ≤ 9223372036854775807) (r1 : z1.length ≤ 5864062014634) (hx : Fm.ExAt w) :
    Calls Tryz.prog 3 #[.int .i64 a0, .slice A1 z1.length c1] w fun e w' => e = .returned (.bool true) ∧ Below w.heap.size w w' := by
  have hL : Small a0 := ⟨l0, h0⟩
  have hlen : z1.length ≤ 9223372036854775807 := by omega
  have HN := Lib.hid v1
  have HXt := Lib.hid hx
  obtain ⟨n, hn⟩ : ∃ n, z1.length = n := ⟨_, rfl⟩
  rcases mk_cases a0 z1 with ⟨l1, m1', g1, hl1, hm1, hr1⟩ | ⟨k, hr1, _⟩
  · have hsame := fun (p : List Nd) (v : ∀ z, fval p z = fval z1 z) => mk_same g1 hl1 hm1 v
    have gd := front_good g1 hl1 hm1
    have hmin := front_min g1 hl1 hm1
    have HA := Lib.hid (fun W (hA : NodesAt W W.heap.size A1 z1) => make_len (E := .nilIface) hL hn (by omega) hr1 rfl W A1 c1 hA)
    have hf := fchk_iff.2 g1
    clear hr1
    generalize frontA a0 z1 l1 m1' = x at *
    have HNx : Hid (1 ≤ x.next.length) := gd.n1
    have HMin := Lib.hid (fun W v (h : DfaAt W W.heap.size v x) => min_gives (E := .nilIface) h ((minOut_ok (dchk_iff.2 gd)).trans (by rw [hmin])) rfl)
    have HSm := Lib.hid (fun W v z (h : DfaAt W W.heap.size v x) (h2 : DfaAt W W.heap.size z x) => same_gives h h2 gd.lite rfl)
    have HNt := Lib.hid (fun W v (h : DfaAt W W.heap.size v x) => not_gives (E := .nilIface) (r := notA x) (k := 0) h (by unfold notOut; rw [if_pos (dchk_iff.2 gd)]) rfl)
    have HNn := Lib.hid (fun W v (h : DfaAt W W.heap.size v (notA x)) => not_gives (E := .nilIface) (r := x) (k := 0) h (by unfold notOut; rw [if_pos (dchk_iff.2 (notA_good gd)), notA_notA]) rfl)
    clear gd hmin hl1 hm1
    generalize notA x = nx at *
    have HSa := Lib.hid hsame
    have HPc : Hid ((∃ P k, (∀ A c W, ExAt W → NodesAt W W.heap.size A z1 → Calls Tryz.prog 7 #[.int .i64 a0, .slice A n c] W fun e w' => Hid (∃ A' c', e = .returned (.tuple #[.slice A' k c', .nilIface]) ∧ Hid (NodesAt w' w'.heap.size A' P)) ∧ Below W.heap.size W w') ∧ P.length = k ∧ k ≤ 40 ∧ ∀ z, fval P z = fval z1 z) ∨ ∃ q : Int, ∀ A c W, ExAt W → NodesAt W W.heap.size A z1 → Calls Tryz.prog 7 #[.int .i64 a0, .slice A n c] W fun e w' => e = .returned (.tuple #[.slice none 0 0, .iface 57 (.int .i64 q)]) ∧ Below W.heap.size W w') := by
      by_cases hp : perr a0 z1 = 0
      · refine .inl ⟨pln z1, _, plain_is hL hlen hn hp rfl rfl, rfl, ?_, pln_val g1⟩
        unfold perr at hp
        rw [if_pos hf] at hp
        by_cases h : (pln z1).length ≤ 40
        · exact h
        · rw [if_neg h] at hp; exact absurd hp (by decide)
      · exact .inr ⟨_, plain_no hL hlen hn hp (errV_pos hp)⟩
    have HWc : Hid ((∀ A c W, NodesAt W W.heap.size A z1 → Calls Tryz.prog 8 #[.int .i64 a0, .slice A n c] W fun e w' => e = .returned (.tuple #[.string { data := #[] }, .iface 57 (.int .i64 4)]) ∧ Below W.heap.size W w') ∨ ∃ T : ByteArray, T.size ≤ 300 ∧ T.data.toList = ftxt z1 ∧ ∀ A c W, NodesAt W W.heap.size A z1 → Calls Tryz.prog 8 #[.int .i64 a0, .slice A n c] W fun e w' => e = .returned (.tuple #[.string T, .nilIface]) ∧ Below W.heap.size W w') := by
      by_cases hlong : (ftxt z1).length ≤ 300
      · obtain ⟨e1, e2⟩ := wrote_ok hf hlong
        exact .inr ⟨str (ftxt z1), by rw [str_size]; exact hlong, str_data _, write_is hL hlen hn (by rw [e1]) (by rw [e2]; rfl)⟩
      · obtain ⟨e1, e2⟩ := wrote_long hf (by omega)
        exact .inl (write_is hL hlen hn (by rw [e1]; rfl) (by rw [e2]; rfl))
    have HRc := Lib.hid (rd_twice g1)
    have HL := Lib.hid hL
    rw [hn]
    clear hn hf hlen hsame g1 hL v1 hx
    rcases HPc.out with ⟨P, kP, hPl, hkP, hk40P, vP⟩ | ⟨qP, hPl⟩
    · have HPl := Lib.hid hPl
      rcases HSa.out P vP with hyP | ⟨kyP, hyP⟩
      · have HZp := Lib.hid (fun W A c hA => make_len (E := .nilIface) HL.out hkP (by omega) hyP rfl W A c hA)
        clear HPc hPl hkP hk40P vP hyP
        rcases HWc.out with HW | ⟨T, bT, hT, HW⟩
        · replace HW := Lib.hid HW
          clear HWc HRc HSa HL
          as_aux_lemma =>
            go_enter Tryz.func3, Tryz.ntmps3
            go_wp2_with fail
            refine (HA.out _ HN.out).mono ?_
            rintro e u1 ⟨L11, s11, A11, n11, c11, F11, m11, k11, rfl, hd, hb⟩
            have HN := Lib.hid (HN.out.on hb)
            have HXt := Lib.hid (HXt.out.on hb)
            have B := Lib.hid hb
            clear hb  HA
            have hn1 : (n11 : Int) ≠ 0 := by have := hd.out.eqs.2.2.1; have := HNx.out; omega
            have hn2 := int_ne hn1
            clear HNx
            obtain ⟨x1, hx1, hbn, Vn⟩ := var_new u1 hd.out
            have VX := Lib.hid Vn
            have HN := Lib.hid (HN.out.on hbn)
            have HXt := Lib.hid (HXt.out.on hbn)
            have B := Lib.hid (B.out.trans (hbn.mono B.out.size))
            clear hbn Vn hd
            obtain ⟨p0, p1, p2, p3, p4⟩ := VX.out.box
            rw [hx1] at p1 p2 p3 p4
            have HX := Lib.hid hx1
            clear hx1
            go_wp2_with fail
            rw [← HX.out]
            clear HX
            refine (HMin.out _ _ VX.out.at_).mono ?_
            rintro e u2 ⟨L12, s12, A12, n12, c12, F12, m12, k12, rfl, hd, hb⟩
            have HN := Lib.hid (HN.out.on hb)
            have HXt := Lib.hid (HXt.out.on hb)
            have VX := Lib.hid (VX.out.on hb)
            have B := Lib.hid (B.out.trans (hb.mono B.out.size))
            clear hb p0 p1 p2 p3 p4 HMin hn1 hn2
            obtain ⟨x2, hx2, hbn, Vn⟩ := var_new u2 hd.out
            have VM := Lib.hid Vn
            have HN := Lib.hid (HN.out.on hbn)
            have HXt := Lib.hid (HXt.out.on hbn)
            have VX := Lib.hid (VX.out.on hbn)
            have B := Lib.hid (B.out.trans (hbn.mono B.out.size))
            clear hbn Vn hd
            obtain ⟨p0, p1, p2, p3, p4⟩ := VM.out.box
            rw [hx2] at p1 p2 p3 p4
            obtain ⟨q0, q1, q2, q3, q4⟩ := VX.out.box
            rw [hx2] at q1 q2 q3 q4
            have HX := Lib.hid hx2
            clear hx2
            go_wp2_with fail
            rw [← HX.out]
            clear HX
            refine (HSm.out _ _ _ VM.out.at_ VX.out.at_).mono ?_
            rintro e u3 ⟨rfl, hb⟩
            have HN := Lib.hid (HN.out.on hb)
            have HXt := Lib.hid (HXt.out.on hb)
            have VX := Lib.hid (VX.out.on hb)
            have VM := Lib.hid (VM.out.on hb)
            have B := Lib.hid (B.out.trans (hb.mono B.out.size))
            clear hb p0 p1 p2 p3 p4 q0 q1 q2 q3 q4 
            clear VM
            go_wp2_with fail
            refine (HPl.out _ _ _ HXt.out HN.out).mono ?_
            rintro e u4 ⟨he, hb⟩
            have HN := Lib.hid (HN.out.on hb)
            have HXt := Lib.hid (HXt.out.on hb)
            have VX := Lib.hid (VX.out.on hb)
            have B := Lib.hid (B.out.trans (hb.mono B.out.size))
            clear hb  HPl
            obtain ⟨A5, c5, rfl, hP⟩ := he.out
            have HP := Lib.hid hP.out
            clear he hP
            go_wp2_with fail
            refine (HZp.out _ _ _ HP.out).mono ?_
            rintro e u5 ⟨L15, s15, A15, n15, c15, F15, m15, k15, rfl, hd, hb⟩
            have HN := Lib.hid (HN.out.on hb)
            have HXt := Lib.hid (HXt.out.on hb)
            have HP := Lib.hid (HP.out.on hb)
            have VX := Lib.hid (VX.out.on hb)
            have B := Lib.hid (B.out.trans (hb.mono B.out.size))
            clear hb  HZp
            obtain ⟨x5, hx5, hbn, Vn⟩ := var_new u5 hd.out
            have VY := Lib.hid Vn
            have HN := Lib.hid (HN.out.on hbn)
            have HXt := Lib.hid (HXt.out.on hbn)
            have HP := Lib.hid (HP.out.on hbn)
            have VX := Lib.hid (VX.out.on hbn)
            have B := Lib.hid (B.out.trans (hbn.mono B.out.size))
            clear hbn Vn hd
            clear HP
            obtain ⟨p0, p1, p2, p3, p4⟩ := VY.out.box
            rw [hx5] at p1 p2 p3 p4
            obtain ⟨q0, q1, q2, q3, q4⟩ := VX.out.box
            rw [hx5] at q1 q2 q3 q4
            have HX := Lib.hid hx5
            clear hx5
            go_wp2_with fail
            rw [← HX.out]
            clear HX
            refine (HSm.out _ _ _ VY.out.at_ VX.out.at_).mono ?_
            rintro e u6 ⟨rfl, hb⟩
            have HN := Lib.hid (HN.out.on hb)
            have HXt := Lib.hid (HXt.out.on hb)
            have VX := Lib.hid (VX.out.on hb)
            have VY := Lib.hid (VY.out.on hb)
            have B := Lib.hid (B.out.trans (hb.mono B.out.size))
            clear hb p0 p1 p2 p3 p4 q0 q1 q2 q3 q4 
            clear VY
            clear HXt
            go_wp2_with fail
            refine (HW.out _ _ _ HN.out).mono ?_
            rintro e u7 ⟨rfl, hb⟩
            have HN := Lib.hid (HN.out.on hb)
            have VX := Lib.hid (VX.out.on hb)
            have B := Lib.hid (B.out.trans (hb.mono B.out.size))
            clear hb  HW
            clear HN
            obtain ⟨p0, p1, p2, p3, p4⟩ := VX.out.box
            go_wp2_with fail
            refine (HNt.out _ _ VX.out.at_).mono ?_
            rintro e u8 ⟨L18, s18, A18, n18, c18, F18, m18, k18, rfl, hd, hb⟩
            have VX := Lib.hid (VX.out.on hb)
            have B := Lib.hid (B.out.trans (hb.mono B.out.size))
            clear hb p0 p1 p2 p3 p4 HNt
            obtain ⟨x8, hx8, hbn, Vn⟩ := var_new u8 hd.out
            have VT := Lib.hid Vn
            have VX := Lib.hid (VX.out.on hbn)
            have B := Lib.hid (B.out.trans (hbn.mono B.out.size))
            clear hbn Vn hd
            obtain ⟨p0, p1, p2, p3, p4⟩ := VT.out.box
            rw [hx8] at p1 p2 p3 p4
            have HX := Lib.hid hx8
            clear hx8
            go_wp2_with fail
            rw [← HX.out]
            clear HX
            refine (HNn.out _ _ VT.out.at_).mono ?_
            rintro e u9 ⟨L19, s19, A19, n19, c19, F19, m19, k19, rfl, hd, hb⟩
            have VX := Lib.hid (VX.out.on hb)
            have VT := Lib.hid (VT.out.on hb)
            have B := Lib.hid (B.out.trans (hb.mono B.out.size))
            clear hb p0 p1 p2 p3 p4 HNn
            obtain ⟨x9, hx9, hbn, Vn⟩ := var_new u9 hd.out
            have VU := Lib.hid Vn
            have VX := Lib.hid (VX.out.on hbn)
            have VT := Lib.hid (VT.out.on hbn)
            have B := Lib.hid (B.out.trans (hbn.mono B.out.size))
            clear hbn Vn hd
            clear VT
            obtain ⟨p0, p1, p2, p3, p4⟩ := VU.out.box
            rw [hx9] at p1 p2 p3 p4
            obtain ⟨q0, q1, q2, q3, q4⟩ := VX.out.box
            rw [hx9] at q1 q2 q3 q4
            have HX := Lib.hid hx9
            clear hx9
            go_wp2_with fail
            rw [← HX.out]
            clear HX
            refine (HSm.out _ _ _ VU.out.at_ VX.out.at_).mono ?_
            rintro e u10 ⟨rfl, hb⟩
            have VX := Lib.hid (VX.out.on hb)
            have VU := Lib.hid (VU.out.on hb)
            have B := Lib.hid (B.out.trans (hb.mono B.out.size))
            clear hb p0 p1 p2 p3 p4 q0 q1 q2 q3 q4 HSm
            clear VU VX
            go_wp2
            go_ret
            exact ⟨rfl, B.out⟩
        · replace HW := Lib.hid HW
          have eT : ({ data := #[33, 33] } : ByteArray).size = 2 := rfl
          have hT2 : ({ data := #[33, 33] } ++ T : ByteArray).data.toList = 33 :: 33 :: ftxt z1 := by rw [ByteArray.data_append, Array.toList_append, hT]; rfl
          have hTs : ({ data := #[33, 33] } ++ T : ByteArray).size ≤ 140737488351232 := by rw [ByteArray.size_append]; omega
          rcases HRc.out with hr | ⟨gG, hr, vG⟩
          · have HR := Lib.hid (fun W => read_gives HL.out hTs (show Rd a0 _ 4 [] by rw [hT2]; exact hr) (k := 0) rfl (E := .iface 57 (.int .i64 4)) rfl W)
            clear HWc HRc HSa HL hr hT hT2 hTs
            as_aux_lemma =>
              go_enter Tryz.func3, Tryz.ntmps3
              go_wp2_with fail
              refine (HA.out _ HN.out).mono ?_
              rintro e u1 ⟨L11, s11, A11, n11, c11, F11, m11, k11, rfl, hd, hb⟩
              have HN := Lib.hid (HN.out.on hb)
              have HXt := Lib.hid (HXt.out.on hb)
              have B := Lib.hid hb
              clear hb  HA
              have hn1 : (n11 : Int) ≠ 0 := by have := hd.out.eqs.2.2.1; have := HNx.out; omega
              have hn2 := int_ne hn1
              clear HNx
              obtain ⟨x1, hx1, hbn, Vn⟩ := var_new u1 hd.out
              have VX := Lib.hid Vn
              have HN := Lib.hid (HN.out.on hbn)
              have HXt := Lib.hid (HXt.out.on hbn)
              have B := Lib.hid (B.out.trans (hbn.mono B.out.size))
              clear hbn Vn hd
              obtain ⟨p0, p1, p2, p3, p4⟩ := VX.out.box
              rw [hx1] at p1 p2 p3 p4
              have HX := Lib.hid hx1
              clear hx1
              go_wp2_with fail
              rw [← HX.out]
              clear HX
              refine (HMin.out _ _ VX.out.at_).mono ?_
              rintro e u2 ⟨L12, s12, A12, n12, c12, F12, m12, k12, rfl, hd, hb⟩
              have HN := Lib.hid (HN.out.on hb)
              have HXt := Lib.hid (HXt.out.on hb)
              have VX := Lib.hid (VX.out.on hb)
              have B := Lib.hid (B.out.trans (hb.mono B.out.size))
              clear hb p0 p1 p2 p3 p4 HMin hn1 hn2
              obtain ⟨x2, hx2, hbn, Vn⟩ := var_new u2 hd.out
              have VM := Lib.hid Vn
              have HN := Lib.hid (HN.out.on hbn)
              have HXt := Lib.hid (HXt.out.on hbn)
              have VX := Lib.hid (VX.out.on hbn)
              have B := Lib.hid (B.out.trans (hbn.mono B.out.size))
              clear hbn Vn hd
              obtain ⟨p0, p1, p2, p3, p4⟩ := VM.out.box
              rw [hx2] at p1 p2 p3 p4
              obtain ⟨q0, q1, q2, q3, q4⟩ := VX.out.box
              rw [hx2] at q1 q2 q3 q4
              have HX := Lib.hid hx2
              clear hx2
              go_wp2_with fail
              rw [← HX.out]
              clear HX
              refine (HSm.out _ _ _ VM.out.at_ VX.out.at_).mono ?_
              rintro e u3 ⟨rfl, hb⟩
              have HN := Lib.hid (HN.out.on hb)
              have HXt := Lib.hid (HXt.out.on hb)
              have VX := Lib.hid (VX.out.on hb)
              have VM := Lib.hid (VM.out.on hb)
              have B := Lib.hid (B.out.trans (hb.mono B.out.size))
              clear hb p0 p1 p2 p3 p4 q0 q1 q2 q3 q4 
              clear VM
              go_wp2_with fail
              refine (HPl.out _ _ _ HXt.out HN.out).mono ?_
              rintro e u4 ⟨he, hb⟩
              have HN := Lib.hid (HN.out.on hb)
              have HXt := Lib.hid (HXt.out.on hb)
              have VX := Lib.hid (VX.out.on hb)
              have B := Lib.hid (B.out.trans (hb.mono B.out.size))
              clear hb  HPl
              obtain ⟨A5, c5, rfl, hP⟩ := he.out
              have HP := Lib.hid hP.out
              clear he hP
              go_wp2_with fail
              refine (HZp.out _ _ _ HP.out).mono ?_
              rintro e u5 ⟨L15, s15, A15, n15, c15, F15, m15, k15, rfl, hd, hb⟩
              have HN := Lib.hid (HN.out.on hb)
              have HXt := Lib.hid (HXt.out.on hb)
              have HP := Lib.hid (HP.out.on hb)
              have VX := Lib.hid (VX.out.on hb)
              have B := Lib.hid (B.out.trans (hb.mono B.out.size))
              clear hb  HZp
              obtain ⟨x5, hx5, hbn, Vn⟩ := var_new u5 hd.out
              have VY := Lib.hid Vn
              have HN := Lib.hid (HN.out.on hbn)
              have HXt := Lib.hid (HXt.out.on hbn)
              have HP := Lib.hid (HP.out.on hbn)
              have VX := Lib.hid (VX.out.on hbn)
              have B := Lib.hid (B.out.trans (hbn.mono B.out.size))
              clear hbn Vn hd
              clear HP
              obtain ⟨p0, p1, p2, p3, p4⟩ := VY.out.box
              rw [hx5] at p1 p2 p3 p4
              obtain ⟨q0, q1, q2, q3, q4⟩ := VX.out.box
              rw [hx5] at q1 q2 q3 q4
              have HX := Lib.hid hx5
              clear hx5
              go_wp2_with fail
              rw [← HX.out]
              clear HX
              refine (HSm.out _ _ _ VY.out.at_ VX.out.at_).mono ?_
              rintro e u6 ⟨rfl, hb⟩
              have HN := Lib.hid (HN.out.on hb)
              have HXt := Lib.hid (HXt.out.on hb)
              have VX := Lib.hid (VX.out.on hb)
              have VY := Lib.hid (VY.out.on hb)
              have B := Lib.hid (B.out.trans (hb.mono B.out.size))
              clear hb p0 p1 p2 p3 p4 q0 q1 q2 q3 q4 
              clear VY
              clear HXt
              go_wp2_with fail
              refine (HW.out _ _ _ HN.out).mono ?_
              rintro e u7 ⟨rfl, hb⟩
              have HN := Lib.hid (HN.out.on hb)
              have VX := Lib.hid (VX.out.on hb)
              have B := Lib.hid (B.out.trans (hb.mono B.out.size))
              clear hb  HW
              clear HN
              go_wp2_with fail
              refine (HR.out _).mono ?_
              rintro e u8 ⟨he, hb⟩
              have VX := Lib.hid (VX.out.on hb)
              have B := Lib.hid (B.out.trans (hb.mono B.out.size))
              clear hb  HR
              obtain ⟨A6, c6, rfl, _⟩ := he.out
              clear he
              obtain ⟨p0, p1, p2, p3, p4⟩ := VX.out.box
              go_wp2_with fail
              refine (HNt.out _ _ VX.out.at_).mono ?_
              rintro e u9 ⟨L19, s19, A19, n19, c19, F19, m19, k19, rfl, hd, hb⟩
              have VX := Lib.hid (VX.out.on hb)
              have B := Lib.hid (B.out.trans (hb.mono B.out.size))
              clear hb p0 p1 p2 p3 p4 HNt
              obtain ⟨x9, hx9, hbn, Vn⟩ := var_new u9 hd.out
              have VT := Lib.hid Vn
              have VX := Lib.hid (VX.out.on hbn)
              have B := Lib.hid (B.out.trans (hbn.mono B.out.size))
              clear hbn Vn hd
              obtain ⟨p0, p1, p2, p3, p4⟩ := VT.out.box
              rw [hx9] at p1 p2 p3 p4
              have HX := Lib.hid hx9
              clear hx9
              go_wp2_with fail
              rw [← HX.out]
              clear HX
              refine (HNn.out _ _ VT.out.at_).mono ?_
              rintro e u10 ⟨L20, s20, A20, n20, c20, F20, m20, k20, rfl, hd, hb⟩
              have VX := Lib.hid (VX.out.on hb)
              have VT := Lib.hid (VT.out.on hb)
              have B := Lib.hid (B.out.trans (hb.mono B.out.size))
              clear hb p0 p1 p2 p3 p4 HNn
              obtain ⟨x10, hx10, hbn, Vn⟩ := var_new u10 hd.out
              have VU := Lib.hid Vn
              have VX := Lib.hid (VX.out.on hbn)
              have VT := Lib.hid (VT.out.on hbn)
              have B := Lib.hid (B.out.trans (hbn.mono B.out.size))
              clear hbn Vn hd
              clear VT
              obtain ⟨p0, p1, p2, p3, p4⟩ := VU.out.box
              rw [hx10] at p1 p2 p3 p4
              obtain ⟨q0, q1, q2, q3, q4⟩ := VX.out.box
              rw [hx10] at q1 q2 q3 q4
              have HX := Lib.hid hx10
              clear hx10
              go_wp2_with fail
              rw [← HX.out]
              clear HX
              refine (HSm.out _ _ _ VU.out.at_ VX.out.at_).mono ?_
              rintro e u11 ⟨rfl, hb⟩
              have VX := Lib.hid (VX.out.on hb)
              have VU := Lib.hid (VU.out.on hb)
              have B := Lib.hid (B.out.trans (hb.mono B.out.size))
              clear hb p0 p1 p2 p3 p4 q0 q1 q2 q3 q4 HSm
              clear VU VX
              go_wp2
              go_ret
              exact ⟨rfl, B.out⟩
          · obtain ⟨G, hG⟩ : ∃ G, G = flat (.un 3 (.un 3 (root z1))) [] := ⟨_, rfl⟩
            rw [← hG] at gG hr vG
            obtain ⟨kG, hkG⟩ : ∃ k, G.length = k := ⟨_, rfl⟩
            have hk40 := gG.le
            have HR := Lib.hid (fun W => read_gives HL.out hTs (show Rd a0 _ 0 G by rw [hT2]; exact hr) hkG (E := .nilIface) rfl W)
            rcases HSa.out G vG with hy | ⟨ky, hy⟩
            · have HZg := Lib.hid (fun W A c hA => make_len (E := .nilIface) HL.out hkG (by omega) hy rfl W A c hA)
              clear HWc HRc HSa HL hr hT hT2 hTs hy gG vG hG hkG hk40
              as_aux_lemma =>
                go_enter Tryz.func3, Tryz.ntmps3
                go_wp2_with fail
                refine (HA.out _ HN.out).mono ?_
                rintro e u1 ⟨L11, s11, A11, n11, c11, F11, m11, k11, rfl, hd, hb⟩
                have HN := Lib.hid (HN.out.on hb)
                have HXt := Lib.hid (HXt.out.on hb)
                have B := Lib.hid hb
                clear hb  HA
                have hn1 : (n11 : Int) ≠ 0 := by have := hd.out.eqs.2.2.1; have := HNx.out; omega
                have hn2 := int_ne hn1
                clear HNx
                obtain ⟨x1, hx1, hbn, Vn⟩ := var_new u1 hd.out
                have VX := Lib.hid Vn
                have HN := Lib.hid (HN.out.on hbn)
                have HXt := Lib.hid (HXt.out.on hbn)
                have B := Lib.hid (B.out.trans (hbn.mono B.out.size))
                clear hbn Vn hd
                obtain ⟨p0, p1, p2, p3, p4⟩ := VX.out.box
                rw [hx1] at p1 p2 p3 p4
                have HX := Lib.hid hx1
                clear hx1
                go_wp2_with fail
                rw [← HX.out]
                clear HX
                refine (HMin.out _ _ VX.out.at_).mono ?_
                rintro e u2 ⟨L12, s12, A12, n12, c12, F12, m12, k12, rfl, hd, hb⟩
                have HN := Lib.hid (HN.out.on hb)
                have HXt := Lib.hid (HXt.out.on hb)
                have VX := Lib.hid (VX.out.on hb)
                have B := Lib.hid (B.out.trans (hb.mono B.out.size))
                clear hb p0 p1 p2 p3 p4 HMin hn1 hn2
                obtain ⟨x2, hx2, hbn, Vn⟩ := var_new u2 hd.out
                have VM := Lib.hid Vn
                have HN := Lib.hid (HN.out.on hbn)
                have HXt := Lib.hid (HXt.out.on hbn)
                have VX := Lib.hid (VX.out.on hbn)
                have B := Lib.hid (B.out.trans (hbn.mono B.out.size))
                clear hbn Vn hd
                obtain ⟨p0, p1, p2, p3, p4⟩ := VM.out.box
                rw [hx2] at p1 p2 p3 p4
                obtain ⟨q0, q1, q2, q3, q4⟩ := VX.out.box
                rw [hx2] at q1 q2 q3 q4
                have HX := Lib.hid hx2
                clear hx2
                go_wp2_with fail
                rw [← HX.out]
                clear HX
                refine (HSm.out _ _ _ VM.out.at_ VX.out.at_).mono ?_
                rintro e u3 ⟨rfl, hb⟩
                have HN := Lib.hid (HN.out.on hb)
                have HXt := Lib.hid (HXt.out.on hb)
                have VX := Lib.hid (VX.out.on hb)
                have VM := Lib.hid (VM.out.on hb)
                have B := Lib.hid (B.out.trans (hb.mono B.out.size))
                clear hb p0 p1 p2 p3 p4 q0 q1 q2 q3 q4 
                clear VM
                go_wp2_with fail
                refine (HPl.out _ _ _ HXt.out HN.out).mono ?_
                rintro e u4 ⟨he, hb⟩
                have HN := Lib.hid (HN.out.on hb)
                have HXt := Lib.hid (HXt.out.on hb)
                have VX := Lib.hid (VX.out.on hb)
                have B := Lib.hid (B.out.trans (hb.mono B.out.size))
                clear hb  HPl
                obtain ⟨A5, c5, rfl, hP⟩ := he.out
                have HP := Lib.hid hP.out
                clear he hP
                go_wp2_with fail
                refine (HZp.out _ _ _ HP.out).mono ?_
                rintro e u5 ⟨L15, s15, A15, n15, c15, F15, m15, k15, rfl, hd, hb⟩
                have HN := Lib.hid (HN.out.on hb)
                have HXt := Lib.hid (HXt.out.on hb)
                have HP := Lib.hid (HP.out.on hb)
                have VX := Lib.hid (VX.out.on hb)
                have B := Lib.hid (B.out.trans (hb.mono B.out.size))
                clear hb  HZp
                obtain ⟨x5, hx5, hbn, Vn⟩ := var_new u5 hd.out
                have VY := Lib.hid Vn
                have HN := Lib.hid (HN.out.on hbn)
                have HXt := Lib.hid (HXt.out.on hbn)
                have HP := Lib.hid (HP.out.on hbn)
                have VX := Lib.hid (VX.out.on hbn)
                have B := Lib.hid (B.out.trans (hbn.mono B.out.size))
                clear hbn Vn hd
                clear HP
                obtain ⟨p0, p1, p2, p3, p4⟩ := VY.out.box
                rw [hx5] at p1 p2 p3 p4
                obtain ⟨q0, q1, q2, q3, q4⟩ := VX.out.box
                rw [hx5] at q1 q2 q3 q4
                have HX := Lib.hid hx5
                clear hx5
                go_wp2_with fail
                rw [← HX.out]
                clear HX
                refine (HSm.out _ _ _ VY.out.at_ VX.out.at_).mono ?_
                rintro e u6 ⟨rfl, hb⟩
                have HN := Lib.hid (HN.out.on hb)
                have HXt := Lib.hid (HXt.out.on hb)
                have VX := Lib.hid (VX.out.on hb)
                have VY := Lib.hid (VY.out.on hb)
                have B := Lib.hid (B.out.trans (hb.mono B.out.size))
                clear hb p0 p1 p2 p3 p4 q0 q1 q2 q3 q4 
                clear VY
                clear HXt
                go_wp2_with fail
                refine (HW.out _ _ _ HN.out).mono ?_
                rintro e u7 ⟨rfl, hb⟩
                have HN := Lib.hid (HN.out.on hb)
                have VX := Lib.hid (VX.out.on hb)
                have B := Lib.hid (B.out.trans (hb.mono B.out.size))
                clear hb  HW
                clear HN
                go_wp2_with fail
                refine (HR.out _).mono ?_
                rintro e u8 ⟨he, hb⟩
                have VX := Lib.hid (VX.out.on hb)
                have B := Lib.hid (B.out.trans (hb.mono B.out.size))
                clear hb  HR
                obtain ⟨A6, c6, rfl, hG⟩ := he.out
                have HG := Lib.hid hG.out
                clear he hG
                go_wp2_with fail
                refine (HZg.out _ _ _ HG.out).mono ?_
                rintro e u9 ⟨L19, s19, A19, n19, c19, F19, m19, k19, rfl, hd, hb⟩
                have HG := Lib.hid (HG.out.on hb)
                have VX := Lib.hid (VX.out.on hb)
                have B := Lib.hid (B.out.trans (hb.mono B.out.size))
                clear hb  HZg
                obtain ⟨x9, hx9, hbn, Vn⟩ := var_new u9 hd.out
                have VZ := Lib.hid Vn
                have HG := Lib.hid (HG.out.on hbn)
                have VX := Lib.hid (VX.out.on hbn)
                have B := Lib.hid (B.out.trans (hbn.mono B.out.size))
                clear hbn Vn hd
                clear HG
                obtain ⟨p0, p1, p2, p3, p4⟩ := VZ.out.box
                rw [hx9] at p1 p2 p3 p4
                obtain ⟨q0, q1, q2, q3, q4⟩ := VX.out.box
                rw [hx9] at q1 q2 q3 q4
                have HX := Lib.hid hx9
                clear hx9
                go_wp2_with fail
                rw [← HX.out]
                clear HX
                refine (HSm.out _ _ _ VZ.out.at_ VX.out.at_).mono ?_
                rintro e u10 ⟨rfl, hb⟩
                have VX := Lib.hid (VX.out.on hb)
                have VZ := Lib.hid (VZ.out.on hb)
                have B := Lib.hid (B.out.trans (hb.mono B.out.size))
                clear hb p0 p1 p2 p3 p4 q0 q1 q2 q3 q4 
                clear VZ
                obtain ⟨p0, p1, p2, p3, p4⟩ := VX.out.box
                go_wp2_with fail
                refine (HNt.out _ _ VX.out.at_).mono ?_
                rintro e u11 ⟨L21, s21, A21, n21, c21, F21, m21, k21, rfl, hd, hb⟩
                have VX := Lib.hid (VX.out.on hb)
                have B := Lib.hid (B.out.trans (hb.mono B.out.size))
                clear hb p0 p1 p2 p3 p4 HNt
                obtain ⟨x11, hx11, hbn, Vn⟩ := var_new u11 hd.out
                have VT := Lib.hid Vn
                have VX := Lib.hid (VX.out.on hbn)
                have B := Lib.hid (B.out.trans (hbn.mono B.out.size))
                clear hbn Vn hd
                obtain ⟨p0, p1, p2, p3, p4⟩ := VT.out.box
                rw [hx11] at p1 p2 p3 p4
                have HX := Lib.hid hx11
                clear hx11
                go_wp2_with fail
                rw [← HX.out]
                clear HX
                refine (HNn.out _ _ VT.out.at_).mono ?_
                rintro e u12 ⟨L22, s22, A22, n22, c22, F22, m22, k22, rfl, hd, hb⟩
                have VX := Lib.hid (VX.out.on hb)
                have VT := Lib.hid (VT.out.on hb)
                have B := Lib.hid (B.out.trans (hb.mono B.out.size))
                clear hb p0 p1 p2 p3 p4 HNn
                obtain ⟨x12, hx12, hbn, Vn⟩ := var_new u12 hd.out
                have VU := Lib.hid Vn
                have VX := Lib.hid (VX.out.on hbn)
                have VT := Lib.hid (VT.out.on hbn)
                have B := Lib.hid (B.out.trans (hbn.mono B.out.size))
                clear hbn Vn hd
                clear VT
                obtain ⟨p0, p1, p2, p3, p4⟩ := VU.out.box
                rw [hx12] at p1 p2 p3 p4
                obtain ⟨q0, q1, q2, q3, q4⟩ := VX.out.box
                rw [hx12] at q1 q2 q3 q4
                have HX := Lib.hid hx12
                clear hx12
                go_wp2_with fail
                rw [← HX.out]
                clear HX
                refine (HSm.out _ _ _ VU.out.at_ VX.out.at_).mono ?_
                rintro e u13 ⟨rfl, hb⟩
                have VX := Lib.hid (VX.out.on hb)
                have VU := Lib.hid (VU.out.on hb)
                have B := Lib.hid (B.out.trans (hb.mono B.out.size))
                clear hb p0 p1 p2 p3 p4 q0 q1 q2 q3 q4 HSm
                clear VU VX
                go_wp2
                go_ret
                exact ⟨rfl, B.out⟩
            · have HZg := Lib.hid (fun W A c hA => make_len (E := .iface 57 (.int .i64 ((ky + 1 : Nat) : Int))) HL.out hkG (by omega) hy rfl W A c hA)
              clear HWc HRc HSa HL hr hT hT2 hTs hy gG vG hG hkG hk40
              generalize ((ky + 1 : Nat) : Int) = ky1 at *
              as_aux_lemma =>
                go_enter Tryz.func3, Tryz.ntmps3
                go_wp2_with fail
                refine (HA.out _ HN.out).mono ?_
                rintro e u1 ⟨L11, s11, A11, n11, c11, F11, m11, k11, rfl, hd, hb⟩
                have HN := Lib.hid (HN.out.on hb)
                have HXt := Lib.hid (HXt.out.on hb)
                have B := Lib.hid hb
                clear hb  HA
                have hn1 : (n11 : Int) ≠ 0 := by have := hd.out.eqs.2.2.1; have := HNx.out; omega
                have hn2 := int_ne hn1
                clear HNx
                obtain ⟨x1, hx1, hbn, Vn⟩ := var_new u1 hd.out
                have VX := Lib.hid Vn
                have HN := Lib.hid (HN.out.on hbn)
                have HXt := Lib.hid (HXt.out.on hbn)
                have B := Lib.hid (B.out.trans (hbn.mono B.out.size))
                clear hbn Vn hd
                obtain ⟨p0, p1, p2, p3, p4⟩ := VX.out.box
                rw [hx1] at p1 p2 p3 p4
                have HX := Lib.hid hx1
                clear hx1
                go_wp2_with fail
                rw [← HX.out]
                clear HX
                refine (HMin.out _ _ VX.out.at_).mono ?_
                rintro e u2 ⟨L12, s12, A12, n12, c12, F12, m12, k12, rfl, hd, hb⟩
                have HN := Lib.hid (HN.out.on hb)
                have HXt := Lib.hid (HXt.out.on hb)
                have VX := Lib.hid (VX.out.on hb)
                have B := Lib.hid (B.out.trans (hb.mono B.out.size))
                clear hb p0 p1 p2 p3 p4 HMin hn1 hn2
                obtain ⟨x2, hx2, hbn, Vn⟩ := var_new u2 hd.out
                have VM := Lib.hid Vn
                have HN := Lib.hid (HN.out.on hbn)
                have HXt := Lib.hid (HXt.out.on hbn)
                have VX := Lib.hid (VX.out.on hbn)
                have B := Lib.hid (B.out.trans (hbn.mono B.out.size))
                clear hbn Vn hd
                obtain ⟨p0, p1, p2, p3, p4⟩ := VM.out.box
                rw [hx2] at p1 p2 p3 p4
                obtain ⟨q0, q1, q2, q3, q4⟩ := VX.out.box
                rw [hx2] at q1 q2 q3 q4
                have HX := Lib.hid hx2
                clear hx2
                go_wp2_with fail
                rw [← HX.out]
                clear HX
                refine (HSm.out _ _ _ VM.out.at_ VX.out.at_).mono ?_
                rintro e u3 ⟨rfl, hb⟩
                have HN := Lib.hid (HN.out.on hb)
                have HXt := Lib.hid (HXt.out.on hb)
                have VX := Lib.hid (VX.out.on hb)
                have VM := Lib.hid (VM.out.on hb)
                have B := Lib.hid (B.out.trans (hb.mono B.out.size))
                clear hb p0 p1 p2 p3 p4 q0 q1 q2 q3 q4 
                clear VM
                go_wp2_with fail
                refine (HPl.out _ _ _ HXt.out HN.out).mono ?_
                rintro e u4 ⟨he, hb⟩
                have HN := Lib.hid (HN.out.on hb)
                have HXt := Lib.hid (HXt.out.on hb)
                have VX := Lib.hid (VX.out.on hb)
                have B := Lib.hid (B.out.trans (hb.mono B.out.size))
                clear hb  HPl
                obtain ⟨A5, c5, rfl, hP⟩ := he.out
                have HP := Lib.hid hP.out
                clear he hP
                go_wp2_with fail
                refine (HZp.out _ _ _ HP.out).mono ?_
                rintro e u5 ⟨L15, s15, A15, n15, c15, F15, m15, k15, rfl, hd, hb⟩
                have HN := Lib.hid (HN.out.on hb)
                have HXt := Lib.hid (HXt.out.on hb)
                have HP := Lib.hid (HP.out.on hb)
                have VX := Lib.hid (VX.out.on hb)
                have B := Lib.hid (B.out.trans (hb.mono B.out.size))
                clear hb  HZp
                obtain ⟨x5, hx5, hbn, Vn⟩ := var_new u5 hd.out
                have VY := Lib.hid Vn
                have HN := Lib.hid (HN.out.on hbn)
                have HXt := Lib.hid (HXt.out.on hbn)
                have HP := Lib.hid (HP.out.on hbn)
                have VX := Lib.hid (VX.out.on hbn)
                have B := Lib.hid (B.out.trans (hbn.mono B.out.size))
                clear hbn Vn hd
                clear HP
                obtain ⟨p0, p1, p2, p3, p4⟩ := VY.out.box
                rw [hx5] at p1 p2 p3 p4
                obtain ⟨q0, q1, q2, q3, q4⟩ := VX.out.box
                rw [hx5] at q1 q2 q3 q4
                have HX := Lib.hid hx5
                clear hx5
                go_wp2_with fail
                rw [← HX.out]
                clear HX
                refine (HSm.out _ _ _ VY.out.at_ VX.out.at_).mono ?_
                rintro e u6 ⟨rfl, hb⟩
                have HN := Lib.hid (HN.out.on hb)
                have HXt := Lib.hid (HXt.out.on hb)
                have VX := Lib.hid (VX.out.on hb)
                have VY := Lib.hid (VY.out.on hb)
                have B := Lib.hid (B.out.trans (hb.mono B.out.size))
                clear hb p0 p1 p2 p3 p4 q0 q1 q2 q3 q4 
                clear VY
                clear HXt
                go_wp2_with fail
                refine (HW.out _ _ _ HN.out).mono ?_
                rintro e u7 ⟨rfl, hb⟩
                have HN := Lib.hid (HN.out.on hb)
                have VX := Lib.hid (VX.out.on hb)
                have B := Lib.hid (B.out.trans (hb.mono B.out.size))
                clear hb  HW
                clear HN
                go_wp2_with fail
                refine (HR.out _).mono ?_
                rintro e u8 ⟨he, hb⟩
                have VX := Lib.hid (VX.out.on hb)
                have B := Lib.hid (B.out.trans (hb.mono B.out.size))
                clear hb  HR
                obtain ⟨A6, c6, rfl, hG⟩ := he.out
                have HG := Lib.hid hG.out
                clear he hG
                go_wp2_with fail
                refine (HZg.out _ _ _ HG.out).mono ?_
                rintro e u9 ⟨L19, s19, A19, n19, c19, F19, m19, k19, rfl, hd, hb⟩
                have HG := Lib.hid (HG.out.on hb)
                have VX := Lib.hid (VX.out.on hb)
                have B := Lib.hid (B.out.trans (hb.mono B.out.size))
                clear hb  HZg
                obtain ⟨x9, hx9, hbn, Vn⟩ := var_new u9 hd.out
                have VZ := Lib.hid Vn
                have HG := Lib.hid (HG.out.on hbn)
                have VX := Lib.hid (VX.out.on hbn)
                have B := Lib.hid (B.out.trans (hbn.mono B.out.size))
                clear hbn Vn hd
                clear HG
                obtain ⟨p0, p1, p2, p3, p4⟩ := VX.out.box
                rw [hx9] at p1 p2 p3 p4
                have HX := Lib.hid hx9
                clear hx9
                go_wp2_with fail
                rw [← HX.out]
                clear HX
                refine (HNt.out _ _ VX.out.at_).mono ?_
                rintro e u10 ⟨L20, s20, A20, n20, c20, F20, m20, k20, rfl, hd, hb⟩
                have VX := Lib.hid (VX.out.on hb)
                have VZ := Lib.hid (VZ.out.on hb)
                have B := Lib.hid (B.out.trans (hb.mono B.out.size))
                clear hb p0 p1 p2 p3 p4 HNt
                obtain ⟨x10, hx10, hbn, Vn⟩ := var_new u10 hd.out
                have VT := Lib.hid Vn
                have VX := Lib.hid (VX.out.on hbn)
                have VZ := Lib.hid (VZ.out.on hbn)
                have B := Lib.hid (B.out.trans (hbn.mono B.out.size))
                clear hbn Vn hd
                obtain ⟨p0, p1, p2, p3, p4⟩ := VT.out.box
                rw [hx10] at p1 p2 p3 p4
                have HX := Lib.hid hx10
                clear hx10
                go_wp2_with fail
                rw [← HX.out]
                clear HX
                refine (HNn.out _ _ VT.out.at_).mono ?_
                rintro e u11 ⟨L21, s21, A21, n21, c21, F21, m21, k21, rfl, hd, hb⟩
                have VX := Lib.hid (VX.out.on hb)
                have VZ := Lib.hid (VZ.out.on hb)
                have VT := Lib.hid (VT.out.on hb)
                have B := Lib.hid (B.out.trans (hb.mono B.out.size))
                clear hb p0 p1 p2 p3 p4 HNn
                obtain ⟨x11, hx11, hbn, Vn⟩ := var_new u11 hd.out
                have VU := Lib.hid Vn
                have VX := Lib.hid (VX.out.on hbn)
                have VZ := Lib.hid (VZ.out.on hbn)
                have VT := Lib.hid (VT.out.on hbn)
                have B := Lib.hid (B.out.trans (hbn.mono B.out.size))
                clear hbn Vn hd
                clear VT
                obtain ⟨p0, p1, p2, p3, p4⟩ := VU.out.box
                rw [hx11] at p1 p2 p3 p4
                obtain ⟨q0, q1, q2, q3, q4⟩ := VX.out.box
                rw [hx11] at q1 q2 q3 q4
                have HX := Lib.hid hx11
                clear hx11
                go_wp2_with fail
                rw [← HX.out]
                clear HX
                refine (HSm.out _ _ _ VU.out.at_ VX.out.at_).mono ?_
                rintro e u12 ⟨rfl, hb⟩
                have VX := Lib.hid (VX.out.on hb)
                have VZ := Lib.hid (VZ.out.on hb)
                have VU := Lib.hid (VU.out.on hb)
                have B := Lib.hid (B.out.trans (hb.mono B.out.size))
                clear hb p0 p1 p2 p3 p4 q0 q1 q2 q3 q4 HSm
                clear VU VX
                go_wp2
                go_ret
                exact ⟨rfl, B.out⟩
      · have HZp := Lib.hid (fun W A c hA => make_len (E := .iface 57 (.int .i64 ((kyP + 1 : Nat) : Int))) HL.out hkP (by omega) hyP rfl W A c hA)
        clear HPc hPl hkP hk40P vP hyP
        generalize ((kyP + 1 : Nat) : Int) = kyP1 at *
        rcases HWc.out with HW | ⟨T, bT, hT, HW⟩
        · replace HW := Lib.hid HW
          clear HWc HRc HSa HL
          as_aux_lemma =>
            go_enter Tryz.func3, Tryz.ntmps3
            go_wp2_with fail
            refine (HA.out _ HN.out).mono ?_
            rintro e u1 ⟨L11, s11, A11, n11, c11, F11, m11, k11, rfl, hd, hb⟩
            have HN := Lib.hid (HN.out.on hb)
            have HXt := Lib.hid (HXt.out.on hb)
            have B := Lib.hid hb
            clear hb  HA
            have hn1 : (n11 : Int) ≠ 0 := by have := hd.out.eqs.2.2.1; have := HNx.out; omega
            have hn2 := int_ne hn1
            clear HNx
            obtain ⟨x1, hx1, hbn, Vn⟩ := var_new u1 hd.out
            have VX := Lib.hid Vn
            have HN := Lib.hid (HN.out.on hbn)
            have HXt := Lib.hid (HXt.out.on hbn)
            have B := Lib.hid (B.out.trans (hbn.mono B.out.size))
            clear hbn Vn hd
            obtain ⟨p0, p1, p2, p3, p4⟩ := VX.out.box
            rw [hx1] at p1 p2 p3 p4
            have HX := Lib.hid hx1
            clear hx1
            go_wp2_with fail
            rw [← HX.out]
            clear HX
            refine (HMin.out _ _ VX.out.at_).mono ?_
            rintro e u2 ⟨L12, s12, A12, n12, c12, F12, m12, k12, rfl, hd, hb⟩
            have HN := Lib.hid (HN.out.on hb)
            have HXt := Lib.hid (HXt.out.on hb)
            have VX := Lib.hid (VX.out.on hb)
            have B := Lib.hid (B.out.trans (hb.mono B.out.size))
            clear hb p0 p1 p2 p3 p4 HMin hn1 hn2
            obtain ⟨x2, hx2, hbn, Vn⟩ := var_new u2 hd.out
            have VM := Lib.hid Vn
            have HN := Lib.hid (HN.out.on hbn)
            have HXt := Lib.hid (HXt.out.on hbn)
            have VX := Lib.hid (VX.out.on hbn)
            have B := Lib.hid (B.out.trans (hbn.mono B.out.size))
            clear hbn Vn hd
            obtain ⟨p0, p1, p2, p3, p4⟩ := VM.out.box
            rw [hx2] at p1 p2 p3 p4
            obtain ⟨q0, q1, q2, q3, q4⟩ := VX.out.box
            rw [hx2] at q1 q2 q3 q4
            have HX := Lib.hid hx2
            clear hx2
            go_wp2_with fail
            rw [← HX.out]
            clear HX
            refine (HSm.out _ _ _ VM.out.at_ VX.out.at_).mono ?_
            rintro e u3 ⟨rfl, hb⟩
            have HN := Lib.hid (HN.out.on hb)
            have HXt := Lib.hid (HXt.out.on hb)
            have VX := Lib.hid (VX.out.on hb)
            have VM := Lib.hid (VM.out.on hb)
            have B := Lib.hid (B.out.trans (hb.mono B.out.size))
            clear hb p0 p1 p2 p3 p4 q0 q1 q2 q3 q4 
            clear VM
            go_wp2_with fail
            refine (HPl.out _ _ _ HXt.out HN.out).mono ?_
            rintro e u4 ⟨he, hb⟩
            have HN := Lib.hid (HN.out.on hb)
            have HXt := Lib.hid (HXt.out.on hb)
            have VX := Lib.hid (VX.out.on hb)
            have B := Lib.hid (B.out.trans (hb.mono B.out.size))
            clear hb  HPl
            obtain ⟨A5, c5, rfl, hP⟩ := he.out
            have HP := Lib.hid hP.out
            clear he hP
            go_wp2_with fail
            refine (HZp.out _ _ _ HP.out).mono ?_
            rintro e u5 ⟨L15, s15, A15, n15, c15, F15, m15, k15, rfl, hd, hb⟩
            have HN := Lib.hid (HN.out.on hb)
            have HXt := Lib.hid (HXt.out.on hb)
            have HP := Lib.hid (HP.out.on hb)
            have VX := Lib.hid (VX.out.on hb)
            have B := Lib.hid (B.out.trans (hb.mono B.out.size))
            clear hb  HZp
            obtain ⟨x5, hx5, hbn, Vn⟩ := var_new u5 hd.out
            have VY := Lib.hid Vn
            have HN := Lib.hid (HN.out.on hbn)
            have HXt := Lib.hid (HXt.out.on hbn)
            have HP := Lib.hid (HP.out.on hbn)
            have VX := Lib.hid (VX.out.on hbn)
            have B := Lib.hid (B.out.trans (hbn.mono B.out.size))
            clear hbn Vn hd
            clear HP
            clear HXt
            have HX := Lib.hid hx5
            clear hx5
            go_wp2_with fail
            rw [← HX.out]
            clear HX
            refine (HW.out _ _ _ HN.out).mono ?_
            rintro e u6 ⟨rfl, hb⟩
            have HN := Lib.hid (HN.out.on hb)
            have VX := Lib.hid (VX.out.on hb)
            have VY := Lib.hid (VY.out.on hb)
            have B := Lib.hid (B.out.trans (hb.mono B.out.size))
            clear hb  HW
            clear HN
            obtain ⟨p0, p1, p2, p3, p4⟩ := VX.out.box
            go_wp2_with fail
            refine (HNt.out _ _ VX.out.at_).mono ?_
            rintro e u7 ⟨L17, s17, A17, n17, c17, F17, m17, k17, rfl, hd, hb⟩
            have VX := Lib.hid (VX.out.on hb)
            have VY := Lib.hid (VY.out.on hb)
            have B := Lib.hid (B.out.trans (hb.mono B.out.size))
            clear hb p0 p1 p2 p3 p4 HNt
            obtain ⟨x7, hx7, hbn, Vn⟩ := var_new u7 hd.out
            have VT := Lib.hid Vn
            have VX := Lib.hid (VX.out.on hbn)
            have VY := Lib.hid (VY.out.on hbn)
            have B := Lib.hid (B.out.trans (hbn.mono B.out.size))
            clear hbn Vn hd
            obtain ⟨p0, p1, p2, p3, p4⟩ := VT.out.box
            rw [hx7] at p1 p2 p3 p4
            have HX := Lib.hid hx7
            clear hx7
            go_wp2_with fail
            rw [← HX.out]
            clear HX
            refine (HNn.out _ _ VT.out.at_).mono ?_
            rintro e u8 ⟨L18, s18, A18, n18, c18, F18, m18, k18, rfl, hd, hb⟩
            have VX := Lib.hid (VX.out.on hb)
            have VY := Lib.hid (VY.out.on hb)
            have VT := Lib.hid (VT.out.on hb)
            have B := Lib.hid (B.out.trans (hb.mono B.out.size))
            clear hb p0 p1 p2 p3 p4 HNn
            obtain ⟨x8, hx8, hbn, Vn⟩ := var_new u8 hd.out
            have VU := Lib.hid Vn
            have VX := Lib.hid (VX.out.on hbn)
            have VY := Lib.hid (VY.out.on hbn)
            have VT := Lib.hid (VT.out.on hbn)
            have B := Lib.hid (B.out.trans (hbn.mono B.out.size))
            clear hbn Vn hd
            clear VT
            obtain ⟨p0, p1, p2, p3, p4⟩ := VU.out.box
            rw [hx8] at p1 p2 p3 p4
            obtain ⟨q0, q1, q2, q3, q4⟩ := VX.out.box
            rw [hx8] at q1 q2 q3 q4
            have HX := Lib.hid hx8
            clear hx8
            go_wp2_with fail
            rw [← HX.out]
            clear HX
            refine (HSm.out _ _ _ VU.out.at_ VX.out.at_).mono ?_
            rintro e u9 ⟨rfl, hb⟩
            have VX := Lib.hid (VX.out.on hb)
            have VY := Lib.hid (VY.out.on hb)
            have VU := Lib.hid (VU.out.on hb)
            have B := Lib.hid (B.out.trans (hb.mono B.out.size))
            clear hb p0 p1 p2 p3 p4 q0 q1 q2 q3 q4 HSm
            clear VU VX
            go_wp2
            go_ret
            exact ⟨rfl, B.out⟩
        · replace HW := Lib.hid HW
          have eT : ({ data := #[33, 33] } : ByteArray).size = 2 := rfl
          have hT2 : ({ data := #[33, 33] } ++ T : ByteArray).data.toList = 33 :: 33 :: ftxt z1 := by rw [ByteArray.data_append, Array.toList_append, hT]; rfl
          have hTs : ({ data := #[33, 33] } ++ T : ByteArray).size ≤ 140737488351232 := by rw [ByteArray.size_append]; omega
          rcases HRc.out with hr | ⟨gG, hr, vG⟩
          · have HR := Lib.hid (fun W => read_gives HL.out hTs (show Rd a0 _ 4 [] by rw [hT2]; exact hr) (k := 0) rfl (E := .iface 57 (.int .i64 4)) rfl W)
            clear HWc HRc HSa HL hr hT hT2 hTs
            as_aux_lemma =>
              go_enter Tryz.func3, Tryz.ntmps3
              go_wp2_with fail
              refine (HA.out _ HN.out).mono ?_
              rintro e u1 ⟨L11, s11, A11, n11, c11, F11, m11, k11, rfl, hd, hb⟩
              have HN := Lib.hid (HN.out.on hb)
              have HXt := Lib.hid (HXt.out.on hb)
              have B := Lib.hid hb
              clear hb  HA
              have hn1 : (n11 : Int) ≠ 0 := by have := hd.out.eqs.2.2.1; have := HNx.out; omega
              have hn2 := int_ne hn1
              clear HNx
              obtain ⟨x1, hx1, hbn, Vn⟩ := var_new u1 hd.out
              have VX := Lib.hid Vn
              have HN := Lib.hid (HN.out.on hbn)
              have HXt := Lib.hid (HXt.out.on hbn)
              have B := Lib.hid (B.out.trans (hbn.mono B.out.size))
              clear hbn Vn hd
              obtain ⟨p0, p1, p2, p3, p4⟩ := VX.out.box
              rw [hx1] at p1 p2 p3 p4
              have HX := Lib.hid hx1
              clear hx1
              go_wp2_with fail
              rw [← HX.out]
              clear HX
              refine (HMin.out _ _ VX.out.at_).mono ?_
              rintro e u2 ⟨L12, s12, A12, n12, c12, F12, m12, k12, rfl, hd, hb⟩
              have HN := Lib.hid (HN.out.on hb)
              have HXt := Lib.hid (HXt.out.on hb)
              have VX := Lib.hid (VX.out.on hb)
              have B := Lib.hid (B.out.trans (hb.mono B.out.size))
              clear hb p0 p1 p2 p3 p4 HMin hn1 hn2
              obtain ⟨x2, hx2, hbn, Vn⟩ := var_new u2 hd.out
              have VM := Lib.hid Vn
              have HN := Lib.hid (HN.out.on hbn)
              have HXt := Lib.hid (HXt.out.on hbn)
              have VX := Lib.hid (VX.out.on hbn)
              have B := Lib.hid (B.out.trans (hbn.mono B.out.size))
              clear hbn Vn hd
              obtain ⟨p0, p1, p2, p3, p4⟩ := VM.out.box
              rw [hx2] at p1 p2 p3 p4
              obtain ⟨q0, q1, q2, q3, q4⟩ := VX.out.box
              rw [hx2] at q1 q2 q3 q4
              have HX := Lib.hid hx2
              clear hx2
              go_wp2_with fail
              rw [← HX.out]
              clear HX
              refine (HSm.out _ _ _ VM.out.at_ VX.out.at_).mono ?_
              rintro e u3 ⟨rfl, hb⟩
              have HN := Lib.hid (HN.out.on hb)
              have HXt := Lib.hid (HXt.out.on hb)
              have VX := Lib.hid (VX.out.on hb)
              have VM := Lib.hid (VM.out.on hb)
              have B := Lib.hid (B.out.trans (hb.mono B.out.size))
              clear hb p0 p1 p2 p3 p4 q0 q1 q2 q3 q4 
              clear VM
              go_wp2_with fail
              refine (HPl.out _ _ _ HXt.out HN.out).mono ?_
              rintro e u4 ⟨he, hb⟩
              have HN := Lib.hid (HN.out.on hb)
              have HXt := Lib.hid (HXt.out.on hb)
              have VX := Lib.hid (VX.out.on hb)
              have B := Lib.hid (B.out.trans (hb.mono B.out.size))
              clear hb  HPl
              obtain ⟨A5, c5, rfl, hP⟩ := he.out
              have HP := Lib.hid hP.out
              clear he hP
              go_wp2_with fail
              refine (HZp.out _ _ _ HP.out).mono ?_
              rintro e u5 ⟨L15, s15, A15, n15, c15, F15, m15, k15, rfl, hd, hb⟩
              have HN := Lib.hid (HN.out.on hb)
              have HXt := Lib.hid (HXt.out.on hb)
              have HP := Lib.hid (HP.out.on hb)
              have VX := Lib.hid (VX.out.on hb)
              have B := Lib.hid (B.out.trans (hb.mono B.out.size))
              clear hb  HZp
              obtain ⟨x5, hx5, hbn, Vn⟩ := var_new u5 hd.out
              have VY := Lib.hid Vn
              have HN := Lib.hid (HN.out.on hbn)
              have HXt := Lib.hid (HXt.out.on hbn)
              have HP := Lib.hid (HP.out.on hbn)
              have VX := Lib.hid (VX.out.on hbn)
              have B := Lib.hid (B.out.trans (hbn.mono B.out.size))
              clear hbn Vn hd
              clear HP
              clear HXt
              have HX := Lib.hid hx5
              clear hx5
              go_wp2_with fail
              rw [← HX.out]
              clear HX
              refine (HW.out _ _ _ HN.out).mono ?_
              rintro e u6 ⟨rfl, hb⟩
              have HN := Lib.hid (HN.out.on hb)
              have VX := Lib.hid (VX.out.on hb)
              have VY := Lib.hid (VY.out.on hb)
              have B := Lib.hid (B.out.trans (hb.mono B.out.size))
              clear hb  HW
              clear HN
              go_wp2_with fail
              refine (HR.out _).mono ?_
              rintro e u7 ⟨he, hb⟩
              have VX := Lib.hid (VX.out.on hb)
              have VY := Lib.hid (VY.out.on hb)
              have B := Lib.hid (B.out.trans (hb.mono B.out.size))
              clear hb  HR
              obtain ⟨A6, c6, rfl, _⟩ := he.out
              clear he
              obtain ⟨p0, p1, p2, p3, p4⟩ := VX.out.box
              go_wp2_with fail
              refine (HNt.out _ _ VX.out.at_).mono ?_
              rintro e u8 ⟨L18, s18, A18, n18, c18, F18, m18, k18, rfl, hd, hb⟩
              have VX := Lib.hid (VX.out.on hb)
              have VY := Lib.hid (VY.out.on hb)
              have B := Lib.hid (B.out.trans (hb.mono B.out.size))
              clear hb p0 p1 p2 p3 p4 HNt
              obtain ⟨x8, hx8, hbn, Vn⟩ := var_new u8 hd.out
              have VT := Lib.hid Vn
              have VX := Lib.hid (VX.out.on hbn)
              have VY := Lib.hid (VY.out.on hbn)
              have B := Lib.hid (B.out.trans (hbn.mono B.out.size))
              clear hbn Vn hd
              obtain ⟨p0, p1, p2, p3, p4⟩ := VT.out.box
              rw [hx8] at p1 p2 p3 p4
              have HX := Lib.hid hx8
              clear hx8
              go_wp2_with fail
              rw [← HX.out]
              clear HX
              refine (HNn.out _ _ VT.out.at_).mono ?_
              rintro e u9 ⟨L19, s19, A19, n19, c19, F19, m19, k19, rfl, hd, hb⟩
              have VX := Lib.hid (VX.out.on hb)
              have VY := Lib.hid (VY.out.on hb)
              have VT := Lib.hid (VT.out.on hb)
              have B := Lib.hid (B.out.trans (hb.mono B.out.size))
              clear hb p0 p1 p2 p3 p4 HNn
              obtain ⟨x9, hx9, hbn, Vn⟩ := var_new u9 hd.out
              have VU := Lib.hid Vn
              have VX := Lib.hid (VX.out.on hbn)
              have VY := Lib.hid (VY.out.on hbn)
              have VT := Lib.hid (VT.out.on hbn)
              have B := Lib.hid (B.out.trans (hbn.mono B.out.size))
              clear hbn Vn hd
              clear VT
              obtain ⟨p0, p1, p2, p3, p4⟩ := VU.out.box
              rw [hx9] at p1 p2 p3 p4
              obtain ⟨q0, q1, q2, q3, q4⟩ := VX.out.box
              rw [hx9] at q1 q2 q3 q4
              have HX := Lib.hid hx9
              clear hx9
              go_wp2_with fail
              rw [← HX.out]
              clear HX
              refine (HSm.out _ _ _ VU.out.at_ VX.out.at_).mono ?_
              rintro e u10 ⟨rfl, hb⟩
              have VX := Lib.hid (VX.out.on hb)
              have VY := Lib.hid (VY.out.on hb)
              have VU := Lib.hid (VU.out.on hb)
              have B := Lib.hid (B.out.trans (hb.mono B.out.size))
              clear hb p0 p1 p2 p3 p4 q0 q1 q2 q3 q4 HSm
              clear VU VX
              go_wp2
              go_ret
              exact ⟨rfl, B.out⟩
          · obtain ⟨G, hG⟩ : ∃ G, G = flat (.un 3 (.un 3 (root z1))) [] := ⟨_, rfl⟩
            rw [← hG] at gG hr vG
            obtain ⟨kG, hkG⟩ : ∃ k, G.length = k := ⟨_, rfl⟩
            have hk40 := gG.le
            have HR := Lib.hid (fun W => read_gives HL.out hTs (show Rd a0 _ 0 G by rw [hT2]; exact hr) hkG (E := .nilIface) rfl W)
            rcases HSa.out G vG with hy | ⟨ky, hy⟩
            · have HZg := Lib.hid (fun W A c hA => make_len (E := .nilIface) HL.out hkG (by omega) hy rfl W A c hA)
              clear HWc HRc HSa HL hr hT hT2 hTs hy gG vG hG hkG hk40
              as_aux_lemma =>
                go_enter Tryz.func3, Tryz.ntmps3
                go_wp2_with fail
                refine (HA.out _ HN.out).mono ?_
                rintro e u1 ⟨L11, s11, A11, n11, c11, F11, m11, k11, rfl, hd, hb⟩
                have HN := Lib.hid (HN.out.on hb)
                have HXt := Lib.hid (HXt.out.on hb)
                have B := Lib.hid hb
                clear hb  HA
                have hn1 : (n11 : Int) ≠ 0 := by have := hd.out.eqs.2.2.1; have := HNx.out; omega
                have hn2 := int_ne hn1
                clear HNx
                obtain ⟨x1, hx1, hbn, Vn⟩ := var_new u1 hd.out
                have VX := Lib.hid Vn
                have HN := Lib.hid (HN.out.on hbn)
                have HXt := Lib.hid (HXt.out.on hbn)
                have B := Lib.hid (B.out.trans (hbn.mono B.out.size))
                clear hbn Vn hd
                obtain ⟨p0, p1, p2, p3, p4⟩ := VX.out.box
                rw [hx1] at p1 p2 p3 p4
                have HX := Lib.hid hx1
                clear hx1
                go_wp2_with fail
                rw [← HX.out]
                clear HX
                refine (HMin.out _ _ VX.out.at_).mono ?_
                rintro e u2 ⟨L12, s12, A12, n12, c12, F12, m12, k12, rfl, hd, hb⟩
                have HN := Lib.hid (HN.out.on hb)
                have HXt := Lib.hid (HXt.out.on hb)
                have VX := Lib.hid (VX.out.on hb)
                have B := Lib.hid (B.out.trans (hb.mono B.out.size))
                clear hb p0 p1 p2 p3 p4 HMin hn1 hn2
                obtain ⟨x2, hx2, hbn, Vn⟩ := var_new u2 hd.out
                have VM := Lib.hid Vn
                have HN := Lib.hid (HN.out.on hbn)
                have HXt := Lib.hid (HXt.out.on hbn)
                have VX := Lib.hid (VX.out.on hbn)
                have B := Lib.hid (B.out.trans (hbn.mono B.out.size))
                clear hbn Vn hd
                obtain ⟨p0, p1, p2, p3, p4⟩ := VM.out.box
                rw [hx2] at p1 p2 p3 p4
                obtain ⟨q0, q1, q2, q3, q4⟩ := VX.out.box
                rw [hx2] at q1 q2 q3 q4
                have HX := Lib.hid hx2
                clear hx2
                go_wp2_with fail
                rw [← HX.out]
                clear HX
                refine (HSm.out _ _ _ VM.out.at_ VX.out.at_).mono ?_
                rintro e u3 ⟨rfl, hb⟩
                have HN := Lib.hid (HN.out.on hb)
                have HXt := Lib.hid (HXt.out.on hb)
                have VX := Lib.hid (VX.out.on hb)
                have VM := Lib.hid (VM.out.on hb)
                have B := Lib.hid (B.out.trans (hb.mono B.out.size))
                clear hb p0 p1 p2 p3 p4 q0 q1 q2 q3 q4 
                clear VM
                go_wp2_with fail
                refine (HPl.out _ _ _ HXt.out HN.out).mono ?_
                rintro e u4 ⟨he, hb⟩
                have HN := Lib.hid (HN.out.on hb)
                have HXt := Lib.hid (HXt.out.on hb)
                have VX := Lib.hid (VX.out.on hb)
                have B := Lib.hid (B.out.trans (hb.mono B.out.size))
                clear hb  HPl
                obtain ⟨A5, c5, rfl, hP⟩ := he.out
                have HP := Lib.hid hP.out
                clear he hP
                go_wp2_with fail
                refine (HZp.out _ _ _ HP.out).mono ?_
                rintro e u5 ⟨L15, s15, A15, n15, c15, F15, m15, k15, rfl, hd, hb⟩
                have HN := Lib.hid (HN.out.on hb)
                have HXt := Lib.hid (HXt.out.on hb)
                have HP := Lib.hid (HP.out.on hb)
                have VX := Lib.hid (VX.out.on hb)
                have B := Lib.hid (B.out.trans (hb.mono B.out.size))
                clear hb  HZp
                obtain ⟨x5, hx5, hbn, Vn⟩ := var_new u5 hd.out
                have VY := Lib.hid Vn
                have HN := Lib.hid (HN.out.on hbn)
                have HXt := Lib.hid (HXt.out.on hbn)
                have HP := Lib.hid (HP.out.on hbn)
                have VX := Lib.hid (VX.out.on hbn)
                have B := Lib.hid (B.out.trans (hbn.mono B.out.size))
                clear hbn Vn hd
                clear HP
                clear HXt
                have HX := Lib.hid hx5
                clear hx5
                go_wp2_with fail
                rw [← HX.out]
                clear HX
                refine (HW.out _ _ _ HN.out).mono ?_
                rintro e u6 ⟨rfl, hb⟩
                have HN := Lib.hid (HN.out.on hb)
                have VX := Lib.hid (VX.out.on hb)
                have VY := Lib.hid (VY.out.on hb)
                have B := Lib.hid (B.out.trans (hb.mono B.out.size))
                clear hb  HW
                clear HN
                go_wp2_with fail
                refine (HR.out _).mono ?_
                rintro e u7 ⟨he, hb⟩
                have VX := Lib.hid (VX.out.on hb)
                have VY := Lib.hid (VY.out.on hb)
                have B := Lib.hid (B.out.trans (hb.mono B.out.size))
                clear hb  HR
                obtain ⟨A6, c6, rfl, hG⟩ := he.out
                have HG := Lib.hid hG.out
                clear he hG
                go_wp2_with fail
                refine (HZg.out _ _ _ HG.out).mono ?_
                rintro e u8 ⟨L18, s18, A18, n18, c18, F18, m18, k18, rfl, hd, hb⟩
                have HG := Lib.hid (HG.out.on hb)
                have VX := Lib.hid (VX.out.on hb)
                have VY := Lib.hid (VY.out.on hb)
                have B := Lib.hid (B.out.trans (hb.mono B.out.size))
                clear hb  HZg
                obtain ⟨x8, hx8, hbn, Vn⟩ := var_new u8 hd.out
                have VZ := Lib.hid Vn
                have HG := Lib.hid (HG.out.on hbn)
                have VX := Lib.hid (VX.out.on hbn)
                have VY := Lib.hid (VY.out.on hbn)
                have B := Lib.hid (B.out.trans (hbn.mono B.out.size))
                clear hbn Vn hd
                clear HG
                obtain ⟨p0, p1, p2, p3, p4⟩ := VZ.out.box
                rw [hx8] at p1 p2 p3 p4
                obtain ⟨q0, q1, q2, q3, q4⟩ := VX.out.box
                rw [hx8] at q1 q2 q3 q4
                have HX := Lib.hid hx8
                clear hx8
                go_wp2_with fail
                rw [← HX.out]
                clear HX
                refine (HSm.out _ _ _ VZ.out.at_ VX.out.at_).mono ?_
                rintro e u9 ⟨rfl, hb⟩
                have VX := Lib.hid (VX.out.on hb)
                have VY := Lib.hid (VY.out.on hb)
                have VZ := Lib.hid (VZ.out.on hb)
                have B := Lib.hid (B.out.trans (hb.mono B.out.size))
                clear hb p0 p1 p2 p3 p4 q0 q1 q2 q3 q4 
                clear VZ
                obtain ⟨p0, p1, p2, p3, p4⟩ := VX.out.box
                go_wp2_with fail
                refine (HNt.out _ _ VX.out.at_).mono ?_
                rintro e u10 ⟨L20, s20, A20, n20, c20, F20, m20, k20, rfl, hd, hb⟩
                have VX := Lib.hid (VX.out.on hb)
                have VY := Lib.hid (VY.out.on hb)
                have B := Lib.hid (B.out.trans (hb.mono B.out.size))
                clear hb p0 p1 p2 p3 p4 HNt
                obtain ⟨x10, hx10, hbn, Vn⟩ := var_new u10 hd.out
                have VT := Lib.hid Vn
                have VX := Lib.hid (VX.out.on hbn)
                have VY := Lib.hid (VY.out.on hbn)
                have B := Lib.hid (B.out.trans (hbn.mono B.out.size))
                clear hbn Vn hd
                obtain ⟨p0, p1, p2, p3, p4⟩ := VT.out.box
                rw [hx10] at p1 p2 p3 p4
                have HX := Lib.hid hx10
                clear hx10
                go_wp2_with fail
                rw [← HX.out]
                clear HX
                refine (HNn.out _ _ VT.out.at_).mono ?_
                rintro e u11 ⟨L21, s21, A21, n21, c21, F21, m21, k21, rfl, hd, hb⟩
                have VX := Lib.hid (VX.out.on hb)
                have VY := Lib.hid (VY.out.on hb)
                have VT := Lib.hid (VT.out.on hb)
                have B := Lib.hid (B.out.trans (hb.mono B.out.size))
                clear hb p0 p1 p2 p3 p4 HNn
                obtain ⟨x11, hx11, hbn, Vn⟩ := var_new u11 hd.out
                have VU := Lib.hid Vn
                have VX := Lib.hid (VX.out.on hbn)
                have VY := Lib.hid (VY.out.on hbn)
                have VT := Lib.hid (VT.out.on hbn)
                have B := Lib.hid (B.out.trans (hbn.mono B.out.size))
                clear hbn Vn hd
                clear VT
                obtain ⟨p0, p1, p2, p3, p4⟩ := VU.out.box
                rw [hx11] at p1 p2 p3 p4
                obtain ⟨q0, q1, q2, q3, q4⟩ := VX.out.box
                rw [hx11] at q1 q2 q3 q4
                have HX := Lib.hid hx11
                clear hx11
                go_wp2_with fail
                rw [← HX.out]
                clear HX
                refine (HSm.out _ _ _ VU.out.at_ VX.out.at_).mono ?_
                rintro e u12 ⟨rfl, hb⟩
                have VX := Lib.hid (VX.out.on hb)
                have VY := Lib.hid (VY.out.on hb)
                have VU := Lib.hid (VU.out.on hb)
                have B := Lib.hid (B.out.trans (hb.mono B.out.size))
                clear hb p0 p1 p2 p3 p4 q0 q1 q2 q3 q4 HSm
                clear VU VX
                go_wp2
                go_ret
                exact ⟨rfl, B.out⟩
            · have HZg := Lib.hid (fun W A c hA => make_len (E := .iface 57 (.int .i64 ((ky + 1 : Nat) : Int))) HL.out hkG (by omega) hy rfl W A c hA)
              clear HWc HRc HSa HL hr hT hT2 hTs hy gG vG hG hkG hk40
              generalize ((ky + 1 : Nat) : Int) = ky1 at *
              as_aux_lemma =>
                go_enter Tryz.func3, Tryz.ntmps3
                go_wp2_with fail
                refine (HA.out _ HN.out).mono ?_
                rintro e u1 ⟨L11, s11, A11, n11, c11, F11, m11, k11, rfl, hd, hb⟩
                have HN := Lib.hid (HN.out.on hb)
                have HXt := Lib.hid (HXt.out.on hb)
                have B := Lib.hid hb
                clear hb  HA
                have hn1 : (n11 : Int) ≠ 0 := by have := hd.out.eqs.2.2.1; have := HNx.out; omega
                have hn2 := int_ne hn1
                clear HNx
                obtain ⟨x1, hx1, hbn, Vn⟩ := var_new u1 hd.out
                have VX := Lib.hid Vn
                have HN := Lib.hid (HN.out.on hbn)
                have HXt := Lib.hid (HXt.out.on hbn)
                have B := Lib.hid (B.out.trans (hbn.mono B.out.size))
                clear hbn Vn hd
                obtain ⟨p0, p1, p2, p3, p4⟩ := VX.out.box
                rw [hx1] at p1 p2 p3 p4
                have HX := Lib.hid hx1
                clear hx1
                go_wp2_with fail
                rw [← HX.out]
                clear HX
                refine (HMin.out _ _ VX.out.at_).mono ?_
                rintro e u2 ⟨L12, s12, A12, n12, c12, F12, m12, k12, rfl, hd, hb⟩
                have HN := Lib.hid (HN.out.on hb)
                have HXt := Lib.hid (HXt.out.on hb)
                have VX := Lib.hid (VX.out.on hb)
                have B := Lib.hid (B.out.trans (hb.mono B.out.size))
                clear hb p0 p1 p2 p3 p4 HMin hn1 hn2
                obtain ⟨x2, hx2, hbn, Vn⟩ := var_new u2 hd.out
                have VM := Lib.hid Vn
                have HN := Lib.hid (HN.out.on hbn)
                have HXt := Lib.hid (HXt.out.on hbn)
                have VX := Lib.hid (VX.out.on hbn)
                have B := Lib.hid (B.out.trans (hbn.mono B.out.size))
                clear hbn Vn hd
                obtain ⟨p0, p1, p2, p3, p4⟩ := VM.out.box
                rw [hx2] at p1 p2 p3 p4
                obtain ⟨q0, q1, q2, q3, q4⟩ := VX.out.box
                rw [hx2] at q1 q2 q3 q4
                have HX := Lib.hid hx2
                clear hx2
                go_wp2_with fail
                rw [← HX.out]
                clear HX
                refine (HSm.out _ _ _ VM.out.at_ VX.out.at_).mono ?_
                rintro e u3 ⟨rfl, hb⟩
                have HN := Lib.hid (HN.out.on hb)
                have HXt := Lib.hid (HXt.out.on hb)
                have VX := Lib.hid (VX.out.on hb)
                have VM := Lib.hid (VM.out.on hb)
                have B := Lib.hid (B.out.trans (hb.mono B.out.size))
                clear hb p0 p1 p2 p3 p4 q0 q1 q2 q3 q4 
                clear VM
                go_wp2_with fail
                refine (HPl.out _ _ _ HXt.out HN.out).mono ?_
                rintro e u4 ⟨he, hb⟩
                have HN := Lib.hid (HN.out.on hb)
                have HXt := Lib.hid (HXt.out.on hb)
                have VX := Lib.hid (VX.out.on hb)
                have B := Lib.hid (B.out.trans (hb.mono B.out.size))
                clear hb  HPl
                obtain ⟨A5, c5, rfl, hP⟩ := he.out
                have HP := Lib.hid hP.out
                clear he hP
                go_wp2_with fail
                refine (HZp.out _ _ _ HP.out).mono ?_
                rintro e u5 ⟨L15, s15, A15, n15, c15, F15, m15, k15, rfl, hd, hb⟩
                have HN := Lib.hid (HN.out.on hb)
                have HXt := Lib.hid (HXt.out.on hb)
                have HP := Lib.hid (HP.out.on hb)
                have VX := Lib.hid (VX.out.on hb)
                have B := Lib.hid (B.out.trans (hb.mono B.out.size))
                clear hb  HZp
                obtain ⟨x5, hx5, hbn, Vn⟩ := var_new u5 hd.out
                have VY := Lib.hid Vn
                have HN := Lib.hid (HN.out.on hbn)
                have HXt := Lib.hid (HXt.out.on hbn)
                have HP := Lib.hid (HP.out.on hbn)
                have VX := Lib.hid (VX.out.on hbn)
                have B := Lib.hid (B.out.trans (hbn.mono B.out.size))
                clear hbn Vn hd
                clear HP
                clear HXt
                have HX := Lib.hid hx5
                clear hx5
                go_wp2_with fail
                rw [← HX.out]
                clear HX
                refine (HW.out _ _ _ HN.out).mono ?_
                rintro e u6 ⟨rfl, hb⟩
                have HN := Lib.hid (HN.out.on hb)
                have VX := Lib.hid (VX.out.on hb)
                have VY := Lib.hid (VY.out.on hb)
                have B := Lib.hid (B.out.trans (hb.mono B.out.size))
                clear hb  HW
                clear HN
                go_wp2_with fail
                refine (HR.out _).mono ?_
                rintro e u7 ⟨he, hb⟩
                have VX := Lib.hid (VX.out.on hb)
                have VY := Lib.hid (VY.out.on hb)
                have B := Lib.hid (B.out.trans (hb.mono B.out.size))
                clear hb  HR
                obtain ⟨A6, c6, rfl, hG⟩ := he.out
                have HG := Lib.hid hG.out
                clear he hG
                go_wp2_with fail
                refine (HZg.out _ _ _ HG.out).mono ?_
                rintro e u8 ⟨L18, s18, A18, n18, c18, F18, m18, k18, rfl, hd, hb⟩
                have HG := Lib.hid (HG.out.on hb)
                have VX := Lib.hid (VX.out.on hb)
                have VY := Lib.hid (VY.out.on hb)
                have B := Lib.hid (B.out.trans (hb.mono B.out.size))
                clear hb  HZg
                obtain ⟨x8, hx8, hbn, Vn⟩ := var_new u8 hd.out
                have VZ := Lib.hid Vn
                have HG := Lib.hid (HG.out.on hbn)
                have VX := Lib.hid (VX.out.on hbn)
                have VY := Lib.hid (VY.out.on hbn)
                have B := Lib.hid (B.out.trans (hbn.mono B.out.size))
                clear hbn Vn hd
                clear HG
                obtain ⟨p0, p1, p2, p3, p4⟩ := VX.out.box
                rw [hx8] at p1 p2 p3 p4
                have HX := Lib.hid hx8
                clear hx8
                go_wp2_with fail
                rw [← HX.out]
                clear HX
                refine (HNt.out _ _ VX.out.at_).mono ?_
                rintro e u9 ⟨L19, s19, A19, n19, c19, F19, m19, k19, rfl, hd, hb⟩
                have VX := Lib.hid (VX.out.on hb)
                have VY := Lib.hid (VY.out.on hb)
                have VZ := Lib.hid (VZ.out.on hb)
                have B := Lib.hid (B.out.trans (hb.mono B.out.size))
                clear hb p0 p1 p2 p3 p4 HNt
                obtain ⟨x9, hx9, hbn, Vn⟩ := var_new u9 hd.out
                have VT := Lib.hid Vn
                have VX := Lib.hid (VX.out.on hbn)
                have VY := Lib.hid (VY.out.on hbn)
                have VZ := Lib.hid (VZ.out.on hbn)
                have B := Lib.hid (B.out.trans (hbn.mono B.out.size))
                clear hbn Vn hd
                obtain ⟨p0, p1, p2, p3, p4⟩ := VT.out.box
                rw [hx9] at p1 p2 p3 p4
                have HX := Lib.hid hx9
                clear hx9
                go_wp2_with fail
                rw [← HX.out]
                clear HX
                refine (HNn.out _ _ VT.out.at_).mono ?_
                rintro e u10 ⟨L20, s20, A20, n20, c20, F20, m20, k20, rfl, hd, hb⟩
                have VX := Lib.hid (VX.out.on hb)
                have VY := Lib.hid (VY.out.on hb)
                have VZ := Lib.hid (VZ.out.on hb)
                have VT := Lib.hid (VT.out.on hb)
                have B := Lib.hid (B.out.trans (hb.mono B.out.size))
                clear hb p0 p1 p2 p3 p4 HNn
                obtain ⟨x10, hx10, hbn, Vn⟩ := var_new u10 hd.out
                have VU := Lib.hid Vn
                have VX := Lib.hid (VX.out.on hbn)
                have VY := Lib.hid (VY.out.on hbn)
                have VZ := Lib.hid (VZ.out.on hbn)
                have VT := Lib.hid (VT.out.on hbn)
                have B := Lib.hid (B.out.trans (hbn.mono B.out.size))
                clear hbn Vn hd
                clear VT
                obtain ⟨p0, p1, p2, p3, p4⟩ := VU.out.box
                rw [hx10] at p1 p2 p3 p4
                obtain ⟨q0, q1, q2, q3, q4⟩ := VX.out.box
                rw [hx10] at q1 q2 q3 q4
                have HX := Lib.hid hx10
                clear hx10
                go_wp2_with fail
                rw [← HX.out]
                clear HX
                refine (HSm.out _ _ _ VU.out.at_ VX.out.at_).mono ?_
                rintro e u11 ⟨rfl, hb⟩
                have VX := Lib.hid (VX.out.on hb)
                have VY := Lib.hid (VY.out.on hb)
                have VZ := Lib.hid (VZ.out.on hb)
                have VU := Lib.hid (VU.out.on hb)
                have B := Lib.hid (B.out.trans (hb.mono B.out.size))
                clear hb p0 p1 p2 p3 p4 q0 q1 q2 q3 q4 HSm
                clear VU VX
                go_wp2
                go_ret
                exact ⟨rfl, B.out⟩
    · have HPl := Lib.hid hPl
      clear HPc hPl
      rcases HWc.out with HW | ⟨T, bT, hT, HW⟩
      · replace HW := Lib.hid HW
        clear HWc HRc HSa HL
        as_aux_lemma =>
          go_enter Tryz.func3, Tryz.ntmps3
          go_wp2_with fail
          refine (HA.out _ HN.out).mono ?_
          rintro e u1 ⟨L11, s11, A11, n11, c11, F11, m11, k11, rfl, hd, hb⟩
          have HN := Lib.hid (HN.out.on hb)
          have HXt := Lib.hid (HXt.out.on hb)
          have B := Lib.hid hb
          clear hb  HA
          have hn1 : (n11 : Int) ≠ 0 := by have := hd.out.eqs.2.2.1; have := HNx.out; omega
          have hn2 := int_ne hn1
          clear HNx
          obtain ⟨x1, hx1, hbn, Vn⟩ := var_new u1 hd.out
          have VX := Lib.hid Vn
          have HN := Lib.hid (HN.out.on hbn)
          have HXt := Lib.hid (HXt.out.on hbn)
          have B := Lib.hid (B.out.trans (hbn.mono B.out.size))
          clear hbn Vn hd
          obtain ⟨p0, p1, p2, p3, p4⟩ := VX.out.box
          rw [hx1] at p1 p2 p3 p4
          have HX := Lib.hid hx1
          clear hx1
          go_wp2_with fail
          rw [← HX.out]
          clear HX
          refine (HMin.out _ _ VX.out.at_).mono ?_
          rintro e u2 ⟨L12, s12, A12, n12, c12, F12, m12, k12, rfl, hd, hb⟩
          have HN := Lib.hid (HN.out.on hb)
          have HXt := Lib.hid (HXt.out.on hb)
          have VX := Lib.hid (VX.out.on hb)
          have B := Lib.hid (B.out.trans (hb.mono B.out.size))
          clear hb p0 p1 p2 p3 p4 HMin hn1 hn2
          obtain ⟨x2, hx2, hbn, Vn⟩ := var_new u2 hd.out
          have VM := Lib.hid Vn
          have HN := Lib.hid (HN.out.on hbn)
          have HXt := Lib.hid (HXt.out.on hbn)
          have VX := Lib.hid (VX.out.on hbn)
          have B := Lib.hid (B.out.trans (hbn.mono B.out.size))
          clear hbn Vn hd
          obtain ⟨p0, p1, p2, p3, p4⟩ := VM.out.box
          rw [hx2] at p1 p2 p3 p4
          obtain ⟨q0, q1, q2, q3, q4⟩ := VX.out.box
          rw [hx2] at q1 q2 q3 q4
          have HX := Lib.hid hx2
          clear hx2
          go_wp2_with fail
          rw [← HX.out]
          clear HX
          refine (HSm.out _ _ _ VM.out.at_ VX.out.at_).mono ?_
          rintro e u3 ⟨rfl, hb⟩
          have HN := Lib.hid (HN.out.on hb)
          have HXt := Lib.hid (HXt.out.on hb)
          have VX := Lib.hid (VX.out.on hb)
          have VM := Lib.hid (VM.out.on hb)
          have B := Lib.hid (B.out.trans (hb.mono B.out.size))
          clear hb p0 p1 p2 p3 p4 q0 q1 q2 q3 q4 
          clear VM
          go_wp2_with fail
          refine (HPl.out _ _ _ HXt.out HN.out).mono ?_
          rintro e u4 ⟨rfl, hb⟩
          have HN := Lib.hid (HN.out.on hb)
          have HXt := Lib.hid (HXt.out.on hb)
          have VX := Lib.hid (VX.out.on hb)
          have B := Lib.hid (B.out.trans (hb.mono B.out.size))
          clear hb  HPl
          clear HXt
          go_wp2_with fail
          refine (HW.out _ _ _ HN.out).mono ?_
          rintro e u5 ⟨rfl, hb⟩
          have HN := Lib.hid (HN.out.on hb)
          have VX := Lib.hid (VX.out.on hb)
          have B := Lib.hid (B.out.trans (hb.mono B.out.size))
          clear hb  HW
          clear HN
          obtain ⟨p0, p1, p2, p3, p4⟩ := VX.out.box
          go_wp2_with fail
          refine (HNt.out _ _ VX.out.at_).mono ?_
          rintro e u6 ⟨L16, s16, A16, n16, c16, F16, m16, k16, rfl, hd, hb⟩
          have VX := Lib.hid (VX.out.on hb)
          have B := Lib.hid (B.out.trans (hb.mono B.out.size))
          clear hb p0 p1 p2 p3 p4 HNt
          obtain ⟨x6, hx6, hbn, Vn⟩ := var_new u6 hd.out
          have VT := Lib.hid Vn
          have VX := Lib.hid (VX.out.on hbn)
          have B := Lib.hid (B.out.trans (hbn.mono B.out.size))
          clear hbn Vn hd
          obtain ⟨p0, p1, p2, p3, p4⟩ := VT.out.box
          rw [hx6] at p1 p2 p3 p4
          have HX := Lib.hid hx6
          clear hx6
          go_wp2_with fail
          rw [← HX.out]
          clear HX
          refine (HNn.out _ _ VT.out.at_).mono ?_
          rintro e u7 ⟨L17, s17, A17, n17, c17, F17, m17, k17, rfl, hd, hb⟩
          have VX := Lib.hid (VX.out.on hb)
          have VT := Lib.hid (VT.out.on hb)
          have B := Lib.hid (B.out.trans (hb.mono B.out.size))
          clear hb p0 p1 p2 p3 p4 HNn
          obtain ⟨x7, hx7, hbn, Vn⟩ := var_new u7 hd.out
          have VU := Lib.hid Vn
          have VX := Lib.hid (VX.out.on hbn)
          have VT := Lib.hid (VT.out.on hbn)
          have B := Lib.hid (B.out.trans (hbn.mono B.out.size))
          clear hbn Vn hd
          clear VT
          obtain ⟨p0, p1, p2, p3, p4⟩ := VU.out.box
          rw [hx7] at p1 p2 p3 p4
          obtain ⟨q0, q1, q2, q3, q4⟩ := VX.out.box
          rw [hx7] at q1 q2 q3 q4
          have HX := Lib.hid hx7
          clear hx7
          go_wp2_with fail
          rw [← HX.out]
          clear HX
          refine (HSm.out _ _ _ VU.out.at_ VX.out.at_).mono ?_
          rintro e u8 ⟨rfl, hb⟩
          have VX := Lib.hid (VX.out.on hb)
          have VU := Lib.hid (VU.out.on hb)
          have B := Lib.hid (B.out.trans (hb.mono B.out.size))
          clear hb p0 p1 p2 p3 p4 q0 q1 q2 q3 q4 HSm
          clear VU VX
          go_wp2
          go_ret
          exact ⟨rfl, B.out⟩
      · replace HW := Lib.hid HW
        have eT : ({ data := #[33, 33] } : ByteArray).size = 2 := rfl
        have hT2 : ({ data := #[33, 33] } ++ T : ByteArray).data.toList = 33 :: 33 :: ftxt z1 := by rw [ByteArray.data_append, Array.toList_append, hT]; rfl
        have hTs : ({ data := #[33, 33] } ++ T : ByteArray).size ≤ 140737488351232 := by rw [ByteArray.size_append]; omega
        rcases HRc.out with hr | ⟨gG, hr, vG⟩
        · have HR := Lib.hid (fun W => read_gives HL.out hTs (show Rd a0 _ 4 [] by rw [hT2]; exact hr) (k := 0) rfl (E := .iface 57 (.int .i64 4)) rfl W)
          clear HWc HRc HSa HL hr hT hT2 hTs
          as_aux_lemma =>
            go_enter Tryz.func3, Tryz.ntmps3
            go_wp2_with fail
            refine (HA.out _ HN.out).mono ?_
            rintro e u1 ⟨L11, s11, A11, n11, c11, F11, m11, k11, rfl, hd, hb⟩
            have HN := Lib.hid (HN.out.on hb)
            have HXt := Lib.hid (HXt.out.on hb)
            have B := Lib.hid hb
            clear hb  HA
            have hn1 : (n11 : Int) ≠ 0 := by have := hd.out.eqs.2.2.1; have := HNx.out; omega
            have hn2 := int_ne hn1
            clear HNx
            obtain ⟨x1, hx1, hbn, Vn⟩ := var_new u1 hd.out
            have VX := Lib.hid Vn
            have HN := Lib.hid (HN.out.on hbn)
            have HXt := Lib.hid (HXt.out.on hbn)
            have B := Lib.hid (B.out.trans (hbn.mono B.out.size))
            clear hbn Vn hd
            obtain ⟨p0, p1, p2, p3, p4⟩ := VX.out.box
            rw [hx1] at p1 p2 p3 p4
            have HX := Lib.hid hx1
            clear hx1
            go_wp2_with fail
            rw [← HX.out]
            clear HX
            refine (HMin.out _ _ VX.out.at_).mono ?_
            rintro e u2 ⟨L12, s12, A12, n12, c12, F12, m12, k12, rfl, hd, hb⟩
            have HN := Lib.hid (HN.out.on hb)
            have HXt := Lib.hid (HXt.out.on hb)
            have VX := Lib.hid (VX.out.on hb)
            have B := Lib.hid (B.out.trans (hb.mono B.out.size))
            clear hb p0 p1 p2 p3 p4 HMin hn1 hn2
            obtain ⟨x2, hx2, hbn, Vn⟩ := var_new u2 hd.out
            have VM := Lib.hid Vn
            have HN := Lib.hid (HN.out.on hbn)
            have HXt := Lib.hid (HXt.out.on hbn)
            have VX := Lib.hid (VX.out.on hbn)
            have B := Lib.hid (B.out.trans (hbn.mono B.out.size))
            clear hbn Vn hd
            obtain ⟨p0, p1, p2, p3, p4⟩ := VM.out.box
            rw [hx2] at p1 p2 p3 p4
            obtain ⟨q0, q1, q2, q3, q4⟩ := VX.out.box
            rw [hx2] at q1 q2 q3 q4
            have HX := Lib.hid hx2
            clear hx2
            go_wp2_with fail
            rw [← HX.out]
            clear HX
            refine (HSm.out _ _ _ VM.out.at_ VX.out.at_).mono ?_
            rintro e u3 ⟨rfl, hb⟩
            have HN := Lib.hid (HN.out.on hb)
            have HXt := Lib.hid (HXt.out.on hb)
            have VX := Lib.hid (VX.out.on hb)
            have VM := Lib.hid (VM.out.on hb)
            have B := Lib.hid (B.out.trans (hb.mono B.out.size))
            clear hb p0 p1 p2 p3 p4 q0 q1 q2 q3 q4 
            clear VM
            go_wp2_with fail
            refine (HPl.out _ _ _ HXt.out HN.out).mono ?_
            rintro e u4 ⟨rfl, hb⟩
            have HN := Lib.hid (HN.out.on hb)
            have HXt := Lib.hid (HXt.out.on hb)
            have VX := Lib.hid (VX.out.on hb)
            have B := Lib.hid (B.out.trans (hb.mono B.out.size))
            clear hb  HPl
            clear HXt
            go_wp2_with fail
            refine (HW.out _ _ _ HN.out).mono ?_
            rintro e u5 ⟨rfl, hb⟩
            have HN := Lib.hid (HN.out.on hb)
            have VX := Lib.hid (VX.out.on hb)
            have B := Lib.hid (B.out.trans (hb.mono B.out.size))
            clear hb  HW
            clear HN
            go_wp2_with fail
            refine (HR.out _).mono ?_
            rintro e u6 ⟨he, hb⟩
            have VX := Lib.hid (VX.out.on hb)
            have B := Lib.hid (B.out.trans (hb.mono B.out.size))
            clear hb  HR
            obtain ⟨A6, c6, rfl, _⟩ := he.out
            clear he
            obtain ⟨p0, p1, p2, p3, p4⟩ := VX.out.box
            go_wp2_with fail
            refine (HNt.out _ _ VX.out.at_).mono ?_
            rintro e u7 ⟨L17, s17, A17, n17, c17, F17, m17, k17, rfl, hd, hb⟩
            have VX := Lib.hid (VX.out.on hb)
            have B := Lib.hid (B.out.trans (hb.mono B.out.size))
            clear hb p0 p1 p2 p3 p4 HNt
            obtain ⟨x7, hx7, hbn, Vn⟩ := var_new u7 hd.out
            have VT := Lib.hid Vn
            have VX := Lib.hid (VX.out.on hbn)
            have B := Lib.hid (B.out.trans (hbn.mono B.out.size))
            clear hbn Vn hd
            obtain ⟨p0, p1, p2, p3, p4⟩ := VT.out.box
            rw [hx7] at p1 p2 p3 p4
            have HX := Lib.hid hx7
            clear hx7
            go_wp2_with fail
            rw [← HX.out]
            clear HX
            refine (HNn.out _ _ VT.out.at_).mono ?_
            rintro e u8 ⟨L18, s18, A18, n18, c18, F18, m18, k18, rfl, hd, hb⟩
            have VX := Lib.hid (VX.out.on hb)
            have VT := Lib.hid (VT.out.on hb)
            have B := Lib.hid (B.out.trans (hb.mono B.out.size))
            clear hb p0 p1 p2 p3 p4 HNn
            obtain ⟨x8, hx8, hbn, Vn⟩ := var_new u8 hd.out
            have VU := Lib.hid Vn
            have VX := Lib.hid (VX.out.on hbn)
            have VT := Lib.hid (VT.out.on hbn)
            have B := Lib.hid (B.out.trans (hbn.mono B.out.size))
            clear hbn Vn hd
            clear VT
            obtain ⟨p0, p1, p2, p3, p4⟩ := VU.out.box
            rw [hx8] at p1 p2 p3 p4
            obtain ⟨q0, q1, q2, q3, q4⟩ := VX.out.box
            rw [hx8] at q1 q2 q3 q4
            have HX := Lib.hid hx8
            clear hx8
            go_wp2_with fail
            rw [← HX.out]
            clear HX
            refine (HSm.out _ _ _ VU.out.at_ VX.out.at_).mono ?_
            rintro e u9 ⟨rfl, hb⟩
            have VX := Lib.hid (VX.out.on hb)
            have VU := Lib.hid (VU.out.on hb)
            have B := Lib.hid (B.out.trans (hb.mono B.out.size))
            clear hb p0 p1 p2 p3 p4 q0 q1 q2 q3 q4 HSm
            clear VU VX
            go_wp2
            go_ret
            exact ⟨rfl, B.out⟩
        · obtain ⟨G, hG⟩ : ∃ G, G = flat (.un 3 (.un 3 (root z1))) [] := ⟨_, rfl⟩
          rw [← hG] at gG hr vG
          obtain ⟨kG, hkG⟩ : ∃ k, G.length = k := ⟨_, rfl⟩
          have hk40 := gG.le
          have HR := Lib.hid (fun W => read_gives HL.out hTs (show Rd a0 _ 0 G by rw [hT2]; exact hr) hkG (E := .nilIface) rfl W)
          rcases HSa.out G vG with hy | ⟨ky, hy⟩
          · have HZg := Lib.hid (fun W A c hA => make_len (E := .nilIface) HL.out hkG (by omega) hy rfl W A c hA)
            clear HWc HRc HSa HL hr hT hT2 hTs hy gG vG hG hkG hk40
            as_aux_lemma =>
              go_enter Tryz.func3, Tryz.ntmps3
              go_wp2_with fail
              refine (HA.out _ HN.out).mono ?_
              rintro e u1 ⟨L11, s11, A11, n11, c11, F11, m11, k11, rfl, hd, hb⟩
              have HN := Lib.hid (HN.out.on hb)
              have HXt := Lib.hid (HXt.out.on hb)
              have B := Lib.hid hb
              clear hb  HA
              have hn1 : (n11 : Int) ≠ 0 := by have := hd.out.eqs.2.2.1; have := HNx.out; omega
              have hn2 := int_ne hn1
              clear HNx
              obtain ⟨x1, hx1, hbn, Vn⟩ := var_new u1 hd.out
              have VX := Lib.hid Vn
              have HN := Lib.hid (HN.out.on hbn)
              have HXt := Lib.hid (HXt.out.on hbn)
              have B := Lib.hid (B.out.trans (hbn.mono B.out.size))
              clear hbn Vn hd
              obtain ⟨p0, p1, p2, p3, p4⟩ := VX.out.box
              rw [hx1] at p1 p2 p3 p4
              have HX := Lib.hid hx1
              clear hx1
              go_wp2_with fail
              rw [← HX.out]
              clear HX
              refine (HMin.out _ _ VX.out.at_).mono ?_
              rintro e u2 ⟨L12, s12, A12, n12, c12, F12, m12, k12, rfl, hd, hb⟩
              have HN := Lib.hid (HN.out.on hb)
              have HXt := Lib.hid (HXt.out.on hb)
              have VX := Lib.hid (VX.out.on hb)
              have B := Lib.hid (B.out.trans (hb.mono B.out.size))
              clear hb p0 p1 p2 p3 p4 HMin hn1 hn2
              obtain ⟨x2, hx2, hbn, Vn⟩ := var_new u2 hd.out
              have VM := Lib.hid Vn
              have HN := Lib.hid (HN.out.on hbn)
              have HXt := Lib.hid (HXt.out.on hbn)
              have VX := Lib.hid (VX.out.on hbn)
              have B := Lib.hid (B.out.trans (hbn.mono B.out.size))
              clear hbn Vn hd
              obtain ⟨p0, p1, p2, p3, p4⟩ := VM.out.box
              rw [hx2] at p1 p2 p3 p4
              obtain ⟨q0, q1, q2, q3, q4⟩ := VX.out.box
              rw [hx2] at q1 q2 q3 q4
              have HX := Lib.hid hx2
              clear hx2
              go_wp2_with fail
              rw [← HX.out]
              clear HX
              refine (HSm.out _ _ _ VM.out.at_ VX.out.at_).mono ?_
              rintro e u3 ⟨rfl, hb⟩
              have HN := Lib.hid (HN.out.on hb)
              have HXt := Lib.hid (HXt.out.on hb)
              have VX := Lib.hid (VX.out.on hb)
              have VM := Lib.hid (VM.out.on hb)
              have B := Lib.hid (B.out.trans (hb.mono B.out.size))
              clear hb p0 p1 p2 p3 p4 q0 q1 q2 q3 q4 
              clear VM
              go_wp2_with fail
              refine (HPl.out _ _ _ HXt.out HN.out).mono ?_
              rintro e u4 ⟨rfl, hb⟩
              have HN := Lib.hid (HN.out.on hb)
              have HXt := Lib.hid (HXt.out.on hb)
              have VX := Lib.hid (VX.out.on hb)
              have B := Lib.hid (B.out.trans (hb.mono B.out.size))
              clear hb  HPl
              clear HXt
              go_wp2_with fail
              refine (HW.out _ _ _ HN.out).mono ?_
              rintro e u5 ⟨rfl, hb⟩
              have HN := Lib.hid (HN.out.on hb)
              have VX := Lib.hid (VX.out.on hb)
              have B := Lib.hid (B.out.trans (hb.mono B.out.size))
              clear hb  HW
              clear HN
              go_wp2_with fail
              refine (HR.out _).mono ?_
              rintro e u6 ⟨he, hb⟩
              have VX := Lib.hid (VX.out.on hb)
              have B := Lib.hid (B.out.trans (hb.mono B.out.size))
              clear hb  HR
              obtain ⟨A6, c6, rfl, hG⟩ := he.out
              have HG := Lib.hid hG.out
              clear he hG
              go_wp2_with fail
              refine (HZg.out _ _ _ HG.out).mono ?_
              rintro e u7 ⟨L17, s17, A17, n17, c17, F17, m17, k17, rfl, hd, hb⟩
              have HG := Lib.hid (HG.out.on hb)
              have VX := Lib.hid (VX.out.on hb)
              have B := Lib.hid (B.out.trans (hb.mono B.out.size))
              clear hb  HZg
              obtain ⟨x7, hx7, hbn, Vn⟩ := var_new u7 hd.out
              have VZ := Lib.hid Vn
              have HG := Lib.hid (HG.out.on hbn)
              have VX := Lib.hid (VX.out.on hbn)
              have B := Lib.hid (B.out.trans (hbn.mono B.out.size))
              clear hbn Vn hd
              clear HG
              obtain ⟨p0, p1, p2, p3, p4⟩ := VZ.out.box
              rw [hx7] at p1 p2 p3 p4
              obtain ⟨q0, q1, q2, q3, q4⟩ := VX.out.box
              rw [hx7] at q1 q2 q3 q4
              have HX := Lib.hid hx7
              clear hx7
              go_wp2_with fail
              rw [← HX.out]
              clear HX
              refine (HSm.out _ _ _ VZ.out.at_ VX.out.at_).mono ?_
              rintro e u8 ⟨rfl, hb⟩
              have VX := Lib.hid (VX.out.on hb)
              have VZ := Lib.hid (VZ.out.on hb)
              have B := Lib.hid (B.out.trans (hb.mono B.out.size))
              clear hb p0 p1 p2 p3 p4 q0 q1 q2 q3 q4 
              clear VZ
              obtain ⟨p0, p1, p2, p3, p4⟩ := VX.out.box
              go_wp2_with fail
              refine (HNt.out _ _ VX.out.at_).mono ?_
              rintro e u9 ⟨L19, s19, A19, n19, c19, F19, m19, k19, rfl, hd, hb⟩
              have VX := Lib.hid (VX.out.on hb)
              have B := Lib.hid (B.out.trans (hb.mono B.out.size))
              clear hb p0 p1 p2 p3 p4 HNt
              obtain ⟨x9, hx9, hbn, Vn⟩ := var_new u9 hd.out
              have VT := Lib.hid Vn
              have VX := Lib.hid (VX.out.on hbn)
              have B := Lib.hid (B.out.trans (hbn.mono B.out.size))
              clear hbn Vn hd
              obtain ⟨p0, p1, p2, p3, p4⟩ := VT.out.box
              rw [hx9] at p1 p2 p3 p4
              have HX := Lib.hid hx9
              clear hx9
              go_wp2_with fail
              rw [← HX.out]
              clear HX
              refine (HNn.out _ _ VT.out.at_).mono ?_
              rintro e u10 ⟨L20, s20, A20, n20, c20, F20, m20, k20, rfl, hd, hb⟩
              have VX := Lib.hid (VX.out.on hb)
              have VT := Lib.hid (VT.out.on hb)
              have B := Lib.hid (B.out.trans (hb.mono B.out.size))
              clear hb p0 p1 p2 p3 p4 HNn
              obtain ⟨x10, hx10, hbn, Vn⟩ := var_new u10 hd.out
              have VU := Lib.hid Vn
              have VX := Lib.hid (VX.out.on hbn)
              have VT := Lib.hid (VT.out.on hbn)
              have B := Lib.hid (B.out.trans (hbn.mono B.out.size))
              clear hbn Vn hd
              clear VT
              obtain ⟨p0, p1, p2, p3, p4⟩ := VU.out.box
              rw [hx10] at p1 p2 p3 p4
              obtain ⟨q0, q1, q2, q3, q4⟩ := VX.out.box
              rw [hx10] at q1 q2 q3 q4
              have HX := Lib.hid hx10
              clear hx10
              go_wp2_with fail
              rw [← HX.out]
              clear HX
              refine (HSm.out _ _ _ VU.out.at_ VX.out.at_).mono ?_
              rintro e u11 ⟨rfl, hb⟩
              have VX := Lib.hid (VX.out.on hb)
              have VU := Lib.hid (VU.out.on hb)
              have B := Lib.hid (B.out.trans (hb.mono B.out.size))
              clear hb p0 p1 p2 p3 p4 q0 q1 q2 q3 q4 HSm
              clear VU VX
              go_wp2
              go_ret
              exact ⟨rfl, B.out⟩
          · have HZg := Lib.hid (fun W A c hA => make_len (E := .iface 57 (.int .i64 ((ky + 1 : Nat) : Int))) HL.out hkG (by omega) hy rfl W A c hA)
            clear HWc HRc HSa HL hr hT hT2 hTs hy gG vG hG hkG hk40
            generalize ((ky + 1 : Nat) : Int) = ky1 at *
            as_aux_lemma =>
              go_enter Tryz.func3, Tryz.ntmps3
              go_wp2_with fail
              refine (HA.out _ HN.out).mono ?_
              rintro e u1 ⟨L11, s11, A11, n11, c11, F11, m11, k11, rfl, hd, hb⟩
              have HN := Lib.hid (HN.out.on hb)
              have HXt := Lib.hid (HXt.out.on hb)
              have B := Lib.hid hb
              clear hb  HA
              have hn1 : (n11 : Int) ≠ 0 := by have := hd.out.eqs.2.2.1; have := HNx.out; omega
              have hn2 := int_ne hn1
              clear HNx
              obtain ⟨x1, hx1, hbn, Vn⟩ := var_new u1 hd.out
              have VX := Lib.hid Vn
              have HN := Lib.hid (HN.out.on hbn)
              have HXt := Lib.hid (HXt.out.on hbn)
              have B := Lib.hid (B.out.trans (hbn.mono B.out.size))
              clear hbn Vn hd
              obtain ⟨p0, p1, p2, p3, p4⟩ := VX.out.box
              rw [hx1] at p1 p2 p3 p4
              have HX := Lib.hid hx1
              clear hx1
              go_wp2_with fail
              rw [← HX.out]
              clear HX
              refine (HMin.out _ _ VX.out.at_).mono ?_
              rintro e u2 ⟨L12, s12, A12, n12, c12, F12, m12, k12, rfl, hd, hb⟩
              have HN := Lib.hid (HN.out.on hb)
              have HXt := Lib.hid (HXt.out.on hb)
              have VX := Lib.hid (VX.out.on hb)
              have B := Lib.hid (B.out.trans (hb.mono B.out.size))
              clear hb p0 p1 p2 p3 p4 HMin hn1 hn2
              obtain ⟨x2, hx2, hbn, Vn⟩ := var_new u2 hd.out
              have VM := Lib.hid Vn
              have HN := Lib.hid (HN.out.on hbn)
              have HXt := Lib.hid (HXt.out.on hbn)
              have VX := Lib.hid (VX.out.on hbn)
              have B := Lib.hid (B.out.trans (hbn.mono B.out.size))
              clear hbn Vn hd
              obtain ⟨p0, p1, p2, p3, p4⟩ := VM.out.box
              rw [hx2] at p1 p2 p3 p4
              obtain ⟨q0, q1, q2, q3, q4⟩ := VX.out.box
              rw [hx2] at q1 q2 q3 q4
              have HX := Lib.hid hx2
              clear hx2
              go_wp2_with fail
              rw [← HX.out]
              clear HX
              refine (HSm.out _ _ _ VM.out.at_ VX.out.at_).mono ?_
              rintro e u3 ⟨rfl, hb⟩
              have HN := Lib.hid (HN.out.on hb)
              have HXt := Lib.hid (HXt.out.on hb)
              have VX := Lib.hid (VX.out.on hb)
              have VM := Lib.hid (VM.out.on hb)
              have B := Lib.hid (B.out.trans (hb.mono B.out.size))
              clear hb p0 p1 p2 p3 p4 q0 q1 q2 q3 q4 
              clear VM
              go_wp2_with fail
              refine (HPl.out _ _ _ HXt.out HN.out).mono ?_
              rintro e u4 ⟨rfl, hb⟩
              have HN := Lib.hid (HN.out.on hb)
              have HXt := Lib.hid (HXt.out.on hb)
              have VX := Lib.hid (VX.out.on hb)
              have B := Lib.hid (B.out.trans (hb.mono B.out.size))
              clear hb  HPl
              clear HXt
              go_wp2_with fail
              refine (HW.out _ _ _ HN.out).mono ?_
              rintro e u5 ⟨rfl, hb⟩
              have HN := Lib.hid (HN.out.on hb)
              have VX := Lib.hid (VX.out.on hb)
              have B := Lib.hid (B.out.trans (hb.mono B.out.size))
              clear hb  HW
              clear HN
              go_wp2_with fail
              refine (HR.out _).mono ?_
              rintro e u6 ⟨he, hb⟩
              have VX := Lib.hid (VX.out.on hb)
              have B := Lib.hid (B.out.trans (hb.mono B.out.size))
              clear hb  HR
              obtain ⟨A6, c6, rfl, hG⟩ := he.out
              have HG := Lib.hid hG.out
              clear he hG
              go_wp2_with fail
              refine (HZg.out _ _ _ HG.out).mono ?_
              rintro e u7 ⟨L17, s17, A17, n17, c17, F17, m17, k17, rfl, hd, hb⟩
              have HG := Lib.hid (HG.out.on hb)
              have VX := Lib.hid (VX.out.on hb)
              have B := Lib.hid (B.out.trans (hb.mono B.out.size))
              clear hb  HZg
              obtain ⟨x7, hx7, hbn, Vn⟩ := var_new u7 hd.out
              have VZ := Lib.hid Vn
              have HG := Lib.hid (HG.out.on hbn)
              have VX := Lib.hid (VX.out.on hbn)
              have B := Lib.hid (B.out.trans (hbn.mono B.out.size))
              clear hbn Vn hd
              clear HG
              obtain ⟨p0, p1, p2, p3, p4⟩ := VX.out.box
              rw [hx7] at p1 p2 p3 p4
              have HX := Lib.hid hx7
              clear hx7
              go_wp2_with fail
              rw [← HX.out]
              clear HX
              refine (HNt.out _ _ VX.out.at_).mono ?_
              rintro e u8 ⟨L18, s18, A18, n18, c18, F18, m18, k18, rfl, hd, hb⟩
              have VX := Lib.hid (VX.out.on hb)
              have VZ := Lib.hid (VZ.out.on hb)
              have B := Lib.hid (B.out.trans (hb.mono B.out.size))
              clear hb p0 p1 p2 p3 p4 HNt
              obtain ⟨x8, hx8, hbn, Vn⟩ := var_new u8 hd.out
              have VT := Lib.hid Vn
              have VX := Lib.hid (VX.out.on hbn)
              have VZ := Lib.hid (VZ.out.on hbn)
              have B := Lib.hid (B.out.trans (hbn.mono B.out.size))
              clear hbn Vn hd
              obtain ⟨p0, p1, p2, p3, p4⟩ := VT.out.box
              rw [hx8] at p1 p2 p3 p4
              have HX := Lib.hid hx8
              clear hx8
              go_wp2_with fail
              rw [← HX.out]
              clear HX
              refine (HNn.out _ _ VT.out.at_).mono ?_
              rintro e u9 ⟨L19, s19, A19, n19, c19, F19, m19, k19, rfl, hd, hb⟩
              have VX := Lib.hid (VX.out.on hb)
              have VZ := Lib.hid (VZ.out.on hb)
              have VT := Lib.hid (VT.out.on hb)
              have B := Lib.hid (B.out.trans (hb.mono B.out.size))
              clear hb p0 p1 p2 p3 p4 HNn
              obtain ⟨x9, hx9, hbn, Vn⟩ := var_new u9 hd.out
              have VU := Lib.hid Vn
              have VX := Lib.hid (VX.out.on hbn)
              have VZ := Lib.hid (VZ.out.on hbn)
              have VT := Lib.hid (VT.out.on hbn)
              have B := Lib.hid (B.out.trans (hbn.mono B.out.size))
              clear hbn Vn hd
              clear VT
              obtain ⟨p0, p1, p2, p3, p4⟩ := VU.out.box
              rw [hx9] at p1 p2 p3 p4
              obtain ⟨q0, q1, q2, q3, q4⟩ := VX.out.box
              rw [hx9] at q1 q2 q3 q4
              have HX := Lib.hid hx9
              clear hx9
              go_wp2_with fail
              rw [← HX.out]
              clear HX
              refine (HSm.out _ _ _ VU.out.at_ VX.out.at_).mono ?_
              rintro e u10 ⟨rfl, hb⟩
              have VX := Lib.hid (VX.out.on hb)
              have VZ := Lib.hid (VZ.out.on hb)
              have VU := Lib.hid (VU.out.on hb)
              have B := Lib.hid (B.out.trans (hb.mono B.out.size))
              clear hb p0 p1 p2 p3 p4 q0 q1 q2 q3 q4 HSm
              clear VU VX
              go_wp2
              go_ret
              exact ⟨rfl, B.out⟩
  · have HA := Lib.hid (fun W (hA : NodesAt W W.heap.size A1 z1) => make_len (E := .iface 57 (.int .i64 ((k + 1 : Nat) : Int))) hL hn (by omega) hr1 rfl W A1 c1 hA)
    rw [hn]
    clear hr1 hL v1 hx hlen hn
    generalize ((k + 1 : Nat) : Int) = kk at *
    go_enter Tryz.func3, Tryz.ntmps3
    go_wp2_with fail
    refine (HA.out _ HN.out).mono ?_
    rintro e u1 ⟨L11, s11, A11, n11, c11, F11, m11, k11, rfl, hd, hb⟩
    have HN := Lib.hid (HN.out.on hb)
    have B := Lib.hid hb
    clear hb  HA
    obtain rfl : n11 = 0 := by have := hd.out.eqs.2.2.1; simpa [zeroA] using this.symm
    obtain ⟨x1, hx1, hbn, Vn⟩ := var_new u1 hd.out
    have VX := Lib.hid Vn
    have HN := Lib.hid (HN.out.on hbn)
    have B := Lib.hid (B.out.trans (hbn.mono B.out.size))
    clear hbn Vn hd
    obtain ⟨p0, p1, p2, p3, p4⟩ := VX.out.box
    rw [hx1] at p1 p2 p3 p4
    rw [hx1] at B
    clear hx1 VX HN
    go_wp2
    go_ret
    exact ⟨rfl, B.out⟩


set_option maxRecDepth 100000 in
theorem lifted (os : Os) (started : os.Started) (H : Type) (enc : TypeId × Value → H) :
    ReturnsInHanded {} Tryz.checked os 3 .any (fun w args => (Rows.topWaysSpec.pre enc Tryz.prog Tryz.f3 Rows.topWaysRow.domain false w args ∧ laidMetH Tryz.prog [("unicode/utf8.acceptRanges", Rows.laid_unicode_utf8_acceptRanges), ("stileward/mean.exchanged", Rows.laid_stileward_mean_exchanged), ("unicode/utf8.first", Rows.laid_unicode_utf8_first)] w) ∧ sizedMet enc Tryz.prog Tryz.f3 (OpenSpec.ofChange Rows.topWaysSpec) false w args) (Rows.topWaysSpec.post enc Tryz.prog Tryz.f3 false true false false) := by
  refine returnsInHanded_of_change_and (C := Tryz.checked) (X := fun w _ => laidMetH Tryz.prog [("unicode/utf8.acceptRanges", Rows.laid_unicode_utf8_acceptRanges), ("stileward/mean.exchanged", Rows.laid_stileward_mean_exchanged), ("unicode/utf8.first", Rows.laid_unicode_utf8_first)] w) (fun _ _ _ hh h => h.of_heap hh) own started (by kernel_rfl) Tryz.func3
    (ChangeSpec.witness_shaped (enc := enc) (C := Tryz.checked) (os := os) (X := fun w _ => laidMetH Tryz.prog [("unicode/utf8.acceptRanges", Rows.laid_unicode_utf8_acceptRanges), ("stileward/mean.exchanged", Rows.laid_stileward_mean_exchanged), ("unicode/utf8.first", Rows.laid_unicode_utf8_first)] w) false (laidWorld os) #[.int .i64 0, .slice none 0 0] 8 (World.layVars_os _ _ _)
      (World.shaped_of_ZipB (by kernel_rfl) (by kernel_rfl)) (by kernel_rfl) (by kernel_rfl) (by kernel_rfl) (laidWorld_met os _)) ?_
  intro W base args ds gs before hval0 hW hcnd hsz0 hL _
  have hval : ∀ (j : Nat) t v, Tryz.f3.params[j]? = some t → args[j]? = some v → Value.okWide Tryz.prog W .any base t v := hval0
  have hsz : (DataW.weightsEach Tryz.prog (Tryz.f3.params.toList ++ Rows.topWaysSpec.plain.varTypes Tryz.prog) (ds ++ gs)).all (· ≤ reachBytes) = true := hsz0
  have hW' := hW
  obtain ⟨p, q, hA0, hV0, rfl, hfz, hnd⟩ := hW
  have hV : DataW.TrodVars enc Tryz.prog W (fun _ => true) [] gs q := hV0
  have hA : DataW.TrodAll enc Tryz.prog W 0 (fun _ => true) true Tryz.f3.params.toList args.toList ds p := hA0
  rw [Tryz.params3] at hA hval hsz
  obtain ⟨v0, vs0, d0, ds0, p0, q0, hargs, rfl, rfl, h0, rr0⟩ := trodAll_cons hA
  obtain ⟨v1, vs1, d1, ds1, p1, q1, rfl, rfl, rfl, h1, rr1⟩ := trodAll_cons rr0
  obtain ⟨rfl, rfl, rfl⟩ := trodAll_nil rr1
  obtain rfl : args = #[v0, v1] := by cases args; simp_all
  obtain ⟨rfl, rfl⟩ := trodVars_none hV
  have k0 := h0
  have lt0 : ∀ x ∈ p0, x.block < W.heap.size := by obtain ⟨m, hm⟩ := k0; exact DataW.trod_lt m _ _ _ hm
  have k1 := h1
  have lt1 : ∀ x ∈ p1, x.block < W.heap.size := by obtain ⟨m, hm⟩ := k1; exact DataW.trod_lt m _ _ _ hm
  obtain ⟨a0, rfl, rfl, rfl, w0⟩ := open_int Tryz.underlying3 (hval 0 3 v0 rfl rfl) h0
  obtain ⟨l0, hh0⟩ := bounds_i64 w0
  obtain ⟨A1, c1, z1, rfl, m1, n1, x1, r1⟩ : ∃ (A : Option Addr) (c : Nat) (l : List Fm.Nd), v1 = .slice A l.length c ∧ l.length ≤ c ∧ c ≤ 9223372036854775807 ∧ Fm.NodesAt W W.heap.size A l ∧ l.length ≤ 5864062014634 := by
    obtain ⟨A, len, c, rfl⟩ := okWide_slice Tryz.underlying22 (hval 1 22 v1 rfl rfl)
    obtain ⟨fuel, hf⟩ := h1
    obtain ⟨A2, c2, l, hcs, q1, q2, q3, q4⟩ := Fm.open_nodes hf
    simp [Value.cells] at hcs
    obtain ⟨rfl, rfl, rfl⟩ := hcs
    refine ⟨_, _, l, rfl, q1, q2, q3, ?_⟩
    rcases q4 with q4 | ⟨es, sp, hd, hl⟩
    · omega
    · have := sized_slice hsz (j := 1) (t := 22) (e := 108) (elems := es) (spare := sp) rfl (by rw [← hd]; rfl) Tryz.underlying22
      rw [(show Tryz.prog.bytesOf 108 = 24 by kernel_rfl)] at this
      simp only [reachBytes] at this
      omega
  clear hA0 hval0
  refine (walk a0 A1 c1 z1 W l0 hh0 x1 m1 n1 r1 (exchanged_of_laid hL)).mono fun e W' ⟨he, bel⟩ => ?_
  subst he
  exact ⟨_, rfl, _, _, _, [], _, [], hW', trodAll_mk1 (shut_bool Tryz.underlying4 _), (trodAll_cons_mk (Below.trod laidOut (by kernel_rfl) (of_decide_eq_true (by kernel_rfl)) k0 bel lt0) (trodAll_cons_mk (Below.trod laidOut (by kernel_rfl) (of_decide_eq_true (by kernel_rfl)) k1 bel lt1) trodAll_mk0)), rfl, bel.frame _, fun h => by cases h⟩

theorem over : Rows.topWaysRow.holds Tryz.pinned (OpenSpec.ofChange Rows.topWaysSpec) :=
  OpenClaim.holds_of_wide 3 Tryz.f3 rfl rfl rfl rfl rfl rfl rfl ⟨rfl, rfl, rfl, rfl, rfl⟩ rfl rfl rfl rfl rfl (by kernel_rfl) Tryz.func3 (by kernel_rfl)
    (of_decide_eq_true (by kernel_rfl)) (by unfold Func.isWrapper; rw [if_neg (of_decide_eq_false (by kernel_rfl))]; exact ⟨rfl, rfl⟩)
    (fun os started H enc _ => lifted os started H enc)
theorem proved : Rows.TopWaysCardSaid :=
  Claim7.holds_tied_plain_at .later [] [.data, .data, .pinned] true (true, "44b0220590ff679d9fd1d1282f29d4c98c4da9f7103d0c0d9086e14a867bd825") true
    over (fun _ h => by cases h) (by kernel_rfl) (fun _ h => by cases h) topWays_row_tie rfl ⟨rfl, rfl⟩ (by kernel_rfl) rfl
    (fun f fn hf hfn => by
      obtain rfl : f = 3 := Option.some.inj ((show Tryz.prog.funcNamed "stileward/stilewardtop.TopWays" = some 3 by kernel_rfl).symm.trans hf) |>.symm
      obtain rfl : fn = Tryz.f3 := (Option.some.inj (Tryz.func3.symm.trans hfn)).symm
      exact ⟨by kernel_rfl, fun j t ht => by
        rw [Tryz.params3] at ht
        rcases j with _ | _ | j
        · obtain rfl : 3 = t := by simpa using ht
          exact (show Tryz.prog.wantsStandIn 3 = false by kernel_rfl)
        · obtain rfl : 22 = t := by simpa using ht
          exact (show Tryz.prog.wantsStandIn 22 = false by kernel_rfl)
        · simp at ht⟩)
    (by kernel_rfl)
#print axioms proved
end Go.Proofs.YtloihkoamccacaaGreatDoor.topWays

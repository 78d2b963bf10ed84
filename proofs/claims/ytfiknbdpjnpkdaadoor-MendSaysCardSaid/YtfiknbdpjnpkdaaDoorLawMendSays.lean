/-
  The statement MendSaysCardSaid of this seat, proved: for every input the law returns true and its arguments read behind the call as before. Conditions: none but the row's own (each argument within the reach; the listed variable as the program lays it, tied by the given tie).
-/
import Derived.Test.YtfiknbdpjnpkdaaDoorRows
import Derived.Test.YtfiknbdpjnpkdaaDoorCards
import Derived.Test.YtfiknbdpjnpkdaaDoorTie
import Derived.SevenTiedAt
import Derived.LaidLaws
import Derived.LaidHandle
import Derived.LaidMore
import Derived.Lay
import Derived.MakeChecks
import Derived.Stop.Joined
import Derived.JoinedOf
import Derived.RowKit
import Derived.RowKitTokens
import Derived.ChangeSame
import Derived.ChangeVars
import Derived.Test.YtfiknbdpjnpkdaaDoorWords
import Derived.WalkKit
import Derived.ProofKit
import Derived.OpenShut
import Derived.ShutString
import Derived.ChangeOld
import Derived.Below
import Derived.SizedLaws
import Derived.Lib.Hide
import Derived.Test.YtfiknbdpjnpkdaaDoorMendV
import Derived.Test.YtfiknbdpjnpkdaaDoorRefMend
import Derived.Test.YtfiknbdpjnpkdaaDoorRefDfa
import Derived.Test.YtfiknbdpjnpkdaaDoorRefWord
import Derived.Test.YtfiknbdpjnpkdaaDoorDfaV
import Derived.Test.YtfiknbdpjnpkdaaDoorSays
namespace Go.Proofs.YtfiknbdpjnpkdaaDoor.mendSays
open Go.ChangeShapes Go.WideShapes Go.ChangeAt Go.RowKit Go.IntWalk Go.Proofs.YtfiknbdpjnpkdaaDoor.Wd
open Go.ChangeMaps (open_string shut_string)
set_option linter.unusedVariables false

theorem own : ownKnob Tryd.prog.godebug = none := by kernel_rfl
theorem laidOut : laidOutB Tryd.prog = true := by kernel_rfl
theorem et : Tryd.prog.globalNamed "errors.errorType" = some 0 := by kernel_rfl
theorem rt : (Tryd.prog.cutTypes.find? (·.1 == "internal/reflectlite.rtype")).map (·.2) = some 107 := by kernel_rfl
theorem oneRow : ((List.range 149).filter fun t => Tryd.prog.rowNamed t [101, 114, 114, 111, 114]) = [32] := by kernel_rfl
theorem size : Tryd.prog.types.size = 149 := by kernel_rfl
/-- What the condition gives a walk: the variable's one cell. -/
theorem handle_of_laid {w : World} (h : laidMetH Tryd.prog [("errors.errorType", Rows.laid_errors_errorType)] w) : w.cell? ⟨0, 0, none⟩ = some (.iface 107 (.agg #[.pointer (some ⟨1, 32, none⟩)])) := by
  have h' : laidMet Tryd.prog [] w ∧ handlesMet Tryd.prog [("errors.errorType", Rows.laid_errors_errorType)] w := h
  obtain ⟨name, u, ty, e1, e2, e3, e4, e5⟩ := h'.2 _ (List.mem_singleton.2 rfl)
  have en : name = [101, 114, 114, 111, 114] := (Option.some.inj e1).symm
  subst en
  obtain rfl := Option.some.inj (rt.symm.trans e2)
  have hm : ty ∈ (List.range 149).filter fun t => Tryd.prog.rowNamed t [101, 114, 114, 111, 114] := List.mem_filter.2 ⟨List.mem_range.2 (by rw [← size]; exact e3), e4⟩
  rw [oneRow] at hm
  obtain rfl := List.mem_singleton.1 hm
  have hh : typeHandle Tryd.prog 32 = .pointer (some ⟨1, 32, none⟩) := by kernel_rfl
  rw [hh] at e5
  simpa using World.var?_cell et e5 0
/-- A world that meets the condition. -/
noncomputable def laidWorld (os : Os) : World :=
  let w0 := World.holding Tryd.prog os ⟨#[], #[], []⟩
  { w0 with heap := w0.heap.modify 0 fun
      | .cells _ t frozen => .cells #[.iface 107 (.agg #[.pointer (some ⟨1, 32, none⟩)])] t frozen
      | o => o }
theorem laidWorld_met (os : Os) (args : Array Value) : laidMetH Tryd.prog [("errors.errorType", Rows.laid_errors_errorType)] ((laidWorld os).forCall (fun _ _ => 0) ⟨#[], args, []⟩).memory :=
  laidMetH_of_parts (laidMet_nil _ _) (by kernel_rfl)
open Go.Proofs.YtfiknbdpjnpkdaaDoor.Wo Go.Proofs.YtfiknbdpjnpkdaaDoor.Er Go.Proofs.YtfiknbdpjnpkdaaDoor.Df Go.Proofs.YtfiknbdpjnpkdaaDoor.Rc Go.Proofs.YtfiknbdpjnpkdaaDoor.Ne Go.Proofs.YtfiknbdpjnpkdaaDoor.Me
theorem says_gives {w : World} (hg : w.cell? ⟨0, 0, none⟩ = some (.iface 107 (.agg #[.pointer (some ⟨1, 32, none⟩)]))) (e : Nat) {E : Value} {K : Int} (hE : errV e = E) (hK : (e : Int) = K) (W : World) (hb : Below w.heap.size w W) :
    Calls Tryd.prog 11 #[E, .int .i64 K] W fun r w' => r = .returned (.bool true) ∧ Below W.heap.size W w' := by
  subst hE
  subst hK
  exact says e hg W hb
theorem mints_same {A B : Option Addr} {ca cb : Nat} {l : List Int} {W : World} (h1 : IntsAt W W.heap.size A l) (h2 : IntsAt W W.heap.size B l) (hl : l.length ≤ 140737488355328) :
    Calls Tryd.prog 13 #[.slice A l.length ca, .slice B l.length cb] W fun e w' => e = .returned (.bool true) ∧ Below W.heap.size W w' :=
  (ints_any A B ca cb l l W h1 h2 hl hl).mono fun e w' ⟨he, n, hn⟩ => ⟨by rw [he.out, decide_eq_true rfl], by rw [hn]; exact below_drewN (Below.refl _ _) n⟩

set_option maxRecDepth 100000 in
set_option maxHeartbeats 4000000 in
theorem walk (v0 : Value) (d0 : Df.Aut) (A1 : Option Addr) (c1 : Nat) (z1 : List Int) (w : World) (h0 : Df.DfaAt w w.heap.size v0 d0) (v1 : IntsAt w w.heap.size A1 z1) (r1 : z1.length ≤ 17592186043904) (m1 : z1.length ≤ c1) (hg : w.cell? ⟨0, 0, none⟩ = some (.iface 107 (.agg #[.pointer (some ⟨1, 32, none⟩)]))) :
    Calls Tryd.prog 3 #[v0, .slice A1 z1.length c1] w fun e w' => e = .returned (.bool true) ∧ Below w.heap.size w w' := by
  have hr : z1.length ≤ 17592186044416 := by omega
  have hLs00 : Small d0.L := by
    obtain ⟨L, s, A, c, F, cf, _, h⟩ := h0
    rw [h.eL]; exact h.hL
  obtain ⟨L0, s0, A0, n0, c0, F0, m0, k0, rfl⟩ := h0.form
  have hN0 := h0.eqs.2.2.1
  obtain ⟨u0, hu0, hb0, VA0⟩ := var_new w h0
  have VA := Lib.hid VA0
  have B := Lib.hid hb0
  have W0 := Lib.hid hu0
  have HN0 := Lib.hid hN0
  have Z := Lib.hid (v1.on hb0)
  clear VA0 hb0 hu0 h0 hN0 v1
  clear HN0 m1
  have hL0 : d0.L = L0 := VA.out.at_.eqs.1
  have HD : Hid (∀ W v, DfaAt W W.heap.size v d0 → Calls Tryd.prog 7 #[v] W fun e w' => e = .returned (.int .i64 ((dchk d0 : Nat) : Int)) ∧ Below W.heap.size W w') := fun W v h => (rdfa_any v d0 W h).mono fun e w' ⟨h1, h2⟩ => ⟨h1.out, h2⟩
  have HW : Hid (∀ W A c, IntsAt W W.heap.size A z1 → Calls Tryd.prog 8 #[.int .i64 L0, .slice A z1.length c] W fun e w' => e = .returned (.int .i64 ((chk d0.L z1 : Nat) : Int)) ∧ Below W.heap.size W w') := fun W A c h => (refWord_any L0 A c z1 W (by rw [← hL0]; exact hLs00) h hr).mono fun e w' ⟨h1, h2⟩ => ⟨by rw [h1.out, hL0], by rw [← h2]; exact Below.refl _ _⟩
  have HS0 := Lib.hid (fun W (A : Option Addr) (ca : Nat) => mints_same (A := A) (B := none) (ca := ca) (cb := 0) (l := []) (W := W) (IntsAt.nil _ _ _) (IntsAt.nil _ _ _) (by decide))
  rcases mendO2_ways d0 z1 with ⟨e, ha, hm, hc⟩ | ⟨ha, hx, hm, hc⟩ | ⟨x, ha, hx, hl, hm, hc⟩ | ⟨x, ha, hx, hl, hm, hc⟩
  · obtain ⟨E, hE⟩ := errV_bad (k := e + 1) (by omega)
    have HC := Lib.hid (fun W v Z cz (h : DfaAt W W.heap.size v d0) (hZ : IntsAt W W.heap.size Z z1) => cost_gives (cz := cz) (C := 0) (E := errI E) h hZ hr hc rfl hE)
    have HM := Lib.hid (fun W v Z cz (h : DfaAt W W.heap.size v d0) (hZ : IntsAt W W.heap.size Z z1) => mend_gives (cz := cz) (C := 0) (E := errI E) (l := []) h hZ hr hm rfl hE (fun x hx => by simp at hx))
    have HE := Lib.hid (fun W (hb : Below w.heap.size w W) => says_gives hg (e + 1) (E := errI E) (K := ((e + 1 : Nat) : Int)) hE rfl W hb)
    have hk0 : (((e + 1 : Nat) : Int) == 0) = false := int_ne (by omega)
    by_cases g1 : dchk d0 = 0
    · have hch : chk d0.L z1 = e + 1 := by unfold aErr at ha; rwa [if_pos g1] at ha
      rw [g1] at HD
      rw [hch] at HW
      clear ha hm hc hE hL0 hLs00 hr r1 hg g1 hch
      generalize ((e + 1 : Nat) : Int) = K at *
      go_enter Tryd.func3, Tryd.ntmps3
      obtain ⟨p0, p1, p2, p3, p4⟩ := VA.out.box
      go_wp2_with fail
      rw [← W0.out]
      clear W0
      refine (HD.out _ _ VA.out.at_).mono ?_
      rintro e u1 ⟨rfl, hb⟩
      have Z := Lib.hid (Z.out.on hb)
      have VA := Lib.hid (VA.out.on hb)
      have B := Lib.hid (B.out.trans (hb.mono B.out.size))
      clear hb p0 p1 p2 p3 p4 HD
      obtain ⟨p0, p1, p2, p3, p4⟩ := VA.out.box
      go_wp2_with fail
      refine (HW.out _ _ _ Z.out).mono ?_
      rintro e u2 ⟨rfl, hb⟩
      have Z := Lib.hid (Z.out.on hb)
      have VA := Lib.hid (VA.out.on hb)
      have B := Lib.hid (B.out.trans (hb.mono B.out.size))
      clear hb p0 p1 p2 p3 p4 HW
      obtain ⟨p0, p1, p2, p3, p4⟩ := VA.out.box
      go_wp2_with fail
      refine (HC.out _ _ _ _ VA.out.at_ Z.out).mono ?_
      rintro e u3 ⟨rfl, hb⟩
      have Z := Lib.hid (Z.out.on hb)
      have VA := Lib.hid (VA.out.on hb)
      have B := Lib.hid (B.out.trans (hb.mono B.out.size))
      clear hb p0 p1 p2 p3 p4 HC
      go_wp2_with fail
      refine (HE.out _ B.out).mono ?_
      rintro e u4 ⟨rfl, hb⟩
      have Z := Lib.hid (Z.out.on hb)
      have VA := Lib.hid (VA.out.on hb)
      have B := Lib.hid (B.out.trans (hb.mono B.out.size))
      clear hb  
      obtain ⟨p0, p1, p2, p3, p4⟩ := VA.out.box
      go_wp2_with fail
      refine (HM.out _ _ _ _ VA.out.at_ Z.out).mono ?_
      rintro e u5 ⟨AI, cI, rfl, hI, hb⟩
      have Z := Lib.hid (Z.out.on hb)
      have VA := Lib.hid (VA.out.on hb)
      have B := Lib.hid (B.out.trans (hb.mono B.out.size))
      clear hb p0 p1 p2 p3 p4 HM
      clear hI
      go_wp2_with fail
      refine (HE.out _ B.out).mono ?_
      rintro e u6 ⟨rfl, hb⟩
      have Z := Lib.hid (Z.out.on hb)
      have VA := Lib.hid (VA.out.on hb)
      have B := Lib.hid (B.out.trans (hb.mono B.out.size))
      clear hb  
      go_wp2_with fail
      refine (HS0.out _ _ _).mono ?_
      rintro e u7 ⟨rfl, hb⟩
      have Z := Lib.hid (Z.out.on hb)
      have VA := Lib.hid (VA.out.on hb)
      have B := Lib.hid (B.out.trans (hb.mono B.out.size))
      clear hb  
      go_wp2
      go_ret
      exact ⟨rfl, B.out⟩
    · have hch : dchk d0 = e + 1 := by unfold aErr at ha; rwa [if_neg g1] at ha
      rw [hch] at HD
      clear HW
      clear ha hm hc hE hL0 hLs00 hr r1 hg g1 hch
      generalize ((e + 1 : Nat) : Int) = K at *
      go_enter Tryd.func3, Tryd.ntmps3
      obtain ⟨p0, p1, p2, p3, p4⟩ := VA.out.box
      go_wp2_with fail
      rw [← W0.out]
      clear W0
      refine (HD.out _ _ VA.out.at_).mono ?_
      rintro e u1 ⟨rfl, hb⟩
      have Z := Lib.hid (Z.out.on hb)
      have VA := Lib.hid (VA.out.on hb)
      have B := Lib.hid (B.out.trans (hb.mono B.out.size))
      clear hb p0 p1 p2 p3 p4 HD
      obtain ⟨p0, p1, p2, p3, p4⟩ := VA.out.box
      go_wp2_with fail
      refine (HC.out _ _ _ _ VA.out.at_ Z.out).mono ?_
      rintro e u2 ⟨rfl, hb⟩
      have Z := Lib.hid (Z.out.on hb)
      have VA := Lib.hid (VA.out.on hb)
      have B := Lib.hid (B.out.trans (hb.mono B.out.size))
      clear hb p0 p1 p2 p3 p4 HC
      go_wp2_with fail
      refine (HE.out _ B.out).mono ?_
      rintro e u3 ⟨rfl, hb⟩
      have Z := Lib.hid (Z.out.on hb)
      have VA := Lib.hid (VA.out.on hb)
      have B := Lib.hid (B.out.trans (hb.mono B.out.size))
      clear hb  
      obtain ⟨p0, p1, p2, p3, p4⟩ := VA.out.box
      go_wp2_with fail
      refine (HM.out _ _ _ _ VA.out.at_ Z.out).mono ?_
      rintro e u4 ⟨AI, cI, rfl, hI, hb⟩
      have Z := Lib.hid (Z.out.on hb)
      have VA := Lib.hid (VA.out.on hb)
      have B := Lib.hid (B.out.trans (hb.mono B.out.size))
      clear hb p0 p1 p2 p3 p4 HM
      clear hI
      go_wp2_with fail
      refine (HE.out _ B.out).mono ?_
      rintro e u5 ⟨rfl, hb⟩
      have Z := Lib.hid (Z.out.on hb)
      have VA := Lib.hid (VA.out.on hb)
      have B := Lib.hid (B.out.trans (hb.mono B.out.size))
      clear hb  
      go_wp2_with fail
      refine (HS0.out _ _ _).mono ?_
      rintro e u6 ⟨rfl, hb⟩
      have Z := Lib.hid (Z.out.on hb)
      have VA := Lib.hid (VA.out.on hb)
      have B := Lib.hid (B.out.trans (hb.mono B.out.size))
      clear hb  
      go_wp2
      go_ret
      exact ⟨rfl, B.out⟩
  · obtain ⟨g1, g2⟩ := aErr_good ha
    have gd := dchk_iff.1 g1
    have hfz1 := chk_iff.1 g2
    have hX := fun W v cz (h : DfaAt W W.heap.size v d0) (A : Option Addr) (hZ : IntsAt W W.heap.size A z1) => rmend_any v d0 A cz z1 W h gd hZ (fine_word hfz1) hfz1.2.1
    rw [g1] at HD
    rw [g2] at HW
    have HX : Hid (∀ W v A cz, DfaAt W W.heap.size v d0 → IntsAt W W.heap.size A z1 → Calls Tryd.prog 9 #[v, .slice A z1.length cz] W fun e w' => e = .returned (.tuple #[.slice none 0 0, .int .i64 0, .int .i64 5]) ∧ Below W.heap.size W w') := fun W v A cz h hZ => (hX W v cz h A hZ).mono fun e w' he => by
      rcases he.out with ⟨x, u, h1, _⟩ | ⟨_, h2, h3⟩
      · rw [hx] at h1; cases h1
      · exact ⟨h2, h3⟩
    have HC := Lib.hid (fun W v Z cz (h : DfaAt W W.heap.size v d0) (hZ : IntsAt W W.heap.size Z z1) => cost_gives (cz := cz) (C := 0) (E := errI 5) h hZ hr hc rfl rfl)
    have HM := Lib.hid (fun W v Z cz (h : DfaAt W W.heap.size v d0) (hZ : IntsAt W W.heap.size Z z1) => mend_gives (cz := cz) (C := 0) (E := errI 5) (l := []) h hZ hr hm rfl rfl (fun x hx => by simp at hx))
    have HE := Lib.hid (fun W (hb : Below w.heap.size w W) => says_gives hg 5 (E := errI 5) (K := 5) rfl rfl W hb)
    clear ha hx hm hc hX g1 g2 gd hfz1 hL0 hLs00 hr r1 hg
    go_enter Tryd.func3, Tryd.ntmps3
    obtain ⟨p0, p1, p2, p3, p4⟩ := VA.out.box
    go_wp2_with fail
    rw [← W0.out]
    clear W0
    refine (HD.out _ _ VA.out.at_).mono ?_
    rintro e u1 ⟨rfl, hb⟩
    have Z := Lib.hid (Z.out.on hb)
    have VA := Lib.hid (VA.out.on hb)
    have B := Lib.hid (B.out.trans (hb.mono B.out.size))
    clear hb p0 p1 p2 p3 p4 HD
    obtain ⟨p0, p1, p2, p3, p4⟩ := VA.out.box
    go_wp2_with fail
    refine (HW.out _ _ _ Z.out).mono ?_
    rintro e u2 ⟨rfl, hb⟩
    have Z := Lib.hid (Z.out.on hb)
    have VA := Lib.hid (VA.out.on hb)
    have B := Lib.hid (B.out.trans (hb.mono B.out.size))
    clear hb p0 p1 p2 p3 p4 HW
    obtain ⟨p0, p1, p2, p3, p4⟩ := VA.out.box
    go_wp2_with fail
    refine (HX.out _ _ _ _ VA.out.at_ Z.out).mono ?_
    rintro e u3 ⟨rfl, hb⟩
    have Z := Lib.hid (Z.out.on hb)
    have VA := Lib.hid (VA.out.on hb)
    have B := Lib.hid (B.out.trans (hb.mono B.out.size))
    clear hb p0 p1 p2 p3 p4 HX
    obtain ⟨p0, p1, p2, p3, p4⟩ := VA.out.box
    go_wp2_with fail
    refine (HC.out _ _ _ _ VA.out.at_ Z.out).mono ?_
    rintro e u4 ⟨rfl, hb⟩
    have Z := Lib.hid (Z.out.on hb)
    have VA := Lib.hid (VA.out.on hb)
    have B := Lib.hid (B.out.trans (hb.mono B.out.size))
    clear hb p0 p1 p2 p3 p4 HC
    go_wp2_with fail
    refine (HE.out _ B.out).mono ?_
    rintro e u5 ⟨rfl, hb⟩
    have Z := Lib.hid (Z.out.on hb)
    have VA := Lib.hid (VA.out.on hb)
    have B := Lib.hid (B.out.trans (hb.mono B.out.size))
    clear hb  
    obtain ⟨p0, p1, p2, p3, p4⟩ := VA.out.box
    go_wp2_with fail
    refine (HM.out _ _ _ _ VA.out.at_ Z.out).mono ?_
    rintro e u6 ⟨AI, cI, rfl, hI, hb⟩
    have Z := Lib.hid (Z.out.on hb)
    have VA := Lib.hid (VA.out.on hb)
    have B := Lib.hid (B.out.trans (hb.mono B.out.size))
    clear hb p0 p1 p2 p3 p4 HM
    clear hI
    go_wp2_with fail
    refine (HE.out _ B.out).mono ?_
    rintro e u7 ⟨rfl, hb⟩
    have Z := Lib.hid (Z.out.on hb)
    have VA := Lib.hid (VA.out.on hb)
    have B := Lib.hid (B.out.trans (hb.mono B.out.size))
    clear hb  
    go_wp2_with fail
    refine (HS0.out _ _ _).mono ?_
    rintro e u8 ⟨rfl, hb⟩
    have Z := Lib.hid (Z.out.on hb)
    have VA := Lib.hid (VA.out.on hb)
    have B := Lib.hid (B.out.trans (hb.mono B.out.size))
    clear hb  
    go_wp2
    go_ret
    exact ⟨rfl, B.out⟩
  · obtain ⟨g1, g2⟩ := aErr_good ha
    have gd := dchk_iff.1 g1
    have hfz1 := chk_iff.1 g2
    have hX := fun W v cz (h : DfaAt W W.heap.size v d0) (A : Option Addr) (hZ : IntsAt W W.heap.size A z1) => rmend_any v d0 A cz z1 W h gd hZ (fine_word hfz1) hfz1.2.1
    rw [g1] at HD
    rw [g2] at HW
    obtain ⟨c, l⟩ := x
    simp only at hl hm hc
    have hsm := word_small6 gd.l6 (mend_some hx).1
    simp only at hsm
    have HX : Hid (∀ W v A cz, DfaAt W W.heap.size v d0 → IntsAt W W.heap.size A z1 → Calls Tryd.prog 9 #[v, .slice A z1.length cz] W fun e w' => ∃ U cu, e = .returned (.tuple #[.slice U l.length cu, .int .i64 (c : Int), .int .i64 0]) ∧ Hid (IntsAt w' w'.heap.size U l) ∧ Below W.heap.size W w') := fun W v A cz h hZ => (hX W v cz h A hZ).mono fun e w' he => by
      rcases he.out with ⟨x, u, h1, h2, h3⟩ | ⟨h1, _⟩
      · rw [hx] at h1
        obtain rfl := Option.some.inj h1
        obtain ⟨U, cu, rfl, _, _, hI⟩ := own_ints_at h3 (List.mem_append_right _ List.mem_cons_self) hsm
        exact ⟨U, cu, h2, hI, h3.below⟩
      · rw [hx] at h1; cases h1
    have HC := Lib.hid (fun W v Z cz (h : DfaAt W W.heap.size v d0) (hZ : IntsAt W W.heap.size Z z1) => cost_gives (cz := cz) (C := (c : Int)) (E := .nilIface) h hZ hr hc rfl rfl)
    have HM := Lib.hid (fun W v Z cz (h : DfaAt W W.heap.size v d0) (hZ : IntsAt W W.heap.size Z z1) => mend_gives (cz := cz) (C := 0) (E := errI 4) (l := []) h hZ hr hm rfl rfl (fun x hx => by simp at hx))
    have HE := Lib.hid (fun W (hb : Below w.heap.size w W) => says_gives hg 0 (E := .nilIface) (K := 0) rfl rfl W hb)
    have HE4 := Lib.hid (fun W (hb : Below w.heap.size w W) => says_gives hg 4 (E := errI 4) (K := 4) rfl rfl W hb)
    obtain ⟨n, hn⟩ : ∃ n, l.length = n := ⟨_, rfl⟩
    rw [hn] at HX hl
    have e1 : ((n : Nat) : Int) > 80 := by omega
    clear ha hx hm hc hX g1 g2 gd hfz1 hL0 hLs00 hr r1 hg hsm hn
    go_enter Tryd.func3, Tryd.ntmps3
    obtain ⟨p0, p1, p2, p3, p4⟩ := VA.out.box
    go_wp2_with fail
    rw [← W0.out]
    clear W0
    refine (HD.out _ _ VA.out.at_).mono ?_
    rintro e u1 ⟨rfl, hb⟩
    have Z := Lib.hid (Z.out.on hb)
    have VA := Lib.hid (VA.out.on hb)
    have B := Lib.hid (B.out.trans (hb.mono B.out.size))
    clear hb p0 p1 p2 p3 p4 HD
    obtain ⟨p0, p1, p2, p3, p4⟩ := VA.out.box
    go_wp2_with fail
    refine (HW.out _ _ _ Z.out).mono ?_
    rintro e u2 ⟨rfl, hb⟩
    have Z := Lib.hid (Z.out.on hb)
    have VA := Lib.hid (VA.out.on hb)
    have B := Lib.hid (B.out.trans (hb.mono B.out.size))
    clear hb p0 p1 p2 p3 p4 HW
    obtain ⟨p0, p1, p2, p3, p4⟩ := VA.out.box
    go_wp2_with fail
    refine (HX.out _ _ _ _ VA.out.at_ Z.out).mono ?_
    rintro e u3 ⟨U, cu, rfl, hU, hb⟩
    have Z := Lib.hid (Z.out.on hb)
    have VA := Lib.hid (VA.out.on hb)
    have B := Lib.hid (B.out.trans (hb.mono B.out.size))
    clear hb p0 p1 p2 p3 p4 HX
    have U1 := Lib.hid hU.out
    clear hU
    obtain ⟨p0, p1, p2, p3, p4⟩ := VA.out.box
    go_wp2_with fail
    refine (HC.out _ _ _ _ VA.out.at_ Z.out).mono ?_
    rintro e u4 ⟨rfl, hb⟩
    have Z := Lib.hid (Z.out.on hb)
    have U1 := Lib.hid (U1.out.on hb)
    have VA := Lib.hid (VA.out.on hb)
    have B := Lib.hid (B.out.trans (hb.mono B.out.size))
    clear hb p0 p1 p2 p3 p4 HC
    go_wp2_with fail
    refine (HE.out _ B.out).mono ?_
    rintro e u5 ⟨rfl, hb⟩
    have Z := Lib.hid (Z.out.on hb)
    have U1 := Lib.hid (U1.out.on hb)
    have VA := Lib.hid (VA.out.on hb)
    have B := Lib.hid (B.out.trans (hb.mono B.out.size))
    clear hb  
    obtain ⟨p0, p1, p2, p3, p4⟩ := VA.out.box
    go_wp2_with fail
    refine (HM.out _ _ _ _ VA.out.at_ Z.out).mono ?_
    rintro e u6 ⟨AI, cI, rfl, hI, hb⟩
    have Z := Lib.hid (Z.out.on hb)
    have U1 := Lib.hid (U1.out.on hb)
    have VA := Lib.hid (VA.out.on hb)
    have B := Lib.hid (B.out.trans (hb.mono B.out.size))
    clear hb p0 p1 p2 p3 p4 HM
    clear hI
    go_wp2_with fail
    refine (HE4.out _ B.out).mono ?_
    rintro e u7 ⟨rfl, hb⟩
    have Z := Lib.hid (Z.out.on hb)
    have U1 := Lib.hid (U1.out.on hb)
    have VA := Lib.hid (VA.out.on hb)
    have B := Lib.hid (B.out.trans (hb.mono B.out.size))
    clear hb  
    go_wp2_with fail
    refine (HS0.out _ _ _).mono ?_
    rintro e u8 ⟨rfl, hb⟩
    have Z := Lib.hid (Z.out.on hb)
    have U1 := Lib.hid (U1.out.on hb)
    have VA := Lib.hid (VA.out.on hb)
    have B := Lib.hid (B.out.trans (hb.mono B.out.size))
    clear hb  
    go_wp2
    go_ret
    exact ⟨rfl, B.out⟩
  · obtain ⟨g1, g2⟩ := aErr_good ha
    have gd := dchk_iff.1 g1
    have hfz1 := chk_iff.1 g2
    have hX := fun W v cz (h : DfaAt W W.heap.size v d0) (A : Option Addr) (hZ : IntsAt W W.heap.size A z1) => rmend_any v d0 A cz z1 W h gd hZ (fine_word hfz1) hfz1.2.1
    rw [g1] at HD
    rw [g2] at HW
    obtain ⟨c, l⟩ := x
    simp only at hl hm hc
    have hsm := word_small6 gd.l6 (mend_some hx).1
    simp only at hsm
    have HX : Hid (∀ W v A cz, DfaAt W W.heap.size v d0 → IntsAt W W.heap.size A z1 → Calls Tryd.prog 9 #[v, .slice A z1.length cz] W fun e w' => ∃ U cu, e = .returned (.tuple #[.slice U l.length cu, .int .i64 (c : Int), .int .i64 0]) ∧ Hid (IntsAt w' w'.heap.size U l) ∧ Below W.heap.size W w') := fun W v A cz h hZ => (hX W v cz h A hZ).mono fun e w' he => by
      rcases he.out with ⟨x, u, h1, h2, h3⟩ | ⟨h1, _⟩
      · rw [hx] at h1
        obtain rfl := Option.some.inj h1
        obtain ⟨U, cu, rfl, _, _, hI⟩ := own_ints_at h3 (List.mem_append_right _ List.mem_cons_self) hsm
        exact ⟨U, cu, h2, hI, h3.below⟩
      · rw [hx] at h1; cases h1
    have HC := Lib.hid (fun W v Z cz (h : DfaAt W W.heap.size v d0) (hZ : IntsAt W W.heap.size Z z1) => cost_gives (cz := cz) (C := (c : Int)) (E := .nilIface) h hZ hr hc rfl rfl)
    have HM := Lib.hid (fun W v Z cz (h : DfaAt W W.heap.size v d0) (hZ : IntsAt W W.heap.size Z z1) => mend_gives (cz := cz) (C := (c : Int)) (E := .nilIface) (l := l) h hZ hr hm rfl rfl hsm)
    have HE := Lib.hid (fun W (hb : Below w.heap.size w W) => says_gives hg 0 (E := .nilIface) (K := 0) rfl rfl W hb)
    have HSm := Lib.hid (fun W A B ca cb (h1 : IntsAt W W.heap.size A l) (h2 : IntsAt W W.heap.size B l) => mints_same (ca := ca) (cb := cb) h1 h2 (by omega))
    obtain ⟨n, hn⟩ : ∃ n, l.length = n := ⟨_, rfl⟩
    rw [hn] at HX hl HM HSm
    have e1 : ¬ ((n : Nat) : Int) > 80 := by omega
    clear ha hx hm hc hX g1 g2 gd hfz1 hL0 hLs00 hr r1 hg hsm hn
    go_enter Tryd.func3, Tryd.ntmps3
    obtain ⟨p0, p1, p2, p3, p4⟩ := VA.out.box
    go_wp2_with fail
    rw [← W0.out]
    clear W0
    refine (HD.out _ _ VA.out.at_).mono ?_
    rintro e u1 ⟨rfl, hb⟩
    have Z := Lib.hid (Z.out.on hb)
    have VA := Lib.hid (VA.out.on hb)
    have B := Lib.hid (B.out.trans (hb.mono B.out.size))
    clear hb p0 p1 p2 p3 p4 HD
    obtain ⟨p0, p1, p2, p3, p4⟩ := VA.out.box
    go_wp2_with fail
    refine (HW.out _ _ _ Z.out).mono ?_
    rintro e u2 ⟨rfl, hb⟩
    have Z := Lib.hid (Z.out.on hb)
    have VA := Lib.hid (VA.out.on hb)
    have B := Lib.hid (B.out.trans (hb.mono B.out.size))
    clear hb p0 p1 p2 p3 p4 HW
    obtain ⟨p0, p1, p2, p3, p4⟩ := VA.out.box
    go_wp2_with fail
    refine (HX.out _ _ _ _ VA.out.at_ Z.out).mono ?_
    rintro e u3 ⟨U, cu, rfl, hU, hb⟩
    have Z := Lib.hid (Z.out.on hb)
    have VA := Lib.hid (VA.out.on hb)
    have B := Lib.hid (B.out.trans (hb.mono B.out.size))
    clear hb p0 p1 p2 p3 p4 HX
    have U1 := Lib.hid hU.out
    clear hU
    obtain ⟨p0, p1, p2, p3, p4⟩ := VA.out.box
    go_wp2_with fail
    refine (HC.out _ _ _ _ VA.out.at_ Z.out).mono ?_
    rintro e u4 ⟨rfl, hb⟩
    have Z := Lib.hid (Z.out.on hb)
    have U1 := Lib.hid (U1.out.on hb)
    have VA := Lib.hid (VA.out.on hb)
    have B := Lib.hid (B.out.trans (hb.mono B.out.size))
    clear hb p0 p1 p2 p3 p4 HC
    go_wp2_with fail
    refine (HE.out _ B.out).mono ?_
    rintro e u5 ⟨rfl, hb⟩
    have Z := Lib.hid (Z.out.on hb)
    have U1 := Lib.hid (U1.out.on hb)
    have VA := Lib.hid (VA.out.on hb)
    have B := Lib.hid (B.out.trans (hb.mono B.out.size))
    clear hb  
    obtain ⟨p0, p1, p2, p3, p4⟩ := VA.out.box
    go_wp2_with fail
    refine (HM.out _ _ _ _ VA.out.at_ Z.out).mono ?_
    rintro e u6 ⟨AI, cI, rfl, hI, hb⟩
    have Z := Lib.hid (Z.out.on hb)
    have U1 := Lib.hid (U1.out.on hb)
    have VA := Lib.hid (VA.out.on hb)
    have B := Lib.hid (B.out.trans (hb.mono B.out.size))
    clear hb p0 p1 p2 p3 p4 HM
    have I := Lib.hid hI.out
    clear hI
    go_wp2_with fail
    refine (HE.out _ B.out).mono ?_
    rintro e u7 ⟨rfl, hb⟩
    have Z := Lib.hid (Z.out.on hb)
    have U1 := Lib.hid (U1.out.on hb)
    have I := Lib.hid (I.out.on hb)
    have VA := Lib.hid (VA.out.on hb)
    have B := Lib.hid (B.out.trans (hb.mono B.out.size))
    clear hb  
    go_wp2_with fail
    refine (HSm.out _ _ _ _ _ I.out U1.out).mono ?_
    rintro e u8 ⟨rfl, hb⟩
    have Z := Lib.hid (Z.out.on hb)
    have U1 := Lib.hid (U1.out.on hb)
    have I := Lib.hid (I.out.on hb)
    have VA := Lib.hid (VA.out.on hb)
    have B := Lib.hid (B.out.trans (hb.mono B.out.size))
    clear hb  
    go_wp2
    go_ret
    exact ⟨rfl, B.out⟩


set_option maxRecDepth 100000 in
theorem lifted (os : Os) (started : os.Started) (H : Type) (enc : TypeId × Value → H) :
    ReturnsInHanded {} Tryd.checked os 3 .any (fun w args => (Rows.mendSaysSpec.pre enc Tryd.prog Tryd.f3 Rows.mendSaysRow.domain false w args ∧ laidMetH Tryd.prog [("errors.errorType", Rows.laid_errors_errorType)] w) ∧ sizedMet enc Tryd.prog Tryd.f3 (OpenSpec.ofChange Rows.mendSaysSpec) false w args) (Rows.mendSaysSpec.post enc Tryd.prog Tryd.f3 false true false false) := by
  refine returnsInHanded_of_change_and (C := Tryd.checked) (X := fun w _ => laidMetH Tryd.prog [("errors.errorType", Rows.laid_errors_errorType)] w) (fun _ _ _ hh h => h.of_heap hh) own started (by kernel_rfl) Tryd.func3
    (ChangeSpec.witness_at (enc := enc) (C := Tryd.checked) (os := os) (X := fun w _ => laidMetH Tryd.prog [("errors.errorType", Rows.laid_errors_errorType)] w) false (laidWorld os) #[.agg #[.int .i64 0, .int .i64 0, .slice none 0 0, .slice none 0 0], .slice none 0 0] 8 rfl (by kernel_rfl) (by kernel_rfl) (by kernel_rfl) (by kernel_rfl) (by kernel_rfl) (laidWorld_met os _)) ?_
  intro W base args ds gs before hval0 hW hcnd hsz0 hL _
  have hval : ∀ (j : Nat) t v, Tryd.f3.params[j]? = some t → args[j]? = some v → Value.okWide Tryd.prog W .any base t v := hval0
  have hsz : (DataW.weightsEach Tryd.prog (Tryd.f3.params.toList ++ Rows.mendSaysSpec.plain.varTypes Tryd.prog) (ds ++ gs)).all (· ≤ reachBytes) = true := hsz0
  have hW' := hW
  obtain ⟨p, q, hA0, hV0, rfl, hfz, hnd⟩ := hW
  have hV : DataW.TrodVars enc Tryd.prog W (fun _ => true) [] gs q := hV0
  have hA : DataW.TrodAll enc Tryd.prog W 0 (fun _ => true) true Tryd.f3.params.toList args.toList ds p := hA0
  rw [Tryd.params3] at hA hval hsz
  obtain ⟨v0, vs0, d0, ds0, p0, q0, hargs, rfl, rfl, h0, rr0⟩ := trodAll_cons hA
  obtain ⟨v1, vs1, d1, ds1, p1, q1, rfl, rfl, rfl, h1, rr1⟩ := trodAll_cons rr0
  obtain ⟨rfl, rfl, rfl⟩ := trodAll_nil rr1
  obtain rfl : args = #[v0, v1] := by cases args; simp_all
  obtain ⟨rfl, rfl⟩ := trodVars_none hV
  have k0 := h0
  have lt0 : ∀ x ∈ p0, x.block < W.heap.size := by obtain ⟨m, hm⟩ := k0; exact DataW.trod_lt m _ _ _ hm
  have k1 := h1
  have lt1 : ∀ x ∈ p1, x.block < W.heap.size := by obtain ⟨m, hm⟩ := k1; exact DataW.trod_lt m _ _ _ hm
  obtain ⟨D0, x0⟩ : ∃ d : Df.Aut, Df.DfaAt W W.heap.size v0 d := Df.dfa_open (hval 0 25 v0 rfl rfl) h0
  obtain ⟨A1, len1, c1, rfl⟩ := okWide_slice Tryd.underlying26 (hval 1 26 v1 rfl rfl)
  obtain ⟨z1, rfl, x1, r1, m1⟩ : ∃ zs : List Int, len1 = zs.length ∧ IntsAt W W.heap.size A1 zs ∧ zs.length ≤ 17592186043904 ∧ zs.length ≤ c1 := by
    obtain ⟨fuel, hf⟩ := h1
    rcases open_ints Tryd.underlying26 Tryd.underlying3 (by kernel_rfl) hf with ⟨hcs, _⟩ | ⟨x, l, c, zs, hcs, _, hl, hm, hz, hx, hcell, hwz⟩
    · simp [Value.cells] at hcs
      obtain ⟨rfl, rfl, rfl⟩ := hcs
      exact ⟨[], rfl, IntsAt.nil _ _ _, by simp, by simp⟩
    · simp [Value.cells] at hcs
      obtain ⟨rfl, rfl, rfl⟩ := hcs
      have hd := congrArg Prod.fst hx
      simp only at hd
      have := sized_slice hsz (j := 1) (t := 26) (e := 3) rfl (by rw [hd]; rfl) Tryd.underlying26
      rw [(show Tryd.prog.bytesOf 3 = 8 by kernel_rfl)] at this
      simp only [reachBytes, lits, List.length_map, List.length_take, List.length_drop] at this
      have hz' : zs.length = c1 := by simpa using hz
      exact ⟨zs.take len1, by rw [List.length_take]; omega, intsAt_of_open hcell hwz len1, by rw [List.length_take]; omega, by rw [List.length_take]; omega⟩
  clear hA0 hval0
  refine (walk v0 D0 A1 c1 z1 W x0 x1 r1 m1 (handle_of_laid hL)).mono fun e W' ⟨he, bel⟩ => ?_
  subst he
  exact ⟨_, rfl, _, _, _, [], _, [], hW', trodAll_mk1 (shut_bool Tryd.underlying4 _), (trodAll_cons_mk (Below.trod laidOut (by kernel_rfl) (of_decide_eq_true (by kernel_rfl)) k0 bel lt0) (trodAll_cons_mk (Below.trod laidOut (by kernel_rfl) (of_decide_eq_true (by kernel_rfl)) k1 bel lt1) trodAll_mk0)), rfl, bel.frame _, fun h => by cases h⟩

theorem over : Rows.mendSaysRow.holds Tryd.pinned (OpenSpec.ofChange Rows.mendSaysSpec) :=
  OpenClaim.holds_of_wide 3 Tryd.f3 rfl rfl rfl rfl rfl rfl rfl ⟨rfl, rfl, rfl, rfl, rfl⟩ rfl rfl rfl rfl rfl (by kernel_rfl) Tryd.func3 (by kernel_rfl)
    (of_decide_eq_true (by kernel_rfl)) (by unfold Func.isWrapper; rw [if_neg (of_decide_eq_false (by kernel_rfl))]; exact ⟨rfl, rfl⟩)
    (fun os started H enc _ => lifted os started H enc)
theorem proved : Rows.MendSaysCardSaid :=
  Claim7.holds_tied_plain_at .later [] [.handle] true (true, "40a282adc493d4c8acbf3f0bcad454e62a5c808698ec6aa269d6144ae7a916ac") true
    over (fun _ h => by cases h) (by kernel_rfl) (fun _ h => by cases h) mendSays_row_tie rfl ⟨rfl, rfl⟩ (by kernel_rfl) rfl
    (fun f fn hf hfn => by
      obtain rfl : f = 3 := Option.some.inj ((show Tryd.prog.funcNamed "stileward/stilewardlaw4.MendSays" = some 3 by kernel_rfl).symm.trans hf) |>.symm
      obtain rfl : fn = Tryd.f3 := (Option.some.inj (Tryd.func3.symm.trans hfn)).symm
      exact ⟨by kernel_rfl, fun j t ht => by
        rw [Tryd.params3] at ht
        rcases j with _ | _ | j
        · obtain rfl : 25 = t := by simpa using ht
          exact (show Tryd.prog.wantsStandIn 25 = false by kernel_rfl)
        · obtain rfl : 26 = t := by simpa using ht
          exact (show Tryd.prog.wantsStandIn 26 = false by kernel_rfl)
        · simp at ht⟩)
    (by kernel_rfl)
#print axioms proved
end Go.Proofs.YtfiknbdpjnpkdaaDoor.mendSays

/-
  The statement SuperSaysCardSaid of this seat, proved: for every input the law returns true and its arguments read behind the call as before. Conditions: none but the row's own (each argument within the reach; the listed variable as the program lays it, tied by the given tie).
-/
import Derived.Test.YtbciefeipiphiaaDoorRows
import Derived.Test.YtbciefeipiphiaaDoorCards
import Derived.Test.YtbciefeipiphiaaDoorTie
import Derived.SevenTiedAt
import Derived.LaidLaws
import Derived.LaidHandle
import Derived.LaidMore
import Derived.Lay
import Derived.MakeChecks
import Derived.Stop.Joined
import Derived.JoinedOf
import Derived.RowKit
import Derived.RowKitTokens
import Derived.ChangeSame
import Derived.ChangeVars
import Derived.Test.YtbciefeipiphiaaDoorWords
import Derived.WalkKit
import Derived.ProofKit
import Derived.OpenShut
import Derived.ShutString
import Derived.ChangeOld
import Derived.Below
import Derived.SizedLaws
import Derived.Lib.Hide
import Derived.Test.YtbciefeipiphiaaDoorSuperF
import Derived.Test.YtbciefeipiphiaaDoorRefSu
import Derived.Test.YtbciefeipiphiaaDoorRefPn
import Derived.Test.YtbciefeipiphiaaDoorRefKp
import Derived.Test.YtbciefeipiphiaaDoorRefPair
import Derived.Test.YtbciefeipiphiaaDoorSays
import Derived.Test.YtbciefeipiphiaaDoorWordL
namespace Go.Proofs.YtbciefeipiphiaaDoor.superSays
open Go.ChangeShapes Go.WideShapes Go.ChangeAt Go.RowKit Go.IntWalk Go.Proofs.YtbciefeipiphiaaDoor.Wd
open Go.ChangeMaps (open_string shut_string)
set_option linter.unusedVariables false

theorem own : ownKnob Tryd.prog.godebug = none := by kernel_rfl
theorem laidOut : laidOutB Tryd.prog = true := by kernel_rfl
theorem et : Tryd.prog.globalNamed "errors.errorType" = some 0 := by kernel_rfl
theorem rt : (Tryd.prog.cutTypes.find? (·.1 == "internal/reflectlite.rtype")).map (·.2) = some 132 := by kernel_rfl
theorem oneRow : ((List.range 177).filter fun t => Tryd.prog.rowNamed t [101, 114, 114, 111, 114]) = [33] := by kernel_rfl
theorem size : Tryd.prog.types.size = 177 := by kernel_rfl
/-- What the condition gives a walk: the variable's one cell. -/
theorem handle_of_laid {w : World} (h : laidMetH Tryd.prog [("errors.errorType", Rows.laid_errors_errorType)] w) : w.cell? ⟨0, 0, none⟩ = some (.iface 132 (.agg #[.pointer (some ⟨1, 33, none⟩)])) := by
  have h' : laidMet Tryd.prog [] w ∧ handlesMet Tryd.prog [("errors.errorType", Rows.laid_errors_errorType)] w := h
  obtain ⟨name, u, ty, e1, e2, e3, e4, e5⟩ := h'.2 _ (List.mem_singleton.2 rfl)
  have en : name = [101, 114, 114, 111, 114] := (Option.some.inj e1).symm
  subst en
  obtain rfl := Option.some.inj (rt.symm.trans e2)
  have hm : ty ∈ (List.range 177).filter fun t => Tryd.prog.rowNamed t [101, 114, 114, 111, 114] := List.mem_filter.2 ⟨List.mem_range.2 (by rw [← size]; exact e3), e4⟩
  rw [oneRow] at hm
  obtain rfl := List.mem_singleton.1 hm
  have hh : typeHandle Tryd.prog 33 = .pointer (some ⟨1, 33, none⟩) := by kernel_rfl
  rw [hh] at e5
  simpa using World.var?_cell et e5 0
/-- A world that meets the condition. -/
noncomputable def laidWorld (os : Os) : World :=
  let w0 := World.holding Tryd.prog os ⟨#[], #[], []⟩
  { w0 with heap := w0.heap.modify 0 fun
      | .cells _ t frozen => .cells #[.iface 132 (.agg #[.pointer (some ⟨1, 33, none⟩)])] t frozen
      | o => o }
theorem laidWorld_met (os : Os) (args : Array Value) : laidMetH Tryd.prog [("errors.errorType", Rows.laid_errors_errorType)] ((laidWorld os).forCall (fun _ _ => 0) ⟨#[], args, []⟩).memory :=
  laidMetH_of_parts (laidMet_nil _ _) (by kernel_rfl)
open Go.Proofs.YtbciefeipiphiaaDoor.Er Go.Proofs.YtbciefeipiphiaaDoor.Wo Go.Proofs.YtbciefeipiphiaaDoor.Df Go.Proofs.YtbciefeipiphiaaDoor.Rc Go.Proofs.YtbciefeipiphiaaDoor.Sm Go.Proofs.YtbciefeipiphiaaDoor.Mp Go.Proofs.YtbciefeipiphiaaDoor.Sa Go.Proofs.YtbciefeipiphiaaDoor.Su
theorem says_gives {w : World} (hg : w.cell? ⟨0, 0, none⟩ = some (.iface 132 (.agg #[.pointer (some ⟨1, 33, none⟩)]))) (e : Nat) {E : Value} {K : Int} (hE : errV e = E) (hK : (e : Int) = K) (W : World) (hb : Below w.heap.size w W) :
    Calls Tryd.prog 10 #[E, .int .i64 K] W fun r w' => r = .returned (.bool true) ∧ Below W.heap.size W w' := by
  subst hE
  subst hK
  exact says e hg W hb
theorem lead_len {P D : Aut} (g : Good2 P D) {free : Int} {w : List Int} (h : keptW P D free = some w) : w.length ≤ P.next.length * D.next.length := by
  rcases lk_cases P D free P.s.toNat D.s.toNat with e | ⟨k, e⟩
  · rw [keptW_no g e] at h; cases h
  · have h1 := lk_lt g g.ga.s_lt g.gb.s_lt e
    rw [keptW_lk g e] at h
    obtain rfl := Option.some.inj h
    rw [(pickB_is g g.ga.s_lt g.gb.s_lt ((lk_eq g g.ga.s_lt g.gb.s_lt).1 e).yes).1]
    exact h1
theorem ints_two {W : World} {A B : Option Addr} {c d : Nat} {l : List Int} (hA : IntsAt W W.heap.size A l) (hB : IntsAt W W.heap.size B l) (hl : l.length ≤ 140737488355328) : Calls Tryd.prog 11 #[.slice A l.length c, .slice B l.length d] W fun e w' => e = .returned (.bool true) ∧ Below W.heap.size W w' :=
  (ints_yes (n := 0) (v := l) (z := l) rfl hA hB hl).mono fun e w' ⟨h1, m, h2⟩ => ⟨h1, by rw [h2]; exact below_drewN (Below.refl _ _) m⟩
theorem kind_both : kindF 0 = bothF := by unfold kindF bothF; rw [if_pos rfl]
theorem supIs_I {P S : Aut} {free : Int} {r : Aut} {E : Nat} (hp : plantE P S free = 0) (h : SupIs P S free r E) : SupI P S free r E := by
  obtain ⟨g, _⟩ := plantE_ok hp
  rcases hf : found (S2 P S) (start2 P S) with _ | l
  · have e : prodOut (kindF 0) P S = (zeroA, 4) := prodOut_full (chkD2_iff.2 g) hf
    rcases h with ⟨a1, a2, a3⟩ | ⟨a1, _⟩ | ⟨a1, _⟩
    · exact .inr (.inl ⟨hp, hf, by rw [a2, e], a3⟩)
    · rw [e] at a1; cases a1
    · rw [e] at a1; cases a1
  · have e : (prodOut (kindF 0) P S).2 = 0 := by rw [prodOut_some (chkD2_iff.2 g) hf]
    rcases h with ⟨a1, _⟩ | ⟨_, a2, a3, a4⟩ | ⟨_, a2, a3, a4⟩
    · exact absurd e a1
    · exact .inr (.inr (.inl ⟨hp, ⟨l, hf⟩, a2, a3, a4⟩))
    · exact .inr (.inr (.inr ⟨hp, ⟨l, hf⟩, a2, a3, a4⟩))
/-- The document's, as the law meets them. -/
theorem rplant_gives {W : World} {v z : Value} {P D : Aut} {free : Int} (h : DfaAt W W.heap.size v P) (h2 : DfaAt W W.heap.size z D) {N : Int} (hN : ((plantE P D free : Nat) : Int) = N) :
    Calls Tryd.prog 6 #[v, z, .int .i64 free] W fun e w' => e = .returned (.int .i64 N) ∧ Below W.heap.size W w' :=
  (rplant_any v z P D free W h h2).mono fun e w' ⟨h1, h2⟩ => ⟨by rw [h1.out, hN], h2⟩
theorem rkept_gives {W : World} {v z : Value} {P D : Aut} {free : Int} (h : DfaAt W W.heap.size v P) (h2 : DfaAt W W.heap.size z D) (hp : plantE P D free = 0) {k : Bool} {l : List Int} {n : Nat} (hk : keptO P D free = (k, l, n)) :
    Calls Tryd.prog 7 #[v, z, .int .i64 free] W fun e w' => ∃ A c, e = .returned (.tuple #[.bool k, .slice A l.length c]) ∧ Hid (Own W w' [] [eInts (.slice A l.length c) l]) ∧ Below W.heap.size W w' := by
  obtain ⟨g, f0, f1⟩ := plantE_ok hp
  refine (rkept_any v z P D free W h h2 g f0 (by omega)).mono fun e w' he => ?_
  obtain ⟨lv, rfl, ho⟩ := he.out
  have ht : tellsB P D free = (k, l) := by
    unfold tellsB
    rcases e : keptW P D free with _ | u
    · rw [keptO_none hp e] at hk
      simp only [Prod.mk.injEq] at hk ⊢
      exact ⟨hk.1, hk.2.1⟩
    · rw [keptO_some hp e] at hk
      simp only [Prod.mk.injEq] at hk ⊢
      exact ⟨hk.1, hk.2.1⟩
  have hsm := kept_small P D free
  rw [hk] at hsm
  rw [ht] at ho ⊢
  obtain ⟨A, c, rfl, _, _, h5⟩ := own_ints_at ho List.mem_cons_self hsm
  exact ⟨A, c, rfl, ho, ho.below⟩
theorem rsuper_gives {W : World} {v z : Value} {P S : Aut} {free : Int} (h : DfaAt W W.heap.size v P) (h2 : DfaAt W W.heap.size z S) (hp : plantE P S free = 0) {r : Aut} {k : Nat} (hs : SupI P S free r k) {N : Int} (hN : ((k : Nat) : Int) = N) :
    Calls Tryd.prog 8 #[v, z, .int .i64 free] W fun e w' => ∃ L s A n c F m cf, e = .returned (.tuple #[.agg #[.int .i64 L, .int .i64 s, .slice A n c, .slice F m cf], .int .i64 N]) ∧ Hid (DfaOwn W w' (.agg #[.int .i64 L, .int .i64 s, .slice A n c, .slice F m cf]) r) := by
  obtain ⟨g, f0, f1⟩ := plantE_ok hp
  refine (rsuper_any v z P S free W h h2 f0 (by omega)).mono fun e w' he => ?_
  obtain ⟨x, r', k', rfl, hs', ho⟩ := he.out
  obtain ⟨rfl, rfl⟩ := supI_det (supIs_I hp hs') hs
  obtain ⟨L, s, A, n, c, F, m, cf, rfl⟩ := ho.at_.form
  exact ⟨L, s, A, n, c, F, m, cf, by rw [hN], ho⟩
/-- A variable that is laid anew; X: what is owned besides. -/
def OneV (u0 u : World) (g : Nat) (L s : Int) (nv fv : Value) (a : Aut) (X : List Ent) : Prop := ∃ fs, Own u0 u [eDfa g [.int .i64 L, .int .i64 s, nv, fv]] fs ∧ Held fs L s nv fv a ∧ ∀ e ∈ X, e ∈ fs
section
variable {u0 u u' w' : World} {g : Nat} {L s : Int} {nv fv : Value} {a : Aut} {X : List Ent}
theorem OneV.on (h : OneV u0 u g L s nv fv a X) (hb : Below u.heap.size u u') : OneV u0 u' g L s nv fv a X := by
  obtain ⟨fs, h1, h2⟩ := h
  exact ⟨fs, h1.on hb, h2⟩
theorem OneV.at_ (h : OneV u0 u g L s nv fv a X) : DfaAt u u.heap.size (.agg #[.int .i64 L, .int .i64 s, nv, fv]) a := by
  obtain ⟨fs, h1, h2, _⟩ := h; exact h2.at_ h1
theorem OneV.c (h : OneV u0 u g L s nv fv a X) {j : Nat} {v : Value} (hj : [.int .i64 L, .int .i64 s, nv, fv][j]? = some v) : u.cell? ⟨g, j, none⟩ = some v ∧ u.frozen? ⟨g, j, none⟩ = false := by
  obtain ⟨fs, h1, _⟩ := h; exact h1.dcell (l := [.int .i64 L, .int .i64 s, nv, fv]) (by simp) hj
theorem OneV.below (h : OneV u0 u g L s nv fv a X) : Below u0.heap.size u0 u := by
  obtain ⟨fs, h1, _⟩ := h; exact h1.below
theorem oneV_zero (u : World) : OneV u (u.alloc (.cells #[.int .i64 0, .int .i64 0, .slice none 0 0, .slice none 0 0] 25)) u.heap.size 0 0 (.slice none 0 0) (.slice none 0 0) zeroA [] := by
  obtain ⟨f1, o1, x1⟩ := (dfaOwn_zero (Below.refl u.heap.size u)).held
  exact ⟨f1, o1.dfa (.int .i64 0) (.int .i64 0) (.slice none 0 0) (.slice none 0 0), x1, by simp⟩
theorem OneV.list (h : OneV u0 u g L s nv fv a X) {e : Ent} (ho : Own u u' [] [e]) : OneV u0 u' g L s nv fv a [e] := by
  obtain ⟨fs, h1, h2, h3⟩ := h
  exact ⟨[e] ++ fs, h1.join ho, h2.more (fun e he => List.mem_append_right _ he), fun e he => List.mem_append_left _ he⟩
theorem OneV.ints {v : Value} {l : List Int} (h : OneV u0 u g L s nv fv a [eInts v l]) (hs : ∀ x ∈ l, Small x) {A : Option Addr} {n c : Nat} (hv : v = .slice A n c) : IntsAt u u.heap.size A l := by
  obtain ⟨fs, h1, _, h3⟩ := h
  obtain ⟨A', c', e, _, _, h5⟩ := own_ints_at h1 (List.mem_append_right _ (h3 _ List.mem_cons_self)) hs
  rw [hv] at e
  simp only [Value.slice.injEq] at e
  rw [e.1]; exact h5
theorem OneV.set {L' s' : Int} {nv' fv' : Value} {a' : Aut} (h : OneV u0 u g L s nv fv a X) (ho : DfaOwn u u' (.agg #[.int .i64 L', .int .i64 s', nv', fv']) a')
    (hw : w' = (((u'.setCell ⟨g, 0, none⟩ (.int .i64 L')).setCell ⟨g, 1, none⟩ (.int .i64 s')).setCell ⟨g, 2, none⟩ nv').setCell ⟨g, 3, none⟩ fv') : OneV u0 w' g L' s' nv' fv' a' X := by
  subst hw
  obtain ⟨fs, h1, h2, h3⟩ := h
  obtain ⟨f2, o2, x2⟩ := ho.held
  have h4 := h1.join o2
  have h5 := (((h4.dset 0 (.int .i64 L')).dset 1 (.int .i64 s')).dset 2 nv').dset 3 fv'
  exact ⟨f2 ++ fs, h5, x2.more (fun e he => List.mem_append_left _ he), fun e he => List.mem_append_right _ (h3 e he)⟩
end

set_option maxRecDepth 100000 in
set_option maxHeartbeats 16000000 in
theorem walk (v0 : Value) (d0 : Df.Aut) (v1 : Value) (d1 : Df.Aut) (a2 : Int) (w : World) (h0 : Df.DfaAt w w.heap.size v0 d0) (h1 : Df.DfaAt w w.heap.size v1 d1) (l2 : -9223372036854775808 ≤ a2) (h2 : a2 ≤ 9223372036854775807) (hg : w.cell? ⟨0, 0, none⟩ = some (.iface 132 (.agg #[.pointer (some ⟨1, 33, none⟩)]))) :
    Calls Tryd.prog 3 #[v0, v1, .int .i64 a2] w fun e w' => e = .returned (.bool true) ∧ Below w.heap.size w w' := by
  obtain ⟨L0, s0, A0, n0, c0, F0, m0, k0, rfl⟩ := h0.form
  have hN0 := h0.eqs.2.2.1
  obtain ⟨L1, s1, A1, n1, c1, F1, m1, k1, rfl⟩ := h1.form
  have hN1 := h1.eqs.2.2.1
  obtain ⟨u0, hu0, hb0, VA0, VB0⟩ := vars_two w h0 h1
  have VA := Lib.hid VA0
  have VB := Lib.hid VB0
  have B := Lib.hid hb0
  have W0 := Lib.hid hu0
  have HN0 := Lib.hid hN0
  have HN1 := Lib.hid hN1
  clear VA0 hb0 hu0 h0 hN0 VB0 h1 hN1
  have HG := Lib.hid hg
  clear HN0 HN1 hg
  obtain ⟨r, k, hs⟩ := supI_ex d0 d1 a2
  rcases hko : keptO d0 d1 a2 with ⟨kb, kl, kn⟩
  rcases hp : plantE d0 d1 a2 with _ | j
  · have hkn : kn = 0 := by
      rcases e : keptW d0 d1 a2 with _ | u
      · rw [keptO_none hp e] at hko; simp only [Prod.mk.injEq] at hko; exact hko.2.2.symm
      · rw [keptO_some hp e] at hko; simp only [Prod.mk.injEq] at hko; exact hko.2.2.symm
    subst hkn
    obtain ⟨E, hE⟩ : ∃ E, E = errV k := ⟨_, rfl⟩
    obtain ⟨N, hN⟩ : ∃ N : Int, N = ((k : Nat) : Int) := ⟨_, rfl⟩
    have hll : kl.length ≤ 1600 := by
      rcases e : keptW d0 d1 a2 with _ | u
      · rw [keptO_none hp e] at hko; simp only [Prod.mk.injEq] at hko; rw [← hko.2.1]; simp
      · rw [keptO_some hp e] at hko; simp only [Prod.mk.injEq] at hko; rw [← hko.2.1]
        have h1 := lead_len (plantE_ok hp).1 e
        have h2 : d0.next.length * d1.next.length ≤ 40 * 40 := Nat.mul_le_mul (plantE_ok hp).1.ga.n40 (plantE_ok hp).1.gb.n40
        omega
    have HPl := Lib.hid (fun W v z (h : DfaAt W W.heap.size v d0) (h2 : DfaAt W W.heap.size z d1) => rplant_gives (N := 0) h h2 (by rw [hp]; rfl))
    have HRk := Lib.hid (fun W v z (h : DfaAt W W.heap.size v d0) (h2 : DfaAt W W.heap.size z d1) => rkept_gives h h2 hp hko)
    have HRs := Lib.hid (fun W v z (h : DfaAt W W.heap.size v d0) (h2 : DfaAt W W.heap.size z d1) => rsuper_gives h h2 hp hs hN.symm)
    have HKp := Lib.hid (fun W v z (h : DfaAt W W.heap.size v d0) (h2 : DfaAt W W.heap.size z d1) => kept_gives (E := .nilIface) h h2 hko rfl)
    have HM := Lib.hid (fun W v z (h : DfaAt W W.heap.size v d0) (h2 : DfaAt W W.heap.size z d1) => smake_gives h h2 hs hE.symm)
    have HE1 := Lib.hid (fun W (hb : Below w.heap.size w W) => says_gives HG.out 0 (E := .nilIface) (K := 0) rfl rfl W hb)
    have HE2 := Lib.hid (fun W (hb : Below w.heap.size w W) => says_gives HG.out k (E := E) (K := N) hE.symm hN.symm W hb)
    have HIn := Lib.hid (fun W A Z c e (h : IntsAt W W.heap.size A kl) (h2 : IntsAt W W.heap.size Z kl) => ints_two (c := c) (d := e) h h2 (by omega))
    have HSm : Hid (∀ x ∈ kl, Small x) := by
      have h := kept_small d0 d1 a2
      rw [hko] at h
      exact h
    have hl : Lite r := by
      rcases supI_two hs with ⟨_, h⟩ | ⟨_, rfl⟩
      · exact h.gr.lite
      · exact lite_zero
    have HS := Lib.hid (fun W v z (h : DfaAt W W.heap.size v r) (h2 : DfaAt W W.heap.size z r) => same_gives h h2 hl rfl)
    clear hs hko hp hE hN HG hl hll
    go_enter Tryd.func3, Tryd.ntmps3
    obtain ⟨p0, p1, p2, p3, p4⟩ := VA.out.box
    obtain ⟨q0, q1, q2, q3, q4⟩ := VB.out.box
    go_wp2_with fail
    rw [← W0.out]
    clear W0
    refine (HPl.out _ _ _ VA.out.at_ VB.out.at_).mono ?_
    rintro e u1 ⟨rfl, hb⟩
    have VA := Lib.hid (VA.out.on hb)
    have VB := Lib.hid (VB.out.on hb)
    have B := Lib.hid (B.out.trans (hb.mono B.out.size))
    clear hb p0 p1 p2 p3 p4 q0 q1 q2 q3 q4 HPl
    obtain ⟨xz, hxz⟩ : ∃ xz, xz = u1.alloc (.cells #[.int .i64 0, .int .i64 0, .slice none 0 0, .slice none 0 0] 25) := ⟨_, rfl⟩
    have hbn : Below u1.heap.size u1 xz := by rw [hxz]; exact below_alloc _ _
    have HV : Hid (OneV u1 xz u1.heap.size 0 0 (.slice none 0 0) (.slice none 0 0) zeroA []) := by rw [hxz]; exact oneV_zero u1
    have WA := VA
    have WB := VB
    have B1 := B
    have VA := Lib.hid (VA.out.on hbn)
    have VB := Lib.hid (VB.out.on hbn)
    have B := Lib.hid (B.out.trans (hbn.mono B.out.size))
    clear hbn
    obtain ⟨p0, p1, p2, p3, p4⟩ := VA.out.box
    rw [hxz] at p1 p2 p3 p4
    obtain ⟨q0, q1, q2, q3, q4⟩ := VB.out.box
    rw [hxz] at q1 q2 q3 q4
    have HX := Lib.hid hxz
    clear hxz
    go_wp2_with fail
    rw [← HX.out]
    clear HX
    refine (HRk.out _ _ _ VA.out.at_ VB.out.at_).mono ?_
    rintro e u2 ⟨AW, cW, rfl, hI, hb⟩
    have HV1 := Lib.hid (HV.out.list hI.out)
    clear HV
    have VA := Lib.hid (VA.out.on hb)
    have VB := Lib.hid (VB.out.on hb)
    have B := Lib.hid (B.out.trans (hb.mono B.out.size))
    have HV := HV1
    clear HV1 hb hI HRk p0 p1 p2 p3 p4 q0 q1 q2 q3 q4
    obtain ⟨p0, p1, p2, p3, p4⟩ := VA.out.box
    obtain ⟨q0, q1, q2, q3, q4⟩ := VB.out.box
    go_wp2_with fail
    refine (HRs.out _ _ _ VA.out.at_ VB.out.at_).mono ?_
    rintro e u3 ⟨L9, s9, A9, n9, c9, F9, m9, k9, rfl, ho⟩
    have hb := ho.out.below
    obtain ⟨g0, f0⟩ := (HV.out.on hb).c (j := 0) rfl
    obtain ⟨g1, f1⟩ := (HV.out.on hb).c (j := 1) rfl
    obtain ⟨g2, f2⟩ := (HV.out.on hb).c (j := 2) rfl
    obtain ⟨g3, f3⟩ := (HV.out.on hb).c (j := 3) rfl
    obtain ⟨xs, hxs⟩ : ∃ xs, xs = (((u3.setCell ⟨u1.heap.size, 0, none⟩ (.int .i64 L9)).setCell ⟨u1.heap.size, 1, none⟩ (.int .i64 s9)).setCell ⟨u1.heap.size, 2, none⟩ (.slice A9 n9 c9)).setCell ⟨u1.heap.size, 3, none⟩ (.slice F9 m9 k9) := ⟨_, rfl⟩
    have HV2 := Lib.hid (HV.out.set ho.out hxs)
    have hbx := HV2.out.below
    have VA2 := Lib.hid (WA.out.on hbx)
    have VB2 := Lib.hid (WB.out.on hbx)
    have B := Lib.hid (B1.out.trans (hbx.mono B1.out.size))
    clear VA VB HV hb ho hbx HRs p0 p1 p2 p3 p4 q0 q1 q2 q3 q4
    have VA := VA2
    have VB := VB2
    have HV := HV2
    clear VA2 VB2 HV2
    clear WA WB B1
    obtain ⟨p0, p1, p2, p3, p4⟩ := VA.out.box
    rw [hxs] at p1 p2 p3 p4
    obtain ⟨q0, q1, q2, q3, q4⟩ := VB.out.box
    rw [hxs] at q1 q2 q3 q4
    have HX := Lib.hid hxs
    clear hxs
    go_wp2_with fail
    rw [← HX.out]
    clear HX
    clear g0 g1 g2 g3 f0 f1 f2 f3
    refine (HKp.out _ _ _ VA.out.at_ VB.out.at_).mono ?_
    rintro e u4 ⟨AHI, cHI, rfl, hI, hb⟩
    have HI := Lib.hid hI.out.1
    have hlHI := hI.out.2
    have HV := Lib.hid (HV.out.on hb)
    have VA := Lib.hid (VA.out.on hb)
    have VB := Lib.hid (VB.out.on hb)
    have B := Lib.hid (B.out.trans (hb.mono B.out.size))
    clear hb hI p0 p1 p2 p3 p4 q0 q1 q2 q3 q4 HKp
    go_wp2_with fail
    refine (HE1.out _ B.out).mono ?_
    rintro e u5 ⟨rfl, hb⟩
    have HV := Lib.hid (HV.out.on hb)
    have HI := Lib.hid (HI.out.on hb)
    have VA := Lib.hid (VA.out.on hb)
    have VB := Lib.hid (VB.out.on hb)
    have B := Lib.hid (B.out.trans (hb.mono B.out.size))
    clear hb  HE1
    go_wp2_with fail
    refine (HIn.out _ _ _ _ _ HI.out (HV.out.ints HSm.out rfl)).mono ?_
    rintro e u6 ⟨rfl, hb⟩
    have HV := Lib.hid (HV.out.on hb)
    have HI := Lib.hid (HI.out.on hb)
    have VA := Lib.hid (VA.out.on hb)
    have VB := Lib.hid (VB.out.on hb)
    have B := Lib.hid (B.out.trans (hb.mono B.out.size))
    clear hb  HIn HSm
    clear HI
    obtain ⟨p0, p1, p2, p3, p4⟩ := VA.out.box
    obtain ⟨q0, q1, q2, q3, q4⟩ := VB.out.box
    go_wp2_with fail
    refine (HM.out _ _ _ VA.out.at_ VB.out.at_).mono ?_
    rintro e u7 ⟨L17, s17, A17, n17, c17, F17, m17, k17, rfl, hd, hb⟩
    have HV := Lib.hid (HV.out.on hb)
    have VA := Lib.hid (VA.out.on hb)
    have VB := Lib.hid (VB.out.on hb)
    have B := Lib.hid (B.out.trans (hb.mono B.out.size))
    clear hb p0 p1 p2 p3 p4 q0 q1 q2 q3 q4 HM
    obtain ⟨x7, hx7, hbn, Vn⟩ := var_new u7 hd.out
    have VX := Lib.hid Vn
    have HV := Lib.hid (HV.out.on hbn)
    have VA := Lib.hid (VA.out.on hbn)
    have VB := Lib.hid (VB.out.on hbn)
    have B := Lib.hid (B.out.trans (hbn.mono B.out.size))
    clear hbn Vn hd
    have HX := Lib.hid hx7
    clear hx7
    go_wp2_with fail
    rw [← HX.out]
    clear HX
    refine (HE2.out _ B.out).mono ?_
    rintro e u8 ⟨rfl, hb⟩
    have HV := Lib.hid (HV.out.on hb)
    have VA := Lib.hid (VA.out.on hb)
    have VB := Lib.hid (VB.out.on hb)
    have VX := Lib.hid (VX.out.on hb)
    have B := Lib.hid (B.out.trans (hb.mono B.out.size))
    clear hb  HE2
    obtain ⟨g0, _⟩ := HV.out.c (j := 0) rfl
    obtain ⟨g1, _⟩ := HV.out.c (j := 1) rfl
    obtain ⟨g2, _⟩ := HV.out.c (j := 2) rfl
    obtain ⟨g3, _⟩ := HV.out.c (j := 3) rfl
    obtain ⟨p0, p1, p2, p3, p4⟩ := VX.out.box
    go_wp2_with fail
    refine (HS.out _ _ _ VX.out.at_ HV.out.at_).mono ?_
    rintro e u9 ⟨rfl, hb⟩
    have HV := Lib.hid (HV.out.on hb)
    have VA := Lib.hid (VA.out.on hb)
    have VB := Lib.hid (VB.out.on hb)
    have VX := Lib.hid (VX.out.on hb)
    have B := Lib.hid (B.out.trans (hb.mono B.out.size))
    clear hb p0 p1 p2 p3 p4 HS g0 g1 g2 g3
    clear VX HV
    go_wp2
    go_ret
    exact ⟨rfl, B.out⟩
  · obtain ⟨rfl, rfl⟩ : r = zeroA ∧ k = j + 1 := by
      rcases hs with ⟨_, a2, a3⟩ | ⟨a1, _⟩ | ⟨a1, _⟩ | ⟨a1, _⟩
      · exact ⟨a3, by rw [a2, hp]⟩
      · rw [hp] at a1; cases a1
      · rw [hp] at a1; cases a1
      · rw [hp] at a1; cases a1
    rw [keptO_bad (by rw [hp]; omega), hp] at hko
    simp only [Prod.mk.injEq] at hko
    obtain ⟨rfl, rfl, rfl⟩ := hko
    have hko : keptO d0 d1 a2 = (false, [], j + 1) := by rw [keptO_bad (by rw [hp]; omega), hp]
    obtain ⟨N, hN⟩ : ∃ N : Int, N = ((j + 1 : Nat) : Int) := ⟨_, rfl⟩
    obtain ⟨E, hE⟩ := errV_bad (k := j + 1) (by omega)
    have hN0 : (N == 0) = false := beq_eq_false_iff_ne.2 (by omega)
    have HPl := Lib.hid (fun W v z (h : DfaAt W W.heap.size v d0) (h2 : DfaAt W W.heap.size z d1) => rplant_gives (N := N) h h2 (by rw [hp, hN]))
    have HKp := Lib.hid (fun W v z (h : DfaAt W W.heap.size v d0) (h2 : DfaAt W W.heap.size z d1) => kept_gives (E := errI E) h h2 hko hE)
    have HM := Lib.hid (fun W v z (h : DfaAt W W.heap.size v d0) (h2 : DfaAt W W.heap.size z d1) => smake_gives h h2 hs hE)
    have HE1 := Lib.hid (fun W (hb : Below w.heap.size w W) => says_gives HG.out (j + 1) (E := errI E) (K := N) hE hN.symm W hb)
    have HE2 := HE1
    have HIn := Lib.hid (fun W A c (h : IntsAt W W.heap.size A []) => ints_two (c := c) (d := 0) (l := []) h (IntsAt.nil W W.heap.size none) (by simp))
    have HS := Lib.hid (fun W v z (h : DfaAt W W.heap.size v zeroA) (h2 : DfaAt W W.heap.size z zeroA) => same_gives h h2 lite_zero rfl)
    clear hs hko hp hE hN HG
    go_enter Tryd.func3, Tryd.ntmps3
    obtain ⟨p0, p1, p2, p3, p4⟩ := VA.out.box
    obtain ⟨q0, q1, q2, q3, q4⟩ := VB.out.box
    go_wp2_with fail
    rw [← W0.out]
    clear W0
    refine (HPl.out _ _ _ VA.out.at_ VB.out.at_).mono ?_
    rintro e u1 ⟨rfl, hb⟩
    have VA := Lib.hid (VA.out.on hb)
    have VB := Lib.hid (VB.out.on hb)
    have B := Lib.hid (B.out.trans (hb.mono B.out.size))
    clear hb p0 p1 p2 p3 p4 q0 q1 q2 q3 q4 HPl
    obtain ⟨xz, hxz⟩ : ∃ xz, xz = u1.alloc (.cells #[.int .i64 0, .int .i64 0, .slice none 0 0, .slice none 0 0] 25) := ⟨_, rfl⟩
    have hbn : Below u1.heap.size u1 xz := by rw [hxz]; exact below_alloc _ _
    have HV : Hid (OneV u1 xz u1.heap.size 0 0 (.slice none 0 0) (.slice none 0 0) zeroA []) := by rw [hxz]; exact oneV_zero u1
    have WA := VA
    have WB := VB
    have B1 := B
    have VA := Lib.hid (VA.out.on hbn)
    have VB := Lib.hid (VB.out.on hbn)
    have B := Lib.hid (B.out.trans (hbn.mono B.out.size))
    clear hbn
    clear WA WB B1
    obtain ⟨p0, p1, p2, p3, p4⟩ := VA.out.box
    rw [hxz] at p1 p2 p3 p4
    obtain ⟨q0, q1, q2, q3, q4⟩ := VB.out.box
    rw [hxz] at q1 q2 q3 q4
    have HX := Lib.hid hxz
    clear hxz
    go_wp2_with fail
    rw [← HX.out]
    clear HX
    refine (HKp.out _ _ _ VA.out.at_ VB.out.at_).mono ?_
    rintro e u2 ⟨AHI, cHI, rfl, hI, hb⟩
    have HI := Lib.hid hI.out.1
    have hlHI := hI.out.2
    have HV := Lib.hid (HV.out.on hb)
    have VA := Lib.hid (VA.out.on hb)
    have VB := Lib.hid (VB.out.on hb)
    have B := Lib.hid (B.out.trans (hb.mono B.out.size))
    clear hb hI p0 p1 p2 p3 p4 q0 q1 q2 q3 q4 HKp
    go_wp2_with fail
    refine (HE1.out _ B.out).mono ?_
    rintro e u3 ⟨rfl, hb⟩
    have HV := Lib.hid (HV.out.on hb)
    have HI := Lib.hid (HI.out.on hb)
    have VA := Lib.hid (VA.out.on hb)
    have VB := Lib.hid (VB.out.on hb)
    have B := Lib.hid (B.out.trans (hb.mono B.out.size))
    clear hb  HE1
    go_wp2_with fail
    refine (HIn.out _ _ _ HI.out).mono ?_
    rintro e u4 ⟨rfl, hb⟩
    have HV := Lib.hid (HV.out.on hb)
    have HI := Lib.hid (HI.out.on hb)
    have VA := Lib.hid (VA.out.on hb)
    have VB := Lib.hid (VB.out.on hb)
    have B := Lib.hid (B.out.trans (hb.mono B.out.size))
    clear hb  HIn
    clear HI
    obtain ⟨p0, p1, p2, p3, p4⟩ := VA.out.box
    obtain ⟨q0, q1, q2, q3, q4⟩ := VB.out.box
    go_wp2_with fail
    refine (HM.out _ _ _ VA.out.at_ VB.out.at_).mono ?_
    rintro e u5 ⟨L15, s15, A15, n15, c15, F15, m15, k15, rfl, hd, hb⟩
    have HV := Lib.hid (HV.out.on hb)
    have VA := Lib.hid (VA.out.on hb)
    have VB := Lib.hid (VB.out.on hb)
    have B := Lib.hid (B.out.trans (hb.mono B.out.size))
    clear hb p0 p1 p2 p3 p4 q0 q1 q2 q3 q4 HM
    obtain ⟨x5, hx5, hbn, Vn⟩ := var_new u5 hd.out
    have VX := Lib.hid Vn
    have HV := Lib.hid (HV.out.on hbn)
    have VA := Lib.hid (VA.out.on hbn)
    have VB := Lib.hid (VB.out.on hbn)
    have B := Lib.hid (B.out.trans (hbn.mono B.out.size))
    clear hbn Vn hd
    have HX := Lib.hid hx5
    clear hx5
    go_wp2_with fail
    rw [← HX.out]
    clear HX
    refine (HE2.out _ B.out).mono ?_
    rintro e u6 ⟨rfl, hb⟩
    have HV := Lib.hid (HV.out.on hb)
    have VA := Lib.hid (VA.out.on hb)
    have VB := Lib.hid (VB.out.on hb)
    have VX := Lib.hid (VX.out.on hb)
    have B := Lib.hid (B.out.trans (hb.mono B.out.size))
    clear hb  HE2
    obtain ⟨g0, _⟩ := HV.out.c (j := 0) rfl
    obtain ⟨g1, _⟩ := HV.out.c (j := 1) rfl
    obtain ⟨g2, _⟩ := HV.out.c (j := 2) rfl
    obtain ⟨g3, _⟩ := HV.out.c (j := 3) rfl
    obtain ⟨p0, p1, p2, p3, p4⟩ := VX.out.box
    go_wp2_with fail
    refine (HS.out _ _ _ VX.out.at_ HV.out.at_).mono ?_
    rintro e u7 ⟨rfl, hb⟩
    have HV := Lib.hid (HV.out.on hb)
    have VA := Lib.hid (VA.out.on hb)
    have VB := Lib.hid (VB.out.on hb)
    have VX := Lib.hid (VX.out.on hb)
    have B := Lib.hid (B.out.trans (hb.mono B.out.size))
    clear hb p0 p1 p2 p3 p4 HS g0 g1 g2 g3
    clear VX HV
    go_wp2
    go_ret
    exact ⟨rfl, B.out⟩


set_option maxRecDepth 100000 in
theorem lifted (os : Os) (started : os.Started) (H : Type) (enc : TypeId × Value → H) :
    ReturnsInHanded {} Tryd.checked os 3 .any (fun w args => (Rows.superSaysSpec.pre enc Tryd.prog Tryd.f3 Rows.superSaysRow.domain false w args ∧ laidMetH Tryd.prog [("errors.errorType", Rows.laid_errors_errorType)] w) ∧ sizedMet enc Tryd.prog Tryd.f3 (OpenSpec.ofChange Rows.superSaysSpec) false w args) (Rows.superSaysSpec.post enc Tryd.prog Tryd.f3 false true false false) := by
  refine returnsInHanded_of_change_and (C := Tryd.checked) (X := fun w _ => laidMetH Tryd.prog [("errors.errorType", Rows.laid_errors_errorType)] w) (fun _ _ _ hh h => h.of_heap hh) own started (by kernel_rfl) Tryd.func3
    (ChangeSpec.witness_at (enc := enc) (C := Tryd.checked) (os := os) (X := fun w _ => laidMetH Tryd.prog [("errors.errorType", Rows.laid_errors_errorType)] w) false (laidWorld os) #[.agg #[.int .i64 0, .int .i64 0, .slice none 0 0, .slice none 0 0], .agg #[.int .i64 0, .int .i64 0, .slice none 0 0, .slice none 0 0], .int .i64 0] 8 rfl (by kernel_rfl) (by kernel_rfl) (by kernel_rfl) (by kernel_rfl) (by kernel_rfl) (laidWorld_met os _)) ?_
  intro W base args ds gs before hval0 hW hcnd hsz0 hL _
  have hval : ∀ (j : Nat) t v, Tryd.f3.params[j]? = some t → args[j]? = some v → Value.okWide Tryd.prog W .any base t v := hval0
  have hsz : (DataW.weightsEach Tryd.prog (Tryd.f3.params.toList ++ Rows.superSaysSpec.plain.varTypes Tryd.prog) (ds ++ gs)).all (· ≤ reachBytes) = true := hsz0
  have hW' := hW
  obtain ⟨p, q, hA0, hV0, rfl, hfz, hnd⟩ := hW
  have hV : DataW.TrodVars enc Tryd.prog W (fun _ => true) [] gs q := hV0
  have hA : DataW.TrodAll enc Tryd.prog W 0 (fun _ => true) true Tryd.f3.params.toList args.toList ds p := hA0
  rw [Tryd.params3] at hA hval hsz
  obtain ⟨v0, vs0, d0, ds0, p0, q0, hargs, rfl, rfl, h0, rr0⟩ := trodAll_cons hA
  obtain ⟨v1, vs1, d1, ds1, p1, q1, rfl, rfl, rfl, h1, rr1⟩ := trodAll_cons rr0
  obtain ⟨v2, vs2, d2, ds2, p2, q2, rfl, rfl, rfl, h2, rr2⟩ := trodAll_cons rr1
  obtain ⟨rfl, rfl, rfl⟩ := trodAll_nil rr2
  obtain rfl : args = #[v0, v1, v2] := by cases args; simp_all
  obtain ⟨rfl, rfl⟩ := trodVars_none hV
  have k0 := h0
  have lt0 : ∀ x ∈ p0, x.block < W.heap.size := by obtain ⟨m, hm⟩ := k0; exact DataW.trod_lt m _ _ _ hm
  have k1 := h1
  have lt1 : ∀ x ∈ p1, x.block < W.heap.size := by obtain ⟨m, hm⟩ := k1; exact DataW.trod_lt m _ _ _ hm
  have k2 := h2
  have lt2 : ∀ x ∈ p2, x.block < W.heap.size := by obtain ⟨m, hm⟩ := k2; exact DataW.trod_lt m _ _ _ hm
  obtain ⟨D0, x0⟩ : ∃ d : Df.Aut, Df.DfaAt W W.heap.size v0 d := Df.dfa_open (hval 0 25 v0 rfl rfl) h0
  obtain ⟨D1, x1⟩ : ∃ d : Df.Aut, Df.DfaAt W W.heap.size v1 d := Df.dfa_open (hval 1 25 v1 rfl rfl) h1
  obtain ⟨a2, rfl, rfl, rfl, w2⟩ := open_int Tryd.underlying3 (hval 2 3 v2 rfl rfl) h2
  obtain ⟨l2, hh2⟩ := bounds_i64 w2
  clear hA0 hval0
  refine (walk v0 D0 v1 D1 a2 W x0 x1 l2 hh2 (handle_of_laid hL)).mono fun e W' ⟨he, bel⟩ => ?_
  subst he
  exact ⟨_, rfl, _, _, _, [], _, [], hW', trodAll_mk1 (shut_bool Tryd.underlying4 _), (trodAll_cons_mk (Below.trod laidOut (by kernel_rfl) (of_decide_eq_true (by kernel_rfl)) k0 bel lt0) (trodAll_cons_mk (Below.trod laidOut (by kernel_rfl) (of_decide_eq_true (by kernel_rfl)) k1 bel lt1) (trodAll_cons_mk (Below.trod laidOut (by kernel_rfl) (of_decide_eq_true (by kernel_rfl)) k2 bel lt2) trodAll_mk0))), rfl, bel.frame _, fun h => by cases h⟩

theorem over : Rows.superSaysRow.holds Tryd.pinned (OpenSpec.ofChange Rows.superSaysSpec) :=
  OpenClaim.holds_of_wide 3 Tryd.f3 rfl rfl rfl rfl rfl rfl rfl ⟨rfl, rfl, rfl, rfl, rfl⟩ rfl rfl rfl rfl rfl (by kernel_rfl) Tryd.func3 (by kernel_rfl)
    (of_decide_eq_true (by kernel_rfl)) (by unfold Func.isWrapper; rw [if_neg (of_decide_eq_false (by kernel_rfl))]; exact ⟨rfl, rfl⟩)
    (fun os started H enc _ => lifted os started H enc)
theorem proved : Rows.SuperSaysCardSaid :=
  Claim7.holds_tied_plain_at .later [] [.handle] true (true, "c3c2691986dcf8376a3b39a7a8830a4e36d6487361fa87e728924180ccfc0bb1") true
    over (fun _ h => by cases h) (by kernel_rfl) (fun _ h => by cases h) superSays_row_tie rfl ⟨rfl, rfl⟩ (by kernel_rfl) rfl
    (fun f fn hf hfn => by
      obtain rfl : f = 3 := Option.some.inj ((show Tryd.prog.funcNamed "stileward/stilewardlaw5.SuperSays" = some 3 by kernel_rfl).symm.trans hf) |>.symm
      obtain rfl : fn = Tryd.f3 := (Option.some.inj (Tryd.func3.symm.trans hfn)).symm
      exact ⟨by kernel_rfl, fun j t ht => by
        rw [Tryd.params3] at ht
        rcases j with _ | _ | _ | j
        · obtain rfl : 25 = t := by simpa using ht
          exact (show Tryd.prog.wantsStandIn 25 = false by kernel_rfl)
        · obtain rfl : 25 = t := by simpa using ht
          exact (show Tryd.prog.wantsStandIn 25 = false by kernel_rfl)
        · obtain rfl : 3 = t := by simpa using ht
          exact (show Tryd.prog.wantsStandIn 3 = false by kernel_rfl)
        · simp at ht⟩)
    (by kernel_rfl)
#print axioms proved
end Go.Proofs.YtbciefeipiphiaaDoor.superSays

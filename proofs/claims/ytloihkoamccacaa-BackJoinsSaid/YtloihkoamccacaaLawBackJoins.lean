/-
  The statement BackJoinsSaid of this seat, proved: for every input the law returns true and its arguments read behind the call as before. Conditions: none but the row's own (each argument within the reach).
-/
import Derived.Test.YtloihkoamccacaaRows
import Derived.Test.YtloihkoamccacaaWords
import Derived.WalkKit
import Derived.ProofKit
import Derived.OpenShut
import Derived.ShutString
import Derived.ChangeOld
import Derived.Below
import Derived.SizedLaws
import Derived.Lib.Hide
import Derived.Test.YtloihkoamccacaaBackQ
import Derived.Test.YtloihkoamccacaaMinW
import Derived.Test.YtloihkoamccacaaJoin
namespace Go.Proofs.Ytloihkoamccacaa.backJoins
open Go.ChangeShapes Go.WideShapes Go.ChangeAt Go.RowKit Go.IntWalk Go.Proofs.Ytloihkoamccacaa.Wd
open Go.ChangeMaps (open_string shut_string)
set_option linter.unusedVariables false

theorem own : ownKnob Try.prog.godebug = none := by kernel_rfl
theorem laidOut : laidOutB Try.prog = true := by kernel_rfl
open Go.Proofs.Ytloihkoamccacaa.Wo Go.Proofs.Ytloihkoamccacaa.Df Go.Proofs.Ytloihkoamccacaa.Sm Go.Proofs.Ytloihkoamccacaa.Mp Go.Proofs.Ytloihkoamccacaa.Fm
theorem both_small {L : Int} {f g : List Nd} (gf : FGood L f) (gg : FGood L g) : ∀ m ∈ f ++ g.map (shf f.length), NdSmall m := fun m hm => by
  obtain ⟨i, hi⟩ := List.getElem?_of_mem hm
  have h1 := (List.getElem?_eq_some_iff.1 hi).1
  simp only [List.length_append, List.length_map] at h1
  have := gf.le
  have := gg.le
  exact good_small gf.l6 (by omega) (both_good gf.nd gg.nd i m hi)
/-- Make, the length told. -/
theorem make_len {L : Int} (hL : Small L) {H : List Nd} {n : Nat} (hn : H.length = n) (hb : n ≤ 9223372036854775807) {E : Value} {r : Aut} {k : Nat} (hr : mkOut L H = (r, k)) (hE : errV k = E) (W : World) (A : Option Addr) (c : Nat) (hA : NodesAt W W.heap.size A H) : Gives 20 #[.int .i64 L, .slice A n c] W E r := by
  subst hn
  exact bmake_gives hL hA hb hr hE
/-- What a callee has made is laid into a block that holds another. -/
theorem into_any {w1 w5 w6 : World} {gr : Nat} {a0 a1 a2 a3 : Value} {L s : Int} {nv fv : Value} {d : Aut} (ho : Own w1 w5 [eDfa gr [a0, a1, a2, a3]] []) (hx : DfaOwn w5 w6 (.agg #[.int .i64 L, .int .i64 s, nv, fv]) d) :
    DfaOwn w1 ((((w6.setCell ⟨gr, 0, none⟩ (.int .i64 L)).setCell ⟨gr, 1, none⟩ (.int .i64 s)).setCell ⟨gr, 2, none⟩ nv).setCell ⟨gr, 3, none⟩ fv) (.agg #[.int .i64 L, .int .i64 s, nv, fv]) d ∧
      ((((w6.setCell ⟨gr, 0, none⟩ (.int .i64 L)).setCell ⟨gr, 1, none⟩ (.int .i64 s)).setCell ⟨gr, 2, none⟩ nv).setCell ⟨gr, 3, none⟩ fv).cell? ⟨gr, 0, none⟩ = some (.int .i64 L) ∧
      ((((w6.setCell ⟨gr, 0, none⟩ (.int .i64 L)).setCell ⟨gr, 1, none⟩ (.int .i64 s)).setCell ⟨gr, 2, none⟩ nv).setCell ⟨gr, 3, none⟩ fv).cell? ⟨gr, 1, none⟩ = some (.int .i64 s) ∧
      ((((w6.setCell ⟨gr, 0, none⟩ (.int .i64 L)).setCell ⟨gr, 1, none⟩ (.int .i64 s)).setCell ⟨gr, 2, none⟩ nv).setCell ⟨gr, 3, none⟩ fv).cell? ⟨gr, 2, none⟩ = some nv ∧
      ((((w6.setCell ⟨gr, 0, none⟩ (.int .i64 L)).setCell ⟨gr, 1, none⟩ (.int .i64 s)).setCell ⟨gr, 2, none⟩ nv).setCell ⟨gr, 3, none⟩ fv).cell? ⟨gr, 3, none⟩ = some fv := by
  obtain ⟨nv', fv', rs, e, h2, h3, h4, h5, h6⟩ := hx
  have h := ho.join h3
  have h7 := (((h.dset 0 (.int .i64 L)).dset 1 (.int .i64 s)).dset 2 nv).dset 3 fv
  exact ⟨⟨nv', fv', rs, e, h2, h7.only.weak (fun e he => List.mem_append_left _ he), h4, h5, h6⟩,
    (h7.dcell (g := gr) (l := [.int .i64 L, .int .i64 s, nv, fv]) (by simp) rfl).1, (h7.dcell (g := gr) (l := [.int .i64 L, .int .i64 s, nv, fv]) (by simp) rfl).1, (h7.dcell (g := gr) (l := [.int .i64 L, .int .i64 s, nv, fv]) (by simp) rfl).1, (h7.dcell (g := gr) (l := [.int .i64 L, .int .i64 s, nv, fv]) (by simp) rfl).1⟩
theorem either_own {W : World} {v z : Value} {a b : Aut} (h : DfaAt W W.heap.size v a) (h2 : DfaAt W W.heap.size z b) {E : Value} {r : Aut} {k : Nat} (hr : prodOut (fun x y => x || y) a b = (r, k)) (hE : errV k = E) : GivesO 16 #[v, z] W E r :=
  givesO_of (either_any v z a b W h h2) (by unfold eitherF; exact hr) hE
/-- All nodes, midway. -/
def AllI (u wr : World) (f g : List Nd) (j : Nat) (v : Value) : Prop := Own u wr [eNodes v (f ++ (g.take j).map (shf f.length))] []
theorem take_shf {f g : List Nd} {j : Nat} {p : Nd} (h : g[j]? = some p) : f ++ (g.take (j + 1)).map (shf f.length) = (f ++ (g.take j).map (shf f.length)) ++ [shf f.length p] := by
  rw [List.take_add_one, h]; simp

set_option maxRecDepth 100000 in
set_option maxHeartbeats 4000000 in
theorem walk (a0 : Int) (A1 : Option Addr) (c1 : Nat) (z1 : List Fm.Nd) (A2 : Option Addr) (c2 : Nat) (z2 : List Fm.Nd) (w : World) (l0 : -9223372036854775808 ≤ a0) (h0 : a0 ≤ 9223372036854775807) (v1 : Fm.NodesAt w w.heap.size A1 z1) (m1 : z1.length ≤ c1) (n1 : c1 ≤ 9223372036854775807) (r1 : z1.length ≤ 5864062014634) (v2 : Fm.NodesAt w w.heap.size A2 z2) (m2 : z2.length ≤ c2) (n2 : c2 ≤ 9223372036854775807) (r2 : z2.length ≤ 5864062014634) :
    Calls Try.prog 6 #[.int .i64 a0, .slice A1 z1.length c1, .slice A2 z2.length c2] w fun e w' => e = .returned (.bool true) ∧ Below w.heap.size w w' := by
  have hL : Small a0 := ⟨l0, h0⟩
  have hlen1 : z1.length ≤ 9223372036854775807 := by omega
  have hlen2 : z2.length ≤ 9223372036854775807 := by omega
  have HN := Lib.hid v1
  have HM := Lib.hid v2
  rcases mk_cases a0 z1 with ⟨l1, m1', g1, hl1, hm1, hr1⟩ | ⟨k, hr1, _⟩
  · rcases mk_cases a0 z2 with ⟨l2, m2', g2, hl2, hm2, hr2⟩ | ⟨k2, hr2, _⟩
    · have gd1 := front_good g1 hl1 hm1
      have hof1 := fun {d : Aut} (gd : Df.Good d) (eL : d.L = a0) (h : ∀ w, Word a0 w → accA d w = vat z1 w (z1.length - 1) 0) => front_of g1 hl1 hm1 gd eL h
      have hac1 := fun (w : List Int) (hw : Word a0 w) => front_acc g1 hl1 hm1 hw
      have hmn1 := front_min g1 hl1 hm1
      have eL1 : (frontA a0 z1 l1 m1').L = a0 := rfl
      have gd2 := front_good g2 hl2 hm2
      have hof2 := fun {d : Aut} (gd : Df.Good d) (eL : d.L = a0) (h : ∀ w, Word a0 w → accA d w = vat z2 w (z2.length - 1) 0) => front_of g2 hl2 hm2 gd eL h
      have hac2 := fun (w : List Int) (hw : Word a0 w) => front_acc g2 hl2 hm2 hw
      have hmn2 := front_min g2 hl2 hm2
      have eL2 : (frontA a0 z2 l2 m2').L = a0 := rfl
      generalize frontA a0 z1 l1 m1' = x at *
      generalize frontA a0 z2 l2 m2' = y at *
      have HA := Lib.hid (fun W (hA : NodesAt W W.heap.size A1 z1) => bmake_gives (E := .nilIface) (c := c1) hL hA hlen1 hr1 rfl)
      have HB := Lib.hid (fun W (hA : NodesAt W W.heap.size A2 z2) => bmake_gives (E := .nilIface) (c := c2) hL hA hlen2 hr2 rfl)
      have hne1 := g1.ne
      have hne2 := g2.ne
      have hle1 := g1.le
      have hle2 := g2.le
      have HMn := Lib.hid (fun W (hA : NodesAt W W.heap.size A1 z1) => more_none A1 c1 z1 W hA hne1 (by omega))
      have HG1 := Lib.hid g1
      have HG2 := Lib.hid g2
      have HD1 := Lib.hid gd1
      have HD2 := Lib.hid gd2
      have HAc1 := Lib.hid hac1
      have HAc2 := Lib.hid hac2
      have HMi1 := Lib.hid hmn1
      have HeL1 := Lib.hid eL1
      have HeL2 := Lib.hid eL2
      have HPr := Lib.hid (prod_two x y)
      have HSm := Lib.hid (both_small g1 g2)
      have HL := Lib.hid hL
      have hx1 : 1 ≤ x.next.length := gd1.n1
      have hy1 : 1 ≤ y.next.length := gd2.n1
      have HNx := Lib.hid hx1
      have HNy := Lib.hid hy1
      obtain ⟨N1, hN1⟩ : ∃ N, z1.length = N := ⟨_, rfl⟩
      obtain ⟨N2, hN2⟩ : ∃ N, z2.length = N := ⟨_, rfl⟩
      have HN1 := Lib.hid hN1
      have HN2 := Lib.hid hN2
      rw [hN1] at HA HMn hne1 hle1
      rw [hN2] at HB hne2 hle2
      rw [hN1, hN2]
      clear gd1 gd2 hof1 hof2 hac1 hac2 hmn1 hmn2 eL1 eL2 g1 g2 hl1 hl2 hm1 hm2 hr1 hr2 hlen1 hlen2 hL v1 v2 hN1 hN2 hx1 hy1 r1 r2 m1 m2
      go_enter Try.func6, Try.ntmps6
      go_wp2_with fail
      refine (HA.out _ HN.out).mono ?_
      rintro e u1 ⟨L11, s11, A11, n11, c11, F11, m11, k11, rfl, hd, hb⟩
      have HN := Lib.hid (HN.out.on hb)
      have HM := Lib.hid (HM.out.on hb)
      have B := Lib.hid hb
      clear hb  HA
      obtain ⟨x1, hx1, hbn, Vn⟩ := var_new u1 hd.out
      have VA := Lib.hid Vn
      have HN := Lib.hid (HN.out.on hbn)
      have HM := Lib.hid (HM.out.on hbn)
      have B := Lib.hid (B.out.trans (hbn.mono B.out.size))
      clear hbn Vn hd
      have HX := Lib.hid hx1
      clear hx1
      go_wp2_with fail
      rw [← HX.out]
      clear HX
      refine (HB.out _ HM.out).mono ?_
      rintro e u2 ⟨L12, s12, A12, n12, c12, F12, m12, k12, rfl, hd, hb⟩
      have HN := Lib.hid (HN.out.on hb)
      have HM := Lib.hid (HM.out.on hb)
      have VA := Lib.hid (VA.out.on hb)
      have B := Lib.hid (B.out.trans (hb.mono B.out.size))
      clear hb  HB
      obtain ⟨x2, hx2, hbn, Vn⟩ := var_new u2 hd.out
      have VB := Lib.hid Vn
      have HN := Lib.hid (HN.out.on hbn)
      have HM := Lib.hid (HM.out.on hbn)
      have VA := Lib.hid (VA.out.on hbn)
      have B := Lib.hid (B.out.trans (hbn.mono B.out.size))
      clear hbn Vn hd
      have HX := Lib.hid hx2
      clear hx2
      go_wp2_with fail
      rw [← HX.out]
      clear HX
      refine (HMn.out _ HN.out).mono ?_
      rintro e u3 he
      obtain ⟨gA, cA, rfl, hoA⟩ := he.out
      have hb := hoA.below
      have HO0 : Hid (AllI x2 u3 z1 z2 0 (.slice (some ⟨gA, 0, none⟩) N1 cA)) := by
        unfold Hid AllI
        rw [List.take_zero, List.map_nil, List.append_nil, ← HN1.out]
        rw [HN1.out]; exact hoA
      have VA0 := VA
      have VB0 := VB
      have HN0 := HN
      have HM0 := HM
      clear he hoA HMn hb
      generalize (Value.slice (some ⟨gA, 0, none⟩) N1 cA) = vA at *
      go_wp2
      go_loopw [12, 13] (fun v i wr => ∃ (j : Nat), j ≤ N2 ∧ i = .int .i64 j ∧ Hid (AllI x2 wr z1 z2 j v)) (fun _ i _ => N2 - (intOf i).toNat)
      case atStart => exact ⟨0, by omega, rfl, HO0⟩
      case round =>
        clear HO0
        obtain ⟨j, hj, rfl, HO⟩ := hrel
        by_cases hlt : j < N2
        · obtain ⟨p, hp⟩ : ∃ p, z2[j]? = some p := ⟨_, List.getElem?_eq_getElem (by rw [HN2.out]; exact hlt)⟩
          have hbw : Below x2.heap.size x2 wr := Own.below HO.out
          obtain ⟨ad, e, hadb, cA, cB, cC⟩ := (HM0.out.on hbw).at_ hp
          subst e
          have hgd := HG2.out.nd j p hp
          have HTk := Lib.hid (take_shf (f := z1) hp)
          obtain ⟨k, a, b⟩ := p
          have hk0 := hgd.k0
          have hk9 := hgd.k9
          have ha1 := hgd.a1
          have hb2 := hgd.b2
          simp only at cA cB cC hk0 hk9 ha1 hb2
          have HB9 : Hid (Own x2 wr [eNodes u12 (z1 ++ (z2.take j).map (shf z1.length))] []) := HO.out
          have HO1 := Lib.hid (HB9.out.lit 44 3 1 #[.int .i64 k, .int .i64 a, .int .i64 b] rfl (by simp [maxLen]))
          obtain ⟨P, hP⟩ : ∃ P, P = z1 ++ (z2.take j).map (shf z1.length) := ⟨_, rfl⟩
          have hPl : P.length ≤ 1000 := by rw [hP]; simp; have := HN1.out; have := HN2.out; omega
          rw [← hP] at HTk HO1 HB9
          have HP := Lib.hid hP
          rw [HN1.out] at HTk
          have e1 : (j : Int) < (N2 : Int) := by omega
          clear hp hgd HO hbw hP
          obtain ⟨d0, f0⟩ := HO1.out.cell (t := 44) (sz := 3) (n := 1) (cap := 1) (g := wr.heap.size) (xs := [.int .i64 k, .int .i64 a, .int .i64 b]) (j := 0) (by simp) rfl
          obtain ⟨d1, f1⟩ := HO1.out.cell (t := 44) (sz := 3) (n := 1) (cap := 1) (g := wr.heap.size) (xs := [.int .i64 k, .int .i64 a, .int .i64 b]) (j := 1) (by simp) rfl
          obtain ⟨d2, f2⟩ := HO1.out.cell (t := 44) (sz := 3) (n := 1) (cap := 1) (g := wr.heap.size) (xs := [.int .i64 k, .int .i64 a, .int .i64 b]) (j := 2) (by simp) rfl
          rcases (show (k = 0 ∨ k = 1 ∨ k = 2) ∨ (k = 3 ∨ k = 6 ∨ k = 7) ∨ (k = 4 ∨ k = 5 ∨ k = 8 ∨ k = 9) by omega) with hk | hk | hk
          · as_aux_lemma =>
            have HE : Hid (shf N1 (k, a, b) = (k, a, b)) := by
              rcases hk with rfl | rfl | rfl <;> rfl
            have HO2 := Lib.hid (HB9.out.lit 44 3 1 #[.int .i64 k, .int .i64 a, .int .i64 b] rfl (by simp [maxLen]))
            obtain ⟨q0, _⟩ := HO2.out.cell (t := 44) (sz := 3) (n := 1) (cap := 1) (g := wr.heap.size) (xs := [.int .i64 k, .int .i64 a, .int .i64 b]) (j := 0) (by simp) rfl
            obtain ⟨q1, _⟩ := HO2.out.cell (t := 44) (sz := 3) (n := 1) (cap := 1) (g := wr.heap.size) (xs := [.int .i64 k, .int .i64 a, .int .i64 b]) (j := 1) (by simp) rfl
            obtain ⟨q2, _⟩ := HO2.out.cell (t := 44) (sz := 3) (n := 1) (cap := 1) (g := wr.heap.size) (xs := [.int .i64 k, .int .i64 a, .int .i64 b]) (j := 2) (by simp) rfl
            have HSz : Hid ((wr.alloc (.cells #[.int .i64 k, .int .i64 a, .int .i64 b] 44)).heap.size = wr.heap.size + 1) := by unfold Hid; simp
            have HO3 := Lib.hid HO2.out.tail
            rw [HE.out] at HTk
            clear ha1 hb2 HE HO1 HO2 HB9
            rcases hk with rfl | rfl | rfl
            all_goals
              go_wp2_with (at_builtin; refine own_node (m := (_, a, b)) (by rfl) _ _ (by rfl) (by rfl) HO3.out (by rw [HSz.out]; rfl) (by omega) ?_)
              intro g9 cap9 w9 ho9
              have HN9 : Hid (AllI x2 w9 z1 z2 (j + 1) (.slice (some ⟨g9, 0, none⟩) (P.length + 1) cap9)) := by
                unfold Hid AllI
                rw [HN1.out, HTk.out]
                exact ho9
              clear ho9 HO3 d0 d1 d2 f0 f1 f2 q0 q1 q2
              go_wp2
              go_roundw
              case rel => exact ⟨j + 1, by omega, by go_num, HN9⟩
              case measure => simp [intOf]; omega
          · as_aux_lemma =>
            have HE : Hid (shf N1 (k, a, b) = (k, a + (N1 : Int), b)) := by
              rcases hk with rfl | rfl | rfl <;> rfl
            have ha := ha1 (by rcases hk with rfl | rfl | rfl <;> decide)
            have HO2 := Lib.hid (HB9.out.lit 44 3 1 #[.int .i64 k, .int .i64 (a + (N1 : Int)), .int .i64 b] rfl (by simp [maxLen]))
            obtain ⟨q0, _⟩ := HO2.out.cell (t := 44) (sz := 3) (n := 1) (cap := 1) (g := wr.heap.size) (xs := [.int .i64 k, .int .i64 (a + (N1 : Int)), .int .i64 b]) (j := 0) (by simp) rfl
            obtain ⟨q1, _⟩ := HO2.out.cell (t := 44) (sz := 3) (n := 1) (cap := 1) (g := wr.heap.size) (xs := [.int .i64 k, .int .i64 (a + (N1 : Int)), .int .i64 b]) (j := 1) (by simp) rfl
            obtain ⟨q2, _⟩ := HO2.out.cell (t := 44) (sz := 3) (n := 1) (cap := 1) (g := wr.heap.size) (xs := [.int .i64 k, .int .i64 (a + (N1 : Int)), .int .i64 b]) (j := 2) (by simp) rfl
            have HSz : Hid ((wr.alloc (.cells #[.int .i64 k, .int .i64 (a + (N1 : Int)), .int .i64 b] 44)).heap.size = wr.heap.size + 1) := by unfold Hid; simp
            have HO3 := Lib.hid HO2.out.tail
            rw [HE.out] at HTk
            clear ha1 hb2 HE HO1 HO2 HB9
            rcases hk with rfl | rfl | rfl
            all_goals
              go_wp2_with (at_builtin; refine own_node (m := (_, (a + (N1 : Int)), b)) (by rfl) _ _ (by rfl) (by rfl) HO3.out (by rw [HSz.out]; rfl) (by omega) ?_)
              intro g9 cap9 w9 ho9
              have HN9 : Hid (AllI x2 w9 z1 z2 (j + 1) (.slice (some ⟨g9, 0, none⟩) (P.length + 1) cap9)) := by
                unfold Hid AllI
                rw [HN1.out, HTk.out]
                exact ho9
              clear ho9 HO3 d0 d1 d2 f0 f1 f2 q0 q1 q2
              go_wp2
              go_roundw
              case rel => exact ⟨j + 1, by omega, by go_num, HN9⟩
              case measure => simp [intOf]; omega
          · as_aux_lemma =>
            have HE : Hid (shf N1 (k, a, b) = (k, a + (N1 : Int), b + (N1 : Int))) := by
              rcases hk with rfl | rfl | rfl | rfl <;> rfl
            have ha := ha1 (by rcases hk with rfl | rfl | rfl | rfl <;> decide)
            have hb := hb2 (by rcases hk with rfl | rfl | rfl | rfl <;> decide)
            have HO2 := Lib.hid (HB9.out.lit 44 3 1 #[.int .i64 k, .int .i64 (a + (N1 : Int)), .int .i64 (b + (N1 : Int))] rfl (by simp [maxLen]))
            obtain ⟨q0, _⟩ := HO2.out.cell (t := 44) (sz := 3) (n := 1) (cap := 1) (g := wr.heap.size) (xs := [.int .i64 k, .int .i64 (a + (N1 : Int)), .int .i64 (b + (N1 : Int))]) (j := 0) (by simp) rfl
            obtain ⟨q1, _⟩ := HO2.out.cell (t := 44) (sz := 3) (n := 1) (cap := 1) (g := wr.heap.size) (xs := [.int .i64 k, .int .i64 (a + (N1 : Int)), .int .i64 (b + (N1 : Int))]) (j := 1) (by simp) rfl
            obtain ⟨q2, _⟩ := HO2.out.cell (t := 44) (sz := 3) (n := 1) (cap := 1) (g := wr.heap.size) (xs := [.int .i64 k, .int .i64 (a + (N1 : Int)), .int .i64 (b + (N1 : Int))]) (j := 2) (by simp) rfl
            have HSz : Hid ((wr.alloc (.cells #[.int .i64 k, .int .i64 (a + (N1 : Int)), .int .i64 (b + (N1 : Int))] 44)).heap.size = wr.heap.size + 1) := by unfold Hid; simp
            have HO3 := Lib.hid HO2.out.tail
            rw [HE.out] at HTk
            clear ha1 hb2 HE HO1 HO2 HB9
            rcases hk with rfl | rfl | rfl | rfl
            all_goals
              go_wp2_with (at_builtin; refine own_node (m := (_, (a + (N1 : Int)), (b + (N1 : Int)))) (by rfl) _ _ (by rfl) (by rfl) HO3.out (by rw [HSz.out]; rfl) (by omega) ?_)
              intro g9 cap9 w9 ho9
              have HN9 : Hid (AllI x2 w9 z1 z2 (j + 1) (.slice (some ⟨g9, 0, none⟩) (P.length + 1) cap9)) := by
                unfold Hid AllI
                rw [HN1.out, HTk.out]
                exact ho9
              clear ho9 HO3 d0 d1 d2 f0 f1 f2 q0 q1 q2
              go_wp2
              go_roundw
              case rel => exact ⟨j + 1, by omega, by go_num, HN9⟩
              case measure => simp [intOf]; omega
        · obtain rfl : j = N2 := by omega
          have HOf := HO.out
          unfold AllI at HOf
          rw [List.take_of_length_le (by rw [HN2.out]; exact Nat.le_refl _)] at HOf
          obtain ⟨AA, cc, hv, _, _, hF⟩ := own_nodes HOf (v := u12) (l := z1 ++ z2.map (shf z1.length)) (by simp) HSm.out
          have hK : (z1 ++ z2.map (shf z1.length)).length = N1 + j := by simp [HN1.out, HN2.out]
          obtain ⟨K, hKK⟩ : ∃ K, K = N1 + j := ⟨_, rfl⟩
          rw [hK, ← hKK] at hv
          rw [← hKK] at hK
          subst hv
          have hbw : Below x2.heap.size x2 wr := HOf.below
          have B := Lib.hid (B.out.trans (hbw.mono B.out.size))
          have VA := Lib.hid (VA0.out.on hbw)
          have VB := Lib.hid (VB0.out.on hbw)
          have HN := Lib.hid (HN0.out.on hbw)
          have HF := Lib.hid hF
          have HKn := Lib.hid hK
          have HJ := Lib.hid (show ∀ k : Int, (z1 ++ z2.map (shf z1.length)) ++ [(k, (N1 : Int) - 1, (K : Int) - 1)] = join z1 z2 k from fun k => by unfold join; rw [HN1.out, HN2.out, hKK, show ((N1 + j : Nat) : Int) = (N1 : Int) + (j : Int) from by omega])
          have hn5 : (0 : Int) < (n11 : Int) := by have := VA.out.at_.eqs.2.2.1; have := HNx.out; omega
          have hn6 : (0 : Int) < (n12 : Int) := by have := VB.out.at_.eqs.2.2.1; have := HNy.out; omega
          have hKb : K ≤ 80 := by omega
          have hK1 : 1 ≤ K := by omega
          clear HO HOf hF hK hbw VA0 VB0 HN0 HM0 hKK
          generalize z1 ++ z2.map (shf z1.length) = F at *
          obtain ⟨p0, p1, p2, p3, p4⟩ := VA.out.box
          obtain ⟨q0, q1, q2, q3, q4⟩ := VB.out.box
          go_wp2
          clear p0 p1 p2 p3 p4 q0 q1 q2 q3 q4
          have HBw : Hid (Below wr.heap.size wr wr) := Below.refl _ _
          have HBL := B
          generalize hwL : wr = wL at *
          clear hwL
          go_loopw [16, 17] (fun okv i wr => ∃ (xk : Int), (xk = 4 ∨ xk = 5 ∨ xk = 6) ∧ okv = .bool true ∧ i = .int .i64 xk ∧ Hid (Below wL.heap.size wL wr)) (fun _ i _ => 6 - (intOf i).toNat)
          case atStart => exact ⟨4, by omega, by rw [decide_eq_true (show 0 < n12 by omega)], rfl, HBw⟩
          case round =>
            clear HBw
            obtain ⟨xk, hxk, rfl, rfl, HBw⟩ := hrel
            have VA := Lib.hid (VA.out.on HBw.out)
            have VB := Lib.hid (VB.out.on HBw.out)
            have HN := Lib.hid (HN.out.on HBw.out)
            have HF := Lib.hid (HF.out.on HBw.out)
            have B := HBw
            clear HBw
            rcases hxk with rfl | rfl | rfl
            · as_aux_lemma =>
              have hsm : NdSmall (4, (N1 : Int) - 1, (K : Int) - 1) := small_nd (by decide) ⟨by omega, by omega⟩ ⟨by omega, by omega⟩
              have HMo := Lib.hid (fun A c W (hA : NodesAt W W.heap.size A F) => by
                have h := more_one (f := F) (by rw [HKn.out]; omega) (by rw [HKn.out]; omega) HKn.out HSm.out 4 ((N1 : Int) - 1) ((K : Int) - 1) hsm A c W hA
                rw [HJ.out] at h
                exact h)
              have hjl : (join z1 z2 4).length = K + 1 := by rw [← HJ.out, List.length_append, HKn.out]; rfl
              rcases mk_cases a0 (join z1 z2 4) with ⟨lz, mz, gz, hlz, hmz, hrz⟩ | ⟨kz, hrz, _⟩
              · have HZ := Lib.hid (fun W A c hA => make_len (E := .nilIface) HL.out hjl (by omega) hrz rfl W A c hA)
                have gdz := front_good gz hlz hmz
                have hj40 : z1.length + z2.length < 40 := by have := gz.le; rw [join_length] at this; omega
                rcases HPr.out with ⟨kp, hpr⟩ | ⟨gp2, lp, hfp⟩
                · have HBo := Lib.hid (fun W v z (h : DfaAt W W.heap.size v x) (h2 : DfaAt W W.heap.size z y) => both_gives (E := .iface 60 (.int .i64 ((kp + 1 : Nat) : Int))) h h2 (hpr _) rfl)
                  have HEi := Lib.hid (fun W v z (h : DfaAt W W.heap.size v x) (h2 : DfaAt W W.heap.size z y) => either_own (E := .iface 60 (.int .i64 ((kp + 1 : Nat) : Int))) h h2 (hpr _) rfl)
                  clear hpr hrz gdz gz hlz hmz hjl hj40
                  generalize ((kp + 1 : Nat) : Int) = kp1 at *
                  generalize frontA a0 (join z1 z2 4) lz mz = rz at *
                  generalize join z1 z2 4 = H at *
                  clear HEi
                  go_wp2_with fail
                  refine (HMo.out _ _ _ HF.out).mono ?_
                  rintro e u21 ⟨he, hb⟩
                  obtain ⟨A', c', rfl, hH⟩ := he.out
                  have HN := Lib.hid (HN.out.on hb)
                  have HF := Lib.hid (HF.out.on hb)
                  have VA := Lib.hid (VA.out.on hb)
                  have VB := Lib.hid (VB.out.on hb)
                  have B := Lib.hid (B.out.trans (hb.mono B.out.size))
                  have HH := Lib.hid hH.out
                  clear he hb hH HMo
                  go_wp2_with fail
                  refine (HZ.out _ _ _ HH.out).mono ?_
                  rintro e u22 ⟨L32, s32, A32, n32, c32, F32, m32, k32, rfl, hd, hb⟩
                  have HN := Lib.hid (HN.out.on hb)
                  have HF := Lib.hid (HF.out.on hb)
                  have VA := Lib.hid (VA.out.on hb)
                  have VB := Lib.hid (VB.out.on hb)
                  have B := Lib.hid (B.out.trans (hb.mono B.out.size))
                  clear hb  HZ HH
                  obtain ⟨x22, hx22, hbn, Vn⟩ := var_new u22 hd.out
                  have VZ := Lib.hid Vn
                  have HN := Lib.hid (HN.out.on hbn)
                  have HF := Lib.hid (HF.out.on hbn)
                  have VA := Lib.hid (VA.out.on hbn)
                  have VB := Lib.hid (VB.out.on hbn)
                  have B := Lib.hid (B.out.trans (hbn.mono B.out.size))
                  clear hbn Vn hd
                  obtain ⟨p0, p1, p2, p3, p4⟩ := VA.out.box
                  rw [hx22] at p1 p2 p3 p4
                  obtain ⟨q0, q1, q2, q3, q4⟩ := VB.out.box
                  rw [hx22] at q1 q2 q3 q4
                  have HX := Lib.hid hx22
                  clear hx22
                  go_wp2_with fail
                  rw [← HX.out]
                  clear HX
                  refine (HBo.out _ _ _ VA.out.at_ VB.out.at_).mono ?_
                  rintro e u23 ⟨L33, s33, A33, n33, c33, F33, m33, k33, rfl, hd, hb⟩
                  have HN := Lib.hid (HN.out.on hb)
                  have HF := Lib.hid (HF.out.on hb)
                  have VA := Lib.hid (VA.out.on hb)
                  have VB := Lib.hid (VB.out.on hb)
                  have VZ := Lib.hid (VZ.out.on hb)
                  have B := Lib.hid (B.out.trans (hb.mono B.out.size))
                  clear hb p0 p1 p2 p3 p4 q0 q1 q2 q3 q4 HBo
                  obtain ⟨x23, hx23, hbn, Vn⟩ := var_new u23 hd.out
                  have VP := Lib.hid Vn
                  have HN := Lib.hid (HN.out.on hbn)
                  have HF := Lib.hid (HF.out.on hbn)
                  have VA := Lib.hid (VA.out.on hbn)
                  have VB := Lib.hid (VB.out.on hbn)
                  have VZ := Lib.hid (VZ.out.on hbn)
                  have B := Lib.hid (B.out.trans (hbn.mono B.out.size))
                  clear hbn Vn hd
                  rw [hx23] at B
                  clear hx23
                  clear VA VB VZ VP HN HF
                  go_wp2
                  go_roundw
                  case rel => exact ⟨5, by omega, rfl, by go_num, B⟩
                  case measure => simp [intOf]
                · have gdp := prod_good gp2 hfp (fun p => finA x p.1 && finA y p.2)
                  have hacc : ∀ w, Word a0 w → accA (autOf x.L (S2 x y) lp (fun p => finA x p.1 && finA y p.2)) w = vat (join z1 z2 4) w ((join z1 z2 4).length - 1) 0 := fun w hw => by
                    rw [(join_good HG1.out HG2.out hj40 (k := 4) (by omega)).2, prod_acc gp2 hfp (fun a b => a && b) (by rw [HeL1.out]; exact hw), HAc1.out w hw, HAc2.out w hw]
                    rfl
                  have hmp := front_of gz hlz hmz gdp HeL1.out hacc
                  have HBo := Lib.hid (fun W v z (h : DfaAt W W.heap.size v x) (h2 : DfaAt W W.heap.size z y) => both_gives (E := .nilIface) h h2 (prod_ok gp2 hfp _) rfl)
                  have HEi := Lib.hid (fun W v z (h : DfaAt W W.heap.size v x) (h2 : DfaAt W W.heap.size z y) => either_own (E := .nilIface) h h2 (prod_ok gp2 hfp _) rfl)
                  have HMin := Lib.hid (fun W v (h : DfaAt W W.heap.size v (autOf x.L (S2 x y) lp (fun p => finA x p.1 && finA y p.2))) => min_gives (E := .nilIface) h ((minOut_ok (dchk_iff.2 gdp)).trans (by rw [hmp])) rfl)
                  have HSm := Lib.hid (fun W v z (h : DfaAt W W.heap.size v (frontA a0 (join z1 z2 4) lz mz)) (h2 : DfaAt W W.heap.size z (frontA a0 (join z1 z2 4) lz mz)) => same_gives h h2 gdz.lite rfl)
                  clear gdp hacc hmp hfp hrz gdz gz hlz hmz hjl hj40 gp2
                  generalize autOf x.L (S2 x y) lp (fun p => finA x p.1 && finA y p.2) = pa at *
                  generalize autOf x.L (S2 x y) lp (fun p => finA x p.1 || finA y p.2) = po at *
                  generalize frontA a0 (join z1 z2 4) lz mz = rz at *
                  generalize join z1 z2 4 = H at *
                  clear HEi
                  go_wp2_with fail
                  refine (HMo.out _ _ _ HF.out).mono ?_
                  rintro e u21 ⟨he, hb⟩
                  obtain ⟨A', c', rfl, hH⟩ := he.out
                  have HN := Lib.hid (HN.out.on hb)
                  have HF := Lib.hid (HF.out.on hb)
                  have VA := Lib.hid (VA.out.on hb)
                  have VB := Lib.hid (VB.out.on hb)
                  have B := Lib.hid (B.out.trans (hb.mono B.out.size))
                  have HH := Lib.hid hH.out
                  clear he hb hH HMo
                  go_wp2_with fail
                  refine (HZ.out _ _ _ HH.out).mono ?_
                  rintro e u22 ⟨L32, s32, A32, n32, c32, F32, m32, k32, rfl, hd, hb⟩
                  have HN := Lib.hid (HN.out.on hb)
                  have HF := Lib.hid (HF.out.on hb)
                  have VA := Lib.hid (VA.out.on hb)
                  have VB := Lib.hid (VB.out.on hb)
                  have B := Lib.hid (B.out.trans (hb.mono B.out.size))
                  clear hb  HZ HH
                  obtain ⟨x22, hx22, hbn, Vn⟩ := var_new u22 hd.out
                  have VZ := Lib.hid Vn
                  have HN := Lib.hid (HN.out.on hbn)
                  have HF := Lib.hid (HF.out.on hbn)
                  have VA := Lib.hid (VA.out.on hbn)
                  have VB := Lib.hid (VB.out.on hbn)
                  have B := Lib.hid (B.out.trans (hbn.mono B.out.size))
                  clear hbn Vn hd
                  obtain ⟨p0, p1, p2, p3, p4⟩ := VA.out.box
                  rw [hx22] at p1 p2 p3 p4
                  obtain ⟨q0, q1, q2, q3, q4⟩ := VB.out.box
                  rw [hx22] at q1 q2 q3 q4
                  have HX := Lib.hid hx22
                  clear hx22
                  go_wp2_with fail
                  rw [← HX.out]
                  clear HX
                  refine (HBo.out _ _ _ VA.out.at_ VB.out.at_).mono ?_
                  rintro e u23 ⟨L33, s33, A33, n33, c33, F33, m33, k33, rfl, hd, hb⟩
                  have HN := Lib.hid (HN.out.on hb)
                  have HF := Lib.hid (HF.out.on hb)
                  have VA := Lib.hid (VA.out.on hb)
                  have VB := Lib.hid (VB.out.on hb)
                  have VZ := Lib.hid (VZ.out.on hb)
                  have B := Lib.hid (B.out.trans (hb.mono B.out.size))
                  clear hb p0 p1 p2 p3 p4 q0 q1 q2 q3 q4 HBo
                  obtain ⟨x23, hx23, hbn, Vn⟩ := var_new u23 hd.out
                  have VP := Lib.hid Vn
                  have HN := Lib.hid (HN.out.on hbn)
                  have HF := Lib.hid (HF.out.on hbn)
                  have VA := Lib.hid (VA.out.on hbn)
                  have VB := Lib.hid (VB.out.on hbn)
                  have VZ := Lib.hid (VZ.out.on hbn)
                  have B := Lib.hid (B.out.trans (hbn.mono B.out.size))
                  clear hbn Vn hd
                  obtain ⟨p0, p1, p2, p3, p4⟩ := VP.out.box
                  rw [hx23] at p1 p2 p3 p4
                  have HX := Lib.hid hx23
                  clear hx23
                  go_wp2_with fail
                  rw [← HX.out]
                  clear HX
                  refine (HMin.out _ _ VP.out.at_).mono ?_
                  rintro e u24 ⟨L34, s34, A34, n34, c34, F34, m34, k34, rfl, hd, hb⟩
                  have HN := Lib.hid (HN.out.on hb)
                  have HF := Lib.hid (HF.out.on hb)
                  have VA := Lib.hid (VA.out.on hb)
                  have VB := Lib.hid (VB.out.on hb)
                  have VZ := Lib.hid (VZ.out.on hb)
                  have VP := Lib.hid (VP.out.on hb)
                  have B := Lib.hid (B.out.trans (hb.mono B.out.size))
                  clear hb p0 p1 p2 p3 p4 HMin
                  obtain ⟨x24, hx24, hbn, Vn⟩ := var_new u24 hd.out
                  have VM := Lib.hid Vn
                  have HN := Lib.hid (HN.out.on hbn)
                  have HF := Lib.hid (HF.out.on hbn)
                  have VA := Lib.hid (VA.out.on hbn)
                  have VB := Lib.hid (VB.out.on hbn)
                  have VZ := Lib.hid (VZ.out.on hbn)
                  have VP := Lib.hid (VP.out.on hbn)
                  have B := Lib.hid (B.out.trans (hbn.mono B.out.size))
                  clear hbn Vn hd
                  obtain ⟨p0, p1, p2, p3, p4⟩ := VM.out.box
                  rw [hx24] at p1 p2 p3 p4
                  obtain ⟨q0, q1, q2, q3, q4⟩ := VZ.out.box
                  rw [hx24] at q1 q2 q3 q4
                  have HX := Lib.hid hx24
                  clear hx24
                  go_wp2_with fail
                  rw [← HX.out]
                  clear HX
                  refine (HSm.out _ _ _ VM.out.at_ VZ.out.at_).mono ?_
                  rintro e u25 ⟨rfl, hb⟩
                  have HN := Lib.hid (HN.out.on hb)
                  have HF := Lib.hid (HF.out.on hb)
                  have VA := Lib.hid (VA.out.on hb)
                  have VB := Lib.hid (VB.out.on hb)
                  have VZ := Lib.hid (VZ.out.on hb)
                  have VP := Lib.hid (VP.out.on hb)
                  have VM := Lib.hid (VM.out.on hb)
                  have B := Lib.hid (B.out.trans (hb.mono B.out.size))
                  clear hb p0 p1 p2 p3 p4 q0 q1 q2 q3 q4 HSm
                  clear VA VB VZ VP VM HN HF
                  go_wp2
                  go_roundw
                  case rel => exact ⟨5, by omega, rfl, by go_num, B⟩
                  case measure => simp [intOf]
              · have HZ := Lib.hid (fun W A c hA => make_len (E := .iface 60 (.int .i64 ((kz + 1 : Nat) : Int))) HL.out hjl (by omega) hrz rfl W A c hA)
                obtain ⟨⟨pa, ka⟩, hpa⟩ : ∃ p, p = prodOut (fun a b => a && b) x y := ⟨_, rfl⟩
                obtain ⟨⟨po, kb⟩, hpo⟩ : ∃ p, p = prodOut (fun a b => a || b) x y := ⟨_, rfl⟩
                have HBo := Lib.hid (fun W v z (h : DfaAt W W.heap.size v x) (h2 : DfaAt W W.heap.size z y) => both_gives h h2 hpa.symm rfl)
                have HEi := Lib.hid (fun W v z (h : DfaAt W W.heap.size v x) (h2 : DfaAt W W.heap.size z y) => either_own h h2 hpo.symm rfl)
                clear hpa hpo hrz hjl
                generalize ((kz + 1 : Nat) : Int) = kz1 at *
                generalize errV ka = Ea at *
                generalize errV kb = Eb at *
                generalize join z1 z2 4 = H at *
                clear HEi
                go_wp2_with fail
                refine (HMo.out _ _ _ HF.out).mono ?_
                rintro e u21 ⟨he, hb⟩
                obtain ⟨A', c', rfl, hH⟩ := he.out
                have HN := Lib.hid (HN.out.on hb)
                have HF := Lib.hid (HF.out.on hb)
                have VA := Lib.hid (VA.out.on hb)
                have VB := Lib.hid (VB.out.on hb)
                have B := Lib.hid (B.out.trans (hb.mono B.out.size))
                have HH := Lib.hid hH.out
                clear he hb hH HMo
                go_wp2_with fail
                refine (HZ.out _ _ _ HH.out).mono ?_
                rintro e u22 ⟨L32, s32, A32, n32, c32, F32, m32, k32, rfl, hd, hb⟩
                have HN := Lib.hid (HN.out.on hb)
                have HF := Lib.hid (HF.out.on hb)
                have VA := Lib.hid (VA.out.on hb)
                have VB := Lib.hid (VB.out.on hb)
                have B := Lib.hid (B.out.trans (hb.mono B.out.size))
                clear hb  HZ HH
                obtain ⟨x22, hx22, hbn, Vn⟩ := var_new u22 hd.out
                have VZ := Lib.hid Vn
                have HN := Lib.hid (HN.out.on hbn)
                have HF := Lib.hid (HF.out.on hbn)
                have VA := Lib.hid (VA.out.on hbn)
                have VB := Lib.hid (VB.out.on hbn)
                have B := Lib.hid (B.out.trans (hbn.mono B.out.size))
                clear hbn Vn hd
                obtain ⟨p0, p1, p2, p3, p4⟩ := VA.out.box
                rw [hx22] at p1 p2 p3 p4
                obtain ⟨q0, q1, q2, q3, q4⟩ := VB.out.box
                rw [hx22] at q1 q2 q3 q4
                have HX := Lib.hid hx22
                clear hx22
                go_wp2_with fail
                rw [← HX.out]
                clear HX
                refine (HBo.out _ _ _ VA.out.at_ VB.out.at_).mono ?_
                rintro e u23 ⟨L33, s33, A33, n33, c33, F33, m33, k33, rfl, hd, hb⟩
                have HN := Lib.hid (HN.out.on hb)
                have HF := Lib.hid (HF.out.on hb)
                have VA := Lib.hid (VA.out.on hb)
                have VB := Lib.hid (VB.out.on hb)
                have VZ := Lib.hid (VZ.out.on hb)
                have B := Lib.hid (B.out.trans (hb.mono B.out.size))
                clear hb p0 p1 p2 p3 p4 q0 q1 q2 q3 q4 HBo
                obtain ⟨x23, hx23, hbn, Vn⟩ := var_new u23 hd.out
                have VP := Lib.hid Vn
                have HN := Lib.hid (HN.out.on hbn)
                have HF := Lib.hid (HF.out.on hbn)
                have VA := Lib.hid (VA.out.on hbn)
                have VB := Lib.hid (VB.out.on hbn)
                have VZ := Lib.hid (VZ.out.on hbn)
                have B := Lib.hid (B.out.trans (hbn.mono B.out.size))
                clear hbn Vn hd
                rw [hx23] at B
                clear hx23
                clear VA VB VZ VP HN HF
                go_wp2
                go_roundw
                case rel => exact ⟨5, by omega, rfl, by go_num, B⟩
                case measure => simp [intOf]
            · as_aux_lemma =>
              have hsm : NdSmall (5, (N1 : Int) - 1, (K : Int) - 1) := small_nd (by decide) ⟨by omega, by omega⟩ ⟨by omega, by omega⟩
              have HMo := Lib.hid (fun A c W (hA : NodesAt W W.heap.size A F) => by
                have h := more_one (f := F) (by rw [HKn.out]; omega) (by rw [HKn.out]; omega) HKn.out HSm.out 5 ((N1 : Int) - 1) ((K : Int) - 1) hsm A c W hA
                rw [HJ.out] at h
                exact h)
              have hjl : (join z1 z2 5).length = K + 1 := by rw [← HJ.out, List.length_append, HKn.out]; rfl
              rcases mk_cases a0 (join z1 z2 5) with ⟨lz, mz, gz, hlz, hmz, hrz⟩ | ⟨kz, hrz, _⟩
              · have HZ := Lib.hid (fun W A c hA => make_len (E := .nilIface) HL.out hjl (by omega) hrz rfl W A c hA)
                have gdz := front_good gz hlz hmz
                have hj40 : z1.length + z2.length < 40 := by have := gz.le; rw [join_length] at this; omega
                rcases HPr.out with ⟨kp, hpr⟩ | ⟨gp2, lp, hfp⟩
                · have HBo := Lib.hid (fun W v z (h : DfaAt W W.heap.size v x) (h2 : DfaAt W W.heap.size z y) => both_gives (E := .iface 60 (.int .i64 ((kp + 1 : Nat) : Int))) h h2 (hpr _) rfl)
                  have HEi := Lib.hid (fun W v z (h : DfaAt W W.heap.size v x) (h2 : DfaAt W W.heap.size z y) => either_own (E := .iface 60 (.int .i64 ((kp + 1 : Nat) : Int))) h h2 (hpr _) rfl)
                  clear hpr hrz gdz gz hlz hmz hjl hj40
                  generalize ((kp + 1 : Nat) : Int) = kp1 at *
                  generalize frontA a0 (join z1 z2 5) lz mz = rz at *
                  generalize join z1 z2 5 = H at *
                  go_wp2_with fail
                  refine (HMo.out _ _ _ HF.out).mono ?_
                  rintro e u21 ⟨he, hb⟩
                  obtain ⟨A', c', rfl, hH⟩ := he.out
                  have HN := Lib.hid (HN.out.on hb)
                  have HF := Lib.hid (HF.out.on hb)
                  have VA := Lib.hid (VA.out.on hb)
                  have VB := Lib.hid (VB.out.on hb)
                  have B := Lib.hid (B.out.trans (hb.mono B.out.size))
                  have HH := Lib.hid hH.out
                  clear he hb hH HMo
                  go_wp2_with fail
                  refine (HZ.out _ _ _ HH.out).mono ?_
                  rintro e u22 ⟨L32, s32, A32, n32, c32, F32, m32, k32, rfl, hd, hb⟩
                  have HN := Lib.hid (HN.out.on hb)
                  have HF := Lib.hid (HF.out.on hb)
                  have VA := Lib.hid (VA.out.on hb)
                  have VB := Lib.hid (VB.out.on hb)
                  have B := Lib.hid (B.out.trans (hb.mono B.out.size))
                  clear hb  HZ HH
                  obtain ⟨x22, hx22, hbn, Vn⟩ := var_new u22 hd.out
                  have VZ := Lib.hid Vn
                  have HN := Lib.hid (HN.out.on hbn)
                  have HF := Lib.hid (HF.out.on hbn)
                  have VA := Lib.hid (VA.out.on hbn)
                  have VB := Lib.hid (VB.out.on hbn)
                  have B := Lib.hid (B.out.trans (hbn.mono B.out.size))
                  clear hbn Vn hd
                  obtain ⟨p0, p1, p2, p3, p4⟩ := VA.out.box
                  rw [hx22] at p1 p2 p3 p4
                  obtain ⟨q0, q1, q2, q3, q4⟩ := VB.out.box
                  rw [hx22] at q1 q2 q3 q4
                  have HX := Lib.hid hx22
                  clear hx22
                  go_wp2_with fail
                  rw [← HX.out]
                  clear HX
                  refine (HBo.out _ _ _ VA.out.at_ VB.out.at_).mono ?_
                  rintro e u23 ⟨L33, s33, A33, n33, c33, F33, m33, k33, rfl, hd, hb⟩
                  have HN := Lib.hid (HN.out.on hb)
                  have HF := Lib.hid (HF.out.on hb)
                  have VA := Lib.hid (VA.out.on hb)
                  have VB := Lib.hid (VB.out.on hb)
                  have VZ := Lib.hid (VZ.out.on hb)
                  have B := Lib.hid (B.out.trans (hb.mono B.out.size))
                  clear hb p0 p1 p2 p3 p4 q0 q1 q2 q3 q4 HBo
                  obtain ⟨x23, hx23⟩ : ∃ W, W = u23.alloc (.cells #[.int .i64 L33, .int .i64 s33, .slice A33 n33 c33, .slice F33 m33 k33] 25) := ⟨_, rfl⟩
                  have HOp : Hid (Own u23 x23 [eDfa u23.heap.size [.int .i64 L33, .int .i64 s33, .slice A33 n33 c33, .slice F33 m33 k33]] []) := by rw [hx23]; exact (own_start u23).dfa (.int .i64 L33) (.int .i64 s33) (.slice A33 n33 c33) (.slice F33 m33 k33)
                  have HN0 := HN
                  have HF0 := HF
                  have VA0 := VA
                  have VB0 := VB
                  have VZ0 := VZ
                  have B0 := B
                  have hbn := HOp.out.below
                  have HN := Lib.hid (HN.out.on hbn)
                  have HF := Lib.hid (HF.out.on hbn)
                  have VA := Lib.hid (VA.out.on hbn)
                  have VB := Lib.hid (VB.out.on hbn)
                  have VZ := Lib.hid (VZ.out.on hbn)
                  have B := Lib.hid (B.out.trans (hbn.mono B.out.size))
                  clear hbn hd
                  obtain ⟨p0, p1, p2, p3, p4⟩ := VA.out.box
                  rw [hx23] at p1 p2 p3 p4
                  obtain ⟨q0, q1, q2, q3, q4⟩ := VB.out.box
                  rw [hx23] at q1 q2 q3 q4
                  have HX := Lib.hid hx23
                  clear hx23
                  go_wp2_with fail
                  rw [← HX.out]
                  clear HX
                  refine (HEi.out _ _ _ VA.out.at_ VB.out.at_).mono ?_
                  rintro e u24 ⟨L34, s34, A34, n34, c34, F34, m34, k34, rfl, hxo, hb⟩
                  have HIn := into_any HOp.out hxo.out
                  have hpq := HOp.out.on hb
                  clear p0 p1 p2 p3 p4 q0 q1 q2 q3 q4 HEi HOp HN HF VA VB VZ B
                  obtain ⟨g0, f0⟩ := hpq.dcell (g := u23.heap.size) (l := [.int .i64 L33, .int .i64 s33, .slice A33 n33 c33, .slice F33 m33 k33]) (j := 0) (by simp) rfl
                  obtain ⟨g1, f1⟩ := hpq.dcell (g := u23.heap.size) (l := [.int .i64 L33, .int .i64 s33, .slice A33 n33 c33, .slice F33 m33 k33]) (j := 1) (by simp) rfl
                  obtain ⟨g2, f2⟩ := hpq.dcell (g := u23.heap.size) (l := [.int .i64 L33, .int .i64 s33, .slice A33 n33 c33, .slice F33 m33 k33]) (j := 2) (by simp) rfl
                  obtain ⟨g3, f3⟩ := hpq.dcell (g := u23.heap.size) (l := [.int .i64 L33, .int .i64 s33, .slice A33 n33 c33, .slice F33 m33 k33]) (j := 3) (by simp) rfl
                  obtain ⟨hio, c0, c1, c2, c3⟩ := HIn
                  clear hpq hxo hb
                  obtain ⟨x24, hx24⟩ : ∃ W, W = (((u24.setCell ⟨u23.heap.size, 0, none⟩ (.int .i64 L34)).setCell ⟨u23.heap.size, 1, none⟩ (.int .i64 s34)).setCell ⟨u23.heap.size, 2, none⟩ (.slice A34 n34 c34)).setCell ⟨u23.heap.size, 3, none⟩ (.slice F34 m34 k34) := ⟨_, rfl⟩
                  rw [← hx24] at hio
                  have hbq := hio.below
                  have HN := Lib.hid (HN0.out.on hbq)
                  have HF := Lib.hid (HF0.out.on hbq)
                  have VA := Lib.hid (VA0.out.on hbq)
                  have VB := Lib.hid (VB0.out.on hbq)
                  have VZ := Lib.hid (VZ0.out.on hbq)
                  have B := Lib.hid (B0.out.trans (hbq.mono B0.out.size))
                  have HPd := Lib.hid hio.at_
                  clear hbq hio B0 HN0 HF0 VA0 VB0 VZ0
                  rw [hx24] at B
                  clear hx24
                  clear VA VB VZ HN HF
                  go_wp2
                  go_roundw
                  case rel => exact ⟨6, by omega, rfl, by go_num, B⟩
                  case measure => simp [intOf]
                · have gdp := prod_good gp2 hfp (fun p => finA x p.1 || finA y p.2)
                  have hacc : ∀ w, Word a0 w → accA (autOf x.L (S2 x y) lp (fun p => finA x p.1 || finA y p.2)) w = vat (join z1 z2 5) w ((join z1 z2 5).length - 1) 0 := fun w hw => by
                    rw [(join_good HG1.out HG2.out hj40 (k := 5) (by omega)).2, prod_acc gp2 hfp (fun a b => a || b) (by rw [HeL1.out]; exact hw), HAc1.out w hw, HAc2.out w hw]
                    rfl
                  have hmp := front_of gz hlz hmz gdp HeL1.out hacc
                  have HBo := Lib.hid (fun W v z (h : DfaAt W W.heap.size v x) (h2 : DfaAt W W.heap.size z y) => both_gives (E := .nilIface) h h2 (prod_ok gp2 hfp _) rfl)
                  have HEi := Lib.hid (fun W v z (h : DfaAt W W.heap.size v x) (h2 : DfaAt W W.heap.size z y) => either_own (E := .nilIface) h h2 (prod_ok gp2 hfp _) rfl)
                  have HMin := Lib.hid (fun W v (h : DfaAt W W.heap.size v (autOf x.L (S2 x y) lp (fun p => finA x p.1 || finA y p.2))) => min_gives (E := .nilIface) h ((minOut_ok (dchk_iff.2 gdp)).trans (by rw [hmp])) rfl)
                  have HSm := Lib.hid (fun W v z (h : DfaAt W W.heap.size v (frontA a0 (join z1 z2 5) lz mz)) (h2 : DfaAt W W.heap.size z (frontA a0 (join z1 z2 5) lz mz)) => same_gives h h2 gdz.lite rfl)
                  clear gdp hacc hmp hfp hrz gdz gz hlz hmz hjl hj40 gp2
                  generalize autOf x.L (S2 x y) lp (fun p => finA x p.1 && finA y p.2) = pa at *
                  generalize autOf x.L (S2 x y) lp (fun p => finA x p.1 || finA y p.2) = po at *
                  generalize frontA a0 (join z1 z2 5) lz mz = rz at *
                  generalize join z1 z2 5 = H at *
                  go_wp2_with fail
                  refine (HMo.out _ _ _ HF.out).mono ?_
                  rintro e u21 ⟨he, hb⟩
                  obtain ⟨A', c', rfl, hH⟩ := he.out
                  have HN := Lib.hid (HN.out.on hb)
                  have HF := Lib.hid (HF.out.on hb)
                  have VA := Lib.hid (VA.out.on hb)
                  have VB := Lib.hid (VB.out.on hb)
                  have B := Lib.hid (B.out.trans (hb.mono B.out.size))
                  have HH := Lib.hid hH.out
                  clear he hb hH HMo
                  go_wp2_with fail
                  refine (HZ.out _ _ _ HH.out).mono ?_
                  rintro e u22 ⟨L32, s32, A32, n32, c32, F32, m32, k32, rfl, hd, hb⟩
                  have HN := Lib.hid (HN.out.on hb)
                  have HF := Lib.hid (HF.out.on hb)
                  have VA := Lib.hid (VA.out.on hb)
                  have VB := Lib.hid (VB.out.on hb)
                  have B := Lib.hid (B.out.trans (hb.mono B.out.size))
                  clear hb  HZ HH
                  obtain ⟨x22, hx22, hbn, Vn⟩ := var_new u22 hd.out
                  have VZ := Lib.hid Vn
                  have HN := Lib.hid (HN.out.on hbn)
                  have HF := Lib.hid (HF.out.on hbn)
                  have VA := Lib.hid (VA.out.on hbn)
                  have VB := Lib.hid (VB.out.on hbn)
                  have B := Lib.hid (B.out.trans (hbn.mono B.out.size))
                  clear hbn Vn hd
                  obtain ⟨p0, p1, p2, p3, p4⟩ := VA.out.box
                  rw [hx22] at p1 p2 p3 p4
                  obtain ⟨q0, q1, q2, q3, q4⟩ := VB.out.box
                  rw [hx22] at q1 q2 q3 q4
                  have HX := Lib.hid hx22
                  clear hx22
                  go_wp2_with fail
                  rw [← HX.out]
                  clear HX
                  refine (HBo.out _ _ _ VA.out.at_ VB.out.at_).mono ?_
                  rintro e u23 ⟨L33, s33, A33, n33, c33, F33, m33, k33, rfl, hd, hb⟩
                  have HN := Lib.hid (HN.out.on hb)
                  have HF := Lib.hid (HF.out.on hb)
                  have VA := Lib.hid (VA.out.on hb)
                  have VB := Lib.hid (VB.out.on hb)
                  have VZ := Lib.hid (VZ.out.on hb)
                  have B := Lib.hid (B.out.trans (hb.mono B.out.size))
                  clear hb p0 p1 p2 p3 p4 q0 q1 q2 q3 q4 HBo
                  obtain ⟨x23, hx23⟩ : ∃ W, W = u23.alloc (.cells #[.int .i64 L33, .int .i64 s33, .slice A33 n33 c33, .slice F33 m33 k33] 25) := ⟨_, rfl⟩
                  have HOp : Hid (Own u23 x23 [eDfa u23.heap.size [.int .i64 L33, .int .i64 s33, .slice A33 n33 c33, .slice F33 m33 k33]] []) := by rw [hx23]; exact (own_start u23).dfa (.int .i64 L33) (.int .i64 s33) (.slice A33 n33 c33) (.slice F33 m33 k33)
                  have HN0 := HN
                  have HF0 := HF
                  have VA0 := VA
                  have VB0 := VB
                  have VZ0 := VZ
                  have B0 := B
                  have hbn := HOp.out.below
                  have HN := Lib.hid (HN.out.on hbn)
                  have HF := Lib.hid (HF.out.on hbn)
                  have VA := Lib.hid (VA.out.on hbn)
                  have VB := Lib.hid (VB.out.on hbn)
                  have VZ := Lib.hid (VZ.out.on hbn)
                  have B := Lib.hid (B.out.trans (hbn.mono B.out.size))
                  clear hbn hd
                  obtain ⟨p0, p1, p2, p3, p4⟩ := VA.out.box
                  rw [hx23] at p1 p2 p3 p4
                  obtain ⟨q0, q1, q2, q3, q4⟩ := VB.out.box
                  rw [hx23] at q1 q2 q3 q4
                  have HX := Lib.hid hx23
                  clear hx23
                  go_wp2_with fail
                  rw [← HX.out]
                  clear HX
                  refine (HEi.out _ _ _ VA.out.at_ VB.out.at_).mono ?_
                  rintro e u24 ⟨L34, s34, A34, n34, c34, F34, m34, k34, rfl, hxo, hb⟩
                  have HIn := into_any HOp.out hxo.out
                  have hpq := HOp.out.on hb
                  clear p0 p1 p2 p3 p4 q0 q1 q2 q3 q4 HEi HOp HN HF VA VB VZ B
                  obtain ⟨g0, f0⟩ := hpq.dcell (g := u23.heap.size) (l := [.int .i64 L33, .int .i64 s33, .slice A33 n33 c33, .slice F33 m33 k33]) (j := 0) (by simp) rfl
                  obtain ⟨g1, f1⟩ := hpq.dcell (g := u23.heap.size) (l := [.int .i64 L33, .int .i64 s33, .slice A33 n33 c33, .slice F33 m33 k33]) (j := 1) (by simp) rfl
                  obtain ⟨g2, f2⟩ := hpq.dcell (g := u23.heap.size) (l := [.int .i64 L33, .int .i64 s33, .slice A33 n33 c33, .slice F33 m33 k33]) (j := 2) (by simp) rfl
                  obtain ⟨g3, f3⟩ := hpq.dcell (g := u23.heap.size) (l := [.int .i64 L33, .int .i64 s33, .slice A33 n33 c33, .slice F33 m33 k33]) (j := 3) (by simp) rfl
                  obtain ⟨hio, c0, c1, c2, c3⟩ := HIn
                  clear hpq hxo hb
                  obtain ⟨x24, hx24⟩ : ∃ W, W = (((u24.setCell ⟨u23.heap.size, 0, none⟩ (.int .i64 L34)).setCell ⟨u23.heap.size, 1, none⟩ (.int .i64 s34)).setCell ⟨u23.heap.size, 2, none⟩ (.slice A34 n34 c34)).setCell ⟨u23.heap.size, 3, none⟩ (.slice F34 m34 k34) := ⟨_, rfl⟩
                  rw [← hx24] at hio
                  have hbq := hio.below
                  have HN := Lib.hid (HN0.out.on hbq)
                  have HF := Lib.hid (HF0.out.on hbq)
                  have VA := Lib.hid (VA0.out.on hbq)
                  have VB := Lib.hid (VB0.out.on hbq)
                  have VZ := Lib.hid (VZ0.out.on hbq)
                  have B := Lib.hid (B0.out.trans (hbq.mono B0.out.size))
                  have HPd := Lib.hid hio.at_
                  clear hbq hio B0 HN0 HF0 VA0 VB0 VZ0
                  have HX := Lib.hid hx24
                  clear hx24
                  go_wp2_with fail
                  rw [← HX.out]
                  clear HX
                  clear c0 c1 c2 c3 g0 g1 g2 g3 f0 f1 f2 f3
                  refine (HMin.out _ _ HPd.out).mono ?_
                  rintro e u25 ⟨L35, s35, A35, n35, c35, F35, m35, k35, rfl, hd, hb⟩
                  have HN := Lib.hid (HN.out.on hb)
                  have HF := Lib.hid (HF.out.on hb)
                  have VA := Lib.hid (VA.out.on hb)
                  have VB := Lib.hid (VB.out.on hb)
                  have VZ := Lib.hid (VZ.out.on hb)
                  have B := Lib.hid (B.out.trans (hb.mono B.out.size))
                  clear hb  HMin HPd
                  obtain ⟨x25, hx25, hbn, Vn⟩ := var_new u25 hd.out
                  have VM := Lib.hid Vn
                  have HN := Lib.hid (HN.out.on hbn)
                  have HF := Lib.hid (HF.out.on hbn)
                  have VA := Lib.hid (VA.out.on hbn)
                  have VB := Lib.hid (VB.out.on hbn)
                  have VZ := Lib.hid (VZ.out.on hbn)
                  have B := Lib.hid (B.out.trans (hbn.mono B.out.size))
                  clear hbn Vn hd
                  obtain ⟨p0, p1, p2, p3, p4⟩ := VM.out.box
                  rw [hx25] at p1 p2 p3 p4
                  obtain ⟨q0, q1, q2, q3, q4⟩ := VZ.out.box
                  rw [hx25] at q1 q2 q3 q4
                  have HX := Lib.hid hx25
                  clear hx25
                  go_wp2_with fail
                  rw [← HX.out]
                  clear HX
                  refine (HSm.out _ _ _ VM.out.at_ VZ.out.at_).mono ?_
                  rintro e u26 ⟨rfl, hb⟩
                  have HN := Lib.hid (HN.out.on hb)
                  have HF := Lib.hid (HF.out.on hb)
                  have VA := Lib.hid (VA.out.on hb)
                  have VB := Lib.hid (VB.out.on hb)
                  have VZ := Lib.hid (VZ.out.on hb)
                  have VM := Lib.hid (VM.out.on hb)
                  have B := Lib.hid (B.out.trans (hb.mono B.out.size))
                  clear hb p0 p1 p2 p3 p4 q0 q1 q2 q3 q4 HSm
                  clear VA VB VZ VM HN HF
                  go_wp2
                  go_roundw
                  case rel => exact ⟨6, by omega, rfl, by go_num, B⟩
                  case measure => simp [intOf]
              · have HZ := Lib.hid (fun W A c hA => make_len (E := .iface 60 (.int .i64 ((kz + 1 : Nat) : Int))) HL.out hjl (by omega) hrz rfl W A c hA)
                obtain ⟨⟨pa, ka⟩, hpa⟩ : ∃ p, p = prodOut (fun a b => a && b) x y := ⟨_, rfl⟩
                obtain ⟨⟨po, kb⟩, hpo⟩ : ∃ p, p = prodOut (fun a b => a || b) x y := ⟨_, rfl⟩
                have HBo := Lib.hid (fun W v z (h : DfaAt W W.heap.size v x) (h2 : DfaAt W W.heap.size z y) => both_gives h h2 hpa.symm rfl)
                have HEi := Lib.hid (fun W v z (h : DfaAt W W.heap.size v x) (h2 : DfaAt W W.heap.size z y) => either_own h h2 hpo.symm rfl)
                clear hpa hpo hrz hjl
                generalize ((kz + 1 : Nat) : Int) = kz1 at *
                generalize errV ka = Ea at *
                generalize errV kb = Eb at *
                generalize join z1 z2 5 = H at *
                go_wp2_with fail
                refine (HMo.out _ _ _ HF.out).mono ?_
                rintro e u21 ⟨he, hb⟩
                obtain ⟨A', c', rfl, hH⟩ := he.out
                have HN := Lib.hid (HN.out.on hb)
                have HF := Lib.hid (HF.out.on hb)
                have VA := Lib.hid (VA.out.on hb)
                have VB := Lib.hid (VB.out.on hb)
                have B := Lib.hid (B.out.trans (hb.mono B.out.size))
                have HH := Lib.hid hH.out
                clear he hb hH HMo
                go_wp2_with fail
                refine (HZ.out _ _ _ HH.out).mono ?_
                rintro e u22 ⟨L32, s32, A32, n32, c32, F32, m32, k32, rfl, hd, hb⟩
                have HN := Lib.hid (HN.out.on hb)
                have HF := Lib.hid (HF.out.on hb)
                have VA := Lib.hid (VA.out.on hb)
                have VB := Lib.hid (VB.out.on hb)
                have B := Lib.hid (B.out.trans (hb.mono B.out.size))
                clear hb  HZ HH
                obtain ⟨x22, hx22, hbn, Vn⟩ := var_new u22 hd.out
                have VZ := Lib.hid Vn
                have HN := Lib.hid (HN.out.on hbn)
                have HF := Lib.hid (HF.out.on hbn)
                have VA := Lib.hid (VA.out.on hbn)
                have VB := Lib.hid (VB.out.on hbn)
                have B := Lib.hid (B.out.trans (hbn.mono B.out.size))
                clear hbn Vn hd
                obtain ⟨p0, p1, p2, p3, p4⟩ := VA.out.box
                rw [hx22] at p1 p2 p3 p4
                obtain ⟨q0, q1, q2, q3, q4⟩ := VB.out.box
                rw [hx22] at q1 q2 q3 q4
                have HX := Lib.hid hx22
                clear hx22
                go_wp2_with fail
                rw [← HX.out]
                clear HX
                refine (HBo.out _ _ _ VA.out.at_ VB.out.at_).mono ?_
                rintro e u23 ⟨L33, s33, A33, n33, c33, F33, m33, k33, rfl, hd, hb⟩
                have HN := Lib.hid (HN.out.on hb)
                have HF := Lib.hid (HF.out.on hb)
                have VA := Lib.hid (VA.out.on hb)
                have VB := Lib.hid (VB.out.on hb)
                have VZ := Lib.hid (VZ.out.on hb)
                have B := Lib.hid (B.out.trans (hb.mono B.out.size))
                clear hb p0 p1 p2 p3 p4 q0 q1 q2 q3 q4 HBo
                obtain ⟨x23, hx23⟩ : ∃ W, W = u23.alloc (.cells #[.int .i64 L33, .int .i64 s33, .slice A33 n33 c33, .slice F33 m33 k33] 25) := ⟨_, rfl⟩
                have HOp : Hid (Own u23 x23 [eDfa u23.heap.size [.int .i64 L33, .int .i64 s33, .slice A33 n33 c33, .slice F33 m33 k33]] []) := by rw [hx23]; exact (own_start u23).dfa (.int .i64 L33) (.int .i64 s33) (.slice A33 n33 c33) (.slice F33 m33 k33)
                have HN0 := HN
                have HF0 := HF
                have VA0 := VA
                have VB0 := VB
                have VZ0 := VZ
                have B0 := B
                have hbn := HOp.out.below
                have HN := Lib.hid (HN.out.on hbn)
                have HF := Lib.hid (HF.out.on hbn)
                have VA := Lib.hid (VA.out.on hbn)
                have VB := Lib.hid (VB.out.on hbn)
                have VZ := Lib.hid (VZ.out.on hbn)
                have B := Lib.hid (B.out.trans (hbn.mono B.out.size))
                clear hbn hd
                obtain ⟨p0, p1, p2, p3, p4⟩ := VA.out.box
                rw [hx23] at p1 p2 p3 p4
                obtain ⟨q0, q1, q2, q3, q4⟩ := VB.out.box
                rw [hx23] at q1 q2 q3 q4
                have HX := Lib.hid hx23
                clear hx23
                go_wp2_with fail
                rw [← HX.out]
                clear HX
                refine (HEi.out _ _ _ VA.out.at_ VB.out.at_).mono ?_
                rintro e u24 ⟨L34, s34, A34, n34, c34, F34, m34, k34, rfl, hxo, hb⟩
                have HIn := into_any HOp.out hxo.out
                have hpq := HOp.out.on hb
                clear p0 p1 p2 p3 p4 q0 q1 q2 q3 q4 HEi HOp HN HF VA VB VZ B
                obtain ⟨g0, f0⟩ := hpq.dcell (g := u23.heap.size) (l := [.int .i64 L33, .int .i64 s33, .slice A33 n33 c33, .slice F33 m33 k33]) (j := 0) (by simp) rfl
                obtain ⟨g1, f1⟩ := hpq.dcell (g := u23.heap.size) (l := [.int .i64 L33, .int .i64 s33, .slice A33 n33 c33, .slice F33 m33 k33]) (j := 1) (by simp) rfl
                obtain ⟨g2, f2⟩ := hpq.dcell (g := u23.heap.size) (l := [.int .i64 L33, .int .i64 s33, .slice A33 n33 c33, .slice F33 m33 k33]) (j := 2) (by simp) rfl
                obtain ⟨g3, f3⟩ := hpq.dcell (g := u23.heap.size) (l := [.int .i64 L33, .int .i64 s33, .slice A33 n33 c33, .slice F33 m33 k33]) (j := 3) (by simp) rfl
                obtain ⟨hio, c0, c1, c2, c3⟩ := HIn
                clear hpq hxo hb
                obtain ⟨x24, hx24⟩ : ∃ W, W = (((u24.setCell ⟨u23.heap.size, 0, none⟩ (.int .i64 L34)).setCell ⟨u23.heap.size, 1, none⟩ (.int .i64 s34)).setCell ⟨u23.heap.size, 2, none⟩ (.slice A34 n34 c34)).setCell ⟨u23.heap.size, 3, none⟩ (.slice F34 m34 k34) := ⟨_, rfl⟩
                rw [← hx24] at hio
                have hbq := hio.below
                have HN := Lib.hid (HN0.out.on hbq)
                have HF := Lib.hid (HF0.out.on hbq)
                have VA := Lib.hid (VA0.out.on hbq)
                have VB := Lib.hid (VB0.out.on hbq)
                have VZ := Lib.hid (VZ0.out.on hbq)
                have B := Lib.hid (B0.out.trans (hbq.mono B0.out.size))
                have HPd := Lib.hid hio.at_
                clear hbq hio B0 HN0 HF0 VA0 VB0 VZ0
                rw [hx24] at B
                clear hx24
                clear VA VB VZ HN HF
                go_wp2
                go_roundw
                case rel => exact ⟨6, by omega, rfl, by go_num, B⟩
                case measure => simp [intOf]
            · as_aux_lemma =>
              have hsm : NdSmall (3, (N1 : Int) - 1, 0) := small_nd (by decide) ⟨by omega, by omega⟩ (by decide)
              have HMo := Lib.hid (fun A c W (hA : NodesAt W W.heap.size A z1) => more_one (f := z1) (by rw [HN1.out]; omega) (by rw [HN1.out]; omega) HN1.out (nds_small HG1.out) 3 ((N1 : Int) - 1) 0 hsm A c W hA)
              obtain ⟨H, hH⟩ : ∃ H, H = z1 ++ [((3 : Int), (N1 : Int) - 1, (0 : Int))] := ⟨_, rfl⟩
              have hjl : H.length = N1 + 1 := by rw [hH, List.length_append, HN1.out]; rfl
              rw [← hH] at HMo
              rcases mk_cases a0 H with ⟨lz, mz, gz, hlz, hmz, hrz⟩ | ⟨kz, hrz, _⟩
              · have HZ := Lib.hid (fun W A c hA => make_len (E := .nilIface) HL.out hjl (by omega) hrz rfl W A c hA)
                have h40 : z1.length < 40 := by have := gz.le; have := HN1.out; omega
                have hfz : ∀ w, fval H w = !fval z1 w := fun w => by rw [hH, ← HN1.out]; exact not_some HG1.out h40 w
                have hacc : ∀ w, Word a0 w → accA (notA x) w = vat H w (H.length - 1) 0 := fun w hw => by
                  rw [notA_acc HD1.out (by rw [HeL1.out]; exact hw), HAc1.out w hw]
                  exact (hfz w).symm
                have hmp : notA x = frontA a0 H lz mz := by rw [← front_of gz hlz hmz (notA_good HD1.out) HeL1.out hacc, not_min HD1.out HMi1.out]
                have gdz := front_good gz hlz hmz
                have HNt := Lib.hid (fun W v (h : DfaAt W W.heap.size v x) => not_gives (E := .nilIface) h (show notOut x = (frontA a0 H lz mz, 0) by unfold notOut; rw [if_pos (dchk_iff.2 HD1.out), hmp]) rfl)
                have HSm := Lib.hid (fun W v z (h : DfaAt W W.heap.size v (frontA a0 H lz mz)) (h2 : DfaAt W W.heap.size z (frontA a0 H lz mz)) => same_gives h h2 gdz.lite rfl)
                clear hmp gdz hacc hfz h40 hrz gz hlz hmz hjl hH
                generalize frontA a0 H lz mz = rz at *
                go_wp2_with fail
                refine (HMo.out _ _ _ HN.out).mono ?_
                rintro e u21 ⟨he, hb⟩
                obtain ⟨A', c', rfl, hH⟩ := he.out
                have HN := Lib.hid (HN.out.on hb)
                have VA := Lib.hid (VA.out.on hb)
                have B := Lib.hid (B.out.trans (hb.mono B.out.size))
                have HH := Lib.hid hH.out
                clear he hb hH HMo
                go_wp2_with fail
                refine (HZ.out _ _ _ HH.out).mono ?_
                rintro e u22 ⟨L32, s32, A32, n32, c32, F32, m32, k32, rfl, hd, hb⟩
                have HN := Lib.hid (HN.out.on hb)
                have VA := Lib.hid (VA.out.on hb)
                have B := Lib.hid (B.out.trans (hb.mono B.out.size))
                clear hb  HZ HH
                obtain ⟨x22, hx22, hbn, Vn⟩ := var_new u22 hd.out
                have VZ := Lib.hid Vn
                have HN := Lib.hid (HN.out.on hbn)
                have VA := Lib.hid (VA.out.on hbn)
                have B := Lib.hid (B.out.trans (hbn.mono B.out.size))
                clear hbn Vn hd
                obtain ⟨p0, p1, p2, p3, p4⟩ := VA.out.box
                rw [hx22] at p1 p2 p3 p4
                have HX := Lib.hid hx22
                clear hx22
                go_wp2_with fail
                rw [← HX.out]
                clear HX
                refine (HNt.out _ _ VA.out.at_).mono ?_
                rintro e u23 ⟨L33, s33, A33, n33, c33, F33, m33, k33, rfl, hd, hb⟩
                have HN := Lib.hid (HN.out.on hb)
                have VA := Lib.hid (VA.out.on hb)
                have VZ := Lib.hid (VZ.out.on hb)
                have B := Lib.hid (B.out.trans (hb.mono B.out.size))
                clear hb p0 p1 p2 p3 p4 HNt
                obtain ⟨x23, hx23, hbn, Vn⟩ := var_new u23 hd.out
                have VT := Lib.hid Vn
                have HN := Lib.hid (HN.out.on hbn)
                have VA := Lib.hid (VA.out.on hbn)
                have VZ := Lib.hid (VZ.out.on hbn)
                have B := Lib.hid (B.out.trans (hbn.mono B.out.size))
                clear hbn Vn hd
                obtain ⟨p0, p1, p2, p3, p4⟩ := VT.out.box
                rw [hx23] at p1 p2 p3 p4
                obtain ⟨q0, q1, q2, q3, q4⟩ := VZ.out.box
                rw [hx23] at q1 q2 q3 q4
                have HX := Lib.hid hx23
                clear hx23
                go_wp2_with fail
                rw [← HX.out]
                clear HX
                refine (HSm.out _ _ _ VT.out.at_ VZ.out.at_).mono ?_
                rintro e u24 ⟨rfl, hb⟩
                have HN := Lib.hid (HN.out.on hb)
                have VA := Lib.hid (VA.out.on hb)
                have VZ := Lib.hid (VZ.out.on hb)
                have VT := Lib.hid (VT.out.on hb)
                have B := Lib.hid (B.out.trans (hb.mono B.out.size))
                clear hb p0 p1 p2 p3 p4 q0 q1 q2 q3 q4 HSm
                have B9 := Lib.hid (HBL.out.trans (B.out.mono HBL.out.size))
                clear VA VZ VT HN
                go_wp2
                go_ret
                exact ⟨rfl, B9.out⟩
              · have HZ := Lib.hid (fun W A c hA => make_len (E := .iface 60 (.int .i64 ((kz + 1 : Nat) : Int))) HL.out hjl (by omega) hrz rfl W A c hA)
                clear hrz hjl hH
                generalize ((kz + 1 : Nat) : Int) = kz1 at *
                go_wp2_with fail
                refine (HMo.out _ _ _ HN.out).mono ?_
                rintro e u21 ⟨he, hb⟩
                obtain ⟨A', c', rfl, hH⟩ := he.out
                have HN := Lib.hid (HN.out.on hb)
                have VA := Lib.hid (VA.out.on hb)
                have B := Lib.hid (B.out.trans (hb.mono B.out.size))
                have HH := Lib.hid hH.out
                clear he hb hH HMo
                go_wp2_with fail
                refine (HZ.out _ _ _ HH.out).mono ?_
                rintro e u22 ⟨L32, s32, A32, n32, c32, F32, m32, k32, rfl, hd, hb⟩
                have HN := Lib.hid (HN.out.on hb)
                have VA := Lib.hid (VA.out.on hb)
                have B := Lib.hid (B.out.trans (hb.mono B.out.size))
                clear hb  HZ HH
                obtain ⟨x22, hx22, hbn, Vn⟩ := var_new u22 hd.out
                have VZ := Lib.hid Vn
                have HN := Lib.hid (HN.out.on hbn)
                have VA := Lib.hid (VA.out.on hbn)
                have B := Lib.hid (B.out.trans (hbn.mono B.out.size))
                clear hbn Vn hd
                rw [hx22] at B
                clear hx22
                have B9 := Lib.hid (HBL.out.trans (B.out.mono HBL.out.size))
                clear VA VZ HN
                go_wp2
                go_ret
                exact ⟨rfl, B9.out⟩
    · have HA := Lib.hid (fun W (hA : NodesAt W W.heap.size A1 z1) => bmake_gives (E := .nilIface) (c := c1) hL hA hlen1 hr1 rfl)
      have HB := Lib.hid (fun W (hA : NodesAt W W.heap.size A2 z2) => bmake_gives (E := .iface 60 (.int .i64 ((k2 + 1 : Nat) : Int))) (c := c2) hL hA hlen2 hr2 rfl)
      have gd1 := front_good g1 hl1 hm1
      have HNx : Hid (1 ≤ (frontA a0 z1 l1 m1').next.length) := gd1.n1
      clear gd1 hr1 hr2 g1 hl1 hm1 hL v1 v2 hlen1 hlen2
      generalize frontA a0 z1 l1 m1' = x at *
      generalize ((k2 + 1 : Nat) : Int) = kk at *
      generalize z1.length = N1 at *
      generalize z2.length = N2 at *
      go_enter Try.func6, Try.ntmps6
      go_wp2_with fail
      refine (HA.out _ HN.out).mono ?_
      rintro e u1 ⟨L11, s11, A11, n11, c11, F11, m11, k11, rfl, hd, hb⟩
      have HN := Lib.hid (HN.out.on hb)
      have HM := Lib.hid (HM.out.on hb)
      have B := Lib.hid hb
      clear hb  HA
      have hn1 : (n11 : Int) ≠ 0 := by have := hd.out.eqs.2.2.1; have := HNx.out; omega
      have hn2 := int_ne hn1
      clear hn1
      obtain ⟨x1, hx1, hbn, Vn⟩ := var_new u1 hd.out
      have VA := Lib.hid Vn
      have HN := Lib.hid (HN.out.on hbn)
      have HM := Lib.hid (HM.out.on hbn)
      have B := Lib.hid (B.out.trans (hbn.mono B.out.size))
      clear hbn Vn hd
      have HX := Lib.hid hx1
      clear hx1
      go_wp2_with fail
      rw [← HX.out]
      clear HX
      refine (HB.out _ HM.out).mono ?_
      rintro e u2 ⟨L12, s12, A12, n12, c12, F12, m12, k12, rfl, hd, hb⟩
      have HN := Lib.hid (HN.out.on hb)
      have HM := Lib.hid (HM.out.on hb)
      have VA := Lib.hid (VA.out.on hb)
      have B := Lib.hid (B.out.trans (hb.mono B.out.size))
      clear hb  HB
      obtain rfl : n12 = 0 := by have := hd.out.eqs.2.2.1; simpa [zeroA] using this.symm
      obtain ⟨x2, hx2, hbn, Vn⟩ := var_new u2 hd.out
      have VB := Lib.hid Vn
      have HN := Lib.hid (HN.out.on hbn)
      have HM := Lib.hid (HM.out.on hbn)
      have VA := Lib.hid (VA.out.on hbn)
      have B := Lib.hid (B.out.trans (hbn.mono B.out.size))
      clear hbn Vn hd
      obtain ⟨p0, p1, p2, p3, p4⟩ := VA.out.box
      rw [hx2] at p1 p2 p3 p4
      obtain ⟨q0, q1, q2, q3, q4⟩ := VB.out.box
      rw [hx2] at q1 q2 q3 q4
      rw [hx2] at B
      clear hx2 VA VB HN HM
      go_wp2
      go_ret
      exact ⟨rfl, B.out⟩
  · obtain ⟨⟨r2, q2⟩, hr2⟩ : ∃ p, p = mkOut a0 z2 := ⟨_, rfl⟩
    have HA := Lib.hid (fun W (hA : NodesAt W W.heap.size A1 z1) => bmake_gives (E := .iface 60 (.int .i64 ((k + 1 : Nat) : Int))) (c := c1) hL hA hlen1 hr1 rfl)
    have HB := Lib.hid (fun W (hA : NodesAt W W.heap.size A2 z2) => bmake_gives (c := c2) hL hA hlen2 hr2.symm rfl)
    clear hr1 hr2 hL v1 v2 hlen1 hlen2
    generalize errV q2 = E2 at *
    generalize ((k + 1 : Nat) : Int) = kk at *
    generalize z1.length = N1 at *
    generalize z2.length = N2 at *
    go_enter Try.func6, Try.ntmps6
    go_wp2_with fail
    refine (HA.out _ HN.out).mono ?_
    rintro e u1 ⟨L11, s11, A11, n11, c11, F11, m11, k11, rfl, hd, hb⟩
    have HN := Lib.hid (HN.out.on hb)
    have HM := Lib.hid (HM.out.on hb)
    have B := Lib.hid hb
    clear hb  HA
    obtain rfl : n11 = 0 := by have := hd.out.eqs.2.2.1; simpa [zeroA] using this.symm
    obtain ⟨x1, hx1, hbn, Vn⟩ := var_new u1 hd.out
    have VA := Lib.hid Vn
    have HN := Lib.hid (HN.out.on hbn)
    have HM := Lib.hid (HM.out.on hbn)
    have B := Lib.hid (B.out.trans (hbn.mono B.out.size))
    clear hbn Vn hd
    have HX := Lib.hid hx1
    clear hx1
    go_wp2_with fail
    rw [← HX.out]
    clear HX
    refine (HB.out _ HM.out).mono ?_
    rintro e u2 ⟨L12, s12, A12, n12, c12, F12, m12, k12, rfl, hd, hb⟩
    have HN := Lib.hid (HN.out.on hb)
    have HM := Lib.hid (HM.out.on hb)
    have VA := Lib.hid (VA.out.on hb)
    have B := Lib.hid (B.out.trans (hb.mono B.out.size))
    clear hb  HB
    obtain ⟨x2, hx2, hbn, Vn⟩ := var_new u2 hd.out
    have VB := Lib.hid Vn
    have HN := Lib.hid (HN.out.on hbn)
    have HM := Lib.hid (HM.out.on hbn)
    have VA := Lib.hid (VA.out.on hbn)
    have B := Lib.hid (B.out.trans (hbn.mono B.out.size))
    clear hbn Vn hd
    obtain ⟨p0, p1, p2, p3, p4⟩ := VA.out.box
    rw [hx2] at p1 p2 p3 p4
    obtain ⟨q0, q1, q2, q3, q4⟩ := VB.out.box
    rw [hx2] at q1 q2 q3 q4
    rw [hx2] at B
    clear hx2 VA VB HN HM
    go_wp2
    go_ret
    exact ⟨rfl, B.out⟩


set_option maxRecDepth 100000 in
theorem lifted (os : Os) (started : os.Started) (H : Type) (enc : TypeId × Value → H) :
    ReturnsInHanded {} Try.checked os 6 .any (Rows.backJoinsSpec.pre6 enc Try.prog Try.f6 Rows.backJoinsRow.domain false) (Rows.backJoinsSpec.post enc Try.prog Try.f6 false true false false) := by
  refine returnsInHanded_of_change_sized (C := Try.checked) own started (by kernel_rfl) Try.func6
    (ChangeSpec.witness6 (enc := enc) (C := Try.checked) false ⟨#[], #[.int .i64 0, .slice none 0 0, .slice none 0 0], []⟩ 8 (by kernel_rfl) (by kernel_rfl) (by kernel_rfl) (by kernel_rfl)) ?_
  intro W base args ds gs before hval0 hW hcnd hsz0 _
  have hval : ∀ (j : Nat) t v, Try.f6.params[j]? = some t → args[j]? = some v → Value.okWide Try.prog W .any base t v := hval0
  have hsz : (DataW.weightsEach Try.prog (Try.f6.params.toList ++ Rows.backJoinsSpec.plain.varTypes Try.prog) (ds ++ gs)).all (· ≤ reachBytes) = true := hsz0
  have hW' := hW
  obtain ⟨p, q, hA0, hV0, rfl, hfz, hnd⟩ := hW
  have hV : DataW.TrodVars enc Try.prog W (fun _ => true) [] gs q := hV0
  have hA : DataW.TrodAll enc Try.prog W 0 (fun _ => true) true Try.f6.params.toList args.toList ds p := hA0
  rw [Try.params6] at hA hval hsz
  obtain ⟨v0, vs0, d0, ds0, p0, q0, hargs, rfl, rfl, h0, rr0⟩ := trodAll_cons hA
  obtain ⟨v1, vs1, d1, ds1, p1, q1, rfl, rfl, rfl, h1, rr1⟩ := trodAll_cons rr0
  obtain ⟨v2, vs2, d2, ds2, p2, q2, rfl, rfl, rfl, h2, rr2⟩ := trodAll_cons rr1
  obtain ⟨rfl, rfl, rfl⟩ := trodAll_nil rr2
  obtain rfl : args = #[v0, v1, v2] := by cases args; simp_all
  obtain ⟨rfl, rfl⟩ := trodVars_none hV
  have k0 := h0
  have lt0 : ∀ x ∈ p0, x.block < W.heap.size := by obtain ⟨m, hm⟩ := k0; exact DataW.trod_lt m _ _ _ hm
  have k1 := h1
  have lt1 : ∀ x ∈ p1, x.block < W.heap.size := by obtain ⟨m, hm⟩ := k1; exact DataW.trod_lt m _ _ _ hm
  have k2 := h2
  have lt2 : ∀ x ∈ p2, x.block < W.heap.size := by obtain ⟨m, hm⟩ := k2; exact DataW.trod_lt m _ _ _ hm
  obtain ⟨a0, rfl, rfl, rfl, w0⟩ := open_int Try.underlying3 (hval 0 3 v0 rfl rfl) h0
  obtain ⟨l0, hh0⟩ := bounds_i64 w0
  obtain ⟨A1, c1, z1, rfl, m1, n1, x1, r1⟩ : ∃ (A : Option Addr) (c : Nat) (l : List Fm.Nd), v1 = .slice A l.length c ∧ l.length ≤ c ∧ c ≤ 9223372036854775807 ∧ Fm.NodesAt W W.heap.size A l ∧ l.length ≤ 5864062014634 := by
    obtain ⟨A, len, c, rfl⟩ := okWide_slice Try.underlying40 (hval 1 40 v1 rfl rfl)
    obtain ⟨fuel, hf⟩ := h1
    obtain ⟨A2, c2, l, hcs, q1, q2, q3, q4⟩ := Fm.open_nodes hf
    simp [Value.cells] at hcs
    obtain ⟨rfl, rfl, rfl⟩ := hcs
    refine ⟨_, _, l, rfl, q1, q2, q3, ?_⟩
    rcases q4 with q4 | ⟨es, sp, hd, hl⟩
    · omega
    · have := sized_slice hsz (j := 1) (t := 40) (e := 44) (elems := es) (spare := sp) rfl (by rw [← hd]; rfl) Try.underlying40
      rw [(show Try.prog.bytesOf 44 = 24 by kernel_rfl)] at this
      simp only [reachBytes] at this
      omega
  obtain ⟨A2, c2, z2, rfl, m2, n2, x2, r2⟩ : ∃ (A : Option Addr) (c : Nat) (l : List Fm.Nd), v2 = .slice A l.length c ∧ l.length ≤ c ∧ c ≤ 9223372036854775807 ∧ Fm.NodesAt W W.heap.size A l ∧ l.length ≤ 5864062014634 := by
    obtain ⟨A, len, c, rfl⟩ := okWide_slice Try.underlying40 (hval 2 40 v2 rfl rfl)
    obtain ⟨fuel, hf⟩ := h2
    obtain ⟨A2, c2, l, hcs, q1, q2, q3, q4⟩ := Fm.open_nodes hf
    simp [Value.cells] at hcs
    obtain ⟨rfl, rfl, rfl⟩ := hcs
    refine ⟨_, _, l, rfl, q1, q2, q3, ?_⟩
    rcases q4 with q4 | ⟨es, sp, hd, hl⟩
    · omega
    · have := sized_slice hsz (j := 2) (t := 40) (e := 44) (elems := es) (spare := sp) rfl (by rw [← hd]; rfl) Try.underlying40
      rw [(show Try.prog.bytesOf 44 = 24 by kernel_rfl)] at this
      simp only [reachBytes] at this
      omega
  clear hA0 hval0
  refine (walk a0 A1 c1 z1 A2 c2 z2 W l0 hh0 x1 m1 n1 r1 x2 m2 n2 r2).mono fun e W' ⟨he, bel⟩ => ?_
  subst he
  exact ⟨_, rfl, _, _, _, [], _, [], hW', trodAll_mk1 (shut_bool Try.underlying4 _), (trodAll_cons_mk (Below.trod laidOut (by kernel_rfl) (of_decide_eq_true (by kernel_rfl)) k0 bel lt0) (trodAll_cons_mk (Below.trod laidOut (by kernel_rfl) (of_decide_eq_true (by kernel_rfl)) k1 bel lt1) (trodAll_cons_mk (Below.trod laidOut (by kernel_rfl) (of_decide_eq_true (by kernel_rfl)) k2 bel lt2) trodAll_mk0))), rfl, bel.frame _, fun h => by cases h⟩

theorem over : Rows.backJoinsRow.holds Try.pinned (OpenSpec.ofChange Rows.backJoinsSpec) :=
  OpenClaim.holds_of_wide 6 Try.f6 rfl rfl rfl rfl rfl rfl rfl ⟨rfl, rfl, rfl, rfl, rfl⟩ rfl rfl rfl rfl rfl (by kernel_rfl) Try.func6 (by kernel_rfl)
    (of_decide_eq_true (by kernel_rfl)) (by unfold Func.isWrapper; rw [if_neg (of_decide_eq_false (by kernel_rfl))]; exact ⟨rfl, rfl⟩)
    (fun os started H enc _ => lifted os started H enc)
theorem proved : Rows.BackJoinsSaid := over
#print axioms proved
end Go.Proofs.Ytloihkoamccacaa.backJoins

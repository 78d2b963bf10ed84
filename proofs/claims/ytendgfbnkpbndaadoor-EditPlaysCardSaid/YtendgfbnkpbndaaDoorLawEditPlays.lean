/-
  The statement EditPlaysCardSaid of this seat, proved: for every input the law returns true and its arguments read behind the call as before. Conditions: none but the row's own (each argument within the reach; the listed variable as the program lays it, tied by the given tie).
-/
import Derived.Test.YtendgfbnkpbndaaDoorRows
import Derived.Test.YtendgfbnkpbndaaDoorCards
import Derived.Test.YtendgfbnkpbndaaDoorTie
import Derived.SevenTiedAt
import Derived.LaidLaws
import Derived.LaidHandle
import Derived.LaidMore
import Derived.Lay
import Derived.MakeChecks
import Derived.Stop.Joined
import Derived.JoinedOf
import Derived.RowKit
import Derived.RowKitTokens
import Derived.ChangeSame
import Derived.ChangeVars
import Derived.Test.YtendgfbnkpbndaaDoorWords
import Derived.WalkKit
import Derived.ProofKit
import Derived.OpenShut
import Derived.ShutString
import Derived.ChangeOld
import Derived.Below
import Derived.SizedLaws
import Derived.Lib.Hide
import Derived.Test.YtendgfbnkpbndaaDoorEditL
import Derived.Test.YtendgfbnkpbndaaDoorRefDfa
import Derived.Test.YtendgfbnkpbndaaDoorSays
import Derived.Test.YtendgfbnkpbndaaDoorDfaV
namespace Go.Proofs.YtendgfbnkpbndaaDoor.editPlays
open Go.ChangeShapes Go.WideShapes Go.ChangeAt Go.RowKit Go.IntWalk Go.Proofs.YtendgfbnkpbndaaDoor.Wd
open Go.ChangeMaps (open_string shut_string)
set_option linter.unusedVariables false

theorem own : ownKnob Tryd.prog.godebug = none := by kernel_rfl
theorem laidOut : laidOutB Tryd.prog = true := by kernel_rfl
theorem et : Tryd.prog.globalNamed "errors.errorType" = some 0 := by kernel_rfl
theorem rt : (Tryd.prog.cutTypes.find? (·.1 == "internal/reflectlite.rtype")).map (·.2) = some 73 := by kernel_rfl
theorem oneRow : ((List.range 116).filter fun t => Tryd.prog.rowNamed t [101, 114, 114, 111, 114]) = [30] := by kernel_rfl
theorem size : Tryd.prog.types.size = 116 := by kernel_rfl
/-- What the condition gives a walk: the variable's one cell. -/
theorem handle_of_laid {w : World} (h : laidMetH Tryd.prog [("errors.errorType", Rows.laid_errors_errorType)] w) : w.cell? ⟨0, 0, none⟩ = some (.iface 73 (.agg #[.pointer (some ⟨1, 30, none⟩)])) := by
  have h' : laidMet Tryd.prog [] w ∧ handlesMet Tryd.prog [("errors.errorType", Rows.laid_errors_errorType)] w := h
  obtain ⟨name, u, ty, e1, e2, e3, e4, e5⟩ := h'.2 _ (List.mem_singleton.2 rfl)
  have en : name = [101, 114, 114, 111, 114] := (Option.some.inj e1).symm
  subst en
  obtain rfl := Option.some.inj (rt.symm.trans e2)
  have hm : ty ∈ (List.range 116).filter fun t => Tryd.prog.rowNamed t [101, 114, 114, 111, 114] := List.mem_filter.2 ⟨List.mem_range.2 (by rw [← size]; exact e3), e4⟩
  rw [oneRow] at hm
  obtain rfl := List.mem_singleton.1 hm
  have hh : typeHandle Tryd.prog 30 = .pointer (some ⟨1, 30, none⟩) := by kernel_rfl
  rw [hh] at e5
  simpa using World.var?_cell et e5 0
/-- A world that meets the condition. -/
noncomputable def laidWorld (os : Os) : World :=
  let w0 := World.holding Tryd.prog os ⟨#[], #[], []⟩
  { w0 with heap := w0.heap.modify 0 fun
      | .cells _ t frozen => .cells #[.iface 73 (.agg #[.pointer (some ⟨1, 30, none⟩)])] t frozen
      | o => o }
theorem laidWorld_met (os : Os) (args : Array Value) : laidMetH Tryd.prog [("errors.errorType", Rows.laid_errors_errorType)] ((laidWorld os).forCall (fun _ _ => 0) ⟨#[], args, []⟩).memory :=
  laidMetH_of_parts (laidMet_nil _ _) (by kernel_rfl)
open Go.Proofs.YtendgfbnkpbndaaDoor.Wo Go.Proofs.YtendgfbnkpbndaaDoor.Er Go.Proofs.YtendgfbnkpbndaaDoor.Df Go.Proofs.YtendgfbnkpbndaaDoor.Rc Go.Proofs.YtendgfbnkpbndaaDoor.Sm Go.Proofs.YtendgfbnkpbndaaDoor.Mp Go.Proofs.YtendgfbnkpbndaaDoor.Sa Go.Proofs.YtendgfbnkpbndaaDoor.Ga Go.Proofs.YtendgfbnkpbndaaDoor.Ed
theorem says_gives {w : World} (hg : w.cell? ⟨0, 0, none⟩ = some (.iface 73 (.agg #[.pointer (some ⟨1, 30, none⟩)]))) (e : Nat) {E : Value} {K : Int} (hE : errV e = E) (hK : (e : Int) = K) (W : World) (hb : Below w.heap.size w W) :
    Calls Tryd.prog 6 #[E, .int .i64 K] W fun r w' => r = .returned (.bool true) ∧ Below W.heap.size W w' := by
  subst hE
  subst hK
  exact says e hg W hb
theorem lout_len {l : List Int} {n : Nat} {w w' : World} {e : Ending} (hn : l.length = n) (h : LOut w w' e l) : ∃ A c, e = .returned (.slice A n c) ∧ Hid (IntsAt w' w'.heap.size A l) ∧ Below w.heap.size w w' := by
  subst hn
  obtain ⟨A, c, h1, h2, _, h3⟩ := h
  exact ⟨A, c, h1, h2, h3⟩
theorem eints_at {w0 w : World} {g n c : Nat} {d : Aut} {E : Et} {es fs : List Ent} {A : Option Addr} {l : List Int} (h : EditW w0 w g d E es fs) (hn : l.length = n) (hm : eInts (.slice A n c) l ∈ es) (hs : ∀ y ∈ l, Small y) : IntsAt w w.heap.size A l := by
  subst hn
  obtain ⟨A2, c2, e, _, h2⟩ := h.ints hm hs
  obtain ⟨rfl, _⟩ : A = A2 ∧ c = c2 := by simpa using e
  exact h2
theorem same_len {A B : Option Addr} {ca cb n : Nat} {l : List Int} {W : World} (hn : l.length = n) (h1 : IntsAt W W.heap.size A l) (h2 : IntsAt W W.heap.size B l) (hl : n ≤ 1000) :
    Calls Tryd.prog 8 #[.slice A n ca, .slice B n cb] W fun e w' => e = .returned (.bool true) ∧ Below W.heap.size W w' := by
  subst hn
  exact eints_same h1 h2 (by omega)
theorem perm_e {w0 w : World} {g : Nat} {d : Aut} {E : Et} {nv fv pv : Value} {rs : List (Value × List Int)} {es es' fs : List Ent} (h : EditV w0 w g d E nv fv pv rs es fs) (p : es.Perm es') : EditV w0 w g d E nv fv pv rs es' fs :=
  ⟨h.next, h.small, h.sL, h.ss, h.own.perm ((p.cons _).cons _)⟩
theorem two_e {w0 w : World} {g : Nat} {d : Aut} {E : Et} {nv fv pv : Value} {rs : List (Value × List Int)} {a b : Ent} {fs : List Ent} (h : EditV w0 w g d E nv fv pv rs [a, b] fs) : EditV w0 w g d E nv fv pv rs [b, a] fs := perm_e h (.swap _ _ _)
theorem only_e {w0 w : World} {g : Nat} {d : Aut} {E : Et} {a b : Ent} {fs : List Ent} (h : EditW w0 w g d E [a, b] fs) : EditW w0 w g d E [a, eInts (.slice none 0 0) []] fs := by
  obtain ⟨nv, fv, pv, rs, h⟩ := h
  have h2 := (two_e h).tail
  exact ⟨nv, fv, pv, rs, two_e (h2.swap (h2.own.nil 3 1))⟩

set_option maxRecDepth 100000 in
set_option maxHeartbeats 4000000 in
theorem walk (v0 : Value) (d0 : Df.Aut) (A1 : Option Addr) (c1 : Nat) (z1 : List Int) (w : World) (h0 : Df.DfaAt w w.heap.size v0 d0) (v1 : IntsAt w w.heap.size A1 z1) (r1 : z1.length ≤ 17592186043904) (m1 : z1.length ≤ c1) (hg : w.cell? ⟨0, 0, none⟩ = some (.iface 73 (.agg #[.pointer (some ⟨1, 30, none⟩)]))) :
    Calls Tryd.prog 3 #[v0, .slice A1 z1.length c1] w fun e w' => e = .returned (.bool true) ∧ Below w.heap.size w w' := by
  have hV := h0
  obtain ⟨L0, s0, A0, ca, F0, cf, rfl, h⟩ := h0
  obtain ⟨w1, hw1, hB1, hX, hd1⟩ := box_dfa w h
  have HB := Lib.hid hB1
  have HX := Lib.hid hX
  have HD := Lib.hid hd1
  have HV := Lib.hid (hV.on hB1)
  have HW := Lib.hid hw1
  have Z := Lib.hid (v1.on hB1)
  have HLE := Lib.hid (And.intro h.eL h.es)
  have hc0 := hX.c0
  have hc1 := hX.c1
  have hc2 := hX.c2
  have hc3 := hX.c3
  have HRD := Lib.hid (fun W v (h : DfaAt W W.heap.size v d0) => rdfa_any v d0 W h)
  clear hw1 hB1 hX hd1 hV h v1 m1
  obtain ⟨n, hn⟩ : ∃ n, d0.next.length = n := ⟨_, rfl⟩
  obtain ⟨m, hm⟩ : ∃ m, d0.fin.length = m := ⟨_, rfl⟩
  rw [hn, hm] at HW HX HV
  rw [hn] at hc2
  rw [hm] at hc3
  rw [hn, hm]
  have HN := Lib.hid hn
  have HM := Lib.hid hm
  clear hn hm
  obtain ⟨zl, hzl⟩ : ∃ zl, z1.length = zl := ⟨_, rfl⟩
  rw [hzl] at r1 ⊢
  have HL := Lib.hid hzl
  clear hzl
  by_cases g1 : dchk d0 = 0
  · have hd := dchk_iff.1 g1
    rw [g1] at HRD
    obtain ⟨q0, rfl⟩ : ∃ q : Nat, s0 = (q : Int) := ⟨s0.toNat, by have := hd.st.1; rw [HLE.out.2] at this; omega⟩
    have hst : d0.s.toNat = q0 := by rw [HLE.out.2, Int.toNat_natCast]
    have hfin := hd.fin_at hd.s_lt
    rw [hst] at hfin
    have hem : accA d0 [] = finA d0 q0 := by rw [← hst]; rfl
    rcases hf : finA d0 q0 with _ | _
    · have hgc : echk d0 = 8 := by unfold echk; rw [if_neg (by omega), if_pos (by rw [hem]; exact hf)]
      have HNw := Lib.hid (fun W v (h : DfaAt W W.heap.size v d0) => enew_bad v d0 W h (by omega))
      rw [hgc] at HNw
      have HSay := Lib.hid (fun W hb => says_gives hg 8 (E := errI 8) (K := 8) rfl rfl W hb)
      rw [hf] at hfin
      have HFin := Lib.hid hfin
      clear g1 hd hst hfin hem hgc hf hg
      go_enter Tryd.func3, Tryd.ntmps3
      go_wp2_with fail
      rw [← HW.out]
      clear HW
      refine (HRD.out _ _ HV.out).mono ?_
      rintro e b1 ⟨he, hb⟩
      obtain rfl : e = .returned (.int .i64 0) := he.out
      have HX := Lib.hid (HX.out.on hb)
      have HD := Lib.hid (HD.out.on hb)
      have HV := Lib.hid (HV.out.on hb)
      have Z := Lib.hid (Z.out.on hb)
      have HB := Lib.hid (HB.out.trans (hb.mono HB.out.size))
      clear hb he HRD hc0 hc1 hc2 hc3
      have hc0 := HX.out.c0
      have hc1 := HX.out.c1
      have hc2 := HX.out.c2
      have hc3 := HX.out.c3
      obtain ⟨ad, rfl, _, hcell, hym⟩ := HD.out.fins.at_ HFin.out
      rw [HM.out] at hym
      go_wp2_with fail
      refine (HNw.out _ _ HV.out).mono ?_
      rintro e b3 ⟨he, hb⟩
      obtain rfl : e = .returned (.tuple #[.pointer none, errI 8]) := he.out
      have HX := Lib.hid (HX.out.on hb)
      have HD := Lib.hid (HD.out.on hb)
      have HV := Lib.hid (HV.out.on hb)
      have Z := Lib.hid (Z.out.on hb)
      have HB := Lib.hid (HB.out.trans (hb.mono HB.out.size))
      clear hb he HNw hc0 hc1 hc2 hc3
      have HSy := Lib.hid (HSay.out b3 HB.out)
      clear HSay
      go_wp2_with fail
      refine HSy.out.mono ?_
      rintro e b4 ⟨rfl, hb⟩
      have HB := Lib.hid (HB.out.trans (hb.mono HB.out.size))
      clear hb HSy
      go_wp2
      go_ret
      exact ⟨rfl, HB.out⟩
    · have hemp : accA d0 [] = true := by rw [hem]; exact hf
      have HGd := Lib.hid hd
      have HNw := Lib.hid (fun W v (h : DfaAt W W.heap.size v d0) => enew_ok v d0 W h hd hemp)
      have HEk : Hid (∀ l, Eok d0 (eoffers d0 (edit0 d0, []) l).1 (eoffers d0 (edit0 d0, []) l).2) := fun l => eok_offers (p := (edit0 d0, [])) (eok_start hemp) l
      have HQ : Hid (q0 = d0.s.toNat) := hst.symm
      rw [hf] at hfin
      have HFin := Lib.hid hfin
      clear g1 hd hst hfin hem hf hemp
      go_enter Tryd.func3, Tryd.ntmps3
      go_wp2_with fail
      rw [← HW.out]
      clear HW
      refine (HRD.out _ _ HV.out).mono ?_
      rintro e b1 ⟨he, hb⟩
      obtain rfl : e = .returned (.int .i64 0) := he.out
      have HX := Lib.hid (HX.out.on hb)
      have HD := Lib.hid (HD.out.on hb)
      have HV := Lib.hid (HV.out.on hb)
      have Z := Lib.hid (Z.out.on hb)
      have HB := Lib.hid (HB.out.trans (hb.mono HB.out.size))
      clear hb he HRD hc0 hc1 hc2 hc3
      have hc0 := HX.out.c0
      have hc1 := HX.out.c1
      have hc2 := HX.out.c2
      have hc3 := HX.out.c3
      obtain ⟨ad, rfl, _, hcell, hym⟩ := HD.out.fins.at_ HFin.out
      rw [HM.out] at hym
      go_wp2_with fail
      refine (HNw.out _ _ HV.out).mono ?_
      rintro e b3 he
      obtain ⟨g, rfl, hG⟩ := he.out
      have HS : Hid (EditW b1 b3 g d0 (eoffers d0 (edit0 d0, []) (z1.take 0)).1 [eInts (.slice none 0 0) (eoffers d0 (edit0 d0, []) (z1.take 0)).1.out, eInts (.slice none 0 0) (eoffers d0 (edit0 d0, []) (z1.take 0)).1.held] []) := hG.with_nil.with_nil
      have hX3 := HX.out.on hG.below
      clear he hG HNw hc0 hc1 hc2 hc3 hcell hym HFin
      have hc1 := hX3.c1
      clear hX3
      go_wp2
      go_loopw [8, 9, 10, 11] (fun xo xh sv i wr => ∃ (k q : Nat), k ≤ zl ∧ k ≤ 200 ∧ i = .int .i64 k ∧ sv = .int .i64 q ∧ Hid (q = (eoffers d0 (edit0 d0, []) (z1.take k)).1.s) ∧ Hid (EditW b1 wr g d0 (eoffers d0 (edit0 d0, []) (z1.take k)).1 [eInts xo (eoffers d0 (edit0 d0, []) (z1.take k)).1.out, eInts xh (eoffers d0 (edit0 d0, []) (z1.take k)).1.held] [])) (fun _ _ _ i _ => 200 - (intOf i).toNat)
      case atStart => exact ⟨0, q0, by omega, by omega, rfl, rfl, HQ.out, HS⟩
      case round =>
        clear HS hc1
        obtain ⟨k, q, hk, hk2, rfl, rfl, HQk, HS⟩ := hrel
        have HOK := Lib.hid (HEk.out (z1.take k))
        have HBw := Lib.hid HS.out.below
        by_cases hlt : k < zl
        · by_cases h200 : k < 200
          · have hkz : k < z1.length := by rw [HL.out]; exact hlt
            have hZ := Z.out.on HBw.out
            obtain ⟨ada, rfl, hab, hac, _⟩ := hZ.get (List.getElem?_eq_getElem hkz)
            have hsa : Small z1[k] := hZ.2 _ (List.getElem_mem hkz)
            have HT : Hid ((eoffers d0 (edit0 d0, []) (z1.take (k + 1))).1 = (eoffer d0 (eoffers d0 (edit0 d0, []) (z1.take k)).1 z1[k]).2.2) := by unfold Hid; rw [eoffers_take _ _ _ hkz]
            have HOK2 := Lib.hid (HEk.out (z1.take (k + 1)))
            have e1 : (k : Int) < (zl : Int) := by omega
            have e2 : (k : Int) < 200 := by omega
            rw [HT.out] at HOK2
            clear hab hZ
            generalize z1[k] = a at *
            clear hkz
            generalize (eoffers d0 (edit0 d0, []) (z1.take (k + 1))).2 = wd2 at *
            generalize (eoffers d0 (edit0 d0, []) (z1.take k)).2 = wd at *
            generalize hEk : (eoffers d0 (edit0 d0, []) (z1.take k)).1 = E at *
            clear hEk
            have HOf : Hid (∀ W es, EditW b1 W g d0 E es [] → Calls Tryd.prog 7 #[.pointer (some ⟨g, 0, none⟩), .int .i64 a] W fun e w' => Hid (OffOut b1 g d0 (eoffer d0 E a) es [] e w')) := fun W es h => eoffer_any b1 W g d0 E wd es [] a h HGd.out HOK.out hsa
            have hLE := HLE.out.1
            have h0 := (HX.out.on HBw.out).c0
            obtain ⟨Ao, co, rfl, _, _⟩ := HS.out.ints List.mem_cons_self (fun x hx => (eok_small HGd.out HOK.out).1 x (List.mem_append_left _ hx))
            obtain ⟨Ah, ch, rfl, hch, _⟩ := HS.out.ints (List.mem_cons_of_mem _ List.mem_cons_self) (fun x hx => (eok_small HGd.out HOK.out).1 x (List.mem_append_right _ hx))
            have hol := (eok_small HGd.out HOK.out).2
            rw [List.length_append] at hol
            have HSM := Lib.hid (eok_small HGd.out HOK2.out)
            rcases eoffer_ways d0 E a with ⟨hl, hof⟩ | ⟨hl, h80, hof⟩ | ⟨hl, h80, hf, hof⟩ | ⟨hl, h80, hf, hof⟩
            · rw [hof] at HOf HOK2 HT HSM
              obtain ⟨no, hno⟩ : ∃ no, E.out.length = no := ⟨_, rfl⟩
              obtain ⟨nh, hnh⟩ : ∃ nh, E.held.length = nh := ⟨_, rfl⟩
              rw [hno, hnh] at HS
              rw [hno, hnh] at hol
              rw [hnh] at hch
              rw [hno, hnh]
              have HNo := Lib.hid hno
              have HNh := Lib.hid hnh
              have hway : a < 0 ∨ 0 ≤ a ∧ L0 ≤ a := by
                by_cases h0 : a < 0
                · exact .inl h0
                · refine .inr ⟨by omega, ?_⟩
                  rw [← hLE]
                  exact Int.not_lt.1 fun h1 => by rw [isL_iff.2 ⟨by omega, h1⟩] at hl; cases hl
              clear hof hl hLE hch hno hnh
              rcases hway with hw1 | ⟨hw1, hw2⟩
              · as_aux_lemma =>
                  have t1 : decide (a < 0) = true := decide_eq_true hw1
                  go_wp2_with fail
                  refine (HOf.out _ _ HS.out).mono ?_
                  rintro e b5 he
                  obtain ⟨A5, c5, he2, hI5, HS⟩ := he.out
                  replace HS := Lib.hid HS
                  have HI5 := Lib.hid hI5
                  obtain rfl : e = .returned (.tuple #[.slice A5 0 c5, errI 1]) := by rw [he2, show ([] : List Int).length = 0 from rfl]; rfl
                  clear he HOf hI5 he2
                  have HBn := Lib.hid (HB.out.trans (HS.out.below.mono HB.out.size))
                  have HSy := Lib.hid (says_gives hg 1 (E := errI 1) (K := 1) rfl rfl b5 HBn.out)
                  clear HBn
                  go_wp2_with fail
                  refine HSy.out.mono ?_
                  rintro e b6 ⟨rfl, hb⟩
                  have HS := Lib.hid (HS.out.on hb)
                  have HI5 := Lib.hid (HI5.out.on hb)
                  clear hb HSy
                  have HIn := Lib.hid (same_len (A := A5) (B := none) (ca := c5) (cb := 0) (n := 0) (l := []) rfl HI5.out (IntsAt.nil _ _ _) (by omega))
                  clear HI5
                  go_wp2_with fail
                  refine HIn.out.mono ?_
                  rintro e b7 ⟨rfl, hb⟩
                  have HS := Lib.hid (HS.out.on hb)
                  clear hb HIn
                  have HO := Lib.hid ((eout_gives HS.out HGd.out HOK2.out).mono fun e w' h => lout_len (l := E.out) HNo.out h)
                  go_wp2_with fail
                  refine HO.out.mono ?_
                  rintro e b8 ⟨A8, c8, rfl, HI, hb⟩
                  have HS := Lib.hid (HS.out.on hb)
                  clear hb HO
                  have HIn := Lib.hid (same_len (ca := c8) (cb := co) HNo.out HI.out (eints_at HS.out (l := E.out) HNo.out List.mem_cons_self (fun x hx => HSM.out.1 x (List.mem_append_left _ hx))) (by omega))
                  clear HI
                  go_wp2_with fail
                  refine HIn.out.mono ?_
                  rintro e b9 ⟨rfl, hb⟩
                  have HS := Lib.hid (HS.out.on hb)
                  clear hb HIn
                  have HO := Lib.hid ((held_gives HS.out HGd.out HOK2.out).mono fun e w' h => lout_len (l := E.held) HNh.out h)
                  go_wp2_with fail
                  refine HO.out.mono ?_
                  rintro e b10 ⟨A10, c10, rfl, HI, hb⟩
                  have HS := Lib.hid (HS.out.on hb)
                  clear hb HO
                  have HIn := Lib.hid (same_len (ca := c10) (cb := ch) HNh.out HI.out (eints_at HS.out (l := E.held) HNh.out (List.mem_cons_of_mem _ List.mem_cons_self) (fun x hx => HSM.out.1 x (List.mem_append_right _ hx))) (by omega))
                  clear HI
                  go_wp2_with fail
                  refine HIn.out.mono ?_
                  rintro e b11 ⟨rfl, hb⟩
                  have HS := Lib.hid (HS.out.on hb)
                  clear hb HIn
                  go_wp2
                  go_roundw
                  case rel => exact ⟨k + 1, q, by omega, by omega, by go_num, rfl, by unfold Hid; rw [HT.out]; exact HQk.out, by unfold Hid; rw [HT.out]; exact HS.out⟩
                  case measure => simp [intOf]; omega
              · as_aux_lemma =>
                  have t1 : decide (a < 0) = false := decide_eq_false (by omega)
                  have t2 : decide (L0 ≤ a) = true := decide_eq_true hw2
                  go_wp2_with fail
                  refine (HOf.out _ _ HS.out).mono ?_
                  rintro e b5 he
                  obtain ⟨A5, c5, he2, hI5, HS⟩ := he.out
                  replace HS := Lib.hid HS
                  have HI5 := Lib.hid hI5
                  obtain rfl : e = .returned (.tuple #[.slice A5 0 c5, errI 1]) := by rw [he2, show ([] : List Int).length = 0 from rfl]; rfl
                  clear he HOf hI5 he2
                  have HBn := Lib.hid (HB.out.trans (HS.out.below.mono HB.out.size))
                  have HSy := Lib.hid (says_gives hg 1 (E := errI 1) (K := 1) rfl rfl b5 HBn.out)
                  clear HBn
                  go_wp2_with fail
                  refine HSy.out.mono ?_
                  rintro e b6 ⟨rfl, hb⟩
                  have HS := Lib.hid (HS.out.on hb)
                  have HI5 := Lib.hid (HI5.out.on hb)
                  clear hb HSy
                  have HIn := Lib.hid (same_len (A := A5) (B := none) (ca := c5) (cb := 0) (n := 0) (l := []) rfl HI5.out (IntsAt.nil _ _ _) (by omega))
                  clear HI5
                  go_wp2_with fail
                  refine HIn.out.mono ?_
                  rintro e b7 ⟨rfl, hb⟩
                  have HS := Lib.hid (HS.out.on hb)
                  clear hb HIn
                  have HO := Lib.hid ((eout_gives HS.out HGd.out HOK2.out).mono fun e w' h => lout_len (l := E.out) HNo.out h)
                  go_wp2_with fail
                  refine HO.out.mono ?_
                  rintro e b8 ⟨A8, c8, rfl, HI, hb⟩
                  have HS := Lib.hid (HS.out.on hb)
                  clear hb HO
                  have HIn := Lib.hid (same_len (ca := c8) (cb := co) HNo.out HI.out (eints_at HS.out (l := E.out) HNo.out List.mem_cons_self (fun x hx => HSM.out.1 x (List.mem_append_left _ hx))) (by omega))
                  clear HI
                  go_wp2_with fail
                  refine HIn.out.mono ?_
                  rintro e b9 ⟨rfl, hb⟩
                  have HS := Lib.hid (HS.out.on hb)
                  clear hb HIn
                  have HO := Lib.hid ((held_gives HS.out HGd.out HOK2.out).mono fun e w' h => lout_len (l := E.held) HNh.out h)
                  go_wp2_with fail
                  refine HO.out.mono ?_
                  rintro e b10 ⟨A10, c10, rfl, HI, hb⟩
                  have HS := Lib.hid (HS.out.on hb)
                  clear hb HO
                  have HIn := Lib.hid (same_len (ca := c10) (cb := ch) HNh.out HI.out (eints_at HS.out (l := E.held) HNh.out (List.mem_cons_of_mem _ List.mem_cons_self) (fun x hx => HSM.out.1 x (List.mem_append_right _ hx))) (by omega))
                  clear HI
                  go_wp2_with fail
                  refine HIn.out.mono ?_
                  rintro e b11 ⟨rfl, hb⟩
                  have HS := Lib.hid (HS.out.on hb)
                  clear hb HIn
                  go_wp2
                  go_roundw
                  case rel => exact ⟨k + 1, q, by omega, by omega, by go_num, rfl, by unfold Hid; rw [HT.out]; exact HQk.out, by unfold Hid; rw [HT.out]; exact HS.out⟩
                  case measure => simp [intOf]; omega
            · as_aux_lemma =>
                rw [hof] at HOf HOK2 HT HSM
                obtain ⟨hw1, hw2⟩ := isL_iff.1 hl
                rw [hLE] at hw2
                have t1 : decide (a < 0) = false := decide_eq_false (by omega)
                have t2 : decide (L0 ≤ a) = false := decide_eq_false (by omega)
                obtain ⟨no, hno⟩ : ∃ no, E.out.length = no := ⟨_, rfl⟩
                obtain ⟨nh, hnh⟩ : ∃ nh, E.held.length = nh := ⟨_, rfl⟩
                rw [hno, hnh] at HS
                rw [hno, hnh] at hol
                rw [hnh] at hch
                rw [hno, hnh]
                have HNo := Lib.hid hno
                have HNh := Lib.hid hnh
                rw [hno, hnh] at h80
                have t3 : (80 : Int) ≤ (no : Int) + (nh : Int) := by omega
                have t4 : IntKind.i64.wrap ((no : Int) + (nh : Int)) = (no : Int) + (nh : Int) := IntWalk.i64_in _ ⟨by omega, by omega⟩
                clear hof hl hLE hch hno hnh
                go_wp2_with fail
                refine (HOf.out _ _ HS.out).mono ?_
                rintro e b5 he
                obtain ⟨A5, c5, he2, hI5, HS⟩ := he.out
                replace HS := Lib.hid HS
                have HI5 := Lib.hid hI5
                obtain rfl : e = .returned (.tuple #[.slice A5 0 c5, errI 4]) := by rw [he2, show ([] : List Int).length = 0 from rfl]; rfl
                clear he HOf hI5 he2
                have HBn := Lib.hid (HB.out.trans (HS.out.below.mono HB.out.size))
                have HSy := Lib.hid (says_gives hg 4 (E := errI 4) (K := 4) rfl rfl b5 HBn.out)
                clear HBn
                go_wp2_with fail
                refine HSy.out.mono ?_
                rintro e b6 ⟨rfl, hb⟩
                have HS := Lib.hid (HS.out.on hb)
                have HI5 := Lib.hid (HI5.out.on hb)
                clear hb HSy
                have HIn := Lib.hid (same_len (A := A5) (B := none) (ca := c5) (cb := 0) (n := 0) (l := []) rfl HI5.out (IntsAt.nil _ _ _) (by omega))
                clear HI5
                go_wp2_with fail
                refine HIn.out.mono ?_
                rintro e b7 ⟨rfl, hb⟩
                have HS := Lib.hid (HS.out.on hb)
                clear hb HIn
                have HO := Lib.hid ((eout_gives HS.out HGd.out HOK2.out).mono fun e w' h => lout_len (l := E.out) HNo.out h)
                go_wp2_with fail
                refine HO.out.mono ?_
                rintro e b8 ⟨A8, c8, rfl, HI, hb⟩
                have HS := Lib.hid (HS.out.on hb)
                clear hb HO
                have HIn := Lib.hid (same_len (ca := c8) (cb := co) HNo.out HI.out (eints_at HS.out (l := E.out) HNo.out List.mem_cons_self (fun x hx => HSM.out.1 x (List.mem_append_left _ hx))) (by omega))
                clear HI
                go_wp2_with fail
                refine HIn.out.mono ?_
                rintro e b9 ⟨rfl, hb⟩
                have HS := Lib.hid (HS.out.on hb)
                clear hb HIn
                have HO := Lib.hid ((held_gives HS.out HGd.out HOK2.out).mono fun e w' h => lout_len (l := E.held) HNh.out h)
                go_wp2_with fail
                refine HO.out.mono ?_
                rintro e b10 ⟨A10, c10, rfl, HI, hb⟩
                have HS := Lib.hid (HS.out.on hb)
                clear hb HO
                have HIn := Lib.hid (same_len (ca := c10) (cb := ch) HNh.out HI.out (eints_at HS.out (l := E.held) HNh.out (List.mem_cons_of_mem _ List.mem_cons_self) (fun x hx => HSM.out.1 x (List.mem_append_right _ hx))) (by omega))
                clear HI
                go_wp2_with fail
                refine HIn.out.mono ?_
                rintro e b11 ⟨rfl, hb⟩
                have HS := Lib.hid (HS.out.on hb)
                clear hb HIn
                go_wp2
                go_roundw
                case rel => exact ⟨k + 1, q, by omega, by omega, by go_num, rfl, by unfold Hid; rw [HT.out]; exact HQk.out, by unfold Hid; rw [HT.out]; exact HS.out⟩
                case measure => simp [intOf]; omega
            · as_aux_lemma =>
                rw [hof] at HOf HOK2 HT HSM
                obtain ⟨hw1, hw2⟩ := isL_iff.1 hl
                rw [hLE] at hw2
                have t1 : decide (a < 0) = false := decide_eq_false (by omega)
                have t2 : decide (L0 ≤ a) = false := decide_eq_false (by omega)
                obtain ⟨no, hno⟩ : ∃ no, E.out.length = no := ⟨_, rfl⟩
                obtain ⟨nh, hnh⟩ : ∃ nh, E.held.length = nh := ⟨_, rfl⟩
                rw [hno, hnh] at HS
                rw [hno, hnh] at hol
                rw [hnh] at hch
                rw [hno, hnh]
                have HNo := Lib.hid hno
                have HNh := Lib.hid hnh
                rw [hno, hnh] at h80
                have t3 : (no : Int) + (nh : Int) < 80 := by omega
                have t4 : IntKind.i64.wrap ((no : Int) + (nh : Int)) = (no : Int) + (nh : Int) := IntWalk.i64_in _ ⟨by omega, by omega⟩
                have hqs : q = E.s := HQk.out
                have hlt2 : E.s < d0.next.length := by rw [HOK.out.st]; exact HGd.out.run_lt HOK.out.word HGd.out.s_lt
                obtain ⟨a2, ha2⟩ : ∃ a2 : Nat, a = (a2 : Int) := ⟨a.toNat, by omega⟩
                subst ha2
                obtain ⟨r, hr1, _, hr2, hr3, hr4⟩ := HGd.out.at_ hlt2 (a := a2) (by rw [hLE]; exact hw2)
                have hD := HD.out.on HBw.out
                have hf2 := HGd.out.fin_at hr4
                rw [Int.toNat_natCast] at hf HOf HOK2 HT HSM
                rw [hf] at hf2
                obtain ⟨adn, Ar, cr, rfl, hnb, hrc, hrl, hrl2, hri⟩ := hD.rows _ _ hr1
                obtain ⟨adr, rfl, _, hrcell, hrlt⟩ := hri.get hr3
                obtain ⟨adf, e9, _, hfcell, hflt⟩ := hD.fins.at_ hf2
                obtain rfl := Option.some.inj e9
                have HFin2 := Lib.hid (fun W (hW : Below b1.heap.size b1 W) => ((HD.out.on hW).fins.at_ hf2))
                rw [HM.out] at hflt
                rw [HN.out] at hlt2
                subst hqs
                have h2 := (HX.out.on HBw.out).c2
                obtain ⟨rl, hrlen⟩ : ∃ rl, r.length = rl := ⟨_, rfl⟩
                rw [hrlen] at hrc hrl hrlt
                generalize hy : Df.step d0 E.s a2 = y at *
                clear e9 hof hl hol hLE hri hr1 hr2 hr3 hnb hrlen hy hD hno hnh
                obtain ⟨nv, fv, pv, rs, hGV⟩ := HS.out
                have HGV := Lib.hid (two_e hGV)
                have HFr := Lib.hid HGV.out.front
                clear hGV
                go_wp2_with (at_builtin; refine own_int rfl _ _ rfl rfl HFr.out rfl (by rw [HNh.out]; omega) ?_)
                intro g2 cap w4 ho
                obtain ⟨n2, hn2⟩ : ∃ n2, E.held.length + 1 = n2 := ⟨_, rfl⟩
                rw [hn2] at ho ⊢
                have hb4 := ho.below
                have HV4 : Hid (EditV b1 w4 g d0 E nv fv pv rs [eInts (.slice (some ⟨g2, 0, none⟩) n2 cap) (E.held ++ [(a2 : Int)]), eInts (.slice Ao no co) E.out] []) := HGV.out.tail.swap (by rw [List.append_nil]; exact ho)
                have HN2 : Hid ((E.held ++ [(a2 : Int)]).length = n2) := by unfold Hid; rw [List.length_append]; exact hn2
                have hn2b : n2 ≤ nh + 1 := by rw [← hn2, HNh.out]; exact Nat.le_refl _
                have hn2c : 0 < n2 := by omega
                have h3 := (HX.out.on hb4).c3
                obtain ⟨adf2, e9, hfb, hfcell2, hflt2⟩ := HFin2.out w4 hb4
                obtain rfl := Option.some.inj e9
                rw [HM.out] at hflt2
                clear HGV HFr ho hn2 hb4 hfcell hflt e9 HFin2 h2 hrcell hac hf2
                have hIa : IntsAt w4 w4.heap.size (some ⟨g2, 0, none⟩) (E.held ++ [(a2 : Int)]) := eints_at (⟨_, _, _, _, HV4.out⟩ : EditW b1 w4 g d0 E _ _) HN2.out List.mem_cons_self (fun x hx => HSM.out.1 x (by show x ∈ (E.out ++ (E.held ++ [(a2 : Int)])) ++ []; rw [List.append_nil]; exact List.mem_append_right _ hx))
                have HV5 := Lib.hid (two_e HV4.out)
                have HFr := Lib.hid HV5.out.front
                have HIa := Lib.hid hIa
                clear hIa HV4
                have HAp : Hid (∀ {ops : Array Oper} {rest : List Oper} {o : Oper} {ac : Act} {Q : Exit → Act → World → Prop}, o.guard = none → ∀ (s x : Operand), o.op = .call { callee := .builtin .append, args := #[s, x], argTypes := #[26, 26] } → ac.eval s = .slice Ao no co → ac.eval x = .slice (some ⟨g2, 0, none⟩) n2 cap → (∀ gn cp w5, EditW b1 w5 g d0 E [eInts (.slice (some ⟨gn, 0, none⟩) (no + n2) cp) (E.out ++ (E.held ++ [(a2 : Int)])), eInts (.slice (some ⟨g2, 0, none⟩) n2 cap) (E.held ++ [(a2 : Int)])] [] → wpList Tryd.prog ops Q rest (ac.put o.dst (.slice (some ⟨gn, 0, none⟩) (no + n2) cp)) w5) → wpList Tryd.prog ops Q (o :: rest) ac w4) := by
                  intro ops rest o ac Q k1 s x k2 k3 k4 k5
                  refine own_ints (l := E.out) (m := E.held ++ [(a2 : Int)]) (ad := ⟨g2, 0, none⟩) (c := cap) k1 s x k2 k3 HFr.out (by rw [k4, HN2.out]) HIa.out (by rw [HN2.out]; omega) (by rw [HN2.out, HNo.out]; omega) ?_
                  intro gn cp w5 h5
                  have h6 : EditW b1 w5 g d0 E [eInts (.slice (some ⟨gn, 0, none⟩) (E.out.length + (E.held ++ [(a2 : Int)]).length) cp) (E.out ++ (E.held ++ [(a2 : Int)])), eInts (.slice (some ⟨g2, 0, none⟩) n2 cap) (E.held ++ [(a2 : Int)])] [] := ⟨_, _, _, _, HV5.out.tail.swap h5⟩
                  rw [HN2.out, HNo.out] at h6 ⊢
                  exact k5 gn cp w5 h6
                have HN3 : Hid ((E.out ++ (E.held ++ [(a2 : Int)])).length = no + n2) := by unfold Hid; rw [List.length_append, HNo.out, HN2.out]
                clear HV5 HFr HIa hch hf
                go_wp2_with (at_builtin; refine HAp.out rfl _ _ rfl rfl rfl ?_)
                intro gn cp w5 HS
                replace HS := Lib.hid HS
                clear HAp
                obtain ⟨n3, hn3⟩ : ∃ n3, no + n2 = n3 := ⟨_, rfl⟩
                rw [hn3] at HS HN3 ⊢
                have hn3b : n3 ≤ 200 := by omega
                clear hn3 hfcell2 hflt2 hfb h3
                go_wp2_with fail
                refine (HOf.out _ _ HS.out).mono ?_
                rintro e b5 he
                obtain ⟨A5, c5, he2, hI5, HS⟩ := he.out
                replace HS := Lib.hid HS
                have HI5 := Lib.hid hI5
                obtain rfl : e = .returned (.tuple #[.slice A5 n2 c5, .nilIface]) := by rw [he2, HN2.out]; rfl
                clear he HOf hI5 he2
                have HBn := Lib.hid (HB.out.trans (HS.out.below.mono HB.out.size))
                have HSy := Lib.hid (says_gives hg 0 (E := .nilIface) (K := 0) rfl rfl b5 HBn.out)
                clear HBn
                go_wp2_with fail
                refine HSy.out.mono ?_
                rintro e b6 ⟨rfl, hb⟩
                have HS := Lib.hid (HS.out.on hb)
                have HI5 := Lib.hid (HI5.out.on hb)
                clear hb HSy
                have HIn := Lib.hid (same_len (A := A5) (ca := c5) (n := n2) HN2.out HI5.out (cb := cap) (eints_at HS.out (l := (E.held ++ [(a2 : Int)])) HN2.out (List.mem_cons_of_mem _ List.mem_cons_self) (fun x hx => HSM.out.1 x (by show x ∈ (E.out ++ (E.held ++ [(a2 : Int)])) ++ []; rw [List.append_nil]; exact List.mem_append_right _ hx))) (by omega))
                clear HI5
                go_wp2_with fail
                refine HIn.out.mono ?_
                rintro e b7 ⟨rfl, hb⟩
                have HS := Lib.hid (HS.out.on hb)
                clear hb HIn
                have HO := Lib.hid ((eout_gives HS.out HGd.out HOK2.out).mono fun e w' h => lout_len (l := (E.out ++ (E.held ++ [(a2 : Int)]))) HN3.out h)
                go_wp2_with fail
                refine HO.out.mono ?_
                rintro e b8 ⟨A8, c8, rfl, HI, hb⟩
                have HS := Lib.hid (HS.out.on hb)
                clear hb HO
                have HIn := Lib.hid (same_len (ca := c8) (cb := cp) HN3.out HI.out (eints_at HS.out (l := (E.out ++ (E.held ++ [(a2 : Int)]))) HN3.out List.mem_cons_self (fun x hx => HSM.out.1 x (List.mem_append_left _ hx))) (by omega))
                clear HI
                go_wp2_with fail
                refine HIn.out.mono ?_
                rintro e b9 ⟨rfl, hb⟩
                have HS := Lib.hid (HS.out.on hb)
                clear hb HIn
                have HO := Lib.hid ((held_gives HS.out HGd.out HOK2.out).mono fun e w' h => lout_len (l := []) (show ([] : List Int).length = 0 from rfl) h)
                go_wp2_with fail
                refine HO.out.mono ?_
                rintro e b10 ⟨A10, c10, rfl, HI, hb⟩
                have HS := Lib.hid (HS.out.on hb)
                clear hb HO
                have HS := Lib.hid (only_e HS.out)
                have HIn := Lib.hid (same_len (ca := c10) (cb := 0) (show ([] : List Int).length = 0 from rfl) HI.out (eints_at HS.out (l := []) (show ([] : List Int).length = 0 from rfl) (List.mem_cons_of_mem _ List.mem_cons_self) (fun x hx => HSM.out.1 x (List.mem_append_right _ hx))) (by omega))
                clear HI
                go_wp2_with fail
                refine HIn.out.mono ?_
                rintro e b11 ⟨rfl, hb⟩
                have HS := Lib.hid (HS.out.on hb)
                clear hb HIn
                go_wp2
                go_roundw
                case rel => exact ⟨k + 1, y, by omega, by omega, by go_num, rfl, by unfold Hid; rw [HT.out], by unfold Hid; rw [HT.out]; exact HS.out⟩
                case measure => simp [intOf]; omega
            · as_aux_lemma =>
                rw [hof] at HOf HOK2 HT HSM
                obtain ⟨hw1, hw2⟩ := isL_iff.1 hl
                rw [hLE] at hw2
                have t1 : decide (a < 0) = false := decide_eq_false (by omega)
                have t2 : decide (L0 ≤ a) = false := decide_eq_false (by omega)
                obtain ⟨no, hno⟩ : ∃ no, E.out.length = no := ⟨_, rfl⟩
                obtain ⟨nh, hnh⟩ : ∃ nh, E.held.length = nh := ⟨_, rfl⟩
                rw [hno, hnh] at HS
                rw [hno, hnh] at hol
                rw [hnh] at hch
                rw [hno, hnh]
                have HNo := Lib.hid hno
                have HNh := Lib.hid hnh
                rw [hno, hnh] at h80
                have t3 : (no : Int) + (nh : Int) < 80 := by omega
                have t4 : IntKind.i64.wrap ((no : Int) + (nh : Int)) = (no : Int) + (nh : Int) := IntWalk.i64_in _ ⟨by omega, by omega⟩
                have hqs : q = E.s := HQk.out
                have hlt2 : E.s < d0.next.length := by rw [HOK.out.st]; exact HGd.out.run_lt HOK.out.word HGd.out.s_lt
                obtain ⟨a2, ha2⟩ : ∃ a2 : Nat, a = (a2 : Int) := ⟨a.toNat, by omega⟩
                subst ha2
                obtain ⟨r, hr1, _, hr2, hr3, hr4⟩ := HGd.out.at_ hlt2 (a := a2) (by rw [hLE]; exact hw2)
                have hD := HD.out.on HBw.out
                have hf2 := HGd.out.fin_at hr4
                rw [Int.toNat_natCast] at hf HOf HOK2 HT HSM
                rw [hf] at hf2
                obtain ⟨adn, Ar, cr, rfl, hnb, hrc, hrl, hrl2, hri⟩ := hD.rows _ _ hr1
                obtain ⟨adr, rfl, _, hrcell, hrlt⟩ := hri.get hr3
                obtain ⟨adf, e9, _, hfcell, hflt⟩ := hD.fins.at_ hf2
                obtain rfl := Option.some.inj e9
                have HFin2 := Lib.hid (fun W (hW : Below b1.heap.size b1 W) => ((HD.out.on hW).fins.at_ hf2))
                rw [HM.out] at hflt
                rw [HN.out] at hlt2
                subst hqs
                have h2 := (HX.out.on HBw.out).c2
                obtain ⟨rl, hrlen⟩ : ∃ rl, r.length = rl := ⟨_, rfl⟩
                rw [hrlen] at hrc hrl hrlt
                generalize hy : Df.step d0 E.s a2 = y at *
                clear e9 hof hl hol hLE hri hr1 hr2 hr3 hnb hrlen hy hD hno hnh
                obtain ⟨nv, fv, pv, rs, hGV⟩ := HS.out
                have HGV := Lib.hid (two_e hGV)
                have HFr := Lib.hid HGV.out.front
                clear hGV
                go_wp2_with (at_builtin; refine own_int rfl _ _ rfl rfl HFr.out rfl (by rw [HNh.out]; omega) ?_)
                intro g2 cap w4 ho
                obtain ⟨n2, hn2⟩ : ∃ n2, E.held.length + 1 = n2 := ⟨_, rfl⟩
                rw [hn2] at ho ⊢
                have hb4 := ho.below
                have HV4 : Hid (EditV b1 w4 g d0 E nv fv pv rs [eInts (.slice (some ⟨g2, 0, none⟩) n2 cap) (E.held ++ [(a2 : Int)]), eInts (.slice Ao no co) E.out] []) := HGV.out.tail.swap (by rw [List.append_nil]; exact ho)
                have HN2 : Hid ((E.held ++ [(a2 : Int)]).length = n2) := by unfold Hid; rw [List.length_append]; exact hn2
                have hn2b : n2 ≤ nh + 1 := by rw [← hn2, HNh.out]; exact Nat.le_refl _
                have hn2c : 0 < n2 := by omega
                have h3 := (HX.out.on hb4).c3
                obtain ⟨adf2, e9, hfb, hfcell2, hflt2⟩ := HFin2.out w4 hb4
                obtain rfl := Option.some.inj e9
                rw [HM.out] at hflt2
                clear HGV HFr ho hn2 hb4 hfcell hflt e9 HFin2 h2 hrcell hac hf2
                have HS : Hid (EditW b1 w4 g d0 E [eInts (.slice Ao no co) E.out, eInts (.slice (some ⟨g2, 0, none⟩) n2 cap) (E.held ++ [(a2 : Int)])] []) := ⟨_, _, _, _, two_e HV4.out⟩
                clear HV4
                clear hch hf
                go_wp2_with fail
                refine (HOf.out _ _ HS.out).mono ?_
                rintro e b5 he
                obtain ⟨A5, c5, he2, hI5, HS⟩ := he.out
                replace HS := Lib.hid HS
                have HI5 := Lib.hid hI5
                obtain rfl : e = .returned (.tuple #[.slice A5 0 c5, .nilIface]) := by rw [he2, show ([] : List Int).length = 0 from rfl]; rfl
                clear he HOf hI5 he2
                have HBn := Lib.hid (HB.out.trans (HS.out.below.mono HB.out.size))
                have HSy := Lib.hid (says_gives hg 0 (E := .nilIface) (K := 0) rfl rfl b5 HBn.out)
                clear HBn
                go_wp2_with fail
                refine HSy.out.mono ?_
                rintro e b6 ⟨rfl, hb⟩
                have HS := Lib.hid (HS.out.on hb)
                have HI5 := Lib.hid (HI5.out.on hb)
                clear hb HSy
                have HIn := Lib.hid (same_len (A := A5) (B := none) (ca := c5) (cb := 0) (n := 0) (l := []) rfl HI5.out (IntsAt.nil _ _ _) (by omega))
                clear HI5
                go_wp2_with fail
                refine HIn.out.mono ?_
                rintro e b7 ⟨rfl, hb⟩
                have HS := Lib.hid (HS.out.on hb)
                clear hb HIn
                have HO := Lib.hid ((eout_gives HS.out HGd.out HOK2.out).mono fun e w' h => lout_len (l := E.out) HNo.out h)
                go_wp2_with fail
                refine HO.out.mono ?_
                rintro e b8 ⟨A8, c8, rfl, HI, hb⟩
                have HS := Lib.hid (HS.out.on hb)
                clear hb HO
                have HIn := Lib.hid (same_len (ca := c8) (cb := co) HNo.out HI.out (eints_at HS.out (l := E.out) HNo.out List.mem_cons_self (fun x hx => HSM.out.1 x (List.mem_append_left _ hx))) (by omega))
                clear HI
                go_wp2_with fail
                refine HIn.out.mono ?_
                rintro e b9 ⟨rfl, hb⟩
                have HS := Lib.hid (HS.out.on hb)
                clear hb HIn
                have HO := Lib.hid ((held_gives HS.out HGd.out HOK2.out).mono fun e w' h => lout_len (l := (E.held ++ [(a2 : Int)])) HN2.out h)
                go_wp2_with fail
                refine HO.out.mono ?_
                rintro e b10 ⟨A10, c10, rfl, HI, hb⟩
                have HS := Lib.hid (HS.out.on hb)
                clear hb HO
                have HIn := Lib.hid (same_len (ca := c10) (cb := cap) HN2.out HI.out (eints_at HS.out (l := (E.held ++ [(a2 : Int)])) HN2.out (List.mem_cons_of_mem _ List.mem_cons_self) (fun x hx => HSM.out.1 x (List.mem_append_right _ hx))) (by omega))
                clear HI
                go_wp2_with fail
                refine HIn.out.mono ?_
                rintro e b11 ⟨rfl, hb⟩
                have HS := Lib.hid (HS.out.on hb)
                clear hb HIn
                go_wp2
                go_roundw
                case rel => exact ⟨k + 1, y, by omega, by omega, by go_num, rfl, by unfold Hid; rw [HT.out], by unfold Hid; rw [HT.out]; exact HS.out⟩
                case measure => simp [intOf]; omega
          · obtain rfl : k = 200 := by omega
            have e1 : ((200 : Nat) : Int) < (zl : Int) := by omega
            have HE := Lib.hid (HB.out.trans (HBw.out.mono HB.out.size))
            clear HS HBw
            go_wp2
            go_ret
            exact ⟨rfl, HE.out⟩
        · obtain rfl : k = zl := by omega
          have HE := Lib.hid (HB.out.trans (HBw.out.mono HB.out.size))
          clear HS HBw
          go_wp2
          go_ret
          exact ⟨rfl, HE.out⟩
  · have HNw := Lib.hid (fun W v (h : DfaAt W W.heap.size v d0) => enew_bad v d0 W h (by unfold echk; rw [if_pos g1]; exact g1))
    rw [show echk d0 = dchk d0 by unfold echk; rw [if_pos g1]] at HNw
    obtain ⟨e0, he0⟩ : ∃ e0, dchk d0 = e0 + 1 := ⟨dchk d0 - 1, by omega⟩
    rw [he0] at HRD HNw
    have HSay := Lib.hid (fun W hb => says_gives hg (e0 + 1) (E := errI ((e0 + 1 : Nat) : Int)) (K := ((e0 + 1 : Nat) : Int)) rfl rfl W hb)
    have hE0 : (((e0 + 1 : Nat) : Int) == 0) = false := by simp; omega
    have hE1 : (((e0 + 1 : Nat) : Int) != 0) = true := by simp; omega
    rw [errV_succ] at HNw
    clear g1 he0 hg
    generalize ((e0 + 1 : Nat) : Int) = E at *
    go_enter Tryd.func3, Tryd.ntmps3
    go_wp2_with fail
    rw [← HW.out]
    clear HW
    refine (HRD.out _ _ HV.out).mono ?_
    rintro e b1 ⟨he, hb⟩
    obtain rfl : e = .returned (.int .i64 E) := he.out
    have HX := Lib.hid (HX.out.on hb)
    have HD := Lib.hid (HD.out.on hb)
    have HV := Lib.hid (HV.out.on hb)
    have Z := Lib.hid (Z.out.on hb)
    have HB := Lib.hid (HB.out.trans (hb.mono HB.out.size))
    clear hb he HRD hc0 hc1 hc2 hc3
    have hc0 := HX.out.c0
    have hc1 := HX.out.c1
    have hc2 := HX.out.c2
    have hc3 := HX.out.c3
    go_wp2_with fail
    refine (HNw.out _ _ HV.out).mono ?_
    rintro e b3 ⟨he, hb⟩
    obtain rfl : e = .returned (.tuple #[.pointer none, errI E]) := he.out
    have HX := Lib.hid (HX.out.on hb)
    have HD := Lib.hid (HD.out.on hb)
    have HV := Lib.hid (HV.out.on hb)
    have Z := Lib.hid (Z.out.on hb)
    have HB := Lib.hid (HB.out.trans (hb.mono HB.out.size))
    clear hb he HNw hc0 hc1 hc2 hc3
    have HSy := Lib.hid (HSay.out b3 HB.out)
    clear HSay
    go_wp2_with fail
    refine HSy.out.mono ?_
    rintro e b4 ⟨rfl, hb⟩
    have HB := Lib.hid (HB.out.trans (hb.mono HB.out.size))
    clear hb HSy
    go_wp2
    go_ret
    exact ⟨rfl, HB.out⟩


set_option maxRecDepth 100000 in
theorem lifted (os : Os) (started : os.Started) (H : Type) (enc : TypeId × Value → H) :
    ReturnsInHanded {} Tryd.checked os 3 .any (fun w args => (Rows.editPlaysSpec.pre enc Tryd.prog Tryd.f3 Rows.editPlaysRow.domain false w args ∧ laidMetH Tryd.prog [("errors.errorType", Rows.laid_errors_errorType)] w) ∧ sizedMet enc Tryd.prog Tryd.f3 (OpenSpec.ofChange Rows.editPlaysSpec) false w args) (Rows.editPlaysSpec.post enc Tryd.prog Tryd.f3 false true false false) := by
  refine returnsInHanded_of_change_and (C := Tryd.checked) (X := fun w _ => laidMetH Tryd.prog [("errors.errorType", Rows.laid_errors_errorType)] w) (fun _ _ _ hh h => h.of_heap hh) own started (by kernel_rfl) Tryd.func3
    (ChangeSpec.witness_at (enc := enc) (C := Tryd.checked) (os := os) (X := fun w _ => laidMetH Tryd.prog [("errors.errorType", Rows.laid_errors_errorType)] w) false (laidWorld os) #[.agg #[.int .i64 0, .int .i64 0, .slice none 0 0, .slice none 0 0], .slice none 0 0] 8 rfl (by kernel_rfl) (by kernel_rfl) (by kernel_rfl) (by kernel_rfl) (by kernel_rfl) (laidWorld_met os _)) ?_
  intro W base args ds gs before hval0 hW hcnd hsz0 hL _
  have hval : ∀ (j : Nat) t v, Tryd.f3.params[j]? = some t → args[j]? = some v → Value.okWide Tryd.prog W .any base t v := hval0
  have hsz : (DataW.weightsEach Tryd.prog (Tryd.f3.params.toList ++ Rows.editPlaysSpec.plain.varTypes Tryd.prog) (ds ++ gs)).all (· ≤ reachBytes) = true := hsz0
  have hW' := hW
  obtain ⟨p, q, hA0, hV0, rfl, hfz, hnd⟩ := hW
  have hV : DataW.TrodVars enc Tryd.prog W (fun _ => true) [] gs q := hV0
  have hA : DataW.TrodAll enc Tryd.prog W 0 (fun _ => true) true Tryd.f3.params.toList args.toList ds p := hA0
  rw [Tryd.params3] at hA hval hsz
  obtain ⟨v0, vs0, d0, ds0, p0, q0, hargs, rfl, rfl, h0, rr0⟩ := trodAll_cons hA
  obtain ⟨v1, vs1, d1, ds1, p1, q1, rfl, rfl, rfl, h1, rr1⟩ := trodAll_cons rr0
  obtain ⟨rfl, rfl, rfl⟩ := trodAll_nil rr1
  obtain rfl : args = #[v0, v1] := by cases args; simp_all
  obtain ⟨rfl, rfl⟩ := trodVars_none hV
  have k0 := h0
  have lt0 : ∀ x ∈ p0, x.block < W.heap.size := by obtain ⟨m, hm⟩ := k0; exact DataW.trod_lt m _ _ _ hm
  have k1 := h1
  have lt1 : ∀ x ∈ p1, x.block < W.heap.size := by obtain ⟨m, hm⟩ := k1; exact DataW.trod_lt m _ _ _ hm
  obtain ⟨D0, x0⟩ : ∃ d : Df.Aut, Df.DfaAt W W.heap.size v0 d := Df.dfa_open (hval 0 25 v0 rfl rfl) h0
  obtain ⟨A1, len1, c1, rfl⟩ := okWide_slice Tryd.underlying26 (hval 1 26 v1 rfl rfl)
  obtain ⟨z1, rfl, x1, r1, m1⟩ : ∃ zs : List Int, len1 = zs.length ∧ IntsAt W W.heap.size A1 zs ∧ zs.length ≤ 17592186043904 ∧ zs.length ≤ c1 := by
    obtain ⟨fuel, hf⟩ := h1
    rcases open_ints Tryd.underlying26 Tryd.underlying3 (by kernel_rfl) hf with ⟨hcs, _⟩ | ⟨x, l, c, zs, hcs, _, hl, hm, hz, hx, hcell, hwz⟩
    · simp [Value.cells] at hcs
      obtain ⟨rfl, rfl, rfl⟩ := hcs
      exact ⟨[], rfl, IntsAt.nil _ _ _, by simp, by simp⟩
    · simp [Value.cells] at hcs
      obtain ⟨rfl, rfl, rfl⟩ := hcs
      have hd := congrArg Prod.fst hx
      simp only at hd
      have := sized_slice hsz (j := 1) (t := 26) (e := 3) rfl (by rw [hd]; rfl) Tryd.underlying26
      rw [(show Tryd.prog.bytesOf 3 = 8 by kernel_rfl)] at this
      simp only [reachBytes, lits, List.length_map, List.length_take, List.length_drop] at this
      have hz' : zs.length = c1 := by simpa using hz
      exact ⟨zs.take len1, by rw [List.length_take]; omega, intsAt_of_open hcell hwz len1, by rw [List.length_take]; omega, by rw [List.length_take]; omega⟩
  clear hA0 hval0
  refine (walk v0 D0 A1 c1 z1 W x0 x1 r1 m1 (handle_of_laid hL)).mono fun e W' ⟨he, bel⟩ => ?_
  subst he
  exact ⟨_, rfl, _, _, _, [], _, [], hW', trodAll_mk1 (shut_bool Tryd.underlying4 _), (trodAll_cons_mk (Below.trod laidOut (by kernel_rfl) (of_decide_eq_true (by kernel_rfl)) k0 bel lt0) (trodAll_cons_mk (Below.trod laidOut (by kernel_rfl) (of_decide_eq_true (by kernel_rfl)) k1 bel lt1) trodAll_mk0)), rfl, bel.frame _, fun h => by cases h⟩

theorem over : Rows.editPlaysRow.holds Tryd.pinned (OpenSpec.ofChange Rows.editPlaysSpec) :=
  OpenClaim.holds_of_wide 3 Tryd.f3 rfl rfl rfl rfl rfl rfl rfl ⟨rfl, rfl, rfl, rfl, rfl⟩ rfl rfl rfl rfl rfl (by kernel_rfl) Tryd.func3 (by kernel_rfl)
    (of_decide_eq_true (by kernel_rfl)) (by unfold Func.isWrapper; rw [if_neg (of_decide_eq_false (by kernel_rfl))]; exact ⟨rfl, rfl⟩)
    (fun os started H enc _ => lifted os started H enc)
theorem proved : Rows.EditPlaysCardSaid :=
  Claim7.holds_tied_plain_at .later [] [.handle] true (true, "ce25e56a9d4285ac3e51d993087ffcdfeb74063b23f64275919c4eda404e0c75") true
    over (fun _ h => by cases h) (by kernel_rfl) (fun _ h => by cases h) editPlays_row_tie rfl ⟨rfl, rfl⟩ (by kernel_rfl) rfl
    (fun f fn hf hfn => by
      obtain rfl : f = 3 := Option.some.inj ((show Tryd.prog.funcNamed "stileward/stilewardlaw4.EditPlays" = some 3 by kernel_rfl).symm.trans hf) |>.symm
      obtain rfl : fn = Tryd.f3 := (Option.some.inj (Tryd.func3.symm.trans hfn)).symm
      exact ⟨by kernel_rfl, fun j t ht => by
        rw [Tryd.params3] at ht
        rcases j with _ | _ | j
        · obtain rfl : 25 = t := by simpa using ht
          exact (show Tryd.prog.wantsStandIn 25 = false by kernel_rfl)
        · obtain rfl : 26 = t := by simpa using ht
          exact (show Tryd.prog.wantsStandIn 26 = false by kernel_rfl)
        · simp at ht⟩)
    (by kernel_rfl)
#print axioms proved
end Go.Proofs.YtendgfbnkpbndaaDoor.editPlays

/-
  The statement TopMendSaid of this seat, proved: for every input the law returns true and its arguments read behind the call as before. Conditions: none but the row's own (each argument within the reach).
-/
import Derived.Test.YtfiknbdpjnpkdaaRows
import Derived.Test.YtfiknbdpjnpkdaaWords
import Derived.WalkKit
import Derived.ProofKit
import Derived.OpenShut
import Derived.ShutString
import Derived.ChangeOld
import Derived.Below
import Derived.SizedLaws
import Derived.Lib.Hide
import Derived.Test.YtfiknbdpjnpkdaaMendT
import Derived.Test.YtfiknbdpjnpkdaaEditL
import Derived.Test.YtfiknbdpjnpkdaaGateL
import Derived.Test.YtfiknbdpjnpkdaaMendV
import Derived.Test.YtfiknbdpjnpkdaaNearK
import Derived.Test.YtfiknbdpjnpkdaaDfaV
import Derived.Test.YtfiknbdpjnpkdaaTwo
import Derived.Deep.RegionHeld3
namespace Go.Proofs.Ytfiknbdpjnpkdaa.topMend
open Go.ChangeShapes Go.WideShapes Go.ChangeAt Go.RowKit Go.IntWalk Go.Proofs.Ytfiknbdpjnpkdaa.Wd
open Go.ChangeMaps (open_string shut_string)
set_option linter.unusedVariables false

theorem own : ownKnob Try.prog.godebug = none := by kernel_rfl
theorem laidOut : laidOutB Try.prog = true := by kernel_rfl
open Go.Proofs.Ytfiknbdpjnpkdaa.Wo Go.Proofs.Ytfiknbdpjnpkdaa.Df Go.Proofs.Ytfiknbdpjnpkdaa.Rc Go.Proofs.Ytfiknbdpjnpkdaa.Sm Go.Proofs.Ytfiknbdpjnpkdaa.Sa Go.Proofs.Ytfiknbdpjnpkdaa.Ga Go.Proofs.Ytfiknbdpjnpkdaa.Ed Go.Proofs.Ytfiknbdpjnpkdaa.Ne Go.Proofs.Ytfiknbdpjnpkdaa.Me Go.Proofs.Ytfiknbdpjnpkdaa.Wr

set_option maxRecDepth 100000 in
set_option maxHeartbeats 4000000 in
theorem walk (v0 : Value) (d0 : Df.Aut) (A1 : Option Addr) (c1 : Nat) (z1 : List Int) (w : World) (h0 : Df.DfaAt w w.heap.size v0 d0) (v1 : IntsAt w w.heap.size A1 z1) (r1 : z1.length ≤ 17592186043904) (m1 : z1.length ≤ c1) :
    Calls Try.prog 5 #[v0, .slice A1 z1.length c1] w fun e w' => e = .returned (.bool true) ∧ Below w.heap.size w w' := by
  have hr : z1.length ≤ 17592186044416 := by omega
  obtain ⟨L0, s0, A0, n0, c0, F0, m0, k0, rfl⟩ := h0.form
  have hN0 := h0.eqs.2.2.1
  obtain ⟨u0, hu0, hb0, VA0⟩ := var_new w h0
  have VA := Lib.hid VA0
  have B := Lib.hid hb0
  have W0 := Lib.hid hu0
  have HN0 := Lib.hid hN0
  have Z := Lib.hid (v1.on hb0)
  clear VA0 hb0 hu0 h0 hN0 v1
  clear HN0
  have hL0 : d0.L = L0 := VA.out.at_.eqs.1
  have HP := Lib.hid (fun W => pairs_any W)
  have HF := Lib.hid (fun W v (h : DfaAt W W.heap.size v pairsA) => fact_costs h)
  have two : (∃ e, costO2 d0 z1 = (0, e + 1)) ∨ ∃ x, aErr d0 z1 = 0 ∧ mendW d0 z1 = some x ∧ costO2 d0 z1 = (x.1, 0) := by
    rcases mendO2_ways d0 z1 with ⟨e, ha, hm, hc⟩ | ⟨ha, hx, hm, hc⟩ | ⟨x, ha, hx, hl, hm, hc⟩ | ⟨x, ha, hx, hl, hm, hc⟩
    · exact .inl ⟨e, hc⟩
    · exact .inl ⟨4, hc⟩
    · exact .inr ⟨x, ha, hx, hc⟩
    · exact .inr ⟨x, ha, hx, hc⟩
  rcases two with ⟨e, hc⟩ | ⟨x, ha, hx, hc⟩
  · obtain ⟨E, hE⟩ := errV_bad (k := e + 1) (by omega)
    have HC := Lib.hid (fun W v Z cz (h : DfaAt W W.heap.size v d0) (hZ : IntsAt W W.heap.size Z z1) => cost_gives (cz := cz) (C := 0) (E := errI E) h hZ hr hc rfl hE)
    clear hc hE hL0 hr r1 m1
    go_enter Try.func5, Try.ntmps5
    go_wp2_with fail
    rw [← W0.out]
    clear W0
    refine (HP.out _).mono ?_
    rintro e u1 he
    obtain ⟨xf, rfl, hof⟩ := he.out
    have hb := hof.below
    have HX0 := Lib.hid hof.at_
    have Z := Lib.hid (Z.out.on hb)
    have VA := Lib.hid (VA.out.on hb)
    have B := Lib.hid (B.out.trans (hb.mono B.out.size))
    clear he hof hb HP
    go_wp2_with fail
    refine (HF.out _ _ HX0.out).mono ?_
    rintro e u2 ⟨rfl, hb0⟩
    have hb : Below u1.heap.size u1 u2 := (below_alloc _ _).trans (hb0.mono (below_alloc _ _).size)
    have Z := Lib.hid (Z.out.on hb)
    have VA := Lib.hid (VA.out.on hb)
    have B := Lib.hid (B.out.trans (hb.mono B.out.size))
    clear hb hb0 HF HX0
    obtain ⟨p0, p1, p2, p3, p4⟩ := VA.out.box
    go_wp2_with fail
    refine (HC.out _ _ _ _ VA.out.at_ Z.out).mono ?_
    rintro e u3 ⟨rfl, hb⟩
    have Z := Lib.hid (Z.out.on hb)
    have VA := Lib.hid (VA.out.on hb)
    have B := Lib.hid (B.out.trans (hb.mono B.out.size))
    clear hb p0 p1 p2 p3 p4 HC
    go_wp2
    go_ret
    exact ⟨rfl, B.out⟩
  · obtain ⟨c, l⟩ := x
    obtain ⟨g1, g2⟩ := aErr_good ha
    have gd := dchk_iff.1 g1
    have hfz1 := chk_iff.1 g2
    have hLs : Small d0.L := ⟨by have := gd.l1; omega, by have := gd.l6; omega⟩
    have HC := Lib.hid (fun W v Z cz (h : DfaAt W W.heap.size v d0) (hZ : IntsAt W W.heap.size Z z1) => cost_gives (cz := cz) (C := (c : Int)) (E := .nilIface) h hZ hr hc rfl rfl)
    have hw := fine_word hfz1
    have h80 : z1.length ≤ 80 := hfz1.2.1
    obtain ⟨zl, hzl⟩ : ∃ zl, z1.length = zl := ⟨_, rfl⟩
    have HL := Lib.hid hzl
    have HGd := Lib.hid gd
    by_cases hem : accA d0 [] = true
    · have HEm := Lib.hid hem
      have HNe := Lib.hid (fun W v (h : DfaAt W W.heap.size v d0) => enew_ok v d0 W h gd hem)
      have hlet := eoffers_lets d0 z1 (p := (edit0 d0, [])) (eok_start hem) (by simpa using h80)
      have hokE := eok_offers (p := (edit0 d0, [])) (eok_start hem) z1
      rw [hlet, lets_self hw, List.nil_append] at hokE
      obtain ⟨E, hEE⟩ : ∃ E, (eoffers d0 (edit0 d0, []) z1).1 = E := ⟨_, rfl⟩
      rw [hEE] at hokE
      have HEE := Lib.hid hEE
      obtain ⟨hme1, hme2⟩ := mend_edit hokE hx
      simp only at hme2
      have hwE : Word d0.L E.out := fun a ha => hw a (by rw [← hokE.all]; exact List.mem_append_left _ ha)
      have hlE : E.out.length ≤ 80 := by have h1 := congrArg List.length hokE.all; rw [List.length_append] at h1; omega
      have hfE : Fine d0.L E.out := ⟨hfz1.1, hlE, hwE⟩
      obtain ⟨pE, hpE⟩ : ∃ p, E.out.length = p := ⟨_, rfl⟩
      obtain ⟨qE, hqE⟩ : ∃ q, E.held.length = q := ⟨_, rfl⟩
      rw [hqE] at hme1 hme2
      have HOuE : Hid (∀ W {b : World} {g : Nat}, EditW b W g d0 E [] [] → Calls Try.prog 14 #[.pointer (some ⟨g, 0, none⟩)] W fun e w' => ∃ A c, e = .returned (.slice A pE c) ∧ Hid (IntsAt w' w'.heap.size A E.out) ∧ Below W.heap.size W w') := fun W {b g} h => (eout_gives h gd hokE).mono fun e w' ⟨A, c, k1, k2, _, k3⟩ => by
        rw [hpE] at k1
        exact ⟨A, c, k1, k2, k3⟩
      have HHe : Hid (∀ W {b : World} {g : Nat}, EditW b W g d0 E [] [] → Calls Try.prog 15 #[.pointer (some ⟨g, 0, none⟩)] W fun e w' => ∃ A c, e = .returned (.slice A qE c) ∧ Below W.heap.size W w') := fun W {b g} h => (held_gives h gd hokE).mono fun e w' ⟨A, c, k1, _, _, k3⟩ => by
        rw [hqE] at k1
        exact ⟨A, c, k1, k3⟩
      have HDiE : Hid (∀ W A B ca cb, IntsAt W W.heap.size A z1 → IntsAt W W.heap.size B E.out → Calls Try.prog 9 #[.int .i64 L0, .slice A zl ca, .slice B pE cb] W fun e w' => e = .returned (.tuple #[.int .i64 ((qE : Nat) : Int), .nilIface]) ∧ Below W.heap.size W w') := fun W A B ca cb hA hB => by
        have h := dist_ok (c := ca) (d := cb) hLs hA hB hfz1 hfE
        rw [hL0, hme1, hzl, hpE] at h
        exact h
      have eE1 : ¬ ((qE : Nat) : Int) < ((c : Nat) : Int) := by omega
      have eE2 : (((qE : Nat) : Int) != ((qE : Nat) : Int)) = false := by simp
      by_cases hgk : gchk d0 = 0
      · have hgg := gchk_iff.1 hgk
        have HGG := Lib.hid hgg
        have HNg := Lib.hid (fun W v (h : DfaAt W W.heap.size v d0) => gnew_ok v d0 W h hgg)
        have hoa := (offers_all d0 z1 (g := gate0 d0) rfl (by simpa [gate0] using h80)).1
        have hkG := gok_offers (gok_start hgg) z1
        obtain ⟨G, hGG2⟩ : ∃ G, offers d0 (gate0 d0) z1 = G := ⟨_, rfl⟩
        rw [hGG2] at hoa hkG
        have HGG2 := Lib.hid hGG2
        rw [lets_self hw] at hoa
        have hoa2 : G.out = z1.take (pass d0 d0.s.toNat z1) := by rw [hoa]; rfl
        obtain ⟨hmg1, hmg2⟩ := mend_gate hgg hw hx
        rw [← hoa2, hzl] at hmg1
        rw [hzl] at hmg2
        simp only at hmg2
        have hpl := pass_le d0 d0.s.toNat z1
        have hGl : G.out.length = pass d0 d0.s.toNat z1 := by rw [hoa2, List.length_take]; omega
        generalize pass d0 d0.s.toNat z1 = pG at *
        have hfG : Fine d0.L G.out := ⟨hfz1.1, hkG.len, hkG.word⟩
        have HOuG : Hid (∀ W {b : World} {g : Nat}, GateW b W g d0 G [] [] → Calls Try.prog 18 #[.pointer (some ⟨g, 0, none⟩)] W fun e w' => ∃ A c, e = .returned (.slice A pG c) ∧ Hid (IntsAt w' w'.heap.size A G.out) ∧ Below W.heap.size W w') := fun W {b g} h => (gout_gives h gd hkG).mono fun e w' ⟨A, c, k1, k2, _, k3⟩ => by
          rw [hGl] at k1
          exact ⟨A, c, k1, k2, k3⟩
        have HDiG : Hid (∀ W A B ca cb, IntsAt W W.heap.size A z1 → IntsAt W W.heap.size B G.out → Calls Try.prog 9 #[.int .i64 L0, .slice A zl ca, .slice B pG cb] W fun e w' => e = .returned (.tuple #[.int .i64 ((zl : Nat) - (pG : Nat) : Int), .nilIface]) ∧ Below W.heap.size W w') := fun W A B ca cb hA hB => by
          have h := dist_ok (c := ca) (d := cb) hLs hA hB hfz1 hfG
          rw [hL0, hmg1, hzl, hGl] at h
          rw [show ((zl - pG : Nat) : Int) = (zl : Int) - (pG : Int) by omega] at h
          exact h
        have hzp : pG ≤ zl := by omega
        have eG1 : ¬ ((zl : Nat) : Int) - ((pG : Nat) : Int) < ((c : Nat) : Int) := by omega
        have eG2 : (((zl : Nat) : Int) - ((pG : Nat) : Int) != ((zl : Nat) : Int) - ((pG : Nat) : Int)) = false := by simp
        clear hlet hokE hEE hme1 hme2 hwE hlE hfE hpE hqE hem 
        clear hgg hoa hkG hGG2 hoa2 hmg1 hmg2 hpl hGl hfG hgk 
        clear ha hx hc g1 g2 gd hfz1 hLs hw hL0 hr r1 m1
        have hzl80 : zl ≤ 80 := by rw [← hzl]; exact h80
        clear h80
        rw [hzl] at HC ⊢
        clear hzl
        go_enter Try.func5, Try.ntmps5
        go_wp2_with fail
        rw [← W0.out]
        clear W0
        refine (HP.out _).mono ?_
        rintro e u1 he
        obtain ⟨xf, rfl, hof⟩ := he.out
        have hb := hof.below
        have HX0 := Lib.hid hof.at_
        have Z := Lib.hid (Z.out.on hb)
        have VA := Lib.hid (VA.out.on hb)
        have B := Lib.hid (B.out.trans (hb.mono B.out.size))
        clear he hof hb HP
        go_wp2_with fail
        refine (HF.out _ _ HX0.out).mono ?_
        rintro e u2 ⟨rfl, hb0⟩
        have hb : Below u1.heap.size u1 u2 := (below_alloc _ _).trans (hb0.mono (below_alloc _ _).size)
        have Z := Lib.hid (Z.out.on hb)
        have VA := Lib.hid (VA.out.on hb)
        have B := Lib.hid (B.out.trans (hb.mono B.out.size))
        clear hb hb0 HF HX0
        obtain ⟨p0, p1, p2, p3, p4⟩ := VA.out.box
        go_wp2_with fail
        refine (HC.out _ _ _ _ VA.out.at_ Z.out).mono ?_
        rintro e u3 ⟨rfl, hb⟩
        have Z := Lib.hid (Z.out.on hb)
        have VA := Lib.hid (VA.out.on hb)
        have B := Lib.hid (B.out.trans (hb.mono B.out.size))
        clear hb p0 p1 p2 p3 p4 HC
        obtain ⟨p0, p1, p2, p3, p4⟩ := VA.out.box
        go_wp2_with fail
        refine (HNe.out _ _ VA.out.at_).mono ?_
        rintro e x1 he
        obtain ⟨gE, rfl, hG⟩ := he.out
        have HS : Hid (EditW u3 x1 gE d0 (eoffers d0 (edit0 d0, []) (z1.take 0)).1 [] []) := hG
        clear he hG HNe p0 p1 p2 p3 p4
        go_wp2
        go_loopw [11] (fun i wr => ∃ k : Nat, k ≤ zl ∧ i = .int .i64 k ∧ Hid (EditW u3 wr gE d0 (eoffers d0 (edit0 d0, []) (z1.take k)).1 [] [])) (fun i _ => zl - (intOf i).toNat)
        case atStart => exact ⟨0, by omega, rfl, HS⟩
        case round =>
          clear HS
          obtain ⟨k, hk, rfl, HS⟩ := hrel
          by_cases hlt : k < zl
          · have hkz : k < z1.length := by rw [HL.out]; exact hlt
            have e1 : (k : Int) < (zl : Int) := by omega
            have hZ := Z.out.on HS.out.below
            obtain ⟨ada, rfl, hab, hac, _⟩ := hZ.get (List.getElem?_eq_getElem hkz)
            have hok := eok_offers (p := (edit0 d0, [])) (eok_start HEm.out) (z1.take k)
            have HOf := Lib.hid (eoffer_any u3 wr gE d0 _ _ [] [] z1[k] HS.out HGd.out hok (hZ.2 _ (List.getElem_mem hkz)))
            have HT : Hid ((eoffers d0 (edit0 d0, []) (z1.take (k + 1))).1 = (eoffer d0 (eoffers d0 (edit0 d0, []) (z1.take k)).1 z1[k]).2.2) := by unfold Hid; rw [eoffers_take _ _ _ hkz]
            clear HS hZ hab hok
            generalize z1[k] = a at *
            clear hkz
            generalize eoffer d0 (eoffers d0 (edit0 d0, []) (z1.take k)).1 a = R at *
            go_wp2_with fail
            refine HOf.out.mono ?_
            rintro e w7 he
            obtain ⟨A3, c3, he2, _, hG⟩ := he.out
            have HG : Hid (EditW u3 w7 gE d0 (eoffers d0 (edit0 d0, []) (z1.take (k + 1))).1 [] []) := by unfold Hid; rw [HT.out]; exact hG
            clear he HOf hac hG HT
            generalize R.2.1.length = n3 at *
            generalize errV R.1 = E3 at *
            subst he2
            go_wp2
            go_roundw
            case rel => exact ⟨k + 1, by omega, by go_num, HG⟩
            case measure => simp [intOf]; omega
          · obtain rfl : zl = k := by omega
            have e1 : ¬ (zl : Int) < (zl : Int) := by omega
            have HS : Hid (EditW u3 wr gE d0 E [] []) := by have h := HS.out; rwa [List.take_of_length_le (by rw [HL.out]; omega), HEE.out] at h
            have VAw := Lib.hid (VA.out.on HS.out.below)
            have Zw := Lib.hid (Z.out.on HS.out.below)
            have B := Lib.hid (B.out.trans (HS.out.below.mono B.out.size))
            have HK4 : Hid (∀ W, Below wr.heap.size wr W → W.cell? ⟨w.heap.size, 0, none⟩ = some (.int .i64 L0)) := fun W hW => (VAw.out.box.on hW).c0
            have HDr : Hid (Below wr.heap.size wr wr.drew) := (Below.refl _ _).drew
            go_wp2_with fail
            go_region_held3 (fun W => W.cell? ⟨w.heap.size, 0, none⟩ = some (.int .i64 L0))
              (first | exact HK4.out _ HB6.out | exact HK4.out _ HB5.out | exact HK4.out _ HDr.out)
              (first | (go_at_call 9; refine (HDiE.out _ _ _ _ _ (Zw.out.on HB5.out) HI5.out).mono ?_; rintro e w6 ⟨rfl, hb⟩; have HB6 := Lib.hid (HB5.out.trans (hb.mono HB5.out.size)); clear hb) | (go_at_call 14; refine (HOuE.out _ (HS.out.on HDr.out)).mono ?_; rintro e w5 ⟨A5, c5, rfl, HI5, hb⟩; have HB5 := Lib.hid (HDr.out.trans (hb.mono HDr.out.size)); clear hb))
            all_goals
              have HS := Lib.hid (HS.out.on HB6.out)
              have VA := Lib.hid (VAw.out.on HB6.out)
              have Z := Lib.hid (Zw.out.on HB6.out)
              have B := Lib.hid (B.out.trans (HB6.out.mono B.out.size))
              clear HK4 HDr HOuE HDiE VAw Zw HB6 HB5 HI5
              go_wp2_with fail
              refine (HHe.out _ HS.out).mono ?_
              rintro e w8 ⟨A8, c8, rfl, hb⟩
              have VA := Lib.hid (VA.out.on hb)
              have Z := Lib.hid (Z.out.on hb)
              have B := Lib.hid (B.out.trans (hb.mono B.out.size))
              clear hb HHe HS
              obtain ⟨p0, p1, p2, p3, p4⟩ := VA.out.box
              go_wp2_with fail
              refine (HNg.out _ _ VA.out.at_).mono ?_
              rintro e x1 he
              obtain ⟨gG, rfl, hG⟩ := he.out
              have HS : Hid (GateW w8 x1 gG d0 (offers d0 (gate0 d0) (z1.take 0)) [] []) := hG
              clear he hG HNg p0 p1 p2 p3 p4
              go_wp2
              go_loopw [16] (fun i wr => ∃ k : Nat, k ≤ zl ∧ i = .int .i64 k ∧ Hid (GateW w8 wr gG d0 (offers d0 (gate0 d0) (z1.take k)) [] [])) (fun i _ => zl - (intOf i).toNat)
              case atStart => exact ⟨0, by omega, rfl, HS⟩
              case round =>
                clear HS
                obtain ⟨k, hk, rfl, HS⟩ := hrel
                by_cases hlt : k < zl
                · have hkz : k < z1.length := by rw [HL.out]; exact hlt
                  have e1 : (k : Int) < (zl : Int) := by omega
                  have hZ := Z.out.on HS.out.below
                  obtain ⟨ada, rfl, hab, hac, _⟩ := hZ.get (List.getElem?_eq_getElem hkz)
                  have hok := gok_offers (gok_start HGG.out) (z1.take k)
                  have HOf := Lib.hid (offer_any w8 wr gG d0 _ [] [] z1[k] HS.out HGd.out hok (hZ.2 _ (List.getElem_mem hkz)))
                  have HT : Hid ((offers d0 (gate0 d0) (z1.take (k + 1))) = (offer d0 (offers d0 (gate0 d0) (z1.take k)) z1[k]).2.2) := by unfold Hid; rw [offers_take _ _ _ hkz]
                  rw [← HT.out] at HOf
                  clear HS hZ hab hok HT
                  generalize (offer d0 (offers d0 (gate0 d0) (z1.take k)) z1[k]).2.1 = bo at *
                  generalize errV (offer d0 (offers d0 (gate0 d0) (z1.take k)) z1[k]).1 = ev at *
                  generalize z1[k] = a at *
                  clear hkz
                  go_wp2_with fail
                  refine HOf.out.mono ?_
                  rintro e w7 ⟨he, HG⟩
                  obtain rfl := he.out
                  clear he HOf hac
                  go_wp2
                  go_roundw
                  case rel => exact ⟨k + 1, by omega, by go_num, HG⟩
                  case measure => simp [intOf]; omega
                · obtain rfl : zl = k := by omega
                  have e1 : ¬ (zl : Int) < (zl : Int) := by omega
                  have HS : Hid (GateW w8 wr gG d0 G [] []) := by have h := HS.out; rwa [List.take_of_length_le (by rw [HL.out]; omega), HGG2.out] at h
                  have VAw := Lib.hid (VA.out.on HS.out.below)
                  have Zw := Lib.hid (Z.out.on HS.out.below)
                  have B := Lib.hid (B.out.trans (HS.out.below.mono B.out.size))
                  have HK4 : Hid (∀ W, Below wr.heap.size wr W → W.cell? ⟨w.heap.size, 0, none⟩ = some (.int .i64 L0)) := fun W hW => (VAw.out.box.on hW).c0
                  have HDr : Hid (Below wr.heap.size wr wr.drew) := (Below.refl _ _).drew
                  go_wp2_with fail
                  go_region_held3 (fun W => W.cell? ⟨w.heap.size, 0, none⟩ = some (.int .i64 L0))
                    (first | exact HK4.out _ HB6.out | exact HK4.out _ HB5.out | exact HK4.out _ HDr.out)
                    (first | (go_at_call 9; refine (HDiG.out _ _ _ _ _ (Zw.out.on HB5.out) HI5.out).mono ?_; rintro e w6 ⟨rfl, hb⟩; have HB6 := Lib.hid (HB5.out.trans (hb.mono HB5.out.size)); clear hb) | (go_at_call 18; refine (HOuG.out _ (HS.out.on HDr.out)).mono ?_; rintro e w5 ⟨A5, c5, rfl, HI5, hb⟩; have HB5 := Lib.hid (HDr.out.trans (hb.mono HDr.out.size)); clear hb))
                  all_goals
                    have HS := Lib.hid (HS.out.on HB6.out)
                    have VA := Lib.hid (VAw.out.on HB6.out)
                    have Z := Lib.hid (Zw.out.on HB6.out)
                    have B := Lib.hid (B.out.trans (HB6.out.mono B.out.size))
                    clear HK4 HDr HDiG VAw Zw HB6 HB5 HI5
                    go_wp2_with fail
                    refine (HOuG.out _ HS.out).mono ?_
                    rintro e w8 ⟨A8, c8, rfl, _, hb⟩
                    have B := Lib.hid (B.out.trans (hb.mono B.out.size))
                    clear hb HOuG HS
                    go_wp2
                    go_ret
                    exact ⟨rfl, B.out⟩
      · obtain ⟨Eg, hEg⟩ := errV_bad hgk
        have HNg : Hid (∀ W v, DfaAt W W.heap.size v d0 → Calls Try.prog 16 #[v] W fun e w' => e = .returned (.tuple #[.pointer none, errI Eg]) ∧ Below W.heap.size W w') := fun W v h => (gnew_bad v d0 W h hgk).mono fun e w' ⟨h1, h2⟩ => ⟨by rw [h1.out, hEg], h2⟩
        clear hgk hEg
        clear hlet hokE hEE hme1 hme2 hwE hlE hfE hpE hqE hem 
        clear ha hx hc g1 g2 gd hfz1 hLs hw hL0 hr r1 m1
        have hzl80 : zl ≤ 80 := by rw [← hzl]; exact h80
        clear h80
        rw [hzl] at HC ⊢
        clear hzl
        go_enter Try.func5, Try.ntmps5
        go_wp2_with fail
        rw [← W0.out]
        clear W0
        refine (HP.out _).mono ?_
        rintro e u1 he
        obtain ⟨xf, rfl, hof⟩ := he.out
        have hb := hof.below
        have HX0 := Lib.hid hof.at_
        have Z := Lib.hid (Z.out.on hb)
        have VA := Lib.hid (VA.out.on hb)
        have B := Lib.hid (B.out.trans (hb.mono B.out.size))
        clear he hof hb HP
        go_wp2_with fail
        refine (HF.out _ _ HX0.out).mono ?_
        rintro e u2 ⟨rfl, hb0⟩
        have hb : Below u1.heap.size u1 u2 := (below_alloc _ _).trans (hb0.mono (below_alloc _ _).size)
        have Z := Lib.hid (Z.out.on hb)
        have VA := Lib.hid (VA.out.on hb)
        have B := Lib.hid (B.out.trans (hb.mono B.out.size))
        clear hb hb0 HF HX0
        obtain ⟨p0, p1, p2, p3, p4⟩ := VA.out.box
        go_wp2_with fail
        refine (HC.out _ _ _ _ VA.out.at_ Z.out).mono ?_
        rintro e u3 ⟨rfl, hb⟩
        have Z := Lib.hid (Z.out.on hb)
        have VA := Lib.hid (VA.out.on hb)
        have B := Lib.hid (B.out.trans (hb.mono B.out.size))
        clear hb p0 p1 p2 p3 p4 HC
        obtain ⟨p0, p1, p2, p3, p4⟩ := VA.out.box
        go_wp2_with fail
        refine (HNe.out _ _ VA.out.at_).mono ?_
        rintro e x1 he
        obtain ⟨gE, rfl, hG⟩ := he.out
        have HS : Hid (EditW u3 x1 gE d0 (eoffers d0 (edit0 d0, []) (z1.take 0)).1 [] []) := hG
        clear he hG HNe p0 p1 p2 p3 p4
        go_wp2
        go_loopw [11] (fun i wr => ∃ k : Nat, k ≤ zl ∧ i = .int .i64 k ∧ Hid (EditW u3 wr gE d0 (eoffers d0 (edit0 d0, []) (z1.take k)).1 [] [])) (fun i _ => zl - (intOf i).toNat)
        case atStart => exact ⟨0, by omega, rfl, HS⟩
        case round =>
          clear HS
          obtain ⟨k, hk, rfl, HS⟩ := hrel
          by_cases hlt : k < zl
          · have hkz : k < z1.length := by rw [HL.out]; exact hlt
            have e1 : (k : Int) < (zl : Int) := by omega
            have hZ := Z.out.on HS.out.below
            obtain ⟨ada, rfl, hab, hac, _⟩ := hZ.get (List.getElem?_eq_getElem hkz)
            have hok := eok_offers (p := (edit0 d0, [])) (eok_start HEm.out) (z1.take k)
            have HOf := Lib.hid (eoffer_any u3 wr gE d0 _ _ [] [] z1[k] HS.out HGd.out hok (hZ.2 _ (List.getElem_mem hkz)))
            have HT : Hid ((eoffers d0 (edit0 d0, []) (z1.take (k + 1))).1 = (eoffer d0 (eoffers d0 (edit0 d0, []) (z1.take k)).1 z1[k]).2.2) := by unfold Hid; rw [eoffers_take _ _ _ hkz]
            clear HS hZ hab hok
            generalize z1[k] = a at *
            clear hkz
            generalize eoffer d0 (eoffers d0 (edit0 d0, []) (z1.take k)).1 a = R at *
            go_wp2_with fail
            refine HOf.out.mono ?_
            rintro e w7 he
            obtain ⟨A3, c3, he2, _, hG⟩ := he.out
            have HG : Hid (EditW u3 w7 gE d0 (eoffers d0 (edit0 d0, []) (z1.take (k + 1))).1 [] []) := by unfold Hid; rw [HT.out]; exact hG
            clear he HOf hac hG HT
            generalize R.2.1.length = n3 at *
            generalize errV R.1 = E3 at *
            subst he2
            go_wp2
            go_roundw
            case rel => exact ⟨k + 1, by omega, by go_num, HG⟩
            case measure => simp [intOf]; omega
          · obtain rfl : zl = k := by omega
            have e1 : ¬ (zl : Int) < (zl : Int) := by omega
            have HS : Hid (EditW u3 wr gE d0 E [] []) := by have h := HS.out; rwa [List.take_of_length_le (by rw [HL.out]; omega), HEE.out] at h
            have VAw := Lib.hid (VA.out.on HS.out.below)
            have Zw := Lib.hid (Z.out.on HS.out.below)
            have B := Lib.hid (B.out.trans (HS.out.below.mono B.out.size))
            have HK4 : Hid (∀ W, Below wr.heap.size wr W → W.cell? ⟨w.heap.size, 0, none⟩ = some (.int .i64 L0)) := fun W hW => (VAw.out.box.on hW).c0
            have HDr : Hid (Below wr.heap.size wr wr.drew) := (Below.refl _ _).drew
            go_wp2_with fail
            go_region_held3 (fun W => W.cell? ⟨w.heap.size, 0, none⟩ = some (.int .i64 L0))
              (first | exact HK4.out _ HB6.out | exact HK4.out _ HB5.out | exact HK4.out _ HDr.out)
              (first | (go_at_call 9; refine (HDiE.out _ _ _ _ _ (Zw.out.on HB5.out) HI5.out).mono ?_; rintro e w6 ⟨rfl, hb⟩; have HB6 := Lib.hid (HB5.out.trans (hb.mono HB5.out.size)); clear hb) | (go_at_call 14; refine (HOuE.out _ (HS.out.on HDr.out)).mono ?_; rintro e w5 ⟨A5, c5, rfl, HI5, hb⟩; have HB5 := Lib.hid (HDr.out.trans (hb.mono HDr.out.size)); clear hb))
            all_goals
              have HS := Lib.hid (HS.out.on HB6.out)
              have VA := Lib.hid (VAw.out.on HB6.out)
              have Z := Lib.hid (Zw.out.on HB6.out)
              have B := Lib.hid (B.out.trans (HB6.out.mono B.out.size))
              clear HK4 HDr HOuE HDiE VAw Zw HB6 HB5 HI5
              go_wp2_with fail
              refine (HHe.out _ HS.out).mono ?_
              rintro e w8 ⟨A8, c8, rfl, hb⟩
              have VA := Lib.hid (VA.out.on hb)
              have Z := Lib.hid (Z.out.on hb)
              have B := Lib.hid (B.out.trans (hb.mono B.out.size))
              clear hb HHe HS
              obtain ⟨p0, p1, p2, p3, p4⟩ := VA.out.box
              go_wp2_with fail
              refine (HNg.out _ _ VA.out.at_).mono ?_
              rintro e u5 ⟨rfl, hb⟩
              have Z := Lib.hid (Z.out.on hb)
              have VA := Lib.hid (VA.out.on hb)
              have B := Lib.hid (B.out.trans (hb.mono B.out.size))
              clear hb p0 p1 p2 p3 p4 HNg
              go_wp2
              go_ret
              exact ⟨rfl, B.out⟩
    · have hek : echk d0 ≠ 0 := fun h => hem (echk_iff.1 h).2
      have hgk : gchk d0 ≠ 0 := fun h => hem (gchk_iff.1 h).empty
      obtain ⟨Ee, hEe⟩ := errV_bad hek
      have HNe : Hid (∀ W v, DfaAt W W.heap.size v d0 → Calls Try.prog 12 #[v] W fun e w' => e = .returned (.tuple #[.pointer none, errI Ee]) ∧ Below W.heap.size W w') := fun W v h => (enew_bad v d0 W h hek).mono fun e w' ⟨h1, h2⟩ => ⟨by rw [h1.out, hEe], h2⟩
      obtain ⟨Eg, hEg⟩ := errV_bad hgk
      have HNg : Hid (∀ W v, DfaAt W W.heap.size v d0 → Calls Try.prog 16 #[v] W fun e w' => e = .returned (.tuple #[.pointer none, errI Eg]) ∧ Below W.heap.size W w') := fun W v h => (gnew_bad v d0 W h hgk).mono fun e w' ⟨h1, h2⟩ => ⟨by rw [h1.out, hEg], h2⟩
      clear hgk hEg
      clear hem hek hEe
      clear ha hx hc g1 g2 gd hfz1 hLs hw hL0 hr r1 m1
      have hzl80 : zl ≤ 80 := by rw [← hzl]; exact h80
      clear h80
      rw [hzl] at HC ⊢
      clear hzl
      go_enter Try.func5, Try.ntmps5
      go_wp2_with fail
      rw [← W0.out]
      clear W0
      refine (HP.out _).mono ?_
      rintro e u1 he
      obtain ⟨xf, rfl, hof⟩ := he.out
      have hb := hof.below
      have HX0 := Lib.hid hof.at_
      have Z := Lib.hid (Z.out.on hb)
      have VA := Lib.hid (VA.out.on hb)
      have B := Lib.hid (B.out.trans (hb.mono B.out.size))
      clear he hof hb HP
      go_wp2_with fail
      refine (HF.out _ _ HX0.out).mono ?_
      rintro e u2 ⟨rfl, hb0⟩
      have hb : Below u1.heap.size u1 u2 := (below_alloc _ _).trans (hb0.mono (below_alloc _ _).size)
      have Z := Lib.hid (Z.out.on hb)
      have VA := Lib.hid (VA.out.on hb)
      have B := Lib.hid (B.out.trans (hb.mono B.out.size))
      clear hb hb0 HF HX0
      obtain ⟨p0, p1, p2, p3, p4⟩ := VA.out.box
      go_wp2_with fail
      refine (HC.out _ _ _ _ VA.out.at_ Z.out).mono ?_
      rintro e u3 ⟨rfl, hb⟩
      have Z := Lib.hid (Z.out.on hb)
      have VA := Lib.hid (VA.out.on hb)
      have B := Lib.hid (B.out.trans (hb.mono B.out.size))
      clear hb p0 p1 p2 p3 p4 HC
      obtain ⟨p0, p1, p2, p3, p4⟩ := VA.out.box
      go_wp2_with fail
      refine (HNe.out _ _ VA.out.at_).mono ?_
      rintro e u4 ⟨rfl, hb⟩
      have Z := Lib.hid (Z.out.on hb)
      have VA := Lib.hid (VA.out.on hb)
      have B := Lib.hid (B.out.trans (hb.mono B.out.size))
      clear hb p0 p1 p2 p3 p4 HNe
      obtain ⟨p0, p1, p2, p3, p4⟩ := VA.out.box
      go_wp2_with fail
      refine (HNg.out _ _ VA.out.at_).mono ?_
      rintro e u5 ⟨rfl, hb⟩
      have Z := Lib.hid (Z.out.on hb)
      have VA := Lib.hid (VA.out.on hb)
      have B := Lib.hid (B.out.trans (hb.mono B.out.size))
      clear hb p0 p1 p2 p3 p4 HNg
      go_wp2
      go_ret
      exact ⟨rfl, B.out⟩


set_option maxRecDepth 100000 in
theorem lifted (os : Os) (started : os.Started) (H : Type) (enc : TypeId × Value → H) :
    ReturnsInHanded {} Try.checked os 5 .any (Rows.topMendSpec.pre6 enc Try.prog Try.f5 Rows.topMendRow.domain false) (Rows.topMendSpec.post enc Try.prog Try.f5 false true false false) := by
  refine returnsInHanded_of_change_sized (C := Try.checked) own started (by kernel_rfl) Try.func5
    (ChangeSpec.witness6 (enc := enc) (C := Try.checked) false ⟨#[], #[.agg #[.int .i64 0, .int .i64 0, .slice none 0 0, .slice none 0 0], .slice none 0 0], []⟩ 8 (by kernel_rfl) (by kernel_rfl) (by kernel_rfl) (by kernel_rfl)) ?_
  intro W base args ds gs before hval0 hW hcnd hsz0 _
  have hval : ∀ (j : Nat) t v, Try.f5.params[j]? = some t → args[j]? = some v → Value.okWide Try.prog W .any base t v := hval0
  have hsz : (DataW.weightsEach Try.prog (Try.f5.params.toList ++ Rows.topMendSpec.plain.varTypes Try.prog) (ds ++ gs)).all (· ≤ reachBytes) = true := hsz0
  have hW' := hW
  obtain ⟨p, q, hA0, hV0, rfl, hfz, hnd⟩ := hW
  have hV : DataW.TrodVars enc Try.prog W (fun _ => true) [] gs q := hV0
  have hA : DataW.TrodAll enc Try.prog W 0 (fun _ => true) true Try.f5.params.toList args.toList ds p := hA0
  rw [Try.params5] at hA hval hsz
  obtain ⟨v0, vs0, d0, ds0, p0, q0, hargs, rfl, rfl, h0, rr0⟩ := trodAll_cons hA
  obtain ⟨v1, vs1, d1, ds1, p1, q1, rfl, rfl, rfl, h1, rr1⟩ := trodAll_cons rr0
  obtain ⟨rfl, rfl, rfl⟩ := trodAll_nil rr1
  obtain rfl : args = #[v0, v1] := by cases args; simp_all
  obtain ⟨rfl, rfl⟩ := trodVars_none hV
  have k0 := h0
  have lt0 : ∀ x ∈ p0, x.block < W.heap.size := by obtain ⟨m, hm⟩ := k0; exact DataW.trod_lt m _ _ _ hm
  have k1 := h1
  have lt1 : ∀ x ∈ p1, x.block < W.heap.size := by obtain ⟨m, hm⟩ := k1; exact DataW.trod_lt m _ _ _ hm
  obtain ⟨D0, x0⟩ : ∃ d : Df.Aut, Df.DfaAt W W.heap.size v0 d := Df.dfa_open (hval 0 25 v0 rfl rfl) h0
  obtain ⟨A1, len1, c1, rfl⟩ := okWide_slice Try.underlying26 (hval 1 26 v1 rfl rfl)
  obtain ⟨z1, rfl, x1, r1, m1⟩ : ∃ zs : List Int, len1 = zs.length ∧ IntsAt W W.heap.size A1 zs ∧ zs.length ≤ 17592186043904 ∧ zs.length ≤ c1 := by
    obtain ⟨fuel, hf⟩ := h1
    rcases open_ints Try.underlying26 Try.underlying3 (by kernel_rfl) hf with ⟨hcs, _⟩ | ⟨x, l, c, zs, hcs, _, hl, hm, hz, hx, hcell, hwz⟩
    · simp [Value.cells] at hcs
      obtain ⟨rfl, rfl, rfl⟩ := hcs
      exact ⟨[], rfl, IntsAt.nil _ _ _, by simp, by simp⟩
    · simp [Value.cells] at hcs
      obtain ⟨rfl, rfl, rfl⟩ := hcs
      have hd := congrArg Prod.fst hx
      simp only at hd
      have := sized_slice hsz (j := 1) (t := 26) (e := 3) rfl (by rw [hd]; rfl) Try.underlying26
      rw [(show Try.prog.bytesOf 3 = 8 by kernel_rfl)] at this
      simp only [reachBytes, lits, List.length_map, List.length_take, List.length_drop] at this
      have hz' : zs.length = c1 := by simpa using hz
      exact ⟨zs.take len1, by rw [List.length_take]; omega, intsAt_of_open hcell hwz len1, by rw [List.length_take]; omega, by rw [List.length_take]; omega⟩
  clear hA0 hval0
  refine (walk v0 D0 A1 c1 z1 W x0 x1 r1 m1).mono fun e W' ⟨he, bel⟩ => ?_
  subst he
  exact ⟨_, rfl, _, _, _, [], _, [], hW', trodAll_mk1 (shut_bool Try.underlying4 _), (trodAll_cons_mk (Below.trod laidOut (by kernel_rfl) (of_decide_eq_true (by kernel_rfl)) k0 bel lt0) (trodAll_cons_mk (Below.trod laidOut (by kernel_rfl) (of_decide_eq_true (by kernel_rfl)) k1 bel lt1) trodAll_mk0)), rfl, bel.frame _, fun h => by cases h⟩

theorem over : Rows.topMendRow.holds Try.pinned (OpenSpec.ofChange Rows.topMendSpec) :=
  OpenClaim.holds_of_wide 5 Try.f5 rfl rfl rfl rfl rfl rfl rfl ⟨rfl, rfl, rfl, rfl, rfl⟩ rfl rfl rfl rfl rfl (by kernel_rfl) Try.func5 (by kernel_rfl)
    (of_decide_eq_true (by kernel_rfl)) (by unfold Func.isWrapper; rw [if_neg (of_decide_eq_false (by kernel_rfl))]; exact ⟨rfl, rfl⟩)
    (fun os started H enc _ => lifted os started H enc)
theorem proved : Rows.TopMendSaid := over
#print axioms proved
end Go.Proofs.Ytfiknbdpjnpkdaa.topMend

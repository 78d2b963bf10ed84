/- The walks of package verdict. -/
import Derived.Test.YtciopfiddfmckaaVerM
import Derived.Test.YtciopfiddfmckaaSafeW
import Derived.Test.YtciopfiddfmckaaReachV
import Derived.Test.YtciopfiddfmckaaLeast
namespace Go.Proofs.Ytciopfiddfmckaa.Ve
open Go.RowKit Go.IntWalk Go.Proofs.Ytciopfiddfmckaa.Wd Go.Proofs.Ytciopfiddfmckaa.Wo Go.Proofs.Ytciopfiddfmckaa.Df Go.Proofs.Ytciopfiddfmckaa.Rc Go.Proofs.Ytciopfiddfmckaa.Sm Go.Proofs.Ytciopfiddfmckaa.Mp Go.Proofs.Ytciopfiddfmckaa.Sa

set_option maxRecDepth 100000 in
theorem verdict_any (x y z : Bool) (w : World) : Calls Try.prog 48 #[.bool x, .bool y, .bool z] w fun e w' => e = .returned (.int .i64 ((verN y z x : Nat) : Int)) ∧ w' = w := by
  rcases x with _ | _ <;> rcases y with _ | _ <;> rcases z with _ | _
  all_goals
    go_enter Try.func48, Try.ntmps48
    go_wp2
    go_ret
    exact ⟨rfl, rfl⟩
/-- The verdicts of all states. -/
def verL (d : Aut) : List Int := (List.range d.next.length).map fun s => ((verd d s : Nat) : Int)
theorem verL_length (d : Aut) : (verL d).length = d.next.length := by simp [verL]
theorem verL_at {d : Aut} {s : Nat} (h : s < d.next.length) : (verL d)[s]? = some ((verd d s : Nat) : Int) := by simp [verL, h]
theorem verL_small (d : Aut) : ∀ x ∈ verL d, Small x := fun x hx => by
  unfold verL at hx
  obtain ⟨s, _, rfl⟩ := List.mem_map.1 hx
  have := verd_le d s
  exact ⟨by omega, by omega⟩
def verR (d : Aut) : List Int × Nat := if dchk d = 0 then (verL d, 0) else ([], dchk d)
theorem verR_ok {d : Aut} (h : dchk d = 0) : verR d = (verL d, 0) := if_pos h
theorem verR_bad {d : Aut} (h : dchk d ≠ 0) : verR d = ([], dchk d) := if_neg h
set_option linter.unusedSimpArgs false in
set_option maxRecDepth 100000 in
set_option maxHeartbeats 4000000 in
theorem verdicts_any (v : Value) (d : Aut) (w : World) (h : DfaAt w w.heap.size v d) :
    Calls Try.prog 38 #[v] w fun e w' => Hid (IntsR (verR d) w e w') := by
  have HV := h
  obtain ⟨L, s, A, c, F, cf, rfl, h⟩ := h
  obtain ⟨w1, hw1, hB1, hX, hd1⟩ := box_dfa w h
  have HB := Lib.hid hB1
  have HX := Lib.hid hX
  have HW := Lib.hid hw1
  have HD := Lib.hid hd1
  have HV := Lib.hid (HV.on hB1)
  have hc0 := hX.c0
  have hc1 := hX.c1
  have hc2 := hX.c2
  have hc3 := hX.c3
  rcases g1 : dchk d with _ | e0
  · have hg := dchk_iff.1 g1
    have HG := Lib.hid hg
    have hgn := notA_good hg
    have HA1 := Lib.hid (fun v W (hA : DfaAt W W.heap.size v d) => alive_any v d W hA)
    rw [aliveR_ok g1] at HA1
    have HN1 := Lib.hid (fun v W (hA : DfaAt W W.heap.size v d) => not_gives (E := .nilIface) hA (notOut_ok hg) rfl)
    have HA2 := Lib.hid (fun v W (hA : DfaAt W W.heap.size v (notA d)) => alive_any v (notA d) W hA)
    rw [aliveR_ok (dchk_iff.2 hgn)] at HA2
    have hUs := upto_small hg.n40 (isAlive d)
    have hYs : ∀ x ∈ upto (notA d).next.length (isAlive (notA d)), Small x := upto_small hgn.n40 (isAlive (notA d))
    have hUl : (upto d.next.length (isAlive d)).length ≤ 40 := by have := upto_length d.next.length (isAlive d); have := hg.n40; omega
    have hYl : (upto (notA d).next.length (isAlive (notA d))).length ≤ 40 := by have := upto_length (notA d).next.length (isAlive (notA d)); have := hgn.n40; omega
    have HMu : Hid (∀ k, k < d.next.length → decide ((k : Int) ∈ upto d.next.length (isAlive d)) = isAlive d k) := fun k hk => mem_upto hk
    have HMy : Hid (∀ k, k < d.next.length → decide ((k : Int) ∈ upto (notA d).next.length (isAlive (notA d))) = isAlive (notA d) k) := fun k hk => mem_upto hk
    have hn4 := hg.n40
    have hfm : d.fin.length = d.next.length := hg.fin
    have HR : Hid (verR d = (verL d, 0)) := verR_ok g1
    clear h hd1 hw1 hX hB1 g1 hg hgn
    generalize upto d.next.length (isAlive d) = U at *
    generalize upto (notA d).next.length (isAlive (notA d)) = Y at *
    have HUs := Lib.hid hUs
    have HYs := Lib.hid hYs
    clear hUs hYs
    obtain ⟨n, hn⟩ : ∃ n, d.next.length = n := ⟨_, rfl⟩
    rw [hfm] at hc3 HV HW HX
    rw [hn] at hc2 hc3 HV HW HX hn4
    rw [hfm, hn]
    have HN := Lib.hid hn
    clear hn hfm
    go_enter Try.func38, Try.ntmps38
    go_wp2_with fail
    rw [← HW.out]
    clear HW
    refine (HA1.out _ _ HV.out).mono ?_
    rintro e w2 he
    obtain ⟨wv, h1, ho⟩ := he.out
    obtain ⟨AA, cA, h2, _, _, hI1⟩ := own_ints_at ho (List.mem_append_right _ List.mem_cons_self) HUs.out
    subst h2
    have h1 : e = .returned (.tuple #[.slice AA U.length cA, .nilIface]) := h1
    subst h1
    have hb := ho.below
    have HX := Lib.hid (HX.out.on hb)
    have HV := Lib.hid (HV.out.on hb)
    have HD := Lib.hid (HD.out.on hb)
    have HB := Lib.hid (HB.out.trans (hb.mono HB.out.size))
    have HI1 := Lib.hid hI1
    clear he ho hb HA1 hc0 hc1 hc2 hc3 hI1
    have hc0 := HX.out.c0
    have hc1 := HX.out.c1
    have hc2 := HX.out.c2
    have hc3 := HX.out.c3
    obtain ⟨lu, hlu⟩ : ∃ lu, U.length = lu := ⟨_, rfl⟩
    have HLu := Lib.hid hlu
    rw [hlu] at hUl
    rw [hlu]
    clear hlu
    go_wp2_with fail
    refine (HN1.out _ _ HV.out).mono ?_
    rintro e w3 ⟨L3, s3, A3, n3, c3, F3, m3, k3, rfl, hd, hb⟩
    obtain ⟨w4, hw4, hbn, Vn⟩ := var_new w3 hd.out
    have hb := hb.trans (hbn.mono hb.size)
    have HX := Lib.hid (HX.out.on hb)
    have HD := Lib.hid (HD.out.on hb)
    have HI1 := Lib.hid (HI1.out.on hb)
    have HB := Lib.hid (HB.out.trans (hb.mono HB.out.size))
    have HVn := Lib.hid Vn
    have HW4 := Lib.hid hw4
    clear hb hbn Vn hd hc0 hc1 hc2 hc3 HN1 HV
    obtain ⟨_, q1, q2, q3, q4⟩ := HVn.out.box
    rw [hw4] at q1 q2 q3 q4
    clear hw4
    go_wp2_with fail
    rw [← HW4.out]
    clear HW4
    refine (HA2.out _ _ HVn.out.at_).mono ?_
    rintro e w5 he
    obtain ⟨wv, h1, ho⟩ := he.out
    obtain ⟨AY, cY, h2, _, _, hI2⟩ := own_ints_at ho (List.mem_append_right _ List.mem_cons_self) HYs.out
    subst h2
    have h1 : e = .returned (.tuple #[.slice AY Y.length cY, .nilIface]) := h1
    subst h1
    have hb := ho.below
    have HX := Lib.hid (HX.out.on hb)
    have HD := Lib.hid (HD.out.on hb)
    have HI1 := Lib.hid (HI1.out.on hb)
    have HI2 := Lib.hid hI2
    have HB := Lib.hid (HB.out.trans (hb.mono HB.out.size))
    clear he ho hb HA2 q1 q2 q3 q4 hI2 HVn
    have hc2 := HX.out.c2
    obtain ⟨ly, hly⟩ : ∃ ly, Y.length = ly := ⟨_, rfl⟩
    have HLy := Lib.hid hly
    rw [hly] at hYl
    rw [hly]
    clear hly
    go_wp2_with (at_make; refine mk_ints rfl _ _ rfl n rfl rfl (by omega) ?_)
    intro w6 hm6
    have HO := Lib.hid (Own.of_nums hm6)
    have hb := hm6.2.1
    have HX := Lib.hid (HX.out.on hb)
    clear hm6 hb hc2
    obtain ⟨f, hf⟩ : ∃ f : Nat → Int, f = fun k => ((verd d k : Nat) : Int) := ⟨_, rfl⟩
    have HS : Hid (Own w5 w6 [eInts (.slice (some ⟨w5.heap.size, 0, none⟩) n n) (flipTo f (List.replicate n 0) 0)] []) := by rw [flip_zero]; exact HO.out
    have HFf := Lib.hid hf
    have hc3 := HX.out.c3
    clear hf HO
    go_wp2
    clear hc3 HX
    go_loopw [42] (fun i wr => ∃ (k : Nat), k ≤ n ∧ i = .int .i64 k ∧ Hid (Own w5 wr [eInts (.slice (some ⟨w5.heap.size, 0, none⟩) n n) (flipTo f (List.replicate n 0) k)] [])) (fun i _ => n - (intOf i).toNat)
    case atStart => exact ⟨0, by omega, rfl, HS⟩
    case round =>
      clear HS
      obtain ⟨k, hk, rfl, HS⟩ := hrel
      have hbw := HS.out.below
      by_cases hlt : k < n
      · have hkn : k < d.next.length := by rw [HN.out]; exact hlt
        have hkl : k < (List.replicate n (0 : Int)).length := by simpa using hlt
        obtain ⟨adf, rfl, hfb, hfc, hfl⟩ := (HD.out.on hbw).fins.at_ (HG.out.fin_at hkn)
        have hlen : (flipTo f (List.replicate n 0) k).length = n := by rw [flip_length (by omega)]; simp
        obtain ⟨hc, hz⟩ := own_ints_cell HS.out (List.mem_append_left _ List.mem_cons_self) hlen (flip_get (f := f) hkl)
        have hfk : f k = ((verN (isAlive d k) (isAlive (notA d) k) (finA d k) : Nat) : Int) := by rw [HFf.out]; rfl
        have HN2 : Hid (Own w5 (wr.setCell ⟨w5.heap.size, k, none⟩ (.int .i64 ((verN (isAlive d k) (isAlive (notA d) k) (finA d k) : Nat) : Int))) [eInts (.slice (some ⟨w5.heap.size, 0, none⟩) n n) (flipTo f (List.replicate n 0) (k + 1))] []) := by
          rw [← flip_set hkl, hfk]
          exact own_ints_set HS.out hlen k _
        have hI1 := HI1.out.on hbw
        have hI2 := HI2.out.on hbw
        have HC1 := Lib.hid (fun W (hW : Below wr.heap.size wr W) => contains_any AA cA U (k : Int) W (hI1.on hW) (by rw [HLu.out]; omega) (b := isAlive d k) (HMu.out k hkn))
        have HC2 := Lib.hid (fun W (hW : Below wr.heap.size wr W) => contains_any AY cY Y (k : Int) W (hI2.on hW) (by rw [HLy.out]; omega) (b := isAlive (notA d) k) (HMy.out k hkn))
        rw [HLu.out] at HC1
        rw [HLy.out] at HC2
        have HV3 := Lib.hid (fun x y z W => verdict_any x y z W)
        have e1 : (k : Int) < (n : Int) := by omega
        clear HS hlen hfk hI1 hI2 hfl hfb hbw
        generalize (List.replicate n (0 : Int))[k] = old at *
        generalize finA d k = b1 at *
        generalize isAlive d k = b2 at *
        generalize isAlive (notA d) k = b3 at *
        go_wp2_with fail
        refine (HC1.out _ (Below.refl _ _)).mono ?_
        rintro e w7 ⟨rfl, rfl⟩
        go_wp2_with fail
        refine (HC2.out _ (Below.refl _ _)).mono ?_
        rintro e w8 ⟨rfl, rfl⟩
        go_wp2_with fail
        refine (HV3.out _ _ _ _).mono ?_
        rintro e w9 ⟨rfl, rfl⟩
        go_wp2
        go_roundw
        case rel => exact ⟨k + 1, by omega, by go_num, HN2⟩
        case measure => simp [intOf]; omega
      · obtain rfl : k = n := by omega
        have HE : Hid (Own w wr [] [eInts (.slice (some ⟨w5.heap.size, 0, none⟩) k k) (verL d)]) := by
          have h := (HS.out.base HB.out).fin
          rw [flip_all (by simp), HFf.out] at h
          have e : (List.range k).map (fun k => ((verd d k : Nat) : Int)) = verL d := by unfold verL; rw [HN.out]
          rw [e] at h
          exact h
        clear HS hbw
        go_wp2
        go_ret2
        exact ⟨_, by rw [HR.out]; rfl, by rw [HR.out]; exact HE.out⟩
  · have HC := Lib.hid (fun v W (hA : DfaAt W W.heap.size v d) => alive_any v d W hA)
    rw [aliveR_bad (by omega), g1] at HC
    have HR : Hid (verR d = ([], e0 + 1)) := by unfold Hid; rw [verR_bad (by omega), g1]
    clear h hd1 hw1 hX hB1 g1
    generalize d.next.length = n at *
    generalize d.fin.length = m at *
    generalize hE : ((e0 + 1 : Nat) : Int) = E at *
    have HE := Lib.hid hE
    go_enter Try.func38, Try.ntmps38
    go_wp2_with fail
    rw [← HW.out]
    refine (HC.out _ _ HV.out).mono ?_
    rintro e w2 he
    obtain ⟨wv, h1, ho⟩ := he.out
    obtain ⟨AA, cA, h2, _⟩ := own_ints_at ho (List.mem_append_right _ List.mem_cons_self) (fun x hx => by simp at hx)
    subst h2
    have h1 : e = .returned (.tuple #[.slice AA 0 cA, errI E]) := by rw [h1, ← hE]; rfl
    subst h1
    have hb := ho.below
    have HB := Lib.hid (HB.out.trans (hb.mono HB.out.size))
    clear hb HC hc0 hc1 hc2 hc3 he ho HX HV hE
    go_wp2
    go_ret2
    exact ⟨_, by rw [HR.out]; simp only [errV_succ, HE.out]; rfl, by rw [HR.out]; exact own_nil HB.out⟩
/-! ### Of -/
def ofOut (d : Aut) (z : List Int) : Int × Nat := if accErr d z = 0 then (((verd d (runA d d.s.toNat z) : Nat) : Int), 0) else (0, accErr d z)
theorem ofOut_ok {d : Aut} {z : List Int} (h : accErr d z = 0) : ofOut d z = (((verd d (runA d d.s.toNat z) : Nat) : Int), 0) := if_pos h
theorem ofOut_bad {d : Aut} {z : List Int} (h : accErr d z ≠ 0) : ofOut d z = (0, accErr d z) := if_neg h
set_option maxRecDepth 100000 in
set_option maxHeartbeats 2000000 in
theorem of_any (v : Value) (d : Aut) (Z : Option Addr) (cz : Nat) (z : List Int) (w : World) (h : DfaAt w w.heap.size v d) (hZ : IntsAt w w.heap.size Z z) (hz : z.length ≤ 17592186044416) :
    Calls Try.prog 25 #[v, .slice Z z.length cz] w fun e w' => Hid (e = .returned (.tuple #[.int .i64 (ofOut d z).1, errV (ofOut d z).2])) ∧ Below w.heap.size w w' := by
  have HV := h
  obtain ⟨L, s, A, c, F, cf, rfl, h⟩ := h
  obtain ⟨w1, hw1, hB1, hX, hd1⟩ := box_dfa w h
  have HR0 := Lib.hid (run_any _ d s Z cz z w1 (HV.on hB1) h.hs (hZ.on hB1) hz)
  have HB := Lib.hid hB1
  have HX := Lib.hid hX
  have HW := Lib.hid hw1
  have HV := Lib.hid (HV.on hB1)
  have hc0 := hX.c0
  have hc1 := hX.c1
  have hc2 := hX.c2
  have hc3 := hX.c3
  have he := runErr_start d z
  rw [h.es] at he
  rcases g : accErr d z with _ | e0
  · obtain ⟨hg, hf⟩ := accErr_good g
    rw [g] at he
    have HO : Hid (ofOut d z = (((verd d (runA d s.toNat z) : Nat) : Int), 0)) := by unfold Hid; rw [ofOut_ok g, h.es]
    have hlt : runA d s.toNat z < d.next.length := hg.run_lt (fine_word hf) (by have := hg.s_lt; rw [h.es] at this; exact this)
    have hro : runOut d s z = ((runA d s.toNat z : Nat) : Int) := by unfold runOut; rw [if_pos he]
    rw [he, hro] at HR0
    have HAt := Lib.hid (verL_at hlt)
    have HVs := Lib.hid (fun v W (hA : DfaAt W W.heap.size v d) => verdicts_any v d W hA)
    rw [verR_ok (dchk_iff.2 hg)] at HVs
    have HSm := Lib.hid (verL_small d)
    have hvl := verL_length d
    clear h hd1 hw1 hX hB1 hg hf hro he hZ g
    generalize verL d = vl at *
    generalize d.next.length = n at *
    generalize runA d s.toNat z = y at *
    generalize verd d y = vy at *
    generalize hm : d.fin.length = m at *
    clear hm
    go_enter Try.func25, Try.ntmps25
    go_wp2_with fail
    rw [← HW.out]
    clear HW
    refine HR0.out.mono ?_
    rintro e w2 ⟨he, hb⟩
    obtain rfl : e = .returned (.tuple #[.int .i64 (y : Int), .nilIface]) := he.out
    have HX := Lib.hid (HX.out.on hb)
    have HV := Lib.hid (HV.out.on hb)
    have HB := Lib.hid (HB.out.trans (hb.mono HB.out.size))
    clear hb HR0 hc0 hc1 hc2 hc3 he
    have hc0 := HX.out.c0
    have hc1 := HX.out.c1
    have hc2 := HX.out.c2
    have hc3 := HX.out.c3
    go_wp2_with fail
    refine (HVs.out _ _ HV.out).mono ?_
    rintro e w3 he
    obtain ⟨wv, h1, ho⟩ := he.out
    obtain ⟨AA, cA, h2, _, _, hI1⟩ := own_ints_at ho (List.mem_append_right _ List.mem_cons_self) HSm.out
    subst h2
    have h1 : e = .returned (.tuple #[.slice AA vl.length cA, .nilIface]) := h1
    subst h1
    have HB := Lib.hid (HB.out.trans (ho.below.mono HB.out.size))
    obtain ⟨ad, rfl, hadb, hcell, _⟩ := hI1.get HAt.out
    rw [hvl]
    clear he ho HVs hI1 hc0 hc1 hc2 hc3 hvl HSm HAt HV HX
    go_wp2
    go_ret2
    exact ⟨by rw [HO.out]; rfl, HB.out⟩
  · rw [g] at he
    have HO : Hid (ofOut d z = (0, e0 + 1)) := by unfold Hid; rw [ofOut_bad (by omega), g]
    have hro : runOut d s z = 0 := by unfold runOut; rw [if_neg (by omega)]
    rw [he, hro, errV_succ] at HR0
    clear h hd1 hw1 hX hB1 hro he hZ g HV
    generalize d.next.length = n at *
    generalize d.fin.length = m at *
    generalize hE : ((e0 + 1 : Nat) : Int) = E at *
    have HE := Lib.hid hE
    clear hE
    go_enter Try.func25, Try.ntmps25
    go_wp2_with fail
    rw [← HW.out]
    clear HW
    refine HR0.out.mono ?_
    rintro e w2 ⟨he, hb⟩
    obtain rfl := he.out
    have HB := Lib.hid (HB.out.trans (hb.mono HB.out.size))
    clear hb HR0 hc0 hc1 hc2 hc3 he HX
    go_wp2
    go_ret2
    exact ⟨by rw [HO.out, errV_succ, HE.out]; rfl, HB.out⟩
theorem of_gives {W : World} {v : Value} {d : Aut} {Z : Option Addr} {cz : Nat} {z : List Int} (h : DfaAt W W.heap.size v d) (hZ : IntsAt W W.heap.size Z z) (hz : z.length ≤ 17592186044416) {x : Int} {E : Value} {k : Nat} (hr : ofOut d z = (x, k)) (hE : errV k = E) :
    Calls Try.prog 25 #[v, .slice Z z.length cz] W fun e w' => e = .returned (.tuple #[.int .i64 x, E]) ∧ Below W.heap.size W w' :=
  (of_any v d Z cz z W h hZ hz).mono fun e w' ⟨h1, h2⟩ => ⟨by rw [h1.out, hr, ← hE], h2⟩
end Go.Proofs.Ytciopfiddfmckaa.Ve

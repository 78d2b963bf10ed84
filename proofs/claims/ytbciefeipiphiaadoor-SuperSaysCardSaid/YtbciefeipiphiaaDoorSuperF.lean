/- The walk of package super's Make. Package super's contracts for laws; the laws' closed fact. -/
import Derived.Test.YtbciefeipiphiaaDoorSuperC
import Derived.Test.YtbciefeipiphiaaDoorSuperA
import Derived.Test.YtbciefeipiphiaaDoorMinW
import Derived.Test.YtbciefeipiphiaaDoorLeast

namespace Go.Proofs.YtbciefeipiphiaaDoor.Su
open Go.RowKit Go.IntWalk Go.Proofs.YtbciefeipiphiaaDoor.Wd Go.Proofs.YtbciefeipiphiaaDoor.Wo Go.Proofs.YtbciefeipiphiaaDoor.Df Go.Proofs.YtbciefeipiphiaaDoor.Rc Go.Proofs.YtbciefeipiphiaaDoor.Sm Go.Proofs.YtbciefeipiphiaaDoor.Sa Go.Proofs.YtbciefeipiphiaaDoor.Mp

/-- What comes of a plant, a policy and free letters: what is wrong, nothing at all (5), or the smallest automaton of what is kept. -/
def SupI (P S : Aut) (free : Int) (r : Aut) (E : Nat) : Prop :=
  (plantE P S free ≠ 0 ∧ E = plantE P S free ∧ r = zeroA) ∨
  (plantE P S free = 0 ∧ found (S2 P S) (start2 P S) = none ∧ E = 4 ∧ r = zeroA) ∨
  (plantE P S free = 0 ∧ (∃ l, found (S2 P S) (start2 P S) = some l) ∧ E = 5 ∧ r = zeroA ∧ ∀ w, Word P.L w → ¬ sup P S free w) ∨
  (plantE P S free = 0 ∧ (∃ l, found (S2 P S) (start2 P S) = some l) ∧ E = 0 ∧ (∃ w, Word P.L w ∧ sup P S free w) ∧ ∃ d, Df.Good d ∧ d.L = P.L ∧ IsSup P S d free ∧ r = minA d)
theorem supI_det {P S : Aut} {free : Int} {r r' : Aut} {E E' : Nat} (h : SupI P S free r E) (h' : SupI P S free r' E') : r = r' ∧ E = E' := by
  rcases h with ⟨a1, a2, a3⟩ | ⟨a1, a2, a3, a4⟩ | ⟨a1, ⟨l, a2⟩, a3, a4, a5⟩ | ⟨a1, ⟨l, a2⟩, a3, ⟨w, a4, a5⟩, d, a6, a7, a8, a9⟩
  · rcases h' with ⟨b1, b2, b3⟩ | ⟨b1, _⟩ | ⟨b1, _⟩ | ⟨b1, _⟩
    · exact ⟨a3.trans b3.symm, a2.trans b2.symm⟩
    · exact absurd b1 a1
    · exact absurd b1 a1
    · exact absurd b1 a1
  · rcases h' with ⟨b1, _⟩ | ⟨b1, b2, b3, b4⟩ | ⟨b1, ⟨l', b2⟩, _⟩ | ⟨b1, ⟨l', b2⟩, _⟩
    · exact absurd a1 b1
    · exact ⟨a4.trans b4.symm, a3.trans b3.symm⟩
    · rw [a2] at b2; cases b2
    · rw [a2] at b2; cases b2
  · rcases h' with ⟨b1, _⟩ | ⟨b1, b2, _⟩ | ⟨b1, ⟨l', b2⟩, b3, b4, b5⟩ | ⟨b1, ⟨l', b2⟩, b3, ⟨w', b4, b5⟩, _⟩
    · exact absurd a1 b1
    · rw [a2] at b2; cases b2
    · exact ⟨a4.trans b4.symm, a3.trans b3.symm⟩
    · exact absurd b5 (a5 w' b4)
  · rcases h' with ⟨b1, _⟩ | ⟨b1, b2, _⟩ | ⟨b1, ⟨l', b2⟩, b3, b4, b5⟩ | ⟨b1, ⟨l', b2⟩, b3, ⟨w', b4, b5⟩, d', b6, b7, b8, b9⟩
    · exact absurd a1 b1
    · rw [a2] at b2; cases b2
    · exact absurd a5 (b5 w a4)
    · refine ⟨?_, a3.trans b3.symm⟩
      rw [a9, b9]
      refine (min_iff ⟨a6, b6, a7.trans b7.symm⟩).2 fun w hw => ?_
      rw [a7] at hw
      exact Bool.eq_iff_iff.2 ((a8 w hw).trans (b8 w hw).symm)
/-- What is read is one automaton. -/
theorem ints_det {w : World} {B : Nat} {A : Option Addr} {l l' : List Int} (h : IntsAt w B A l) (h' : IntsAt w B A l') (hl : l.length = l'.length) : l = l' := List.ext_getElem hl fun i h1 h2 => by
  obtain ⟨ad, e, _, hc, _⟩ := h.at_ i h1
  obtain ⟨ad', e', _, hc', _⟩ := h'.at_ i h2
  obtain rfl := Option.some.inj (e.symm.trans e')
  rw [hc] at hc'
  simpa using hc'
theorem dfaAt_det {w : World} {B : Nat} {v : Value} {d d' : Aut} (h : DfaAt w B v d) (h' : DfaAt w B v d') : d = d' := by
  obtain ⟨L, s, A, c, F, cf, rfl, h⟩ := h
  obtain ⟨L', s', A', c', F', cf', e, h'⟩ := h'
  simp only [Value.agg.injEq, Array.mk.injEq, List.cons.injEq, Value.int.injEq, Value.slice.injEq, true_and, and_true] at e
  obtain ⟨rfl, rfl, ⟨rfl, hl, rfl⟩, rfl, hf, rfl⟩ := e
  have h1 : d.next = d'.next := List.ext_getElem hl fun i k1 k2 => by
    obtain ⟨ad, A1, c1, e1, _, q1, _, _, q2⟩ := h.rows i _ (List.getElem?_eq_getElem k1)
    obtain ⟨ad', A2, c2, e2, _, q3, _, _, q4⟩ := h'.rows i _ (List.getElem?_eq_getElem k2)
    obtain rfl := Option.some.inj (e1.symm.trans e2)
    rw [q1] at q3
    simp only [Option.some.injEq, Value.slice.injEq] at q3
    obtain ⟨rfl, hll, _⟩ := q3
    exact ints_det q2 q4 hll
  have h2 : d.fin = d'.fin := List.ext_getElem hf fun i k1 k2 => by
    obtain ⟨ad, e1, _, q1, _⟩ := h.fins.at_ (List.getElem?_eq_getElem k1)
    obtain ⟨ad', e2, _, q2, _⟩ := h'.fins.at_ (List.getElem?_eq_getElem k2)
    obtain rfl := Option.some.inj (e1.symm.trans e2)
    rw [q1] at q2
    simpa using q2
  have h3 := h.eL.trans h'.eL.symm
  have h4 := h.es.trans h'.es.symm
  obtain ⟨dL, ds, dn, df⟩ := d
  obtain ⟨dL', ds', dn', df'⟩ := d'
  simp only at h1 h2 h3 h4
  rw [h1, h2, h3, h4]
/-- How many states are alive. -/
def aliveC (d : Aut) : Nat := ((List.range d.next.length).filter fun i => isAlive d i).length
noncomputable def aliveN (w : World) (v : Value) : Nat := @dite _ (∃ d, DfaAt w w.heap.size v d) (Classical.propDecidable _) (fun h => aliveC h.choose) (fun _ => 0)
theorem aliveN_is {w : World} {v : Value} {d : Aut} (h : DfaAt w w.heap.size v d) : aliveN w v = aliveC d := by
  unfold aliveN
  rw [dif_pos ⟨d, h⟩]
  exact congrArg aliveC (dfaAt_det (Exists.choose_spec (⟨d, h⟩ : ∃ d, DfaAt w w.heap.size v d)) h)
/-- A pass that shuts none. -/
theorem shut_same {d : Aut} (g : Df.Good d) {al pr : List Bool} {free : Int} (h : shutAny d al pr free d.next.length = false) : shutA d al pr free = d := by
  have hc : ∀ s, s < d.next.length → cutB d al pr free s = false := fun s hs => by
    have := List.any_eq_false.1 h s (List.mem_range.2 hs)
    simpa using this
  have e1 : (List.range d.next.length).map (cutRow d al pr free) = d.next := List.ext_getElem (by simp) fun i h1 h2 => by
    rw [List.getElem_map, List.getElem_range]
    unfold cutRow
    rw [hc i h2, if_neg (by simp), next_at h2]
  have e2 : (List.range d.fin.length).map (cutFin d al pr free) = d.fin := List.ext_getElem (by simp) fun i h1 h2 => by
    rw [List.getElem_map, List.getElem_range]
    unfold cutFin
    rw [hc i (by rw [← g.fin]; exact h2), if_neg (by simp)]
    unfold finA
    rw [List.getElem?_eq_getElem h2]; rfl
  unfold shutA
  rw [e1, e2]
theorem AutX.dfa {w1 wr : World} {nv fv : Value} {d : Aut} {rs : List (Value × List Int)} {xs fs : List Ent} (h : AutX w1 wr nv fv d.next d.fin rs xs fs) (g : Df.Good d) : DfaAt wr wr.heap.size (.agg #[.int .i64 d.L, .int .i64 d.s, nv, fv]) d := by
  have h7 := own_dfa (nv := nv) (fv := fv) (rs := rs) (bs := d.fin) (L := d.L) (s := d.s) h.2 (by simp) (fun e he => by simp [he]) (by simp) (rows_small (good_small g) h.1) g.small_L g.small_s
  rw [h.1] at h7
  exact h7
/-- The whole, when no pass would take any away. -/
theorem make_end {P S : Aut} (g : Good2 P S) {free : Int} (h0 : plantE P S free = 0) {W : PS} {l : List Pr} (hf : found (S2 P S) (start2 P S) = some l) (hW : Cuts P S free W) {al : List Bool} (hal : ∀ x ∈ l, flagAt al (num l x) = isAlive (autW P S W l) (num l x)) (hn : shutAny (autW P S W l) al (prodP P S l) free l.length = false) (hs : isAlive (autW P S W l) 0 = true) :
    SupI P S free (minA (autW P S W l)) 0 := by
  have hw := found_whole hf
  obtain ⟨i1, i2⟩ := start_in hw
  have hend := fun v hv hc => shut_none (free := free) g hw hal (fun x hx => prodP_at g hw hx) hn (v := v) hv hc
  have his : IsSup P S (autW P S W l) free := fun w hw' => (autW_acc hw hw').trans (cuts_end g hW hend hw').symm
  refine .inr (.inr (.inr ⟨h0, ⟨l, hf⟩, rfl, ?_, autW P S W l, autW_good g hw, rfl, his, rfl⟩))
  rw [← i2] at hs
  obtain ⟨w, hw', hst, f1, f2⟩ := (autW_alive g hw i1).1 hs
  exact ⟨w, hw', (cuts_end g hW hend hw').2 ⟨hst, f1, f2⟩⟩
theorem make_none {P S : Aut} (g : Good2 P S) {free : Int} (h0 : plantE P S free = 0) {W : PS} {l : List Pr} (hf : found (S2 P S) (start2 P S) = some l) (hW : Cuts P S free W) (hs : isAlive (autW P S W l) 0 = false) : SupI P S free zeroA 5 := by
  have hw := found_whole hf
  obtain ⟨i1, i2⟩ := start_in hw
  refine .inr (.inr (.inl ⟨h0, ⟨l, hf⟩, rfl, rfl, cuts_none g hW fun hc => ?_⟩))
  have := (autW_alive (W := W) g hw i1).2 hc
  rw [i2, hs] at this
  cases this
set_option linter.unusedSimpArgs false in
set_option maxRecDepth 100000 in
set_option maxHeartbeats 8000000 in
theorem smake_any (v z : Value) (P S : Aut) (free : Int) (w : World) (ha : DfaAt w w.heap.size v P) (hb : DfaAt w w.heap.size z S) :
    Calls Tryd.prog 12 #[v, z, .int .i64 free] w fun e w' => Hid (∃ x r, ∃ E : Nat, e = .returned (.tuple #[x, errV E]) ∧ SupI P S free r E ∧ DfaOwn w w' x r) := by
  have HA := Lib.hid ha
  have HZ := Lib.hid hb
  obtain ⟨L, s, A, c, F, cf, rfl, ha⟩ := ha
  obtain ⟨L', t, C, d, G, cg, rfl, hb⟩ := hb
  obtain ⟨wx, hwx, hBx, hX, hd1⟩ := box_dfa w ha
  obtain ⟨w1, hw1, hB1, hY, hd2⟩ := box_dfa wx (hb.on hBx)
  have hs1 : wx.heap.size = w.heap.size + 1 := by rw [hwx]; simp
  have hs2 : w1.heap.size = w.heap.size + 2 := by rw [hw1]; simp; omega
  rw [hs1] at hY
  have hres := below_alloc w1 (.cells #[.int .i64 0, .int .i64 0, .slice none 0 0, .slice none 0 0] 25)
  have hbb := hBx.trans (hB1.mono hBx.size)
  have HB := Lib.hid hbb
  have HX := Lib.hid ((hX.on hB1).on hres)
  have HY := Lib.hid (hY.on hres)
  have HO := Lib.hid ((own_start w1).dfa (.int .i64 0) (.int .i64 0) (.slice none 0 0) (.slice none 0 0))
  rw [hs2] at HO
  have HA := Lib.hid ((HA.out.on hbb).on hres)
  have HZ := Lib.hid ((HZ.out.on hbb).on hres)
  have HW : Hid (w1 = (w.alloc (.cells #[.int .i64 L, .int .i64 s, .slice A P.next.length c, .slice F P.fin.length cf] 25)).alloc (.cells #[.int .i64 L', .int .i64 t, .slice C S.next.length d, .slice G S.fin.length cg] 25)) := by
    rw [← hwx]; exact hw1
  have hc0 := HX.out.c0
  have hc1 := HX.out.c1
  have hc2 := HX.out.c2
  have hc3 := HX.out.c3
  have hd0 := HY.out.c0
  have hd1' := HY.out.c1
  have hd2' := HY.out.c2
  have hd3 := HY.out.c3
  clear hwx hw1 hBx hB1 hX hY hd1 hd2 hs1 hs2 ha hb hbb hres
  obtain ⟨gr, hgr⟩ : ∃ gr, gr = w.heap.size + 2 := ⟨_, rfl⟩
  rcases g1 : plantE P S free with _ | e0
  · obtain ⟨hG, hf0, hf1⟩ := plantE_ok g1
    have HG := Lib.hid hG
    have HC := Lib.hid (scheck_ok HA.out HZ.out g1)
    have H0 := Lib.hid g1
    clear g1 hG
    generalize P.next.length = n1 at *
    generalize P.fin.length = n2 at *
    generalize S.next.length = n3 at *
    generalize S.fin.length = n4 at *
    go_enter Tryd.func12, Tryd.ntmps12
    go_wp2_with fail
    rw [← HW.out]
    refine HC.out.mono ?_
    rintro e w2 ⟨rfl, hb⟩
    have HX2 := Lib.hid (HX.out.on hb)
    have HY2 := Lib.hid (HY.out.on hb)
    have HA2 := Lib.hid (HA.out.on hb)
    have HZ2 := Lib.hid (HZ.out.on hb)
    have HO2 := Lib.hid (HO.out.on hb)
    clear hb HC hc0 hc1 hc2 hc3 hd0 hd1' hd2' hd3 HX HY HA HZ HO HW
    rw [← hgr] at HO2
    rw [← hgr]
    clear hgr
    have hc0 := HX2.out.c0
    have hc1 := HX2.out.c1
    have hc2 := HX2.out.c2
    have hc3 := HX2.out.c3
    have hd0 := HY2.out.c0
    have hd1' := HY2.out.c1
    have hd2' := HY2.out.c2
    have hd3 := HY2.out.c3
    rcases hfd : found (S2 P S) (start2 P S) with _ | l
    · as_aux_lemma =>
      have HBo := Lib.hid (both_full HA2.out HZ2.out HG.out hfd)
      have HSu : Hid (SupI P S free zeroA 4) := .inr (.inl ⟨H0.out, hfd, rfl, rfl⟩)
      clear hfd
      go_wp2_with fail
      refine HBo.out.mono ?_
      rintro e w3 he
      obtain ⟨x, rfl, ho⟩ := he.out
      obtain ⟨nv, fv, A1, m1, c1, F1, m2, c2, rfl, rfl, rfl⟩ := ho.own.form
      have HO3 := Lib.hid ((HO2.out.on ho.below).alloc (.cells #[.int .i64 zeroA.L, .int .i64 zeroA.s, .slice A1 m1 c1, .slice F1 m2 c2] 25))
      obtain ⟨hr0, hq0⟩ := HO3.out.dcell (g := gr) (l := zero4) (j := 0) (by simp) rfl
      obtain ⟨hr1, hq1⟩ := HO3.out.dcell (g := gr) (l := zero4) (j := 1) (by simp) rfl
      obtain ⟨hr2, hq2⟩ := HO3.out.dcell (g := gr) (l := zero4) (j := 2) (by simp) rfl
      obtain ⟨hr3, hq3⟩ := HO3.out.dcell (g := gr) (l := zero4) (j := 3) (by simp) rfl
      have HEnd := Lib.hid (res_bad HO3.out rfl)
      clear he ho HBo hc0 hc1 hc2 hc3 hd0 hd1' hd2' hd3 HX2 HY2 HA2 HZ2 HO2 HO3
      go_wp2
      obtain ⟨k2, k3, k4, k5, k6⟩ := HEnd.out
      exact bodyPost_ret (results_dfa rfl _ rfl k3 k4 k5 k6) rfl ⟨_, _, 4, rfl, HSu.out, dfaOwn_zero (HB.out.trans (k2.mono HB.out.size))⟩
    · as_aux_lemma =>
      have HFd := Lib.hid hfd
      have HWh := Lib.hid (found_whole hfd)
      have HBo := Lib.hid (both_ok HA2.out HZ2.out HG.out hfd)
      clear hfd
      go_wp2_with fail
      refine HBo.out.mono ?_
      rintro e w3 he
      obtain ⟨x, rfl, hnew⟩ := he.out
      rw [← autW_all] at hnew
      obtain ⟨nv, fv, rs, hx, hrs, hown, _⟩ := hnew
      obtain ⟨A1, c1, hnv, q1, q2, q3⟩ := hown.form (e := eRows nv (rs.map (·.1))) (by simp)
      obtain ⟨F1, c2, hfv, q4, q5, q6⟩ := hown.form (e := eBools fv (autW P S (fun _ _ => true) l).fin) (by simp)
      simp only [eRows, eBools] at hnv hfv
      generalize hl1 : (rs.map (·.1)).length = m1 at *
      generalize hl2 : (autW P S (fun _ _ => true) l).fin.length = m2 at *
      subst hnv hfv
      have hx : x = .agg #[.int .i64 P.L, .int .i64 0, .slice A1 m1 c1, .slice F1 m2 c2] := hx
      subst hx
      obtain ⟨w4, hw4⟩ : ∃ w4, w4 = w3.alloc (.cells #[.int .i64 P.L, .int .i64 0, .slice A1 m1 c1, .slice F1 m2 c2] 25) := ⟨_, rfl⟩
      have hbW : Below w2.heap.size w2 w4 := by rw [hw4]; exact hown.below.trans ((below_alloc w3 _).mono hown.below.size)
      have HAu : Hid (AutX w1 w4 (.slice A1 m1 c1) (.slice F1 m2 c2) (autW P S (fun _ _ => true) l).next (autW P S (fun _ _ => true) l).fin rs [eDfa w3.heap.size [.int .i64 P.L, .int .i64 0, .slice A1 m1 c1, .slice F1 m2 c2], eDfa gr zero4] []) := by
        refine ⟨hrs.symm, ?_⟩
        rw [hw4]
        refine ((HO2.out.join hown).dfa (.int .i64 P.L) (.int .i64 0) (.slice A1 m1 c1) (.slice F1 m2 c2)).perm ?_
        exact ((List.Perm.swap _ _ _).trans (((List.Perm.swap _ _ _).trans (List.perm_middle.symm.cons _)).cons _))
      have HWp := Lib.hid (where_any _ _ P S w4 (HA2.out.on hbW) (HZ2.out.on hbW) HG.out HFd.out)
      have hX4 := HX2.out.on hbW
      have hY4 := HY2.out.on hbW
      clear hc0 hc1 hc2 hc3 hd0 hd1' hd2' hd3
      have hc0 := hX4.c0
      have hc1 := hX4.c1
      have hc2 := hX4.c2
      have hc3 := hX4.c3
      have hd0 := hY4.c0
      have hd1' := hY4.c1
      have hd2' := hY4.c2
      have hd3 := hY4.c3
      have HW4 := Lib.hid hw4
      rw [hw4] at hc0 hc1 hc2 hc3 hd0 hd1' hd2' hd3
      have HBw := Lib.hid (HO2.out.below)
      clear he hown hrs hw4 hbW HBo q1 q2 q3 q4 q5 q6 hl1 hl2 hX4 hY4 HX2 HY2 HA2 HZ2 HO2 HBw
      go_wp2_with fail
      rw [← HW4.out]
      clear hc0 hc1 hc2 hc3 hd0 hd1' hd2' hd3 HW4
      refine HWp.out.mono ?_
      rintro e w5 he
      obtain ⟨pv, rfl, ho⟩ := he.out
      have HS0 : Hid (∃ (W : PS) (rt : List (Value × List Int)), Cuts P S free W ∧ AutX w1 w5 (.slice A1 m1 c1) (.slice F1 m2 c2) (autW P S W l).next (autW P S W l).fin rt [eDfa w3.heap.size [.int .i64 P.L, .int .i64 0, .slice A1 m1 c1, .slice F1 m2 c2], eDfa gr zero4] [eBools pv (prodP P S l)]) :=
        ⟨_, rs, .all, HAu.out.1, HAu.out.2.join ho⟩
      clear he ho HWp HAu
      generalize w3.heap.size = gm at *
      go_wp2
      go_loopw [] (fun wr => Hid (∃ (W : PS) (rt : List (Value × List Int)), Cuts P S free W ∧ AutX w1 wr (.slice A1 m1 c1) (.slice F1 m2 c2) (autW P S W l).next (autW P S W l).fin rt [eDfa gm [.int .i64 P.L, .int .i64 0, .slice A1 m1 c1, .slice F1 m2 c2], eDfa gr zero4] [eBools pv (prodP P S l)])) (fun wr => aliveN wr (.agg #[.int .i64 P.L, .int .i64 0, .slice A1 m1 c1, .slice F1 m2 c2]))
      case atStart => exact HS0
      case round =>
        clear HS0
        obtain ⟨W, rt, hcut, hau⟩ := hrel.out
        have hgood := autW_good (W := W) HG.out HWh.out
        have hD : DfaAt wr wr.heap.size (.agg #[.int .i64 P.L, .int .i64 0, .slice A1 m1 c1, .slice F1 m2 c2]) (autW P S W l) := hau.dfa hgood
        have hN1 := aliveN_is hD
        have hg0 := (hau.2.dcell (g := gm) (l := [.int .i64 P.L, .int .i64 0, .slice A1 m1 c1, .slice F1 m2 c2]) (j := 0) (by simp) rfl).1
        have hg1 := (hau.2.dcell (g := gm) (l := [.int .i64 P.L, .int .i64 0, .slice A1 m1 c1, .slice F1 m2 c2]) (j := 1) (by simp) rfl).1
        have hg2 := (hau.2.dcell (g := gm) (l := [.int .i64 P.L, .int .i64 0, .slice A1 m1 c1, .slice F1 m2 c2]) (j := 2) (by simp) rfl).1
        have hg3 := (hau.2.dcell (g := gm) (l := [.int .i64 P.L, .int .i64 0, .slice A1 m1 c1, .slice F1 m2 c2]) (j := 3) (by simp) rfl).1
        have HPre := Lib.hid (pre_ok hD hgood)
        have HCut := Lib.hid hcut
        have HAu := Lib.hid hau
        have HGood := Lib.hid hgood
        have HN1 := Lib.hid hN1
        clear hrel hcut hau hgood hD hN1
        go_wp2_with fail
        refine HPre.out.mono ?_
        rintro e w6 he
        obtain ⟨xb, rfl, ho⟩ := he.out
        obtain ⟨nv6, fv6, A6, m6, c6, F6, m7, c7, rfl, rfl, rfl⟩ := ho.form
        have hfin := HGood.out.fin_at HGood.out.n1
        have hL1 : (autW P S W l).next.length = l.length := by simp [autW]
        have hpf : (preA (autW P S W l)).fin[0]? = some (isAlive (autW P S W l) 0) := by
          have := (judge_good (f := preF) HGood.out).fin_at (q := 0) HGood.out.n1
          rw [this]
          exact congrArg some (pre_fin HGood.out.n1)
        have hat := ho.at_
        obtain ⟨nv', fv', rs', e7, h8, h9, _⟩ := ho
        simp only [Value.agg.injEq, Array.mk.injEq, List.cons.injEq, Value.int.injEq, true_and, and_true] at e7
        obtain ⟨e7a, e7b⟩ := e7
        subst e7a e7b
        obtain ⟨F', cf', e8, hy1, hy2, hbo⟩ := own_bools (fv := .slice F6 m7 c7) (bs := (preA (autW P S W l)).fin) h9 (by simp)
        simp only [Value.slice.injEq] at e8
        obtain ⟨rfl, rfl, rfl⟩ := e8
        obtain ⟨adf, rfl, hz1, hcf, hz2⟩ := hbo.at_ hpf
        obtain ⟨w7, hw7⟩ : ∃ w7, w7 = w6.alloc (.cells #[.int .i64 (preA (autW P S W l)).L, .int .i64 (preA (autW P S W l)).s, .slice A6 m6 c6, .slice (some adf) (preA (autW P S W l)).fin.length c7] 25) := ⟨_, rfl⟩
        have hb7 : Below w6.heap.size w6 w7 := by rw [hw7]; exact below_alloc _ _
        have HAu7 : Hid (AutX w1 w7 (.slice A1 m1 c1) (.slice F1 m2 c2) (autW P S W l).next (autW P S W l).fin rt [eDfa gm [.int .i64 P.L, .int .i64 0, .slice A1 m1 c1, .slice F1 m2 c2], eDfa gr zero4] ((eRows (.slice A6 m6 c6) (rs'.map (·.1)) :: eBools (.slice (some adf) (preA (autW P S W l)).fin.length c7) (preA (autW P S W l)).fin :: eEach rs') ++ [eBools pv (prodP P S l)])) :=
          ⟨HAu.out.1, (HAu.out.2.join h9).on hb7⟩
        have k3 : w7.cell? ⟨w6.heap.size, 3, none⟩ = some (.slice (some adf) (preA (autW P S W l)).fin.length c7) := by rw [hw7]; exact box_cell w6 _ _ 3
        have kf := (hb7.cell (p := adf.add 0) (by rw [Wd.block_add]; exact hz1)).trans hcf
        rw [show adf.add 0 = adf from by rcases adf with ⟨_, _, _⟩; simp [Addr.add]] at kf
        have kg0 := (HAu7.out.2.dcell (g := gm) (l := [.int .i64 P.L, .int .i64 0, .slice A1 m1 c1, .slice F1 m2 c2]) (j := 0) (by simp) rfl).1
        have kg1 := (HAu7.out.2.dcell (g := gm) (l := [.int .i64 P.L, .int .i64 0, .slice A1 m1 c1, .slice F1 m2 c2]) (j := 1) (by simp) rfl).1
        have kg2 := (HAu7.out.2.dcell (g := gm) (l := [.int .i64 P.L, .int .i64 0, .slice A1 m1 c1, .slice F1 m2 c2]) (j := 2) (by simp) rfl).1
        have kg3 := (HAu7.out.2.dcell (g := gm) (l := [.int .i64 P.L, .int .i64 0, .slice A1 m1 c1, .slice F1 m2 c2]) (j := 3) (by simp) rfl).1
        have HW7 := Lib.hid hw7
        have hpl : (preA (autW P S W l)).fin.length = l.length := by simp [judge, autW]
        have hl0 : 0 < l.length := by rw [← hL1]; exact HGood.out.n1
        have hl4 : l.length ≤ 40 := by rw [← hL1]; exact HGood.out.n40
        have HAl : Hid (∀ x ∈ l, flagAt (preA (autW P S W l)).fin (num l x) = isAlive (autW P S W l) (num l x)) := fun x hx => by
          have hlt : num l x < (autW P S W l).next.length := by rw [hL1]; exact idx_lt hx
          unfold flagAt
          rw [(judge_good (f := preF) HGood.out).fin_at (q := num l x) hlt, Option.getD_some]
          exact pre_fin hlt
        have HSh : Hid (Calls Tryd.prog 31 #[(.agg #[.int .i64 P.L, .int .i64 0, .slice A1 m1 c1, .slice F1 m2 c2]), .slice (some adf) (preA (autW P S W l)).fin.length c7, pv, .int .i64 free] w7 fun e w' => Hid (ShutR w1 (autW P S W l) (preA (autW P S W l)).fin (prodP P S l) free (.slice A1 m1 c1) (.slice F1 m2 c2) (rt.map (·.1)) [eDfa gm [.int .i64 P.L, .int .i64 0, .slice A1 m1 c1, .slice F1 m2 c2], eDfa gr zero4] ((eRows (.slice A6 m6 c6) (rs'.map (·.1)) :: eBools (.slice (some adf) (preA (autW P S W l)).fin.length c7) (preA (autW P S W l)).fin :: eEach rs') ++ [eBools pv (prodP P S l)]) e w')) :=
          sshut_any w1 w7 (autW P S W l) HGood.out (preA (autW P S W l)).fin (prodP P S l) free (.slice A1 m1 c1) (.slice F1 m2 c2) _ pv rt [eDfa gm [.int .i64 P.L, .int .i64 0, .slice A1 m1 c1, .slice F1 m2 c2], eDfa gr zero4] _ HAu7.out (by simp) (by simp) (by rw [hpl, hL1]) (by simp [prodP, hL1]) hf0
        rw [hw7] at k3 kf kg0 kg1 kg2 kg3
        have HL1 := Lib.hid hL1
        generalize (preA (autW P S W l)).fin.length = nl at *
        have HPl := Lib.hid hpl
        have e1 : (0 : Int) < (nl : Int) := by omega
        clear he HPre hg0 hg1 hg2 hg3 hfin hpf hat h8 h9 hbo hz1 hz2 hcf hb7 hw7 hpl hL1 hl0 hl4 hy1 hy2
        rcases hal : isAlive (autW P S W l) 0 with _ | _
        · as_aux_lemma =>
          rw [hal] at kf
          have HSu := Lib.hid (make_none HG.out H0.out HFd.out HCut.out hal)
          have HR : Hid (Own w1 w7 [eDfa gr zero4] []) := by
            have h := HAu7.out.2
            refine ((Own.perm h (es' := eDfa gr zero4 :: (eRows (.slice A1 m1 c1) (rt.map (·.1)) :: eBools (.slice F1 m2 c2) (autW P S W l).fin :: (eEach rt ++ [eDfa gm [.int .i64 P.L, .int .i64 0, .slice A1 m1 c1, .slice F1 m2 c2]]))) ?_).weak (fs' := []) (fun e he => by simp at he))
              |> fun h => Own.front (es := [eDfa gr zero4]) h
            have : (eRows (.slice A1 m1 c1) (rt.map (·.1)) :: eBools (.slice F1 m2 c2) (autW P S W l).fin :: (eEach rt ++ [eDfa gm [.int .i64 P.L, .int .i64 0, .slice A1 m1 c1, .slice F1 m2 c2], eDfa gr zero4])) = (eRows (.slice A1 m1 c1) (rt.map (·.1)) :: eBools (.slice F1 m2 c2) (autW P S W l).fin :: (eEach rt ++ [eDfa gm [.int .i64 P.L, .int .i64 0, .slice A1 m1 c1, .slice F1 m2 c2]])) ++ [eDfa gr zero4] := by simp
            rw [this]
            exact List.perm_append_singleton _ _
          obtain ⟨hr0, hq0⟩ := HR.out.dcell (g := gr) (l := zero4) (j := 0) (by simp) rfl
          obtain ⟨hr1, hq1⟩ := HR.out.dcell (g := gr) (l := zero4) (j := 1) (by simp) rfl
          obtain ⟨hr2, hq2⟩ := HR.out.dcell (g := gr) (l := zero4) (j := 2) (by simp) rfl
          obtain ⟨hr3, hq3⟩ := HR.out.dcell (g := gr) (l := zero4) (j := 3) (by simp) rfl
          have HEnd := Lib.hid (res_bad HR.out rfl)
          rw [HW7.out] at hr0 hr1 hr2 hr3 hq0 hq1 hq2 hq3 HEnd
          clear hal HR HSh HAu7 kg0 kg2 kg3
          go_wp2
          obtain ⟨k2, k3, k4, k5, k6⟩ := HEnd.out
          exact bodyPost_ret (results_dfa rfl _ rfl k3 k4 k5 k6) rfl ⟨_, _, 5, rfl, HSu.out, dfaOwn_zero (HB.out.trans (k2.mono HB.out.size))⟩
        · as_aux_lemma =>
          rw [hal] at kf
          have HLive := Lib.hid hal
          clear hal
          go_wp2_with fail
          rw [← HW7.out]
          clear HW7 k3 kf kg0 kg1 kg2 kg3
          refine HSh.out.mono ?_
          rintro e w8 he
          obtain ⟨he1, rs8, hv8, hau8⟩ := he.out
          rw [HL1.out] at he1
          obtain ⟨bb, hbb⟩ : ∃ bb, shutAny (autW P S W l) (preA (autW P S W l)).fin (prodP P S l) free l.length = bb := ⟨_, rfl⟩
          rw [hbb] at he1
          subst he1
          rcases bb with _ | _
          · as_aux_lemma =>
            have hss := shut_same (al := (preA (autW P S W l)).fin) (pr := prodP P S l) (free := free) HGood.out (by rw [HL1.out]; exact hbb)
            rw [hss] at hau8
            have HSu := Lib.hid (make_end HG.out H0.out HFd.out HCut.out HAl.out hbb HLive.out)
            have hD8 : DfaAt w8 w8.heap.size (.agg #[.int .i64 P.L, .int .i64 0, .slice A1 m1 c1, .slice F1 m2 c2]) (autW P S W l) := hau8.dfa HGood.out
            have HMi := Lib.hid (minimal_any _ _ w8 hD8)
            rw [minOut_ok (dchk_iff.2 HGood.out)] at HMi
            have hg0 := (hau8.2.dcell (g := gm) (l := [.int .i64 P.L, .int .i64 0, .slice A1 m1 c1, .slice F1 m2 c2]) (j := 0) (by simp) rfl).1
            have hg1 := (hau8.2.dcell (g := gm) (l := [.int .i64 P.L, .int .i64 0, .slice A1 m1 c1, .slice F1 m2 c2]) (j := 1) (by simp) rfl).1
            have hg2 := (hau8.2.dcell (g := gm) (l := [.int .i64 P.L, .int .i64 0, .slice A1 m1 c1, .slice F1 m2 c2]) (j := 2) (by simp) rfl).1
            have hg3 := (hau8.2.dcell (g := gm) (l := [.int .i64 P.L, .int .i64 0, .slice A1 m1 c1, .slice F1 m2 c2]) (j := 3) (by simp) rfl).1
            have HR : Hid (Own w1 w8 [eDfa gr zero4] []) := by
              have h := hau8.2
              refine ((Own.perm h (es' := eDfa gr zero4 :: (eRows (.slice A1 m1 c1) (rs8.map (·.1)) :: eBools (.slice F1 m2 c2) (autW P S W l).fin :: (eEach rs8 ++ [eDfa gm [.int .i64 P.L, .int .i64 0, .slice A1 m1 c1, .slice F1 m2 c2]]))) ?_).weak (fs' := []) (fun e he => by simp at he))
                |> fun h => Own.front (es := [eDfa gr zero4]) h
              have : (eRows (.slice A1 m1 c1) (rs8.map (·.1)) :: eBools (.slice F1 m2 c2) (autW P S W l).fin :: (eEach rs8 ++ [eDfa gm [.int .i64 P.L, .int .i64 0, .slice A1 m1 c1, .slice F1 m2 c2], eDfa gr zero4])) = (eRows (.slice A1 m1 c1) (rs8.map (·.1)) :: eBools (.slice F1 m2 c2) (autW P S W l).fin :: (eEach rs8 ++ [eDfa gm [.int .i64 P.L, .int .i64 0, .slice A1 m1 c1, .slice F1 m2 c2]])) ++ [eDfa gr zero4] := by simp
              rw [this]
              exact List.perm_append_singleton _ _
            clear he hv8 hau8 hss hbb hD8 HSh HAu7 HAu HN1
            go_wp2_with fail
            refine HMi.out.mono ?_
            rintro e w9 he
            obtain ⟨y, he2, ho⟩ := he.out
            subst he2
            obtain ⟨nv9, fv9, A9, m9, c9, F9, m10, c10, rfl, rfl, rfl⟩ := ho.form
            have HH := Lib.hid (res_own HR.out ho rfl)
            have hO9 := HR.out.join (es1 := []) (fs1 := []) ((own_start _).on ho.below)
            obtain ⟨hr0, hq0⟩ := hO9.dcell (g := gr) (l := zero4) (j := 0) (by simp) rfl
            obtain ⟨hr1, hq1⟩ := hO9.dcell (g := gr) (l := zero4) (j := 1) (by simp) rfl
            obtain ⟨hr2, hq2⟩ := hO9.dcell (g := gr) (l := zero4) (j := 2) (by simp) rfl
            obtain ⟨hr3, hq3⟩ := hO9.dcell (g := gr) (l := zero4) (j := 3) (by simp) rfl
            clear he ho hO9 HMi HR hg0 hg1 hg2 hg3
            go_wp2
            obtain ⟨k1, k3, k4, k5, k6⟩ := HH.out
            exact bodyPost_ret (results_dfa rfl _ rfl k3 k4 k5 k6) rfl ⟨_, _, 0, rfl, HSu.out, k1.base HB.out⟩
          · as_aux_lemma =>
            have hsc := shut_cut (free := free) HG.out HWh.out HAl.out (fun x hx => prodP_at HG.out HWh.out hx)
            have hfew := shut_fewer (free := free) HG.out HWh.out HAl.out (fun x hx => prodP_at HG.out HWh.out hx) hbb
            rw [hsc] at hau8
            have hau9 : AutX w1 w8 (.slice A1 m1 c1) (.slice F1 m2 c2) (autW P S (cutW P S free W) l).next (autW P S (cutW P S free W) l).fin rs8 [eDfa gm [.int .i64 P.L, .int .i64 0, .slice A1 m1 c1, .slice F1 m2 c2], eDfa gr zero4] [eBools pv (prodP P S l)] := ⟨hau8.1, hau8.2.weak fun e he => List.mem_append_right _ he⟩
            have hD8 : DfaAt w8 w8.heap.size (.agg #[.int .i64 P.L, .int .i64 0, .slice A1 m1 c1, .slice F1 m2 c2]) (autW P S (cutW P S free W) l) := hau9.dfa (autW_good HG.out HWh.out)
            have HN2 : Hid (aliveN w8 (.agg #[.int .i64 P.L, .int .i64 0, .slice A1 m1 c1, .slice F1 m2 c2]) < aliveN wr (.agg #[.int .i64 P.L, .int .i64 0, .slice A1 m1 c1, .slice F1 m2 c2])) := by
              rw [Hid, aliveN_is hD8, HN1.out]
              unfold aliveC
              rw [show (autW P S (cutW P S free W) l).next.length = l.length by simp [autW], HL1.out]
              exact hfew
            have HS1 : Hid (∃ (W : PS) (rt : List (Value × List Int)), Cuts P S free W ∧ AutX w1 w8 (.slice A1 m1 c1) (.slice F1 m2 c2) (autW P S W l).next (autW P S W l).fin rt [eDfa gm [.int .i64 P.L, .int .i64 0, .slice A1 m1 c1, .slice F1 m2 c2], eDfa gr zero4] [eBools pv (prodP P S l)]) :=
              ⟨_, rs8, .cut HCut.out, hau9⟩
            clear he hv8 hau8 hau9 hsc hfew hbb hD8 HSh HAu7 HAu HN1
            go_wp2
            go_roundw
            case rel => exact HS1
            case measure => exact HN2.out
  · have HC := Lib.hid (scheck_bad HA.out HZ.out g1 rfl)
    have HSu : Hid (SupI P S free zeroA (e0 + 1)) := .inl ⟨by omega, g1.symm, rfl⟩
    clear g1 HA HZ
    generalize P.next.length = n1 at *
    generalize P.fin.length = n2 at *
    generalize S.next.length = n3 at *
    generalize S.fin.length = n4 at *
    generalize hE : ((e0 + 1 : Nat) : Int) = E at *
    have HE := Lib.hid hE
    clear hE
    go_enter Tryd.func12, Tryd.ntmps12
    go_wp2_with fail
    rw [← HW.out]
    refine HC.out.mono ?_
    rintro e w2 ⟨rfl, hb⟩
    have HO2 := Lib.hid (HO.out.on hb)
    rw [← hgr] at HO2
    rw [← hgr]
    clear hgr
    obtain ⟨hr0, hq0⟩ := HO2.out.dcell (g := gr) (l := zero4) (j := 0) (by simp) rfl
    obtain ⟨hr1, hq1⟩ := HO2.out.dcell (g := gr) (l := zero4) (j := 1) (by simp) rfl
    obtain ⟨hr2, hq2⟩ := HO2.out.dcell (g := gr) (l := zero4) (j := 2) (by simp) rfl
    obtain ⟨hr3, hq3⟩ := HO2.out.dcell (g := gr) (l := zero4) (j := 3) (by simp) rfl
    clear hb HC hc0 hc1 hc2 hc3 hd0 hd1' hd2' hd3 HX HY HO
    have HEnd := Lib.hid (res_bad HO2.out rfl)
    go_wp2
    obtain ⟨k2, k3, k4, k5, k6⟩ := HEnd.out
    exact bodyPost_ret (results_dfa rfl _ rfl k3 k4 k5 k6) rfl ⟨_, _, e0 + 1, by rw [errV_succ, HE.out]; rfl, HSu.out, dfaOwn_zero (HB.out.trans (k2.mono HB.out.size))⟩
end Go.Proofs.YtbciefeipiphiaaDoor.Su

namespace Go.Proofs.YtbciefeipiphiaaDoor.Su
open Go.RowKit Go.IntWalk Go.Proofs.YtbciefeipiphiaaDoor.Wd Go.Proofs.YtbciefeipiphiaaDoor.Wo Go.Proofs.YtbciefeipiphiaaDoor.Df Go.Proofs.YtbciefeipiphiaaDoor.Rc Go.Proofs.YtbciefeipiphiaaDoor.Sm Go.Proofs.YtbciefeipiphiaaDoor.Sa Go.Proofs.YtbciefeipiphiaaDoor.Mp

theorem flag_pre {P S : Aut} (g : Good2 P S) {W : PS} {l : List Pr} (h : Whole (S2 P S) (start2 P S) l) : ∀ x ∈ l, flagAt (preA (autW P S W l)).fin (num l x) = isAlive (autW P S W l) (num l x) := fun x hx => by
  have hlt : num l x < (autW P S W l).next.length := by simp only [autW, List.length_map]; exact idx_lt hx
  unfold flagAt
  rw [(judge_good (f := preF) (autW_good g h)).fin_at (q := num l x) hlt, Option.getD_some]
  exact pre_fin hlt
/-- There is always just one that comes. -/
theorem supI_ex (P S : Aut) (free : Int) : ∃ r E, SupI P S free r E := by
  rcases h0 : plantE P S free with _ | k
  · obtain ⟨g, _⟩ := plantE_ok h0
    rcases hf : found (S2 P S) (start2 P S) with _ | l
    · exact ⟨_, _, .inr (.inl ⟨h0, hf, rfl, rfl⟩)⟩
    · have hw := found_whole hf
      have key : ∀ n W, Cuts P S free W → aliveC (autW P S W l) < n → ∃ r E, SupI P S free r E := by
        intro n
        induction n with
        | zero => intro W _ hn; omega
        | succ n ih =>
          intro W hW hn
          rcases hs : isAlive (autW P S W l) 0 with _ | _
          · exact ⟨_, _, make_none g h0 hf hW hs⟩
          · rcases ha : shutAny (autW P S W l) (preA (autW P S W l)).fin (prodP P S l) free l.length with _ | _
            · exact ⟨_, _, make_end g h0 hf hW (flag_pre g hw) ha hs⟩
            · have hlt := shut_fewer g hw (flag_pre g hw) (fun x hx => prodP_at g hw hx) ha
              refine ih _ (.cut hW) ?_
              have e : ∀ W, (autW P S W l).next.length = l.length := fun W => by simp [autW]
              unfold aliveC at hn ⊢
              rw [e] at hn ⊢
              omega
      exact key _ _ .all (Nat.lt_succ_self _)
  · exact ⟨_, _, .inl ⟨by omega, h0.symm, rfl⟩⟩
theorem smake_gives {W : World} {v z : Value} {P S : Aut} {free : Int} (h : DfaAt W W.heap.size v P) (h2 : DfaAt W W.heap.size z S) {r : Aut} {k : Nat} {E : Value} (hs : SupI P S free r k) (hE : errV k = E) : Gives 12 #[v, z, .int .i64 free] W E r := by
  refine (smake_any v z P S free W h h2).mono fun e w' he => ?_
  obtain ⟨x, r', k', rfl, hs', ho⟩ := he.out
  obtain ⟨rfl, rfl⟩ := supI_det hs' hs
  obtain ⟨L, s, A, n, c, F, m, cf, rfl⟩ := ho.at_.form
  exact ⟨L, s, A, n, c, F, m, cf, by rw [hE], ho.at_, ho.below⟩
/-- What Kept gives to a law. -/
theorem kept_small (P D : Aut) (free : Int) : ∀ x ∈ (keptO P D free).2.1, Small x := fun x hx => by
  rcases h0 : plantE P D free with _ | k
  · obtain ⟨g, _⟩ := plantE_ok h0
    rcases hk : keptW P D free with _ | u
    · rw [keptO_none h0 hk] at hx; simp at hx
    · rw [keptO_some h0 hk] at hx
      have h1 := (keptW_some.1 hk).1 x hx
      have := g.ga.l6
      exact ⟨by omega, by omega⟩
  · rw [keptO_bad (by omega)] at hx; simp at hx
theorem kept_gives {W : World} {v z : Value} {P D : Aut} {free : Int} (h : DfaAt W W.heap.size v P) (h2 : DfaAt W W.heap.size z D) {k : Bool} {l : List Int} {n : Nat} {E : Value} (ho : keptO P D free = (k, l, n)) (hE : errV n = E) :
    Calls Tryd.prog 9 #[v, z, .int .i64 free] W fun e w' => ∃ A c, e = .returned (.tuple #[.bool k, .slice A l.length c, E]) ∧ Hid (IntsAt w' w'.heap.size A l ∧ l.length ≤ c) ∧ Below W.heap.size W w' := by
  refine (kept_any v z P D free W h h2).mono fun e w' he => ?_
  obtain ⟨wv, rfl, hw⟩ := he.out
  obtain ⟨A, c, rfl, h3, h4, h5⟩ := own_ints_at hw List.mem_cons_self (kept_small P D free)
  rw [ho] at h3 h5 ⊢
  exact ⟨A, c, by rw [hE], ⟨h5, h3⟩, hw.below⟩

/-- What holds of the most that is kept. -/
structure SupOk (P S : Aut) (free : Int) (r : Aut) : Prop where
  g : Good2 P S
  pl : plantE P S free = 0
  f0 : 0 ≤ free
  f1 : free < 64
  gr : Df.Good r
  eL : r.L = P.L
  is : IsSup P S r free
  ex : ∃ w, Word P.L w ∧ accA r w = true
  self : minA r = r
theorem supI_two {P S : Aut} {free : Int} {r : Aut} {E : Nat} (h : SupI P S free r E) : (E = 0 ∧ SupOk P S free r) ∨ (E ≠ 0 ∧ r = zeroA) := by
  rcases h with ⟨a1, a2, a3⟩ | ⟨a1, a2, a3, a4⟩ | ⟨a1, a2, a3, a4, a5⟩ | ⟨a1, a2, a3, ⟨w, a4, a5⟩, d, a6, a7, a8, rfl⟩
  · exact .inr ⟨by omega, a3⟩
  · exact .inr ⟨by omega, a4⟩
  · exact .inr ⟨by omega, a4⟩
  · obtain ⟨g, f0, f1⟩ := plantE_ok a1
    have his : IsSup P S (minA d) free := fun u hu => by
      rw [min_acc a6 (by rw [a7]; exact hu)]; exact a8 u hu
    refine .inl ⟨a3, g, a1, f0, f1, min_good a6, a7, his, ⟨w, a4, (his w a4).2 a5⟩, ?_⟩
    refine (min_iff ⟨min_good a6, a6, rfl⟩).2 fun u hu => ?_
    exact min_acc a6 hu
theorem SupOk.within {P S : Aut} {free : Int} {r : Aut} (h : SupOk P S free r) {w : List Int} (hw : Word P.L w) (ha : accA r w = true) : accA P w = true ∧ accA S w = true := isSup_within h.is hw ha
theorem SupOk.good2 {P S : Aut} {free : Int} {r : Aut} (h : SupOk P S free r) : Good2 P r := ⟨h.g.ga, h.gr, h.eL.symm⟩
theorem SupOk.plant {P S : Aut} {free : Int} {r : Aut} (h : SupOk P S free r) : plantE P r free = 0 := by
  have h1 := h.pl
  unfold plantE at h1 ⊢
  rw [if_neg (by have := chkD2_iff.2 h.good2; omega)]
  rw [if_neg (by have := chkD2_iff.2 h.g; omega)] at h1
  exact h1
theorem SupOk.kept {P S : Aut} {free : Int} {r : Aut} (h : SupOk P S free r) : keptO P r free = (true, [], 0) := keptO_none h.plant (keptW_none.2 (isSup_ctl h.is))
theorem SupOk.first {P S : Aut} {free : Int} {r : Aut} (h : SupOk P S free r) : ∃ u, firstOut r = (u, 0) := by
  rcases e : firstW r r.s.toNat with _ | u
  · obtain ⟨w, hw, ha⟩ := h.ex
    have : accA r w = false := firstW_none h.gr h.gr.s_lt e (by rw [h.eL]; exact hw)
    rw [ha] at this; cases this
  · exact ⟨u, firstOut_some (dchk_iff.2 h.gr) e⟩
/-! ### the closed fact -/
end Go.Proofs.YtbciefeipiphiaaDoor.Su

/- The walk of gate.New. Gates to which letters are offered: stilewardlaw4.gated. Gates, for the laws: the closed fact of a gate of few; what one asks of a gate. -/
import Derived.Test.YtbciefeipiphiaaGateW
import Derived.Test.YtbciefeipiphiaaSafeL
import Derived.Test.YtbciefeipiphiaaDfaV
import Derived.Test.YtbciefeipiphiaaFew
import Derived.Deep.RegionHeld3

namespace Go.Proofs.Ytbciefeipiphiaa.Ga
open Go.RowKit Go.IntWalk Go.Proofs.Ytbciefeipiphiaa.Wd Go.Proofs.Ytbciefeipiphiaa.Wo Go.Proofs.Ytbciefeipiphiaa.Df Go.Proofs.Ytbciefeipiphiaa.Rc Go.Proofs.Ytbciefeipiphiaa.Sm Go.Proofs.Ytbciefeipiphiaa.Sa

theorem dnew_on {w w' w2 : World} {x : Value} {d : Aut} (h : DfaNew w w' x d) (hb : Below w'.heap.size w' w2) : DfaNew w w2 x d := by
  obtain ⟨nv, fv, rs, h1, h2, h3, h4⟩ := h
  exact ⟨nv, fv, rs, h1, h2, h3.on hb, h4⟩
theorem class_le (d : Aut) : classA d ≤ 3 := by unfold classA clsN; rcases begunB d with _ | _ <;> rcases goesB d with _ | _ <;> decide
set_option maxRecDepth 100000 in
set_option maxHeartbeats 2000000 in
theorem gnew_ok (v : Value) (d : Aut) (w : World) (h : DfaAt w w.heap.size v d) (hg : GGood d) :
    Calls Try.prog 16 #[v] w fun e w' => Hid (∃ g, e = .returned (.tuple #[.pointer (some ⟨g, 0, none⟩), .nilIface]) ∧ GateW w w' g d (gate0 d) [] []) := by
  have HV := h
  obtain ⟨L, s, A, c, F, cf, rfl, h⟩ := h
  obtain ⟨w1, hw1, hB1, hX, hd1⟩ := box_dfa w h
  have HB := Lib.hid hB1
  have HX := Lib.hid hX
  have HD := Lib.hid hd1
  have HV := Lib.hid (HV.on hB1)
  have HW := Lib.hid hw1
  have hc0 := hX.c0
  have hc1 := hX.c1
  have hc2 := hX.c2
  have hc3 := hX.c3
  have hz : dchk d = 0 := dchk_iff.2 hg.good
  have HC := Lib.hid (fun v W (hA : DfaAt W W.heap.size v d) => cls_gives (E := .nilIface) hA (clsOut_ok hg.good) rfl)
  have HY := Lib.hid (fun v W (hA : DfaAt W W.heap.size v d) => copy_ok v d W hA hz)
  obtain ⟨q, rfl⟩ : ∃ q : Nat, s = (q : Int) := ⟨s.toNat, by have := hg.good.st.1; rw [h.es] at this; omega⟩
  have HFin : Hid (d.fin[q]? = some true) := by
    have h1 := hg.good.fin_at hg.good.s_lt
    rw [h.es, Int.toNat_natCast] at h1
    have h2 : accA d [] = true := hg.empty
    have h3 : accA d [] = finA d d.s.toNat := rfl
    rw [h3, h.es, Int.toNat_natCast] at h2
    rw [h2] at h1
    exact h1
  have hk : classA d = 1 ∨ classA d = 3 := by
    have h1 := (class_odd d).2 ((begunB_iff hg.good).2 hg.safe)
    have h2 := class_le d
    omega
  clear h hd1 hw1 hX hB1 hz hg
  generalize classA d = k at *
  generalize hn : d.next.length = n at *
  obtain ⟨m, hm⟩ : ∃ m, d.fin.length = m := ⟨_, rfl⟩
  rw [hm] at HW HX HV hc3
  rw [hm]
  have HM := Lib.hid hm
  clear hn hm
  rcases hk with rfl | rfl
  all_goals as_aux_lemma =>
    go_enter Try.func16, Try.ntmps16
    go_wp2_with fail
    rw [← HW.out]
    clear HW
    refine (HC.out _ _ HV.out).mono ?_
    rintro e w2 ⟨rfl, hb⟩
    have HX := Lib.hid (HX.out.on hb)
    have HD := Lib.hid (HD.out.on hb)
    have HV := Lib.hid (HV.out.on hb)
    have HB := Lib.hid (HB.out.trans (hb.mono HB.out.size))
    clear hb hc0 hc1 hc2 hc3 HC
    have hc0 := HX.out.c0
    have hc1 := HX.out.c1
    have hc2 := HX.out.c2
    have hc3 := HX.out.c3
    obtain ⟨ad, rfl, _, hcell, hym⟩ := HD.out.fins.at_ HFin.out
    rw [HM.out] at hym
    go_wp2_with fail
    refine (HY.out _ _ HV.out).mono ?_
    rintro e w3 he
    obtain ⟨x, rfl, nv, fv, rs, rfl, hrs⟩ := he.out
    have HO : Hid (DfaNew w2 w3 (.agg #[.int .i64 d.L, .int .i64 d.s, nv, fv]) d) := ⟨_, _, _, rfl, hrs⟩
    obtain ⟨A', c', hA', _⟩ := hrs.2.1.form (e := eRows nv (rs.map (·.1))) (by simp)
    obtain ⟨F', k', hF', _⟩ := hrs.2.1.form (e := eBools fv d.fin) (by simp)
    simp only [eRows, eBools] at hA' hF'
    subst hA' hF'
    generalize (rs.map (·.1)).length = n2 at *
    generalize d.fin.length = m2 at *
    have hE := (gate_new (dnew_on HO.out (below_alloc w3 (.cells #[.int .i64 d.L, .int .i64 d.s, .slice A' n2 c', .slice F' m2 k'] 25))))
    rw [show (w3.alloc (.cells #[.int .i64 d.L, .int .i64 d.s, .slice A' n2 c', .slice F' m2 k'] 25)).heap.size = w3.heap.size + 1 by simp] at hE
    have HE := Lib.hid hE
    clear he hrs hc0 hc1 hc2 hc3 HX HD HV hcell hym HY HO hE
    go_wp2
    go_ret2
    exact ⟨_, rfl, HE.out.base HB.out⟩
set_option maxRecDepth 100000 in
set_option maxHeartbeats 2000000 in
theorem gnew_bad (v : Value) (d : Aut) (w : World) (h : DfaAt w w.heap.size v d) (hg : gchk d ≠ 0) :
    Calls Try.prog 16 #[v] w fun e w' => Hid (e = .returned (.tuple #[.pointer none, errV (gchk d)])) ∧ Below w.heap.size w w' := by
  have HV := h
  obtain ⟨L, s, A, c, F, cf, rfl, h⟩ := h
  obtain ⟨w1, hw1, hB1, hX, hd1⟩ := box_dfa w h
  have HB := Lib.hid hB1
  have HX := Lib.hid hX
  have HD := Lib.hid hd1
  have HV := Lib.hid (HV.on hB1)
  have HW := Lib.hid hw1
  have hc0 := hX.c0
  have hc1 := hX.c1
  have hc2 := hX.c2
  have hc3 := hX.c3
  rcases g1 : dchk d with _ | e0
  · have hd := dchk_iff.1 g1
    have HC := Lib.hid (fun v W (hA : DfaAt W W.heap.size v d) => cls_gives (E := .nilIface) hA (clsOut_ok hd) rfl)
    obtain ⟨q, rfl⟩ : ∃ q : Nat, s = (q : Int) := ⟨s.toNat, by have := hd.st.1; rw [h.es] at this; omega⟩
    have hfin := hd.fin_at hd.s_lt
    have hst : d.s.toNat = q := by rw [h.es, Int.toNat_natCast]
    rw [hst] at hfin
    have hem : accA d [] = finA d q := by rw [← hst]; rfl
    have h3 := class_le d
    by_cases hev : classA d % 2 = 0
    · have HG : Hid (gchk d = 3) := by unfold gchk Hid; rw [if_neg (by omega), if_pos hev]
      have hk : classA d = 0 ∨ classA d = 2 := by omega
      clear h hd1 hw1 hX hB1 g1 hg hfin hem hst h3 hev
      generalize classA d = k at *
      generalize d.next.length = n at *
      generalize d.fin.length = m at *
      rcases hk with rfl | rfl
      all_goals as_aux_lemma =>
        go_enter Try.func16, Try.ntmps16
        go_wp2_with fail
        rw [← HW.out]
        clear HW
        refine (HC.out _ _ HV.out).mono ?_
        rintro e w2 ⟨rfl, hb⟩
        have HB := Lib.hid (HB.out.trans (hb.mono HB.out.size))
        clear hb hc0 hc1 hc2 hc3 HC HX HD HV
        go_wp2
        go_ret2
        exact ⟨by rw [HG.out]; rfl, HB.out⟩
    · have hk : classA d = 1 ∨ classA d = 3 := by omega
      have hf : finA d q = false := by
        rcases hf : finA d q with _ | _
        · rfl
        · exfalso; apply hg; unfold gchk; rw [if_neg (by omega), if_neg hev, if_neg (by rw [hem, hf]; decide)]
      have HG : Hid (gchk d = 8) := by unfold gchk Hid; rw [if_neg (by omega), if_neg hev, if_pos (by rw [hem]; exact hf)]
      rw [hf] at hfin
      have HFin := Lib.hid hfin
      clear h hd1 hw1 hX hB1 g1 hg hfin hem hst h3 hev hf
      generalize classA d = k at *
      generalize hn : d.next.length = n at *
      obtain ⟨m, hm⟩ : ∃ m, d.fin.length = m := ⟨_, rfl⟩
      rw [hm] at HW HX HV hc3
      rw [hm]
      have HM := Lib.hid hm
      clear hn hm
      rcases hk with rfl | rfl
      all_goals as_aux_lemma =>
        go_enter Try.func16, Try.ntmps16
        go_wp2_with fail
        rw [← HW.out]
        clear HW
        refine (HC.out _ _ HV.out).mono ?_
        rintro e w2 ⟨rfl, hb⟩
        have HX := Lib.hid (HX.out.on hb)
        have HD := Lib.hid (HD.out.on hb)
        have HB := Lib.hid (HB.out.trans (hb.mono HB.out.size))
        clear hb hc0 hc1 hc2 hc3 HC HV
        have hc1 := HX.out.c1
        have hc3 := HX.out.c3
        obtain ⟨ad, rfl, _, hcell, hym⟩ := HD.out.fins.at_ HFin.out
        rw [HM.out] at hym
        go_wp2
        go_ret2
        exact ⟨by rw [HG.out]; rfl, HB.out⟩
  · have HC := Lib.hid (fun v W (hA : DfaAt W W.heap.size v d) => cls_gives (E := errI ((e0 + 1 : Nat) : Int)) hA (clsOut_bad (by omega)) (by rw [g1]; rfl))
    have HG : Hid (gchk d = e0 + 1) := by unfold gchk Hid; rw [if_pos (by omega), g1]
    clear h hd1 hw1 hX hB1 g1 hg HD
    generalize d.next.length = n at *
    generalize d.fin.length = m at *
    generalize hE : ((e0 + 1 : Nat) : Int) = E at *
    have HE := Lib.hid hE
    clear hE
    go_enter Try.func16, Try.ntmps16
    go_wp2_with fail
    rw [← HW.out]
    clear HW
    refine (HC.out _ _ HV.out).mono ?_
    rintro e w2 ⟨rfl, hb⟩
    have HB := Lib.hid (HB.out.trans (hb.mono HB.out.size))
    clear hb hc0 hc1 hc2 hc3 HC HX HV
    go_wp2
    go_ret2
    exact ⟨by rw [HG.out, errV_succ, HE.out]; rfl, HB.out⟩
end Go.Proofs.Ytbciefeipiphiaa.Ga

namespace Go.Proofs.Ytbciefeipiphiaa.Ga
open Go.RowKit Go.IntWalk Go.Proofs.Ytbciefeipiphiaa.Wd Go.Proofs.Ytbciefeipiphiaa.Wo Go.Proofs.Ytbciefeipiphiaa.Df Go.Proofs.Ytbciefeipiphiaa.Rc Go.Proofs.Ytbciefeipiphiaa.Sm Go.Proofs.Ytbciefeipiphiaa.Sa

theorem offer_len (d : Aut) (g : Gt) (a : Int) : (offer d g a).2.2.out.length ≤ g.out.length + 1 := by
  rcases offer_ways d g a with ⟨_, e⟩ | ⟨_, _, e⟩ | ⟨_, _, _, e⟩ | ⟨_, _, _, _, e⟩ | ⟨_, _, _, _, e⟩ <;> rw [e] <;> simp
theorem offers_len (d : Aut) (l : List Int) (g : Gt) : (offers d g l).out.length ≤ g.out.length + l.length := by
  induction l generalizing g with
  | nil => simp [offers]
  | cons a l ih =>
    have h1 := ih (offer d g a).2.2
    have h2 := offer_len d g a
    have e : offers d g (a :: l) = offers d (offer d g a).2.2 l := rfl
    rw [e, List.length_cons]
    omega
theorem offer_err {d : Aut} {g : Gt} {a : Int} (h : g.out.length < 80) : (offer d g a).1 = if isL d a = true then 0 else 1 := by
  rcases offer_ways d g a with ⟨h1, e⟩ | ⟨h1, _, e⟩ | ⟨h1, _, h8, e⟩ | ⟨h1, _, _, _, e⟩ | ⟨h1, _, _, _, e⟩ <;> rw [e, h1]
  · rfl
  · rfl
  · omega
  · rfl
  · rfl
theorem lets_take (d : Aut) (l : List Int) {k : Nat} (hk : k < l.length) : lets d (l.take (k + 1)) = lets d (l.take k) ++ (if isL d l[k] then [l[k]] else []) := by rw [← lets_snoc, List.take_append_getElem]
section
variable {w0 w w' : World} {g : Nat} {d : Aut} {G : Gt} {nv fv pv : Value} {rs : List (Value × List Int)} {es fs : List Ent} {e e' : Ent}
theorem GateV.front (h : GateV w0 w g d G nv fv pv rs (e :: es) fs) : Own w0 w (e :: eGate g [.int .i64 d.L, .int .i64 d.s, nv, fv, pv, .bool G.shut] :: eInts pv G.out :: es) (eRows nv (rs.map (·.1)) :: eBools fv d.fin :: (eEach rs ++ fs)) := h.own.three
theorem GateV.swap (h : GateV w0 w g d G nv fv pv rs es fs) (h2 : Own w0 w' (e' :: eGate g [.int .i64 d.L, .int .i64 d.s, nv, fv, pv, .bool G.shut] :: eInts pv G.out :: es) (eRows nv (rs.map (·.1)) :: eBools fv d.fin :: (eEach rs ++ fs))) : GateV w0 w' g d G nv fv pv rs (e' :: es) fs :=
  ⟨h.next, h.small, h.sL, h.ss, h.nil0, h2.three'⟩
theorem GateV.tail (h : GateV w0 w g d G nv fv pv rs (e :: es) fs) : GateV w0 w g d G nv fv pv rs es fs := ⟨h.next, h.small, h.sL, h.ss, h.nil0, h.own.three.tail⟩
theorem GateW.tail (h : GateW w0 w g d G (e :: es) fs) : GateW w0 w g d G es fs := by
  obtain ⟨nv, fv, pv, rs, h⟩ := h
  exact ⟨nv, fv, pv, rs, h.tail⟩
theorem GateW.with_nil (h : GateW w0 w g d G es fs) : GateW w0 w g d G (eInts (.slice none 0 0) [] :: es) fs := by
  obtain ⟨nv, fv, pv, rs, h⟩ := h
  exact ⟨nv, fv, pv, rs, h.swap (h.own.nil 3 1)⟩
theorem GateW.ints {x : Value} {l : List Int} (h : GateW w0 w g d G es fs) (hm : eInts x l ∈ es) (hs : ∀ y ∈ l, Small y) : ∃ A cap, x = .slice A l.length cap ∧ l.length ≤ cap ∧ IntsAt w w.heap.size A l := by
  obtain ⟨nv, fv, pv, rs, h⟩ := h
  obtain ⟨A, cap, e, h1, _, h2⟩ := own_ints_at h.own (v := x) (l := l) (List.mem_append_left _ (List.mem_cons_of_mem _ (List.mem_cons_of_mem _ hm))) hs
  exact ⟨A, cap, e, h1, h2⟩
theorem GateW.join {es1 fs1 : List Ent} (h : GateW w0 w g d G es fs) (h1 : Own w w' es1 fs1) : GateW w0 w' g d G (es1 ++ es) (fs1 ++ fs) := by
  obtain ⟨nv, fv, pv, rs, h⟩ := h
  exact ⟨nv, fv, pv, rs, h.join h1⟩
end
end Go.Proofs.Ytbciefeipiphiaa.Ga

namespace Go.Proofs.Ytbciefeipiphiaa.Ga
open Go.RowKit Go.IntWalk Go.Proofs.Ytbciefeipiphiaa.Wd Go.Proofs.Ytbciefeipiphiaa.Wo Go.Proofs.Ytbciefeipiphiaa.Df Go.Proofs.Ytbciefeipiphiaa.Rc Go.Proofs.Ytbciefeipiphiaa.Sm Go.Proofs.Ytbciefeipiphiaa.Sa

/-- Number i, which only reads, is taken first; its slot is told. -/
theorem wpAnyH_takeD {P : Program} {md : Region.Mode} {ops : Array Oper} {Q : Exit → Act → World → Prop} {S : World → Prop} {i : Nat} {oi : Oper} (D : Option Tmp) {v : Value} {fuel : Nat} {listed : Array Bool} {a : Act} {w : World} (hi : ops[i]? = some oi) (hD : oi.dst = D)
    (hs : Region.noSelect ops = true) (hf : Region.free md ops listed i = true) (hr : (Region.ready md ops listed).contains i = true) (hQ : ∀ c a w, Q (.panic c) (a.put D v) w → Q (.panic c) a w) (hy : YieldsIf P ops S oi v a) (hS : S w)
    (h : wpAnyH P md ops Q S fuel (listed.setIfInBounds i true) (a.put D v) w) : wpAnyH P md ops Q S (fuel + 1) listed a w := by
  subst hD
  exact wpAnyH_take hi hs hf hr hQ hy hS h
theorem few_gate : GGood fewA := ⟨few_good, (begunB_iff few_good).1 ((class_odd fewA).1 (by rw [few_class])), by decide +kernel⟩
def fewG : Gt := ⟨2, [1, 0, 1], true⟩
set_option maxRecDepth 100000 in
theorem few_offers : offers fewA (gate0 fewA) [1, 0, 1, 1, 0] = fewG ∧ lets fewA [1, 0, 1, 1, 0] = [1, 0, 1, 1, 0] := ⟨by kernel_rfl, by kernel_rfl⟩
theorem gok_few : Gok fewA fewG := by
  have h := gok_offers (gok_start few_gate) [1, 0, 1, 1, 0]
  rw [few_offers.1] at h
  exact h
/-- What passed is a list. -/
def OutAt (w w' : World) (e : Ending) (l : List Int) : Prop := ∃ A c, e = .returned (.slice A l.length c) ∧ Hid (IntsAt w' w'.heap.size A l) ∧ Hid (l.length ≤ c) ∧ Below w.heap.size w w'
/-- A gate whose offers are over: who made it is of no account. -/
def GateR (w : World) (g : Nat) (d : Aut) (G : Gt) : Prop := ∃ w0 es fs, GateW w0 w g d G es fs
theorem GateR.on {w w' : World} {g : Nat} {d : Aut} {G : Gt} (h : GateR w g d G) (hb : Below w.heap.size w w') : GateR w' g d G := by
  obtain ⟨w0, es, fs, h⟩ := h
  exact ⟨w0, es, fs, h.on hb⟩
theorem five_at (w : World) : IntsAt (w.alloc (.cells #[.int .i64 1, .int .i64 0, .int .i64 1, .int .i64 1, .int .i64 0] 3)) (w.alloc (.cells #[.int .i64 1, .int .i64 0, .int .i64 1, .int .i64 1, .int .i64 0] 3)).heap.size (some ⟨w.heap.size, 0, none⟩) [1, 0, 1, 1, 0] :=
  lit_ints w [1, 0, 1, 1, 0] (by intro x hx; simp only [List.mem_cons, List.not_mem_nil, or_false] at hx; rcases hx with rfl | rfl | rfl | rfl | rfl <;> exact ⟨by decide, by decide⟩) (by decide)
theorem three_at (w : World) : IntsAt (w.alloc (.cells #[.int .i64 1, .int .i64 0, .int .i64 1] 3)) (w.alloc (.cells #[.int .i64 1, .int .i64 0, .int .i64 1] 3)).heap.size (some ⟨w.heap.size, 0, none⟩) [1, 0, 1] :=
  lit_ints w [1, 0, 1] (by intro x hx; simp only [List.mem_cons, List.not_mem_nil, or_false] at hx; rcases hx with rfl | rfl | rfl <;> exact ⟨by decide, by decide⟩) (by decide)
/-! ### beginnings of lists -/
theorem ints_take' {w : World} {B : Nat} {A : Option Addr} {z : List Int} (h : IntsAt w B A z) (k : Nat) : IntsAt w B A (z.take k) :=
  ⟨fun j u hj => h.1 j u (by
    rw [List.map_take] at hj
    rw [List.getElem?_take] at hj
    split at hj
    · exact hj
    · simp at hj), fun x hx => h.2 x (List.mem_of_mem_take hx)⟩
/-! ### words that are accepted -/
theorem acc_word {d : Aut} (hd : Df.Good d) {l : List Int} (hw : Word d.L l) (hl : l.length ≤ 80) : accErr d l = 0 ∧ accOut d l = accA d l := by
  have h1 : accErr d l = 0 := accErr_ok hd ⟨⟨hd.l1, hd.l6⟩, hl, hw⟩
  exact ⟨h1, by unfold accOut; rw [if_pos h1]⟩
theorem acc_is {v : Value} {d : Aut} {Z : Option Addr} {cz : Nat} {l : List Int} {W : World} (h : DfaAt W W.heap.size v d) (hZ : IntsAt W W.heap.size Z l) (hd : Df.Good d) (hw : Word d.L l) (hl : l.length ≤ 80) :
    Calls Try.prog 11 #[v, .slice Z l.length cz] W fun e w' => e = .returned (.tuple #[.bool (accA d l), .nilIface]) ∧ Below W.heap.size W w' :=
  (acc_any v d Z cz l W h hZ (by omega)).mono fun e w' ⟨he, hb⟩ => by
    obtain ⟨h1, h2⟩ := acc_word hd hw hl
    rw [h1, h2] at he
    exact ⟨he.out, hb⟩
/-- Of a word's beginning. -/
theorem acc_upto {v : Value} {d : Aut} {Z : Option Addr} {cz k : Nat} {l : List Int} {W : World} (h : DfaAt W W.heap.size v d) (hZ : IntsAt W W.heap.size Z l) (hd : Df.Good d) (hw : Word d.L l) (hl : l.length ≤ 80) (hk : k ≤ l.length) :
    Calls Try.prog 11 #[v, .slice Z k cz] W fun e w' => e = .returned (.tuple #[.bool (accA d (l.take k)), .nilIface]) ∧ Below W.heap.size W w' := by
  have h1 := acc_is (cz := cz) h (ints_take' hZ k) hd (word_take hw k) (by rw [List.length_take]; omega)
  rwa [List.length_take, Nat.min_eq_left hk] at h1
theorem rstill_gives {w : World} {g : Nat} {d : Aut} {G : Gt} {a : Int} (h : GateR w g d G) (hd : Df.Good d) (hs : G.shut = true) (ha : Small a) :
    Calls Try.prog 17 #[.pointer (some ⟨g, 0, none⟩), .int .i64 a] w fun e w' => e = .returned (.tuple #[.bool false, errV (if isL d a = true then 0 else 1)]) ∧ Below w.heap.size w w' := by
  obtain ⟨w0, es, fs, h⟩ := h
  exact (offer_still w0 w g d G es fs a h hd hs ha).mono fun e w' ⟨h1, h2⟩ => ⟨h1.out, h2⟩
/-- Is there a gate? -/
theorem gnew_gives {v : Value} {d : Aut} {W : World} (h : DfaAt W W.heap.size v d) {k : Nat} {E : Value} (hr : gchk d = k) (hE : errV k = E) :
    Calls Try.prog 16 #[v] W fun e w' => ∃ p, e = .returned (.tuple #[.pointer p, E]) ∧ Below W.heap.size W w' := by
  subst hE hr
  by_cases hg : gchk d = 0
  · exact (gnew_ok v d W h (gchk_iff.1 hg)).mono fun e w' he => by
      obtain ⟨g, rfl, hG⟩ := he.out
      exact ⟨_, by rw [hg]; rfl, hG.below⟩
  · exact (gnew_bad v d W h hg).mono fun e w' ⟨h1, h2⟩ => ⟨_, h1.out, h2⟩
theorem acc_none {v : Value} {d : Aut} {W : World} (h : DfaAt W W.heap.size v d) : Calls Try.prog 11 #[v, .slice none 0 0] W fun e w' => e = .returned (.tuple #[.bool (accOut d []), errV (dchk d)]) ∧ Below W.heap.size W w' :=
  (acc_any v d none 0 [] W h (IntsAt.nil W W.heap.size none) (by simp)).mono fun e w' ⟨he, hb⟩ => by
    have e1 : accErr d [] = dchk d := by
      unfold accErr
      split
      · rfl
      · have hd := dchk_iff.1 (by omega : dchk d = 0)
        rw [chk_iff.2 ⟨⟨hd.l1, hd.l6⟩, by simp, fun a ha => by simp at ha⟩]; omega
    rw [e1] at he
    exact ⟨he.out, hb⟩
/-! ### a gate of which only what passed is asked -/
def GateO (w : World) (g : Nat) (l : List Int) : Prop := ∃ d G, GateR w g d G ∧ Df.Good d ∧ Gok d G ∧ G.out = l
theorem GateO.on {w w' : World} {g : Nat} {l : List Int} (h : GateO w g l) (hb : Below w.heap.size w w') : GateO w' g l := by
  obtain ⟨d, G, h1, h2⟩ := h
  exact ⟨d, G, h1.on hb, h2⟩
theorem lets_same {a b : Aut} (h : a.L = b.L) (l : List Int) : lets a l = lets b l := by unfold lets isL; rw [h]
end Go.Proofs.Ytbciefeipiphiaa.Ga

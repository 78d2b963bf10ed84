/- Automata in many states that a call makes: structs, rows of moves. The walks of package nfa's Mirror and Of. The walk of package nfa's Of. -/
import Derived.Test.YtloihkoamccacaaGreatDoorNfaS
import Derived.Test.YtloihkoamccacaaGreatDoorDfaP
import Derived.Test.YtloihkoamccacaaGreatDoorRegL
import Derived.Handy
import Derived.Deep.Light
import Derived.Test.YtloihkoamccacaaGreatDoorDfaW

namespace Go.Proofs.YtloihkoamccacaaGreatDoor.Nf
open Go.RowKit Go.IntWalk Go.Proofs.YtloihkoamccacaaGreatDoor.Wd Go.Proofs.YtloihkoamccacaaGreatDoor.Wo Go.Proofs.YtloihkoamccacaaGreatDoor.Df

/-! ### the struct, in a block of its own -/
def eNfa (g : Nat) (l : List Value) : Ent := ⟨42, 5, .slice (some ⟨g, 0, none⟩) 1 1, 1, l⟩
theorem own_nfa_new {w0 w : World} {es fs : List Ent} (h : Own w0 w es fs) (a b c d e : Value) : Own w0 (w.alloc (.cells #[a, b, c, d, e] 42)) (eNfa w.heap.size [a, b, c, d, e] :: es) fs :=
  h.lit _ 5 1 #[a, b, c, d, e] rfl (by simp [maxLen])
theorem ncell {w0 w : World} {es fs : List Ent} (h : Own w0 w es fs) {g : Nat} {l : List Value} (he : eNfa g l ∈ es ++ fs) {j : Nat} {u : Value} (hj : l[j]? = some u) : w.cell? ⟨g, j, none⟩ = some u ∧ w.frozen? ⟨g, j, none⟩ = false := h.cell he hj
theorem nset {w0 w : World} {es fs : List Ent} {g : Nat} {l : List Value} (h : Own w0 w (eNfa g l :: es) fs) (j : Nat) (u : Value) : Own w0 (w.setCell ⟨g, j, none⟩ u) (eNfa g (l.set j u) :: es) fs := h.set j u
abbrev zero5 : List Value := [.int .i64 0, .int .i64 0, .slice none 0 0, .slice none 0 0, .slice none 0 0]
theorem results_nfa {fn : Func} {t m : Tmp} (h : fn.results = #[.cell t 42, .tmp m]) (tmps : Array Value) {w : World} {g : Nat} {v0 v1 v2 v3 v4 : Value} (hp : tmps.getD t undef = .pointer (some ⟨g, 0, none⟩))
    (c0 : w.cell? ⟨g, 0, none⟩ = some v0) (c1 : w.cell? ⟨g, 1, none⟩ = some v1) (c2 : w.cell? ⟨g, 2, none⟩ = some v2) (c3 : w.cell? ⟨g, 3, none⟩ = some v3) (c4 : w.cell? ⟨g, 4, none⟩ = some v4) :
    (results fn tmps).run Tryz.prog w = .ok (.tuple #[.agg #[v0, v1, v2, v3, v4], tmps.getD m undef]) w := by
  have hp' : tmps[t]?.getD undef = .pointer (some ⟨g, 0, none⟩) := by simpa using hp
  simp [results, h, hp', go_sem, c0, c1, c2, c3, c4]
/-- Five stores into the result's own block. -/
theorem into5 {w1 wr w2 : World} {gr : Nat} {l : List Value} {es fs : List Ent} (h : Own w1 wr (eNfa gr l :: es) fs) (hl : l.length = 5) (a b c d e : Value)
    (hw : w2 = ((((wr.setCell ⟨gr, 0, none⟩ a).setCell ⟨gr, 1, none⟩ b).setCell ⟨gr, 2, none⟩ c).setCell ⟨gr, 3, none⟩ d).setCell ⟨gr, 4, none⟩ e) :
    Own w1 w2 (eNfa gr [a, b, c, d, e] :: es) fs ∧ w2.cell? ⟨gr, 0, none⟩ = some a ∧ w2.cell? ⟨gr, 1, none⟩ = some b ∧ w2.cell? ⟨gr, 2, none⟩ = some c ∧ w2.cell? ⟨gr, 3, none⟩ = some d ∧ w2.cell? ⟨gr, 4, none⟩ = some e := by
  subst hw
  match l, hl with
  | [x0, x1, x2, x3, x4], _ =>
    have h2 : Own w1 _ (eNfa gr [a, b, c, d, e] :: es) fs := nset (nset (nset (nset (nset h 0 a) 1 b) 2 c) 3 d) 4 e
    exact ⟨h2, (ncell (l := [a, b, c, d, e]) h2 (by simp) rfl).1, (ncell (l := [a, b, c, d, e]) h2 (by simp) rfl).1, (ncell (l := [a, b, c, d, e]) h2 (by simp) rfl).1, (ncell (l := [a, b, c, d, e]) h2 (by simp) rfl).1, (ncell (l := [a, b, c, d, e]) h2 (by simp) rfl).1⟩

/-! ### rows of moves -/
def eMoves (v : Value) (l : List Mv) : Ent := ⟨85, 3, v, l.length, mcells l⟩
theorem infoMove : (Tryz.prog.info? 85).map (fun i => (i.zero, i.size, i.bytes)) = some (some (.agg #[.int .i64 0, .int .i64 0, .int .i64 0]), 3, 24) := by kernel_rfl
theorem own_moves {w0 w : World} {es fs : List Ent} (h : Own w0 w es fs) {v : Value} {l : List Mv} (he : eMoves v l ∈ es ++ fs) (hs : ∀ m ∈ l, MvSmall m) :
    ∃ A cap, v = .slice A l.length cap ∧ l.length ≤ cap ∧ cap ≤ 9223372036854775807 ∧ MovesAt w w.heap.size A l := by
  obtain ⟨A, cap, hv, h1, h2, _⟩ := h.form he
  simp only [eMoves] at hv h1
  subst hv
  unfold maxLen at h2
  exact ⟨A, cap, rfl, h1, h2, h.cells he, hs⟩
/-- 'append(l, m)' of one move. -/
theorem own_move {w0 w : World} {ops : Array Oper} {rest : List Oper} {o : Oper} {a : Act} {Q : Exit → Act → World → Prop} (hgd : o.guard = none) (s x : Operand)
    (ho : o.op = .call { callee := .builtin .append, args := #[s, x], argTypes := #[40, 40] })
    {v : Value} {l : List Mv} {es fs : List Ent} (hs : a.eval s = v) (h : Own w0 w (eMoves v l :: es) fs) {m : Mv} {t' : TypeId} (hx : a.eval x = .slice (some ⟨w.heap.size, 0, none⟩) 1 1) (hb : l.length < 1099511627776)
    (hK : ∀ g cap w', Own w0 w' (eMoves (.slice (some ⟨g, 0, none⟩) (l.length + 1) cap) (l ++ [m]) :: es) fs → wpList Tryz.prog ops Q rest (a.put o.dst (.slice (some ⟨g, 0, none⟩) (l.length + 1) cap)) w') :
    wpList Tryz.prog ops Q (o :: rest) a (w.alloc (.cells #[.int .i64 m.1, .int .i64 m.2.1, .int .i64 m.2.2] t')) := by
  refine own_append_lit hgd s x _ ho Tryz.underlying40 infoMove rfl (by decide) hs h hx rfl (fun u hu => by simp at hu; rcases hu with rfl | rfl | rfl <;> rfl) (by omega) (by unfold maxLen; omega) (by omega) ?_
  intro g cap w' ho
  refine hK g cap w' ?_
  unfold eMoves
  rw [mcells_append]
  simpa [mcells, i64] using ho
/-- What is owned reads as such an automaton. -/
theorem own_reads {w0 w : World} {es fs : List Ent} {sv mv fv : Value} {a : Nfa} (h : Own w0 w es fs) (h1 : eInts sv a.st ∈ es ++ fs) (h2 : eMoves mv a.mv ∈ es ++ fs) (h3 : eInts fv a.fin ∈ es ++ fs)
    (hL : Small a.L) (hn : Small a.n) (hs : ∀ x ∈ a.st, Small x) (hm : ∀ m ∈ a.mv, MvSmall m) (hf : ∀ x ∈ a.fin, Small x) : NfaAt w w.heap.size (.agg #[.int .i64 a.L, .int .i64 a.n, sv, mv, fv]) a := by
  obtain ⟨A, c, rfl, a1, a2, a3⟩ := own_ints_at h h1 hs
  obtain ⟨M, cm, rfl, m1, m2, m3⟩ := own_moves h h2 hm
  obtain ⟨F, cf, rfl, f1, f2, f3⟩ := own_ints_at h h3 hf
  exact ⟨a.L, a.n, A, c, M, cm, F, cf, rfl, rfl, rfl, hL, hn, a1, a2, m1, m2, f1, f2, a3, m3, f3⟩
/-- An automaton in rows that are done. -/
def HeldN (fs : List Ent) (v : Value) (a : Nfa) : Prop :=
  ∃ sv mv fv, v = .agg #[.int .i64 a.L, .int .i64 a.n, sv, mv, fv] ∧ eInts sv a.st ∈ fs ∧ eMoves mv a.mv ∈ fs ∧ eInts fv a.fin ∈ fs ∧ Small a.L ∧ Small a.n ∧ (∀ x ∈ a.st, Small x) ∧ (∀ m ∈ a.mv, MvSmall m) ∧ (∀ x ∈ a.fin, Small x)
theorem HeldN.more {fs fs' : List Ent} {v : Value} {a : Nfa} (h : HeldN fs v a) (hs : ∀ e ∈ fs, e ∈ fs') : HeldN fs' v a := by
  obtain ⟨sv, mv, fv, e, h1, h2, h3, h4⟩ := h
  exact ⟨sv, mv, fv, e, hs _ h1, hs _ h2, hs _ h3, h4⟩
theorem HeldN.at_ {w0 w : World} {es fs : List Ent} {v : Value} {a : Nfa} (h : HeldN fs v a) (ho : Own w0 w es fs) : NfaAt w w.heap.size v a := by
  obtain ⟨sv, mv, fv, rfl, h1, h2, h3, h4, h5, h6, h7, h8⟩ := h
  exact own_reads ho (List.mem_append_right _ h1) (List.mem_append_right _ h2) (List.mem_append_right _ h3) h4 h5 h6 h7 h8
/-- A call has made an automaton. -/
def NfaOwn (w0 w : World) (v : Value) (a : Nfa) : Prop := ∃ fs, Own w0 w [] fs ∧ HeldN fs v a
theorem NfaOwn.base {w w0 w1 : World} {v : Value} {a : Nfa} (h : NfaOwn w0 w1 v a) (hb : Below w.heap.size w w0) : NfaOwn w w1 v a := by
  obtain ⟨fs, h1, h2⟩ := h
  exact ⟨fs, h1.base hb, h2⟩
theorem NfaOwn.at_ {w0 w : World} {v : Value} {a : Nfa} (h : NfaOwn w0 w v a) : NfaAt w w.heap.size v a := by
  obtain ⟨fs, h1, h2⟩ := h
  exact h2.at_ h1
theorem own_all {w0 w : World} : ∀ {es fs : List Ent}, Own w0 w es fs → ∃ fs', Own w0 w [] fs' ∧ ∀ e ∈ es ++ fs, e ∈ fs'
  | [], fs, h => ⟨fs, h, fun e he => by simpa using he⟩
  | x :: es, fs, h => by
    obtain ⟨fs', h1, h2⟩ := own_all h.fin
    exact ⟨fs', h1, fun e he => h2 e (by simp at he ⊢; rcases he with h | h | h <;> simp [h])⟩
theorem own_own {w0 w : World} {es fs : List Ent} {sv mv fv : Value} {a : Nfa} (h : Own w0 w es fs) (h1 : eInts sv a.st ∈ es ++ fs) (h2 : eMoves mv a.mv ∈ es ++ fs) (h3 : eInts fv a.fin ∈ es ++ fs)
    (hL : Small a.L) (hn : Small a.n) (hs : ∀ x ∈ a.st, Small x) (hm : ∀ m ∈ a.mv, MvSmall m) (hf : ∀ x ∈ a.fin, Small x) : NfaOwn w0 w (.agg #[.int .i64 a.L, .int .i64 a.n, sv, mv, fv]) a := by
  obtain ⟨fs', k1, k2⟩ := own_all h
  exact ⟨fs', k1, sv, mv, fv, rfl, k2 _ h1, k2 _ h2, k2 _ h3, hL, hn, hs, hm, hf⟩
set_option linter.unusedSimpArgs false in
theorem nfaOwn_zero {w0 w : World} (hb : Below w0.heap.size w0 w) : NfaOwn w0 w (.agg #[.int .i64 0, .int .i64 0, .slice none 0 0, .slice none 0 0, .slice none 0 0]) zeroN :=
  own_own (a := zeroN) (((((own_start w0).on hb).nil 3 1).nil 85 3)) (sv := .slice none 0 0) (mv := .slice none 0 0) (fv := .slice none 0 0) (by simp [zeroN, eInts, eMoves, mcells]) (by simp [zeroN, eInts, eMoves, mcells]) (by simp [zeroN, eInts, eMoves, mcells])
    ⟨by decide, by decide⟩ ⟨by decide, by decide⟩ (by simp [zeroN]) (by simp [zeroN]) (by simp [zeroN])
theorem good_mvsmall {a : Nfa} (g : Good a) : ∀ m ∈ a.mv, MvSmall m := fun m hm => by
  have h := g.mv m hm
  have := g.n40; have := g.l6
  obtain ⟨⟨h1, h2⟩, ⟨h3, h4⟩, h5, h6⟩ := h
  exact ⟨⟨by omega, by omega⟩, ⟨by omega, by omega⟩, ⟨by omega, by omega⟩⟩
theorem good_st {a : Nfa} (g : Good a) : ∀ x ∈ a.st, Small x := fun x hx => by
  have h := g.st x hx
  have := g.n40
  exact ⟨by have := h.1; omega, by have := h.2; omega⟩
theorem good_fin {a : Nfa} (g : Good a) : ∀ x ∈ a.fin, Small x := fun x hx => by
  have h := g.fin x hx
  have := g.n40
  exact ⟨by have := h.1; omega, by have := h.2; omega⟩
theorem good_nL {a : Nfa} (g : Good a) : Small a.L ∧ Small a.n := ⟨⟨by have := g.l1; omega, by have := g.l6; omega⟩, ⟨by have := g.n1; omega, by have := g.n40; omega⟩⟩

/-! ### slices.Clone of any slice of ints -/
set_option maxRecDepth 100000 in
theorem clone_all (A : Option Addr) (c : Nat) (l : List Int) (w : World) (hA : IntsAt w w.heap.size A l) (hl : l.length ≤ 17592186044416) :
    Calls Tryz.prog 38 #[.slice A l.length c] w fun e w' => Hid (∃ v', e = .returned v' ∧ Own w w' [eInts v' l] []) := by
  rcases A with _ | ad
  · have hl0 := hA.none_nil
    subst hl0
    clear hA hl
    have hnil : ∀ W, (binOp .eql 39 (.slice none 0 c) (.slice none 0 0)).run Tryz.prog W = .ok (.bool true) W := fun W => Lib.run_eql_slice_nil W _ _ _ _ _ _ _ Tryz.underlying39
    have HO : Hid (Own w w [eInts (.slice none 0 0) []] []) := (own_start w).nil 3 1
    show Calls Tryz.prog _ #[.slice none 0 c] w _
    go_enter Tryz.func38, Tryz.ntmps38
    go_wp2
    go_ret
    exact ⟨_, rfl, HO.out⟩
  · have HA := Lib.hid hA
    clear hA
    have HN := Lib.hid (Own.to_nums (l := []) (v := .slice (some ⟨w.heap.size, 0, none⟩) 0 0) (Own.lit (own_start w) 3 1 0 #[] rfl (by simp [maxLen])))
    have hnil : ∀ W, (binOp .eql 39 (.slice (some ad) l.length c) (.slice none 0 0)).run Tryz.prog W = .ok (.bool false) W := fun W => Lib.run_eql_slice_nil W _ _ _ _ _ _ _ Tryz.underlying39
    go_enter Tryz.func38, Tryz.ntmps38
    go_wp2_with (at_builtin; refine app_ints (acc := []) rfl _ _ rfl rfl HN.out rfl (HA.out.on (below_alloc _ _)) (by simpa using hl) ?_)
    intro v' w2 hn
    have HO2 : Hid (Own w w2 [eInts v' l] []) := Own.of_nums (by simpa using hn)
    clear hn HN
    go_wp2
    go_ret
    exact ⟨_, rfl, HO2.out⟩
end Go.Proofs.YtloihkoamccacaaGreatDoor.Nf

namespace Go.Proofs.YtloihkoamccacaaGreatDoor.Wd
open Go.RowKit Go.IntWalk
end Go.Proofs.YtloihkoamccacaaGreatDoor.Wd
namespace Go.Proofs.YtloihkoamccacaaGreatDoor.Nf
open Go.RowKit Go.IntWalk Go.Proofs.YtloihkoamccacaaGreatDoor.Wd Go.Proofs.YtloihkoamccacaaGreatDoor.Wo Go.Proofs.YtloihkoamccacaaGreatDoor.Df

def mirOut (a : Nfa) : Nfa × Nat := if nchk a = 0 then (mir a, 0) else (zeroN, nchk a)
theorem mirOut_ok {a : Nfa} (h : nchk a = 0) : mirOut a = (mir a, 0) := if_pos h
theorem mirOut_bad {a : Nfa} (h : nchk a ≠ 0) : mirOut a = (zeroN, nchk a) := if_neg h
set_option linter.unusedSimpArgs false in
set_option maxRecDepth 100000 in
set_option maxHeartbeats 4000000 in
theorem mirror_any (v : Value) (a : Nfa) (w : World) (h : NfaAt w w.heap.size v a) :
    Calls Tryz.prog 13 #[v] w fun e w' => Hid (∃ x, e = .returned (.tuple #[x, errV (mirOut a).2]) ∧ NfaAt w' w'.heap.size x (mirOut a).1) ∧ Below w.heap.size w w' := by
  have HV := h
  obtain ⟨L, n, A, ca, M, cm, F, cf, rfl, h⟩ := h
  obtain ⟨w1, hw1, hB1, hs1, hX1, hd1⟩ := box_nfa w h
  have hres := below_alloc w1 (.cells #[.int .i64 0, .int .i64 0, .slice none 0 0, .slice none 0 0, .slice none 0 0] 42)
  have HB := Lib.hid hB1
  have HW := Lib.hid hw1
  have HBox := Lib.hid (hX1.on hres)
  have HN := Lib.hid ((HV.on hB1).on hres)
  have HI := Lib.hid (hd1.on hres)
  have HI1 := Lib.hid hd1
  have HX1 := Lib.hid hX1
  have HC := Lib.hid (ncheck_any _ a _ HN.out)
  have HO := Lib.hid (own_nfa_new (own_start w1) (.int .i64 0) (.int .i64 0) (.slice none 0 0) (.slice none 0 0) (.slice none 0 0))
  rw [hs1] at HO
  have HE2 : Hid (a.L = L ∧ a.n = n) := ⟨h.eL, h.en⟩
  have hc0 := HBox.out.c0
  have hc1 := HBox.out.c1
  have hc2 := HBox.out.c2
  have hc3 := HBox.out.c3
  have hc4 := HBox.out.c4
  clear h hw1 hB1 hs1 hX1 hd1 HV hres HN
  rcases g1 : nchk a with _ | e0
  · have HG : Hid (Good a) := nchk_iff.1 g1
    rw [g1] at HC
    have HMo := Lib.hid (mirOut_ok g1)
    have hm240 := HG.out.m240
    have HCF0 := Lib.hid (fun W (hA : IntsAt W W.heap.size F a.fin) => clone_all F cf a.fin W hA (by have := HG.out.f40; omega))
    have HCS0 := Lib.hid (fun W (hA : IntsAt W W.heap.size A a.st) => clone_all A ca a.st W hA (by have := HG.out.s40; omega))
    clear g1
    generalize hkm : a.mv.length = km at *
    have HKm := Lib.hid hkm
    clear hkm
    generalize a.st.length = ks at *
    generalize a.fin.length = kf at *
    go_enter Tryz.func13, Tryz.ntmps13
    go_wp2_with fail
    rw [← HW.out]
    clear HW
    refine HC.out.mono ?_
    rintro e w2 ⟨he, hb⟩
    obtain rfl : e = .returned .nilIface := he.out
    have HBox := Lib.hid (HBox.out.on hb)
    have HI := Lib.hid (HI.out.on hb)
    have HO2 := Lib.hid (HO.out.on hb)
    clear hb HC he hc0 hc1 hc2 hc3 hc4 HO
    have HCF := Lib.hid (fun W (hW : Below w2.heap.size w2 W) => HCF0.out W (HI.out.on hW).fin)
    have HCS := Lib.hid (fun W (hW : Below w2.heap.size w2 W) => HCS0.out W (HI.out.on hW).st)
    have HK : Hid (∀ W, Below w2.heap.size w2 W → W.cell? ⟨w.heap.size, 0, none⟩ = some (.int .i64 L) ∧ W.cell? ⟨w.heap.size, 1, none⟩ = some (.int .i64 n) ∧ W.cell? ⟨w.heap.size, 2, none⟩ = some (.slice A ks ca) ∧ W.cell? ⟨w.heap.size, 3, none⟩ = some (.slice M km cm) ∧ W.cell? ⟨w.heap.size, 4, none⟩ = some (.slice F kf cf)) := fun W hW => box_agg (HBox.out.on hW)
    obtain ⟨gr, hgr⟩ : ∃ gr, gr = w.heap.size + 1 := ⟨_, rfl⟩
    rw [← hgr] at HO2
    rw [← hgr]
    clear hgr HCF0 HCS0
    go_wp2_with fail
    -- the struct is made beside what was owned: its own base is the world ahead of it
    have HO3 : Hid (Own w2 w2.drew [] []) := (own_start w2).on (Below.refl _ _).drew
    go_cut [5] (fun pv wc => Hid (∃ gm sv fv, pv = .pointer (some ⟨gm, 0, none⟩) ∧ Own w2 wc [eNfa gm [.int .i64 L, .int .i64 n, fv, .slice none 0 0, sv]] [eInts fv a.fin, eInts sv a.st]))
    case first =>
      refine wp_region_Z (fun W => W.cell? ⟨w.heap.size, 0, none⟩ = some (.int .i64 L) ∧ W.cell? ⟨w.heap.size, 1, none⟩ = some (.int .i64 n) ∧ W.cell? ⟨w.heap.size, 2, none⟩ = some (.slice A ks ca) ∧ W.cell? ⟨w.heap.size, 3, none⟩ = some (.slice M km cm) ∧ W.cell? ⟨w.heap.size, 4, none⟩ = some (.slice F kf cf)) 12 (by kernel_rfl) (HK.out _ (Below.refl _ _).drew) (fun hHeld => ?_)
      refine wpZ_take (i := 0) (v := ?_) rfl (by kernel_rfl) (by kernel_rfl) (by kernel_rfl) (by kernel_rfl) (fun _ _ _ h => h) (Or.inl ⟨by rfl, ?_⟩) hHeld ?_
      rotate_left
      · (go_light; intro w9 hSw; (try dsimp only at hSw); go_simp; try with_reducible rfl)
      try simp only [Act.put, List.setIfInBounds_toArray, List.set_cons_zero, List.set_cons_succ]
      refine wpZ_take (i := 1) (v := ?_) rfl (by kernel_rfl) (by kernel_rfl) (by kernel_rfl) (by kernel_rfl) (fun _ _ _ h => h) (Or.inl ⟨by rfl, ?_⟩) hHeld ?_
      rotate_left
      · (go_light; intro w9 hSw; (try dsimp only at hSw); go_simp; try with_reducible rfl)
      try simp only [Act.put, List.setIfInBounds_toArray, List.set_cons_zero, List.set_cons_succ]
      refine wpZ_take (i := 2) (v := ?_) rfl (by kernel_rfl) (by kernel_rfl) (by kernel_rfl) (by kernel_rfl) (fun _ _ _ h => h) (Or.inl ⟨by rfl, ?_⟩) hHeld ?_
      rotate_left
      · (go_light; intro w9 hSw; (try dsimp only at hSw); go_simp; try with_reducible rfl)
      try simp only [Act.put, List.setIfInBounds_toArray, List.set_cons_zero, List.set_cons_succ]
      refine wpZ_take (i := 3) (v := ?_) rfl (by kernel_rfl) (by kernel_rfl) (by kernel_rfl) (by kernel_rfl) (fun _ _ _ h => h) (Or.inl ⟨by rfl, ?_⟩) hHeld ?_
      rotate_left
      · (go_light; intro w9 hSw; (try dsimp only at hSw); go_simp; try with_reducible rfl)
      try simp only [Act.put, List.setIfInBounds_toArray, List.set_cons_zero, List.set_cons_succ]
      refine wpZ_take (i := 4) (v := ?_) rfl (by kernel_rfl) (by kernel_rfl) (by kernel_rfl) (by kernel_rfl) (fun _ _ _ h => h) (Or.inl ⟨by rfl, ?_⟩) hHeld ?_
      rotate_left
      · (go_light; intro w9 hSw; (try dsimp only at hSw); go_simp; try with_reducible rfl)
      try simp only [Act.put, List.setIfInBounds_toArray, List.set_cons_zero, List.set_cons_succ]
      refine wpZ_take (i := 5) (v := ?_) rfl (by kernel_rfl) (by kernel_rfl) (by kernel_rfl) (by kernel_rfl) (fun _ _ _ h => h) (Or.inl ⟨by rfl, ?_⟩) hHeld ?_
      rotate_left
      · (go_light; intro w9 hSw; (try dsimp only at hSw); go_simp; try with_reducible rfl)
      try simp only [Act.put, List.setIfInBounds_toArray, List.set_cons_zero, List.set_cons_succ]
      refine wpZ_take (i := 7) (v := ?_) rfl (by kernel_rfl) (by kernel_rfl) (by kernel_rfl) (by kernel_rfl) (fun _ _ _ h => h) (Or.inl ⟨by rfl, ?_⟩) hHeld ?_
      rotate_left
      · (go_light; intro w9 hSw; (try dsimp only at hSw); go_simp; try with_reducible rfl)
      try simp only [Act.put, List.setIfInBounds_toArray, List.set_cons_zero, List.set_cons_succ]
      refine wpZ_take (i := 8) (v := ?_) rfl (by kernel_rfl) (by kernel_rfl) (by kernel_rfl) (by kernel_rfl) (fun _ _ _ h => h) (Or.inl ⟨by rfl, ?_⟩) hHeld ?_
      rotate_left
      · (go_light; intro w9 hSw; (try dsimp only at hSw); go_simp; try with_reducible rfl)
      try simp only [Act.put, List.setIfInBounds_toArray, List.set_cons_zero, List.set_cons_succ]
      refine wpZ_pair (i := 6) (j := 11) rfl rfl (by kernel_rfl) (fun K hK => ?_) (fun K hK => ?_)
      · go_simp
        refine (HCF.out _ (HO3.out.below)).mono ?_
        rintro e w6 he
        obtain ⟨fv, h6, ho6⟩ := he.out
        subst h6
        obtain ⟨A6, k6, h7, _⟩ := ho6.form (e := eInts fv a.fin) (by simp)
        simp only [eInts] at h7
        subst h7
        have HO6 := Lib.hid (HO3.out.join ho6.fin)
        clear he ho6
        try simp only []
        refine hK.out _ _ (fun _ => HK.out _ (HO6.out.below)) (fun hHeld9 => ?_)
        replace hHeld := hHeld9 (by decide)
        clear hHeld9
        clear hK K
        try simp only [Act.put, List.setIfInBounds_toArray, List.set_cons_zero, List.set_cons_succ]
        refine wpZ_pair (i := 9) (j := 11) rfl rfl (by kernel_rfl) (fun K hK => ?_) (fun K hK => ?_)
        · go_simp
          refine (HCS.out _ (HO6.out.below)).mono ?_
          rintro e w9 he
          obtain ⟨sv, h9, ho9⟩ := he.out
          subst h9
          obtain ⟨A9, k9, h7, _⟩ := ho9.form (e := eInts sv a.st) (by simp)
          simp only [eInts] at h7
          subst h7
          have HO9 := Lib.hid (HO6.out.join ho9.fin)
          clear he ho9
          try simp only []
          refine hK.out _ _ (fun _ => HK.out _ (HO9.out.below)) (fun hHeld9 => ?_)
          replace hHeld := hHeld9 (by decide)
          clear hHeld9
          clear hK K
          try simp only [Act.put, List.setIfInBounds_toArray, List.set_cons_zero, List.set_cons_succ]
          refine wpZ_take (i := 10) (v := ?_) rfl (by kernel_rfl) (by kernel_rfl) (by kernel_rfl) (by kernel_rfl) (fun _ _ _ h => h) (Or.inl ⟨by rfl, ?_⟩) hHeld ?_
          rotate_left
          · (go_light; intro w9 hSw; (try dsimp only at hSw); go_simp; try with_reducible rfl)
          try simp only [Act.put, List.setIfInBounds_toArray, List.set_cons_zero, List.set_cons_succ]
          refine wpZ_one (i := 11) rfl (by kernel_rfl) (fun K hK => ?_)
          go_simp
          have HO11 := Lib.hid (own_nfa_new HO9.out (.int .i64 0) (.int .i64 0) (.slice none 0 0) (.slice none 0 0) (.slice none 0 0))
          refine hK.out _ _ (fun _ => HK.out _ (HO11.out.below)) (fun hHeld9 => ?_)
          replace hHeld := hHeld9 (by decide)
          clear hHeld9
          clear hK K
          try simp only [Act.put, List.setIfInBounds_toArray, List.set_cons_zero, List.set_cons_succ]
          refine wpZ_one (i := 12) rfl (by kernel_rfl) (fun K hK => ?_)
          obtain ⟨hr0, hf0⟩ := ncell HO11.out (g := w9.heap.size) (l := zero5) (j := 0) (by simp) rfl
          obtain ⟨hr1, hf1⟩ := ncell HO11.out (g := w9.heap.size) (l := zero5) (j := 1) (by simp) rfl
          obtain ⟨hr2, hf2⟩ := ncell HO11.out (g := w9.heap.size) (l := zero5) (j := 2) (by simp) rfl
          obtain ⟨hr3, hf3⟩ := ncell HO11.out (g := w9.heap.size) (l := zero5) (j := 3) (by simp) rfl
          obtain ⟨hr4, hf4⟩ := ncell HO11.out (g := w9.heap.size) (l := zero5) (j := 4) (by simp) rfl
          go_simp
          refine hK.out _ _ (fun k => absurd rfl k) (fun _ => ?_)
          clear hK K
          try simp only [Act.put, List.setIfInBounds_toArray, List.set_cons_zero, List.set_cons_succ]
          refine wpZ_done (by kernel_rfl) ?_ _
          have hend := own_nfa_new HO9.out (.int .i64 L) (.int .i64 n) (.slice A6 a.fin.length k6) (.slice none 0 0) (.slice A9 a.st.length k9)
          have HEnd := Lib.hid hend
          clear hend hHeld
          go_wp2_with fail
          go_meet
          exact ⟨_, _, _, rfl, HEnd.out.weak (fun e he => by simp only [List.mem_cons, List.mem_append, List.not_mem_nil, or_false] at he ⊢; rcases he with rfl | rfl <;> simp)⟩
        · go_simp
          have HO11 := Lib.hid (own_nfa_new HO6.out (.int .i64 0) (.int .i64 0) (.slice none 0 0) (.slice none 0 0) (.slice none 0 0))
          refine hK.out _ _ (fun _ => HK.out _ (HO11.out.below)) (fun hHeld9 => ?_)
          replace hHeld := hHeld9 (by decide)
          clear hHeld9
          clear hK K
          try simp only [Act.put, List.setIfInBounds_toArray, List.set_cons_zero, List.set_cons_succ]
          refine wpZ_one (i := 9) rfl (by kernel_rfl) (fun K hK => ?_)
          go_simp
          refine (HCS.out _ (HO11.out.below)).mono ?_
          rintro e w9 he
          obtain ⟨sv, h9, ho9⟩ := he.out
          subst h9
          obtain ⟨A9, k9, h7, _⟩ := ho9.form (e := eInts sv a.st) (by simp)
          simp only [eInts] at h7
          subst h7
          have HO9 := Lib.hid (HO11.out.join ho9.fin)
          clear he ho9
          try simp only []
          refine hK.out _ _ (fun _ => HK.out _ (HO9.out.below)) (fun hHeld9 => ?_)
          replace hHeld := hHeld9 (by decide)
          clear hHeld9
          clear hK K
          try simp only [Act.put, List.setIfInBounds_toArray, List.set_cons_zero, List.set_cons_succ]
          refine wpZ_take (i := 10) (v := ?_) rfl (by kernel_rfl) (by kernel_rfl) (by kernel_rfl) (by kernel_rfl) (fun _ _ _ h => h) (Or.inl ⟨by rfl, ?_⟩) hHeld ?_
          rotate_left
          · (go_light; intro w9 hSw; (try dsimp only at hSw); go_simp; try with_reducible rfl)
          try simp only [Act.put, List.setIfInBounds_toArray, List.set_cons_zero, List.set_cons_succ]
          refine wpZ_one (i := 12) rfl (by kernel_rfl) (fun K hK => ?_)
          obtain ⟨hr0, hf0⟩ := ncell HO9.out (g := w6.heap.size) (l := zero5) (j := 0) (by simp) rfl
          obtain ⟨hr1, hf1⟩ := ncell HO9.out (g := w6.heap.size) (l := zero5) (j := 1) (by simp) rfl
          obtain ⟨hr2, hf2⟩ := ncell HO9.out (g := w6.heap.size) (l := zero5) (j := 2) (by simp) rfl
          obtain ⟨hr3, hf3⟩ := ncell HO9.out (g := w6.heap.size) (l := zero5) (j := 3) (by simp) rfl
          obtain ⟨hr4, hf4⟩ := ncell HO9.out (g := w6.heap.size) (l := zero5) (j := 4) (by simp) rfl
          go_simp
          refine hK.out _ _ (fun k => absurd rfl k) (fun _ => ?_)
          clear hK K
          try simp only [Act.put, List.setIfInBounds_toArray, List.set_cons_zero, List.set_cons_succ]
          refine wpZ_done (by kernel_rfl) ?_ _
          have hend := (into5 (l := zero5) HO9.out rfl (.int .i64 L) (.int .i64 n) (.slice A6 a.fin.length k6) (.slice none 0 0) (.slice A9 a.st.length k9) rfl).1
          have HEnd := Lib.hid hend
          clear hend hHeld
          go_wp2_with fail
          go_meet
          exact ⟨_, _, _, rfl, HEnd.out.weak (fun e he => by simp only [List.mem_cons, List.mem_append, List.not_mem_nil, or_false] at he ⊢; rcases he with rfl | rfl <;> simp)⟩
      · go_simp
        have HO11 := Lib.hid (own_nfa_new HO3.out (.int .i64 0) (.int .i64 0) (.slice none 0 0) (.slice none 0 0) (.slice none 0 0))
        refine hK.out _ _ (fun _ => HK.out _ (HO11.out.below)) (fun hHeld9 => ?_)
        replace hHeld := hHeld9 (by decide)
        clear hHeld9
        clear hK K
        try simp only [Act.put, List.setIfInBounds_toArray, List.set_cons_zero, List.set_cons_succ]
        refine wpZ_one (i := 6) rfl (by kernel_rfl) (fun K hK => ?_)
        go_simp
        refine (HCF.out _ (HO11.out.below)).mono ?_
        rintro e w6 he
        obtain ⟨fv, h6, ho6⟩ := he.out
        subst h6
        obtain ⟨A6, k6, h7, _⟩ := ho6.form (e := eInts fv a.fin) (by simp)
        simp only [eInts] at h7
        subst h7
        have HO6 := Lib.hid (HO11.out.join ho6.fin)
        clear he ho6
        try simp only []
        refine hK.out _ _ (fun _ => HK.out _ (HO6.out.below)) (fun hHeld9 => ?_)
        replace hHeld := hHeld9 (by decide)
        clear hHeld9
        clear hK K
        try simp only [Act.put, List.setIfInBounds_toArray, List.set_cons_zero, List.set_cons_succ]
        refine wpZ_one (i := 9) rfl (by kernel_rfl) (fun K hK => ?_)
        go_simp
        refine (HCS.out _ (HO6.out.below)).mono ?_
        rintro e w9 he
        obtain ⟨sv, h9, ho9⟩ := he.out
        subst h9
        obtain ⟨A9, k9, h7, _⟩ := ho9.form (e := eInts sv a.st) (by simp)
        simp only [eInts] at h7
        subst h7
        have HO9 := Lib.hid (HO6.out.join ho9.fin)
        clear he ho9
        try simp only []
        refine hK.out _ _ (fun _ => HK.out _ (HO9.out.below)) (fun hHeld9 => ?_)
        replace hHeld := hHeld9 (by decide)
        clear hHeld9
        clear hK K
        try simp only [Act.put, List.setIfInBounds_toArray, List.set_cons_zero, List.set_cons_succ]
        refine wpZ_take (i := 10) (v := ?_) rfl (by kernel_rfl) (by kernel_rfl) (by kernel_rfl) (by kernel_rfl) (fun _ _ _ h => h) (Or.inl ⟨by rfl, ?_⟩) hHeld ?_
        rotate_left
        · (go_light; intro w9 hSw; (try dsimp only at hSw); go_simp; try with_reducible rfl)
        try simp only [Act.put, List.setIfInBounds_toArray, List.set_cons_zero, List.set_cons_succ]
        refine wpZ_one (i := 12) rfl (by kernel_rfl) (fun K hK => ?_)
        obtain ⟨hr0, hf0⟩ := ncell HO9.out (g := w2.heap.size) (l := zero5) (j := 0) (by simp) rfl
        obtain ⟨hr1, hf1⟩ := ncell HO9.out (g := w2.heap.size) (l := zero5) (j := 1) (by simp) rfl
        obtain ⟨hr2, hf2⟩ := ncell HO9.out (g := w2.heap.size) (l := zero5) (j := 2) (by simp) rfl
        obtain ⟨hr3, hf3⟩ := ncell HO9.out (g := w2.heap.size) (l := zero5) (j := 3) (by simp) rfl
        obtain ⟨hr4, hf4⟩ := ncell HO9.out (g := w2.heap.size) (l := zero5) (j := 4) (by simp) rfl
        go_simp
        refine hK.out _ _ (fun k => absurd rfl k) (fun _ => ?_)
        clear hK K
        try simp only [Act.put, List.setIfInBounds_toArray, List.set_cons_zero, List.set_cons_succ]
        refine wpZ_done (by kernel_rfl) ?_ _
        have hend := (into5 (l := zero5) HO9.out rfl (.int .i64 L) (.int .i64 n) (.slice A6 a.fin.length k6) (.slice none 0 0) (.slice A9 a.st.length k9) rfl).1
        have HEnd := Lib.hid hend
        clear hend hHeld
        go_wp2_with fail
        go_meet
        exact ⟨_, _, _, rfl, HEnd.out.weak (fun e he => by simp only [List.mem_cons, List.mem_append, List.not_mem_nil, or_false] at he ⊢; rcases he with rfl | rfl <;> simp)⟩
    case rest =>
      obtain ⟨gm, sv, fv, hpv, hown⟩ := hcut.out
      subst hpv
      obtain ⟨A6, k6, h7, _⟩ := hown.form (e := eInts fv a.fin) (by simp)
      simp only [eInts] at h7
      subst h7
      obtain ⟨A9, k9, h7, _⟩ := hown.form (e := eInts sv a.st) (by simp)
      simp only [eInts] at h7
      subst h7
      have HM0 : Hid (Own w1 wc [eMoves (.slice none 0 0) ((a.mv.take 0).map turn), eNfa gm [.int .i64 L, .int .i64 n, .slice A6 a.fin.length k6, .slice none 0 0, .slice A9 a.st.length k9], eNfa gr zero5] [eInts (.slice A6 a.fin.length k6) a.fin, eInts (.slice A9 a.st.length k9) a.st]) :=
        (HO2.out.join hown).nil 85 3
      have hbm := HM0.out.below
      have hc3 := (HX1.out.on hbm).c3
      clear hcut hown hbm HO2 HBox HI HCF HCS HK HO3
      generalize a.fin.length = kf' at *
      generalize a.st.length = ks' at *
      go_wp2
      clear hc3
      go_loopw [28] (fun i wr => ∃ (k : Nat), k ≤ km ∧ i = .int .i64 k ∧ Hid (∃ mvv, Own w1 wr [eMoves mvv ((a.mv.take k).map turn), eNfa gm [.int .i64 L, .int .i64 n, .slice A6 kf' k6, mvv, .slice A9 ks' k9], eNfa gr zero5] [eInts (.slice A6 kf' k6) a.fin, eInts (.slice A9 ks' k9) a.st])) (fun i _ => km - (intOf i).toNat)
      case atStart => exact ⟨0, by omega, rfl, _, HM0.out⟩
      case round =>
        clear HM0
        obtain ⟨k, hk, rfl, HMx⟩ := hrel
        obtain ⟨mvv, hmo⟩ := HMx.out
        by_cases hlt : k < km
        · as_aux_lemma =>
          have hlt' : k < a.mv.length := by rw [HKm.out]; exact hlt
          obtain ⟨ad, e, hadb, m0, m1, m2⟩ := (HI1.out.on hmo.below).mv.at_ (List.getElem?_eq_getElem hlt')
          subst e
          obtain ⟨⟨x, y, z⟩, hq⟩ : ∃ q, q = a.mv[k] := ⟨_, rfl⟩
          have HNx : Hid ((a.mv.take (k + 1)).map turn = (a.mv.take k).map turn ++ [(z, y, x)]) := by
            rw [Hid, ← List.take_append_getElem hlt', List.map_append, ← hq]; rfl
          have hlen : ((a.mv.take k).map turn).length < 1099511627776 := by rw [List.length_map, List.length_take]; omega
          rw [← hq] at m0 m1 m2
          simp only at m0 m1 m2
          have HMa := Lib.hid (hmo.alloc (.cells #[.int .i64 x, .int .i64 y, .int .i64 z] 85))
          have HSa : Hid ((wr.alloc (.cells #[.int .i64 x, .int .i64 y, .int .i64 z] 85)).heap.size = wr.heap.size + 1) := by simp [Hid]
          obtain ⟨hg3, hg3f⟩ := ncell hmo (g := gm) (l := [.int .i64 L, .int .i64 n, .slice A6 kf' k6, mvv, .slice A9 ks' k9]) (j := 3) (by simp) rfl
          obtain ⟨hl1, hl2⟩ := hmo.lt (ad := ⟨gm, 0, none⟩) (t := 42) (sz := 5) (n := 1) (cap := 1) (xs := [.int .i64 L, .int .i64 n, .slice A6 kf' k6, mvv, .slice A9 ks' k9]) (by simp [eNfa])
          simp only at hl1 hl2
          clear hq hlt' hmo HMx
          generalize (a.mv.take k).map turn = ms at *
          go_wp2_with (at_builtin; refine own_move (m := (z, y, x)) (by rfl) _ _ (by rfl) (by rfl) HMa.out (by rw [HSa.out]; rfl) hlen ?_)
          intro g8 cap8 w8 ho8
          obtain ⟨hk8, hf8⟩ := ncell ho8 (g := gm) (l := [.int .i64 L, .int .i64 n, .slice A6 kf' k6, mvv, .slice A9 ks' k9]) (j := 3) (by simp) rfl
          have HN1 : Hid (∃ mv', Own w1 (w8.setCell ⟨gm, 3, none⟩ (.slice (some ⟨g8, 0, none⟩) (ms.length + 1) cap8)) [eMoves mv' ((a.mv.take (k + 1)).map turn), eNfa gm [.int .i64 L, .int .i64 n, .slice A6 kf' k6, mv', .slice A9 ks' k9], eNfa gr zero5] [eInts (.slice A6 kf' k6) a.fin, eInts (.slice A9 ks' k9) a.st]) := by
            refine ⟨.slice (some ⟨g8, 0, none⟩) (ms.length + 1) cap8, ?_⟩
            rw [HNx.out]
            exact (nset ho8.two 3 (.slice (some ⟨g8, 0, none⟩) (ms.length + 1) cap8)).two
          clear ho8 HMa hg3 hg3f m0 m1 m2
          go_wp2
          go_roundw
          case rel => exact ⟨k + 1, by omega, by go_num, HN1⟩
          case measure => simp [intOf]; omega
        · as_aux_lemma =>
          have htk : a.mv.take k = a.mv := List.take_of_length_le (by rw [HKm.out]; omega)
          rw [htk] at hmo
          obtain ⟨M8, k8, h7, _⟩ := hmo.form (e := eMoves mvv (a.mv.map turn)) (by simp)
          simp only [eMoves] at h7
          subst h7
          have hG : ∀ j u, ([.int .i64 L, .int .i64 n, .slice A6 kf' k6, .slice M8 (a.mv.map turn).length k8, .slice A9 ks' k9] : List Value)[j]? = some u → wr.cell? ⟨gm, j, none⟩ = some u := fun j u hj => (ncell hmo (g := gm) (by simp) hj).1
          have hg0 := hG 0 _ rfl
          have hg1 := hG 1 _ rfl
          have hg2 := hG 2 _ rfl
          have hg3 := hG 3 _ rfl
          have hg4 := hG 4 _ rfl
          obtain ⟨hr0, hf0⟩ := ncell hmo (g := gr) (l := zero5) (j := 0) (by simp) rfl
          obtain ⟨hr1, hf1⟩ := ncell hmo (g := gr) (l := zero5) (j := 1) (by simp) rfl
          obtain ⟨hr2, hf2⟩ := ncell hmo (g := gr) (l := zero5) (j := 2) (by simp) rfl
          obtain ⟨hr3, hf3⟩ := ncell hmo (g := gr) (l := zero5) (j := 3) (by simp) rfl
          obtain ⟨hr4, hf4⟩ := ncell hmo (g := gr) (l := zero5) (j := 4) (by simp) rfl
          obtain ⟨hend, k0, k1, k2, k3, k4⟩ := into5 (hmo.pull 2 (by simp)) rfl (.int .i64 L) (.int .i64 n) (.slice A6 kf' k6) (.slice M8 (a.mv.map turn).length k8) (.slice A9 ks' k9) rfl
          have HEnd := Lib.hid hend
          have HK5 := Lib.hid (And.intro k0 (And.intro k1 (And.intro k2 (And.intro k3 k4))))
          clear hG hmo HMx hend k0 k1 k2 k3 k4
          generalize (a.mv.map turn).length = mm at *
          go_wp2
          obtain ⟨k0, k1, k2, k3, k4⟩ := HK5.out
          have hgood := mir_good HG.out
          have hrd := own_reads (a := mir a) (sv := .slice A6 kf' k6) (mv := .slice M8 mm k8) (fv := .slice A9 ks' k9) HEnd.out (by simp [mir]) (by simp [mir]) (by simp [mir]) (good_nL hgood).1 (good_nL hgood).2 (good_st hgood) (good_mvsmall hgood) (good_fin hgood)
          have hv : (Value.agg #[.int .i64 (mir a).L, .int .i64 (mir a).n, .slice A6 kf' k6, .slice M8 mm k8, .slice A9 ks' k9]) = .agg #[.int .i64 L, .int .i64 n, .slice A6 kf' k6, .slice M8 mm k8, .slice A9 ks' k9] := by
            rw [← HE2.out.1, ← HE2.out.2]; rfl
          rw [hv] at hrd
          refine bodyPost_ret (results_nfa rfl _ rfl k0 k1 k2 k3 k4) rfl ⟨⟨_, by rw [HMo.out]; rfl, by rw [HMo.out]; exact hrd⟩, HB.out.trans (HEnd.out.below.mono HB.out.size)⟩
  · have HNo := Lib.hid (mirOut_bad (a := a) (by omega))
    rw [g1] at HC HNo
    clear g1 HBox HI HI1 HX1 HE2
    generalize a.st.length = ks at *
    generalize a.mv.length = km at *
    generalize a.fin.length = kf at *
    rw [show errV (e0 + 1) = errI ((e0 + 1 : Nat) : Int) from rfl] at HC
    generalize hE : ((e0 + 1 : Nat) : Int) = E at *
    have HE := Lib.hid hE
    clear hE
    go_enter Tryz.func13, Tryz.ntmps13
    go_wp2_with fail
    rw [← HW.out]
    clear HW
    refine HC.out.mono ?_
    rintro e w2 ⟨he, hb⟩
    obtain rfl : e = .returned (errI E) := he.out
    have HO2 := Lib.hid (HO.out.on hb)
    obtain ⟨hr0, hf0⟩ := ncell HO2.out (g := w.heap.size + 1) (l := zero5) (j := 0) (by simp) rfl
    obtain ⟨hr1, hf1⟩ := ncell HO2.out (g := w.heap.size + 1) (l := zero5) (j := 1) (by simp) rfl
    obtain ⟨hr2, hf2⟩ := ncell HO2.out (g := w.heap.size + 1) (l := zero5) (j := 2) (by simp) rfl
    obtain ⟨hr3, hf3⟩ := ncell HO2.out (g := w.heap.size + 1) (l := zero5) (j := 3) (by simp) rfl
    obtain ⟨hr4, hf4⟩ := ncell HO2.out (g := w.heap.size + 1) (l := zero5) (j := 4) (by simp) rfl
    obtain ⟨hend, k0, k1, k2, k3, k4⟩ := into5 HO2.out rfl (.int .i64 0) (.int .i64 0) (.slice none 0 0) (.slice none 0 0) (.slice none 0 0) rfl
    have HEnd := Lib.hid (HB.out.trans (hend.below.mono HB.out.size))
    have HK5 := Lib.hid (And.intro k0 (And.intro k1 (And.intro k2 (And.intro k3 k4))))
    clear hb HC hc0 hc1 hc2 hc3 hc4 he hend k0 k1 k2 k3 k4
    go_wp2
    obtain ⟨k0, k1, k2, k3, k4⟩ := HK5.out
    refine bodyPost_ret (results_nfa rfl _ rfl k0 k1 k2 k3 k4) rfl ⟨⟨_, by rw [HNo.out, errV_succ, HE.out]; rfl, by rw [HNo.out]; exact nfaAt_zero _ _⟩, HEnd.out⟩
end Go.Proofs.YtloihkoamccacaaGreatDoor.Nf

namespace Go.Proofs.YtloihkoamccacaaGreatDoor.Nf
open Go.RowKit Go.IntWalk Go.Proofs.YtloihkoamccacaaGreatDoor.Wd Go.Proofs.YtloihkoamccacaaGreatDoor.Wo Go.Proofs.YtloihkoamccacaaGreatDoor.Df

def ofOut (d : Aut) : Nfa × Nat := if dchk d = 0 then (ofA d, 0) else (zeroN, dchk d)
theorem ofOut_ok {d : Aut} (h : dchk d = 0) : ofOut d = (ofA d, 0) := if_pos h
theorem ofOut_bad {d : Aut} (h : dchk d ≠ 0) : ofOut d = (zeroN, dchk d) := if_neg h
def mvRow (d : Aut) (q c : Nat) : List Mv := (List.range c).map fun (k : Nat) => ((q : Int), (k : Int), ((Df.step d q k : Nat) : Int))
def mvTo (d : Aut) (s : Nat) : List Mv := (List.range s).flatMap fun (q : Nat) => mvRow d q d.L.toNat
theorem mvRow_zero (d : Aut) (q : Nat) : mvRow d q 0 = [] := rfl
theorem mvRow_succ (d : Aut) (q c : Nat) : mvRow d q (c + 1) = mvRow d q c ++ [((q : Int), (c : Int), ((Df.step d q c : Nat) : Int))] := by unfold mvRow; rw [List.range_succ, List.map_append]; rfl
theorem mvTo_zero (d : Aut) : mvTo d 0 = [] := rfl
theorem mvTo_succ (d : Aut) (s : Nat) : mvTo d (s + 1) = mvTo d s ++ mvRow d s d.L.toNat := by unfold mvTo; rw [List.range_succ, List.flatMap_append]; simp
theorem mvRow_len (d : Aut) (q c : Nat) : (mvRow d q c).length = c := by simp [mvRow]
theorem mvTo_len (d : Aut) : ∀ s, (mvTo d s).length = s * d.L.toNat
  | 0 => by simp [mvTo_zero]
  | s + 1 => by rw [mvTo_succ, List.length_append, mvTo_len d s, mvRow_len, Nat.succ_mul]
def finTo (d : Aut) (s : Nat) : List Int := ((List.range s).filter (finA d)).map fun (q : Nat) => (q : Int)
theorem finTo_hit {d : Aut} {s : Nat} (h : finA d s = true) : finTo d (s + 1) = finTo d s ++ [(s : Int)] := by unfold finTo; rw [List.range_succ, List.filter_append, List.map_append]; simp [h]
theorem finTo_miss {d : Aut} {s : Nat} (h : finA d s = false) : finTo d (s + 1) = finTo d s := by unfold finTo; rw [List.range_succ, List.filter_append, List.map_append]; simp [h]
theorem finTo_len (d : Aut) (s : Nat) : (finTo d s).length ≤ s := by
  unfold finTo
  rw [List.length_map]
  exact Nat.le_trans (List.length_filter_le _ _) (by simp)
theorem ofA_to (d : Aut) : ofA d = ⟨d.L, (d.next.length : Int), [d.s], mvTo d d.next.length, finTo d d.next.length⟩ := rfl
/-- What is made midway: s states are done, of the next one's row c letters. -/
def OfI (w1 wr : World) (gm gr gs : Nat) (L : Int) (N : Nat) (z : Int) (mvv fv : Value) (ms : List Mv) (fs : List Int) : Prop :=
  Own w1 wr [eMoves mvv ms, eInts fv fs, eNfa gm [.int .i64 L, .int .i64 (N : Int), .slice (some ⟨gs, 0, none⟩) 1 1, mvv, fv], eNfa gr zero5] [eInts (.slice (some ⟨gs, 0, none⟩) 1 1) [z]]
set_option maxRecDepth 100000 in
set_option maxHeartbeats 4000000 in
theorem of_any (v : Value) (d : Aut) (w : World) (h : DfaAt w w.heap.size v d) :
    Calls Tryz.prog 12 #[v] w fun e w' => Hid (∃ x, e = .returned (.tuple #[x, errV (ofOut d).2]) ∧ NfaOwn w w' x (ofOut d).1) ∧ Below w.heap.size w w' := by
  have HV := h
  obtain ⟨L, s0, A, c, F, cf, rfl, h⟩ := h
  obtain ⟨w1, hw1, hB1, hX1, hd1⟩ := box_dfa w h
  have hs1 : w1.heap.size = w.heap.size + 1 := by rw [hw1]; simp
  have hres := below_alloc w1 (.cells #[.int .i64 0, .int .i64 0, .slice none 0 0, .slice none 0 0, .slice none 0 0] 42)
  have HB := Lib.hid hB1
  have HW := Lib.hid hw1
  have HX1 := Lib.hid hX1
  have HD1 := Lib.hid hd1
  have HBox := Lib.hid (hX1.on hres)
  have HC0 := (HV.on hB1).on hres
  have HO := Lib.hid (own_nfa_new (own_start w1) (.int .i64 0) (.int .i64 0) (.slice none 0 0) (.slice none 0 0) (.slice none 0 0))
  rw [hs1] at HO
  have HE2 : Hid (d.L = L ∧ d.s = s0) := ⟨h.eL, h.es⟩
  have hc0 := HBox.out.c0
  have hc1 := HBox.out.c1
  have hc2 := HBox.out.c2
  have hc3 := HBox.out.c3
  clear h hw1 hB1 hs1 hX1 hd1 HV hres
  rcases g1 : dchk d with _ | e0
  · have HG : Hid (Df.Good d) := dchk_iff.1 g1
    have HC := Lib.hid (dcheck_ok HC0 g1)
    have HOf := Lib.hid (ofOut_ok g1)
    have h40 := HG.out.n40
    obtain ⟨n, hn⟩ := Int.eq_ofNat_of_zero_le (show 0 ≤ L by have := HG.out.l1; have := HE2.out.1; omega)
    have HL : Hid (d.L = (n : Int) ∧ d.L.toNat = n) := ⟨by rw [HE2.out.1, hn], by rw [HE2.out.1, hn]; rfl⟩
    have hn6 : n ≤ 6 := by have := HG.out.l6; have := HL.out.1; omega
    have hn1 : 1 ≤ n := by have := HG.out.l1; have := HL.out.1; omega
    subst hn
    clear g1 HC0
    generalize hN : d.next.length = N at *
    have HN := Lib.hid hN
    clear hN
    generalize hm : d.fin.length = m at *
    have HM := Lib.hid hm
    clear hm
    go_enter Tryz.func12, Tryz.ntmps12
    go_wp2_with fail
    rw [← HW.out]
    clear HW
    refine HC.out.mono ?_
    rintro e w2 ⟨rfl, hb⟩
    have HBox := Lib.hid (HBox.out.on hb)
    have HO2 := Lib.hid (HO.out.on hb)
    clear hb HC hc0 hc1 hc2 hc3 HO
    have hc0 := HBox.out.c0
    have hc1 := HBox.out.c1
    have hc2 := HBox.out.c2
    have hltb := HBox.out.lt
    obtain ⟨gr, hgr⟩ : ∃ gr, gr = w.heap.size + 1 := ⟨_, rfl⟩
    rw [← hgr] at HO2
    rw [← hgr]
    clear hgr
    have hmade := own_nfa_new ((HO2.out.lit 3 1 1 #[.int .i64 s0] rfl (by simp [maxLen])).fin) (.int .i64 (n : Int)) (.int .i64 (N : Int)) (.slice (some ⟨w2.heap.size, 0, none⟩) 1 1) (.slice none 0 0) (.slice none 0 0)
    rw [show (w2.alloc (.cells #[.int .i64 s0] 3)).heap.size = w2.heap.size + 1 by simp] at hmade
    have HM0 : Hid (OfI w1 ((w2.alloc (.cells #[.int .i64 s0] 3)).alloc (.cells #[.int .i64 (n : Int), .int .i64 (N : Int), .slice (some ⟨w2.heap.size, 0, none⟩) 1 1, .slice none 0 0, .slice none 0 0] 42)) (w2.heap.size + 1) gr w2.heap.size (n : Int) N s0 (.slice none 0 0) (.slice none 0 0) (mvTo d 0) (finTo d 0)) :=
      (hmade.nil 3 1).nil 85 3
    clear hmade HO2
    go_wp2
    clear hc0 hc1 hc2 hltb
    generalize w2.heap.size = gs at *
    generalize gs + 1 = gm at *
    go_loopw [28] (fun i wr => ∃ (k : Nat), k ≤ N ∧ i = .int .i64 k ∧ Hid (∃ mvv fv, OfI w1 wr gm gr gs (n : Int) N s0 mvv fv (mvTo d k) (finTo d k))) (fun i _ => N - (intOf i).toNat)
    case atStart => exact ⟨0, by omega, rfl, _, _, HM0.out⟩
    case round =>
      clear HM0
      obtain ⟨k, hk, rfl, HMx⟩ := hrel
      obtain ⟨mvv, fv, hmo⟩ := HMx.out
      by_cases hlt : k < N
      · as_aux_lemma =>
        obtain ⟨r0, hr0, _, hrl, _, _⟩ := HG.out.at_ (q := k) (a := 0) (by rw [HN.out]; exact hlt) (by have := HL.out.1; omega)
        have hrln : r0.length = n := by have := HL.out.1; omega
        obtain ⟨ad, A', c', rfl, hadb, hcell, hrc, hcc, hri⟩ := HD1.out.rows k r0 hr0
        have hcw := (hmo.below.cell (p := ad.add k) (by rw [Wd.block_add]; exact hadb)).trans hcell
        rw [hrln] at hcw hrc
        have HRow := Lib.hid hri
        have HR0 := Lib.hid hr0
        have HMy : Hid (∃ mvv, OfI w1 wr gm gr gs (n : Int) N s0 mvv fv (mvTo d k ++ mvRow d k 0) (finTo d k)) := ⟨mvv, by rw [mvRow_zero, List.append_nil]; exact hmo⟩
        clear hri hr0 hrl hrln hcell hmo HMx hadb
        go_wp2
        clear hcw
        go_loopw [35] (fun i wi => ∃ (q : Nat), q ≤ n ∧ i = .int .i64 q ∧ Hid (∃ mvv, OfI w1 wi gm gr gs (n : Int) N s0 mvv fv (mvTo d k ++ mvRow d k q) (finTo d k))) (fun i _ => n - (intOf i).toNat)
        case atStart => exact ⟨0, by omega, rfl, HMy⟩
        case round =>
          clear HMy
          obtain ⟨q, hq, rfl, HMz⟩ := hrel
          obtain ⟨mvv, hmo⟩ := HMz.out
          by_cases hqn : q < n
          · as_aux_lemma =>
            obtain ⟨r1, hr1, _, _, hra, _⟩ := HG.out.at_ (q := k) (a := q) (by rw [HN.out]; exact hlt) (by have := HL.out.1; omega)
            obtain rfl := Option.some.inj (HR0.out.symm.trans hr1)
            obtain ⟨ad3, rfl, hadb3, hcell3, _⟩ := HRow.out.get hra
            have hcw := (hmo.below.cell (p := ad3.add q) (by rw [Wd.block_add]; exact hadb3)).trans hcell3
            have HNx : Hid (mvTo d k ++ mvRow d k (q + 1) = (mvTo d k ++ mvRow d k q) ++ [((k : Int), (q : Int), ((Df.step d k q : Nat) : Int))]) := by rw [Hid, mvRow_succ, List.append_assoc]
            have hlen : (mvTo d k ++ mvRow d k q).length < 1099511627776 := by
              rw [List.length_append, mvTo_len, mvRow_len, HL.out.2]
              have : k * n ≤ 40 * 6 := Nat.mul_le_mul (by omega) hn6
              omega
            have HMa := Lib.hid hmo
            obtain ⟨hg3, hg3f⟩ := ncell hmo (g := gm) (l := [.int .i64 (n : Int), .int .i64 (N : Int), .slice (some ⟨gs, 0, none⟩) 1 1, mvv, fv]) (j := 3) (by simp) rfl
            clear hr1 hra hcell3 hadb3 hmo HMz
            generalize Df.step d k q = sk at *
            generalize mvTo d k ++ mvRow d k q = ms at *
            go_wp2_with (at_builtin; refine own_move (m := ((k : Int), (q : Int), (sk : Int))) (by rfl) _ _ (by rfl) (by rfl) HMa.out (by rfl) hlen ?_)
            intro g8 cap8 w8 ho8
            obtain ⟨hk8, hf8⟩ := ncell ho8 (g := gm) (l := [.int .i64 (n : Int), .int .i64 (N : Int), .slice (some ⟨gs, 0, none⟩) 1 1, mvv, fv]) (j := 3) (by simp) rfl
            have HN1 : Hid (∃ mv', OfI w1 (w8.setCell ⟨gm, 3, none⟩ (.slice (some ⟨g8, 0, none⟩) (ms.length + 1) cap8)) gm gr gs (n : Int) N s0 mv' fv (mvTo d k ++ mvRow d k (q + 1)) (finTo d k)) := by
              refine ⟨.slice (some ⟨g8, 0, none⟩) (ms.length + 1) cap8, ?_⟩
              rw [HNx.out]
              exact (nset ho8.three 3 (.slice (some ⟨g8, 0, none⟩) (ms.length + 1) cap8)).three'
            clear ho8 HMa hg3 hg3f hcw
            go_wp2
            go_roundw
            case rel => exact ⟨q + 1, by omega, by go_num, HN1⟩
            case measure => simp [intOf]; omega
          · as_aux_lemma =>
            obtain rfl : q = n := by omega
            have HNx : Hid (mvTo d k ++ mvRow d k q = mvTo d (k + 1)) := by rw [Hid, mvTo_succ, HL.out.2]
            rw [HNx.out] at hmo
            have hfin := HG.out.fin_at (q := k) (by rw [HN.out]; exact hlt)
            obtain ⟨adf, eF, hadf, hcf, hfm⟩ := HD1.out.fins.at_ hfin
            subst eF
            rw [HM.out] at hfm
            have hcw := (hmo.below.cell (p := adf.add k) (by rw [Wd.block_add]; exact hadf)).trans hcf
            have hd3 := (HX1.out.on hmo.below).c3
            have e1 : (k : Int) < (m : Int) := by omega
            have hlf : (finTo d k).length < 17592186044416 := by have := finTo_len d k; omega
            have HMa := Lib.hid hmo
            obtain ⟨hg4, hg4f⟩ := ncell hmo (g := gm) (l := [.int .i64 (q : Int), .int .i64 (N : Int), .slice (some ⟨gs, 0, none⟩) 1 1, mvv, fv]) (j := 4) (by simp) rfl
            clear hcf hfin hadf hmo HMz HNx
            generalize hb : finA d k = b at *
            rcases b with _ | _
            · have HFt := Lib.hid (finTo_miss hb)
              have HN1 : Hid (∃ mvv fv, OfI w1 wr gm gr gs (q : Int) N s0 mvv fv (mvTo d (k + 1)) (finTo d (k + 1))) := ⟨mvv, fv, by rw [HFt.out]; exact HMa.out⟩
              clear HMa hb
              go_wp2
              go_roundw
              case rel => exact ⟨k + 1, by omega, by go_num, HN1⟩
              case measure => simp [intOf]; omega
            · have HFt := Lib.hid (finTo_hit hb)
              have HMb := Lib.hid (HMa.out.re [1, 0, 2, 3] 4 rfl (by decide))
              clear hb HMa
              generalize finTo d k = fs at *
              go_wp2_with (at_builtin; refine own_int (y := (k : Int)) (by rfl) _ _ (by rfl) (by rfl) HMb.out (by rfl) hlf ?_)
              intro g8 cap8 w8 ho8
              obtain ⟨hk8, hf8⟩ := ncell ho8 (g := gm) (l := [.int .i64 (q : Int), .int .i64 (N : Int), .slice (some ⟨gs, 0, none⟩) 1 1, mvv, fv]) (j := 4) (by simp) rfl
              have HN1 : Hid (∃ mvv fv, OfI w1 (w8.setCell ⟨gm, 4, none⟩ (.slice (some ⟨g8, 0, none⟩) (fs.length + 1) cap8)) gm gr gs (q : Int) N s0 mvv fv (mvTo d (k + 1)) (finTo d (k + 1))) := by
                refine ⟨mvv, .slice (some ⟨g8, 0, none⟩) (fs.length + 1) cap8, ?_⟩
                rw [HFt.out]
                exact ((nset ho8.three 4 (.slice (some ⟨g8, 0, none⟩) (fs.length + 1) cap8)).three').two
              clear ho8 HMb hg4 hg4f hcw hd3
              go_wp2
              go_roundw
              case rel => exact ⟨k + 1, by omega, by go_num, HN1⟩
              case measure => simp [intOf]; omega
      · as_aux_lemma =>
        obtain rfl : k = N := by omega
        obtain ⟨M8, k8, h7, _⟩ := hmo.form (e := eMoves mvv (mvTo d k)) (by simp)
        simp only [eMoves] at h7
        subst h7
        obtain ⟨F8, f8, h7, _⟩ := hmo.form (e := eInts fv (finTo d k)) (by simp)
        simp only [eInts] at h7
        subst h7
        have hG : ∀ j u, ([.int .i64 (n : Int), .int .i64 (k : Int), .slice (some ⟨gs, 0, none⟩) 1 1, .slice M8 (mvTo d k).length k8, .slice F8 (finTo d k).length f8] : List Value)[j]? = some u → wr.cell? ⟨gm, j, none⟩ = some u := fun j u hj => (ncell hmo (g := gm) (by simp) hj).1
        have hg0 := hG 0 _ rfl
        have hg1 := hG 1 _ rfl
        have hg2 := hG 2 _ rfl
        have hg3 := hG 3 _ rfl
        have hg4 := hG 4 _ rfl
        obtain ⟨hr0, hf0⟩ := ncell hmo (g := gr) (l := zero5) (j := 0) (by simp) rfl
        obtain ⟨hr1, hf1⟩ := ncell hmo (g := gr) (l := zero5) (j := 1) (by simp) rfl
        obtain ⟨hr2, hf2⟩ := ncell hmo (g := gr) (l := zero5) (j := 2) (by simp) rfl
        obtain ⟨hr3, hf3⟩ := ncell hmo (g := gr) (l := zero5) (j := 3) (by simp) rfl
        obtain ⟨hr4, hf4⟩ := ncell hmo (g := gr) (l := zero5) (j := 4) (by simp) rfl
        obtain ⟨hend, k0, k1, k2, k3, k4⟩ := into5 (hmo.pull 3 (by simp)) rfl (.int .i64 (n : Int)) (.int .i64 (k : Int)) (.slice (some ⟨gs, 0, none⟩) 1 1) (.slice M8 (mvTo d k).length k8) (.slice F8 (finTo d k).length f8) rfl
        have HEnd := Lib.hid hend
        have HK5 := Lib.hid (And.intro k0 (And.intro k1 (And.intro k2 (And.intro k3 k4))))
        have hgood := of_good HG.out
        have hOf : ofA d = ⟨(n : Int), (k : Int), [s0], mvTo d k, finTo d k⟩ := by rw [ofA_to, HL.out.1, HE2.out.2, HN.out]
        have hval : (Value.agg #[.int .i64 (ofA d).L, .int .i64 (ofA d).n, .slice (some ⟨gs, 0, none⟩) 1 1, .slice M8 (mvTo d k).length k8, .slice F8 (finTo d k).length f8]) = .agg #[.int .i64 (n : Int), .int .i64 (k : Int), .slice (some ⟨gs, 0, none⟩) 1 1, .slice M8 (mvTo d k).length k8, .slice F8 (finTo d k).length f8] := by rw [hOf]
        have hrd := own_own (a := ofA d) (sv := .slice (some ⟨gs, 0, none⟩) 1 1) (mv := .slice M8 (mvTo d k).length k8) (fv := .slice F8 (finTo d k).length f8) hend (by rw [hOf]; simp) (by rw [hOf]; simp) (by rw [hOf]; simp) (good_nL hgood).1 (good_nL hgood).2 (good_st hgood) (good_mvsmall hgood) (good_fin hgood)
        rw [hval] at hrd
        have HRd := Lib.hid hrd
        clear hG hmo HMx hend k0 k1 k2 k3 k4 hgood hOf hrd hval
        generalize (mvTo d k).length = mm at *
        generalize (finTo d k).length = ff at *
        go_wp2
        obtain ⟨k0, k1, k2, k3, k4⟩ := HK5.out
        refine bodyPost_ret (results_nfa rfl _ rfl k0 k1 k2 k3 k4) rfl ⟨⟨_, by rw [HOf.out]; rfl, by rw [HOf.out]; exact HRd.out.base HB.out⟩, HB.out.trans (HEnd.out.below.mono HB.out.size)⟩
  · have HNo := Lib.hid (ofOut_bad (d := d) (by omega))
    have HC := Lib.hid (dcheck_bad HC0 g1 rfl)
    rw [g1] at HNo
    clear g1 HBox HX1 HD1 HE2 HC0
    generalize d.next.length = N at *
    generalize d.fin.length = m at *
    generalize hE : ((e0 + 1 : Nat) : Int) = E at *
    have HE := Lib.hid hE
    clear hE
    go_enter Tryz.func12, Tryz.ntmps12
    go_wp2_with fail
    rw [← HW.out]
    clear HW
    refine HC.out.mono ?_
    rintro e w2 ⟨rfl, hb⟩
    have HO2 := Lib.hid (HO.out.on hb)
    obtain ⟨hr0, hf0⟩ := ncell HO2.out (g := w.heap.size + 1) (l := zero5) (j := 0) (by simp) rfl
    obtain ⟨hr1, hf1⟩ := ncell HO2.out (g := w.heap.size + 1) (l := zero5) (j := 1) (by simp) rfl
    obtain ⟨hr2, hf2⟩ := ncell HO2.out (g := w.heap.size + 1) (l := zero5) (j := 2) (by simp) rfl
    obtain ⟨hr3, hf3⟩ := ncell HO2.out (g := w.heap.size + 1) (l := zero5) (j := 3) (by simp) rfl
    obtain ⟨hr4, hf4⟩ := ncell HO2.out (g := w.heap.size + 1) (l := zero5) (j := 4) (by simp) rfl
    obtain ⟨hend, k0, k1, k2, k3, k4⟩ := into5 HO2.out rfl (.int .i64 0) (.int .i64 0) (.slice none 0 0) (.slice none 0 0) (.slice none 0 0) rfl
    have HEnd := Lib.hid (HB.out.trans (hend.below.mono HB.out.size))
    have HK5 := Lib.hid (And.intro k0 (And.intro k1 (And.intro k2 (And.intro k3 k4))))
    clear hb HC hc0 hc1 hc2 hc3 hend k0 k1 k2 k3 k4
    go_wp2
    obtain ⟨k0, k1, k2, k3, k4⟩ := HK5.out
    refine bodyPost_ret (results_nfa rfl _ rfl k0 k1 k2 k3 k4) rfl ⟨⟨_, by rw [HNo.out, errV_succ, HE.out]; rfl, by rw [HNo.out]; exact nfaOwn_zero HEnd.out⟩, HEnd.out⟩
end Go.Proofs.YtloihkoamccacaaGreatDoor.Nf

/- The walks of package mend's newMender. The walk of package mend's first: the first of the words that the cheapest ways make. The walks of package mend's Cost and Mend, and their contracts for laws. Package mend's contracts for laws. -/
import Derived.Test.YtfiknbdpjnpkdaaMendG
import Derived.Deep.DeepCutAuto
import Derived.Deep.RegionHeld3
import Derived.Test.YtfiknbdpjnpkdaaTwo

namespace Go.Proofs.Ytfiknbdpjnpkdaa.Me
open Go.RowKit Go.IntWalk Go.Proofs.Ytfiknbdpjnpkdaa.Wd Go.Proofs.Ytfiknbdpjnpkdaa.Wo Go.Proofs.Ytfiknbdpjnpkdaa.Df Go.Proofs.Ytfiknbdpjnpkdaa.Rc Go.Proofs.Ytfiknbdpjnpkdaa.Ne

/-- What is wrong: with the automaton, the word, or that there is no word at all. -/
noncomputable def mErr (d : Aut) (z : List Int) : Nat := if dchk d ≠ 0 then dchk d else if chk d.L z ≠ 0 then chk d.L z else if (mendW d z).isNone then 5 else 0
theorem own_mset {w0 w : World} {es fs : List Ent} {g : Nat} {l : List Value} (h : Own w0 w (eMen g l :: es) fs) (j : Nat) (u : Value) : Own w0 (w.setCell ⟨g, j, none⟩ u) (eMen g (l.set j u) :: es) fs := h.set j u
theorem own_mfz {w0 w : World} {es fs : List Ent} (h : Own w0 w es fs) {g : Nat} {l : List Value} (he : eMen g l ∈ es ++ fs) {j : Nat} {u : Value} (hj : l[j]? = some u) : w.frozen? ⟨g, j, none⟩ = false := (h.cell he hj).2
def zero6 : List Value := [.int .i64 0, .int .i64 0, .slice none 0 0, .slice none 0 0, .slice none 0 0, .slice none 0 0]
/-- A function that returns a mender out of its own block, and an error. -/
theorem results_men {fn : Func} {t m : Tmp} (h : fn.results = #[.cell t 51, .tmp m]) (tmps : Array Value) {w : World} {g : Nat} {v0 v1 v2 v3 v4 v5 : Value} (hp : tmps.getD t undef = .pointer (some ⟨g, 0, none⟩))
    (c0 : w.cell? ⟨g, 0, none⟩ = some v0) (c1 : w.cell? ⟨g, 1, none⟩ = some v1) (c2 : w.cell? ⟨g, 2, none⟩ = some v2) (c3 : w.cell? ⟨g, 3, none⟩ = some v3) (c4 : w.cell? ⟨g, 4, none⟩ = some v4) (c5 : w.cell? ⟨g, 5, none⟩ = some v5) :
    (results fn tmps).run Try.prog w = .ok (.tuple #[.agg #[v0, v1, v2, v3, v4, v5], tmps.getD m undef]) w := by
  have hp' : tmps[t]?.getD undef = .pointer (some ⟨g, 0, none⟩) := by simpa using hp
  simp [results, h, hp', go_sem, c0, c1, c2, c3, c4, c5]
theorem men_soon (w4 : World) (L s : Int) (A : Option Addr) (n c : Nat) (F : Option Addr) (nf cf : Nat) (Z : Option Addr) (m cz : Nat) (T : Option Addr) (ct : Nat) : BoxM (w4.alloc (.cells #[.int .i64 L, .int .i64 s, .slice A n c, .slice F nf cf, .slice Z m cz, .slice T (m + 1) ct] 51)) w4.heap.size L s A n c F nf cf Z m cz T ct :=
  ⟨by simp, box_cell w4 _ _ 0, box_cell w4 _ _ 1, box_cell w4 _ _ 2, box_cell w4 _ _ 3, box_cell w4 _ _ 4, box_cell w4 _ _ 5⟩
theorem men_late {w3 w4 : World} {T : Option Addr} {g m ct : Nat} {l : List Value} {fs : List Ent} (hl : l.length = 6) (h4 : Own w3 w4 [eMen g l] fs) (L s : Int) (A F Z : Option Addr) (n c nf cf cz : Nat) :
    BoxM ((((((w4.setCell ⟨g, 0, none⟩ (.int .i64 L)).setCell ⟨g, 1, none⟩ (.int .i64 s)).setCell ⟨g, 2, none⟩ (.slice A n c)).setCell ⟨g, 3, none⟩ (.slice F nf cf)).setCell ⟨g, 4, none⟩ (.slice Z m cz)).setCell ⟨g, 5, none⟩ (.slice T (m + 1) ct)) g L s A n c F nf cf Z m cz T ct ∧ Own w3 ((((((w4.setCell ⟨g, 0, none⟩ (.int .i64 L)).setCell ⟨g, 1, none⟩ (.int .i64 s)).setCell ⟨g, 2, none⟩ (.slice A n c)).setCell ⟨g, 3, none⟩ (.slice F nf cf)).setCell ⟨g, 4, none⟩ (.slice Z m cz)).setCell ⟨g, 5, none⟩ (.slice T (m + 1) ct)) [eMen g [.int .i64 L, .int .i64 s, .slice A n c, .slice F nf cf, .slice Z m cz, .slice T (m + 1) ct]] fs := by
  have h6 := own_mset (own_mset (own_mset (own_mset (own_mset (own_mset h4 0 (.int .i64 L)) 1 (.int .i64 s)) 2 (.slice A n c)) 3 (.slice F nf cf)) 4 (.slice Z m cz)) 5 (.slice T (m + 1) ct)
  obtain ⟨a0, a1, a2, a3, a4, a5, rfl⟩ : ∃ a0 a1 a2 a3 a4 a5, l = [a0, a1, a2, a3, a4, a5] := by
    rcases l with _ | ⟨a0, _ | ⟨a1, _ | ⟨a2, _ | ⟨a3, _ | ⟨a4, _ | ⟨a5, _ | ⟨_, _⟩⟩⟩⟩⟩⟩⟩ <;> simp at hl
    exact ⟨_, _, _, _, _, _, rfl⟩
  simp only [List.set_cons_zero, List.set_cons_succ] at h6
  generalize ((((((w4.setCell ⟨g, 0, none⟩ (.int .i64 L)).setCell ⟨g, 1, none⟩ (.int .i64 s)).setCell ⟨g, 2, none⟩ (.slice A n c)).setCell ⟨g, 3, none⟩ (.slice F nf cf)).setCell ⟨g, 4, none⟩ (.slice Z m cz)).setCell ⟨g, 5, none⟩ (.slice T (m + 1) ct)) = w6 at *
  have hm : ∀ l es, eMen g l ∈ [eMen g l] ++ es := fun l es => List.mem_append_left _ List.mem_cons_self
  exact ⟨⟨World.block_lt_of_cell? _ _ (own_mcell h6 (hm _ _) (j := 0) rfl), own_mcell h6 (hm _ _) rfl, own_mcell h6 (hm _ _) rfl, own_mcell h6 (hm _ _) rfl, own_mcell h6 (hm _ _) rfl, own_mcell h6 (hm _ _) rfl, own_mcell h6 (hm _ _) rfl⟩, h6⟩
/-- Nothing is laid into the block for the result. -/
theorem men_zero {w3 w4 : World} {g : Nat} {fs : List Ent} (h4 : Own w3 w4 [eMen g zero6] fs) :
    ((((((w4.setCell ⟨g, 0, none⟩ (.int .i64 0)).setCell ⟨g, 1, none⟩ (.int .i64 0)).setCell ⟨g, 2, none⟩ (.slice none 0 0)).setCell ⟨g, 3, none⟩ (.slice none 0 0)).setCell ⟨g, 4, none⟩ (.slice none 0 0)).setCell ⟨g, 5, none⟩ (.slice none 0 0)).cell? ⟨g, 0, none⟩ = some (.int .i64 0) ∧ ((((((w4.setCell ⟨g, 0, none⟩ (.int .i64 0)).setCell ⟨g, 1, none⟩ (.int .i64 0)).setCell ⟨g, 2, none⟩ (.slice none 0 0)).setCell ⟨g, 3, none⟩ (.slice none 0 0)).setCell ⟨g, 4, none⟩ (.slice none 0 0)).setCell ⟨g, 5, none⟩ (.slice none 0 0)).cell? ⟨g, 1, none⟩ = some (.int .i64 0) ∧ ((((((w4.setCell ⟨g, 0, none⟩ (.int .i64 0)).setCell ⟨g, 1, none⟩ (.int .i64 0)).setCell ⟨g, 2, none⟩ (.slice none 0 0)).setCell ⟨g, 3, none⟩ (.slice none 0 0)).setCell ⟨g, 4, none⟩ (.slice none 0 0)).setCell ⟨g, 5, none⟩ (.slice none 0 0)).cell? ⟨g, 2, none⟩ = some (.slice none 0 0) ∧ ((((((w4.setCell ⟨g, 0, none⟩ (.int .i64 0)).setCell ⟨g, 1, none⟩ (.int .i64 0)).setCell ⟨g, 2, none⟩ (.slice none 0 0)).setCell ⟨g, 3, none⟩ (.slice none 0 0)).setCell ⟨g, 4, none⟩ (.slice none 0 0)).setCell ⟨g, 5, none⟩ (.slice none 0 0)).cell? ⟨g, 3, none⟩ = some (.slice none 0 0) ∧ ((((((w4.setCell ⟨g, 0, none⟩ (.int .i64 0)).setCell ⟨g, 1, none⟩ (.int .i64 0)).setCell ⟨g, 2, none⟩ (.slice none 0 0)).setCell ⟨g, 3, none⟩ (.slice none 0 0)).setCell ⟨g, 4, none⟩ (.slice none 0 0)).setCell ⟨g, 5, none⟩ (.slice none 0 0)).cell? ⟨g, 4, none⟩ = some (.slice none 0 0) ∧ ((((((w4.setCell ⟨g, 0, none⟩ (.int .i64 0)).setCell ⟨g, 1, none⟩ (.int .i64 0)).setCell ⟨g, 2, none⟩ (.slice none 0 0)).setCell ⟨g, 3, none⟩ (.slice none 0 0)).setCell ⟨g, 4, none⟩ (.slice none 0 0)).setCell ⟨g, 5, none⟩ (.slice none 0 0)).cell? ⟨g, 5, none⟩ = some (.slice none 0 0) ∧ Below w3.heap.size w3 ((((((w4.setCell ⟨g, 0, none⟩ (.int .i64 0)).setCell ⟨g, 1, none⟩ (.int .i64 0)).setCell ⟨g, 2, none⟩ (.slice none 0 0)).setCell ⟨g, 3, none⟩ (.slice none 0 0)).setCell ⟨g, 4, none⟩ (.slice none 0 0)).setCell ⟨g, 5, none⟩ (.slice none 0 0)) := by
  have h6 := own_mset (own_mset (own_mset (own_mset (own_mset (own_mset h4 0 (.int .i64 0)) 1 (.int .i64 0)) 2 (.slice none 0 0)) 3 (.slice none 0 0)) 4 (.slice none 0 0)) 5 (.slice none 0 0)
  generalize ((((((w4.setCell ⟨g, 0, none⟩ (.int .i64 0)).setCell ⟨g, 1, none⟩ (.int .i64 0)).setCell ⟨g, 2, none⟩ (.slice none 0 0)).setCell ⟨g, 3, none⟩ (.slice none 0 0)).setCell ⟨g, 4, none⟩ (.slice none 0 0)).setCell ⟨g, 5, none⟩ (.slice none 0 0)) = w6 at *
  have hm : ∀ l es, eMen g l ∈ [eMen g l] ++ es := fun l es => List.mem_append_left _ List.mem_cons_self
  exact ⟨own_mcell h6 (hm _ _) rfl, own_mcell h6 (hm _ _) rfl, own_mcell h6 (hm _ _) rfl, own_mcell h6 (hm _ _) rfl, own_mcell h6 (hm _ _) rfl, own_mcell h6 (hm _ _) rfl, h6.below⟩
set_option linter.unusedSimpArgs false in
set_option maxRecDepth 100000 in
set_option maxHeartbeats 4000000 in
theorem newm_good (v : Value) (d : Aut) (Z : Option Addr) (cz : Nat) (z : List Int) (w : World) (h : DfaAt w w.heap.size v d) (hZ : IntsAt w w.heap.size Z z) (g1 : dchk d = 0) (g2 : chk d.L z = 0) :
    Calls Try.prog 20 #[v, .slice Z z.length cz] w fun e w' => Hid ((∀ x, mendW d z = some x → ∃ L s A c F cf T ct, e = .returned (.tuple #[menV L s A d.next.length c F d.next.length cf Z z.length cz T ct, .nilIface]) ∧ MenIs w' w'.heap.size L s A c F cf Z cz T ct d z) ∧ (mendW d z = none → e = .returned (.tuple #[.agg #[.int .i64 0, .int .i64 0, .slice none 0 0, .slice none 0 0, .slice none 0 0, .slice none 0 0], .iface 55 (.int .i64 5)]))) ∧ Below w.heap.size w w' := by
  have hV := h
  have gd := dchk_iff.1 g1
  obtain ⟨⟨_, _⟩, h80, hfw⟩ := chk_iff.1 g2
  obtain ⟨L, s, A, c, F, cf, rfl, h⟩ := h
  obtain ⟨w1, hw1, hB1, hX, hd1⟩ := box_dfa w h
  obtain ⟨w2, hw2⟩ : ∃ w2, w2 = w1.alloc (.cells #[.int .i64 0, .int .i64 0, .slice none 0 0, .slice none 0 0, .slice none 0 0, .slice none 0 0] 51) := ⟨_, rfl⟩
  have hB2 : Below w1.heap.size w1 w2 := by rw [hw2]; exact below_alloc _ _
  have hO : Own w1 w2 [eMen w1.heap.size zero6] [] := by rw [hw2]; exact own_men (own_start w1) _ _ _ _ _ _
  have hsz : w1.heap.size = w.heap.size + 1 := by rw [hw1]; simp
  rw [hsz] at hO
  have HO := Lib.hid hO
  have HG := Lib.hid gd
  have h40 := gd.n40
  obtain ⟨n, hn⟩ : ∃ n, d.next.length = n := ⟨_, rfl⟩
  rw [gd.fin, hn] at hX hw1
  have hV2 := (hV.on hB1).on hB2
  rw [gd.fin] at hV2
  rw [gd.fin]
  have HC1 := Lib.hid (dcheck_ok hV2 g1)
  have HZ := Lib.hid ((hZ.on hB1).on hB2)
  have HZ1 := Lib.hid (hZ.on hB1)
  have HC2 := Lib.hid fun (W : World) (hW : Below w2.heap.size w2 W) => check_ok d.L Z cz z W (by rw [h.eL]; exact h.hL) (HZ.out.on hW) (by omega) g2
  have HV := Lib.hid hV2
  have HCh := Lib.hid fun (W : World) (hW : Below w2.heap.size w2 W) => cheapest_any _ d n Z cz z W (HV.out.on hW) gd hn (HZ.out.on hW) h80
  rw [h.eL] at HC2
  have HDf := Lib.hid hd1
  have hX2 := hX.on hB2
  have HX := Lib.hid hX2
  have HW1 := Lib.hid hw1
  have HW2 := Lib.hid hw2
  have hcm : ∀ x, mendW d z = some x → cst d d.s.toNat z < 1000000 := fun x hx => by
    have := cst_mend gd h80 hx
    obtain ⟨f1, f2⟩ := mend_far gd h80 hx
    omega
  have hcn : mendW d z = none → cst d d.s.toNat z = 1000000 := cst_none
  have hs := gd.s_eq
  rw [h.es] at hs
  have hsl := gd.s_lt
  rw [h.es, hn] at hsl
  rw [h.es] at hcm hcn
  have HB1 := Lib.hid hB1
  have HN := Lib.hid hn
  obtain ⟨q, hq⟩ : ∃ q, s.toNat = q := ⟨_, rfl⟩
  rw [hq] at hs hsl hcm hcn
  subst hs
  rw [hn] at HC1 HV HCh ⊢
  obtain ⟨m, hm⟩ : ∃ m, z.length = m := ⟨_, rfl⟩
  rw [hm] at HC2 HCh h80 ⊢
  have HMl := Lib.hid hm
  have HCm := Lib.hid hcm
  have HCn := Lib.hid hcn
  have hc0 := hX2.c0
  have hc1 := hX2.c1
  have hc2 := hX2.c2
  have hc3 := hX2.c3
  clear hV hV2 h hw1 hw2 hB1 hB2 hX hX2 hO hsz hd1 gd g1 g2 hfw hZ hn hm hq hcm hcn
  go_enter Try.func20, Try.ntmps20
  go_wp2_with fail
  rw [← HW1.out, ← HW2.out]
  refine HC1.out.mono ?_
  rintro e w3 ⟨rfl, hb3⟩
  have HB3 := Lib.hid hb3
  have hX3 := HX.out.on hb3
  clear hb3 HC1 hc0 hc1 hc2 hc3
  have hc0 := hX3.c0
  have hc1 := hX3.c1
  have hc2 := hX3.c2
  have hc3 := hX3.c3
  go_wp2_with fail
  refine (HC2.out _ HB3.out).mono ?_
  rintro e w3' ⟨rfl, rfl⟩
  clear HC2
  go_wp2_with fail
  have hlt3 := (HX.out.on HB3.out).lt
  have HD1 : Hid (Below w3.heap.size w3 w3.drew) := (Below.refl _ _).drew
  have HD2 : Hid (Below w3.heap.size w3 (w3.drew.alloc (.cells #[.int .i64 0, .int .i64 0, .slice none 0 0, .slice none 0 0, .slice none 0 0, .slice none 0 0] 51))) := (Below.refl _ _).drew.alloc (Nat.le_refl _) _
  have HO2 : Hid (Own w3 (w3.drew.alloc (.cells #[.int .i64 0, .int .i64 0, .slice none 0 0, .slice none 0 0, .slice none 0 0, .slice none 0 0] 51)) [eMen w3.heap.size zero6] []) := own_men (w := w3.drew) ((own_start w3).on (Below.refl _ _).drew) _ _ _ _ _ _
  have HTab : Hid (∀ W W' tv rs, Own W W' [] (eRows tv (rs.map (·.1)) :: eEach rs) → rs.map (·.2) = rowsOf d n z → ∃ T ct, tv = .slice T (m + 1) ct ∧ m + 1 ≤ ct ∧ RowsAt W' W'.heap.size T (rowsOf d n z)) := fun W W' tv rs ho hrs => by
    obtain ⟨T, ct, e, h1, _, h2⟩ := own_rows (nv := tv) (rs := rs) ho (by simp) (fun e he => by simp [he]) (fun p hp y hy => by
      have h1 : p.2 ∈ rowsOf d n z := by rw [← hrs]; exact List.mem_map.2 ⟨p, hp, rfl⟩
      obtain ⟨i, hi, e⟩ := List.getElem_of_mem h1
      have h2 := rowsOf_at d n z i (by rw [rowsOf_length] at hi; omega)
      rw [List.getElem?_eq_getElem hi, e] at h2
      have h3 := Option.some.inj h2
      rw [h3] at hy
      exact cF_small (fun s _ => cst_never d s _) y hy)
    have hl : rs.length = m + 1 := by
      have := congrArg List.length hrs
      rw [List.length_map, rowsOf_length, HMl.out] at this; exact this
    rw [hl] at e h1
    rw [hrs] at h2
    exact ⟨T, ct, e, h1, h2⟩
  have hne1 : w.heap.size < w3.heap.size := hlt3
  have hne2 : w.heap.size ≠ w3.heap.size := by omega
  have hne3 : w3.heap.size ≠ w.heap.size := by omega
  have HBx : Hid (∀ W, Below w3.heap.size w3 W → W.cell? ⟨w.heap.size, 0, none⟩ = some (.int .i64 L) ∧ W.cell? ⟨w.heap.size, 1, none⟩ = some (.int .i64 (q : Int)) ∧ W.cell? ⟨w.heap.size, 2, none⟩ = some (.slice A n c) ∧ W.cell? ⟨w.heap.size, 3, none⟩ = some (.slice F n cf) ∧ w.heap.size < W.heap.size) := fun W hW => by
    have h := (HX.out.on HB3.out).on hW
    exact ⟨h.c0, h.c1, h.c2, h.c3, h.lt⟩
  have HA1 : Hid (Calls Try.prog 32 #[.agg #[.int .i64 L, .int .i64 (q : Int), .slice A n c, .slice F n cf], .slice Z m cz] w3.drew fun e w' => ∃ T ct, e = .returned (.slice T (m + 1) ct) ∧ m + 1 ≤ ct ∧ Hid (∃ rs, rs.map (·.2) = rowsOf d n z ∧ Own w3 w' [] (eRows (.slice T (m + 1) ct) (rs.map (·.1)) :: eEach rs)) ∧ w'.cell? ⟨w.heap.size, 0, none⟩ = some (.int .i64 L) ∧ w'.cell? ⟨w.heap.size, 1, none⟩ = some (.int .i64 (q : Int)) ∧ w'.cell? ⟨w.heap.size, 2, none⟩ = some (.slice A n c) ∧ w'.cell? ⟨w.heap.size, 3, none⟩ = some (.slice F n cf) ∧ w.heap.size < w'.heap.size) := (HCh.out _ (HB3.out.trans (HD1.out.mono HB3.out.size))).mono fun e w' he => by
    obtain ⟨tv, rs, rfl, hrs, ho⟩ := he.out
    have hb4 := HD1.out.trans (ho.below.mono HD1.out.size)
    obtain ⟨T, ct, rfl, htc, hT⟩ := HTab.out _ _ _ _ ho hrs
    obtain ⟨k0, k1, k2, k3, k4⟩ := HBx.out w' hb4
    exact ⟨T, ct, rfl, htc, ⟨rs, hrs, ho.base HD1.out⟩, k0, k1, k2, k3, k4⟩
  have HA2 : Hid (Calls Try.prog 32 #[.agg #[.int .i64 L, .int .i64 (q : Int), .slice A n c, .slice F n cf], .slice Z m cz] (w3.drew.alloc (.cells #[.int .i64 0, .int .i64 0, .slice none 0 0, .slice none 0 0, .slice none 0 0, .slice none 0 0] 51)) fun e w' => ∃ T ct, e = .returned (.slice T (m + 1) ct) ∧ m + 1 ≤ ct ∧ w'.cell? ⟨w.heap.size, 0, none⟩ = some (.int .i64 L) ∧ w'.cell? ⟨w.heap.size, 1, none⟩ = some (.int .i64 (q : Int)) ∧ w'.cell? ⟨w.heap.size, 2, none⟩ = some (.slice A n c) ∧ w'.cell? ⟨w.heap.size, 3, none⟩ = some (.slice F n cf) ∧ Hid (∃ rs, rs.map (·.2) = rowsOf d n z ∧ Own w3 w' [eMen w3.heap.size zero6] (eRows (.slice T (m + 1) ct) (rs.map (·.1)) :: eEach rs)) ∧
      (w'.cell? ⟨w3.heap.size, 0, none⟩ = some (.int .i64 0) ∧ w'.cell? ⟨w3.heap.size, 1, none⟩ = some (.int .i64 0) ∧ w'.cell? ⟨w3.heap.size, 2, none⟩ = some (.slice none 0 0) ∧ w'.cell? ⟨w3.heap.size, 3, none⟩ = some (.slice none 0 0) ∧ w'.cell? ⟨w3.heap.size, 4, none⟩ = some (.slice none 0 0) ∧ w'.cell? ⟨w3.heap.size, 5, none⟩ = some (.slice none 0 0)) ∧
      (w'.frozen? ⟨w3.heap.size, 0, none⟩ = false ∧ w'.frozen? ⟨w3.heap.size, 1, none⟩ = false ∧ w'.frozen? ⟨w3.heap.size, 2, none⟩ = false ∧ w'.frozen? ⟨w3.heap.size, 3, none⟩ = false ∧ w'.frozen? ⟨w3.heap.size, 4, none⟩ = false ∧ w'.frozen? ⟨w3.heap.size, 5, none⟩ = false)) := (HCh.out _ (HB3.out.trans (HD2.out.mono HB3.out.size))).mono fun e w' he => by
    obtain ⟨tv, rs, rfl, hrs, ho⟩ := he.out
    have hb4 := HD2.out.trans (ho.below.mono HD2.out.size)
    obtain ⟨T, ct, rfl, htc, hT⟩ := HTab.out _ _ _ _ ho hrs
    obtain ⟨k0, k1, k2, k3, k4⟩ := HBx.out w' hb4
    have h4 : Own w3 w' [eMen w3.heap.size zero6] (eRows (.slice T (m + 1) ct) (rs.map (·.1)) :: eEach rs) := (HO2.out.join ho).weak fun e he => by simpa using he
    have hm : eMen w3.heap.size zero6 ∈ [eMen w3.heap.size zero6] ++ (eRows (.slice T (m + 1) ct) (rs.map (·.1)) :: eEach rs) := List.mem_append_left _ List.mem_cons_self
    exact ⟨T, ct, rfl, htc, k0, k1, k2, k3, ⟨rs, hrs, h4⟩, ⟨own_mcell h4 hm rfl, own_mcell h4 hm rfl, own_mcell h4 hm rfl, own_mcell h4 hm rfl, own_mcell h4 hm rfl, own_mcell h4 hm rfl⟩, own_mfz h4 hm (u := .int .i64 0) rfl, own_mfz h4 hm (u := .int .i64 0) rfl, own_mfz h4 hm (u := .slice none 0 0) rfl, own_mfz h4 hm (u := .slice none 0 0) rfl, own_mfz h4 hm (u := .slice none 0 0) rfl, own_mfz h4 hm (u := .slice none 0 0) rfl⟩
  go_cut [8] (fun pv wc => Hid (∃ gm T ct rs, pv = .pointer (some ⟨gm, 0, none⟩) ∧ BoxM wc gm L (q : Int) A n c F n cf Z m cz T ct ∧ rs.map (·.2) = rowsOf d n z ∧ Own w3 wc [] (eRows (.slice T (m + 1) ct) (rs.map (·.1)) :: eEach rs)))
  case first =>
    go_region_with (first | (go_at_call 32; refine HA1.out.mono ?_; rintro e w4 ⟨T, ct, rfl, htc, HT, k0, k1, k2, k3, l4⟩) | (go_at_call 32; refine HA2.out.mono ?_; rintro e w4 ⟨T, ct, rfl, htc, k0, k1, k2, k3, HO4, ⟨x0, x1, x2, x3, x4, x5⟩, y0, y1, y2, y3, y4, y5⟩))
    all_goals
      go_wp2_with fail
      go_meet
      first
      | (obtain ⟨rs, hrs, h4⟩ := HT.out
         have hx6 := (men_soon w4 L (q : Int) A n c F n cf Z m cz T ct)
         have h6 := h4.on (below_alloc w4 (.cells #[.int .i64 L, .int .i64 (q : Int), .slice A n c, .slice F n cf, .slice Z m cz, .slice T (m + 1) ct] 51))
         exact ⟨_, T, ct, rs, rfl, hx6, hrs, h6⟩)
      | (obtain ⟨rs, hrs, h4⟩ := HO4.out
         obtain ⟨hx6, h6⟩ := men_late (T := T) (m := m) (ct := ct) rfl h4 L (q : Int) A F Z n c n cf cz
         exact ⟨_, T, ct, rs, rfl, hx6, hrs, h6.only⟩)
  case rest =>
    obtain ⟨gm, T, ct, rs, rfl, hx6, hrs, h6⟩ := hcut.out
    obtain ⟨T', ct', e', htc, hT⟩ := HTab.out _ _ _ _ h6 hrs
    obtain ⟨rfl, rfl⟩ : T = T' ∧ ct = ct' := by simpa using e'
    obtain ⟨adt, ar, cr, rfl, _, hr1, hr2, hr3⟩ := men_at (d := d) (z := z) (by rw [HN.out]; exact hT) (i := 0) (by omega)
    rw [HN.out, addr_zero] at hr1
    rw [HN.out] at hr2 hr3
    obtain ⟨adr, rfl, _, hr4⟩ := hr3 q hsl
    rw [List.drop_zero] at hr4
    have hcm := HCm.out
    have hcn := HCn.out
    have hyy := cst_never d q z
    generalize cst d q z = y at *
    have HCm2 := Lib.hid hcm
    have HCn2 := Lib.hid hcn
    have hb1 := ((HX.out.on HB3.out).on h6.below).c1
    have hm0 := hx6.c0
    have hm1 := hx6.c1
    have hm2 := hx6.c2
    have hm3 := hx6.c3
    have hm4 := hx6.c4
    have hm5 := hx6.c5
    have hOr : Own w1 wc [eMen (w.heap.size + 1) zero6] (eRows (.slice (some adt) (m + 1) ct) (rs.map (·.1)) :: eEach rs) := ((HO.out.on HB3.out).join h6).weak fun e he => by simpa using he
    have hmm : eMen (w.heap.size + 1) zero6 ∈ [eMen (w.heap.size + 1) zero6] ++ (eRows (.slice (some adt) (m + 1) ct) (rs.map (·.1)) :: eEach rs) := List.mem_append_left _ List.mem_cons_self
    have x0 := own_mcell hOr hmm (j := 0) rfl
    have x1 := own_mcell hOr hmm (j := 1) rfl
    have x2 := own_mcell hOr hmm (j := 2) rfl
    have x3 := own_mcell hOr hmm (j := 3) rfl
    have x4 := own_mcell hOr hmm (j := 4) rfl
    have x5 := own_mcell hOr hmm (j := 5) rfl
    have y0 := own_mfz hOr hmm (j := 0) rfl
    have y1 := own_mfz hOr hmm (j := 1) rfl
    have y2 := own_mfz hOr hmm (j := 2) rfl
    have y3 := own_mfz hOr hmm (j := 3) rfl
    have y4 := own_mfz hOr hmm (j := 4) rfl
    have y5 := own_mfz hOr hmm (j := 5) rfl
    have HOr := Lib.hid hOr
    have HRs := Lib.hid hrs
    have e1 : (0 : Int) < (m : Int) + 1 := by omega
    have e2 : (q : Int) < (n : Int) := by omega
    clear hcut hx6 hrs h6 hT hr3 hc0 hc1 hc2 hc3 hOr hmm HCm HCn hcm hcn
    by_cases hy1 : y < 1000000
    · have hne : ((y : Int) == 1000000) = false := int_ne (by omega)
      have HF : Hid (∀ n2, _) := fun n2 => men_late (T := some adt) (m := m) (ct := ct) rfl (HOr.out.drewN n2) L (q : Int) A F Z n c n cf cz
      go_wp2_with fail
      go_quiet (fail)
      go_wp2
      obtain ⟨hb, ho⟩ := HF.out nq
      refine bodyPost_ret (results_men rfl _ rfl hb.c0 hb.c1 hb.c2 hb.c3 hb.c4 hb.c5) rfl ⟨⟨fun x hx => ⟨L, (q : Int), A, c, F, cf, some adt, ct, rfl, ?_⟩, fun hx => ?_⟩, HB1.out.trans (ho.below.mono HB1.out.size)⟩
      · obtain ⟨T2, ct2, e2, _, hT2⟩ := HTab.out _ _ _ _ ho.only HRs.out
        obtain ⟨rfl, rfl⟩ : some adt = T2 ∧ ct = ct2 := by simpa using e2
        exact ⟨HDf.out.on ho.below, HZ1.out.on ho.below, by rw [HN.out]; exact hT2⟩
      · have := HCn2.out hx; omega
    · have hne : ((y : Int) == 1000000) = true := int_eq (by omega)
      have HF : Hid (∀ n2, _) := fun n2 => men_zero (HOr.out.drewN n2)
      go_wp2_with fail
      go_quiet (fail)
      go_wp2
      obtain ⟨z0, z1, z2, z3, z4, z5, zb⟩ := HF.out nq
      refine bodyPost_ret (results_men (t := 4) (m := 5) rfl _ rfl z0 z1 z2 z3 z4 z5) rfl ⟨⟨fun x hx => ?_, fun hx => rfl⟩, HB1.out.trans (zb.mono HB1.out.size)⟩
      have := HCm2.out x hx; omega
set_option linter.unusedSimpArgs false in
set_option maxRecDepth 100000 in
set_option maxHeartbeats 4000000 in
theorem newm_bad (v : Value) (d : Aut) (Z : Option Addr) (cz : Nat) (z : List Int) (w : World) (h : DfaAt w w.heap.size v d) (hZ : IntsAt w w.heap.size Z z) (hz : z.length ≤ 17592186044416) {e0 : Nat} (g : (if dchk d = 0 then chk d.L z else dchk d) = e0 + 1) :
    Calls Try.prog 20 #[v, .slice Z z.length cz] w fun e w' => Hid (e = .returned (.tuple #[.agg #[.int .i64 0, .int .i64 0, .slice none 0 0, .slice none 0 0, .slice none 0 0, .slice none 0 0], errV (e0 + 1)])) ∧ Below w.heap.size w w' := by
  have hV := h
  obtain ⟨L, s, A, c, F, cf, rfl, h⟩ := h
  obtain ⟨w1, hw1, hB1, hX, hd1⟩ := box_dfa w h
  obtain ⟨w2, hw2⟩ : ∃ w2, w2 = w1.alloc (.cells #[.int .i64 0, .int .i64 0, .slice none 0 0, .slice none 0 0, .slice none 0 0, .slice none 0 0] 51) := ⟨_, rfl⟩
  have hB2 : Below w1.heap.size w1 w2 := by rw [hw2]; exact below_alloc _ _
  have hO : Own w1 w2 [eMen w1.heap.size zero6] [] := by rw [hw2]; exact own_men (own_start w1) _ _ _ _ _ _
  have hsz : w1.heap.size = w.heap.size + 1 := by rw [hw1]; simp
  rw [hsz] at hO
  have HO := Lib.hid hO
  have hV2 := (hV.on hB1).on hB2
  have HC1 := Lib.hid (dcheck_any _ d w2 hV2)
  have HZ := Lib.hid ((hZ.on hB1).on hB2)
  have HC2 := Lib.hid fun (W : World) (hW : Below w2.heap.size w2 W) => check_any d.L Z cz z W (by rw [h.eL]; exact h.hL) (HZ.out.on hW) hz
  rw [h.eL] at HC2 g
  have hX2 := hX.on hB2
  have HX := Lib.hid hX2
  have HW1 := Lib.hid hw1
  have HW2 := Lib.hid hw2
  have HB1 := Lib.hid hB1
  have hc0 := hX2.c0
  have hc1 := hX2.c1
  have hc2 := hX2.c2
  have hc3 := hX2.c3
  have hmm : eMen (w.heap.size + 1) zero6 ∈ [eMen (w.heap.size + 1) zero6] ++ [] := List.mem_append_left _ List.mem_cons_self
  have HMm := Lib.hid hmm
  clear hV hV2 h hw1 hw2 hB1 hB2 hX hX2 hO hsz hd1 hZ hmm
  generalize d.next.length = n at *
  generalize d.fin.length = nf at *
  rw [show errV (e0 + 1) = errI ((e0 + 1 : Nat) : Int) from rfl]
  obtain ⟨E, hE⟩ : ∃ E, ((e0 + 1 : Nat) : Int) = E := ⟨_, rfl⟩
  rw [hE]
  by_cases g1 : dchk d = 0
  · rw [if_pos g1] at g
    rw [g1] at HC1
    rw [g] at HC2
    rw [show errV (e0 + 1) = errI ((e0 + 1 : Nat) : Int) from rfl, hE] at HC2
    clear g g1 hE
    generalize z.length = m at *
    go_enter Try.func20, Try.ntmps20
    go_wp2_with fail
    rw [← HW1.out, ← HW2.out]
    refine HC1.out.mono ?_
    rintro e w3 ⟨he, hb3⟩
    obtain rfl : e = .returned .nilIface := he.out
    have HB3 := Lib.hid hb3
    have hX3 := HX.out.on hb3
    have hOr := HO.out.on hb3
    clear hb3 HC1 hc0 hc1 hc2 hc3 he
    have hc0 := hX3.c0
    go_wp2_with fail
    refine (HC2.out _ HB3.out).mono ?_
    rintro e w3' ⟨he, rfl⟩
    obtain rfl : e = .returned (errI E) := he.out
    have x0 := own_mcell hOr HMm.out (j := 0) rfl
    have x1 := own_mcell hOr HMm.out (j := 1) rfl
    have x2 := own_mcell hOr HMm.out (j := 2) rfl
    have x3 := own_mcell hOr HMm.out (j := 3) rfl
    have x4 := own_mcell hOr HMm.out (j := 4) rfl
    have x5 := own_mcell hOr HMm.out (j := 5) rfl
    have y0 := own_mfz hOr HMm.out (j := 0) rfl
    have y1 := own_mfz hOr HMm.out (j := 1) rfl
    have y2 := own_mfz hOr HMm.out (j := 2) rfl
    have y3 := own_mfz hOr HMm.out (j := 3) rfl
    have y4 := own_mfz hOr HMm.out (j := 4) rfl
    have y5 := own_mfz hOr HMm.out (j := 5) rfl
    have HF := Lib.hid (men_zero hOr)
    clear HC2 he hOr hX3 hc0
    go_wp2
    obtain ⟨z0, z1, z2, z3, z4, z5, zb⟩ := HF.out
    refine bodyPost_ret (results_men (t := 4) (m := 5) rfl _ rfl z0 z1 z2 z3 z4 z5) rfl ⟨rfl, HB1.out.trans (zb.mono HB1.out.size)⟩
  · rw [if_neg g1] at g
    rw [g] at HC1
    rw [show errV (e0 + 1) = errI ((e0 + 1 : Nat) : Int) from rfl, hE] at HC1
    clear g g1 hE HC2
    generalize z.length = m at *
    go_enter Try.func20, Try.ntmps20
    go_wp2_with fail
    rw [← HW1.out, ← HW2.out]
    refine HC1.out.mono ?_
    rintro e w3 ⟨he, hb3⟩
    obtain rfl : e = .returned (errI E) := he.out
    have hOr := HO.out.on hb3
    have x0 := own_mcell hOr HMm.out (j := 0) rfl
    have x1 := own_mcell hOr HMm.out (j := 1) rfl
    have x2 := own_mcell hOr HMm.out (j := 2) rfl
    have x3 := own_mcell hOr HMm.out (j := 3) rfl
    have x4 := own_mcell hOr HMm.out (j := 4) rfl
    have x5 := own_mcell hOr HMm.out (j := 5) rfl
    have y0 := own_mfz hOr HMm.out (j := 0) rfl
    have y1 := own_mfz hOr HMm.out (j := 1) rfl
    have y2 := own_mfz hOr HMm.out (j := 2) rfl
    have y3 := own_mfz hOr HMm.out (j := 3) rfl
    have y4 := own_mfz hOr HMm.out (j := 4) rfl
    have y5 := own_mfz hOr HMm.out (j := 5) rfl
    have HF := Lib.hid (men_zero hOr)
    clear hb3 HC1 hc0 hc1 hc2 hc3 he hOr
    go_wp2
    obtain ⟨z0, z1, z2, z3, z4, z5, zb⟩ := HF.out
    refine bodyPost_ret (results_men (t := 4) (m := 5) rfl _ rfl z0 z1 z2 z3 z4 z5) rfl ⟨rfl, HB1.out.trans (zb.mono HB1.out.size)⟩
end Go.Proofs.Ytfiknbdpjnpkdaa.Me

namespace Go.Proofs.Ytfiknbdpjnpkdaa.Me
open Go.RowKit Go.IntWalk Go.Proofs.Ytfiknbdpjnpkdaa.Wd Go.Proofs.Ytfiknbdpjnpkdaa.Wo Go.Proofs.Ytfiknbdpjnpkdaa.Df Go.Proofs.Ytfiknbdpjnpkdaa.Rc Go.Proofs.Ytfiknbdpjnpkdaa.Ne

theorem mkB_nil (d : Aut) (z : List Int) (j : Nat) : mkB d z [] j = if j = 0 then true else false := by
  rw [Bool.eq_iff_iff, mkB_iff]
  constructor
  · rintro (⟨_, rfl⟩ | ⟨p', a, e, _⟩)
    · rfl
    · simp at e
  · intro h
    by_cases e : j = 0
    · exact .inl ⟨rfl, e⟩
    · rw [if_neg e] at h; cases h
theorem bF_has {n : Nat} {f : Nat → Bool} : true ∈ bF n f ↔ ∃ j, j < n ∧ f j = true := by
  unfold bF
  rw [List.mem_map]
  exact ⟨fun ⟨j, hj, e⟩ => ⟨j, List.mem_range.1 hj, e⟩, fun ⟨j, hj, e⟩ => ⟨j, List.mem_range.2 hj, e⟩⟩
set_option linter.unusedSimpArgs false in
set_option maxRecDepth 100000 in
set_option maxHeartbeats 4000000 in
theorem mfirst_any (L s : Int) (A : Option Addr) (n c : Nat) (F : Option Addr) (nf cf : Nat) (Z : Option Addr) (m cz : Nat) (T : Option Addr) (ct : Nat) (d : Aut) (z : List Int) (x : Lb) (w : World) (gd : Df.Good d) (hn : d.next.length = n) (hm : z.length = m) (hz : m ≤ 80)
    (h : MenIs w w.heap.size L s A c F cf Z cz T ct d z) (hx : mendW d z = some x) (hl : x.2.length ≤ 80) :
    Calls Try.prog 22 #[menV L s A n c F nf cf Z m cz T ct] w fun e w' => Hid (∃ v', e = .returned v' ∧ Own w w' [eInts v' x.2] []) := by
  obtain ⟨w1, hw1, hB1, hX, hM⟩ := box_men (n := n) (nf := nf) (m := m) w h
  have h80 : z.length ≤ 80 := by omega
  have hcm := cst_mend gd h80 hx
  obtain ⟨hxw, _⟩ := mend_some hx
  have HG := Lib.hid gd
  have HN := Lib.hid hn
  have HMl := Lib.hid hm
  have HXw := Lib.hid hxw
  have HX := Lib.hid hX
  have HW := Lib.hid hw1
  have HB := Lib.hid hB1
  have HMen := Lib.hid hM
  have HFa := Lib.hid fun (k : Nat) (hk : k < x.2.length) (a : Nat) (ha : (a : Int) ≤ x.2[k]) => first_at gd h80 hx hk ha
  have HLet := Lib.hid fun (W : World) (hW : MenIs W W.heap.size L s A c F cf Z cz T ct d z) => letters_any L s A n c F nf cf Z m cz T ct d z W gd hn hm hW
  have hlen : cst d d.s.toNat z % 1000 = x.2.length := by rw [hcm]; omega
  rw [hlen] at HLet
  have HRem := Lib.hid fun (p : List Int) (gp q : Nat) (W : World) (es fs : List Ent) hp hq hO => remove_any L s A n c F nf cf Z m cz T ct d z p gp q w1 W es fs gd hn hm hz hM hp hq hO
  have HBeh := Lib.hid fun (p : List Int) (P : Option Addr) (cp q a : Nat) (W : World) hW hp hq ha hP => mbehind_any L s A n c F nf cf Z m cz T ct d z p P cp q a W gd hn hm hz hW hp hq ha hP
  have hs := gd.s_eq
  rw [h.dfa.es] at hs
  have hs0 : d.s = s := h.dfa.es
  obtain ⟨q0, hq0⟩ : ∃ q, d.s.toNat = q := ⟨_, rfl⟩
  have hsq : s = (q0 : Int) := by rw [← hq0, hs0]; exact hs.symm
  have HQ0 := Lib.hid hq0
  clear hlen hcm hxw hw1 hB1 hX hM h gd hn hm hx hs hs0 hq0 h80
  subst hsq
  obtain ⟨len, hlen⟩ : ∃ len, x.2.length = len := ⟨_, rfl⟩
  rw [hlen] at HLet hl
  have HLen := Lib.hid hlen
  clear hlen
  go_enter Try.func22, Try.ntmps22
  go_wp2_with (at_make; rw [← HW.out]; refine mk_bools rfl _ _ rfl (m + 1) rfl rfl (by omega) ?_)
  intro w2 ho
  obtain ⟨g0, hg0⟩ : ∃ g, w1.heap.size = g := ⟨_, rfl⟩
  rw [hg0] at ho ⊢
  obtain ⟨k1, k2⟩ := own_bools_cell ho (List.mem_append_left _ List.mem_cons_self) (by simp) (j := 0) (x := false) (by simp)
  have hst := own_bools_set ho (by simp) 0 true
  rw [← bF_false, bF_upd (m + 1) _ (mkB d z []) 0 (fun j _ => mkB_nil d z j)] at hst
  have hst2 := hst.nil 3 1
  obtain ⟨w3, hw3⟩ : ∃ w3, w3 = w2.setCell ⟨g0, 0, none⟩ (.bool true) := ⟨_, rfl⟩
  rw [← hw3] at hst2
  have HW3 := Lib.hid hw3
  have hX3 := HX.out.on hst2.below
  have HMen3 := Lib.hid (HMen.out.on hst2.below)
  have HO3 : Hid (Own w1 w3 [eInts (.slice none 0 0) (x.2.take 0), eBools (wv g0 (m + 1)) (bF (m + 1) (mkB d z (x.2.take 0)))] []) := by rw [List.take_zero]; exact hst2
  have e1 : (0 : Int) < (m : Int) + 1 := by omega
  rw [hw3] at hX3
  have hne1 : w.heap.size < g0 := by rw [← hg0]; exact HX.out.lt
  have hne2 : w.heap.size ≠ g0 := by omega
  have hne3 : g0 ≠ w.heap.size := by omega
  clear ho hst hst2 hw3 hg0 HW
  have hc0 := hX3.c0
  have hc1 := hX3.c1
  have hc2 := hX3.c2
  have hc3 := hX3.c3
  have hc4 := hX3.c4
  have hc5 := hX3.c5
  go_wp2_with fail
  rw [← HW3.out]
  refine (HLet.out _ HMen3.out).mono ?_
  rintro e w4 ⟨he, hb4⟩
  obtain rfl : e = .returned (.int .i64 (len : Int)) := he.out
  have HO4 : Hid (∃ gp, Own w1 w4 [eInts (.slice none 0 0) (x.2.take 0), eBools (wv gp (m + 1)) (bF (m + 1) (mkB d z (x.2.take 0)))] [] ∧ gp = g0) := ⟨g0, HO3.out.on hb4, rfl⟩
  clear he hb4 HLet HMen3 HO3 HW3 hc0 hc1 hc2 hc3 hc4 hc5 k1 k2 hne1 hne2 hne3 hX3
  go_wp2
  go_loopw [3, 4, 5, 21] (fun mv sv pv iv wr => ∃ (k : Nat) (A2 : Option Addr) (c2 gp q : Nat), k ≤ len ∧ mv = .slice A2 k c2 ∧ sv = .int .i64 (q : Int) ∧ pv = wv gp (m + 1) ∧ iv = .int .i64 (k : Int) ∧ Hid (runA d d.s.toNat (x.2.take k) = q) ∧ Hid (Own w1 wr [eInts (.slice A2 k c2) (x.2.take k), eBools (wv gp (m + 1)) (bF (m + 1) (mkB d z (x.2.take k)))] [])) (fun _ _ _ iv _ => len - (intOf iv).toNat)
  case atStart =>
    obtain ⟨gp, h1, rfl⟩ := HO4.out
    exact ⟨0, none, 0, gp, q0, by omega, rfl, rfl, rfl, rfl, HQ0.out, h1⟩
  case round =>
    clear HO4
    obtain ⟨k, A2, c2, gp, q, hk, rfl, rfl, rfl, rfl, HQ, HO⟩ := hrel
    by_cases hlt : k < len
    · have e1 : (k : Int) < (len : Int) := by omega
      have hk2 : k < x.2.length := by rw [HLen.out]; exact hlt
      have hpw : Word d.L (x.2.take k) := fun y hy => HXw.out y (List.mem_of_mem_take hy)
      have hqn : q < n := by rw [← HQ.out, ← HN.out]; exact HG.out.run_lt hpw HG.out.s_lt
      have HPw := Lib.hid hpw
      have hX := HX.out.on HO.out.below
      have hc0 := hX.c0
      have hc1 := hX.c1
      have hc2 := hX.c2
      have hc3 := hX.c3
      have hc4 := hX.c4
      have hc5 := hX.c5
      have HO' := Lib.hid HO.out.two
      have hat : 0 ≤ x.2[k] ∧ x.2[k] < d.L := HXw.out _ (List.getElem_mem hk2)
      have HFk := Lib.hid fun a ha => HFa.out k hk2 a ha
      have HTk : Hid (x.2.take (k + 1) = x.2.take k ++ [x.2[k]]) := (List.take_append_getElem hk2).symm
      have hrun : runA d d.s.toNat (x.2.take (k + 1)) = Df.step d q x.2[k].toNat := by rw [runA_take_succ d _ _ hk2, HQ.out]
      have hpl : (x.2.take k).length = k := by rw [List.length_take]; omega
      obtain ⟨b, hb⟩ : ∃ b : Nat, x.2[k] = (b : Int) := Int.eq_ofNat_of_zero_le hat.1
      rw [hb] at HTk HFk
      rw [hb, Int.toNat_natCast] at hrun
      have hbL : (b : Int) < d.L := by rw [← hb]; exact hat.2
      have HRun := Lib.hid hrun
      have HBL := Lib.hid hbL
      clear hpw hX HO hrun hat hb
      go_wp2_with fail
      refine (HRem.out (x.2.take k) gp q _ _ _ HPw.out HQ.out HO'.out).mono ?_
      rintro e w5 he
      obtain ⟨rfl, ho5⟩ := he.out
      have HO5 : Hid (Own w1 w5 [eInts (.slice A2 k c2) (x.2.take k), eBools (wv gp (m + 1)) (bF (m + 1) (onB d z (x.2.take k)))] []) := ho5.two
      have hX := HX.out.on ho5.below
      have hlt' : q < d.next.length := by rw [HN.out]; exact hqn
      obtain ⟨ada, Ar, cr, hada, hrb, hrc, hrl, hrl2, hri⟩ := HMen.out.dfa.rows q _ (List.getElem?_eq_getElem hlt')
      subst hada
      have hrc := (ho5.below.cell (p := ada.add q) (by rw [Wd.block_add]; exact hrb)).trans hrc
      have hll : ((d.next[q]).length : Int) = d.L := HG.out.row _ (List.getElem_mem hlt')
      have HAt : Hid (∀ a : Nat, (a : Int) < d.L → (d.next[q])[a]? = some ((Df.step d q a : Nat) : Int) ∧ Df.step d q a < n) := fun a ha => by
        obtain ⟨r, h1, _, _, h2, h3⟩ := HG.out.at_ hlt' ha
        rw [List.getElem?_eq_getElem hlt'] at h1
        obtain rfl := Option.some.inj h1
        rw [HN.out] at h3
        exact ⟨h2, h3⟩
      have HI := Lib.hid hri
      generalize d.next[q] = r at *
      obtain ⟨l, hl2⟩ : ∃ l, r.length = l := ⟨_, rfl⟩
      have HLl : Hid ((l : Int) = d.L) := by rw [← hl2]; exact hll
      have hl6 : l ≤ 6 := by have h1 := HLl.out; have h2 := HG.out.l6; omega
      have hbl : b < l := by have h1 := HLl.out; have h2 := HBL.out; omega
      rw [hl2] at hrc hrl
      have hqn2 : (q : Int) < (n : Int) := by omega
      clear hri hll hl2 hlt' he ho5 HO' hc0 hc1 hc2 hc3 hc4 hc5
      have hc2 := hX.c2
      clear hX
      go_wp2
      clear hc2 hrc
      go_loopw [3, 4, 5, 34] (fun mv sv pv iv w6 => ∃ a : Nat, a ≤ b ∧ mv = .slice A2 k c2 ∧ sv = .int .i64 (q : Int) ∧ pv = wv gp (m + 1) ∧ iv = .int .i64 (a : Int) ∧ Hid (Own w1 w6 [eInts (.slice A2 k c2) (x.2.take k), eBools (wv gp (m + 1)) (bF (m + 1) (onB d z (x.2.take k)))] [])) (fun _ _ _ iv _ => l - (intOf iv).toNat)
      case atStart => exact ⟨0, by omega, rfl, rfl, rfl, rfl, HO5⟩
      case round =>
        clear HO5
        obtain ⟨a, hab, rfl, rfl, rfl, rfl, HO6⟩ := hrel
        have hal : a < l := by omega
        have e2 : (a : Int) < (l : Int) := by omega
        have haL : (a : Int) < d.L := by have := HLl.out; omega
        obtain ⟨ha1, ha2⟩ := HAt.out a haL
        obtain ⟨adr, rfl, _, hrcell, hrlt⟩ := (HI.out.on HO6.out.below).get ha1
        have hX := HX.out.on HO6.out.below
        have hc0 := hX.c0
        have hc1 := hX.c1
        have hc2 := hX.c2
        have hc3 := hX.c3
        have hc4 := hX.c4
        have hc5 := hX.c5
        obtain ⟨Ap, cp, hpv, _, _, hPb⟩ := own_bools HO6.out (fv := wv gp (m + 1)) (bs := bF (m + 1) (onB d z (x.2.take k))) (by simp)
        obtain rfl : some ⟨gp, 0, none⟩ = Ap := by simp only [Value.slice.injEq] at hpv; exact hpv.1
        have HBe := Lib.hid (HBeh.out (x.2.take k) (some ⟨gp, 0, none⟩) (m + 1) q a _ (HMen.out.on HO6.out.below) HPw.out HQ.out haL hPb)
        obtain ⟨t, ht⟩ : ∃ t, Df.step d q a = t := ⟨_, rfl⟩
        have HT := Lib.hid ht
        rw [ht] at hrcell
        clear ha1 ha2 hrlt hX hpv hPb ht
        go_wp2_with fail
        refine HBe.out.mono ?_
        rintro e w7 he
        obtain ⟨g3, rfl, ho7⟩ := he.out
        have hj : Own w1 w7 (eBools (wv g3 (m + 1)) (bF (m + 1) (mkB d z (x.2.take k ++ [(a : Int)]))) :: eInts (.slice A2 k c2) (x.2.take k) :: eBools (wv gp (m + 1)) (bF (m + 1) (onB d z (x.2.take k))) :: []) [] := HO6.out.join ho7
        obtain ⟨A3, c3, hpv, _, _, hPb⟩ := own_bools hj (fv := wv g3 (m + 1)) (bs := bF (m + 1) (mkB d z (x.2.take k ++ [(a : Int)]))) (by simp)
        obtain rfl : some ⟨g3, 0, none⟩ = A3 := by simp only [Value.slice.injEq] at hpv; exact hpv.1
        have hfk := HFk.out a (by omega)
        have hhas : decide (true ∈ bF (m + 1) (mkB d z (x.2.take k ++ [(a : Int)]))) = decide (a = b) := by
          refine decide_eq_decide.2 ?_
          rw [bF_has]
          constructor
          · rintro ⟨j, hj, hm⟩
            have := hfk.1 ⟨j, by rw [HMl.out]; omega, mkB_iff.1 hm⟩
            omega
          · intro e
            obtain ⟨j, hj, hm⟩ := hfk.2 (by omega)
            exact ⟨j, by rw [HMl.out] at hj; omega, mkB_iff.2 hm⟩
        have HCt := Lib.hid (bhas_any (some ⟨g3, 0, none⟩) (m + 1) (m + 1) _ w7 (bF_length _ _) hPb (by omega) hhas)
        have HJ := Lib.hid hj
        clear he ho7 hj hpv hPb hfk hhas HBe hc0 hc1 hc2 hc3 hc4 hc5 HO6 hrcell
        by_cases hab2 : a = b
        · have HCt2 : Hid (Calls Try.prog 35 #[.slice (some ⟨g3, 0, none⟩) (m + 1) (m + 1), .bool true] w7 fun e w' => e = .returned (.bool true) ∧ w' = w7) := by rw [decide_eq_true hab2] at HCt; exact HCt
          have HOa := Lib.hid HJ.out.two
          have hln : (x.2.take k).length < 17592186044416 := by rw [List.length_take]; omega
          have HTk2 : Hid (x.2.take (k + 1) = x.2.take k ++ [(a : Int)]) := by rw [hab2]; exact HTk.out
          have HRn2 : Hid (runA d d.s.toNat (x.2.take (k + 1)) = t) := by rw [← HT.out, hab2]; exact HRun.out
          clear HCt HJ hab2
          go_wp2_with fail
          refine HCt2.out.mono ?_
          rintro e w8 ⟨rfl, rfl⟩
          clear HCt2
          go_wp2_with (at_builtin; refine own_int (by rfl) _ _ (by rfl) (by rfl) HOa.out (by rfl) hln ?_)
          intro g9 cap9 w9 ho9
          have HO9 : Hid (Own w1 w9 [eInts (.slice (some ⟨g9, 0, none⟩) (k + 1) cap9) (x.2.take (k + 1)), eBools (wv g3 (m + 1)) (bF (m + 1) (mkB d z (x.2.take (k + 1))))] []) := by
            unfold Hid
            rw [HTk2.out]; exact ho9.three.tail
          clear ho9 HOa hln
          go_wp2
          go_roundw
          case rel => exact ⟨k + 1, some ⟨g9, 0, none⟩, cap9, g3, t, by omega, rfl, rfl, rfl, by go_num, HRn2.out, HO9.out⟩
          case measure => simp [intOf]; omega
        · have HCt2 : Hid (Calls Try.prog 35 #[.slice (some ⟨g3, 0, none⟩) (m + 1) (m + 1), .bool true] w7 fun e w' => e = .returned (.bool false) ∧ w' = w7) := by rw [decide_eq_false hab2] at HCt; exact HCt
          have HO9 := Lib.hid HJ.out.tail
          have hab3 : a + 1 ≤ b := by omega
          clear HCt HJ hab2
          go_wp2_with fail
          refine HCt2.out.mono ?_
          rintro e w8 ⟨rfl, rfl⟩
          clear HCt2
          go_wp2
          go_roundw
          case rel => exact ⟨a + 1, by omega, rfl, rfl, rfl, by go_num, HO9.out⟩
          case measure => simp [intOf]; omega
    · obtain rfl : k = len := by omega
      have e1 : ¬ (k : Int) < (k : Int) := by omega
      have HE : Hid (Own w wr [eInts (.slice A2 k c2) x.2] []) := by
        have h := (HO.out.base HB.out).two.tail
        rwa [List.take_of_length_le (by rw [HLen.out]; omega)] at h
      clear HO
      go_wp2
      go_ret
      exact ⟨_, rfl, HE.out⟩
end Go.Proofs.Ytfiknbdpjnpkdaa.Me

namespace Go.Proofs.Ytfiknbdpjnpkdaa.Me
open Go.RowKit Go.IntWalk Go.Proofs.Ytfiknbdpjnpkdaa.Wd Go.Proofs.Ytfiknbdpjnpkdaa.Wo Go.Proofs.Ytfiknbdpjnpkdaa.Df Go.Proofs.Ytfiknbdpjnpkdaa.Rc Go.Proofs.Ytfiknbdpjnpkdaa.Ne

theorem mown_nil {w w' : World} (h : Below w.heap.size w w') : Own w w' [] [eInts (.slice none 0 0) []] := (((own_start w).on h).nil 3 1).fin
/-- What is wrong with the arguments. -/
def aErr (d : Aut) (z : List Int) : Nat := if dchk d = 0 then chk d.L z else dchk d
theorem aErr_good {d : Aut} {z : List Int} (h : aErr d z = 0) : dchk d = 0 ∧ chk d.L z = 0 := by
  unfold aErr at h
  by_cases g : dchk d = 0
  · rw [if_pos g] at h; exact ⟨g, h⟩
  · rw [if_neg g] at h; exact absurd h g
noncomputable def costO2 (d : Aut) (z : List Int) : Nat × Nat := if aErr d z ≠ 0 then (0, aErr d z) else match mendW d z with
  | none => (0, 5)
  | some x => (x.1, 0)
noncomputable def mendO2 (d : Aut) (z : List Int) : List Int × Nat × Nat := if aErr d z ≠ 0 then ([], 0, aErr d z) else match mendW d z with
  | none => ([], 0, 5)
  | some x => if 80 < x.2.length then ([], 0, 4) else (x.2, x.1, 0)
theorem costO2_bad {d : Aut} {z : List Int} {e : Nat} (h : aErr d z = e + 1) : costO2 d z = (0, e + 1) := by unfold costO2; rw [if_pos (by omega), h]
theorem costO2_none {d : Aut} {z : List Int} (h : aErr d z = 0) (hx : mendW d z = none) : costO2 d z = (0, 5) := by unfold costO2; rw [if_neg (by omega), hx]
theorem costO2_some {d : Aut} {z : List Int} {x : Lb} (h : aErr d z = 0) (hx : mendW d z = some x) : costO2 d z = (x.1, 0) := by unfold costO2; rw [if_neg (by omega), hx]
theorem mendO2_bad {d : Aut} {z : List Int} {e : Nat} (h : aErr d z = e + 1) : mendO2 d z = ([], 0, e + 1) := by unfold mendO2; rw [if_pos (by omega), h]
theorem mendO2_none {d : Aut} {z : List Int} (h : aErr d z = 0) (hx : mendW d z = none) : mendO2 d z = ([], 0, 5) := by unfold mendO2; rw [if_neg (by omega), hx]
theorem mendO2_full {d : Aut} {z : List Int} {x : Lb} (h : aErr d z = 0) (hx : mendW d z = some x) (hl : 80 < x.2.length) : mendO2 d z = ([], 0, 4) := by unfold mendO2; rw [if_neg (by omega), hx]; simp only; rw [if_pos hl]
theorem mendO2_some {d : Aut} {z : List Int} {x : Lb} (h : aErr d z = 0) (hx : mendW d z = some x) (hl : ¬ 80 < x.2.length) : mendO2 d z = (x.2, x.1, 0) := by unfold mendO2; rw [if_neg (by omega), hx]; simp only; rw [if_neg hl]
set_option linter.unusedSimpArgs false in
set_option maxRecDepth 100000 in
set_option maxHeartbeats 4000000 in
theorem cost_any (v : Value) (d : Aut) (Z : Option Addr) (cz : Nat) (z : List Int) (w : World) (h : DfaAt w w.heap.size v d) (hZ : IntsAt w w.heap.size Z z) (hz : z.length ≤ 17592186044416) :
    Calls Try.prog 10 #[v, .slice Z z.length cz] w fun e w' => Hid (e = .returned (.tuple #[.int .i64 (((costO2 d z).1 : Nat) : Int), errV (costO2 d z).2])) ∧ Below w.heap.size w w' := by
  have hV := h
  obtain ⟨L, s, A, c, F, cf, rfl, h⟩ := h
  obtain ⟨w1, hw1, hB1, hX, hd1⟩ := box_dfa w h
  have hV1 := hV.on hB1
  have hZ1 := hZ.on hB1
  have HB := Lib.hid hB1
  have HW := Lib.hid hw1
  have hc0 := hX.c0
  have hc1 := hX.c1
  have hc2 := hX.c2
  have hc3 := hX.c3
  rcases ha : aErr d z with _ | e0
  · obtain ⟨g1, g2⟩ := aErr_good ha
    have gd := dchk_iff.1 g1
    have hC := newm_good _ d Z cz z w1 hV1 hZ1 g1 g2
    obtain ⟨_, h80, _⟩ := chk_iff.1 g2
    rcases hx : mendW d z with _ | x
    · rw [costO2_none ha hx]
      have HC : Hid (Calls Try.prog 20 #[.agg #[.int .i64 L, .int .i64 s, .slice A d.next.length c, .slice F d.fin.length cf], .slice Z z.length cz] w1 fun e w' => e = .returned (.tuple #[.agg #[.int .i64 0, .int .i64 0, .slice none 0 0, .slice none 0 0, .slice none 0 0, .slice none 0 0], .iface 55 (.int .i64 5)]) ∧ Below w1.heap.size w1 w') := hC.mono fun e w' ⟨h1, h2⟩ => ⟨h1.out.2 hx, h2⟩
      clear hC hV hV1 h hw1 hB1 hX hd1 hZ hZ1 g1 g2 gd ha hx h80
      generalize d.next.length = n at *
      generalize d.fin.length = nf at *
      generalize z.length = m at *
      go_enter Try.func10, Try.ntmps10
      go_wp2_with fail
      rw [← HW.out]
      refine HC.out.mono ?_
      rintro e w2 ⟨rfl, hb⟩
      have HB2 := Lib.hid (HB.out.trans (hb.mono HB.out.size))
      clear hb HC hc0 hc1 hc2 hc3
      go_wp2
      go_ret2
      exact ⟨rfl, HB2.out.alloc HB2.out.size _⟩
    · rw [costO2_some ha hx]
      have HC : Hid (Calls Try.prog 20 #[.agg #[.int .i64 L, .int .i64 s, .slice A d.next.length c, .slice F d.fin.length cf], .slice Z z.length cz] w1 fun e w' => (∃ L s A c F cf T ct, e = .returned (.tuple #[menV L s A d.next.length c F d.next.length cf Z z.length cz T ct, .nilIface]) ∧ Hid (MenIs w' w'.heap.size L s A c F cf Z cz T ct d z)) ∧ Below w1.heap.size w1 w') := hC.mono fun e w' ⟨h1, h2⟩ => ⟨h1.out.1 x hx, h2⟩
      have HE := Lib.hid fun (L s : Int) (A : Option Addr) (c : Nat) (F : Option Addr) (cf : Nat) (T : Option Addr) (ct : Nat) (W : World) (hW : MenIs W W.heap.size L s A c F cf Z cz T ct d z) => edits_any L s A d.next.length c F d.next.length cf Z z.length cz T ct d z W gd rfl rfl hW
      have hdv : cst d d.s.toNat z / 1000 = x.1 := by rw [cst_mend gd h80 hx]; have := (mend_far gd h80 hx).2; omega
      rw [hdv] at HE
      clear hC hV hV1 h hw1 hB1 hX hd1 hZ hZ1 g1 g2 gd ha hx h80 hdv
      generalize d.next.length = n at *
      generalize d.fin.length = nf at *
      generalize z.length = m at *
      go_enter Try.func10, Try.ntmps10
      go_wp2_with fail
      rw [← HW.out]
      refine HC.out.mono ?_
      rintro e w2 ⟨⟨L2, s2, A2, c2, F2, cf2, T2, ct2, rfl, HM⟩, hb⟩
      have HB2 := Lib.hid (HB.out.trans (hb.mono HB.out.size))
      have HM2 := Lib.hid (HM.out.on (below_alloc w2 (.cells #[.int .i64 L2, .int .i64 s2, .slice A2 n c2, .slice F2 n cf2, .slice Z m cz, .slice T2 (m + 1) ct2] 51)))
      have HB3 := Lib.hid (HB2.out.alloc HB2.out.size (.cells #[.int .i64 L2, .int .i64 s2, .slice A2 n c2, .slice F2 n cf2, .slice Z m cz, .slice T2 (m + 1) ct2] 51))
      clear hb HC hc0 hc1 hc2 hc3
      go_wp2_with fail
      refine (HE.out L2 s2 A2 c2 F2 cf2 T2 ct2 _ HM2.out).mono ?_
      rintro e w4 ⟨he, hb4⟩
      obtain rfl := he.out
      have HB4 := Lib.hid (HB3.out.trans (hb4.mono HB3.out.size))
      clear he hb4 HE HM2 HM
      go_wp2
      go_ret2
      exact ⟨rfl, HB4.out⟩
  · have HC := Lib.hid (newm_bad _ d Z cz z w1 hV1 hZ1 hz ha)
    rw [costO2_bad ha]
    rw [show errV (e0 + 1) = errI ((e0 + 1 : Nat) : Int) from rfl] at HC ⊢
    obtain ⟨E, hE⟩ : ∃ E, ((e0 + 1 : Nat) : Int) = E := ⟨_, rfl⟩
    rw [hE] at HC ⊢
    clear hV hV1 h hw1 hB1 hX hd1 hZ hZ1 ha hz hE
    generalize d.next.length = n at *
    generalize d.fin.length = nf at *
    generalize z.length = m at *
    go_enter Try.func10, Try.ntmps10
    go_wp2_with fail
    rw [← HW.out]
    refine HC.out.mono ?_
    rintro e w2 ⟨he, hb⟩
    obtain rfl := he.out
    have HB2 := Lib.hid (HB.out.trans (hb.mono HB.out.size))
    clear hb HC hc0 hc1 hc2 hc3 he
    go_wp2
    go_ret2
    exact ⟨rfl, HB2.out.alloc HB2.out.size _⟩
set_option linter.unusedSimpArgs false in
set_option maxRecDepth 100000 in
set_option maxHeartbeats 4000000 in
theorem mend_any (v : Value) (d : Aut) (Z : Option Addr) (cz : Nat) (z : List Int) (w : World) (h : DfaAt w w.heap.size v d) (hZ : IntsAt w w.heap.size Z z) (hz : z.length ≤ 17592186044416) :
    Calls Try.prog 7 #[v, .slice Z z.length cz] w fun e w' => Hid (∃ wv, e = .returned (.tuple #[wv, .int .i64 (((mendO2 d z).2.1 : Nat) : Int), errV (mendO2 d z).2.2]) ∧ Own w w' [] [eInts wv (mendO2 d z).1]) := by
  have hV := h
  obtain ⟨L, s, A, c, F, cf, rfl, h⟩ := h
  obtain ⟨w1, hw1, hB1, hX, hd1⟩ := box_dfa w h
  have hV1 := hV.on hB1
  have hZ1 := hZ.on hB1
  have HB := Lib.hid hB1
  have HW := Lib.hid hw1
  have hc0 := hX.c0
  have hc1 := hX.c1
  have hc2 := hX.c2
  have hc3 := hX.c3
  rcases ha : aErr d z with _ | e0
  · obtain ⟨g1, g2⟩ := aErr_good ha
    have gd := dchk_iff.1 g1
    have hC := newm_good _ d Z cz z w1 hV1 hZ1 g1 g2
    obtain ⟨_, h80, _⟩ := chk_iff.1 g2
    rcases hx : mendW d z with _ | x
    · rw [mendO2_none ha hx]
      have HC : Hid (Calls Try.prog 20 #[.agg #[.int .i64 L, .int .i64 s, .slice A d.next.length c, .slice F d.fin.length cf], .slice Z z.length cz] w1 fun e w' => e = .returned (.tuple #[.agg #[.int .i64 0, .int .i64 0, .slice none 0 0, .slice none 0 0, .slice none 0 0, .slice none 0 0], .iface 55 (.int .i64 5)]) ∧ Below w1.heap.size w1 w') := hC.mono fun e w' ⟨h1, h2⟩ => ⟨h1.out.2 hx, h2⟩
      clear hC hV hV1 h hw1 hB1 hX hd1 hZ hZ1 g1 g2 gd ha hx h80
      generalize d.next.length = n at *
      generalize d.fin.length = nf at *
      generalize z.length = m at *
      go_enter Try.func7, Try.ntmps7
      go_wp2_with fail
      rw [← HW.out]
      refine HC.out.mono ?_
      rintro e w2 ⟨rfl, hb⟩
      have HB2 := Lib.hid (HB.out.trans (hb.mono HB.out.size))
      clear hb HC hc0 hc1 hc2 hc3
      go_wp2
      go_ret3
      exact ⟨_, rfl, mown_nil (HB2.out.alloc HB2.out.size _)⟩
    · have HC : Hid (Calls Try.prog 20 #[.agg #[.int .i64 L, .int .i64 s, .slice A d.next.length c, .slice F d.fin.length cf], .slice Z z.length cz] w1 fun e w' => (∃ L s A c F cf T ct, e = .returned (.tuple #[menV L s A d.next.length c F d.next.length cf Z z.length cz T ct, .nilIface]) ∧ Hid (MenIs w' w'.heap.size L s A c F cf Z cz T ct d z)) ∧ Below w1.heap.size w1 w') := hC.mono fun e w' ⟨h1, h2⟩ => ⟨h1.out.1 x hx, h2⟩
      have HE := Lib.hid fun (L s : Int) (A : Option Addr) (c : Nat) (F : Option Addr) (cf : Nat) (T : Option Addr) (ct : Nat) (W : World) (hW : MenIs W W.heap.size L s A c F cf Z cz T ct d z) => edits_any L s A d.next.length c F d.next.length cf Z z.length cz T ct d z W gd rfl rfl hW
      have HLt := Lib.hid fun (L s : Int) (A : Option Addr) (c : Nat) (F : Option Addr) (cf : Nat) (T : Option Addr) (ct : Nat) (W : World) (hW : MenIs W W.heap.size L s A c F cf Z cz T ct d z) => letters_any L s A d.next.length c F d.next.length cf Z z.length cz T ct d z W gd rfl rfl hW
      have hf := mend_far gd h80 hx
      have hcm := cst_mend gd h80 hx
      have hdv : cst d d.s.toNat z / 1000 = x.1 := by rw [hcm]; omega
      have hmv : cst d d.s.toNat z % 1000 = x.2.length := by rw [hcm]; omega
      rw [hdv] at HE
      rw [hmv] at HLt
      by_cases hl : 80 < x.2.length
      · rw [mendO2_full ha hx hl]
        clear hC hV hV1 h hw1 hB1 hX hd1 hZ hZ1 g1 g2 gd ha hx h80 hdv hmv hcm hf HE
        obtain ⟨len, hlen⟩ : ∃ len, x.2.length = len := ⟨_, rfl⟩
        rw [hlen] at HLt hl
        clear hlen
        generalize d.next.length = n at *
        generalize d.fin.length = nf at *
        generalize z.length = m at *
        go_enter Try.func7, Try.ntmps7
        go_wp2_with fail
        rw [← HW.out]
        refine HC.out.mono ?_
        rintro e w2 ⟨⟨L2, s2, A2, c2, F2, cf2, T2, ct2, rfl, HM⟩, hb⟩
        have HB2 := Lib.hid (HB.out.trans (hb.mono HB.out.size))
        have HM2 := Lib.hid (HM.out.on (below_alloc w2 (.cells #[.int .i64 L2, .int .i64 s2, .slice A2 n c2, .slice F2 n cf2, .slice Z m cz, .slice T2 (m + 1) ct2] 51)))
        have HB3 := Lib.hid (HB2.out.alloc HB2.out.size (.cells #[.int .i64 L2, .int .i64 s2, .slice A2 n c2, .slice F2 n cf2, .slice Z m cz, .slice T2 (m + 1) ct2] 51))
        clear hb HC hc0 hc1 hc2 hc3
        go_wp2_with fail
        refine (HLt.out L2 s2 A2 c2 F2 cf2 T2 ct2 _ HM2.out).mono ?_
        rintro e w4 ⟨he, hb4⟩
        obtain rfl := he.out
        have HB4 := Lib.hid (HB3.out.trans (hb4.mono HB3.out.size))
        have hl2 : (80 : Int) < (len : Int) := by omega
        clear he hb4 HLt HM2 HM
        go_wp2
        go_ret3
        exact ⟨_, rfl, mown_nil HB4.out⟩
      · rw [mendO2_some ha hx hl]
        have HF := Lib.hid fun (L s : Int) (A : Option Addr) (c : Nat) (F : Option Addr) (cf : Nat) (T : Option Addr) (ct : Nat) (W : World) (hW : MenIs W W.heap.size L s A c F cf Z cz T ct d z) => mfirst_any L s A d.next.length c F d.next.length cf Z z.length cz T ct d z x W gd rfl rfl h80 hW hx (by omega)
        clear hC hV hV1 h hw1 hB1 hX hd1 hZ hZ1 g1 g2 gd ha hx h80 hdv hmv hcm hf
        obtain ⟨len, hlen⟩ : ∃ len, x.2.length = len := ⟨_, rfl⟩
        rw [hlen] at HLt hl
        clear hlen
        generalize d.next.length = n at *
        generalize d.fin.length = nf at *
        generalize z.length = m at *
        go_enter Try.func7, Try.ntmps7
        go_wp2_with fail
        rw [← HW.out]
        refine HC.out.mono ?_
        rintro e w2 ⟨⟨L2, s2, A2, c2, F2, cf2, T2, ct2, rfl, HM⟩, hb⟩
        have HB2 := Lib.hid (HB.out.trans (hb.mono HB.out.size))
        have hx3 := men_soon w2 L2 s2 A2 n c2 F2 n cf2 Z m cz T2 ct2
        have HM2 := Lib.hid (HM.out.on (below_alloc w2 (.cells #[.int .i64 L2, .int .i64 s2, .slice A2 n c2, .slice F2 n cf2, .slice Z m cz, .slice T2 (m + 1) ct2] 51)))
        have HB3 := Lib.hid (HB2.out.alloc HB2.out.size (.cells #[.int .i64 L2, .int .i64 s2, .slice A2 n c2, .slice F2 n cf2, .slice Z m cz, .slice T2 (m + 1) ct2] 51))
        have HX3 := Lib.hid hx3
        clear hb HC hc0 hc1 hc2 hc3 hx3
        go_wp2_with fail
        refine (HLt.out L2 s2 A2 c2 F2 cf2 T2 ct2 _ HM2.out).mono ?_
        rintro e w4 ⟨he, hb4⟩
        obtain rfl := he.out
        have HB4 := Lib.hid (HB3.out.trans (hb4.mono HB3.out.size))
        have HM4 := Lib.hid (HM2.out.on hb4)
        have hx4 := HX3.out.on hb4
        have hl2 : ¬ (80 : Int) < (len : Int) := by omega
        have hc0 := hx4.c0
        have hc1 := hx4.c1
        have hc2 := hx4.c2
        have hc3 := hx4.c3
        have hc4 := hx4.c4
        have hc5 := hx4.c5
        have HK : Hid (∀ W, Below w4.heap.size w4 W → W.cell? ⟨w2.heap.size, 0, none⟩ = some (.int .i64 L2) ∧ W.cell? ⟨w2.heap.size, 1, none⟩ = some (.int .i64 s2) ∧ W.cell? ⟨w2.heap.size, 2, none⟩ = some (.slice A2 n c2) ∧ W.cell? ⟨w2.heap.size, 3, none⟩ = some (.slice F2 n cf2) ∧ W.cell? ⟨w2.heap.size, 4, none⟩ = some (.slice Z m cz) ∧ W.cell? ⟨w2.heap.size, 5, none⟩ = some (.slice T2 (m + 1) ct2)) := fun W hW => by
          have h := hx4.on hW
          exact ⟨h.c0, h.c1, h.c2, h.c3, h.c4, h.c5⟩
        have HE4 := Lib.hid fun W (hW : Below w4.heap.size w4 W) => HE.out L2 s2 A2 c2 F2 cf2 T2 ct2 W (HM4.out.on hW)
        have HF4 := Lib.hid fun W (hW : Below w4.heap.size w4 W) => HF.out L2 s2 A2 c2 F2 cf2 T2 ct2 W (HM4.out.on hW)
        have HD4 : Hid (Below w4.heap.size w4 w4.drew) := (Below.refl _ _).drew
        clear he hb4 HLt HM2 HM HE HF hx4 HX3
        go_wp2_with fail
        go_region_held3 (fun W => W.cell? ⟨w2.heap.size, 0, none⟩ = some (.int .i64 L2) ∧ W.cell? ⟨w2.heap.size, 1, none⟩ = some (.int .i64 s2) ∧ W.cell? ⟨w2.heap.size, 2, none⟩ = some (.slice A2 n c2) ∧ W.cell? ⟨w2.heap.size, 3, none⟩ = some (.slice F2 n cf2) ∧ W.cell? ⟨w2.heap.size, 4, none⟩ = some (.slice Z m cz) ∧ W.cell? ⟨w2.heap.size, 5, none⟩ = some (.slice T2 (m + 1) ct2))
          (first | exact HK.out _ HB6.out | exact HK.out _ HB5.out | exact HK.out _ HD4.out)
          (first | (go_at_call 23; refine (HE4.out _ HB5.out).mono ?_; rintro e w6 ⟨he, hb⟩; obtain rfl := he.out; have HB6 := Lib.hid (HB5.out.trans (hb.mono HB5.out.size)); have HO6 := Lib.hid (HO5.out.on hb); clear he hb) | (go_at_call 22; refine (HF4.out _ HB5.out).mono ?_; rintro e w6 he; obtain ⟨v', rfl, ho⟩ := he.out; have HB6 := Lib.hid (HB5.out.trans (ho.below.mono HB5.out.size)); have HO6 := Lib.hid (ho.base HB5.out); clear he ho) | (go_at_call 23; refine (HE4.out _ HD4.out).mono ?_; rintro e w5 ⟨he, hb⟩; obtain rfl := he.out; have HB5 := Lib.hid (HD4.out.trans (hb.mono HD4.out.size)); clear he hb) | (go_at_call 22; refine (HF4.out _ HD4.out).mono ?_; rintro e w5 he; obtain ⟨v', rfl, ho⟩ := he.out; have HB5 := Lib.hid (HD4.out.trans (ho.below.mono HD4.out.size)); have HO5 := Lib.hid (ho.base HD4.out); clear he ho))
        all_goals
          have HEnd := Lib.hid (HO6.out.base HB4.out).fin
          clear HE4 HF4 HK
          go_wp2
          go_ret3
          exact ⟨_, rfl, HEnd.out⟩
  · have HC := Lib.hid (newm_bad _ d Z cz z w1 hV1 hZ1 hz ha)
    rw [mendO2_bad ha]
    rw [show errV (e0 + 1) = errI ((e0 + 1 : Nat) : Int) from rfl] at HC ⊢
    obtain ⟨E, hE⟩ : ∃ E, ((e0 + 1 : Nat) : Int) = E := ⟨_, rfl⟩
    rw [hE] at HC ⊢
    clear hV hV1 h hw1 hB1 hX hd1 hZ hZ1 ha hz hE
    generalize d.next.length = n at *
    generalize d.fin.length = nf at *
    generalize z.length = m at *
    go_enter Try.func7, Try.ntmps7
    go_wp2_with fail
    rw [← HW.out]
    refine HC.out.mono ?_
    rintro e w2 ⟨he, hb⟩
    obtain rfl := he.out
    have HB2 := Lib.hid (HB.out.trans (hb.mono HB.out.size))
    clear hb HC hc0 hc1 hc2 hc3 he
    go_wp2
    go_ret3
    exact ⟨_, rfl, mown_nil (HB2.out.alloc HB2.out.size _)⟩
end Go.Proofs.Ytfiknbdpjnpkdaa.Me

namespace Go.Proofs.Ytfiknbdpjnpkdaa.Me
open Go.RowKit Go.IntWalk Go.Proofs.Ytfiknbdpjnpkdaa.Wd Go.Proofs.Ytfiknbdpjnpkdaa.Wo Go.Proofs.Ytfiknbdpjnpkdaa.Df Go.Proofs.Ytfiknbdpjnpkdaa.Rc Go.Proofs.Ytfiknbdpjnpkdaa.Ne

theorem aErr_acc (d : Aut) (z : List Int) : accErr d z = aErr d z := by
  unfold accErr aErr
  by_cases h : dchk d = 0
  · rw [if_pos h, if_neg (by omega)]
  · rw [if_neg h, if_pos h]
theorem aErr_zero {d : Aut} {z : List Int} (gd : Df.Good d) (hf : Fine d.L z) : aErr d z = 0 := by
  unfold aErr; rw [if_pos (dchk_iff.2 gd)]; exact chk_iff.2 hf
theorem acc_fine {d : Aut} {l : List Int} (gd : Df.Good d) (hf : Fine d.L l) : accErr d l = 0 ∧ accOut d l = accA d l := by
  have h : accErr d l = 0 := by rw [aErr_acc]; exact aErr_zero gd hf
  exact ⟨h, by unfold accOut; rw [if_pos h]⟩
/-- What comes of a word: all that can. -/
theorem mendO2_ways (d : Aut) (z : List Int) :
    (∃ e, aErr d z = e + 1 ∧ mendO2 d z = ([], 0, e + 1) ∧ costO2 d z = (0, e + 1)) ∨
    (aErr d z = 0 ∧ mendW d z = none ∧ mendO2 d z = ([], 0, 5) ∧ costO2 d z = (0, 5)) ∨
    (∃ x, aErr d z = 0 ∧ mendW d z = some x ∧ 80 < x.2.length ∧ mendO2 d z = ([], 0, 4) ∧ costO2 d z = (x.1, 0)) ∨
    (∃ x, aErr d z = 0 ∧ mendW d z = some x ∧ x.2.length ≤ 80 ∧ mendO2 d z = (x.2, x.1, 0) ∧ costO2 d z = (x.1, 0)) := by
  rcases ha : aErr d z with _ | e
  · right
    rcases hx : mendW d z with _ | x
    · exact .inl ⟨rfl, rfl, mendO2_none ha hx, costO2_none ha hx⟩
    · right
      by_cases hl : 80 < x.2.length
      · exact .inl ⟨x, rfl, rfl, hl, mendO2_full ha hx hl, costO2_some ha hx⟩
      · exact .inr ⟨x, rfl, rfl, by omega, mendO2_some ha hx hl, costO2_some ha hx⟩
  · exact .inl ⟨e, rfl, mendO2_bad ha, costO2_bad ha⟩
theorem word_small6 {L : Int} (hL : L ≤ 6) {z : List Int} (h : Word L z) : ∀ x ∈ z, Small x := fun x hx => by
  have := h x hx
  exact ⟨by omega, by omega⟩
section
variable {W : World} {v : Value} {d : Aut} {Z : Option Addr} {cz : Nat} {z : List Int} {c k : Nat} {C : Int} {E : Value}
theorem cost_gives (h : DfaAt W W.heap.size v d) (hZ : IntsAt W W.heap.size Z z) (hz : z.length ≤ 17592186044416) (hr : costO2 d z = (c, k)) (hC : (c : Int) = C) (hE : errV k = E) :
    Calls Try.prog 10 #[v, .slice Z z.length cz] W fun e w' => e = .returned (.tuple #[.int .i64 C, E]) ∧ Below W.heap.size W w' :=
  (cost_any v d Z cz z W h hZ hz).mono fun e w' ⟨h1, h2⟩ => ⟨by rw [h1.out, hr, ← hC, ← hE], h2⟩
theorem mend_gives {l : List Int} (h : DfaAt W W.heap.size v d) (hZ : IntsAt W W.heap.size Z z) (hz : z.length ≤ 17592186044416) (hr : mendO2 d z = (l, c, k)) (hC : (c : Int) = C) (hE : errV k = E) (hs : ∀ x ∈ l, Small x) :
    Calls Try.prog 7 #[v, .slice Z z.length cz] W fun e w' => ∃ A cap, e = .returned (.tuple #[.slice A l.length cap, .int .i64 C, E]) ∧ Hid (IntsAt w' w'.heap.size A l) ∧ Below W.heap.size W w' :=
  (mend_any v d Z cz z W h hZ hz).mono fun e w' he => by
    obtain ⟨wv, h1, ho⟩ := he.out
    rw [hr] at h1 ho
    obtain ⟨A, cap, rfl, _, _, hI⟩ := own_ints_at ho (List.mem_append_right _ List.mem_cons_self) hs
    exact ⟨A, cap, by rw [h1, ← hC, ← hE], hI, ho.below⟩
end
/-! ### the closed fact -/
theorem fact_mend : mendW pairsA [1] = some (1, []) := by
  refine bestOf_iff.2 ⟨(fun x hx => by simp at hx), rfl, (by rw [lev_nil2]; rfl), fun u hu ha => ?_⟩
  have h0 : lev [1] u ≠ 0 := fun e => by
    rw [← lev_zero.1 e] at ha
    exact absurd ha (by decide)
  unfold ple plt
  by_cases e : lev [1] u = 1
  · rw [if_pos e]
    show lss u [] = false
    unfold lss
    by_cases e2 : u.length = ([] : List Int).length
    · rw [if_pos e2]
      obtain rfl := List.length_eq_zero_iff.1 e2
      rfl
    · rw [if_neg e2]; simp
  · rw [if_neg e]; simp; omega
theorem fact_out : mendO2 pairsA [1] = ([], 1, 0) := mendO2_some (x := (1, [])) rfl fact_mend (by decide)
theorem fact_cost : costO2 pairsA [1] = (1, 0) := costO2_some (x := (1, [])) rfl fact_mend
theorem one_at (W : World) : IntsAt (W.alloc (.cells #[.int .i64 1] 3)) (W.alloc (.cells #[.int .i64 1] 3)).heap.size (some ⟨W.heap.size, 0, none⟩) [1] := by
  have h := (own_start W).lit 3 1 1 #[.int .i64 1] rfl (by simp [maxLen])
  have h2 : Own W (W.alloc (.cells #[.int .i64 1] 3)) [eInts (.slice (some ⟨W.heap.size, 0, none⟩) 1 1) [1]] [] := h
  obtain ⟨A, cap, e, _, _, hI⟩ := own_ints_at h2 (List.mem_append_left _ List.mem_cons_self) (fun x hx => by simp at hx; subst hx; exact ⟨by decide, by decide⟩)
  simp only [Value.slice.injEq] at e
  rw [e.1]; exact hI
theorem fact_gives {W : World} {v : Value} (h : DfaAt W W.heap.size v pairsA) :
    Calls Try.prog 7 #[v, .slice (some ⟨W.heap.size, 0, none⟩) 1 1] (W.alloc (.cells #[.int .i64 1] 3)) fun e w' => ∃ A cap, e = .returned (.tuple #[.slice A 0 cap, .int .i64 1, .nilIface]) ∧ Below (W.alloc (.cells #[.int .i64 1] 3)).heap.size (W.alloc (.cells #[.int .i64 1] 3)) w' :=
  (mend_gives (z := [1]) (cz := 1) (C := 1) (E := .nilIface) (l := []) (h.on (below_alloc _ _)) (one_at W) (by decide) fact_out rfl rfl (fun x hx => by simp at hx)).mono fun e w' ⟨A, cap, h1, _, h2⟩ => ⟨A, cap, h1, h2⟩
theorem fact_costs {W : World} {v : Value} (h : DfaAt W W.heap.size v pairsA) :
    Calls Try.prog 10 #[v, .slice (some ⟨W.heap.size, 0, none⟩) 1 1] (W.alloc (.cells #[.int .i64 1] 3)) fun e w' => e = .returned (.tuple #[.int .i64 1, .nilIface]) ∧ Below (W.alloc (.cells #[.int .i64 1] 3)).heap.size (W.alloc (.cells #[.int .i64 1] 3)) w' :=
  cost_gives (z := [1]) (cz := 1) (C := 1) (E := .nilIface) (h.on (below_alloc _ _)) (one_at W) (by decide) fact_cost rfl rfl
set_option maxRecDepth 100000 in
set_option maxHeartbeats 2000000 in
theorem mendFact_any (w : World) : Calls Try.prog 6 #[] w fun e w' => e = .returned (.bool true) ∧ Below w.heap.size w w' := by
  have HP := Lib.hid (pairs4_any w)
  have HF := Lib.hid (fun W v (h : DfaAt W W.heap.size v pairsA) => fact_gives h)
  go_enter Try.func6, Try.ntmps6
  go_wp2_with fail
  refine HP.out.mono ?_
  rintro e w1 he
  obtain ⟨x, rfl, hx⟩ := he.out
  have B := Lib.hid (hx.below.alloc hx.below.size (.cells #[.int .i64 1] 3))
  have HX := Lib.hid hx.at_
  clear he hx HP
  go_wp2_with fail
  refine (HF.out _ _ HX.out).mono ?_
  rintro e w2 ⟨A, cap, rfl, hb⟩
  have B := Lib.hid (B.out.trans (hb.mono B.out.size))
  clear hb HX HF
  go_wp2
  go_ret
  exact ⟨rfl, B.out⟩
end Go.Proofs.Ytfiknbdpjnpkdaa.Me

/- The walks of package mend's newMender. -/
import Derived.Test.YtfiknbdpjnpkdaaDoorMendG
import Derived.Deep.DeepCutAuto
namespace Go.Proofs.YtfiknbdpjnpkdaaDoor.Me
open Go.RowKit Go.IntWalk Go.Proofs.YtfiknbdpjnpkdaaDoor.Wd Go.Proofs.YtfiknbdpjnpkdaaDoor.Wo Go.Proofs.YtfiknbdpjnpkdaaDoor.Df Go.Proofs.YtfiknbdpjnpkdaaDoor.Rc Go.Proofs.YtfiknbdpjnpkdaaDoor.Ne

/-- What is wrong: with the automaton, the word, or that there is no word at all. -/
noncomputable def mErr (d : Aut) (z : List Int) : Nat := if dchk d ≠ 0 then dchk d else if chk d.L z ≠ 0 then chk d.L z else if (mendW d z).isNone then 5 else 0
theorem own_mset {w0 w : World} {es fs : List Ent} {g : Nat} {l : List Value} (h : Own w0 w (eMen g l :: es) fs) (j : Nat) (u : Value) : Own w0 (w.setCell ⟨g, j, none⟩ u) (eMen g (l.set j u) :: es) fs := h.set j u
theorem own_mfz {w0 w : World} {es fs : List Ent} (h : Own w0 w es fs) {g : Nat} {l : List Value} (he : eMen g l ∈ es ++ fs) {j : Nat} {u : Value} (hj : l[j]? = some u) : w.frozen? ⟨g, j, none⟩ = false := (h.cell he hj).2
def zero6 : List Value := [.int .i64 0, .int .i64 0, .slice none 0 0, .slice none 0 0, .slice none 0 0, .slice none 0 0]
/-- A function that returns a mender out of its own block, and an error. -/
theorem results_men {fn : Func} {t m : Tmp} (h : fn.results = #[.cell t 56, .tmp m]) (tmps : Array Value) {w : World} {g : Nat} {v0 v1 v2 v3 v4 v5 : Value} (hp : tmps.getD t undef = .pointer (some ⟨g, 0, none⟩))
    (c0 : w.cell? ⟨g, 0, none⟩ = some v0) (c1 : w.cell? ⟨g, 1, none⟩ = some v1) (c2 : w.cell? ⟨g, 2, none⟩ = some v2) (c3 : w.cell? ⟨g, 3, none⟩ = some v3) (c4 : w.cell? ⟨g, 4, none⟩ = some v4) (c5 : w.cell? ⟨g, 5, none⟩ = some v5) :
    (results fn tmps).run Tryd.prog w = .ok (.tuple #[.agg #[v0, v1, v2, v3, v4, v5], tmps.getD m undef]) w := by
  have hp' : tmps[t]?.getD undef = .pointer (some ⟨g, 0, none⟩) := by simpa using hp
  simp [results, h, hp', go_sem, c0, c1, c2, c3, c4, c5]
theorem men_soon (w4 : World) (L s : Int) (A : Option Addr) (n c : Nat) (F : Option Addr) (nf cf : Nat) (Z : Option Addr) (m cz : Nat) (T : Option Addr) (ct : Nat) : BoxM (w4.alloc (.cells #[.int .i64 L, .int .i64 s, .slice A n c, .slice F nf cf, .slice Z m cz, .slice T (m + 1) ct] 56)) w4.heap.size L s A n c F nf cf Z m cz T ct :=
  ⟨by simp, box_cell w4 _ _ 0, box_cell w4 _ _ 1, box_cell w4 _ _ 2, box_cell w4 _ _ 3, box_cell w4 _ _ 4, box_cell w4 _ _ 5⟩
theorem men_late {w3 w4 : World} {T : Option Addr} {g m ct : Nat} {l : List Value} {fs : List Ent} (hl : l.length = 6) (h4 : Own w3 w4 [eMen g l] fs) (L s : Int) (A F Z : Option Addr) (n c nf cf cz : Nat) :
    BoxM ((((((w4.setCell ⟨g, 0, none⟩ (.int .i64 L)).setCell ⟨g, 1, none⟩ (.int .i64 s)).setCell ⟨g, 2, none⟩ (.slice A n c)).setCell ⟨g, 3, none⟩ (.slice F nf cf)).setCell ⟨g, 4, none⟩ (.slice Z m cz)).setCell ⟨g, 5, none⟩ (.slice T (m + 1) ct)) g L s A n c F nf cf Z m cz T ct ∧ Own w3 ((((((w4.setCell ⟨g, 0, none⟩ (.int .i64 L)).setCell ⟨g, 1, none⟩ (.int .i64 s)).setCell ⟨g, 2, none⟩ (.slice A n c)).setCell ⟨g, 3, none⟩ (.slice F nf cf)).setCell ⟨g, 4, none⟩ (.slice Z m cz)).setCell ⟨g, 5, none⟩ (.slice T (m + 1) ct)) [eMen g [.int .i64 L, .int .i64 s, .slice A n c, .slice F nf cf, .slice Z m cz, .slice T (m + 1) ct]] fs := by
  have h6 := own_mset (own_mset (own_mset (own_mset (own_mset (own_mset h4 0 (.int .i64 L)) 1 (.int .i64 s)) 2 (.slice A n c)) 3 (.slice F nf cf)) 4 (.slice Z m cz)) 5 (.slice T (m + 1) ct)
  obtain ⟨a0, a1, a2, a3, a4, a5, rfl⟩ : ∃ a0 a1 a2 a3 a4 a5, l = [a0, a1, a2, a3, a4, a5] := by
    rcases l with _ | ⟨a0, _ | ⟨a1, _ | ⟨a2, _ | ⟨a3, _ | ⟨a4, _ | ⟨a5, _ | ⟨_, _⟩⟩⟩⟩⟩⟩⟩ <;> simp at hl
    exact ⟨_, _, _, _, _, _, rfl⟩
  simp only [List.set_cons_zero, List.set_cons_succ] at h6
  generalize ((((((w4.setCell ⟨g, 0, none⟩ (.int .i64 L)).setCell ⟨g, 1, none⟩ (.int .i64 s)).setCell ⟨g, 2, none⟩ (.slice A n c)).setCell ⟨g, 3, none⟩ (.slice F nf cf)).setCell ⟨g, 4, none⟩ (.slice Z m cz)).setCell ⟨g, 5, none⟩ (.slice T (m + 1) ct)) = w6 at *
  have hm : ∀ l es, eMen g l ∈ [eMen g l] ++ es := fun l es => List.mem_append_left _ List.mem_cons_self
  exact ⟨⟨World.block_lt_of_cell? _ _ (own_mcell h6 (hm _ _) (j := 0) rfl), own_mcell h6 (hm _ _) rfl, own_mcell h6 (hm _ _) rfl, own_mcell h6 (hm _ _) rfl, own_mcell h6 (hm _ _) rfl, own_mcell h6 (hm _ _) rfl, own_mcell h6 (hm _ _) rfl⟩, h6⟩
/-- Nothing is laid into the block for the result. -/
theorem men_zero {w3 w4 : World} {g : Nat} {fs : List Ent} (h4 : Own w3 w4 [eMen g zero6] fs) :
    ((((((w4.setCell ⟨g, 0, none⟩ (.int .i64 0)).setCell ⟨g, 1, none⟩ (.int .i64 0)).setCell ⟨g, 2, none⟩ (.slice none 0 0)).setCell ⟨g, 3, none⟩ (.slice none 0 0)).setCell ⟨g, 4, none⟩ (.slice none 0 0)).setCell ⟨g, 5, none⟩ (.slice none 0 0)).cell? ⟨g, 0, none⟩ = some (.int .i64 0) ∧ ((((((w4.setCell ⟨g, 0, none⟩ (.int .i64 0)).setCell ⟨g, 1, none⟩ (.int .i64 0)).setCell ⟨g, 2, none⟩ (.slice none 0 0)).setCell ⟨g, 3, none⟩ (.slice none 0 0)).setCell ⟨g, 4, none⟩ (.slice none 0 0)).setCell ⟨g, 5, none⟩ (.slice none 0 0)).cell? ⟨g, 1, none⟩ = some (.int .i64 0) ∧ ((((((w4.setCell ⟨g, 0, none⟩ (.int .i64 0)).setCell ⟨g, 1, none⟩ (.int .i64 0)).setCell ⟨g, 2, none⟩ (.slice none 0 0)).setCell ⟨g, 3, none⟩ (.slice none 0 0)).setCell ⟨g, 4, none⟩ (.slice none 0 0)).setCell ⟨g, 5, none⟩ (.slice none 0 0)).cell? ⟨g, 2, none⟩ = some (.slice none 0 0) ∧ ((((((w4.setCell ⟨g, 0, none⟩ (.int .i64 0)).setCell ⟨g, 1, none⟩ (.int .i64 0)).setCell ⟨g, 2, none⟩ (.slice none 0 0)).setCell ⟨g, 3, none⟩ (.slice none 0 0)).setCell ⟨g, 4, none⟩ (.slice none 0 0)).setCell ⟨g, 5, none⟩ (.slice none 0 0)).cell? ⟨g, 3, none⟩ = some (.slice none 0 0) ∧ ((((((w4.setCell ⟨g, 0, none⟩ (.int .i64 0)).setCell ⟨g, 1, none⟩ (.int .i64 0)).setCell ⟨g, 2, none⟩ (.slice none 0 0)).setCell ⟨g, 3, none⟩ (.slice none 0 0)).setCell ⟨g, 4, none⟩ (.slice none 0 0)).setCell ⟨g, 5, none⟩ (.slice none 0 0)).cell? ⟨g, 4, none⟩ = some (.slice none 0 0) ∧ ((((((w4.setCell ⟨g, 0, none⟩ (.int .i64 0)).setCell ⟨g, 1, none⟩ (.int .i64 0)).setCell ⟨g, 2, none⟩ (.slice none 0 0)).setCell ⟨g, 3, none⟩ (.slice none 0 0)).setCell ⟨g, 4, none⟩ (.slice none 0 0)).setCell ⟨g, 5, none⟩ (.slice none 0 0)).cell? ⟨g, 5, none⟩ = some (.slice none 0 0) ∧ Below w3.heap.size w3 ((((((w4.setCell ⟨g, 0, none⟩ (.int .i64 0)).setCell ⟨g, 1, none⟩ (.int .i64 0)).setCell ⟨g, 2, none⟩ (.slice none 0 0)).setCell ⟨g, 3, none⟩ (.slice none 0 0)).setCell ⟨g, 4, none⟩ (.slice none 0 0)).setCell ⟨g, 5, none⟩ (.slice none 0 0)) := by
  have h6 := own_mset (own_mset (own_mset (own_mset (own_mset (own_mset h4 0 (.int .i64 0)) 1 (.int .i64 0)) 2 (.slice none 0 0)) 3 (.slice none 0 0)) 4 (.slice none 0 0)) 5 (.slice none 0 0)
  generalize ((((((w4.setCell ⟨g, 0, none⟩ (.int .i64 0)).setCell ⟨g, 1, none⟩ (.int .i64 0)).setCell ⟨g, 2, none⟩ (.slice none 0 0)).setCell ⟨g, 3, none⟩ (.slice none 0 0)).setCell ⟨g, 4, none⟩ (.slice none 0 0)).setCell ⟨g, 5, none⟩ (.slice none 0 0)) = w6 at *
  have hm : ∀ l es, eMen g l ∈ [eMen g l] ++ es := fun l es => List.mem_append_left _ List.mem_cons_self
  exact ⟨own_mcell h6 (hm _ _) rfl, own_mcell h6 (hm _ _) rfl, own_mcell h6 (hm _ _) rfl, own_mcell h6 (hm _ _) rfl, own_mcell h6 (hm _ _) rfl, own_mcell h6 (hm _ _) rfl, h6.below⟩
set_option linter.unusedSimpArgs false in
set_option maxRecDepth 100000 in
set_option maxHeartbeats 4000000 in
theorem newm_good (v : Value) (d : Aut) (Z : Option Addr) (cz : Nat) (z : List Int) (w : World) (h : DfaAt w w.heap.size v d) (hZ : IntsAt w w.heap.size Z z) (g1 : dchk d = 0) (g2 : chk d.L z = 0) :
    Calls Tryd.prog 24 #[v, .slice Z z.length cz] w fun e w' => Hid ((∀ x, mendW d z = some x → ∃ L s A c F cf T ct, e = .returned (.tuple #[menV L s A d.next.length c F d.next.length cf Z z.length cz T ct, .nilIface]) ∧ MenIs w' w'.heap.size L s A c F cf Z cz T ct d z) ∧ (mendW d z = none → e = .returned (.tuple #[.agg #[.int .i64 0, .int .i64 0, .slice none 0 0, .slice none 0 0, .slice none 0 0, .slice none 0 0], .iface 60 (.int .i64 5)]))) ∧ Below w.heap.size w w' := by
  have hV := h
  have gd := dchk_iff.1 g1
  obtain ⟨⟨_, _⟩, h80, hfw⟩ := chk_iff.1 g2
  obtain ⟨L, s, A, c, F, cf, rfl, h⟩ := h
  obtain ⟨w1, hw1, hB1, hX, hd1⟩ := box_dfa w h
  obtain ⟨w2, hw2⟩ : ∃ w2, w2 = w1.alloc (.cells #[.int .i64 0, .int .i64 0, .slice none 0 0, .slice none 0 0, .slice none 0 0, .slice none 0 0] 56) := ⟨_, rfl⟩
  have hB2 : Below w1.heap.size w1 w2 := by rw [hw2]; exact below_alloc _ _
  have hO : Own w1 w2 [eMen w1.heap.size zero6] [] := by rw [hw2]; exact own_men (own_start w1) _ _ _ _ _ _
  have hsz : w1.heap.size = w.heap.size + 1 := by rw [hw1]; simp
  rw [hsz] at hO
  have HO := Lib.hid hO
  have HG := Lib.hid gd
  have h40 := gd.n40
  obtain ⟨n, hn⟩ : ∃ n, d.next.length = n := ⟨_, rfl⟩
  rw [gd.fin, hn] at hX hw1
  have hV2 := (hV.on hB1).on hB2
  rw [gd.fin] at hV2
  rw [gd.fin]
  have HC1 := Lib.hid (dcheck_ok hV2 g1)
  have HZ := Lib.hid ((hZ.on hB1).on hB2)
  have HZ1 := Lib.hid (hZ.on hB1)
  have HC2 := Lib.hid fun (W : World) (hW : Below w2.heap.size w2 W) => check_ok d.L Z cz z W (by rw [h.eL]; exact h.hL) (HZ.out.on hW) (by omega) g2
  have HV := Lib.hid hV2
  have HCh := Lib.hid fun (W : World) (hW : Below w2.heap.size w2 W) => cheapest_any _ d n Z cz z W (HV.out.on hW) gd hn (HZ.out.on hW) h80
  rw [h.eL] at HC2
  have HDf := Lib.hid hd1
  have hX2 := hX.on hB2
  have HX := Lib.hid hX2
  have HW1 := Lib.hid hw1
  have HW2 := Lib.hid hw2
  have hcm : ∀ x, mendW d z = some x → cst d d.s.toNat z < 1000000 := fun x hx => by
    have := cst_mend gd h80 hx
    obtain ⟨f1, f2⟩ := mend_far gd h80 hx
    omega
  have hcn : mendW d z = none → cst d d.s.toNat z = 1000000 := cst_none
  have hs := gd.s_eq
  rw [h.es] at hs
  have hsl := gd.s_lt
  rw [h.es, hn] at hsl
  rw [h.es] at hcm hcn
  have HB1 := Lib.hid hB1
  have HN := Lib.hid hn
  obtain ⟨q, hq⟩ : ∃ q, s.toNat = q := ⟨_, rfl⟩
  rw [hq] at hs hsl hcm hcn
  subst hs
  rw [hn] at HC1 HV HCh ⊢
  obtain ⟨m, hm⟩ : ∃ m, z.length = m := ⟨_, rfl⟩
  rw [hm] at HC2 HCh h80 ⊢
  have HMl := Lib.hid hm
  have HCm := Lib.hid hcm
  have HCn := Lib.hid hcn
  have hc0 := hX2.c0
  have hc1 := hX2.c1
  have hc2 := hX2.c2
  have hc3 := hX2.c3
  clear hV hV2 h hw1 hw2 hB1 hB2 hX hX2 hO hsz hd1 gd g1 g2 hfw hZ hn hm hq hcm hcn
  go_enter Tryd.func24, Tryd.ntmps24
  go_wp2_with fail
  rw [← HW1.out, ← HW2.out]
  refine HC1.out.mono ?_
  rintro e w3 ⟨rfl, hb3⟩
  have HB3 := Lib.hid hb3
  have hX3 := HX.out.on hb3
  clear hb3 HC1 hc0 hc1 hc2 hc3
  have hc0 := hX3.c0
  have hc1 := hX3.c1
  have hc2 := hX3.c2
  have hc3 := hX3.c3
  go_wp2_with fail
  refine (HC2.out _ HB3.out).mono ?_
  rintro e w3' ⟨rfl, rfl⟩
  clear HC2
  go_wp2_with fail
  have hlt3 := (HX.out.on HB3.out).lt
  have HD1 : Hid (Below w3.heap.size w3 w3.drew) := (Below.refl _ _).drew
  have HD2 : Hid (Below w3.heap.size w3 (w3.drew.alloc (.cells #[.int .i64 0, .int .i64 0, .slice none 0 0, .slice none 0 0, .slice none 0 0, .slice none 0 0] 56))) := (Below.refl _ _).drew.alloc (Nat.le_refl _) _
  have HO2 : Hid (Own w3 (w3.drew.alloc (.cells #[.int .i64 0, .int .i64 0, .slice none 0 0, .slice none 0 0, .slice none 0 0, .slice none 0 0] 56)) [eMen w3.heap.size zero6] []) := own_men (w := w3.drew) ((own_start w3).on (Below.refl _ _).drew) _ _ _ _ _ _
  have HTab : Hid (∀ W W' tv rs, Own W W' [] (eRows tv (rs.map (·.1)) :: eEach rs) → rs.map (·.2) = rowsOf d n z → ∃ T ct, tv = .slice T (m + 1) ct ∧ m + 1 ≤ ct ∧ RowsAt W' W'.heap.size T (rowsOf d n z)) := fun W W' tv rs ho hrs => by
    obtain ⟨T, ct, e, h1, _, h2⟩ := own_rows (nv := tv) (rs := rs) ho (by simp) (fun e he => by simp [he]) (fun p hp y hy => by
      have h1 : p.2 ∈ rowsOf d n z := by rw [← hrs]; exact List.mem_map.2 ⟨p, hp, rfl⟩
      obtain ⟨i, hi, e⟩ := List.getElem_of_mem h1
      have h2 := rowsOf_at d n z i (by rw [rowsOf_length] at hi; omega)
      rw [List.getElem?_eq_getElem hi, e] at h2
      have h3 := Option.some.inj h2
      rw [h3] at hy
      exact cF_small (fun s _ => cst_never d s _) y hy)
    have hl : rs.length = m + 1 := by
      have := congrArg List.length hrs
      rw [List.length_map, rowsOf_length, HMl.out] at this; exact this
    rw [hl] at e h1
    rw [hrs] at h2
    exact ⟨T, ct, e, h1, h2⟩
  have hne1 : w.heap.size < w3.heap.size := hlt3
  have hne2 : w.heap.size ≠ w3.heap.size := by omega
  have hne3 : w3.heap.size ≠ w.heap.size := by omega
  have HBx : Hid (∀ W, Below w3.heap.size w3 W → W.cell? ⟨w.heap.size, 0, none⟩ = some (.int .i64 L) ∧ W.cell? ⟨w.heap.size, 1, none⟩ = some (.int .i64 (q : Int)) ∧ W.cell? ⟨w.heap.size, 2, none⟩ = some (.slice A n c) ∧ W.cell? ⟨w.heap.size, 3, none⟩ = some (.slice F n cf) ∧ w.heap.size < W.heap.size) := fun W hW => by
    have h := (HX.out.on HB3.out).on hW
    exact ⟨h.c0, h.c1, h.c2, h.c3, h.lt⟩
  have HA1 : Hid (Calls Tryd.prog 38 #[.agg #[.int .i64 L, .int .i64 (q : Int), .slice A n c, .slice F n cf], .slice Z m cz] w3.drew fun e w' => ∃ T ct, e = .returned (.slice T (m + 1) ct) ∧ m + 1 ≤ ct ∧ Hid (∃ rs, rs.map (·.2) = rowsOf d n z ∧ Own w3 w' [] (eRows (.slice T (m + 1) ct) (rs.map (·.1)) :: eEach rs)) ∧ w'.cell? ⟨w.heap.size, 0, none⟩ = some (.int .i64 L) ∧ w'.cell? ⟨w.heap.size, 1, none⟩ = some (.int .i64 (q : Int)) ∧ w'.cell? ⟨w.heap.size, 2, none⟩ = some (.slice A n c) ∧ w'.cell? ⟨w.heap.size, 3, none⟩ = some (.slice F n cf) ∧ w.heap.size < w'.heap.size) := (HCh.out _ (HB3.out.trans (HD1.out.mono HB3.out.size))).mono fun e w' he => by
    obtain ⟨tv, rs, rfl, hrs, ho⟩ := he.out
    have hb4 := HD1.out.trans (ho.below.mono HD1.out.size)
    obtain ⟨T, ct, rfl, htc, hT⟩ := HTab.out _ _ _ _ ho hrs
    obtain ⟨k0, k1, k2, k3, k4⟩ := HBx.out w' hb4
    exact ⟨T, ct, rfl, htc, ⟨rs, hrs, ho.base HD1.out⟩, k0, k1, k2, k3, k4⟩
  have HA2 : Hid (Calls Tryd.prog 38 #[.agg #[.int .i64 L, .int .i64 (q : Int), .slice A n c, .slice F n cf], .slice Z m cz] (w3.drew.alloc (.cells #[.int .i64 0, .int .i64 0, .slice none 0 0, .slice none 0 0, .slice none 0 0, .slice none 0 0] 56)) fun e w' => ∃ T ct, e = .returned (.slice T (m + 1) ct) ∧ m + 1 ≤ ct ∧ w'.cell? ⟨w.heap.size, 0, none⟩ = some (.int .i64 L) ∧ w'.cell? ⟨w.heap.size, 1, none⟩ = some (.int .i64 (q : Int)) ∧ w'.cell? ⟨w.heap.size, 2, none⟩ = some (.slice A n c) ∧ w'.cell? ⟨w.heap.size, 3, none⟩ = some (.slice F n cf) ∧ Hid (∃ rs, rs.map (·.2) = rowsOf d n z ∧ Own w3 w' [eMen w3.heap.size zero6] (eRows (.slice T (m + 1) ct) (rs.map (·.1)) :: eEach rs)) ∧
      (w'.cell? ⟨w3.heap.size, 0, none⟩ = some (.int .i64 0) ∧ w'.cell? ⟨w3.heap.size, 1, none⟩ = some (.int .i64 0) ∧ w'.cell? ⟨w3.heap.size, 2, none⟩ = some (.slice none 0 0) ∧ w'.cell? ⟨w3.heap.size, 3, none⟩ = some (.slice none 0 0) ∧ w'.cell? ⟨w3.heap.size, 4, none⟩ = some (.slice none 0 0) ∧ w'.cell? ⟨w3.heap.size, 5, none⟩ = some (.slice none 0 0)) ∧
      (w'.frozen? ⟨w3.heap.size, 0, none⟩ = false ∧ w'.frozen? ⟨w3.heap.size, 1, none⟩ = false ∧ w'.frozen? ⟨w3.heap.size, 2, none⟩ = false ∧ w'.frozen? ⟨w3.heap.size, 3, none⟩ = false ∧ w'.frozen? ⟨w3.heap.size, 4, none⟩ = false ∧ w'.frozen? ⟨w3.heap.size, 5, none⟩ = false)) := (HCh.out _ (HB3.out.trans (HD2.out.mono HB3.out.size))).mono fun e w' he => by
    obtain ⟨tv, rs, rfl, hrs, ho⟩ := he.out
    have hb4 := HD2.out.trans (ho.below.mono HD2.out.size)
    obtain ⟨T, ct, rfl, htc, hT⟩ := HTab.out _ _ _ _ ho hrs
    obtain ⟨k0, k1, k2, k3, k4⟩ := HBx.out w' hb4
    have h4 : Own w3 w' [eMen w3.heap.size zero6] (eRows (.slice T (m + 1) ct) (rs.map (·.1)) :: eEach rs) := (HO2.out.join ho).weak fun e he => by simpa using he
    have hm : eMen w3.heap.size zero6 ∈ [eMen w3.heap.size zero6] ++ (eRows (.slice T (m + 1) ct) (rs.map (·.1)) :: eEach rs) := List.mem_append_left _ List.mem_cons_self
    exact ⟨T, ct, rfl, htc, k0, k1, k2, k3, ⟨rs, hrs, h4⟩, ⟨own_mcell h4 hm rfl, own_mcell h4 hm rfl, own_mcell h4 hm rfl, own_mcell h4 hm rfl, own_mcell h4 hm rfl, own_mcell h4 hm rfl⟩, own_mfz h4 hm (u := .int .i64 0) rfl, own_mfz h4 hm (u := .int .i64 0) rfl, own_mfz h4 hm (u := .slice none 0 0) rfl, own_mfz h4 hm (u := .slice none 0 0) rfl, own_mfz h4 hm (u := .slice none 0 0) rfl, own_mfz h4 hm (u := .slice none 0 0) rfl⟩
  go_cut [8] (fun pv wc => Hid (∃ gm T ct rs, pv = .pointer (some ⟨gm, 0, none⟩) ∧ BoxM wc gm L (q : Int) A n c F n cf Z m cz T ct ∧ rs.map (·.2) = rowsOf d n z ∧ Own w3 wc [] (eRows (.slice T (m + 1) ct) (rs.map (·.1)) :: eEach rs)))
  case first =>
    go_region_with (first | (go_at_call 38; refine HA1.out.mono ?_; rintro e w4 ⟨T, ct, rfl, htc, HT, k0, k1, k2, k3, l4⟩) | (go_at_call 38; refine HA2.out.mono ?_; rintro e w4 ⟨T, ct, rfl, htc, k0, k1, k2, k3, HO4, ⟨x0, x1, x2, x3, x4, x5⟩, y0, y1, y2, y3, y4, y5⟩))
    all_goals
      go_wp2_with fail
      go_meet
      first
      | (obtain ⟨rs, hrs, h4⟩ := HT.out
         have hx6 := (men_soon w4 L (q : Int) A n c F n cf Z m cz T ct)
         have h6 := h4.on (below_alloc w4 (.cells #[.int .i64 L, .int .i64 (q : Int), .slice A n c, .slice F n cf, .slice Z m cz, .slice T (m + 1) ct] 56))
         exact ⟨_, T, ct, rs, rfl, hx6, hrs, h6⟩)
      | (obtain ⟨rs, hrs, h4⟩ := HO4.out
         obtain ⟨hx6, h6⟩ := men_late (T := T) (m := m) (ct := ct) rfl h4 L (q : Int) A F Z n c n cf cz
         exact ⟨_, T, ct, rs, rfl, hx6, hrs, h6.only⟩)
  case rest =>
    obtain ⟨gm, T, ct, rs, rfl, hx6, hrs, h6⟩ := hcut.out
    obtain ⟨T', ct', e', htc, hT⟩ := HTab.out _ _ _ _ h6 hrs
    obtain ⟨rfl, rfl⟩ : T = T' ∧ ct = ct' := by simpa using e'
    obtain ⟨adt, ar, cr, rfl, _, hr1, hr2, hr3⟩ := men_at (d := d) (z := z) (by rw [HN.out]; exact hT) (i := 0) (by omega)
    rw [HN.out, addr_zero] at hr1
    rw [HN.out] at hr2 hr3
    obtain ⟨adr, rfl, _, hr4⟩ := hr3 q hsl
    rw [List.drop_zero] at hr4
    have hcm := HCm.out
    have hcn := HCn.out
    have hyy := cst_never d q z
    generalize cst d q z = y at *
    have HCm2 := Lib.hid hcm
    have HCn2 := Lib.hid hcn
    have hb1 := ((HX.out.on HB3.out).on h6.below).c1
    have hm0 := hx6.c0
    have hm1 := hx6.c1
    have hm2 := hx6.c2
    have hm3 := hx6.c3
    have hm4 := hx6.c4
    have hm5 := hx6.c5
    have hOr : Own w1 wc [eMen (w.heap.size + 1) zero6] (eRows (.slice (some adt) (m + 1) ct) (rs.map (·.1)) :: eEach rs) := ((HO.out.on HB3.out).join h6).weak fun e he => by simpa using he
    have hmm : eMen (w.heap.size + 1) zero6 ∈ [eMen (w.heap.size + 1) zero6] ++ (eRows (.slice (some adt) (m + 1) ct) (rs.map (·.1)) :: eEach rs) := List.mem_append_left _ List.mem_cons_self
    have x0 := own_mcell hOr hmm (j := 0) rfl
    have x1 := own_mcell hOr hmm (j := 1) rfl
    have x2 := own_mcell hOr hmm (j := 2) rfl
    have x3 := own_mcell hOr hmm (j := 3) rfl
    have x4 := own_mcell hOr hmm (j := 4) rfl
    have x5 := own_mcell hOr hmm (j := 5) rfl
    have y0 := own_mfz hOr hmm (j := 0) rfl
    have y1 := own_mfz hOr hmm (j := 1) rfl
    have y2 := own_mfz hOr hmm (j := 2) rfl
    have y3 := own_mfz hOr hmm (j := 3) rfl
    have y4 := own_mfz hOr hmm (j := 4) rfl
    have y5 := own_mfz hOr hmm (j := 5) rfl
    have HOr := Lib.hid hOr
    have HRs := Lib.hid hrs
    have e1 : (0 : Int) < (m : Int) + 1 := by omega
    have e2 : (q : Int) < (n : Int) := by omega
    clear hcut hx6 hrs h6 hT hr3 hc0 hc1 hc2 hc3 hOr hmm HCm HCn hcm hcn
    by_cases hy1 : y < 1000000
    · have hne : ((y : Int) == 1000000) = false := int_ne (by omega)
      have HF : Hid (∀ n2, _) := fun n2 => men_late (T := some adt) (m := m) (ct := ct) rfl (HOr.out.drewN n2) L (q : Int) A F Z n c n cf cz
      go_wp2_with fail
      go_quiet (fail)
      go_wp2
      obtain ⟨hb, ho⟩ := HF.out nq
      refine bodyPost_ret (results_men rfl _ rfl hb.c0 hb.c1 hb.c2 hb.c3 hb.c4 hb.c5) rfl ⟨⟨fun x hx => ⟨L, (q : Int), A, c, F, cf, some adt, ct, rfl, ?_⟩, fun hx => ?_⟩, HB1.out.trans (ho.below.mono HB1.out.size)⟩
      · obtain ⟨T2, ct2, e2, _, hT2⟩ := HTab.out _ _ _ _ ho.only HRs.out
        obtain ⟨rfl, rfl⟩ : some adt = T2 ∧ ct = ct2 := by simpa using e2
        exact ⟨HDf.out.on ho.below, HZ1.out.on ho.below, by rw [HN.out]; exact hT2⟩
      · have := HCn2.out hx; omega
    · have hne : ((y : Int) == 1000000) = true := int_eq (by omega)
      have HF : Hid (∀ n2, _) := fun n2 => men_zero (HOr.out.drewN n2)
      go_wp2_with fail
      go_quiet (fail)
      go_wp2
      obtain ⟨z0, z1, z2, z3, z4, z5, zb⟩ := HF.out nq
      refine bodyPost_ret (results_men (t := 4) (m := 5) rfl _ rfl z0 z1 z2 z3 z4 z5) rfl ⟨⟨fun x hx => ?_, fun hx => rfl⟩, HB1.out.trans (zb.mono HB1.out.size)⟩
      have := HCm2.out x hx; omega
set_option linter.unusedSimpArgs false in
set_option maxRecDepth 100000 in
set_option maxHeartbeats 4000000 in
theorem newm_bad (v : Value) (d : Aut) (Z : Option Addr) (cz : Nat) (z : List Int) (w : World) (h : DfaAt w w.heap.size v d) (hZ : IntsAt w w.heap.size Z z) (hz : z.length ≤ 17592186044416) {e0 : Nat} (g : (if dchk d = 0 then chk d.L z else dchk d) = e0 + 1) :
    Calls Tryd.prog 24 #[v, .slice Z z.length cz] w fun e w' => Hid (e = .returned (.tuple #[.agg #[.int .i64 0, .int .i64 0, .slice none 0 0, .slice none 0 0, .slice none 0 0, .slice none 0 0], errV (e0 + 1)])) ∧ Below w.heap.size w w' := by
  have hV := h
  obtain ⟨L, s, A, c, F, cf, rfl, h⟩ := h
  obtain ⟨w1, hw1, hB1, hX, hd1⟩ := box_dfa w h
  obtain ⟨w2, hw2⟩ : ∃ w2, w2 = w1.alloc (.cells #[.int .i64 0, .int .i64 0, .slice none 0 0, .slice none 0 0, .slice none 0 0, .slice none 0 0] 56) := ⟨_, rfl⟩
  have hB2 : Below w1.heap.size w1 w2 := by rw [hw2]; exact below_alloc _ _
  have hO : Own w1 w2 [eMen w1.heap.size zero6] [] := by rw [hw2]; exact own_men (own_start w1) _ _ _ _ _ _
  have hsz : w1.heap.size = w.heap.size + 1 := by rw [hw1]; simp
  rw [hsz] at hO
  have HO := Lib.hid hO
  have hV2 := (hV.on hB1).on hB2
  have HC1 := Lib.hid (dcheck_any _ d w2 hV2)
  have HZ := Lib.hid ((hZ.on hB1).on hB2)
  have HC2 := Lib.hid fun (W : World) (hW : Below w2.heap.size w2 W) => check_any d.L Z cz z W (by rw [h.eL]; exact h.hL) (HZ.out.on hW) hz
  rw [h.eL] at HC2 g
  have hX2 := hX.on hB2
  have HX := Lib.hid hX2
  have HW1 := Lib.hid hw1
  have HW2 := Lib.hid hw2
  have HB1 := Lib.hid hB1
  have hc0 := hX2.c0
  have hc1 := hX2.c1
  have hc2 := hX2.c2
  have hc3 := hX2.c3
  have hmm : eMen (w.heap.size + 1) zero6 ∈ [eMen (w.heap.size + 1) zero6] ++ [] := List.mem_append_left _ List.mem_cons_self
  have HMm := Lib.hid hmm
  clear hV hV2 h hw1 hw2 hB1 hB2 hX hX2 hO hsz hd1 hZ hmm
  generalize d.next.length = n at *
  generalize d.fin.length = nf at *
  rw [show errV (e0 + 1) = errI ((e0 + 1 : Nat) : Int) from rfl]
  obtain ⟨E, hE⟩ : ∃ E, ((e0 + 1 : Nat) : Int) = E := ⟨_, rfl⟩
  rw [hE]
  by_cases g1 : dchk d = 0
  · rw [if_pos g1] at g
    rw [g1] at HC1
    rw [g] at HC2
    rw [show errV (e0 + 1) = errI ((e0 + 1 : Nat) : Int) from rfl, hE] at HC2
    clear g g1 hE
    generalize z.length = m at *
    go_enter Tryd.func24, Tryd.ntmps24
    go_wp2_with fail
    rw [← HW1.out, ← HW2.out]
    refine HC1.out.mono ?_
    rintro e w3 ⟨he, hb3⟩
    obtain rfl : e = .returned .nilIface := he.out
    have HB3 := Lib.hid hb3
    have hX3 := HX.out.on hb3
    have hOr := HO.out.on hb3
    clear hb3 HC1 hc0 hc1 hc2 hc3 he
    have hc0 := hX3.c0
    go_wp2_with fail
    refine (HC2.out _ HB3.out).mono ?_
    rintro e w3' ⟨he, rfl⟩
    obtain rfl : e = .returned (errI E) := he.out
    have x0 := own_mcell hOr HMm.out (j := 0) rfl
    have x1 := own_mcell hOr HMm.out (j := 1) rfl
    have x2 := own_mcell hOr HMm.out (j := 2) rfl
    have x3 := own_mcell hOr HMm.out (j := 3) rfl
    have x4 := own_mcell hOr HMm.out (j := 4) rfl
    have x5 := own_mcell hOr HMm.out (j := 5) rfl
    have y0 := own_mfz hOr HMm.out (j := 0) rfl
    have y1 := own_mfz hOr HMm.out (j := 1) rfl
    have y2 := own_mfz hOr HMm.out (j := 2) rfl
    have y3 := own_mfz hOr HMm.out (j := 3) rfl
    have y4 := own_mfz hOr HMm.out (j := 4) rfl
    have y5 := own_mfz hOr HMm.out (j := 5) rfl
    have HF := Lib.hid (men_zero hOr)
    clear HC2 he hOr hX3 hc0
    go_wp2
    obtain ⟨z0, z1, z2, z3, z4, z5, zb⟩ := HF.out
    refine bodyPost_ret (results_men (t := 4) (m := 5) rfl _ rfl z0 z1 z2 z3 z4 z5) rfl ⟨rfl, HB1.out.trans (zb.mono HB1.out.size)⟩
  · rw [if_neg g1] at g
    rw [g] at HC1
    rw [show errV (e0 + 1) = errI ((e0 + 1 : Nat) : Int) from rfl, hE] at HC1
    clear g g1 hE HC2
    generalize z.length = m at *
    go_enter Tryd.func24, Tryd.ntmps24
    go_wp2_with fail
    rw [← HW1.out, ← HW2.out]
    refine HC1.out.mono ?_
    rintro e w3 ⟨he, hb3⟩
    obtain rfl : e = .returned (errI E) := he.out
    have hOr := HO.out.on hb3
    have x0 := own_mcell hOr HMm.out (j := 0) rfl
    have x1 := own_mcell hOr HMm.out (j := 1) rfl
    have x2 := own_mcell hOr HMm.out (j := 2) rfl
    have x3 := own_mcell hOr HMm.out (j := 3) rfl
    have x4 := own_mcell hOr HMm.out (j := 4) rfl
    have x5 := own_mcell hOr HMm.out (j := 5) rfl
    have y0 := own_mfz hOr HMm.out (j := 0) rfl
    have y1 := own_mfz hOr HMm.out (j := 1) rfl
    have y2 := own_mfz hOr HMm.out (j := 2) rfl
    have y3 := own_mfz hOr HMm.out (j := 3) rfl
    have y4 := own_mfz hOr HMm.out (j := 4) rfl
    have y5 := own_mfz hOr HMm.out (j := 5) rfl
    have HF := Lib.hid (men_zero hOr)
    clear hb3 HC1 hc0 hc1 hc2 hc3 he hOr
    go_wp2
    obtain ⟨z0, z1, z2, z3, z4, z5, zb⟩ := HF.out
    refine bodyPost_ret (results_men (t := 4) (m := 5) rfl _ rfl z0 z1 z2 z3 z4 z5) rfl ⟨rfl, HB1.out.trans (zb.mono HB1.out.size)⟩
end Go.Proofs.YtfiknbdpjnpkdaaDoor.Me

/-
  The statement MeanTurnedCardSaid of this seat, proved: for every input the law returns true and its arguments read behind the call as before. Conditions: none but the row's own (each argument within the reach; the listed variable as the program lays it, tied by the given tie).
-/
import Derived.Test.YtaelgnmklepebaaDoorRows
import Derived.Test.YtaelgnmklepebaaDoorCards
import Derived.Test.YtaelgnmklepebaaDoorTie
import Derived.SevenTiedAt
import Derived.LaidLaws
import Derived.LaidHandle
import Derived.LaidMore
import Derived.Lay
import Derived.MakeChecks
import Derived.Stop.Joined
import Derived.JoinedOf
import Derived.RowKit
import Derived.RowKitTokens
import Derived.ChangeSame
import Derived.ChangeVars
import Derived.Test.YtaelgnmklepebaaDoorWords
import Derived.WalkKit
import Derived.ProofKit
import Derived.OpenShut
import Derived.ShutString
import Derived.ChangeOld
import Derived.Below
import Derived.SizedLaws
import Derived.Lib.Hide
import Derived.Test.YtaelgnmklepebaaDoorPlainP
import Derived.Test.YtaelgnmklepebaaDoorSays
namespace Go.Proofs.YtaelgnmklepebaaDoor.meanTurned
open Go.ChangeShapes Go.WideShapes Go.ChangeAt Go.RowKit Go.IntWalk Go.Proofs.YtaelgnmklepebaaDoor.Wd
open Go.ChangeMaps (open_string shut_string)
set_option linter.unusedVariables false

theorem own : ownKnob Tryd.prog.godebug = none := by kernel_rfl
theorem laidOut : laidOutB Tryd.prog = true := by kernel_rfl
theorem et : Tryd.prog.globalNamed "errors.errorType" = some 1 := by kernel_rfl
theorem rt : (Tryd.prog.cutTypes.find? (·.1 == "internal/reflectlite.rtype")).map (·.2) = some 123 := by kernel_rfl
theorem oneRow : ((List.range 175).filter fun t => Tryd.prog.rowNamed t [101, 114, 114, 111, 114]) = [25] := by kernel_rfl
theorem size : Tryd.prog.types.size = 175 := by kernel_rfl
/-- What the condition gives a walk: the variable's one cell. -/
theorem handle_of_laid {w : World} (h : laidMetH Tryd.prog [("errors.errorType", Rows.laid_errors_errorType), ("stileward/mean.exchanged", Rows.laid_stileward_mean_exchanged)] w) : w.cell? ⟨1, 0, none⟩ = some (.iface 123 (.agg #[.pointer (some ⟨5, 25, none⟩)])) := by
  have h' : laidMet Tryd.prog [("stileward/mean.exchanged", Rows.laid_stileward_mean_exchanged)] w ∧ handlesMet Tryd.prog [("errors.errorType", Rows.laid_errors_errorType)] w := h
  obtain ⟨name, u, ty, e1, e2, e3, e4, e5⟩ := h'.2 _ (List.mem_singleton.2 rfl)
  have en : name = [101, 114, 114, 111, 114] := (Option.some.inj e1).symm
  subst en
  obtain rfl := Option.some.inj (rt.symm.trans e2)
  have hm : ty ∈ (List.range 175).filter fun t => Tryd.prog.rowNamed t [101, 114, 114, 111, 114] := List.mem_filter.2 ⟨List.mem_range.2 (by rw [← size]; exact e3), e4⟩
  rw [oneRow] at hm
  obtain rfl := List.mem_singleton.1 hm
  have hh : typeHandle Tryd.prog 25 = .pointer (some ⟨5, 25, none⟩) := by kernel_rfl
  rw [hh] at e5
  simpa using World.var?_cell et e5 0
theorem etx : Tryd.prog.globalNamed "stileward/mean.exchanged" = some 0 := by kernel_rfl
theorem tyx : (Tryd.prog.globals[0]?).map (·.type) = some 97 := by kernel_rfl
set_option maxRecDepth 100000 in
set_option maxHeartbeats 4000000 in
/-- What the condition gives a walk: the table's ten cells. -/
theorem exchanged_of_laid {w : World} (h : laidMetH Tryd.prog [("errors.errorType", Rows.laid_errors_errorType), ("stileward/mean.exchanged", Rows.laid_stileward_mean_exchanged)] w) : Fm.ExAt w := by
  have h' : laidMet Tryd.prog [("stileward/mean.exchanged", Rows.laid_stileward_mean_exchanged)] w ∧ handlesMet Tryd.prog [("errors.errorType", Rows.laid_errors_errorType)] w := h
  obtain ⟨ps, ⟨g, t, cs, fuel, p, q, hg, ht, hv, hd, _, _⟩, _, _⟩ := h'.1
  obtain rfl := Option.some.inj (etx.symm.trans hg)
  obtain rfl := Option.some.inj (tyx.symm.trans ht)
  have c5 : Tryd.prog.cellsOf 3 = 1 := by kernel_rfl
  have c97 : Tryd.prog.cellsOf 97 = 10 := by kernel_rfl
  have hvv : w.var? Tryd.prog "stileward/mean.exchanged" = some #[.int .i64 1, .int .i64 0, .int .i64 2, .int .i64 3, .int .i64 5, .int .i64 4, .int .i64 7, .int .i64 6, .int .i64 9, .int .i64 8] := by
    obtain ⟨xs, m, _, ex, hlen, hl, hel⟩ := DataW.trod_array Tryd.underlying97 hd
    rw [c97] at hlen
    obtain ⟨l⟩ := cs
    match l, hlen with
    | [a0, a1, a2, a3, a4, a5, a6, a7, a8, a9], _ =>
      match xs, hl with
      | [x0, x1, x2, x3, x4, x5, x6, x7, x8, x9], _ =>
        have e3 := (DataW.agg.inj (Prod.mk.inj ex).1)
        simp only [List.map_cons, List.map_nil, List.cons.injEq, and_true] at e3
        obtain ⟨f0, f1, f2, f3, f4, f5, f6, f7, f8, f9⟩ := e3
        have k0 := hel 0 (by omega)
        rw [c5] at k0
        obtain ⟨z0, b0, d0, _⟩ := DataW.trod_int Tryd.underlying3 k0
        have k1 := hel 1 (by omega)
        rw [c5] at k1
        obtain ⟨z1, b1, d1, _⟩ := DataW.trod_int Tryd.underlying3 k1
        have k2 := hel 2 (by omega)
        rw [c5] at k2
        obtain ⟨z2, b2, d2, _⟩ := DataW.trod_int Tryd.underlying3 k2
        have k3 := hel 3 (by omega)
        rw [c5] at k3
        obtain ⟨z3, b3, d3, _⟩ := DataW.trod_int Tryd.underlying3 k3
        have k4 := hel 4 (by omega)
        rw [c5] at k4
        obtain ⟨z4, b4, d4, _⟩ := DataW.trod_int Tryd.underlying3 k4
        have k5 := hel 5 (by omega)
        rw [c5] at k5
        obtain ⟨z5, b5, d5, _⟩ := DataW.trod_int Tryd.underlying3 k5
        have k6 := hel 6 (by omega)
        rw [c5] at k6
        obtain ⟨z6, b6, d6, _⟩ := DataW.trod_int Tryd.underlying3 k6
        have k7 := hel 7 (by omega)
        rw [c5] at k7
        obtain ⟨z7, b7, d7, _⟩ := DataW.trod_int Tryd.underlying3 k7
        have k8 := hel 8 (by omega)
        rw [c5] at k8
        obtain ⟨z8, b8, d8, _⟩ := DataW.trod_int Tryd.underlying3 k8
        have k9 := hel 9 (by omega)
        rw [c5] at k9
        obtain ⟨z9, b9, d9, _⟩ := DataW.trod_int Tryd.underlying3 k9
        rw [hv]
        simp_all
  intro k hk
  match k, hk with
  | 0, _ => exact (by simpa using World.var?_cell etx hvv 0 : w.cell? ⟨0, 0, none⟩ = some (.int .i64 1))
  | 1, _ => exact (by simpa using World.var?_cell etx hvv 1 : w.cell? ⟨0, 1, none⟩ = some (.int .i64 0))
  | 2, _ => exact (by simpa using World.var?_cell etx hvv 2 : w.cell? ⟨0, 2, none⟩ = some (.int .i64 2))
  | 3, _ => exact (by simpa using World.var?_cell etx hvv 3 : w.cell? ⟨0, 3, none⟩ = some (.int .i64 3))
  | 4, _ => exact (by simpa using World.var?_cell etx hvv 4 : w.cell? ⟨0, 4, none⟩ = some (.int .i64 5))
  | 5, _ => exact (by simpa using World.var?_cell etx hvv 5 : w.cell? ⟨0, 5, none⟩ = some (.int .i64 4))
  | 6, _ => exact (by simpa using World.var?_cell etx hvv 6 : w.cell? ⟨0, 6, none⟩ = some (.int .i64 7))
  | 7, _ => exact (by simpa using World.var?_cell etx hvv 7 : w.cell? ⟨0, 7, none⟩ = some (.int .i64 6))
  | 8, _ => exact (by simpa using World.var?_cell etx hvv 8 : w.cell? ⟨0, 8, none⟩ = some (.int .i64 9))
  | 9, _ => exact (by simpa using World.var?_cell etx hvv 9 : w.cell? ⟨0, 9, none⟩ = some (.int .i64 8))
/-- Data laid by the function into a world: read there. -/
theorem met_of_lay {P : Program} {w0 w' : World} {laid : List (String × DataW Unit)} (hh : w'.heap = (w0.layVars P laid).heap) (hf : w0.layFits P laid [] = true) (hi : w0.layIfaces P laid w' = true) : laidMet P laid w' := by
  have e1 : (laid.filter fun x => (laid.map (·.1)).contains x.1) = laid := List.filter_eq_self.2 fun x hx => List.contains_iff_mem.2 (List.mem_map.2 ⟨x, hx, rfl⟩)
  have e2 : (laid.filter fun x => !(laid.map (·.1)).contains x.1) = [] := List.filter_eq_nil_iff.2 fun x hx => by rw [List.contains_iff_mem.2 (List.mem_map.2 ⟨x, hx, rfl⟩)]; simp
  exact laidMet_layVars (w0 := w0) (laid.map (·.1)) [] (by rw [e1]; exact hh) (by rw [e1]; exact hf) (by rw [e1]; exact hi) (by rw [e2]; exact LaidIn.none)
/-- A world that meets the condition: the handle's cell set, the pinned data laid. -/
noncomputable def handleWorld (os : Os) : World :=
  let w0 := World.holding Tryd.prog os ⟨#[], #[], []⟩
  { w0 with heap := w0.heap.modify 1 fun
      | .cells _ t frozen => .cells #[.iface 123 (.agg #[.pointer (some ⟨5, 25, none⟩)])] t frozen
      | o => o }
noncomputable def laidWorld (os : Os) : World := (handleWorld os).layVars Tryd.prog [("stileward/mean.exchanged", Rows.laid_stileward_mean_exchanged)]
theorem plainOf : (([("errors.errorType", Rows.laid_errors_errorType), ("stileward/mean.exchanged", Rows.laid_stileward_mean_exchanged)] : List (String × DataW Unit)).filter fun x => x.2.handleName?.isNone) = [("stileward/mean.exchanged", Rows.laid_stileward_mean_exchanged)] := by kernel_rfl
theorem laidWorld_met (os : Os) (args : Array Value) : laidMetH Tryd.prog [("errors.errorType", Rows.laid_errors_errorType), ("stileward/mean.exchanged", Rows.laid_stileward_mean_exchanged)] ((laidWorld os).forCall (fun _ _ => 0) ⟨#[], args, []⟩).memory :=
  laidMetH_of_parts (by rw [plainOf]; exact (met_of_lay (w0 := handleWorld os) (w' := laidWorld os) rfl (by kernel_rfl) (by kernel_rfl)).of_heap (by simp [World.memory, World.forCall, Input.heap])) (by kernel_rfl)
open Go.Proofs.YtaelgnmklepebaaDoor.Wo Go.Proofs.YtaelgnmklepebaaDoor.Er Go.Proofs.YtaelgnmklepebaaDoor.Fm
theorem says_gives {w : World} (hg : w.cell? ⟨1, 0, none⟩ = some (.iface 123 (.agg #[.pointer (some ⟨5, 25, none⟩)]))) (e : Nat) {E : Value} {K : Int} (hE : errV e = E) (hK : (e : Int) = K) (W : World) (hb : Below w.heap.size w W) :
    Calls Tryd.prog 9 #[E, .int .i64 K] W fun r w' => r = .returned (.bool true) ∧ Below W.heap.size W w' := by
  subst hE
  subst hK
  exact says e hg W hb
/-- Not stands ahead of sets alone. -/
def Lit (l : List Nd) : Prop := ∀ (j : Nat) (n : Nd), l[j]? = some n → n.1 = 3 → ∃ (a : Nat) (m : Nd), n.2.1 = (a : Int) ∧ l[a]? = some m ∧ m.1 = 2
theorem lit_snoc {l : List Nd} (h : Lit l) {n : Nd} (hn : n.1 ≠ 3) : Lit (l ++ [n]) := by
  intro j m hj h3
  by_cases hlt : j < l.length
  · rw [List.getElem?_append_left hlt] at hj
    obtain ⟨a, p, h1, h2, h4⟩ := h j m hj h3
    exact ⟨a, p, h1, by rw [List.getElem?_append_left (List.getElem?_eq_some_iff.1 h2).1]; exact h2, h4⟩
  · rw [List.getElem?_append_right (by omega)] at hj
    have : m = n := by
      rcases hk : j - l.length with _ | k
      · rw [hk] at hj; simpa using hj.symm
      · rw [hk] at hj; simp at hj
    rw [this] at h3
    exact absurd h3 hn
theorem lit_two {l : List Nd} (h : Lit l) (a : Int) : Lit (l ++ [(2, a, 0)] ++ [(3, (((l ++ [((2 : Int), a, (0 : Int))]).length - 1 : Nat) : Int), 0)]) := by
  have h1 := lit_snoc h (n := (2, a, 0)) (by show (2 : Int) ≠ 3; decide)
  intro j m hj h3
  have hlen : (l ++ [((2 : Int), a, (0 : Int))]).length = l.length + 1 := by simp
  by_cases hlt : j < (l ++ [((2 : Int), a, (0 : Int))]).length
  · rw [List.getElem?_append_left hlt] at hj
    obtain ⟨b, p, q1, q2, q4⟩ := h1 j m hj h3
    exact ⟨b, p, q1, by rw [List.getElem?_append_left (List.getElem?_eq_some_iff.1 q2).1]; exact q2, q4⟩
  · rw [List.getElem?_append_right (by omega)] at hj
    have : m = (3, (((l ++ [((2 : Int), a, (0 : Int))]).length - 1 : Nat) : Int), 0) := by
      rcases hk : j - (l ++ [((2 : Int), a, (0 : Int))]).length with _ | k
      · rw [hk] at hj; simpa using hj.symm
      · rw [hk] at hj; simp at hj
    subst this
    refine ⟨l.length, (2, a, 0), by simp only [hlen, Nat.add_sub_cancel], ?_, rfl⟩
    rw [List.getElem?_append_left (by omega), List.getElem?_append_right (Nat.le_refl _), Nat.sub_self]; rfl
theorem lit_flat {L : Nat} : ∀ (t : Tree) (b : Bool) (l : List Nd), Ok L t → Lit l → Lit (flat (nnf b t) l)
  | .leaf k a, b, l, h, hl => by
    rcases h with ⟨rfl, rfl⟩ | ⟨rfl, rfl⟩ | ⟨rfl, h⟩ <;> rcases b with _ | _
    · exact lit_snoc hl (by decide)
    · exact lit_snoc hl (by decide)
    · exact lit_snoc hl (by decide)
    · exact lit_snoc hl (by decide)
    · exact lit_snoc hl (by show (2 : Int) ≠ 3; decide)
    · exact lit_two hl (a : Int)
  | .un k t, b, l, h, hl => by
    rcases h.1 with rfl | rfl | rfl
    · exact lit_flat t (!b) l h.2 hl
    · rcases b with _ | _
      · exact lit_snoc (lit_flat t false l h.2 hl) (by show (6 : Int) ≠ 3; decide)
      · exact lit_snoc (lit_flat t true l h.2 hl) (by show (7 : Int) ≠ 3; decide)
    · rcases b with _ | _
      · exact lit_snoc (lit_flat t false l h.2 hl) (by show (7 : Int) ≠ 3; decide)
      · exact lit_snoc (lit_flat t true l h.2 hl) (by show (6 : Int) ≠ 3; decide)
  | .bin k t u, b, l, h, hl => by
    have h1 := fun b => lit_flat u b _ h.2.2 (lit_flat t b l h.2.1 hl)
    rcases h.1 with rfl | rfl | rfl | rfl <;> rcases b with _ | _
    · exact lit_snoc (h1 false) (by show (4 : Int) ≠ 3; decide)
    · exact lit_snoc (h1 true) (by show (5 : Int) ≠ 3; decide)
    · exact lit_snoc (h1 false) (by show (5 : Int) ≠ 3; decide)
    · exact lit_snoc (h1 true) (by show (4 : Int) ≠ 3; decide)
    · exact lit_snoc (h1 false) (by show (8 : Int) ≠ 3; decide)
    · exact lit_snoc (h1 true) (by show (9 : Int) ≠ 3; decide)
    · exact lit_snoc (h1 false) (by show (9 : Int) ≠ 3; decide)
    · exact lit_snoc (h1 true) (by show (8 : Int) ≠ 3; decide)
theorem lit_pln {L : Int} {f : List Nd} (g : FGood L f) : Lit (pln f) := lit_flat _ _ _ (root_ok g) (fun j n h => by simp at h)
theorem perr_good {L : Int} {f : List Nd} (g : FGood L f) : (perr L f = 0 ∧ (pln f).length ≤ 40) ∨ perr L f = 4 := by
  unfold perr
  rw [if_pos (fchk_iff.2 g)]
  by_cases h : (pln f).length ≤ 40
  · exact .inl ⟨if_pos h, h⟩
  · exact .inr (if_neg h)

set_option maxRecDepth 100000 in
set_option maxHeartbeats 4000000 in
theorem walk (a0 : Int) (A1 : Option Addr) (c1 : Nat) (z1 : List Fm.Nd) (A2 : Option Addr) (c2 : Nat) (z2 : List Int) (w : World) (l0 : -9223372036854775808 ≤ a0) (h0 : a0 ≤ 9223372036854775807) (v1 : Fm.NodesAt w w.heap.size A1 z1) (m1 : z1.length ≤ c1) (n1 : c1 ≤ 9223372036854775807) (r1 : z1.length ≤ 5864062014634) (v2 : IntsAt w w.heap.size A2 z2) (r2 : z2.length ≤ 17592186043904) (m2 : z2.length ≤ c2) (hg : w.cell? ⟨1, 0, none⟩ = some (.iface 123 (.agg #[.pointer (some ⟨5, 25, none⟩)]))) (hx : Fm.ExAt w) :
    Calls Tryd.prog 6 #[.int .i64 a0, .slice A1 z1.length c1, .slice A2 z2.length c2] w fun e w' => e = .returned (.bool true) ∧ Below w.heap.size w w' := by
  have hL : Small a0 := ⟨l0, h0⟩
  have HK := Lib.hid known_any
  have HN1 := Lib.hid v1
  have HZ2 := Lib.hid v2
  obtain ⟨n, hn⟩ : ∃ n, z1.length = n := ⟨_, rfl⟩
  obtain ⟨M, hM⟩ : ∃ M, z2.length = M := ⟨_, rfl⟩
  have hz2 : z2.length ≤ 17592186044416 := by omega
  have hf63 : z1.length ≤ 9223372036854775807 := by omega
  by_cases hv : verr a0 z1 z2 = 0
  · obtain ⟨g, hw⟩ := verr_iff.1 hv
    have hne := g.ne
    have hle := g.le
    have hn0 : 0 < n := by omega
    have hn41 : n ≤ 40 := by omega
    obtain ⟨b, hbv⟩ : ∃ b, b = fval z1 z2 := ⟨_, rfl⟩
    have HF := Lib.hid (fun W A c B cb => holds_is hL hf63 hz2 hn hM (.inl ⟨hv, hbv, rfl⟩) A c B cb W)
    have HE4 := Lib.hid (fun W (hb : Below w.heap.size w W) => says_gives hg 4 (E := .iface 61 (.int .i64 4)) (K := 4) rfl rfl W hb)
    have H3 := Lib.hid (fun A c W => more_one (by omega) (by omega) hn (nds_small g) 3 ((z1.length : Int) - 1) 0 (small_nd (by decide) ⟨by omega, by omega⟩ (by decide)) A c W)
    have hX := fun W (hb : Below w.heap.size w W) => hx.on hb
    have hbb : (b != b) = false := bne_self_eq_false _
    rw [hn] at H3
    obtain ⟨Z3, hZ3⟩ : ∃ Z3, Z3 = z1 ++ [(3, (n : Int) - 1, (0 : Int))] := ⟨_, rfl⟩
    rw [← hZ3] at H3
    have l3 : Z3.length = n + 1 := by rw [hZ3, List.length_append, hn]; rfl
    rcases perr_good g with ⟨hp, hp40⟩ | hp
    · obtain ⟨P, hP⟩ : ∃ P, pln z1 = P := ⟨_, rfl⟩
      obtain ⟨kp, hkp⟩ : ∃ k, P.length = k := ⟨_, rfl⟩
      rw [hP] at hp40
      have HP := Lib.hid (fun A c W (hb : Below w.heap.size w W) => plain_is hL hf63 hn hp hP hkp A c W (hX W hb))
      have HPh := Lib.hid (fun W A c B cb => holds_is (b := b) hL (by omega) hz2 hkp hM (.inl ⟨verr_iff.2 ⟨by rw [← hP]; exact pln_good g (by rw [hP]; exact hp40), hw⟩, by rw [hbv, ← hP, pln_val g], rfl⟩) A c B cb W)
      by_cases h40 : z1.length < 40
      · have hZ3' : Z3 = z1 ++ [(3, (z1.length : Int) - 1, (0 : Int))] := by rw [hZ3, hn]
        have g3 : FGood a0 Z3 := by rw [hZ3']; exact (root_un g h40 (.inl rfl)).1
        have hnv : fval Z3 z2 = !b := by rw [hZ3', not_some g h40, hbv]
        have hv3 : verr a0 Z3 z2 = 0 := verr_iff.2 ⟨g3, hw⟩
        have HH3 := Lib.hid (fun W A c B cb => holds_is hL (by omega) hz2 l3 hM (.inl ⟨hv3, hnv.symm, rfl⟩) A c B cb W)
        rcases perr_good g3 with ⟨hq, hq40⟩ | hq
        · obtain ⟨Q, hQ⟩ : ∃ Q, pln Z3 = Q := ⟨_, rfl⟩
          obtain ⟨kq, hkq⟩ : ∃ k, Q.length = k := ⟨_, rfl⟩
          rw [hQ] at hq40
          have HQ := Lib.hid (fun A c W (hb : Below w.heap.size w W) => plain_is hL (by omega) l3 hq hQ hkq A c W (hX W hb))
          have gQ : FGood a0 Q := by rw [← hQ]; exact pln_good g3 (by rw [hQ]; exact hq40)
          have hqv : fval Q z2 = !b := by rw [← hQ, pln_val g3, hnv]
          have HHQ := Lib.hid (fun W A c B cb => holds_is hL (by omega) hz2 hkq hM (.inl ⟨verr_iff.2 ⟨gQ, hw⟩, hqv.symm, rfl⟩) A c B cb W)
          have HLit : Hid (Lit Q) := by rw [← hQ]; exact lit_pln g3
          have HKq := Lib.hid hkq
          have hkq40 : kq ≤ 40 := by omega
          rw [hn, hM]
          rw [hn] at h40
          clear hv g hw hbv hX hZ3 hZ3' g3 hnv hv3 hq hq40 hQ gQ hqv hkq l3 hL hn hM hz2 hf63 hg hx v1 v2 hne hle hp hp40 hP hkp
          go_enter Tryd.func6, Tryd.ntmps6
          go_wp2_with fail
          refine (HK.out _).mono ?_
          rintro e w2 ⟨rfl, hb⟩
          have B2 := Lib.hid hb
          replace HN1 := Lib.hid (HN1.out.on hb)
          replace HZ2 := Lib.hid (HZ2.out.on hb)
          clear hb HK
          go_wp2_with fail
          refine (HF.out _ _ _ _ _ HN1.out HZ2.out).mono ?_
          rintro e w3 ⟨rfl, hb⟩
          have B3 := Lib.hid (B2.out.trans (hb.mono B2.out.size))
          replace HN1 := Lib.hid (HN1.out.on hb)
          replace HZ2 := Lib.hid (HZ2.out.on hb)
          clear hb HF
          go_wp2_with fail
          refine (HP.out _ _ _ B3.out HN1.out).mono ?_
          rintro e w4 ⟨he, hb⟩
          obtain ⟨A4, c4, rfl, N4⟩ := he.out
          have B4 := Lib.hid (B3.out.trans (hb.mono B3.out.size))
          replace HN1 := Lib.hid (HN1.out.on hb)
          replace HZ2 := Lib.hid (HZ2.out.on hb)
          clear hb he HP
          go_wp2_with fail
          refine (HPh.out _ _ _ _ _ N4.out HZ2.out).mono ?_
          rintro e w5 ⟨rfl, hb⟩
          have B5 := Lib.hid (B4.out.trans (hb.mono B4.out.size))
          replace HN1 := Lib.hid (HN1.out.on hb)
          replace HZ2 := Lib.hid (HZ2.out.on hb)
          replace N4 := Lib.hid (N4.out.on hb)
          clear hb HPh
          clear N4
          go_wp2_with fail
          refine (H3.out _ _ _ HN1.out).mono ?_
          rintro e w6 ⟨he, hb⟩
          obtain ⟨A6, c6, rfl, N6⟩ := he.out
          have B6 := Lib.hid (B5.out.trans (hb.mono B5.out.size))
          replace HN1 := Lib.hid (HN1.out.on hb)
          replace HZ2 := Lib.hid (HZ2.out.on hb)
          clear hb he H3
          go_wp2_with fail
          refine (HH3.out _ _ _ _ _ N6.out HZ2.out).mono ?_
          rintro e w7 ⟨rfl, hb⟩
          have B7 := Lib.hid (B6.out.trans (hb.mono B6.out.size))
          replace HN1 := Lib.hid (HN1.out.on hb)
          replace HZ2 := Lib.hid (HZ2.out.on hb)
          replace N6 := Lib.hid (N6.out.on hb)
          clear hb HH3
          go_wp2_with fail
          refine (HQ.out _ _ _ B7.out N6.out).mono ?_
          rintro e w8 ⟨he, hb⟩
          obtain ⟨A8, c8, rfl, N8⟩ := he.out
          have B8 := Lib.hid (B7.out.trans (hb.mono B7.out.size))
          replace HN1 := Lib.hid (HN1.out.on hb)
          replace HZ2 := Lib.hid (HZ2.out.on hb)
          replace N6 := Lib.hid (N6.out.on hb)
          clear hb he HQ
          clear N6
          go_wp2_with fail
          go_loopw [19] (fun q wr => ∃ (k : Nat), k ≤ kq ∧ q = .int .i64 k ∧ wr = w8) (fun q _ => kq - (intOf q).toNat)
          case atStart => exact ⟨0, by omega, rfl, rfl⟩
          case round =>
            obtain ⟨k, hk, rfl, rfl⟩ := hrel
            by_cases hlt : k < kq
            · obtain ⟨nd, hnd⟩ : ∃ x, Q[k]? = some x := ⟨_, List.getElem?_eq_getElem (by rw [HKq.out]; exact hlt)⟩
              obtain ⟨ad, e, hadb, d0, d1, d2⟩ := N8.out.at_ hnd
              subst e
              have hlit := HLit.out k nd hnd
              obtain ⟨x, y, zz⟩ := nd
              simp only at d0 d1 d2 hlit
              have e1 : (k : Int) < (kq : Int) := by omega
              clear hnd
              by_cases h3 : x = 3
              · subst h3
                obtain ⟨a, ⟨mx, my, mz⟩, ha, hma, hm2⟩ := hlit rfl
                obtain rfl := ha
                obtain rfl : mx = 2 := hm2
                have hak : a < kq := by have := (List.getElem?_eq_some_iff.1 hma).1; rw [HKq.out] at this; exact this
                obtain ⟨ad2, e2, _, m0, _, _⟩ := N8.out.at_ hma
                obtain rfl := Option.some.inj e2
                simp only at m0
                have e3 : (a : Int) < (kq : Int) := by omega
                clear hma hlit e2
                go_wp2
                go_roundw
                case rel => exact ⟨k + 1, by omega, by go_num, by simp⟩
                case measure => simp [intOf]; omega
              · have q3 : (x == 3) = false := beq_eq_false_iff_ne.2 h3
                clear hlit h3
                go_wp2
                go_roundw
                case rel => exact ⟨k + 1, by omega, by go_num, by simp⟩
                case measure => simp [intOf]; omega
            · obtain rfl : k = kq := by omega
              go_wp2_with fail
              refine (HHQ.out _ _ _ _ _ N8.out HZ2.out).mono ?_
              rintro e w9 ⟨rfl, hb⟩
              have B9 := Lib.hid (B8.out.trans (hb.mono B8.out.size))
              replace HN1 := Lib.hid (HN1.out.on hb)
              replace HZ2 := Lib.hid (HZ2.out.on hb)
              replace N8 := Lib.hid (N8.out.on hb)
              clear hb HHQ
              rcases b with _ | _
              · go_wp2
                go_ret
                exact ⟨rfl, B9.out⟩
              · go_wp2
                go_ret
                exact ⟨rfl, B9.out⟩
        · have HQ := Lib.hid (fun A c W (hb : Below w.heap.size w W) => plain_no hL (by omega) l3 (by rw [hq]; decide) (E := .iface 61 (.int .i64 4)) (by rw [hq]; rfl) A c W (hX W hb))
          rw [hn, hM]
          rw [hn] at h40
          clear hv g hw hbv hX hZ3 hZ3' g3 hnv hv3 hq l3 hL hn hM hz2 hf63 hg hx v1 v2 hne hle hp hp40 hP hkp
          go_enter Tryd.func6, Tryd.ntmps6
          go_wp2_with fail
          refine (HK.out _).mono ?_
          rintro e w2 ⟨rfl, hb⟩
          have B2 := Lib.hid hb
          replace HN1 := Lib.hid (HN1.out.on hb)
          replace HZ2 := Lib.hid (HZ2.out.on hb)
          clear hb HK
          go_wp2_with fail
          refine (HF.out _ _ _ _ _ HN1.out HZ2.out).mono ?_
          rintro e w3 ⟨rfl, hb⟩
          have B3 := Lib.hid (B2.out.trans (hb.mono B2.out.size))
          replace HN1 := Lib.hid (HN1.out.on hb)
          replace HZ2 := Lib.hid (HZ2.out.on hb)
          clear hb HF
          go_wp2_with fail
          refine (HP.out _ _ _ B3.out HN1.out).mono ?_
          rintro e w4 ⟨he, hb⟩
          obtain ⟨A4, c4, rfl, N4⟩ := he.out
          have B4 := Lib.hid (B3.out.trans (hb.mono B3.out.size))
          replace HN1 := Lib.hid (HN1.out.on hb)
          replace HZ2 := Lib.hid (HZ2.out.on hb)
          clear hb he HP
          go_wp2_with fail
          refine (HPh.out _ _ _ _ _ N4.out HZ2.out).mono ?_
          rintro e w5 ⟨rfl, hb⟩
          have B5 := Lib.hid (B4.out.trans (hb.mono B4.out.size))
          replace HN1 := Lib.hid (HN1.out.on hb)
          replace HZ2 := Lib.hid (HZ2.out.on hb)
          replace N4 := Lib.hid (N4.out.on hb)
          clear hb HPh
          clear N4
          go_wp2_with fail
          refine (H3.out _ _ _ HN1.out).mono ?_
          rintro e w6 ⟨he, hb⟩
          obtain ⟨A6, c6, rfl, N6⟩ := he.out
          have B6 := Lib.hid (B5.out.trans (hb.mono B5.out.size))
          replace HN1 := Lib.hid (HN1.out.on hb)
          replace HZ2 := Lib.hid (HZ2.out.on hb)
          clear hb he H3
          go_wp2_with fail
          refine (HH3.out _ _ _ _ _ N6.out HZ2.out).mono ?_
          rintro e w7 ⟨rfl, hb⟩
          have B7 := Lib.hid (B6.out.trans (hb.mono B6.out.size))
          replace HN1 := Lib.hid (HN1.out.on hb)
          replace HZ2 := Lib.hid (HZ2.out.on hb)
          replace N6 := Lib.hid (N6.out.on hb)
          clear hb HH3
          go_wp2_with fail
          refine (HQ.out _ _ _ B7.out N6.out).mono ?_
          rintro e w8 ⟨rfl, hb⟩
          have B8 := Lib.hid (B7.out.trans (hb.mono B7.out.size))
          replace HN1 := Lib.hid (HN1.out.on hb)
          replace HZ2 := Lib.hid (HZ2.out.on hb)
          replace N6 := Lib.hid (N6.out.on hb)
          clear hb HQ
          rcases b with _ | _
          · go_wp2_with fail
            refine (HE4.out _ B8.out).mono ?_
            rintro e w9 ⟨rfl, hb⟩
            have B9 := Lib.hid (B8.out.trans (hb.mono B8.out.size))
            replace HN1 := Lib.hid (HN1.out.on hb)
            replace HZ2 := Lib.hid (HZ2.out.on hb)
            replace N6 := Lib.hid (N6.out.on hb)
            clear hb HE4
            go_wp2
            go_ret
            exact ⟨rfl, B9.out⟩
          · go_wp2_with fail
            refine (HE4.out _ B8.out).mono ?_
            rintro e w9 ⟨rfl, hb⟩
            have B9 := Lib.hid (B8.out.trans (hb.mono B8.out.size))
            replace HN1 := Lib.hid (HN1.out.on hb)
            replace HZ2 := Lib.hid (HZ2.out.on hb)
            replace N6 := Lib.hid (N6.out.on hb)
            clear hb HE4
            go_wp2
            go_ret
            exact ⟨rfl, B9.out⟩
      · have e3 : verr a0 Z3 z2 = 4 := verr_four (by rw [hZ3]; exact many_bad g h40 _)
        have HH3 := Lib.hid (fun W A c B cb => holds_is hL (by omega) hz2 l3 hM (.inr ⟨by rw [e3]; decide, rfl, rfl⟩) A c B cb W)
        rw [e3] at HH3
        have hn40 : (40 : Int) ≤ (n : Int) := by omega
        rw [hn, hM]
        clear hv g hw hbv hX hZ3 e3 l3 hL hn hM hz2 hf63 hg hx v1 v2 hne hle h40 hp hp40 hP hkp
        go_enter Tryd.func6, Tryd.ntmps6
        go_wp2_with fail
        refine (HK.out _).mono ?_
        rintro e w2 ⟨rfl, hb⟩
        have B2 := Lib.hid hb
        replace HN1 := Lib.hid (HN1.out.on hb)
        replace HZ2 := Lib.hid (HZ2.out.on hb)
        clear hb HK
        go_wp2_with fail
        refine (HF.out _ _ _ _ _ HN1.out HZ2.out).mono ?_
        rintro e w3 ⟨rfl, hb⟩
        have B3 := Lib.hid (B2.out.trans (hb.mono B2.out.size))
        replace HN1 := Lib.hid (HN1.out.on hb)
        replace HZ2 := Lib.hid (HZ2.out.on hb)
        clear hb HF
        go_wp2_with fail
        refine (HP.out _ _ _ B3.out HN1.out).mono ?_
        rintro e w4 ⟨he, hb⟩
        obtain ⟨A4, c4, rfl, N4⟩ := he.out
        have B4 := Lib.hid (B3.out.trans (hb.mono B3.out.size))
        replace HN1 := Lib.hid (HN1.out.on hb)
        replace HZ2 := Lib.hid (HZ2.out.on hb)
        clear hb he HP
        go_wp2_with fail
        refine (HPh.out _ _ _ _ _ N4.out HZ2.out).mono ?_
        rintro e w5 ⟨rfl, hb⟩
        have B5 := Lib.hid (B4.out.trans (hb.mono B4.out.size))
        replace HN1 := Lib.hid (HN1.out.on hb)
        replace HZ2 := Lib.hid (HZ2.out.on hb)
        replace N4 := Lib.hid (N4.out.on hb)
        clear hb HPh
        clear N4
        go_wp2_with fail
        refine (H3.out _ _ _ HN1.out).mono ?_
        rintro e w6 ⟨he, hb⟩
        obtain ⟨A6, c6, rfl, N6⟩ := he.out
        have B6 := Lib.hid (B5.out.trans (hb.mono B5.out.size))
        replace HN1 := Lib.hid (HN1.out.on hb)
        replace HZ2 := Lib.hid (HZ2.out.on hb)
        clear hb he H3
        go_wp2_with fail
        refine (HH3.out _ _ _ _ _ N6.out HZ2.out).mono ?_
        rintro e w7 ⟨rfl, hb⟩
        have B7 := Lib.hid (B6.out.trans (hb.mono B6.out.size))
        replace HN1 := Lib.hid (HN1.out.on hb)
        replace HZ2 := Lib.hid (HZ2.out.on hb)
        replace N6 := Lib.hid (N6.out.on hb)
        clear hb HH3
        simp only [errV]
        go_wp2
        go_ret
        exact ⟨rfl, B7.out⟩
    · have HP := Lib.hid (fun A c W (hb : Below w.heap.size w W) => plain_no hL hf63 hn (by rw [hp]; decide) (E := .iface 61 (.int .i64 4)) (by rw [hp]; rfl) A c W (hX W hb))
      by_cases h40 : z1.length < 40
      · have hZ3' : Z3 = z1 ++ [(3, (z1.length : Int) - 1, (0 : Int))] := by rw [hZ3, hn]
        have g3 : FGood a0 Z3 := by rw [hZ3']; exact (root_un g h40 (.inl rfl)).1
        have hnv : fval Z3 z2 = !b := by rw [hZ3', not_some g h40, hbv]
        have hv3 : verr a0 Z3 z2 = 0 := verr_iff.2 ⟨g3, hw⟩
        have HH3 := Lib.hid (fun W A c B cb => holds_is hL (by omega) hz2 l3 hM (.inl ⟨hv3, hnv.symm, rfl⟩) A c B cb W)
        rcases perr_good g3 with ⟨hq, hq40⟩ | hq
        · obtain ⟨Q, hQ⟩ : ∃ Q, pln Z3 = Q := ⟨_, rfl⟩
          obtain ⟨kq, hkq⟩ : ∃ k, Q.length = k := ⟨_, rfl⟩
          rw [hQ] at hq40
          have HQ := Lib.hid (fun A c W (hb : Below w.heap.size w W) => plain_is hL (by omega) l3 hq hQ hkq A c W (hX W hb))
          have gQ : FGood a0 Q := by rw [← hQ]; exact pln_good g3 (by rw [hQ]; exact hq40)
          have hqv : fval Q z2 = !b := by rw [← hQ, pln_val g3, hnv]
          have HHQ := Lib.hid (fun W A c B cb => holds_is hL (by omega) hz2 hkq hM (.inl ⟨verr_iff.2 ⟨gQ, hw⟩, hqv.symm, rfl⟩) A c B cb W)
          have HLit : Hid (Lit Q) := by rw [← hQ]; exact lit_pln g3
          have HKq := Lib.hid hkq
          have hkq40 : kq ≤ 40 := by omega
          rw [hn, hM]
          rw [hn] at h40
          clear hv g hw hbv hX hZ3 hZ3' g3 hnv hv3 hq hq40 hQ gQ hqv hkq l3 hL hn hM hz2 hf63 hg hx v1 v2 hne hle hp
          go_enter Tryd.func6, Tryd.ntmps6
          go_wp2_with fail
          refine (HK.out _).mono ?_
          rintro e w2 ⟨rfl, hb⟩
          have B2 := Lib.hid hb
          replace HN1 := Lib.hid (HN1.out.on hb)
          replace HZ2 := Lib.hid (HZ2.out.on hb)
          clear hb HK
          go_wp2_with fail
          refine (HF.out _ _ _ _ _ HN1.out HZ2.out).mono ?_
          rintro e w3 ⟨rfl, hb⟩
          have B3 := Lib.hid (B2.out.trans (hb.mono B2.out.size))
          replace HN1 := Lib.hid (HN1.out.on hb)
          replace HZ2 := Lib.hid (HZ2.out.on hb)
          clear hb HF
          go_wp2_with fail
          refine (HP.out _ _ _ B3.out HN1.out).mono ?_
          rintro e w4 ⟨rfl, hb⟩
          have B4 := Lib.hid (B3.out.trans (hb.mono B3.out.size))
          replace HN1 := Lib.hid (HN1.out.on hb)
          replace HZ2 := Lib.hid (HZ2.out.on hb)
          clear hb HP
          go_wp2_with fail
          refine (HE4.out _ B4.out).mono ?_
          rintro e w5 ⟨rfl, hb⟩
          have B5 := Lib.hid (B4.out.trans (hb.mono B4.out.size))
          replace HN1 := Lib.hid (HN1.out.on hb)
          replace HZ2 := Lib.hid (HZ2.out.on hb)
          clear hb 
          go_wp2_with fail
          refine (H3.out _ _ _ HN1.out).mono ?_
          rintro e w6 ⟨he, hb⟩
          obtain ⟨A6, c6, rfl, N6⟩ := he.out
          have B6 := Lib.hid (B5.out.trans (hb.mono B5.out.size))
          replace HN1 := Lib.hid (HN1.out.on hb)
          replace HZ2 := Lib.hid (HZ2.out.on hb)
          clear hb he H3
          go_wp2_with fail
          refine (HH3.out _ _ _ _ _ N6.out HZ2.out).mono ?_
          rintro e w7 ⟨rfl, hb⟩
          have B7 := Lib.hid (B6.out.trans (hb.mono B6.out.size))
          replace HN1 := Lib.hid (HN1.out.on hb)
          replace HZ2 := Lib.hid (HZ2.out.on hb)
          replace N6 := Lib.hid (N6.out.on hb)
          clear hb HH3
          go_wp2_with fail
          refine (HQ.out _ _ _ B7.out N6.out).mono ?_
          rintro e w8 ⟨he, hb⟩
          obtain ⟨A8, c8, rfl, N8⟩ := he.out
          have B8 := Lib.hid (B7.out.trans (hb.mono B7.out.size))
          replace HN1 := Lib.hid (HN1.out.on hb)
          replace HZ2 := Lib.hid (HZ2.out.on hb)
          replace N6 := Lib.hid (N6.out.on hb)
          clear hb he HQ
          clear N6
          go_wp2_with fail
          go_loopw [19] (fun q wr => ∃ (k : Nat), k ≤ kq ∧ q = .int .i64 k ∧ wr = w8) (fun q _ => kq - (intOf q).toNat)
          case atStart => exact ⟨0, by omega, rfl, rfl⟩
          case round =>
            obtain ⟨k, hk, rfl, rfl⟩ := hrel
            by_cases hlt : k < kq
            · obtain ⟨nd, hnd⟩ : ∃ x, Q[k]? = some x := ⟨_, List.getElem?_eq_getElem (by rw [HKq.out]; exact hlt)⟩
              obtain ⟨ad, e, hadb, d0, d1, d2⟩ := N8.out.at_ hnd
              subst e
              have hlit := HLit.out k nd hnd
              obtain ⟨x, y, zz⟩ := nd
              simp only at d0 d1 d2 hlit
              have e1 : (k : Int) < (kq : Int) := by omega
              clear hnd
              by_cases h3 : x = 3
              · subst h3
                obtain ⟨a, ⟨mx, my, mz⟩, ha, hma, hm2⟩ := hlit rfl
                obtain rfl := ha
                obtain rfl : mx = 2 := hm2
                have hak : a < kq := by have := (List.getElem?_eq_some_iff.1 hma).1; rw [HKq.out] at this; exact this
                obtain ⟨ad2, e2, _, m0, _, _⟩ := N8.out.at_ hma
                obtain rfl := Option.some.inj e2
                simp only at m0
                have e3 : (a : Int) < (kq : Int) := by omega
                clear hma hlit e2
                go_wp2
                go_roundw
                case rel => exact ⟨k + 1, by omega, by go_num, by simp⟩
                case measure => simp [intOf]; omega
              · have q3 : (x == 3) = false := beq_eq_false_iff_ne.2 h3
                clear hlit h3
                go_wp2
                go_roundw
                case rel => exact ⟨k + 1, by omega, by go_num, by simp⟩
                case measure => simp [intOf]; omega
            · obtain rfl : k = kq := by omega
              go_wp2_with fail
              refine (HHQ.out _ _ _ _ _ N8.out HZ2.out).mono ?_
              rintro e w9 ⟨rfl, hb⟩
              have B9 := Lib.hid (B8.out.trans (hb.mono B8.out.size))
              replace HN1 := Lib.hid (HN1.out.on hb)
              replace HZ2 := Lib.hid (HZ2.out.on hb)
              replace N8 := Lib.hid (N8.out.on hb)
              clear hb HHQ
              rcases b with _ | _
              · go_wp2
                go_ret
                exact ⟨rfl, B9.out⟩
              · go_wp2
                go_ret
                exact ⟨rfl, B9.out⟩
        · have HQ := Lib.hid (fun A c W (hb : Below w.heap.size w W) => plain_no hL (by omega) l3 (by rw [hq]; decide) (E := .iface 61 (.int .i64 4)) (by rw [hq]; rfl) A c W (hX W hb))
          rw [hn, hM]
          rw [hn] at h40
          clear hv g hw hbv hX hZ3 hZ3' g3 hnv hv3 hq l3 hL hn hM hz2 hf63 hg hx v1 v2 hne hle hp
          go_enter Tryd.func6, Tryd.ntmps6
          go_wp2_with fail
          refine (HK.out _).mono ?_
          rintro e w2 ⟨rfl, hb⟩
          have B2 := Lib.hid hb
          replace HN1 := Lib.hid (HN1.out.on hb)
          replace HZ2 := Lib.hid (HZ2.out.on hb)
          clear hb HK
          go_wp2_with fail
          refine (HF.out _ _ _ _ _ HN1.out HZ2.out).mono ?_
          rintro e w3 ⟨rfl, hb⟩
          have B3 := Lib.hid (B2.out.trans (hb.mono B2.out.size))
          replace HN1 := Lib.hid (HN1.out.on hb)
          replace HZ2 := Lib.hid (HZ2.out.on hb)
          clear hb HF
          go_wp2_with fail
          refine (HP.out _ _ _ B3.out HN1.out).mono ?_
          rintro e w4 ⟨rfl, hb⟩
          have B4 := Lib.hid (B3.out.trans (hb.mono B3.out.size))
          replace HN1 := Lib.hid (HN1.out.on hb)
          replace HZ2 := Lib.hid (HZ2.out.on hb)
          clear hb HP
          go_wp2_with fail
          refine (HE4.out _ B4.out).mono ?_
          rintro e w5 ⟨rfl, hb⟩
          have B5 := Lib.hid (B4.out.trans (hb.mono B4.out.size))
          replace HN1 := Lib.hid (HN1.out.on hb)
          replace HZ2 := Lib.hid (HZ2.out.on hb)
          clear hb 
          go_wp2_with fail
          refine (H3.out _ _ _ HN1.out).mono ?_
          rintro e w6 ⟨he, hb⟩
          obtain ⟨A6, c6, rfl, N6⟩ := he.out
          have B6 := Lib.hid (B5.out.trans (hb.mono B5.out.size))
          replace HN1 := Lib.hid (HN1.out.on hb)
          replace HZ2 := Lib.hid (HZ2.out.on hb)
          clear hb he H3
          go_wp2_with fail
          refine (HH3.out _ _ _ _ _ N6.out HZ2.out).mono ?_
          rintro e w7 ⟨rfl, hb⟩
          have B7 := Lib.hid (B6.out.trans (hb.mono B6.out.size))
          replace HN1 := Lib.hid (HN1.out.on hb)
          replace HZ2 := Lib.hid (HZ2.out.on hb)
          replace N6 := Lib.hid (N6.out.on hb)
          clear hb HH3
          go_wp2_with fail
          refine (HQ.out _ _ _ B7.out N6.out).mono ?_
          rintro e w8 ⟨rfl, hb⟩
          have B8 := Lib.hid (B7.out.trans (hb.mono B7.out.size))
          replace HN1 := Lib.hid (HN1.out.on hb)
          replace HZ2 := Lib.hid (HZ2.out.on hb)
          replace N6 := Lib.hid (N6.out.on hb)
          clear hb HQ
          rcases b with _ | _
          · go_wp2_with fail
            refine (HE4.out _ B8.out).mono ?_
            rintro e w9 ⟨rfl, hb⟩
            have B9 := Lib.hid (B8.out.trans (hb.mono B8.out.size))
            replace HN1 := Lib.hid (HN1.out.on hb)
            replace HZ2 := Lib.hid (HZ2.out.on hb)
            replace N6 := Lib.hid (N6.out.on hb)
            clear hb HE4
            go_wp2
            go_ret
            exact ⟨rfl, B9.out⟩
          · go_wp2_with fail
            refine (HE4.out _ B8.out).mono ?_
            rintro e w9 ⟨rfl, hb⟩
            have B9 := Lib.hid (B8.out.trans (hb.mono B8.out.size))
            replace HN1 := Lib.hid (HN1.out.on hb)
            replace HZ2 := Lib.hid (HZ2.out.on hb)
            replace N6 := Lib.hid (N6.out.on hb)
            clear hb HE4
            go_wp2
            go_ret
            exact ⟨rfl, B9.out⟩
      · have e3 : verr a0 Z3 z2 = 4 := verr_four (by rw [hZ3]; exact many_bad g h40 _)
        have HH3 := Lib.hid (fun W A c B cb => holds_is hL (by omega) hz2 l3 hM (.inr ⟨by rw [e3]; decide, rfl, rfl⟩) A c B cb W)
        rw [e3] at HH3
        have hn40 : (40 : Int) ≤ (n : Int) := by omega
        rw [hn, hM]
        clear hv g hw hbv hX hZ3 e3 l3 hL hn hM hz2 hf63 hg hx v1 v2 hne hle h40 hp
        go_enter Tryd.func6, Tryd.ntmps6
        go_wp2_with fail
        refine (HK.out _).mono ?_
        rintro e w2 ⟨rfl, hb⟩
        have B2 := Lib.hid hb
        replace HN1 := Lib.hid (HN1.out.on hb)
        replace HZ2 := Lib.hid (HZ2.out.on hb)
        clear hb HK
        go_wp2_with fail
        refine (HF.out _ _ _ _ _ HN1.out HZ2.out).mono ?_
        rintro e w3 ⟨rfl, hb⟩
        have B3 := Lib.hid (B2.out.trans (hb.mono B2.out.size))
        replace HN1 := Lib.hid (HN1.out.on hb)
        replace HZ2 := Lib.hid (HZ2.out.on hb)
        clear hb HF
        go_wp2_with fail
        refine (HP.out _ _ _ B3.out HN1.out).mono ?_
        rintro e w4 ⟨rfl, hb⟩
        have B4 := Lib.hid (B3.out.trans (hb.mono B3.out.size))
        replace HN1 := Lib.hid (HN1.out.on hb)
        replace HZ2 := Lib.hid (HZ2.out.on hb)
        clear hb HP
        go_wp2_with fail
        refine (HE4.out _ B4.out).mono ?_
        rintro e w5 ⟨rfl, hb⟩
        have B5 := Lib.hid (B4.out.trans (hb.mono B4.out.size))
        replace HN1 := Lib.hid (HN1.out.on hb)
        replace HZ2 := Lib.hid (HZ2.out.on hb)
        clear hb 
        go_wp2_with fail
        refine (H3.out _ _ _ HN1.out).mono ?_
        rintro e w6 ⟨he, hb⟩
        obtain ⟨A6, c6, rfl, N6⟩ := he.out
        have B6 := Lib.hid (B5.out.trans (hb.mono B5.out.size))
        replace HN1 := Lib.hid (HN1.out.on hb)
        replace HZ2 := Lib.hid (HZ2.out.on hb)
        clear hb he H3
        go_wp2_with fail
        refine (HH3.out _ _ _ _ _ N6.out HZ2.out).mono ?_
        rintro e w7 ⟨rfl, hb⟩
        have B7 := Lib.hid (B6.out.trans (hb.mono B6.out.size))
        replace HN1 := Lib.hid (HN1.out.on hb)
        replace HZ2 := Lib.hid (HZ2.out.on hb)
        replace N6 := Lib.hid (N6.out.on hb)
        clear hb HH3
        simp only [errV]
        go_wp2
        go_ret
        exact ⟨rfl, B7.out⟩
  · obtain ⟨q, hq⟩ : ∃ q : Int, q = (verr a0 z1 z2 : Int) := ⟨_, rfl⟩
    have HF := Lib.hid (fun W A c B cb => holds_is hL hf63 hz2 hn hM (.inr ⟨hv, rfl, rfl⟩) A c B cb W)
    rw [errV_pos hv, ← hq] at HF
    rw [hn, hM]
    clear hv hn hM hq hL hg hx hz2 hf63
    go_enter Tryd.func6, Tryd.ntmps6
    go_wp2_with fail
    refine (HK.out _).mono ?_
    rintro e w2 ⟨rfl, hb⟩
    have B2 := Lib.hid hb
    replace HN1 := Lib.hid (HN1.out.on hb)
    replace HZ2 := Lib.hid (HZ2.out.on hb)
    clear hb HK
    go_wp2_with fail
    refine (HF.out _ _ _ _ _ HN1.out HZ2.out).mono ?_
    rintro e w3 ⟨rfl, hb⟩
    have B3 := Lib.hid (B2.out.trans (hb.mono B2.out.size))
    replace HN1 := Lib.hid (HN1.out.on hb)
    replace HZ2 := Lib.hid (HZ2.out.on hb)
    clear hb HF
    go_wp2
    go_ret
    exact ⟨rfl, B3.out⟩


set_option maxRecDepth 100000 in
theorem lifted (os : Os) (started : os.Started) (H : Type) (enc : TypeId × Value → H) :
    ReturnsInHanded {} Tryd.checked os 6 .any (fun w args => (Rows.meanTurnedSpec.pre enc Tryd.prog Tryd.f6 Rows.meanTurnedRow.domain false w args ∧ laidMetH Tryd.prog [("errors.errorType", Rows.laid_errors_errorType), ("stileward/mean.exchanged", Rows.laid_stileward_mean_exchanged)] w) ∧ sizedMet enc Tryd.prog Tryd.f6 (OpenSpec.ofChange Rows.meanTurnedSpec) false w args) (Rows.meanTurnedSpec.post enc Tryd.prog Tryd.f6 false true false false) := by
  refine returnsInHanded_of_change_and (C := Tryd.checked) (X := fun w _ => laidMetH Tryd.prog [("errors.errorType", Rows.laid_errors_errorType), ("stileward/mean.exchanged", Rows.laid_stileward_mean_exchanged)] w) (fun _ _ _ hh h => h.of_heap hh) own started (by kernel_rfl) Tryd.func6
    (ChangeSpec.witness_shaped (enc := enc) (C := Tryd.checked) (os := os) (X := fun w _ => laidMetH Tryd.prog [("errors.errorType", Rows.laid_errors_errorType), ("stileward/mean.exchanged", Rows.laid_stileward_mean_exchanged)] w) false (laidWorld os) #[.int .i64 0, .slice none 0 0, .slice none 0 0] 8 (World.layVars_os _ _ _)
      (World.shaped_of_ZipB (by kernel_rfl) (by kernel_rfl)) (by kernel_rfl) (by kernel_rfl) (by kernel_rfl) (laidWorld_met os _)) ?_
  intro W base args ds gs before hval0 hW hcnd hsz0 hL _
  have hval : ∀ (j : Nat) t v, Tryd.f6.params[j]? = some t → args[j]? = some v → Value.okWide Tryd.prog W .any base t v := hval0
  have hsz : (DataW.weightsEach Tryd.prog (Tryd.f6.params.toList ++ Rows.meanTurnedSpec.plain.varTypes Tryd.prog) (ds ++ gs)).all (· ≤ reachBytes) = true := hsz0
  have hW' := hW
  obtain ⟨p, q, hA0, hV0, rfl, hfz, hnd⟩ := hW
  have hV : DataW.TrodVars enc Tryd.prog W (fun _ => true) [] gs q := hV0
  have hA : DataW.TrodAll enc Tryd.prog W 0 (fun _ => true) true Tryd.f6.params.toList args.toList ds p := hA0
  rw [Tryd.params6] at hA hval hsz
  obtain ⟨v0, vs0, d0, ds0, p0, q0, hargs, rfl, rfl, h0, rr0⟩ := trodAll_cons hA
  obtain ⟨v1, vs1, d1, ds1, p1, q1, rfl, rfl, rfl, h1, rr1⟩ := trodAll_cons rr0
  obtain ⟨v2, vs2, d2, ds2, p2, q2, rfl, rfl, rfl, h2, rr2⟩ := trodAll_cons rr1
  obtain ⟨rfl, rfl, rfl⟩ := trodAll_nil rr2
  obtain rfl : args = #[v0, v1, v2] := by cases args; simp_all
  obtain ⟨rfl, rfl⟩ := trodVars_none hV
  have k0 := h0
  have lt0 : ∀ x ∈ p0, x.block < W.heap.size := by obtain ⟨m, hm⟩ := k0; exact DataW.trod_lt m _ _ _ hm
  have k1 := h1
  have lt1 : ∀ x ∈ p1, x.block < W.heap.size := by obtain ⟨m, hm⟩ := k1; exact DataW.trod_lt m _ _ _ hm
  have k2 := h2
  have lt2 : ∀ x ∈ p2, x.block < W.heap.size := by obtain ⟨m, hm⟩ := k2; exact DataW.trod_lt m _ _ _ hm
  obtain ⟨a0, rfl, rfl, rfl, w0⟩ := open_int Tryd.underlying3 (hval 0 3 v0 rfl rfl) h0
  obtain ⟨l0, hh0⟩ := bounds_i64 w0
  obtain ⟨A1, c1, z1, rfl, m1, n1, x1, r1⟩ : ∃ (A : Option Addr) (c : Nat) (l : List Fm.Nd), v1 = .slice A l.length c ∧ l.length ≤ c ∧ c ≤ 9223372036854775807 ∧ Fm.NodesAt W W.heap.size A l ∧ l.length ≤ 5864062014634 := by
    obtain ⟨A, len, c, rfl⟩ := okWide_slice Tryd.underlying22 (hval 1 22 v1 rfl rfl)
    obtain ⟨fuel, hf⟩ := h1
    obtain ⟨A2, c2, l, hcs, q1, q2, q3, q4⟩ := Fm.open_nodes hf
    simp [Value.cells] at hcs
    obtain ⟨rfl, rfl, rfl⟩ := hcs
    refine ⟨_, _, l, rfl, q1, q2, q3, ?_⟩
    rcases q4 with q4 | ⟨es, sp, hd, hl⟩
    · omega
    · have := sized_slice hsz (j := 1) (t := 22) (e := 29) (elems := es) (spare := sp) rfl (by rw [← hd]; rfl) Tryd.underlying22
      rw [(show Tryd.prog.bytesOf 29 = 24 by kernel_rfl)] at this
      simp only [reachBytes] at this
      omega
  obtain ⟨A2, len2, c2, rfl⟩ := okWide_slice Tryd.underlying23 (hval 2 23 v2 rfl rfl)
  obtain ⟨z2, rfl, x2, r2, m2⟩ : ∃ zs : List Int, len2 = zs.length ∧ IntsAt W W.heap.size A2 zs ∧ zs.length ≤ 17592186043904 ∧ zs.length ≤ c2 := by
    obtain ⟨fuel, hf⟩ := h2
    rcases open_ints Tryd.underlying23 Tryd.underlying3 (by kernel_rfl) hf with ⟨hcs, _⟩ | ⟨x, l, c, zs, hcs, _, hl, hm, hz, hx, hcell, hwz⟩
    · simp [Value.cells] at hcs
      obtain ⟨rfl, rfl, rfl⟩ := hcs
      exact ⟨[], rfl, IntsAt.nil _ _ _, by simp, by simp⟩
    · simp [Value.cells] at hcs
      obtain ⟨rfl, rfl, rfl⟩ := hcs
      have hd := congrArg Prod.fst hx
      simp only at hd
      have := sized_slice hsz (j := 2) (t := 23) (e := 3) rfl (by rw [hd]; rfl) Tryd.underlying23
      rw [(show Tryd.prog.bytesOf 3 = 8 by kernel_rfl)] at this
      simp only [reachBytes, lits, List.length_map, List.length_take, List.length_drop] at this
      have hz' : zs.length = c2 := by simpa using hz
      exact ⟨zs.take len2, by rw [List.length_take]; omega, intsAt_of_open hcell hwz len2, by rw [List.length_take]; omega, by rw [List.length_take]; omega⟩
  clear hA0 hval0
  refine (walk a0 A1 c1 z1 A2 c2 z2 W l0 hh0 x1 m1 n1 r1 x2 r2 m2 (handle_of_laid hL) (exchanged_of_laid hL)).mono fun e W' ⟨he, bel⟩ => ?_
  subst he
  exact ⟨_, rfl, _, _, _, [], _, [], hW', trodAll_mk1 (shut_bool Tryd.underlying4 _), (trodAll_cons_mk (Below.trod laidOut (by kernel_rfl) (of_decide_eq_true (by kernel_rfl)) k0 bel lt0) (trodAll_cons_mk (Below.trod laidOut (by kernel_rfl) (of_decide_eq_true (by kernel_rfl)) k1 bel lt1) (trodAll_cons_mk (Below.trod laidOut (by kernel_rfl) (of_decide_eq_true (by kernel_rfl)) k2 bel lt2) trodAll_mk0))), rfl, bel.frame _, fun h => by cases h⟩

theorem over : Rows.meanTurnedRow.holds Tryd.pinned (OpenSpec.ofChange Rows.meanTurnedSpec) :=
  OpenClaim.holds_of_wide 6 Tryd.f6 rfl rfl rfl rfl rfl rfl rfl ⟨rfl, rfl, rfl, rfl, rfl⟩ rfl rfl rfl rfl rfl (by kernel_rfl) Tryd.func6 (by kernel_rfl)
    (of_decide_eq_true (by kernel_rfl)) (by unfold Func.isWrapper; rw [if_neg (of_decide_eq_false (by kernel_rfl))]; exact ⟨rfl, rfl⟩)
    (fun os started H enc _ => lifted os started H enc)
theorem proved : Rows.MeanTurnedCardSaid :=
  Claim7.holds_tied_plain_at .later [] [.handle, .data] true (true, "9e209e03e2101e425315f778f1ed901e182aeb03f23aa0e81980e2b727e93541") true
    over (fun _ h => by cases h) (by kernel_rfl) (fun _ h => by cases h) meanTurned_row_tie rfl ⟨rfl, rfl⟩ (by kernel_rfl) rfl
    (fun f fn hf hfn => by
      obtain rfl : f = 6 := Option.some.inj ((show Tryd.prog.funcNamed "stileward/stilewardlaw3.MeanTurned" = some 6 by kernel_rfl).symm.trans hf) |>.symm
      obtain rfl : fn = Tryd.f6 := (Option.some.inj (Tryd.func6.symm.trans hfn)).symm
      exact ⟨by kernel_rfl, fun j t ht => by
        rw [Tryd.params6] at ht
        rcases j with _ | _ | _ | j
        · obtain rfl : 3 = t := by simpa using ht
          exact (show Tryd.prog.wantsStandIn 3 = false by kernel_rfl)
        · obtain rfl : 22 = t := by simpa using ht
          exact (show Tryd.prog.wantsStandIn 22 = false by kernel_rfl)
        · obtain rfl : 23 = t := by simpa using ht
          exact (show Tryd.prog.wantsStandIn 23 = false by kernel_rfl)
        · simp at ht⟩)
    (by kernel_rfl)
#print axioms proved
end Go.Proofs.YtaelgnmklepebaaDoor.meanTurned

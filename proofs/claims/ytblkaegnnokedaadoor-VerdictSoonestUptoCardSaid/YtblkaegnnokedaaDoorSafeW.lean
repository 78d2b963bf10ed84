/- The walks of package safe. -/
import Derived.Test.YtblkaegnnokedaaDoorSafeM
import Derived.Test.YtblkaegnnokedaaDoorReached
import Derived.Test.YtblkaegnnokedaaDoorSmallV
import Derived.StillTailTactics
namespace Go.Proofs.YtblkaegnnokedaaDoor.Sa
open Go.RowKit Go.IntWalk Go.Proofs.YtblkaegnnokedaaDoor.Wd Go.Proofs.YtblkaegnnokedaaDoor.Wo Go.Proofs.YtblkaegnnokedaaDoor.Df Go.Proofs.YtblkaegnnokedaaDoor.Rc Go.Proofs.YtblkaegnnokedaaDoor.Sm Go.Proofs.YtblkaegnnokedaaDoor.Mp

/-! ### slices.Contains at ints -/
theorem take_miss {z : List Int} {a : Int} {k : Nat} (h : a ∉ z.take k) (hk : k < z.length) (he : ¬ z[k] = a) : a ∉ z.take (k + 1) := by
  rw [← List.take_append_getElem hk]
  intro h2
  rcases List.mem_append.1 h2 with h2 | h2
  · exact h h2
  · simp at h2; exact he h2.symm
set_option maxRecDepth 100000 in
set_option maxHeartbeats 1000000 in
theorem sidx_any (A : Option Addr) (c : Nat) (z : List Int) (a : Int) (w : World) (hA : IntsAt w w.heap.size A z) (hz : z.length ≤ 17592186044416) :
    Calls Tryd.prog 42 #[.slice A z.length c, .int .i64 a] w fun e w' => Hid (∃ r : Int, e = .returned (.int .i64 r) ∧ decide (0 ≤ r) = decide (a ∈ z)) ∧ w = w' := by
  have HA := Lib.hid hA
  have HT : Hid (a ∉ z.take 0) := by simp [Hid]
  clear hA
  go_enter Tryd.func42, Tryd.ntmps42
  go_wp2
  go_loop [8] (fun j => ∃ (k : Nat), k ≤ z.length ∧ j = .int .i64 k ∧ Hid (a ∉ z.take k)) (fun j => z.length - (intOf j).toNat)
  case atStart => exact ⟨0, by omega, rfl, HT⟩
  case round =>
    clear HT
    obtain ⟨k, hk, rfl, HT⟩ := hrel
    by_cases hlt : k < z.length
    · obtain ⟨ad, rfl, hadb, hcell, hs1, hs2⟩ := HA.out.at_ k hlt
      by_cases he : z[k] = a
      · have HR : Hid (a ∈ z) := by rw [← he]; exact List.getElem_mem hlt
        have he1 : (a == z[k]) = true := by rw [he]; simp
        clear he HT
        generalize z[k] = x at *
        go_wp2
        go_ret
        exact ⟨⟨k, rfl, ⟨fun _ => HR.out, fun _ => by omega⟩⟩, rfl⟩
      · have HN := Lib.hid (take_miss HT.out hlt he)
        have he1 : (a == z[k]) = false := by simpa using fun e => he e.symm
        clear he HT
        generalize z[k] = x at *
        go_wp2
        go_round
        case rel => exact ⟨k + 1, by omega, by go_num, HN⟩
        case measure => simp [intOf]; omega
    · have HR : Hid (a ∉ z) := by
        have h := HT.out
        rwa [List.take_of_length_le (by omega)] at h
      clear HT
      go_wp2
      go_ret
      exact ⟨⟨-1, rfl, ⟨fun h => absurd h (by decide), fun h => absurd h HR.out⟩⟩, rfl⟩
set_option maxRecDepth 100000 in
theorem contains_any (A : Option Addr) (c : Nat) (z : List Int) (a : Int) (w : World) (hA : IntsAt w w.heap.size A z) (hz : z.length ≤ 17592186044416) {b : Bool} (hb : decide (a ∈ z) = b) :
    Calls Tryd.prog 31 #[.slice A z.length c, .int .i64 a] w fun e w' => e = .returned (.bool b) ∧ w' = w := by
  have HI := Lib.hid (sidx_any A c z a w hA hz)
  rw [hb] at HI
  clear hA hz hb
  generalize z.length = n at *
  go_enter Tryd.func31, Tryd.ntmps31
  go_wp2_with fail
  refine HI.out.mono ?_
  rintro e w2 ⟨he, rfl⟩
  obtain ⟨r, rfl, hr⟩ := he.out
  have HR := Lib.hid hr
  clear he HI hr
  go_wp2
  go_ret
  exact ⟨by rw [← HR.out]; rfl, rfl⟩
theorem mem_upto {n s : Nat} {p : Nat → Bool} (h : s < n) : decide ((s : Int) ∈ upto n p) = p s := by
  refine Bool.eq_iff_iff.2 ?_
  rw [decide_eq_true_iff]
  unfold upto
  rw [List.mem_map]
  constructor
  · rintro ⟨t, ht, e⟩
    obtain rfl : t = s := by omega
    exact (List.mem_filter.1 ht).2
  · intro h2
    exact ⟨s, List.mem_filter.2 ⟨List.mem_range.2 h, h2⟩, rfl⟩
theorem upto_small {n : Nat} (h : n ≤ 40) (p : Nat → Bool) : ∀ x ∈ upto n p, Small x := fun x hx => by
  unfold upto at hx
  obtain ⟨t, ht, rfl⟩ := List.mem_map.1 hx
  have := List.mem_range.1 (List.mem_filter.1 ht).1
  exact ⟨by omega, by omega⟩
theorem own_ints_is {w0 w : World} {A : Option Addr} {n c : Nat} {l : List Int} {es fs : List Ent} (h : Own w0 w es fs) (hm : eInts (.slice A n c) l ∈ es ++ fs) (_hl : l.length = n) (hs : ∀ x ∈ l, Small x) : IntsAt w w.heap.size A l := by
  obtain ⟨A', cap, hv, _, _, hi⟩ := own_ints_at h hm hs
  simp only [Value.slice.injEq] at hv
  rw [hv.1]; exact hi
/-- What a function gives that makes an automaton of one. -/
def mkO (K : Aut → Aut) (d : Aut) : Aut × Nat := if dchk d = 0 then (K d, 0) else (zeroA, dchk d)
theorem mkO_ok {K : Aut → Aut} {d : Aut} (g : Df.Good d) : mkO K d = (K d, 0) := if_pos (dchk_iff.2 g)
theorem mkO_bad {K : Aut → Aut} {d : Aut} (h : dchk d ≠ 0) : mkO K d = (zeroA, dchk d) := if_neg h

/-! ### judged -/
theorem judge_fins {f : Bool → Bool → Bool} {d : Aut} (g : Df.Good d) : (List.range d.fin.length).map (fun s => f (finA d s) (isAlive d s)) = (judge f d).fin := by rw [g.fin]; rfl
/-! ### stopped -/
/-- A copy in a variable at block g, the result's block gr; its rows as they are now. -/
def RowsI (w1 wr : World) (g gr : Nat) (L s : Int) (nv fv : Value) (bs : List Bool) (rs : List (Value × List Int)) : Prop :=
  Own w1 wr (eRows nv (rs.map (·.1)) :: eBools fv bs :: eDfa g [.int .i64 L, .int .i64 s, nv, fv] :: eDfa gr zero4 :: eEach rs) []
theorem rowsI_new {w1 wr : World} {g gr : Nat} {L s : Int} {nv fv : Value} {bs : List Bool} {rs : List (Value × List Int)} (h : Flags w1 wr g gr L s nv fv bs rs []) : RowsI w1 wr g gr L s nv fv bs rs := Own.four h
theorem RowsI.cell {w1 wr : World} {g gr : Nat} {L s : Int} {nv fv : Value} {bs : List Bool} {rs : List (Value × List Int)} (h : RowsI w1 wr g gr L s nv fv bs rs) {j : Nat} {u : Value} (hj : [Value.int .i64 L, .int .i64 s, nv, fv][j]? = some u) : wr.cell? ⟨g, j, none⟩ = some u := (Own.dcell h (l := [.int .i64 L, .int .i64 s, nv, fv]) (by simp) hj).1
theorem RowsI.res {w1 wr : World} {g gr : Nat} {L s : Int} {nv fv : Value} {bs : List Bool} {rs : List (Value × List Int)} (h : RowsI w1 wr g gr L s nv fv bs rs) {j : Nat} {u : Value} (hj : zero4[j]? = some u) : wr.cell? ⟨gr, j, none⟩ = some u ∧ wr.frozen? ⟨gr, j, none⟩ = false := Own.dcell h (l := zero4) (by simp) hj
theorem rowsI_flag {w1 wr : World} {g gr gf cap n : Nat} {L s : Int} {nv : Value} {bs : List Bool} {rs : List (Value × List Int)} (h : RowsI w1 wr g gr L s nv (.slice (some ⟨gf, 0, none⟩) n cap) bs rs) (hl : bs.length = n) {k : Nat} {b : Bool} (hk : bs[k]? = some b) : wr.cell? ⟨gf, k, none⟩ = some (.bool b) := by
  subst hl
  exact (Own.cell (t := 4) (sz := 1) (n := bs.length) (cap := cap) (xs := bs.map Value.bool) h (List.mem_append_left _ (List.mem_cons_of_mem _ List.mem_cons_self)) (by rw [List.getElem?_map, hk]; rfl)).1
theorem rowsI_row {w1 wr : World} {g gr gn cap n : Nat} {L s : Int} {fv : Value} {bs : List Bool} {rs : List (Value × List Int)} (h : RowsI w1 wr g gr L s (.slice (some ⟨gn, 0, none⟩) n cap) fv bs rs) (hl : rs.length = n) {k : Nat} {p : Value × List Int} (hk : rs[k]? = some p) : wr.cell? ⟨gn, k, none⟩ = some p.1 := by
  subst hl
  have hm : (⟨26, 1, .slice (some ⟨gn, 0, none⟩) rs.length cap, rs.length, rs.map (·.1)⟩ : Ent) ∈ (eRows (.slice (some ⟨gn, 0, none⟩) rs.length cap) (rs.map (·.1)) :: eBools fv bs :: eDfa g [.int .i64 L, .int .i64 s, (.slice (some ⟨gn, 0, none⟩) rs.length cap), fv] :: eDfa gr zero4 :: eEach rs) ++ [] := by
    have : eRows (.slice (some ⟨gn, 0, none⟩) rs.length cap) (rs.map (·.1)) = ⟨26, 1, .slice (some ⟨gn, 0, none⟩) rs.length cap, rs.length, rs.map (·.1)⟩ := by unfold eRows; rw [List.length_map]
    rw [this]; simp
  exact (Own.cell h hm (by rw [List.getElem?_map, hk]; rfl)).1
theorem rowsI_mem {g gr : Nat} {L s : Int} {nv fv : Value} {bs : List Bool} {rs : List (Value × List Int)} {k : Nat} {p : Value × List Int} (hk : rs[k]? = some p) : eInts p.1 p.2 ∈ (eRows nv (rs.map (·.1)) :: eBools fv bs :: eDfa g [.int .i64 L, .int .i64 s, nv, fv] :: eDfa gr zero4 :: eEach rs) ++ [] := by
  rw [List.append_nil]
  exact List.mem_cons_of_mem _ (List.mem_cons_of_mem _ (List.mem_cons_of_mem _ (List.mem_cons_of_mem _ (List.mem_map.2 ⟨p, List.mem_of_getElem? hk, rfl⟩))))
theorem rowsI_form {w1 wr : World} {g gr : Nat} {L s : Int} {nv fv : Value} {bs : List Bool} {rs : List (Value × List Int)} (h : RowsI w1 wr g gr L s nv fv bs rs) {k : Nat} {p : Value × List Int} (hk : rs[k]? = some p) (hl : 0 < p.2.length) : ∃ gx cap, p.1 = .slice (some ⟨gx, 0, none⟩) p.2.length cap :=
  owns_some (Own.at_ h (rowsI_mem (g := g) (gr := gr) (L := L) (s := s) (nv := nv) (fv := fv) (bs := bs) hk)) hl
theorem rowsI_cell {w1 wr : World} {g gr gx cap n : Nat} {L s : Int} {nv fv : Value} {bs : List Bool} {rs : List (Value × List Int)} {r : List Int} (h : RowsI w1 wr g gr L s nv fv bs rs) {k : Nat} (hk : rs[k]? = some (.slice (some ⟨gx, 0, none⟩) n cap, r)) (hl : r.length = n) {j : Nat} {x : Int} (hj : r[j]? = some x) :
    wr.cell? ⟨gx, j, none⟩ = some (.int .i64 x) ∧ wr.frozen? ⟨gx, j, none⟩ = false := own_ints_cell h (rowsI_mem hk) hl hj
theorem rowsI_set {w1 wr : World} {g gr gx cap n : Nat} {L s : Int} {nv fv : Value} {bs : List Bool} {rs : List (Value × List Int)} {r : List Int} (h : RowsI w1 wr g gr L s nv fv bs rs) {k : Nat} (hk : rs[k]? = some (.slice (some ⟨gx, 0, none⟩) n cap, r)) (hl : r.length = n) (j : Nat) (x : Int) :
    RowsI w1 (wr.setCell ⟨gx, j, none⟩ (.int .i64 x)) g gr L s nv fv bs (rs.set k (.slice (some ⟨gx, 0, none⟩) n cap, r.set j x)) := by
  obtain ⟨hkl, hke⟩ := List.getElem?_eq_some_iff.1 hk
  unfold RowsI at h
  have hlen : k + 4 < (eRows nv (rs.map (·.1)) :: eBools fv bs :: eDfa g [.int .i64 L, .int .i64 s, nv, fv] :: eDfa gr zero4 :: eEach rs).length := by simp [eEach]; exact hkl
  have h1 := h.pull (k + 4) hlen
  have e1 : (eRows nv (rs.map (·.1)) :: eBools fv bs :: eDfa g [.int .i64 L, .int .i64 s, nv, fv] :: eDfa gr zero4 :: eEach rs)[k + 4] = eInts (.slice (some ⟨gx, 0, none⟩) n cap) r := by
    simp only [List.getElem_cons_succ, eEach, List.getElem_map, hke]
  rw [e1] at h1
  have h2 := own_ints_set h1 hl j x
  have hrows : (rs.set k (Value.slice (some ⟨gx, 0, none⟩) n cap, r.set j x)).map (·.1) = rs.map (·.1) := map_set_same _ _ _ _ fun y hy => by
    obtain rfl := Option.some.inj (hk.symm.trans hy); rfl
  have heach : eEach (rs.set k (Value.slice (some ⟨gx, 0, none⟩) n cap, r.set j x)) = (eEach rs).set k (eInts (.slice (some ⟨gx, 0, none⟩) n cap) (r.set j x)) := by unfold eEach; rw [List.map_set]
  unfold RowsI
  rw [hrows, heach]
  refine Own.put (k + 4) (by simp [eEach]; exact hkl) ?_
  simp only [List.getElem_cons_succ, List.getElem_set_self, List.eraseIdx_cons_succ, List.eraseIdx_set_eq]
  simp only [List.eraseIdx_cons_succ] at h2
  exact h2
theorem rowsI_end {w1 wr w2 : World} {g gr : Nat} {L s : Int} {nv fv : Value} {bs : List Bool} {rs : List (Value × List Int)} (h : RowsI w1 wr g gr L s nv fv bs rs) (hs : ∀ p ∈ rs, ∀ x ∈ p.2, Small x) (hL : Small L) (hS : Small s)
    (hw : w2 = (((wr.setCell ⟨gr, 0, none⟩ (.int .i64 L)).setCell ⟨gr, 1, none⟩ (.int .i64 s)).setCell ⟨gr, 2, none⟩ nv).setCell ⟨gr, 3, none⟩ fv) :
    DfaOwn w1 w2 (.agg #[.int .i64 L, .int .i64 s, nv, fv]) ⟨L, s, rs.map (·.2), bs⟩ ∧
      w2.cell? ⟨gr, 0, none⟩ = some (.int .i64 L) ∧ w2.cell? ⟨gr, 1, none⟩ = some (.int .i64 s) ∧ w2.cell? ⟨gr, 2, none⟩ = some nv ∧ w2.cell? ⟨gr, 3, none⟩ = some fv :=
  own_end (Own.four h) (fun e he => by simp only [List.mem_cons, List.mem_append] at he ⊢; rcases he with rfl | rfl | he <;> simp [*]) hs hL hS hw
/-- The rows so far. -/
def stopTo (b : Bool) (d : Aut) (k : Nat) : List (List Int) := flipTo (fun s => stopRow b d s (d.next[s]?.getD [])) d.next k
theorem stopTo_get {b : Bool} {d : Aut} {k : Nat} (h : k < d.next.length) : (stopTo b d k)[k]? = some d.next[k] := flip_get h
theorem stopTo_hit {b : Bool} {d : Aut} {k : Nat} (h : k < d.next.length) (hf : finA d k = b) : (stopTo b d k).set k (List.replicate d.next[k].length (k : Int)) = stopTo b d (k + 1) := by
  have e := flip_set (f := fun s => stopRow b d s (d.next[s]?.getD [])) h
  have e2 : stopRow b d k (d.next[k]?.getD []) = List.replicate d.next[k].length (k : Int) := by unfold stopRow; rw [if_pos hf, next_at h]
  simp only [e2] at e
  exact e
theorem stopTo_miss {b : Bool} {d : Aut} {k : Nat} (h : k < d.next.length) (hf : ¬ finA d k = b) : stopTo b d k = stopTo b d (k + 1) := flip_same h (by
  show stopRow b d k (d.next[k]?.getD []) = _
  unfold stopRow; rw [if_neg hf, next_at h])
theorem stopTo_all (b : Bool) (d : Aut) : stopTo b d d.next.length = (stopA b d).next := flip_all (Nat.le_refl _)
theorem set_self {α : Type} {l : List α} {k : Nat} {x : α} (h : l[k]? = some x) : l.set k x = l := by
  obtain ⟨h1, h2⟩ := List.getElem?_eq_some_iff.1 h
  rw [← h2]; exact List.set_getElem_self h1
/-- A row under way. -/
def rowTo (k : Nat) (r : List Int) (j : Nat) : List Int := flipTo (fun _ => (k : Int)) r j
theorem rowTo_all (k : Nat) (r : List Int) : rowTo k r r.length = List.replicate r.length (k : Int) := by
  unfold rowTo
  rw [flip_all (Nat.le_refl _), List.map_const', List.length_range]
end Go.Proofs.YtblkaegnnokedaaDoor.Sa

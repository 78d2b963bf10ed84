/- The walk of the document's answer for how many nodes the plain form has: sizes. -/
import Derived.Test.YtaelgnmklepebaaDoorPlain
import Derived.Test.YtaelgnmklepebaaDoorMeanL
import Derived.StillTailTactics
namespace Go.Proofs.YtaelgnmklepebaaDoor.Fm
open Go.RowKit Go.IntWalk Go.Proofs.YtaelgnmklepebaaDoor.Wd Go.Proofs.YtaelgnmklepebaaDoor.Wo
set_option linter.unusedVariables false

/-- How many nodes: not turned (0), turned (1). -/
def szN (f : List Nd) (i q : Nat) : Int := ((sat (nnf (q == 1) (tre f i)).size : Nat) : Int)
def szP (f : List Nd) (i : Nat) : List Int := [szN f i 0, szN f i 1]
theorem szP_get (f : List Nd) (i : Nat) {q : Nat} (h : q < 2) : (szP f i)[q]? = some (szN f i q) := by
  have : q = 0 ∨ q = 1 := by omega
  rcases this with rfl | rfl <;> rfl
theorem szN_le (f : List Nd) (i q : Nat) : 0 ≤ szN f i q ∧ szN f i q ≤ 41 := by
  unfold szN
  have := sat_le (nnf (q == 1) (tre f i)).size
  omega
def cap41 (s : Int) : Int := if 41 < s then 41 else s
theorem szN_leaf {L : Int} {f : List Nd} (hg : ∀ j n, f[j]? = some n → NdGood L j n) {i : Nat} {k x y : Int} (hn : f[i]? = some (k, x, y)) (hk : k = 0 ∨ k = 1) : szP f i = [1, 1] := by
  have ht := tre_get hg hn
  unfold szP szN
  rw [ht]
  rcases hk with rfl | rfl <;> rfl
theorem szN_is {L : Int} {f : List Nd} (hg : ∀ j n, f[j]? = some n → NdGood L j n) {i : Nat} {x y : Int} (hn : f[i]? = some (2, x, y)) : szP f i = [1, 2] := by
  have ht := tre_get hg hn
  unfold szP szN
  rw [ht]
  rfl
theorem szN_not {L : Int} {f : List Nd} (hg : ∀ j n, f[j]? = some n → NdGood L j n) {i : Nat} {x y : Int} (hn : f[i]? = some (3, x, y)) : szP f i = [szN f x.toNat 1, szN f x.toNat 0] := by
  have ht := tre_get hg hn
  unfold szP szN
  rw [ht]
  rfl
theorem szN_un {L : Int} {f : List Nd} (hg : ∀ j n, f[j]? = some n → NdGood L j n) {i : Nat} {k x y : Int} (hn : f[i]? = some (k, x, y)) (hk : k = 6 ∨ k = 7) (q : Nat) : szN f i q = cap41 (szN f x.toNat q + 1) := by
  have e : (nnf (q == 1) (tre f i)).size = (nnf (q == 1) (tre f x.toNat)).size + 1 := by
    rw [tre_get hg hn]
    rcases hk with rfl | rfl <;> rfl
  unfold szN cap41
  rw [e, ← sat_un]
  generalize sat (nnf (q == 1) (tre f x.toNat)).size = s
  unfold sat
  split <;> split <;> omega
theorem szN_bin {L : Int} {f : List Nd} (hg : ∀ j n, f[j]? = some n → NdGood L j n) {i : Nat} {k x y : Int} (hn : f[i]? = some (k, x, y)) (hk : k = 4 ∨ k = 5 ∨ k = 8 ∨ k = 9) (q : Nat) : szN f i q = cap41 (szN f x.toNat q + szN f y.toNat q + 1) := by
  have e : (nnf (q == 1) (tre f i)).size = (nnf (q == 1) (tre f x.toNat)).size + (nnf (q == 1) (tre f y.toNat)).size + 1 := by
    rw [tre_get hg hn]
    rcases hk with rfl | rfl | rfl | rfl <;> rfl
  unfold szN cap41
  rw [e, ← sat_bin]
  generalize sat (nnf (q == 1) (tre f x.toNat)).size = s
  generalize sat (nnf (q == 1) (tre f y.toNat)).size = s2
  unfold sat
  split <;> split <;> omega

/-! ### pairs in memory -/
abbrev Pr := Nat × List Int
def eP (r : Pr) : Ent := eInts (.slice (some ⟨r.1, 0, none⟩) 2 2) r.2
def vP (r : Pr) : Value := .slice (some ⟨r.1, 0, none⟩) 2 2
/-- The pairs done. -/
def PO (w0 wr : World) (tv : Value) (rs : List Pr) (f : List Nd) (k : Nat) : Prop := Own w0 wr [eRows tv (rs.map vP)] (rs.map eP) ∧ rs.length = k ∧ ∀ i r, rs[i]? = some r → r.2 = szP f i
/-- A pair under way, and the node's own block. -/
def PI (w0 wi : World) (tv : Value) (rs : List Pr) (gp gb : Nat) (nd : Nd) (l : List Int) : Prop :=
  Own w0 wi [eRows tv (rs.map vP), eInts (.slice (some ⟨gp, 0, none⟩) 2 2) l, eNodes (.slice (some ⟨gb, 0, none⟩) 1 1) [nd]] (rs.map eP)
theorem pi_start {w0 wr : World} {tv : Value} {rs : List Pr} {f : List Nd} {k : Nat} (h : PO w0 wr tv rs f k) (x y z p0 p1 : Int) :
    PI w0 ((wr.alloc (.cells #[.int .i64 x, .int .i64 y, .int .i64 z] 29)).alloc (.cells #[.int .i64 p0, .int .i64 p1] 3)) tv rs (wr.heap.size + 1) wr.heap.size (x, y, z) [p0, p1] := by
  have h1 := h.1.lit 29 3 1 #[.int .i64 x, .int .i64 y, .int .i64 z] rfl (by simp [maxLen])
  have h2 := h1.lit 3 1 2 #[.int .i64 p0, .int .i64 p1] rfl (by simp [maxLen])
  have hs : (wr.alloc (.cells #[.int .i64 x, .int .i64 y, .int .i64 z] 29)).heap.size = wr.heap.size + 1 := by simp
  rw [hs] at h2
  exact h2.three
theorem pi_box {w0 wi : World} {tv : Value} {rs : List Pr} {gp gb : Nat} {x y z : Int} {l : List Int} (h : PI w0 wi tv rs gp gb (x, y, z) l) : gb < wi.heap.size ∧ wi.cell? ⟨gb, 0, none⟩ = some (.int .i64 x) ∧ wi.cell? ⟨gb, 1, none⟩ = some (.int .i64 y) ∧ wi.cell? ⟨gb, 2, none⟩ = some (.int .i64 z) := by
  have hm : (⟨29, 3, .slice (some ⟨gb, 0, none⟩) 1 1, 1, ncells [(x, y, z)]⟩ : Ent) ∈ [eRows tv (rs.map vP), eInts (.slice (some ⟨gp, 0, none⟩) 2 2) l, eNodes (.slice (some ⟨gb, 0, none⟩) 1 1) [(x, y, z)]] ++ rs.map eP := by simp [eNodes]
  exact ⟨(h.lt hm).2, (h.cell hm (j := 0) rfl).1, (h.cell hm (j := 1) rfl).1, (h.cell hm (j := 2) rfl).1⟩
theorem pi_cell {w0 wi : World} {tv : Value} {rs : List Pr} {gp gb : Nat} {nd : Nd} {l : List Int} (h : PI w0 wi tv rs gp gb nd l) (hl : l.length = 2) {q : Nat} {v : Int} (hq : l[q]? = some v) : wi.cell? ⟨gp, q, none⟩ = some (.int .i64 v) ∧ wi.frozen? ⟨gp, q, none⟩ = false :=
  own_ints_cell (g := gp) (n := 2) (cap := 2) (l := l) h (by simp) hl hq
theorem pi_set {w0 wi : World} {tv : Value} {rs : List Pr} {gp gb : Nat} {nd : Nd} {l : List Int} (h : PI w0 wi tv rs gp gb nd l) (hl : l.length = 2) (q : Nat) (v : Int) : PI w0 (wi.setCell ⟨gp, q, none⟩ (.int .i64 v)) tv rs gp gb nd (l.set q v) :=
  (own_ints_set (g := gp) (n := 2) (cap := 2) (l := l) (Own.two h) hl q v).two
theorem pi_on {w0 wi wj : World} {tv : Value} {rs : List Pr} {gp gb : Nat} {nd : Nd} {l : List Int} (h : PI w0 wi tv rs gp gb nd l) (hb : Below wi.heap.size wi wj) : PI w0 wj tv rs gp gb nd l := Own.on h hb
/-- Another pair, a new literal. -/
theorem pi_new {w0 wi : World} {tv : Value} {rs : List Pr} {gp gb : Nat} {nd : Nd} {l : List Int} (h : PI w0 wi tv rs gp gb nd l) (a b : Int) : PI w0 (wi.alloc (.cells #[.int .i64 a, .int .i64 b] 3)) tv rs wi.heap.size gb nd [a, b] := by
  have h1 : Own w0 wi [eRows tv (rs.map vP), eNodes (.slice (some ⟨gb, 0, none⟩) 1 1) [nd]] (rs.map eP) := (Own.two h).tail
  exact (h1.lit 3 1 2 #[.int .i64 a, .int .i64 b] rfl (by simp [maxLen])).two
theorem rs_child {w0 wi : World} {es : List Ent} {A : Option Addr} {k cap : Nat} {rs : List Pr} {f : List Nd} (h : Own w0 wi (eRows (.slice A k cap) (rs.map vP) :: es) (rs.map eP)) (hl : rs.length = k) (hr : ∀ i r, rs[i]? = some r → r.2 = szP f i) {i : Nat} (hi : i < k) :
    ∃ ad g, A = some ad ∧ ad.block < wi.heap.size ∧ wi.cell? (ad.add i) = some (.slice (some ⟨g, 0, none⟩) 2 2) ∧ g < wi.heap.size ∧ (∀ q, q < 2 → wi.cell? ⟨g, q, none⟩ = some (.int .i64 (szN f i q))) := by
  subst hl
  obtain ⟨r, hri⟩ : ∃ r, rs[i]? = some r := ⟨_, List.getElem?_eq_getElem hi⟩
  have hm : (⟨23, 1, .slice A rs.length cap, rs.length, rs.map vP⟩ : Ent) ∈ (eRows (.slice A rs.length cap) (rs.map vP) :: es) ++ rs.map eP := by
    have : eRows (.slice A rs.length cap) (rs.map vP) = ⟨23, 1, .slice A rs.length cap, rs.length, rs.map vP⟩ := by unfold eRows; rw [List.length_map]
    rw [this]; simp
  obtain ⟨ad, e, h1, h2⟩ := h.cells hm i (vP r) (by rw [List.getElem?_map, hri]; rfl)
  have hrow := hr i r hri
  have hmr : eInts (.slice (some ⟨r.1, 0, none⟩) 2 2) r.2 ∈ (eRows (.slice A rs.length cap) (rs.map vP) :: es) ++ rs.map eP := List.mem_append_right _ (List.mem_map.2 ⟨r, List.mem_of_getElem? hri, rfl⟩)
  have hrl : r.2.length = 2 := by rw [hrow]; rfl
  have hcell : ∀ q, q < 2 → wi.cell? ⟨r.1, q, none⟩ = some (.int .i64 (szN f i q)) := fun q hq => (own_ints_cell (g := r.1) (n := 2) (cap := 2) (l := r.2) h hmr hrl (by rw [hrow]; exact szP_get f i hq)).1
  exact ⟨ad, r.1, e, h1, h2, World.block_lt_of_cell? wi _ (hcell 0 (by decide)), hcell⟩
theorem po_snoc {w0 w : World} {v : Value} {rs : List Pr} {f : List Nd} {g k : Nat} {l : List Int} (hl : l = szP f k) (hr : ∀ i r, rs[i]? = some r → r.2 = szP f i) (hk : rs.length = k) (h : Own w0 w (eRows v (rs.map vP ++ [.slice (some ⟨g, 0, none⟩) 2 2]) :: [eInts (.slice (some ⟨g, 0, none⟩) 2 2) l]) (rs.map eP)) : PO w0 w v (rs ++ [(g, l)]) f (k + 1) := by
  refine ⟨?_, by rw [List.length_append, hk]; rfl, fun i r hi => ?_⟩
  · have h1 := h.two.fin
    rw [List.map_append]
    refine h1.weak fun e he => ?_
    rw [List.map_append] at he
    rcases List.mem_append.1 he with he | he
    · exact List.mem_cons_of_mem _ he
    · simp at he; subst he; exact List.mem_cons_self
  · by_cases hlt : i < rs.length
    · rw [List.getElem?_append_left hlt] at hi; exact hr i r hi
    · have h2 := (List.getElem?_eq_some_iff.1 hi).1
      rw [List.length_append, List.length_singleton] at h2
      obtain rfl : i = rs.length := by omega
      rw [List.getElem?_append_right (Nat.le_refl _), Nat.sub_self] at hi
      simp at hi; subst hi; rw [hl, hk]
/-- A pair under way: the first q are done. -/
def midP (P I : List Int) (q : Nat) : List Int := P.take q ++ I.drop q
theorem midP_len {P I : List Int} (hP : P.length = 2) (hI : I.length = 2) {q : Nat} (h : q ≤ 2) : (midP P I q).length = 2 := by simp [midP, hP, hI]; omega
theorem midP_zero (P I : List Int) : midP P I 0 = I := by simp [midP]
theorem midP_two {P I : List Int} (hP : P.length = 2) (hI : I.length = 2) : midP P I 2 = P := by
  rw [midP, List.take_of_length_le (by omega), List.drop_of_length_le (by omega), List.append_nil]
theorem midP_some {P I : List Int} (hP : P.length = 2) (hI : I.length = 2) {q : Nat} (h : q < 2) : ∃ v, (midP P I q)[q]? = some v := ⟨_, List.getElem?_eq_getElem (by rw [midP_len hP hI (by omega)]; exact h)⟩
theorem midP_set {P I : List Int} (hP : P.length = 2) (hI : I.length = 2) {q : Nat} (h : q < 2) {v : Int} (hv : P[q]? = some v) : (midP P I q).set q v = midP P I (q + 1) := by
  match P, hP, I, hI with
  | [p0, p1], _, [i0, i1], _ =>
    have : q = 0 ∨ q = 1 := by omega
    rcases this with rfl | rfl
    · simp at hv; subst hv; rfl
    · simp at hv; subst hv; rfl
theorem midP_same {P : List Int} (hP : P.length = 2) {q : Nat} (h : q ≤ 2) : midP P P q = P := by rw [midP, List.take_append_drop]
set_option linter.unusedSimpArgs false in
set_option maxRecDepth 100000 in
set_option maxHeartbeats 8000000 in
theorem sizes_any {L : Int} (A0 : Option Addr) (c : Nat) (f : List Nd) (w : World) (hA : NodesAt w w.heap.size A0 f) (hg : FGood L f) :
    Calls Tryd.prog 38 #[.slice A0 f.length c] w fun e w' => Hid (∃ A cap rs, e = .returned (.slice A f.length cap) ∧ PO w w' (.slice A f.length cap) rs f f.length) := by
  have hn40 := hg.le
  have HG := Lib.hid hg
  have HA := Lib.hid (fun wr (h : Below w.heap.size w wr) => hA.on h)
  have HS0 : Hid (PO w w (.slice none 0 0) [] f 0) := ⟨(own_start w).nil 23 1, rfl, fun i r h => by simp at h⟩
  obtain ⟨N, hN⟩ : ∃ N, f.length = N := ⟨_, rfl⟩
  have HN := Lib.hid hN
  rw [hN] at hn40 ⊢
  clear hN hA hg
  go_enter Tryd.func38, Tryd.ntmps38
  go_wp2
  go_loopw [3, 4] (fun tv i wr => ∃ (k : Nat), k ≤ N ∧ i = .int .i64 k ∧ Hid (∃ A cap rs, tv = .slice A k cap ∧ PO w wr tv rs f k)) (fun _ i _ => N - (intOf i).toNat)
  case atStart => exact ⟨0, by omega, rfl, none, 0, [], rfl, HS0⟩
  case round =>
    clear HS0
    obtain ⟨k, hk, rfl, HS⟩ := hrel
    obtain ⟨A, cap, rs, rfl, hP⟩ := HS.out
    by_cases hlt : k < N
    · obtain ⟨nd, hnd⟩ : ∃ n, f[k]? = some n := ⟨_, List.getElem?_eq_getElem (by rw [HN.out]; exact hlt)⟩
      obtain ⟨ad, e, hadb, c0, c1, c2⟩ := (HA.out _ hP.1.below).at_ hnd
      subst e
      have HND := Lib.hid hnd
      have gd := HG.out.nd k nd hnd
      have hk0 := gd.k0
      have hk9 := gd.k9
      have ha1 := gd.a1
      have hb2 := gd.b2
      obtain ⟨x, y, z⟩ := nd
      simp only at hk0 hk9 ha1 hb2 c0 c1 c2
      have HPO := Lib.hid hP
      have HLen := Lib.hid hP.2.1
      have HRows := Lib.hid hP.2.2
      have e1 : (k : Int) < (N : Int) := by omega
      obtain ⟨P, hPv⟩ : ∃ P, P = szP f k := ⟨_, rfl⟩
      have HPv := Lib.hid hPv
      have HPl : Hid (P.length = 2) := by rw [Hid, hPv]; rfl
      have HP41 : Hid (∀ (q : Nat) (v : Int), P[q]? = some v → v ≤ 41) := fun q v hq => by
        have hq2 : q < 2 := by have := (List.getElem?_eq_some_iff.1 hq).1; rw [HPl.out] at this; exact this
        rw [HPv.out, szP_get f k hq2] at hq
        have := szN_le f k q
        rw [← Option.some.inj hq]; exact this.2
      clear HS hP gd hnd hPv
      have hkk : x = 0 ∨ x = 1 ∨ x = 2 ∨ x = 3 ∨ x = 4 ∨ x = 5 ∨ x = 6 ∨ x = 7 ∨ x = 8 ∨ x = 9 := by omega
      clear hk0 hk9
      rcases hkk with rfl | rfl | rfl | rfl | rfl | rfl | rfl | rfl | rfl | rfl
      · as_aux_lemma =>
        have HI : Hid (P = [1, 1]) := by rw [Hid, HPv.out]; exact szN_leaf HG.out.nd HND.out (by decide)
        have HP0 := Lib.hid (pi_start HPO.out 0 y z 1 1)
        clear HPO ha1 hb2
        skip
        go_wp2
        generalize wr.heap.size + 1 = gp at *
        generalize wr.heap.size = gb at *
        rw [← HI.out] at HP0
        have HPI0 := HP0
        rw [← midP_zero P P] at HPI0
        clear HP0 c0 c1 c2 HI
        go_loopw [7] (fun ix wi => ∃ (q : Nat), q ≤ 2 ∧ ix = .int .i64 q ∧ Hid (PI w wi (.slice A k cap) rs gp gb (0, y, z) (midP P P q))) (fun ix _ => 2 - (intOf ix).toNat)
        case atStart => exact ⟨0, by omega, rfl, HPI0⟩
        case round =>
          clear HPI0
          obtain ⟨q, hq, rfl, HPI⟩ := hrel
          by_cases hq2 : q < 2
          · obtain ⟨hgb, d0, d1, d2⟩ := pi_box HPI.out
            rw [midP_same HPl.out (by omega)] at HPI
            have HS : Hid (PI w wr (.slice A k cap) rs gp gb (0, y, z) (midP P P (q + 1))) := by rw [midP_same HPl.out (by omega)]; exact HPI.out
            obtain ⟨v, hv⟩ : ∃ v, P[q]? = some v := ⟨_, List.getElem?_eq_getElem (by rw [HPl.out]; exact hq2)⟩
            obtain ⟨t0, t1⟩ := pi_cell HPI.out HPl.out hv
            have hv41 : ¬ (41 : Int) < v := by have := HP41.out q v hv; omega
            have e3 : (q : Int) < 2 := by omega
            clear hv HPI
            go_wp2
            go_roundw
            case rel => exact ⟨q + 1, by omega, by go_num, HS⟩
            case measure => first | (simp [intOf]; done) | (simp [intOf]; omega)
          · obtain rfl : q = 2 := by omega
            have HO : Hid (Own w wr [eRows (.slice A k cap) (rs.map vP), eInts (.slice (some ⟨gp, 0, none⟩) 2 2) P] (rs.map eP)) := by
              have h := HPI.out
              rw [midP_two HPl.out HPl.out] at h
              exact (Own.three h).tail
            have hlen1 : (rs.map vP).length < 1099511627776 := by rw [List.length_map, HLen.out]; omega
            clear HPI
            go_wp2_with (at_builtin; refine own_row (by rfl) _ _ (by rfl) (by rfl) HO.out (by rfl) (by rfl) hlen1 ?_)
            intro g8 cap8 w8 ho8
            simp only [List.length_map, HLen.out] at ho8 ⊢
            have HE : Hid (∃ A cap rs, Value.slice (some ⟨g8, 0, none⟩) (k + 1) cap8 = .slice A (k + 1) cap ∧ PO w w8 (.slice (some ⟨g8, 0, none⟩) (k + 1) cap8) rs f (k + 1)) := ⟨_, _, _, rfl, po_snoc HPv.out HRows.out HLen.out ho8⟩
            clear ho8 HO
            go_wp2
            go_roundw
            case rel => exact ⟨k + 1, by omega, by go_num, HE⟩
            case measure => first | (simp [intOf]; done) | (simp [intOf]; omega)
      · as_aux_lemma =>
        have HI : Hid (P = [1, 1]) := by rw [Hid, HPv.out]; exact szN_leaf HG.out.nd HND.out (by decide)
        have HP0 := Lib.hid (pi_start HPO.out 1 y z 1 1)
        clear HPO ha1 hb2
        skip
        go_wp2
        generalize wr.heap.size + 1 = gp at *
        generalize wr.heap.size = gb at *
        rw [← HI.out] at HP0
        have HPI0 := HP0
        rw [← midP_zero P P] at HPI0
        clear HP0 c0 c1 c2 HI
        go_loopw [7] (fun ix wi => ∃ (q : Nat), q ≤ 2 ∧ ix = .int .i64 q ∧ Hid (PI w wi (.slice A k cap) rs gp gb (1, y, z) (midP P P q))) (fun ix _ => 2 - (intOf ix).toNat)
        case atStart => exact ⟨0, by omega, rfl, HPI0⟩
        case round =>
          clear HPI0
          obtain ⟨q, hq, rfl, HPI⟩ := hrel
          by_cases hq2 : q < 2
          · obtain ⟨hgb, d0, d1, d2⟩ := pi_box HPI.out
            rw [midP_same HPl.out (by omega)] at HPI
            have HS : Hid (PI w wr (.slice A k cap) rs gp gb (1, y, z) (midP P P (q + 1))) := by rw [midP_same HPl.out (by omega)]; exact HPI.out
            obtain ⟨v, hv⟩ : ∃ v, P[q]? = some v := ⟨_, List.getElem?_eq_getElem (by rw [HPl.out]; exact hq2)⟩
            obtain ⟨t0, t1⟩ := pi_cell HPI.out HPl.out hv
            have hv41 : ¬ (41 : Int) < v := by have := HP41.out q v hv; omega
            have e3 : (q : Int) < 2 := by omega
            clear hv HPI
            go_wp2
            go_roundw
            case rel => exact ⟨q + 1, by omega, by go_num, HS⟩
            case measure => first | (simp [intOf]; done) | (simp [intOf]; omega)
          · obtain rfl : q = 2 := by omega
            have HO : Hid (Own w wr [eRows (.slice A k cap) (rs.map vP), eInts (.slice (some ⟨gp, 0, none⟩) 2 2) P] (rs.map eP)) := by
              have h := HPI.out
              rw [midP_two HPl.out HPl.out] at h
              exact (Own.three h).tail
            have hlen1 : (rs.map vP).length < 1099511627776 := by rw [List.length_map, HLen.out]; omega
            clear HPI
            go_wp2_with (at_builtin; refine own_row (by rfl) _ _ (by rfl) (by rfl) HO.out (by rfl) (by rfl) hlen1 ?_)
            intro g8 cap8 w8 ho8
            simp only [List.length_map, HLen.out] at ho8 ⊢
            have HE : Hid (∃ A cap rs, Value.slice (some ⟨g8, 0, none⟩) (k + 1) cap8 = .slice A (k + 1) cap ∧ PO w w8 (.slice (some ⟨g8, 0, none⟩) (k + 1) cap8) rs f (k + 1)) := ⟨_, _, _, rfl, po_snoc HPv.out HRows.out HLen.out ho8⟩
            clear ho8 HO
            go_wp2
            go_roundw
            case rel => exact ⟨k + 1, by omega, by go_num, HE⟩
            case measure => first | (simp [intOf]; done) | (simp [intOf]; omega)
      · as_aux_lemma =>
        have HI : Hid (P = [1, 2]) := by rw [Hid, HPv.out]; exact szN_is HG.out.nd HND.out
        have HP0 := Lib.hid (pi_start HPO.out 2 y z 1 2)
        clear HPO ha1 hb2
        skip
        go_wp2
        generalize wr.heap.size + 1 = gp at *
        generalize wr.heap.size = gb at *
        rw [← HI.out] at HP0
        have HPI0 := HP0
        rw [← midP_zero P P] at HPI0
        clear HP0 c0 c1 c2 HI
        go_loopw [7] (fun ix wi => ∃ (q : Nat), q ≤ 2 ∧ ix = .int .i64 q ∧ Hid (PI w wi (.slice A k cap) rs gp gb (2, y, z) (midP P P q))) (fun ix _ => 2 - (intOf ix).toNat)
        case atStart => exact ⟨0, by omega, rfl, HPI0⟩
        case round =>
          clear HPI0
          obtain ⟨q, hq, rfl, HPI⟩ := hrel
          by_cases hq2 : q < 2
          · obtain ⟨hgb, d0, d1, d2⟩ := pi_box HPI.out
            rw [midP_same HPl.out (by omega)] at HPI
            have HS : Hid (PI w wr (.slice A k cap) rs gp gb (2, y, z) (midP P P (q + 1))) := by rw [midP_same HPl.out (by omega)]; exact HPI.out
            obtain ⟨v, hv⟩ : ∃ v, P[q]? = some v := ⟨_, List.getElem?_eq_getElem (by rw [HPl.out]; exact hq2)⟩
            obtain ⟨t0, t1⟩ := pi_cell HPI.out HPl.out hv
            have hv41 : ¬ (41 : Int) < v := by have := HP41.out q v hv; omega
            have e3 : (q : Int) < 2 := by omega
            clear hv HPI
            go_wp2
            go_roundw
            case rel => exact ⟨q + 1, by omega, by go_num, HS⟩
            case measure => first | (simp [intOf]; done) | (simp [intOf]; omega)
          · obtain rfl : q = 2 := by omega
            have HO : Hid (Own w wr [eRows (.slice A k cap) (rs.map vP), eInts (.slice (some ⟨gp, 0, none⟩) 2 2) P] (rs.map eP)) := by
              have h := HPI.out
              rw [midP_two HPl.out HPl.out] at h
              exact (Own.three h).tail
            have hlen1 : (rs.map vP).length < 1099511627776 := by rw [List.length_map, HLen.out]; omega
            clear HPI
            go_wp2_with (at_builtin; refine own_row (by rfl) _ _ (by rfl) (by rfl) HO.out (by rfl) (by rfl) hlen1 ?_)
            intro g8 cap8 w8 ho8
            simp only [List.length_map, HLen.out] at ho8 ⊢
            have HE : Hid (∃ A cap rs, Value.slice (some ⟨g8, 0, none⟩) (k + 1) cap8 = .slice A (k + 1) cap ∧ PO w w8 (.slice (some ⟨g8, 0, none⟩) (k + 1) cap8) rs f (k + 1)) := ⟨_, _, _, rfl, po_snoc HPv.out HRows.out HLen.out ho8⟩
            clear ho8 HO
            go_wp2
            go_roundw
            case rel => exact ⟨k + 1, by omega, by go_num, HE⟩
            case measure => first | (simp [intOf]; done) | (simp [intOf]; omega)
      · as_aux_lemma =>
        obtain ⟨i, rfl, hi⟩ := nat_of (ha1 (by decide))
        have HI : Hid (P = [szN f i 1, szN f i 0]) := by rw [Hid, HPv.out]; exact szN_not HG.out.nd HND.out
        have HP0 := Lib.hid (pi_start HPO.out 3 (i : Int) z 1 1)
        clear HPO ha1 hb2
        obtain ⟨W1, hW1⟩ : ∃ W1, W1 = (wr.alloc (.cells #[.int .i64 3, .int .i64 (i : Int), .int .i64 z] 29)).alloc (.cells #[.int .i64 1, .int .i64 1] 3) := ⟨_, rfl⟩
        have HW1 := Lib.hid hW1
        rw [← hW1] at HP0
        obtain ⟨adi, gi, ei, bi, ri, li, ci⟩ := rs_child HP0.out HLen.out HRows.out hi
        subst ei
        have x0 := ci 0 (by decide)
        have x1 := ci 1 (by decide)
        obtain ⟨hgb, d0, d1, d2⟩ := pi_box HP0.out
        have e2 : (i : Int) < (k : Int) := by omega
        generalize szN f i 0 = s0 at *
        generalize szN f i 1 = s1 at *
        have HP1 := Lib.hid (pi_on HP0.out (below_drewN (Below.refl _ _) 1))
        clear ci hW1
        go_wp2_with fail
        rw [← HW1.out]
        go_still_tail 14, (by kernel_rfl)
        change wpList _ _ _ _ _ W1.drew
        have HP2 : Hid (PI w W1.drew (.slice (some adi) k cap) rs (wr.heap.size + 1) wr.heap.size (3, (i : Int), z) [1, 1]) := HP1.out
        generalize W1.drew = w2 at *
        have HP3 := Lib.hid (pi_new HP2.out s1 s0)
        rw [← HI.out] at HP3
        clear HP0 HP1 HP2 d0 d1 d2 x0 x1 ri hgb c0 c1 c2 HI
        go_wp2
        generalize w2.heap.size = gp at *
        generalize wr.heap.size = gb at *
        have HPI0 : Hid (PI w (w2.alloc (.cells #[.int .i64 s1, .int .i64 s0] 3)) (.slice (some adi) k cap) rs gp gb (3, (i : Int), z) (midP P P 0)) := by rw [midP_zero]; exact HP3
        clear HP3
        go_loopw [7] (fun ix wi => ∃ (q : Nat), q ≤ 2 ∧ ix = .int .i64 q ∧ Hid (PI w wi (.slice (some adi) k cap) rs gp gb (3, (i : Int), z) (midP P P q))) (fun ix _ => 2 - (intOf ix).toNat)
        case atStart => exact ⟨0, by omega, rfl, HPI0⟩
        case round =>
          clear HPI0
          obtain ⟨q, hq, rfl, HPI⟩ := hrel
          by_cases hq2 : q < 2
          · obtain ⟨hgb, d0, d1, d2⟩ := pi_box HPI.out
            rw [midP_same HPl.out (by omega)] at HPI
            have HS : Hid (PI w wr (.slice (some adi) k cap) rs gp gb (3, (i : Int), z) (midP P P (q + 1))) := by rw [midP_same HPl.out (by omega)]; exact HPI.out
            obtain ⟨v, hv⟩ : ∃ v, P[q]? = some v := ⟨_, List.getElem?_eq_getElem (by rw [HPl.out]; exact hq2)⟩
            obtain ⟨t0, t1⟩ := pi_cell HPI.out HPl.out hv
            have hv41 : ¬ (41 : Int) < v := by have := HP41.out q v hv; omega
            have e3 : (q : Int) < 2 := by omega
            clear hv HPI
            go_wp2
            go_roundw
            case rel => exact ⟨q + 1, by omega, by go_num, HS⟩
            case measure => first | (simp [intOf]; done) | (simp [intOf]; omega)
          · obtain rfl : q = 2 := by omega
            have HO : Hid (Own w wr [eRows (.slice (some adi) k cap) (rs.map vP), eInts (.slice (some ⟨gp, 0, none⟩) 2 2) P] (rs.map eP)) := by
              have h := HPI.out
              rw [midP_two HPl.out HPl.out] at h
              exact (Own.three h).tail
            have hlen1 : (rs.map vP).length < 1099511627776 := by rw [List.length_map, HLen.out]; omega
            clear HPI
            go_wp2_with (at_builtin; refine own_row (by rfl) _ _ (by rfl) (by rfl) HO.out (by rfl) (by rfl) hlen1 ?_)
            intro g8 cap8 w8 ho8
            simp only [List.length_map, HLen.out] at ho8 ⊢
            have HE : Hid (∃ A cap rs, Value.slice (some ⟨g8, 0, none⟩) (k + 1) cap8 = .slice A (k + 1) cap ∧ PO w w8 (.slice (some ⟨g8, 0, none⟩) (k + 1) cap8) rs f (k + 1)) := ⟨_, _, _, rfl, po_snoc HPv.out HRows.out HLen.out ho8⟩
            clear ho8 HO
            go_wp2
            go_roundw
            case rel => exact ⟨k + 1, by omega, by go_num, HE⟩
            case measure => first | (simp [intOf]; done) | (simp [intOf]; omega)
      · as_aux_lemma =>
        obtain ⟨i, rfl, hi⟩ := nat_of (ha1 (by decide))
        obtain ⟨j, rfl, hj⟩ := nat_of (hb2 (by decide))
        have HSz := Lib.hid (fun q => szN_bin HG.out.nd HND.out (by decide) q)
        simp only [Int.toNat_natCast] at HSz
        have HP0 := Lib.hid (pi_start HPO.out 4 (i : Int) (j : Int) 1 1)
        clear HPO ha1 hb2
        skip
        go_wp2
        generalize wr.heap.size + 1 = gp at *
        generalize wr.heap.size = gb at *
        obtain ⟨I, hI⟩ : ∃ I : List Int, I = [1, 1] := ⟨_, rfl⟩
        have HIl : Hid (I.length = 2) := by rw [Hid, hI]; rfl
        rw [← hI] at HP0
        have HPI0 := HP0
        rw [← midP_zero P I] at HPI0
        clear hI
        clear HP0 c0 c1 c2
        go_loopw [7] (fun ix wi => ∃ (q : Nat), q ≤ 2 ∧ ix = .int .i64 q ∧ Hid (PI w wi (.slice A k cap) rs gp gb (4, (i : Int), (j : Int)) (midP P I q))) (fun ix _ => 2 - (intOf ix).toNat)
        case atStart => exact ⟨0, by omega, rfl, HPI0⟩
        case round =>
          clear HPI0
          obtain ⟨q, hq, rfl, HPI⟩ := hrel
          by_cases hq2 : q < 2
          · obtain ⟨hgb, d0, d1, d2⟩ := pi_box HPI.out
            obtain ⟨v, hv⟩ := midP_some HPl.out HIl.out hq2
            obtain ⟨t0, t1⟩ := pi_cell HPI.out (midP_len HPl.out HIl.out (by omega)) hv
            obtain ⟨adi, gi, ei, bi, ri, li, ci⟩ := rs_child HPI.out HLen.out HRows.out hi
            have xi := ci q hq2
            have bnd1 := szN_le f i q
            obtain ⟨adj, gj, ej, bj, rj, lj, cj⟩ := rs_child HPI.out HLen.out HRows.out hj
            subst ei
            obtain rfl := Option.some.inj ej
            have xj := cj q hq2
            have bnd2 := szN_le f j q
            have HPq : Hid (P[q]? = some (cap41 (szN f i q + szN f j q + 1))) := by unfold Hid; rw [HPv.out, szP_get f k hq2, HSz.out q]
            generalize szN f i q = s1 at *
            generalize szN f j q = s2 at *
            have e2 : (i : Int) < (k : Int) := by omega
            have e4 : (j : Int) < (k : Int) := by omega
            have e3 : (q : Int) < 2 := by omega
            have q1 : IntKind.i64.wrap (s1 + s2 + 1) = s1 + s2 + 1 := IntWalk.i64_in _ ⟨by omega, by omega⟩
            have q0 : IntKind.i64.wrap (s1 + s2) = s1 + s2 := IntWalk.i64_in _ ⟨by omega, by omega⟩
            obtain ⟨S, hS⟩ : ∃ S, S = s1 + s2 + 1 := ⟨_, rfl⟩
            have HS1 := Lib.hid (pi_set (pi_on HPI.out (below_drewN (Below.refl _ _) 1)) (midP_len HPl.out HIl.out (by omega)) q S)
            have hl1 : ((midP P I q).set q S).length = 2 := by rw [List.length_set]; exact midP_len HPl.out HIl.out (by omega)
            have hv1 : ((midP P I q).set q S)[q]? = some S := by rw [List.getElem?_set_self (by rw [midP_len HPl.out HIl.out (by omega)]; exact hq2)]
            obtain ⟨u0, u1⟩ := pi_cell HS1.out hl1 hv1
            obtain ⟨hgb2, f0, f1, f2⟩ := pi_box HS1.out
            clear ci cj
            by_cases hbig : 41 < S
            · have hPv : P[q]? = some 41 := by rw [HPq.out]; unfold cap41; rw [← hS, if_pos hbig]
              have HS : Hid (PI w (((wr.drew).setCell ⟨gp, q, none⟩ (.int .i64 S)).setCell ⟨gp, q, none⟩ (.int .i64 41)) (.slice (some adi) k cap) rs gp gb (4, (i : Int), (j : Int)) (midP P I (q + 1))) := by
                have := pi_set HS1.out hl1 q 41
                rw [List.set_set, midP_set HPl.out HIl.out hq2 hPv] at this
                exact this
              clear hv1 hl1 HS1 HPI hv HPq hPv
              subst hS
              go_wp2_with fail
              go_still_tail 21, (by kernel_rfl)
              change wpList _ _ _ _ _ wr.drew
              go_wp2
              go_roundw
              case rel => exact ⟨q + 1, by omega, by go_num, HS⟩
              case measure => first | (simp [intOf]; done) | (simp [intOf]; omega)
            · have hPv : P[q]? = some S := by rw [HPq.out]; unfold cap41; rw [← hS, if_neg hbig]
              have HS : Hid (PI w ((wr.drew).setCell ⟨gp, q, none⟩ (.int .i64 S)) (.slice (some adi) k cap) rs gp gb (4, (i : Int), (j : Int)) (midP P I (q + 1))) := by
                have := HS1.out
                rw [midP_set HPl.out HIl.out hq2 hPv] at this
                exact this
              clear hv1 hl1 HS1 HPI hv HPq hPv
              subst hS
              go_wp2_with fail
              go_still_tail 21, (by kernel_rfl)
              change wpList _ _ _ _ _ wr.drew
              go_wp2
              go_roundw
              case rel => exact ⟨q + 1, by omega, by go_num, HS⟩
              case measure => first | (simp [intOf]; done) | (simp [intOf]; omega)
          · obtain rfl : q = 2 := by omega
            have HO : Hid (Own w wr [eRows (.slice A k cap) (rs.map vP), eInts (.slice (some ⟨gp, 0, none⟩) 2 2) P] (rs.map eP)) := by
              have h := HPI.out
              rw [midP_two HPl.out HIl.out] at h
              exact (Own.three h).tail
            have hlen1 : (rs.map vP).length < 1099511627776 := by rw [List.length_map, HLen.out]; omega
            clear HPI
            go_wp2_with (at_builtin; refine own_row (by rfl) _ _ (by rfl) (by rfl) HO.out (by rfl) (by rfl) hlen1 ?_)
            intro g8 cap8 w8 ho8
            simp only [List.length_map, HLen.out] at ho8 ⊢
            have HE : Hid (∃ A cap rs, Value.slice (some ⟨g8, 0, none⟩) (k + 1) cap8 = .slice A (k + 1) cap ∧ PO w w8 (.slice (some ⟨g8, 0, none⟩) (k + 1) cap8) rs f (k + 1)) := ⟨_, _, _, rfl, po_snoc HPv.out HRows.out HLen.out ho8⟩
            clear ho8 HO
            go_wp2
            go_roundw
            case rel => exact ⟨k + 1, by omega, by go_num, HE⟩
            case measure => first | (simp [intOf]; done) | (simp [intOf]; omega)
      · as_aux_lemma =>
        obtain ⟨i, rfl, hi⟩ := nat_of (ha1 (by decide))
        obtain ⟨j, rfl, hj⟩ := nat_of (hb2 (by decide))
        have HSz := Lib.hid (fun q => szN_bin HG.out.nd HND.out (by decide) q)
        simp only [Int.toNat_natCast] at HSz
        have HP0 := Lib.hid (pi_start HPO.out 5 (i : Int) (j : Int) 1 1)
        clear HPO ha1 hb2
        skip
        go_wp2
        generalize wr.heap.size + 1 = gp at *
        generalize wr.heap.size = gb at *
        obtain ⟨I, hI⟩ : ∃ I : List Int, I = [1, 1] := ⟨_, rfl⟩
        have HIl : Hid (I.length = 2) := by rw [Hid, hI]; rfl
        rw [← hI] at HP0
        have HPI0 := HP0
        rw [← midP_zero P I] at HPI0
        clear hI
        clear HP0 c0 c1 c2
        go_loopw [7] (fun ix wi => ∃ (q : Nat), q ≤ 2 ∧ ix = .int .i64 q ∧ Hid (PI w wi (.slice A k cap) rs gp gb (5, (i : Int), (j : Int)) (midP P I q))) (fun ix _ => 2 - (intOf ix).toNat)
        case atStart => exact ⟨0, by omega, rfl, HPI0⟩
        case round =>
          clear HPI0
          obtain ⟨q, hq, rfl, HPI⟩ := hrel
          by_cases hq2 : q < 2
          · obtain ⟨hgb, d0, d1, d2⟩ := pi_box HPI.out
            obtain ⟨v, hv⟩ := midP_some HPl.out HIl.out hq2
            obtain ⟨t0, t1⟩ := pi_cell HPI.out (midP_len HPl.out HIl.out (by omega)) hv
            obtain ⟨adi, gi, ei, bi, ri, li, ci⟩ := rs_child HPI.out HLen.out HRows.out hi
            have xi := ci q hq2
            have bnd1 := szN_le f i q
            obtain ⟨adj, gj, ej, bj, rj, lj, cj⟩ := rs_child HPI.out HLen.out HRows.out hj
            subst ei
            obtain rfl := Option.some.inj ej
            have xj := cj q hq2
            have bnd2 := szN_le f j q
            have HPq : Hid (P[q]? = some (cap41 (szN f i q + szN f j q + 1))) := by unfold Hid; rw [HPv.out, szP_get f k hq2, HSz.out q]
            generalize szN f i q = s1 at *
            generalize szN f j q = s2 at *
            have e2 : (i : Int) < (k : Int) := by omega
            have e4 : (j : Int) < (k : Int) := by omega
            have e3 : (q : Int) < 2 := by omega
            have q1 : IntKind.i64.wrap (s1 + s2 + 1) = s1 + s2 + 1 := IntWalk.i64_in _ ⟨by omega, by omega⟩
            have q0 : IntKind.i64.wrap (s1 + s2) = s1 + s2 := IntWalk.i64_in _ ⟨by omega, by omega⟩
            obtain ⟨S, hS⟩ : ∃ S, S = s1 + s2 + 1 := ⟨_, rfl⟩
            have HS1 := Lib.hid (pi_set (pi_on HPI.out (below_drewN (Below.refl _ _) 1)) (midP_len HPl.out HIl.out (by omega)) q S)
            have hl1 : ((midP P I q).set q S).length = 2 := by rw [List.length_set]; exact midP_len HPl.out HIl.out (by omega)
            have hv1 : ((midP P I q).set q S)[q]? = some S := by rw [List.getElem?_set_self (by rw [midP_len HPl.out HIl.out (by omega)]; exact hq2)]
            obtain ⟨u0, u1⟩ := pi_cell HS1.out hl1 hv1
            obtain ⟨hgb2, f0, f1, f2⟩ := pi_box HS1.out
            clear ci cj
            by_cases hbig : 41 < S
            · have hPv : P[q]? = some 41 := by rw [HPq.out]; unfold cap41; rw [← hS, if_pos hbig]
              have HS : Hid (PI w (((wr.drew).setCell ⟨gp, q, none⟩ (.int .i64 S)).setCell ⟨gp, q, none⟩ (.int .i64 41)) (.slice (some adi) k cap) rs gp gb (5, (i : Int), (j : Int)) (midP P I (q + 1))) := by
                have := pi_set HS1.out hl1 q 41
                rw [List.set_set, midP_set HPl.out HIl.out hq2 hPv] at this
                exact this
              clear hv1 hl1 HS1 HPI hv HPq hPv
              subst hS
              go_wp2_with fail
              go_still_tail 21, (by kernel_rfl)
              change wpList _ _ _ _ _ wr.drew
              go_wp2
              go_roundw
              case rel => exact ⟨q + 1, by omega, by go_num, HS⟩
              case measure => first | (simp [intOf]; done) | (simp [intOf]; omega)
            · have hPv : P[q]? = some S := by rw [HPq.out]; unfold cap41; rw [← hS, if_neg hbig]
              have HS : Hid (PI w ((wr.drew).setCell ⟨gp, q, none⟩ (.int .i64 S)) (.slice (some adi) k cap) rs gp gb (5, (i : Int), (j : Int)) (midP P I (q + 1))) := by
                have := HS1.out
                rw [midP_set HPl.out HIl.out hq2 hPv] at this
                exact this
              clear hv1 hl1 HS1 HPI hv HPq hPv
              subst hS
              go_wp2_with fail
              go_still_tail 21, (by kernel_rfl)
              change wpList _ _ _ _ _ wr.drew
              go_wp2
              go_roundw
              case rel => exact ⟨q + 1, by omega, by go_num, HS⟩
              case measure => first | (simp [intOf]; done) | (simp [intOf]; omega)
          · obtain rfl : q = 2 := by omega
            have HO : Hid (Own w wr [eRows (.slice A k cap) (rs.map vP), eInts (.slice (some ⟨gp, 0, none⟩) 2 2) P] (rs.map eP)) := by
              have h := HPI.out
              rw [midP_two HPl.out HIl.out] at h
              exact (Own.three h).tail
            have hlen1 : (rs.map vP).length < 1099511627776 := by rw [List.length_map, HLen.out]; omega
            clear HPI
            go_wp2_with (at_builtin; refine own_row (by rfl) _ _ (by rfl) (by rfl) HO.out (by rfl) (by rfl) hlen1 ?_)
            intro g8 cap8 w8 ho8
            simp only [List.length_map, HLen.out] at ho8 ⊢
            have HE : Hid (∃ A cap rs, Value.slice (some ⟨g8, 0, none⟩) (k + 1) cap8 = .slice A (k + 1) cap ∧ PO w w8 (.slice (some ⟨g8, 0, none⟩) (k + 1) cap8) rs f (k + 1)) := ⟨_, _, _, rfl, po_snoc HPv.out HRows.out HLen.out ho8⟩
            clear ho8 HO
            go_wp2
            go_roundw
            case rel => exact ⟨k + 1, by omega, by go_num, HE⟩
            case measure => first | (simp [intOf]; done) | (simp [intOf]; omega)
      · as_aux_lemma =>
        obtain ⟨i, rfl, hi⟩ := nat_of (ha1 (by decide))
        have HSz := Lib.hid (fun q => szN_un HG.out.nd HND.out (by decide) q)
        simp only [Int.toNat_natCast] at HSz
        have HP0 := Lib.hid (pi_start HPO.out 6 (i : Int) z 1 1)
        clear HPO ha1 hb2
        skip
        go_wp2
        generalize wr.heap.size + 1 = gp at *
        generalize wr.heap.size = gb at *
        obtain ⟨I, hI⟩ : ∃ I : List Int, I = [1, 1] := ⟨_, rfl⟩
        have HIl : Hid (I.length = 2) := by rw [Hid, hI]; rfl
        rw [← hI] at HP0
        have HPI0 := HP0
        rw [← midP_zero P I] at HPI0
        clear hI
        clear HP0 c0 c1 c2
        go_loopw [7] (fun ix wi => ∃ (q : Nat), q ≤ 2 ∧ ix = .int .i64 q ∧ Hid (PI w wi (.slice A k cap) rs gp gb (6, (i : Int), z) (midP P I q))) (fun ix _ => 2 - (intOf ix).toNat)
        case atStart => exact ⟨0, by omega, rfl, HPI0⟩
        case round =>
          clear HPI0
          obtain ⟨q, hq, rfl, HPI⟩ := hrel
          by_cases hq2 : q < 2
          · obtain ⟨hgb, d0, d1, d2⟩ := pi_box HPI.out
            obtain ⟨v, hv⟩ := midP_some HPl.out HIl.out hq2
            obtain ⟨t0, t1⟩ := pi_cell HPI.out (midP_len HPl.out HIl.out (by omega)) hv
            obtain ⟨adi, gi, ei, bi, ri, li, ci⟩ := rs_child HPI.out HLen.out HRows.out hi
            have xi := ci q hq2
            have bnd1 := szN_le f i q
            subst ei
            have HPq : Hid (P[q]? = some (cap41 (szN f i q + 1))) := by unfold Hid; rw [HPv.out, szP_get f k hq2, HSz.out q]
            generalize szN f i q = s1 at *
            have e2 : (i : Int) < (k : Int) := by omega
            have e3 : (q : Int) < 2 := by omega
            have q1 : IntKind.i64.wrap (s1 + 1) = s1 + 1 := IntWalk.i64_in _ ⟨by omega, by omega⟩
            obtain ⟨S, hS⟩ : ∃ S, S = s1 + 1 := ⟨_, rfl⟩
            have HS1 := Lib.hid (pi_set HPI.out (midP_len HPl.out HIl.out (by omega)) q S)
            have hl1 : ((midP P I q).set q S).length = 2 := by rw [List.length_set]; exact midP_len HPl.out HIl.out (by omega)
            have hv1 : ((midP P I q).set q S)[q]? = some S := by rw [List.getElem?_set_self (by rw [midP_len HPl.out HIl.out (by omega)]; exact hq2)]
            obtain ⟨u0, u1⟩ := pi_cell HS1.out hl1 hv1
            obtain ⟨hgb2, f0, f1, f2⟩ := pi_box HS1.out
            clear ci
            by_cases hbig : 41 < S
            · have hPv : P[q]? = some 41 := by rw [HPq.out]; unfold cap41; rw [← hS, if_pos hbig]
              have HS : Hid (PI w (((wr).setCell ⟨gp, q, none⟩ (.int .i64 S)).setCell ⟨gp, q, none⟩ (.int .i64 41)) (.slice (some adi) k cap) rs gp gb (6, (i : Int), z) (midP P I (q + 1))) := by
                have := pi_set HS1.out hl1 q 41
                rw [List.set_set, midP_set HPl.out HIl.out hq2 hPv] at this
                exact this
              clear hv1 hl1 HS1 HPI hv HPq hPv
              subst hS
              go_wp2
              go_roundw
              case rel => exact ⟨q + 1, by omega, by go_num, HS⟩
              case measure => first | (simp [intOf]; done) | (simp [intOf]; omega)
            · have hPv : P[q]? = some S := by rw [HPq.out]; unfold cap41; rw [← hS, if_neg hbig]
              have HS : Hid (PI w ((wr).setCell ⟨gp, q, none⟩ (.int .i64 S)) (.slice (some adi) k cap) rs gp gb (6, (i : Int), z) (midP P I (q + 1))) := by
                have := HS1.out
                rw [midP_set HPl.out HIl.out hq2 hPv] at this
                exact this
              clear hv1 hl1 HS1 HPI hv HPq hPv
              subst hS
              go_wp2
              go_roundw
              case rel => exact ⟨q + 1, by omega, by go_num, HS⟩
              case measure => first | (simp [intOf]; done) | (simp [intOf]; omega)
          · obtain rfl : q = 2 := by omega
            have HO : Hid (Own w wr [eRows (.slice A k cap) (rs.map vP), eInts (.slice (some ⟨gp, 0, none⟩) 2 2) P] (rs.map eP)) := by
              have h := HPI.out
              rw [midP_two HPl.out HIl.out] at h
              exact (Own.three h).tail
            have hlen1 : (rs.map vP).length < 1099511627776 := by rw [List.length_map, HLen.out]; omega
            clear HPI
            go_wp2_with (at_builtin; refine own_row (by rfl) _ _ (by rfl) (by rfl) HO.out (by rfl) (by rfl) hlen1 ?_)
            intro g8 cap8 w8 ho8
            simp only [List.length_map, HLen.out] at ho8 ⊢
            have HE : Hid (∃ A cap rs, Value.slice (some ⟨g8, 0, none⟩) (k + 1) cap8 = .slice A (k + 1) cap ∧ PO w w8 (.slice (some ⟨g8, 0, none⟩) (k + 1) cap8) rs f (k + 1)) := ⟨_, _, _, rfl, po_snoc HPv.out HRows.out HLen.out ho8⟩
            clear ho8 HO
            go_wp2
            go_roundw
            case rel => exact ⟨k + 1, by omega, by go_num, HE⟩
            case measure => first | (simp [intOf]; done) | (simp [intOf]; omega)
      · as_aux_lemma =>
        obtain ⟨i, rfl, hi⟩ := nat_of (ha1 (by decide))
        have HSz := Lib.hid (fun q => szN_un HG.out.nd HND.out (by decide) q)
        simp only [Int.toNat_natCast] at HSz
        have HP0 := Lib.hid (pi_start HPO.out 7 (i : Int) z 1 1)
        clear HPO ha1 hb2
        skip
        go_wp2
        generalize wr.heap.size + 1 = gp at *
        generalize wr.heap.size = gb at *
        obtain ⟨I, hI⟩ : ∃ I : List Int, I = [1, 1] := ⟨_, rfl⟩
        have HIl : Hid (I.length = 2) := by rw [Hid, hI]; rfl
        rw [← hI] at HP0
        have HPI0 := HP0
        rw [← midP_zero P I] at HPI0
        clear hI
        clear HP0 c0 c1 c2
        go_loopw [7] (fun ix wi => ∃ (q : Nat), q ≤ 2 ∧ ix = .int .i64 q ∧ Hid (PI w wi (.slice A k cap) rs gp gb (7, (i : Int), z) (midP P I q))) (fun ix _ => 2 - (intOf ix).toNat)
        case atStart => exact ⟨0, by omega, rfl, HPI0⟩
        case round =>
          clear HPI0
          obtain ⟨q, hq, rfl, HPI⟩ := hrel
          by_cases hq2 : q < 2
          · obtain ⟨hgb, d0, d1, d2⟩ := pi_box HPI.out
            obtain ⟨v, hv⟩ := midP_some HPl.out HIl.out hq2
            obtain ⟨t0, t1⟩ := pi_cell HPI.out (midP_len HPl.out HIl.out (by omega)) hv
            obtain ⟨adi, gi, ei, bi, ri, li, ci⟩ := rs_child HPI.out HLen.out HRows.out hi
            have xi := ci q hq2
            have bnd1 := szN_le f i q
            subst ei
            have HPq : Hid (P[q]? = some (cap41 (szN f i q + 1))) := by unfold Hid; rw [HPv.out, szP_get f k hq2, HSz.out q]
            generalize szN f i q = s1 at *
            have e2 : (i : Int) < (k : Int) := by omega
            have e3 : (q : Int) < 2 := by omega
            have q1 : IntKind.i64.wrap (s1 + 1) = s1 + 1 := IntWalk.i64_in _ ⟨by omega, by omega⟩
            obtain ⟨S, hS⟩ : ∃ S, S = s1 + 1 := ⟨_, rfl⟩
            have HS1 := Lib.hid (pi_set HPI.out (midP_len HPl.out HIl.out (by omega)) q S)
            have hl1 : ((midP P I q).set q S).length = 2 := by rw [List.length_set]; exact midP_len HPl.out HIl.out (by omega)
            have hv1 : ((midP P I q).set q S)[q]? = some S := by rw [List.getElem?_set_self (by rw [midP_len HPl.out HIl.out (by omega)]; exact hq2)]
            obtain ⟨u0, u1⟩ := pi_cell HS1.out hl1 hv1
            obtain ⟨hgb2, f0, f1, f2⟩ := pi_box HS1.out
            clear ci
            by_cases hbig : 41 < S
            · have hPv : P[q]? = some 41 := by rw [HPq.out]; unfold cap41; rw [← hS, if_pos hbig]
              have HS : Hid (PI w (((wr).setCell ⟨gp, q, none⟩ (.int .i64 S)).setCell ⟨gp, q, none⟩ (.int .i64 41)) (.slice (some adi) k cap) rs gp gb (7, (i : Int), z) (midP P I (q + 1))) := by
                have := pi_set HS1.out hl1 q 41
                rw [List.set_set, midP_set HPl.out HIl.out hq2 hPv] at this
                exact this
              clear hv1 hl1 HS1 HPI hv HPq hPv
              subst hS
              go_wp2
              go_roundw
              case rel => exact ⟨q + 1, by omega, by go_num, HS⟩
              case measure => first | (simp [intOf]; done) | (simp [intOf]; omega)
            · have hPv : P[q]? = some S := by rw [HPq.out]; unfold cap41; rw [← hS, if_neg hbig]
              have HS : Hid (PI w ((wr).setCell ⟨gp, q, none⟩ (.int .i64 S)) (.slice (some adi) k cap) rs gp gb (7, (i : Int), z) (midP P I (q + 1))) := by
                have := HS1.out
                rw [midP_set HPl.out HIl.out hq2 hPv] at this
                exact this
              clear hv1 hl1 HS1 HPI hv HPq hPv
              subst hS
              go_wp2
              go_roundw
              case rel => exact ⟨q + 1, by omega, by go_num, HS⟩
              case measure => first | (simp [intOf]; done) | (simp [intOf]; omega)
          · obtain rfl : q = 2 := by omega
            have HO : Hid (Own w wr [eRows (.slice A k cap) (rs.map vP), eInts (.slice (some ⟨gp, 0, none⟩) 2 2) P] (rs.map eP)) := by
              have h := HPI.out
              rw [midP_two HPl.out HIl.out] at h
              exact (Own.three h).tail
            have hlen1 : (rs.map vP).length < 1099511627776 := by rw [List.length_map, HLen.out]; omega
            clear HPI
            go_wp2_with (at_builtin; refine own_row (by rfl) _ _ (by rfl) (by rfl) HO.out (by rfl) (by rfl) hlen1 ?_)
            intro g8 cap8 w8 ho8
            simp only [List.length_map, HLen.out] at ho8 ⊢
            have HE : Hid (∃ A cap rs, Value.slice (some ⟨g8, 0, none⟩) (k + 1) cap8 = .slice A (k + 1) cap ∧ PO w w8 (.slice (some ⟨g8, 0, none⟩) (k + 1) cap8) rs f (k + 1)) := ⟨_, _, _, rfl, po_snoc HPv.out HRows.out HLen.out ho8⟩
            clear ho8 HO
            go_wp2
            go_roundw
            case rel => exact ⟨k + 1, by omega, by go_num, HE⟩
            case measure => first | (simp [intOf]; done) | (simp [intOf]; omega)
      · as_aux_lemma =>
        obtain ⟨i, rfl, hi⟩ := nat_of (ha1 (by decide))
        obtain ⟨j, rfl, hj⟩ := nat_of (hb2 (by decide))
        have HSz := Lib.hid (fun q => szN_bin HG.out.nd HND.out (by decide) q)
        simp only [Int.toNat_natCast] at HSz
        have HP0 := Lib.hid (pi_start HPO.out 8 (i : Int) (j : Int) 1 1)
        clear HPO ha1 hb2
        skip
        go_wp2
        generalize wr.heap.size + 1 = gp at *
        generalize wr.heap.size = gb at *
        obtain ⟨I, hI⟩ : ∃ I : List Int, I = [1, 1] := ⟨_, rfl⟩
        have HIl : Hid (I.length = 2) := by rw [Hid, hI]; rfl
        rw [← hI] at HP0
        have HPI0 := HP0
        rw [← midP_zero P I] at HPI0
        clear hI
        clear HP0 c0 c1 c2
        go_loopw [7] (fun ix wi => ∃ (q : Nat), q ≤ 2 ∧ ix = .int .i64 q ∧ Hid (PI w wi (.slice A k cap) rs gp gb (8, (i : Int), (j : Int)) (midP P I q))) (fun ix _ => 2 - (intOf ix).toNat)
        case atStart => exact ⟨0, by omega, rfl, HPI0⟩
        case round =>
          clear HPI0
          obtain ⟨q, hq, rfl, HPI⟩ := hrel
          by_cases hq2 : q < 2
          · obtain ⟨hgb, d0, d1, d2⟩ := pi_box HPI.out
            obtain ⟨v, hv⟩ := midP_some HPl.out HIl.out hq2
            obtain ⟨t0, t1⟩ := pi_cell HPI.out (midP_len HPl.out HIl.out (by omega)) hv
            obtain ⟨adi, gi, ei, bi, ri, li, ci⟩ := rs_child HPI.out HLen.out HRows.out hi
            have xi := ci q hq2
            have bnd1 := szN_le f i q
            obtain ⟨adj, gj, ej, bj, rj, lj, cj⟩ := rs_child HPI.out HLen.out HRows.out hj
            subst ei
            obtain rfl := Option.some.inj ej
            have xj := cj q hq2
            have bnd2 := szN_le f j q
            have HPq : Hid (P[q]? = some (cap41 (szN f i q + szN f j q + 1))) := by unfold Hid; rw [HPv.out, szP_get f k hq2, HSz.out q]
            generalize szN f i q = s1 at *
            generalize szN f j q = s2 at *
            have e2 : (i : Int) < (k : Int) := by omega
            have e4 : (j : Int) < (k : Int) := by omega
            have e3 : (q : Int) < 2 := by omega
            have q1 : IntKind.i64.wrap (s1 + s2 + 1) = s1 + s2 + 1 := IntWalk.i64_in _ ⟨by omega, by omega⟩
            have q0 : IntKind.i64.wrap (s1 + s2) = s1 + s2 := IntWalk.i64_in _ ⟨by omega, by omega⟩
            obtain ⟨S, hS⟩ : ∃ S, S = s1 + s2 + 1 := ⟨_, rfl⟩
            have HS1 := Lib.hid (pi_set (pi_on HPI.out (below_drewN (Below.refl _ _) 1)) (midP_len HPl.out HIl.out (by omega)) q S)
            have hl1 : ((midP P I q).set q S).length = 2 := by rw [List.length_set]; exact midP_len HPl.out HIl.out (by omega)
            have hv1 : ((midP P I q).set q S)[q]? = some S := by rw [List.getElem?_set_self (by rw [midP_len HPl.out HIl.out (by omega)]; exact hq2)]
            obtain ⟨u0, u1⟩ := pi_cell HS1.out hl1 hv1
            obtain ⟨hgb2, f0, f1, f2⟩ := pi_box HS1.out
            clear ci cj
            by_cases hbig : 41 < S
            · have hPv : P[q]? = some 41 := by rw [HPq.out]; unfold cap41; rw [← hS, if_pos hbig]
              have HS : Hid (PI w (((wr.drew).setCell ⟨gp, q, none⟩ (.int .i64 S)).setCell ⟨gp, q, none⟩ (.int .i64 41)) (.slice (some adi) k cap) rs gp gb (8, (i : Int), (j : Int)) (midP P I (q + 1))) := by
                have := pi_set HS1.out hl1 q 41
                rw [List.set_set, midP_set HPl.out HIl.out hq2 hPv] at this
                exact this
              clear hv1 hl1 HS1 HPI hv HPq hPv
              subst hS
              go_wp2_with fail
              go_still_tail 21, (by kernel_rfl)
              change wpList _ _ _ _ _ wr.drew
              go_wp2
              go_roundw
              case rel => exact ⟨q + 1, by omega, by go_num, HS⟩
              case measure => first | (simp [intOf]; done) | (simp [intOf]; omega)
            · have hPv : P[q]? = some S := by rw [HPq.out]; unfold cap41; rw [← hS, if_neg hbig]
              have HS : Hid (PI w ((wr.drew).setCell ⟨gp, q, none⟩ (.int .i64 S)) (.slice (some adi) k cap) rs gp gb (8, (i : Int), (j : Int)) (midP P I (q + 1))) := by
                have := HS1.out
                rw [midP_set HPl.out HIl.out hq2 hPv] at this
                exact this
              clear hv1 hl1 HS1 HPI hv HPq hPv
              subst hS
              go_wp2_with fail
              go_still_tail 21, (by kernel_rfl)
              change wpList _ _ _ _ _ wr.drew
              go_wp2
              go_roundw
              case rel => exact ⟨q + 1, by omega, by go_num, HS⟩
              case measure => first | (simp [intOf]; done) | (simp [intOf]; omega)
          · obtain rfl : q = 2 := by omega
            have HO : Hid (Own w wr [eRows (.slice A k cap) (rs.map vP), eInts (.slice (some ⟨gp, 0, none⟩) 2 2) P] (rs.map eP)) := by
              have h := HPI.out
              rw [midP_two HPl.out HIl.out] at h
              exact (Own.three h).tail
            have hlen1 : (rs.map vP).length < 1099511627776 := by rw [List.length_map, HLen.out]; omega
            clear HPI
            go_wp2_with (at_builtin; refine own_row (by rfl) _ _ (by rfl) (by rfl) HO.out (by rfl) (by rfl) hlen1 ?_)
            intro g8 cap8 w8 ho8
            simp only [List.length_map, HLen.out] at ho8 ⊢
            have HE : Hid (∃ A cap rs, Value.slice (some ⟨g8, 0, none⟩) (k + 1) cap8 = .slice A (k + 1) cap ∧ PO w w8 (.slice (some ⟨g8, 0, none⟩) (k + 1) cap8) rs f (k + 1)) := ⟨_, _, _, rfl, po_snoc HPv.out HRows.out HLen.out ho8⟩
            clear ho8 HO
            go_wp2
            go_roundw
            case rel => exact ⟨k + 1, by omega, by go_num, HE⟩
            case measure => first | (simp [intOf]; done) | (simp [intOf]; omega)
      · as_aux_lemma =>
        obtain ⟨i, rfl, hi⟩ := nat_of (ha1 (by decide))
        obtain ⟨j, rfl, hj⟩ := nat_of (hb2 (by decide))
        have HSz := Lib.hid (fun q => szN_bin HG.out.nd HND.out (by decide) q)
        simp only [Int.toNat_natCast] at HSz
        have HP0 := Lib.hid (pi_start HPO.out 9 (i : Int) (j : Int) 1 1)
        clear HPO ha1 hb2
        skip
        go_wp2
        generalize wr.heap.size + 1 = gp at *
        generalize wr.heap.size = gb at *
        obtain ⟨I, hI⟩ : ∃ I : List Int, I = [1, 1] := ⟨_, rfl⟩
        have HIl : Hid (I.length = 2) := by rw [Hid, hI]; rfl
        rw [← hI] at HP0
        have HPI0 := HP0
        rw [← midP_zero P I] at HPI0
        clear hI
        clear HP0 c0 c1 c2
        go_loopw [7] (fun ix wi => ∃ (q : Nat), q ≤ 2 ∧ ix = .int .i64 q ∧ Hid (PI w wi (.slice A k cap) rs gp gb (9, (i : Int), (j : Int)) (midP P I q))) (fun ix _ => 2 - (intOf ix).toNat)
        case atStart => exact ⟨0, by omega, rfl, HPI0⟩
        case round =>
          clear HPI0
          obtain ⟨q, hq, rfl, HPI⟩ := hrel
          by_cases hq2 : q < 2
          · obtain ⟨hgb, d0, d1, d2⟩ := pi_box HPI.out
            obtain ⟨v, hv⟩ := midP_some HPl.out HIl.out hq2
            obtain ⟨t0, t1⟩ := pi_cell HPI.out (midP_len HPl.out HIl.out (by omega)) hv
            obtain ⟨adi, gi, ei, bi, ri, li, ci⟩ := rs_child HPI.out HLen.out HRows.out hi
            have xi := ci q hq2
            have bnd1 := szN_le f i q
            obtain ⟨adj, gj, ej, bj, rj, lj, cj⟩ := rs_child HPI.out HLen.out HRows.out hj
            subst ei
            obtain rfl := Option.some.inj ej
            have xj := cj q hq2
            have bnd2 := szN_le f j q
            have HPq : Hid (P[q]? = some (cap41 (szN f i q + szN f j q + 1))) := by unfold Hid; rw [HPv.out, szP_get f k hq2, HSz.out q]
            generalize szN f i q = s1 at *
            generalize szN f j q = s2 at *
            have e2 : (i : Int) < (k : Int) := by omega
            have e4 : (j : Int) < (k : Int) := by omega
            have e3 : (q : Int) < 2 := by omega
            have q1 : IntKind.i64.wrap (s1 + s2 + 1) = s1 + s2 + 1 := IntWalk.i64_in _ ⟨by omega, by omega⟩
            have q0 : IntKind.i64.wrap (s1 + s2) = s1 + s2 := IntWalk.i64_in _ ⟨by omega, by omega⟩
            obtain ⟨S, hS⟩ : ∃ S, S = s1 + s2 + 1 := ⟨_, rfl⟩
            have HS1 := Lib.hid (pi_set (pi_on HPI.out (below_drewN (Below.refl _ _) 1)) (midP_len HPl.out HIl.out (by omega)) q S)
            have hl1 : ((midP P I q).set q S).length = 2 := by rw [List.length_set]; exact midP_len HPl.out HIl.out (by omega)
            have hv1 : ((midP P I q).set q S)[q]? = some S := by rw [List.getElem?_set_self (by rw [midP_len HPl.out HIl.out (by omega)]; exact hq2)]
            obtain ⟨u0, u1⟩ := pi_cell HS1.out hl1 hv1
            obtain ⟨hgb2, f0, f1, f2⟩ := pi_box HS1.out
            clear ci cj
            by_cases hbig : 41 < S
            · have hPv : P[q]? = some 41 := by rw [HPq.out]; unfold cap41; rw [← hS, if_pos hbig]
              have HS : Hid (PI w (((wr.drew).setCell ⟨gp, q, none⟩ (.int .i64 S)).setCell ⟨gp, q, none⟩ (.int .i64 41)) (.slice (some adi) k cap) rs gp gb (9, (i : Int), (j : Int)) (midP P I (q + 1))) := by
                have := pi_set HS1.out hl1 q 41
                rw [List.set_set, midP_set HPl.out HIl.out hq2 hPv] at this
                exact this
              clear hv1 hl1 HS1 HPI hv HPq hPv
              subst hS
              go_wp2_with fail
              go_still_tail 21, (by kernel_rfl)
              change wpList _ _ _ _ _ wr.drew
              go_wp2
              go_roundw
              case rel => exact ⟨q + 1, by omega, by go_num, HS⟩
              case measure => first | (simp [intOf]; done) | (simp [intOf]; omega)
            · have hPv : P[q]? = some S := by rw [HPq.out]; unfold cap41; rw [← hS, if_neg hbig]
              have HS : Hid (PI w ((wr.drew).setCell ⟨gp, q, none⟩ (.int .i64 S)) (.slice (some adi) k cap) rs gp gb (9, (i : Int), (j : Int)) (midP P I (q + 1))) := by
                have := HS1.out
                rw [midP_set HPl.out HIl.out hq2 hPv] at this
                exact this
              clear hv1 hl1 HS1 HPI hv HPq hPv
              subst hS
              go_wp2_with fail
              go_still_tail 21, (by kernel_rfl)
              change wpList _ _ _ _ _ wr.drew
              go_wp2
              go_roundw
              case rel => exact ⟨q + 1, by omega, by go_num, HS⟩
              case measure => first | (simp [intOf]; done) | (simp [intOf]; omega)
          · obtain rfl : q = 2 := by omega
            have HO : Hid (Own w wr [eRows (.slice A k cap) (rs.map vP), eInts (.slice (some ⟨gp, 0, none⟩) 2 2) P] (rs.map eP)) := by
              have h := HPI.out
              rw [midP_two HPl.out HIl.out] at h
              exact (Own.three h).tail
            have hlen1 : (rs.map vP).length < 1099511627776 := by rw [List.length_map, HLen.out]; omega
            clear HPI
            go_wp2_with (at_builtin; refine own_row (by rfl) _ _ (by rfl) (by rfl) HO.out (by rfl) (by rfl) hlen1 ?_)
            intro g8 cap8 w8 ho8
            simp only [List.length_map, HLen.out] at ho8 ⊢
            have HE : Hid (∃ A cap rs, Value.slice (some ⟨g8, 0, none⟩) (k + 1) cap8 = .slice A (k + 1) cap ∧ PO w w8 (.slice (some ⟨g8, 0, none⟩) (k + 1) cap8) rs f (k + 1)) := ⟨_, _, _, rfl, po_snoc HPv.out HRows.out HLen.out ho8⟩
            clear ho8 HO
            go_wp2
            go_roundw
            case rel => exact ⟨k + 1, by omega, by go_num, HE⟩
            case measure => first | (simp [intOf]; done) | (simp [intOf]; omega)
    · obtain rfl : k = N := by omega
      have HE := Lib.hid hP
      clear HS hP
      go_wp2
      go_ret
      exact ⟨_, _, _, rfl, HE.out⟩
end Go.Proofs.YtaelgnmklepebaaDoor.Fm

/- The walks of package mend: the row of one letter more, the table of all costs. -/
import Derived.Test.YtfiknbdpjnpkdaaDoorMendW
import Derived.StillTailTactics
namespace Go.Proofs.YtfiknbdpjnpkdaaDoor.Me
open Go.RowKit Go.IntWalk Go.Proofs.YtfiknbdpjnpkdaaDoor.Wd Go.Proofs.YtfiknbdpjnpkdaaDoor.Wo Go.Proofs.YtfiknbdpjnpkdaaDoor.Df Go.Proofs.YtfiknbdpjnpkdaaDoor.Rc Go.Proofs.YtfiknbdpjnpkdaaDoor.Ne

/-! ### edited -/
/-- Go's min of two. -/
theorem min_two (x y v : Int) (hv : v = min x y) (W : World) : (Builtin.min_ #[3, 3] 3 #[.int .i64 x, .int .i64 y]).run Tryd.prog W = .ok (.int .i64 v) W := by
  have e : v = if y < x then y else x := by
    rw [hv]; split
    all_goals omega
  rw [e]
  simp [Builtin.min_, Builtin.min2]
/-- What is known of a state's cost when the first c letters have been tried. -/
noncomputable def edC (d : Aut) (x : Int) (p : List Int) (s : Nat) : Nat → Nat
  | 0 => min 1000000 (1000 + cst d s p)
  | c + 1 => min (edC d x p s c) (mk x (c : Int) + cst d (Df.step d s c) p)
theorem edC_le (d : Aut) (x : Int) (p : List Int) (s : Nat) : ∀ c, edC d x p s c ≤ 1000000 ∧ edC d x p s c ≤ 1000 + cst d s p
  | 0 => by unfold edC; omega
  | c + 1 => by have := edC_le d x p s c; unfold edC; omega
theorem edC_put (d : Aut) (x : Int) (p : List Int) (s : Nat) : ∀ c a : Nat, a < c → edC d x p s c ≤ mk x (a : Int) + cst d (Df.step d s a) p
  | 0, a, h => by omega
  | c + 1, a, h => by
    unfold edC
    by_cases e : a = c
    · subst e; omega
    · have := edC_put d x p s c a (by omega); omega
theorem edC_ge {d : Aut} {x : Int} {p : List Int} {s : Nat} : ∀ c : Nat, (c : Int) ≤ d.L → cst d s (x :: p) ≤ edC d x p s c
  | 0, _ => by
    have h1 := cst_never d s (x :: p)
    have h2 := cst_del (d := d) (s := s) (w := p) x
    unfold edC; omega
  | c + 1, h => by
    have h1 := edC_ge (d := d) (x := x) (p := p) (s := s) c (by omega)
    have h2 := cst_put (d := d) (s := s) (w := p) x (a := c) (by omega)
    unfold edC; omega
theorem edC_edited {d : Aut} (x : Int) (p : List Int) {l : Nat} (hl : (l : Int) = d.L) : Edited d x p (fun s => edC d x p s l) :=
  ⟨fun s _ => ⟨edC_ge l (by omega), (edC_le d x p s l).1⟩, fun s _ => (edC_le d x p s l).2, fun s a _ ha => edC_put d x p s l a (by omega)⟩
set_option linter.unusedSimpArgs false in
set_option maxRecDepth 100000 in
set_option maxHeartbeats 4000000 in
theorem edited_any (v : Value) (d : Aut) (n : Nat) (x : Int) (p : List Int) (B : Option Addr) (cb : Nat) (w : World) (h : DfaAt w w.heap.size v d) (gd : Df.Good d) (hn : d.next.length = n) (hB : IntsAt w w.heap.size B (cF n fun s => cst d s p)) :
    Calls Tryd.prog 52 #[v, .int .i64 x, .slice B n cb] w fun e w' => Hid (∃ g R, e = .returned (wv g n) ∧ Edited d x p R ∧ Own w w' [eInts (wv g n) (cF n R)] []) := by
  obtain ⟨L, s, A, c, F, cf, rfl, h⟩ := h
  obtain ⟨w1, hw1, hB1, hX, hd1⟩ := box_dfa w h
  have HG := Lib.hid gd
  have h40 := gd.n40
  have HN := Lib.hid hn
  rw [hn] at hX hw1
  rw [hn]
  have HB := Lib.hid hB1
  have HW := Lib.hid hw1
  have HD := Lib.hid hd1
  have hBi := hB.on hB1
  have HBi : Hid (∀ W es fs, Own w1 W es fs → IntsAt W W.heap.size B (cF n fun s => cst d s p)) := fun W es fs h => hBi.on h.below
  have hc2 := hX.c2
  have HX := Lib.hid hX
  have hnn : n ≤ 40 := by rw [← hn]; exact h40
  have HM := Lib.hid fun (a : Int) (W : World) => making_any x a W
  obtain ⟨l, hl⟩ : ∃ l : Nat, (l : Int) = d.L := ⟨d.L.toNat, by have := gd.l1; omega⟩
  have hl6 : l ≤ 6 := by have := gd.l6; omega
  have HLl := Lib.hid hl
  have HEd := Lib.hid (edC_edited x p hl)
  have HLe := Lib.hid fun s c => (edC_le d x p s c).1
  clear h hw1 hB1 hX hd1 gd h40 hn hB hBi hl
  generalize d.fin.length = m at *
  go_enter Tryd.func52, Tryd.ntmps52
  go_wp2_with (at_make; rw [← HW.out]; refine mk_ints rfl _ _ rfl n rfl rfl (by omega) ?_)
  intro w2 ho
  have HO : Hid (Own w1 w2 [eInts (wv w1.heap.size n) (cF n (mixC (fun s => edC d x p s l) (fun _ => 0) 0))] []) := by rw [mixC_zero, ← cF_rep]; exact Own.of_nums ho
  have hc2 := (HX.out.on ho.2.1).c2
  clear ho HW HX
  obtain ⟨g, hg⟩ : ∃ g, w1.heap.size = g := ⟨_, rfl⟩
  rw [hg] at HO ⊢
  clear hg
  go_wp2
  clear hc2
  go_loopw [19] (fun i wr => ∃ (k : Nat), k ≤ n ∧ i = .int .i64 k ∧ Hid (Own w1 wr [eInts (wv g n) (cF n (mixC (fun s => edC d x p s l) (fun _ => 0) k))] [])) (fun i _ => n - (intOf i).toNat)
  case atStart => exact ⟨0, by omega, rfl, HO⟩
  case round =>
    clear HO
    obtain ⟨k, hk, rfl, HO⟩ := hrel
    by_cases hlt : k < n
    · have e1 : (k : Int) < (n : Int) := by omega
      have hlt' : k < d.next.length := by rw [HN.out]; exact hlt
      obtain ⟨ada, Ar, cr, rfl, hrb, hrc, hrl, hrl2, hri⟩ := HD.out.rows k _ (List.getElem?_eq_getElem hlt')
      have hrc := (HO.out.below.cell (p := ada.add k) (by rw [Wd.block_add]; exact hrb)).trans hrc
      have hll : ((d.next[k]).length : Int) = d.L := HG.out.row _ (List.getElem_mem hlt')
      have HAt : Hid (∀ a : Nat, (a : Int) < d.L → (d.next[k])[a]? = some ((Df.step d k a : Nat) : Int) ∧ Df.step d k a < n) := fun a ha => by
        obtain ⟨r, h1, _, _, h2, h3⟩ := HG.out.at_ hlt' ha
        rw [List.getElem?_eq_getElem hlt'] at h1
        obtain rfl := Option.some.inj h1
        rw [HN.out] at h3
        exact ⟨h2, h3⟩
      have hbl := HO.out.below
      obtain ⟨adb, rfl, _, hbc, _⟩ := (HBi.out _ _ _ HO.out).get (cF_get _ hlt)
      obtain ⟨k1, k2⟩ := own_ints_cell HO.out (List.mem_append_left _ List.mem_cons_self) (cF_length _ _) (cF_get _ hlt)
      have hrll : (d.next[k]).length = l := by have := HLl.out; omega
      rw [hrll] at hrc hrl
      have hcs := cst_never d k p
      have hmin := min_two 1000000 (1000 + ((cst d k p : Nat) : Int)) ((edC d x p k 0 : Nat) : Int) (by unfold edC; omega)
      have hw1 : IntKind.i64.wrap (1000 + ((cst d k p : Nat) : Int)) = 1000 + ((cst d k p : Nat) : Int) := IntWalk.i64_in _ ⟨by omega, by omega⟩
      obtain ⟨y0, hy0⟩ : ∃ y0, edC d x p k 0 = y0 := ⟨_, rfl⟩
      have HO5 : Hid (Own w1 (wr.setCell ⟨g, k, none⟩ (.int .i64 (y0 : Int))) [eInts (wv g n) ((cF n (mixC (fun s => edC d x p s l) (fun _ => 0) k)).set k ((edC d x p k 0 : Nat) : Int))] []) := by rw [hy0]; exact own_ints_set HO.out (cF_length _ _) k _
      rw [hy0] at hmin
      have HI := Lib.hid hri
      clear HO hll hbl hri hrll hy0
      generalize d.next[k] = r at *
      generalize cst d k p = y at *
      clear hlt'
      go_wp2
      go_loopw [35] (fun i w3 => ∃ (q : Nat), q ≤ l ∧ i = .int .i64 q ∧ Hid (Own w1 w3 [eInts (wv g n) ((cF n (mixC (fun s => edC d x p s l) (fun _ => 0) k)).set k ((edC d x p k q : Nat) : Int))] [])) (fun i _ => l - (intOf i).toNat)
      case atStart => exact ⟨0, by omega, rfl, HO5⟩
      case round =>
        clear HO5 hrc hbc k1 k2 hmin hw1
        obtain ⟨q, hq, rfl, HO⟩ := hrel
        by_cases hql : q < l
        · have hqL : (q : Int) < d.L := by rw [← HLl.out]; omega
          obtain ⟨ha1, ha2⟩ := HAt.out q hqL
          obtain ⟨adr, rfl, _, hrcell, hrlt⟩ := (HI.out.on HO.out.below).get ha1
          obtain ⟨adb2, eb, _, hbc, _⟩ := (HBi.out _ _ _ HO.out).get (cF_get _ ha2)
          obtain rfl := Option.some.inj eb
          have hlen : ((cF n (mixC (fun s => edC d x p s l) (fun _ => 0) k)).set k ((edC d x p k q : Nat) : Int)).length = n := by rw [List.length_set, cF_length]
          obtain ⟨k1, k2⟩ := own_ints_cell HO.out (List.mem_append_left _ List.mem_cons_self) hlen (j := k) (x := ((edC d x p k q : Nat) : Int)) (by rw [List.getElem?_set_self (by rw [cF_length]; exact hlt)])
          have hE1 := HLe.out k q
          have hE2 := cst_never d (Df.step d k q) p
          have hmk : mk x (q : Int) ≤ 1001 := by unfold mk neq; split <;> omega
          have hmin := min_two ((edC d x p k q : Nat) : Int) (((mk x (q : Int) : Nat) : Int) + ((cst d (Df.step d k q) p : Nat) : Int)) ((edC d x p k (q + 1) : Nat) : Int) (by show _ = _; rw [edC]; omega)
          have HE : Hid (Own w1 (wr.setCell ⟨g, k, none⟩ (.int .i64 ((edC d x p k (q + 1) : Nat) : Int))) [eInts (wv g n) ((cF n (mixC (fun s => edC d x p s l) (fun _ => 0) k)).set k ((edC d x p k (q + 1) : Nat) : Int))] []) := by
            have h1 := own_ints_set HO.out hlen k ((edC d x p k (q + 1) : Nat) : Int)
            rwa [List.set_set] at h1
          have hMk := Lib.hid fun W => HM.out (q : Int) W
          have e2 : (q : Int) < (l : Int) := by omega
          have e3 : ((Df.step d k q : Nat) : Int) < (n : Int) := by omega
          clear HO ha1 hlen hrlt hqL
          generalize Df.step d k q = t at *
          generalize cst d t p = z at *
          generalize mk x (q : Int) = mz at *
          obtain ⟨y1, hy1⟩ : ∃ y1, edC d x p k (q + 1) = y1 := ⟨_, rfl⟩
          have HY1 := Lib.hid hy1
          rw [hy1] at hmin
          clear hy1
          generalize edC d x p k q = y2 at *
          have hw1 : IntKind.i64.wrap ((mz : Int) + (z : Int)) = (mz : Int) + (z : Int) := IntWalk.i64_in _ ⟨by omega, by omega⟩
          go_wp2_with fail
          refine wp_region_still_tail 16 (by kernel_rfl) (by kernel_rfl) ?_
          simp only [List.take_succ_cons, List.take_zero, List.drop_succ_cons, List.drop_zero]
          iterate 8 still_step
          still_call (hMk.out _)
          iterate 7 still_step
          refine wpStill_nil ?_
          change wpList _ _ _ _ _ wr.drew
          go_wp2
          go_roundw
          case rel => exact ⟨q + 1, by omega, by go_num, by rw [← HY1.out]; exact Lib.hid (Own.on HE.out (Below.refl _ _).drew)⟩
          case measure => simp [intOf]; omega
        · obtain rfl : q = l := by omega
          have HE : Hid (Own w1 wr [eInts (wv g n) (cF n (mixC (fun s => edC d x p s q) (fun _ => 0) (k + 1)))] []) := by
            have h := HO.out
            rwa [mixC_next n (fun s => edC d x p s q) (fun _ => 0) k rfl] at h
          have e2 : ¬ (q : Int) < (q : Int) := by omega
          clear HO
          go_wp2
          go_roundw
          case rel => exact ⟨k + 1, by omega, by go_num, HE⟩
          case measure => simp [intOf]; omega
    · obtain rfl : k = n := by omega
      have e2 : ¬ (k : Int) < (k : Int) := by omega
      have HE : Hid (Own w wr [eInts (wv g k) (cF k (fun s => edC d x p s l))] []) := by
        have h := HO.out.base HB.out
        rw [mixC_all] at h; exact h
      clear HO
      go_wp2
      go_ret
      exact ⟨g, rfl, _, HEd.out, HE.out⟩
end Go.Proofs.YtfiknbdpjnpkdaaDoor.Me

/- The rewriter of package mean in memory, and its add. -/
import Derived.Test.YtaelgnmklepebaaDoorMeanM
import Derived.Test.YtaelgnmklepebaaDoorNodes
import Derived.Handy
namespace Go.Proofs.YtaelgnmklepebaaDoor.Fm
open Go.RowKit Go.IntWalk Go.Proofs.YtaelgnmklepebaaDoor.Wd

def eRw (g : Nat) (l : List Value) : Ent := ⟨82, 2, .slice (some ⟨g, 0, none⟩) 1 1, 1, l⟩
/-- The rewriter: its block g, the old nodes, the new ones. -/
def Rw (w0 w : World) (g : Nat) (ov : Value) (fs : List Ent) (l : List Nd) : Prop := ∃ nv, Own w0 w [eRw g [ov, nv], eNodes nv l] fs
theorem Rw.on {w0 w w' : World} {g : Nat} {ov : Value} {fs : List Ent} {l : List Nd} (h : Rw w0 w g ov fs l) (hb : Below w.heap.size w w') : Rw w0 w' g ov fs l := by
  obtain ⟨nv, h⟩ := h
  exact ⟨nv, h.on hb⟩
theorem Rw.below {w0 w : World} {g : Nat} {ov : Value} {fs : List Ent} {l : List Nd} (h : Rw w0 w g ov fs l) : Below w0.heap.size w0 w := by
  obtain ⟨nv, h⟩ := h
  exact h.below
theorem Rw.less {w0 w : World} {g : Nat} {ov : Value} {fs fs' : List Ent} {l : List Nd} (h : Rw w0 w g ov fs l) (p : ∀ e ∈ fs', e ∈ fs) : Rw w0 w g ov fs' l := by
  obtain ⟨nv, h⟩ := h
  exact ⟨nv, h.weak p⟩
theorem Rw.form {w0 w : World} {g : Nat} {ov : Value} {fs : List Ent} {l : List Nd} (h : Rw w0 w g ov fs l) :
    ∃ A cap, w.cell? ⟨g, 0, none⟩ = some ov ∧ w.cell? ⟨g, 1, none⟩ = some (.slice A l.length cap) ∧ Own w0 w [eRw g [ov, .slice A l.length cap], eNodes (.slice A l.length cap) l] fs := by
  obtain ⟨nv, h⟩ := h
  obtain ⟨A, cap, hv, _⟩ := h.form (e := eNodes nv l) (by simp)
  simp only [eNodes] at hv
  subst hv
  have hm : eRw g [ov, .slice A l.length cap] ∈ [eRw g [ov, .slice A l.length cap], eNodes (.slice A l.length cap) l] ++ fs := by simp
  exact ⟨A, cap, (h.cell hm (j := 0) rfl).1, (h.cell hm (j := 1) rfl).1, h⟩
/-- A node that is a variable, laid to what is done. -/
def eBox (g : Nat) (n : Nd) : Ent := ⟨29, 3, .slice (some ⟨g, 0, none⟩) 1 1, 1, [.int .i64 n.1, .int .i64 n.2.1, .int .i64 n.2.2]⟩
theorem Rw.box {w0 w : World} {g : Nat} {ov : Value} {fs : List Ent} {l : List Nd} (h : Rw w0 w g ov fs l) (k a b : Int) :
    Rw w0 (w.alloc (.cells #[.int .i64 k, .int .i64 a, .int .i64 b] 29)) g ov (eBox w.heap.size (k, a, b) :: fs) l := by
  obtain ⟨nv, h⟩ := h
  exact ⟨nv, (h.lit 29 3 1 #[.int .i64 k, .int .i64 a, .int .i64 b] rfl (by simp [maxLen])).fin⟩
theorem Rw.boxCell {w0 w : World} {g g2 : Nat} {ov : Value} {fs : List Ent} {l : List Nd} {k a b : Int} (h : Rw w0 w g ov (eBox g2 (k, a, b) :: fs) l) :
    w.cell? ⟨g2, 0, none⟩ = some (.int .i64 k) ∧ w.cell? ⟨g2, 1, none⟩ = some (.int .i64 a) ∧ w.cell? ⟨g2, 2, none⟩ = some (.int .i64 b) := by
  obtain ⟨nv, h⟩ := h
  have hm : eBox g2 (k, a, b) ∈ [eRw g [ov, nv], eNodes nv l] ++ (eBox g2 (k, a, b) :: fs) := by simp
  exact ⟨(h.cell (j := 0) hm rfl).1, (h.cell (j := 1) hm rfl).1, (h.cell (j := 2) hm rfl).1⟩
theorem box_mem {x : Ent} {fs : List Ent} : ∀ e ∈ fs, e ∈ x :: fs := fun _ h => List.mem_cons_of_mem _ h
set_option maxRecDepth 100000 in
set_option maxHeartbeats 1000000 in
theorem add_any {w0 w : World} {g : Nat} {ov : Value} {fs : List Ent} {l : List Nd} (h : Rw w0 w g ov fs l) (hl : l.length ≤ 1000) (k a b : Int) :
    Calls Tryd.prog 54 #[.pointer (some ⟨g, 0, none⟩), .int .i64 k, .int .i64 a, .int .i64 b] w fun e w' => e = .returned (.int .i64 (l.length : Int)) ∧ Hid (Rw w0 w' g ov fs (l ++ [(k, a, b)])) := by
  obtain ⟨A, cap, hc0, hc1, ho⟩ := h.form
  have HO := Lib.hid ho.two
  obtain ⟨n, hn⟩ : ∃ n, l.length = n := ⟨_, rfl⟩
  have HN := Lib.hid hn
  rw [hn] at hl hc1 HO ⊢
  have hb : l.length < 1099511627776 := by omega
  clear h ho hn
  go_enter Tryd.func54, Tryd.ntmps54
  go_wp2_with (at_builtin; refine own_node (m := (k, a, b)) (by rfl) _ _ (by rfl) (by rfl) HO.out (by rfl) hb ?_)
  intro g6 cap6 w6 ho6
  rw [HN.out] at ho6 ⊢
  have hm : eRw g [ov, .slice A n cap] ∈ [eNodes (.slice (some ⟨g6, 0, none⟩) (n + 1) cap6) (l ++ [(k, a, b)]), eRw g [ov, .slice A n cap]] ++ fs := by simp
  obtain ⟨t0, t1⟩ := ho6.cell hm (j := 1) rfl
  have hs := Own.set (t := 82) (sz := 2) (n := 1) (cap := 1) (g := g) (xs := [ov, .slice A n cap]) ho6.two 1 (.slice (some ⟨g6, 0, none⟩) (n + 1) cap6)
  have HS : Hid (Rw w0 (w6.setCell ⟨g, 1, none⟩ (.slice (some ⟨g6, 0, none⟩) (n + 1) cap6)) g ov fs (l ++ [(k, a, b)])) := ⟨_, hs⟩
  have hlt := (ho6.lt (ad := ⟨g, 0, none⟩) hm).2
  clear ho6 HO hm hs hc0 hc1 hb
  go_wp2
  go_ret
  exact ⟨rfl, HS.out⟩
end Go.Proofs.YtaelgnmklepebaaDoor.Fm

/- The walks of package form: attempt and its deferred closure. -/
import Derived.Test.YtloihkoamccacaaGreatDoorWrite
import Derived.Defers
import Derived.Recover
namespace Go.Proofs.YtloihkoamccacaaGreatDoor.Fm
open Go.RowKit Go.IntWalk Go.Proofs.YtloihkoamccacaaGreatDoor.Wd Go.Proofs.YtloihkoamccacaaGreatDoor.Wo

def eErr (g : Nat) (v : Value) : Ent := ⟨28, 1, .slice (some ⟨g, 0, none⟩) 1 1, 1, [v]⟩
theorem err_new {w0 w : World} {es fs : List Ent} (h : Own w0 w es fs) (v : Value) : Own w0 (w.alloc (.cells #[v] 28)) (eErr w.heap.size v :: es) fs := h.lit _ 1 1 #[v] rfl (by simp [maxLen])
theorem err_cell {w0 w : World} {es fs : List Ent} (h : Own w0 w es fs) {g : Nat} {v : Value} (he : eErr g v ∈ es ++ fs) : w.cell? ⟨g, 0, none⟩ = some v ∧ w.frozen? ⟨g, 0, none⟩ = false := h.cell (j := 0) he rfl
theorem err_set {w0 w : World} {g : Nat} {v : Value} {es fs : List Ent} (h : Own w0 w (eErr g v :: es) fs) (u : Value) : Own w0 (w.setCell ⟨g, 0, none⟩ u) (eErr g u :: es) fs := h.set 0 u
/-- The only row that is done, written to again. -/
theorem own_undo {w0 w : World} {x : Ent} {es : List Ent} (h : Own w0 w es [x]) : Own w0 w (x :: es) [] :=
  ⟨h.below, fun e he => by
    rcases List.mem_cons.1 he with rfl | he
    · exact h.done _ (by simp)
    · exact h.each e he, fun e he => by simp at he, List.pairwise_cons.2 ⟨fun e he => far_symm (h.off e he x (by simp)), h.apart⟩, fun e _ f hf => by simp at hf⟩

theorem catch_idle (p : Addr) (w : World) :
    CallsD Tryz.prog 53 #[.pointer (some p)] .returning w fun e u' w' => e = .returned (.tuple #[]) ∧ u' = .returning ∧ w' = w := by
  refine callsD_of_wpS Tryz.func53 rfl fun c₀ cs hu => ?_
  apply wpS_seq
  apply wpS_region
  simp [wpOpsS, go_sem, recoverD, hu, Tryz.ntmps53, Exit.thenS]
  apply wpS_seq
  apply wpS_region
  simp [wpOpsS, go_sem, Exit.thenS]
  refine wpS_cond (t := false) (by simp [Act.eval, Array.replicate]) ?_
  simp only [Bool.false_eq_true, if_false]
  refine wpS_of_wp (wp_skip ?_)
  cases c₀
  simp_all [bodyPostS, results, Tryz.results53]
theorem catch_panic (p : Addr) (n : Nat) (old : Value) (w : World) (hc : w.cell? p = some old) (hz : w.frozen? p = false) :
    CallsD Tryz.prog 53 #[.pointer (some p)] (.panicking [panicOf n]) w fun e u' w' =>
      e = .returned (.tuple #[]) ∧ u' = .panicking [{ v := .iface 57 (.int .i64 (n : Int)), recovered := true }] ∧ w' = w.setCell p (.iface 57 (.int .i64 (n : Int))) := by
  have hta : ∀ w : World, (Instr.typeAssert (.iface 57 (.int .i64 (n : Int))) 20 57 false).run Tryz.prog w = .ok (.int .i64 (n : Int)) w := fun w => by kernel_rfl
  unfold panicOf
  refine callsD_of_wpS Tryz.func53 rfl fun c₀ cs hu => ?_
  apply wpS_seq
  apply wpS_region
  simp [wpOpsS, go_sem, recoverD, hu, Tryz.ntmps53, Exit.thenS]
  apply wpS_seq
  apply wpS_region
  simp [wpOpsS, go_sem, Exit.thenS]
  refine wpS_cond (t := true) (by simp [Act.eval, Array.replicate]) ?_
  simp only [if_true]
  apply wpS_region
  simp [wpOpsS, go_sem, hta, hc, hz, bodyPostS, results, Tryz.results53]
/-- attempt, where what is tried goes through; where it gives up. -/
theorem attempt_write_ok (p q : Value) {w0 w : World} {es : List Ent} {K : List Ent → Prop} (h : Own w0 w es [])
    (hd : ∀ W, Own w0 W es [eErr w.heap.size .nilIface] → Calls Tryz.prog 23 #[p, q] W fun e w' => e = .returned (.tuple #[]) ∧ Hid (∃ es', Own w0 w' es' [eErr w.heap.size .nilIface] ∧ K es')) :
    Calls Tryz.prog 22 #[.func (.func 23) #[] #[p, q]] w fun e w' => e = .returned .nilIface ∧ Hid (∃ es', Own w0 w' es' [] ∧ K es') := by
  have HD := Lib.hid (hd _ (err_new h .nilIface).fin)
  have hmf : ∀ (fn : Fn) (first cap : Array Value) (w : World), (Instr.makeFunc fn first cap).run Tryz.prog w = .ok (.func fn first cap) w := fun _ _ _ _ => rfl
  clear hd h
  go_enter_defers Tryz.func22, Tryz.ntmps22
  go_wp2_with fail
  refine HD.out.mono ?_
  rintro e w2 ⟨rfl, h2⟩
  clear HD
  obtain ⟨es', ho, hk⟩ := h2.out
  have hc := (err_cell ho (by simp : eErr w.heap.size .nilIface ∈ _)).1
  have hz := (err_cell ho (by simp : eErr w.heap.size .nilIface ∈ _)).2
  have h3 := err_set (own_undo ho) .nilIface
  have HN := Lib.hid h3.tail
  have HK := Lib.hid hk
  have hc3 := (err_cell h3 (by simp : eErr w.heap.size .nilIface ∈ _)).1
  clear ho hk h2 h3
  go_wp2
  refine leaves_cons (f := 53) (args := #[.pointer (some ⟨w.heap.size, 0, none⟩)]) (by simp) (by simp [go_sem]) ?_
  refine (catch_idle ⟨w.heap.size, 0, none⟩ _).mono ?_
  rintro e u' w'' ⟨rfl, rfl, rfl⟩
  generalize hW : w2.setCell ⟨w.heap.size, 0, none⟩ .nilIface = W3 at *
  have HR : Hid (∃ es', Own w0 W3 es' [] ∧ K es') := ⟨es', HN.out, HK.out⟩
  clear HN HK hc hz hW
  simp [Leaves, settle, results, Tryz.results22, go_sem, hc3]
  exact HR
theorem attempt_write_bad (p q : Value) {w0 w : World} {es : List Ent} (n : Nat) (h : Own w0 w es [])
    (hd : ∀ W, Own w0 W es [eErr w.heap.size .nilIface] → Calls Tryz.prog 23 #[p, q] W fun e w' => e = .panicked [panicOf n] ∧ Hid (Own w0 w' [] [eErr w.heap.size .nilIface])) :
    Calls Tryz.prog 22 #[.func (.func 23) #[] #[p, q]] w fun e w' => e = .returned (.iface 57 (.int .i64 (n : Int))) ∧ Hid (Below w0.heap.size w0 w') := by
  have HD := Lib.hid (hd _ (err_new h .nilIface).fin)
  have hmf : ∀ (fn : Fn) (first cap : Array Value) (w : World), (Instr.makeFunc fn first cap).run Tryz.prog w = .ok (.func fn first cap) w := fun _ _ _ _ => rfl
  clear hd h
  go_enter_defers Tryz.func22, Tryz.ntmps22
  go_wp2_with fail
  refine HD.out.mono ?_
  rintro e w2 ⟨rfl, h2⟩
  clear HD
  have ho := h2.out
  have hc := (err_cell ho (by simp : eErr w.heap.size .nilIface ∈ _)).1
  have hz := (err_cell ho (by simp : eErr w.heap.size .nilIface ∈ _)).2
  have h3 := err_set (own_undo ho) (.iface 57 (.int .i64 (n : Int)))
  have HN := Lib.hid h3.below
  have hc3 := (err_cell h3 (by simp : eErr w.heap.size (.iface 57 (.int .i64 (n : Int))) ∈ _)).1
  clear ho h2 h3
  refine leaves_cons (f := 53) (args := #[.pointer (some ⟨w.heap.size, 0, none⟩)]) (by simp) (by simp [go_sem]) ?_
  refine (catch_panic ⟨w.heap.size, 0, none⟩ n .nilIface _ hc hz).mono ?_
  rintro e u' w'' ⟨rfl, rfl, rfl⟩
  generalize hW : w2.setCell ⟨w.heap.size, 0, none⟩ (.iface 57 (.int .i64 (n : Int))) = W3 at *
  clear hc hz hW
  simp [Leaves, settle, results, Tryz.results22, go_sem, hc3]
  exact HN

/-- attempt, where what is tried goes through; where it gives up. -/
theorem attempt_whole_ok (p : Value) {w0 w : World} {es : List Ent} {K : List Ent → Prop} (h : Own w0 w es [])
    (hd : ∀ W, Own w0 W es [eErr w.heap.size .nilIface] → Calls Tryz.prog 28 #[p] W fun e w' => e = .returned (.tuple #[]) ∧ Hid (∃ es', Own w0 w' es' [eErr w.heap.size .nilIface] ∧ K es')) :
    Calls Tryz.prog 22 #[.func (.func 28) #[p] #[]] w fun e w' => e = .returned .nilIface ∧ Hid (∃ es', Own w0 w' es' [] ∧ K es') := by
  have HD := Lib.hid (hd _ (err_new h .nilIface).fin)
  have hmf : ∀ (fn : Fn) (first cap : Array Value) (w : World), (Instr.makeFunc fn first cap).run Tryz.prog w = .ok (.func fn first cap) w := fun _ _ _ _ => rfl
  clear hd h
  go_enter_defers Tryz.func22, Tryz.ntmps22
  go_wp2_with fail
  refine HD.out.mono ?_
  rintro e w2 ⟨rfl, h2⟩
  clear HD
  obtain ⟨es', ho, hk⟩ := h2.out
  have hc := (err_cell ho (by simp : eErr w.heap.size .nilIface ∈ _)).1
  have hz := (err_cell ho (by simp : eErr w.heap.size .nilIface ∈ _)).2
  have h3 := err_set (own_undo ho) .nilIface
  have HN := Lib.hid h3.tail
  have HK := Lib.hid hk
  have hc3 := (err_cell h3 (by simp : eErr w.heap.size .nilIface ∈ _)).1
  clear ho hk h2 h3
  go_wp2
  refine leaves_cons (f := 53) (args := #[.pointer (some ⟨w.heap.size, 0, none⟩)]) (by simp) (by simp [go_sem]) ?_
  refine (catch_idle ⟨w.heap.size, 0, none⟩ _).mono ?_
  rintro e u' w'' ⟨rfl, rfl, rfl⟩
  generalize hW : w2.setCell ⟨w.heap.size, 0, none⟩ .nilIface = W3 at *
  have HR : Hid (∃ es', Own w0 W3 es' [] ∧ K es') := ⟨es', HN.out, HK.out⟩
  clear HN HK hc hz hW
  simp [Leaves, settle, results, Tryz.results22, go_sem, hc3]
  exact HR
theorem attempt_whole_bad (p : Value) {w0 w : World} {es : List Ent} (n : Nat) (h : Own w0 w es [])
    (hd : ∀ W, Own w0 W es [eErr w.heap.size .nilIface] → Calls Tryz.prog 28 #[p] W fun e w' => e = .panicked [panicOf n] ∧ Hid (Own w0 w' [] [eErr w.heap.size .nilIface])) :
    Calls Tryz.prog 22 #[.func (.func 28) #[p] #[]] w fun e w' => e = .returned (.iface 57 (.int .i64 (n : Int))) ∧ Hid (Below w0.heap.size w0 w') := by
  have HD := Lib.hid (hd _ (err_new h .nilIface).fin)
  have hmf : ∀ (fn : Fn) (first cap : Array Value) (w : World), (Instr.makeFunc fn first cap).run Tryz.prog w = .ok (.func fn first cap) w := fun _ _ _ _ => rfl
  clear hd h
  go_enter_defers Tryz.func22, Tryz.ntmps22
  go_wp2_with fail
  refine HD.out.mono ?_
  rintro e w2 ⟨rfl, h2⟩
  clear HD
  have ho := h2.out
  have hc := (err_cell ho (by simp : eErr w.heap.size .nilIface ∈ _)).1
  have hz := (err_cell ho (by simp : eErr w.heap.size .nilIface ∈ _)).2
  have h3 := err_set (own_undo ho) (.iface 57 (.int .i64 (n : Int)))
  have HN := Lib.hid h3.below
  have hc3 := (err_cell h3 (by simp : eErr w.heap.size (.iface 57 (.int .i64 (n : Int))) ∈ _)).1
  clear ho h2 h3
  refine leaves_cons (f := 53) (args := #[.pointer (some ⟨w.heap.size, 0, none⟩)]) (by simp) (by simp [go_sem]) ?_
  refine (catch_panic ⟨w.heap.size, 0, none⟩ n .nilIface _ hc hz).mono ?_
  rintro e u' w'' ⟨rfl, rfl, rfl⟩
  generalize hW : w2.setCell ⟨w.heap.size, 0, none⟩ (.iface 57 (.int .i64 (n : Int))) = W3 at *
  clear hc hz hW
  simp [Leaves, settle, results, Tryz.results22, go_sem, hc3]
  exact HN
end Go.Proofs.YtloihkoamccacaaGreatDoor.Fm

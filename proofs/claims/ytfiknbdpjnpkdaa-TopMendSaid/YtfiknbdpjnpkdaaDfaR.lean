/- The walk of package dfa's product. -/
import Derived.Test.YtfiknbdpjnpkdaaExpl
import Derived.Handy
import Derived.Deep.Light
namespace Go.Proofs.Ytfiknbdpjnpkdaa.Df
open Go.RowKit Go.IntWalk Go.Proofs.Ytfiknbdpjnpkdaa.Wd Go.Proofs.Ytfiknbdpjnpkdaa.Wo

theorem chkD2_ok {v z : Value} {a b : Aut} {w : World} (ha : DfaAt w w.heap.size v a) (hb : DfaAt w w.heap.size z b) (g : chkD2 a b = 0) :
    Calls Try.prog 52 #[v, z] w fun e w' => e = .returned .nilIface ∧ Below w.heap.size w w' :=
  (chkD2_any v z a b w ha hb).mono fun e w' ⟨he, hw⟩ => ⟨by rw [he.out, g]; rfl, hw⟩
theorem chkD2_bad {v z : Value} {a b : Aut} {w : World} (ha : DfaAt w w.heap.size v a) (hb : DfaAt w w.heap.size z b) {e0 : Nat} (g : chkD2 a b = e0 + 1) {x : Int} (hx : x = ((e0 + 1 : Nat) : Int)) :
    Calls Try.prog 52 #[v, z] w fun e w' => e = .returned (errI x) ∧ Below w.heap.size w w' :=
  (chkD2_any v z a b w ha hb).mono fun e w' ⟨he, hw⟩ => ⟨by rw [he.out, g, hx]; rfl, hw⟩
/-- What a step of a state reads. -/
theorem DfaIs.step_at {w : World} {B : Nat} {L s : Int} {A F : Option Addr} {c cf : Nat} {d : Aut} (h : DfaIs w B L s A c F cf d) (g : Good d) {q i : Nat} (hq : q < d.next.length) (hi : (i : Int) < d.L) :
    ∃ ad ar m cr, A = some ad ∧ ad.block < B ∧ w.cell? (ad.add q) = some (.slice (some ar) m cr) ∧ i < m ∧ ar.block < B ∧ w.cell? (ar.add i) = some (.int .i64 ((step d q i : Nat) : Int)) := by
  obtain ⟨r, hr, _, hl, hra, _⟩ := g.at_ hq hi
  obtain ⟨ad, A', c', e, h1, h2, _, _, h5⟩ := h.rows q r hr
  obtain ⟨ar, e2, h6, h7, h8⟩ := h5.get hra
  subst e2
  exact ⟨ad, ar, r.length, c', e, h1, h2, h8, h6, h7⟩

/-- What a callee has made is laid into the result's own block. -/
theorem res_own {w W w5 w6 : World} {gr : Nat} {nv fv : Value} {L s : Int} {d : Aut} (h0 : Own w W [eDfa gr zero4] []) (h : DfaOwn W w5 (.agg #[.int .i64 L, .int .i64 s, nv, fv]) d)
    (hw : w6 = (((w5.setCell ⟨gr, 0, none⟩ (.int .i64 L)).setCell ⟨gr, 1, none⟩ (.int .i64 s)).setCell ⟨gr, 2, none⟩ nv).setCell ⟨gr, 3, none⟩ fv) :
    DfaOwn w w6 (.agg #[.int .i64 L, .int .i64 s, nv, fv]) d ∧
      w6.cell? ⟨gr, 0, none⟩ = some (.int .i64 L) ∧ w6.cell? ⟨gr, 1, none⟩ = some (.int .i64 s) ∧ w6.cell? ⟨gr, 2, none⟩ = some nv ∧ w6.cell? ⟨gr, 3, none⟩ = some fv := by
  subst hw
  obtain ⟨nv', fv', rs, e, h2, h3, h4⟩ := h
  have h5 := h0.join h3
  have h6 := (((h5.dset 0 (.int .i64 L)).dset 1 (.int .i64 s)).dset 2 nv).dset 3 fv
  refine ⟨⟨nv', fv', rs, e, h2, h6.tail.weak (fun e he => by simpa using he), h4⟩,
    (h6.dcell (g := gr) (l := [.int .i64 L, .int .i64 s, nv, fv]) (by simp) rfl).1, (h6.dcell (g := gr) (l := [.int .i64 L, .int .i64 s, nv, fv]) (by simp) rfl).1, (h6.dcell (g := gr) (l := [.int .i64 L, .int .i64 s, nv, fv]) (by simp) rfl).1, (h6.dcell (g := gr) (l := [.int .i64 L, .int .i64 s, nv, fv]) (by simp) rfl).1⟩
theorem DfaOwn.form {w w' : World} {x : Value} {d : Aut} (h : DfaOwn w w' x d) : ∃ nv fv A n c F m cf, x = .agg #[.int .i64 d.L, .int .i64 d.s, nv, fv] ∧ nv = .slice A n c ∧ fv = .slice F m cf := by
  have h7 := h.at_
  obtain ⟨nv, fv, rs, rfl, _⟩ := h
  obtain ⟨L, s, A, c, F, cf, e, _⟩ := h7
  simp only [Value.agg.injEq, Array.mk.injEq, List.cons.injEq, Value.int.injEq, true_and, and_true] at e
  exact ⟨nv, fv, A, _, c, F, _, cf, rfl, e.2.2.1, e.2.2.2⟩

/-! ### the steps and the flags of a product -/
end Go.Proofs.Ytfiknbdpjnpkdaa.Df

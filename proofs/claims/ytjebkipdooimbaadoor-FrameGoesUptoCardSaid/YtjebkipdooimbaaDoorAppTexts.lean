/- append(both, l...) of lists of texts: as a law for the walk. -/
import Derived.Test.YtjebkipdooimbaaDoorScan
import Derived.Laws.AppendOwnNone
namespace Go.Proofs.YtjebkipdooimbaaDoor.Fr
open Go.RowKit Go.IntWalk Go.PlainAid Go.Proofs.YtjebkipdooimbaaDoor.Wd Go.Proofs.YtjebkipdooimbaaDoor.Pk Go.Proofs.YtjebkipdooimbaaDoor.Sm

theorem app_texts {w : World} {ops : Array Oper} {rest : List Oper} {o : Oper} {a : Act} {Q : Exit → Act → World → Prop} (hgd : o.guard = none) (s x : Operand)
    (ho : o.op = .call { callee := .builtin .append, args := #[s, x], argTypes := #[34, 34] })
    {B : Nat} {w0 : World} {acc : List (List UInt8)} {v : Value} (hs : a.eval s = v) (ht : Txts B w0 acc v w)
    {A : Option Addr} {c : Nat} {l : List (List UInt8)} (hx : a.eval x = .slice A l.length c) (hA : TextsAt w w.heap.size A l) (h0 : A = none → c = 0 ∧ l = []) (hb : acc.length + l.length ≤ 8796093022208)
    (h : ∀ v' w', Txts B w0 (acc ++ l) v' w' → wpList Tryd.prog ops Q rest (a.put o.dst v') w') : wpList Tryd.prog ops Q (o :: rest) a w := by
  obtain ⟨i0, hi, hz0, hz1, hz2⟩ := info_parts infoS
  rcases A with _ | ad
  · obtain ⟨rfl, rfl⟩ := h0 rfl
    refine wpList_append_own_none hgd s x 34 ho B 9 i0 1 Tryd.underlying34 hi v acc.length (acc.map tx) hs ht.1 (by simpa using hx) (h v w (by simpa using ht))
  · refine wpList_append_own w hgd s x 34 ho B 9 i0 (.string ByteArray.empty) 1 16 Tryd.underlying34 hi hz0 hz1 hz2 rfl (by decide) v acc.length (acc.map tx) hs ht.1 ad l.length c (l.map tx) hx (by simp) ?_ ?_ (by unfold maxLen; omega) (by omega) ht.2.2 ?_
    · intro j u hj
      obtain ⟨ad', e, _, hc⟩ := hA j u hj
      obtain rfl := Option.some.inj e
      exact hc
    · intro u hu
      obtain ⟨b, _, rfl⟩ := List.mem_map.1 hu
      rfl
    · intro v' w' hown hg _
      obtain ⟨h1, h2, h3⟩ := ht
      refine h v' w' ⟨by simpa using hown, h2.grown hg h3 (fun k hk => (h1.lt k hk).1), ?_⟩
      have := hg.size
      omega
/-- What was there ahead of the appends reads as before. -/
theorem txts_keep {B : Nat} {w0 w : World} {acc : List (List UInt8)} {v : Value} (ht : Txts B w0 acc v w) (hB : B = w0.heap.size) {A : Option Addr} {l : List (List UInt8)} (h : TextsAt w0 w0.heap.size A l) : TextsAt w w.heap.size A l := by
  subst hB
  exact (h.below ht.2.1).more ht.2.2
theorem scan_full (s : ByteArray) (w : World) (hs : s.size ≤ maxLen) (l : List (List UInt8)) (u e : Nat) (h : scan s.data.toList = (l, u, e)) (hN : l.length ≤ 8796093022208) :
    Calls Tryd.prog 13 #[.string s] w fun r w' => ∃ (A : Option Addr) (cap : Nat), r = .returned (.tuple #[.slice A l.length cap, .int .i64 (u : Int), errV e]) ∧ TextsAt w' w'.heap.size A l ∧ (A = none → cap = 0 ∧ l = []) ∧ Below w.heap.size w w' :=
  (scan_any s w hs (by rw [h]; exact hN)).mono fun r w' he => by
    obtain ⟨v, h1, h2⟩ := he.out
    rw [h] at h1 h2
    have h3 := h2.1.2
    rcases h3 with ⟨rfl, h0⟩ | ⟨g, cap, cur, rfl, _⟩
    · have hl : l = [] := List.length_eq_zero_iff.1 h0
      subst hl
      exact ⟨none, 0, h1, TextsAt.nil _ _ _, fun _ => ⟨rfl, rfl⟩, h2.2.1⟩
    · exact ⟨_, cap, h1, Cells.own h2.1, fun h => by simp at h, h2.2.1⟩
theorem texts_drawn {w : World} {A C : Option Addr} {c d : Nat} {x y : List (List UInt8)} (h : x = y) (hx : TextsAt w w.heap.size A x) (hy : TextsAt w w.heap.size C y) (lx : x.length ≤ 140737488355328) (n : Nat) :
    Calls Tryd.prog 15 #[.slice A x.length c, .slice C y.length d] (w.drewN n) fun e w' => e = .returned (.bool true) ∧ ∃ m, w' = w.drewN m := by
  subst h
  refine (texts_any A C c d x x (w.drewN n) (hx.below (below_drewN (Below.refl _ _) n)) (hy.below (below_drewN (Below.refl _ _) n)) lx lx).mono ?_
  rintro e w' ⟨he, m, rfl⟩
  exact ⟨by rw [he.out]; simp, _, World.drewN_drewN _ _ _⟩
end Go.Proofs.YtjebkipdooimbaaDoor.Fr

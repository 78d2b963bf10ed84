/- The walk of package mean's Plain. -/
import Derived.Test.YtloihkoamccacaaGreatDoorPlainN
import Derived.Test.YtloihkoamccacaaGreatDoorMeanL
namespace Go.Proofs.YtloihkoamccacaaGreatDoor.Fm
open Go.RowKit Go.IntWalk Go.Proofs.YtloihkoamccacaaGreatDoor.Wd Go.Proofs.YtloihkoamccacaaGreatDoor.Wo

/-- The nodes of the plain form. -/
def pln (f : List Nd) : List Nd := flat (nnf false (root f)) []
theorem pln_length (f : List Nd) : (pln f).length = (nnf false (root f)).size := by rw [pln, flat_length]; simp
theorem pln_good {L : Int} {f : List Nd} (g : FGood L f) (h : (pln f).length ≤ 40) : FGood L (pln f) := flat_fgood g.l1 g.l6 (nnf_ok _ _ (root_ok g)) (by rw [← pln_length]; exact h)
theorem pln_val {L : Int} {f : List Nd} (g : FGood L f) (z : List Int) : fval (pln f) z = fval f z := by
  rw [fval_root, fval_root, pln, root_flat (nnf_ok _ _ (root_ok g)), nnf_val z false _ (root_ok g)]
  simp
/-- What is wrong with a formula that is to be written plain. -/
def perr (L : Int) (f : List Nd) : Nat := if fchk L f = 0 then (if (pln f).length ≤ 40 then 0 else 4) else fchk L f
theorem rw_start (w : World) (ov : Value) : Rw w (w.alloc (.cells #[ov, .slice none 0 0] 55)) w.heap.size ov [] [] :=
  ⟨_, (((own_start w).lit 55 2 1 #[ov, .slice none 0 0] rfl (by simp [maxLen])).nil 108 3).two⟩
set_option maxRecDepth 100000 in
set_option maxHeartbeats 2000000 in
theorem plain_any (L : Int) (A : Option Addr) (c : Nat) (f : List Nd) (w : World) (hL : Small L) (hA : NodesAt w w.heap.size A f) (hf : f.length ≤ 9223372036854775807) (hX : ExAt w) :
    Calls Tryz.prog 7 #[.int .i64 L, .slice A f.length c] w fun e w' => Hid ((perr L f = 0 ∧ ∃ A' c', e = .returned (.tuple #[.slice A' (pln f).length c', .nilIface]) ∧ Hid (NodesAt w' w'.heap.size A' (pln f))) ∨ (perr L f ≠ 0 ∧ e = .returned (.tuple #[.slice none 0 0, errV (perr L f)]))) ∧ Below w.heap.size w w' := by
  have HC := fcheck_any L A c f w hL hA hf
  by_cases hf0 : fchk L f = 0
  · have g := fchk_iff.1 hf0
    rw [hf0] at HC
    have HC := Lib.hid HC
    have h0 := g.ne
    have h40 := g.le
    obtain ⟨n, hn⟩ : ∃ n, f.length = n + 1 := ⟨f.length - 1, by omega⟩
    have HN := Lib.hid (fun (W : World) (hb : Below w.heap.size w W) => pnode_any g (hA.on hb) (hX.on hb) W.heap.size c n (by omega) false [] [] _ (rw_start W (.slice A f.length c)) (by simp))
    have hroot : tre f n = root f := by unfold root; rw [hn]; rfl
    rw [hroot, hn] at HN
    rw [hn] at HC
    have HQ := Lib.hid g
    have HP : Hid (perr L f = if (pln f).length ≤ 40 then 0 else 4) := by unfold Hid perr; rw [if_pos hf0]
    have hlen := pln_length f
    have hn40 : n ≤ 40 := by omega
    rw [hn]
    clear hf0 g hA hX hL hf hn hroot
    go_enter Tryz.func7, Tryz.ntmps7
    go_wp2_with fail
    refine HC.out.mono ?_
    rintro e w2 ⟨he, hb2⟩
    obtain rfl := he.out
    have HB2 := Lib.hid hb2
    have HN2 := Lib.hid (HN.out w2 hb2)
    clear HC he hb2 HN
    simp only [errV]
    go_wp2_with fail
    refine HN2.out.mono ?_
    rintro e w3 ⟨r, l', rfl, hR, hq⟩
    obtain ⟨A3, c3, o0, o1, ho⟩ := hR.out.form
    have HO := Lib.hid ho
    have HB3 := Lib.hid (HB2.out.trans (hR.out.below.mono HB2.out.size))
    rcases hq.out with ⟨q1, q2, q3⟩ | ⟨q1, q2, q3⟩
    · obtain rfl : l' = pln f := q3
      have hl : (pln f).length ≤ 40 := by rw [hlen]; simpa using q1
      have hs := nds_small (pln_good HQ.out hl)
      obtain ⟨A4, c4, hv4, _, _, hN4⟩ := own_nodes (v := .slice A3 (pln f).length c3) (l := pln f) HO.out (by simp) hs
      simp only [Value.slice.injEq] at hv4
      have HN4 := Lib.hid hN4
      rw [← hv4.1] at HN4
      have hle : ¬ (40 : Int) < ((pln f).length : Int) := by omega
      have HP0 : Hid (perr L f = 0) := by rw [Hid, HP.out, if_pos hl]
      clear HN2 hR hq ho q1 q2 hs hN4 hv4 HO hlen
      go_wp2
      go_ret2
      exact ⟨.inl ⟨HP0.out, _, _, rfl, HN4⟩, HB3.out⟩
    · have hl : ¬ (pln f).length ≤ 40 := by rw [hlen]; simpa using q1
      have HP0 : Hid (perr L f = 4) := by rw [Hid, HP.out, if_neg hl]
      have hle : (40 : Int) < (l'.length : Int) := by omega
      clear HN2 hR hq ho q1 q2 q3 HO hlen hl
      go_wp2
      go_ret2
      exact ⟨.inr ⟨by rw [HP0.out]; decide, by rw [HP0.out]; rfl⟩, HB3.out⟩
  · have hp : perr L f = fchk L f := by unfold perr; rw [if_neg hf0]
    have hp0 : perr L f ≠ 0 := by rw [hp]; exact hf0
    obtain ⟨E, hE⟩ : ∃ E, E = errV (perr L f) := ⟨_, rfl⟩
    rw [← hp, ← hE] at HC
    rw [← hE]
    rw [errV_pos hp0] at hE
    obtain ⟨q, hq⟩ : ∃ q : Int, q = (perr L f : Int) := ⟨_, rfl⟩
    rw [← hq] at hE
    have HC := Lib.hid HC
    have HP0 := Lib.hid hp0
    clear hf0 hp hp0 hq hA hX hL hf
    subst hE
    generalize f.length = N at *
    go_enter Tryz.func7, Tryz.ntmps7
    go_wp2_with fail
    refine HC.out.mono ?_
    rintro e w2 ⟨he, hb2⟩
    obtain rfl := he.out
    have HB2 := Lib.hid hb2
    clear HC he hb2
    go_wp2
    go_ret2
    exact ⟨.inr ⟨HP0.out, rfl⟩, HB2.out⟩
/-- Plain, for a law. -/
theorem plain_is {L : Int} (hL : Small L) {f : List Nd} (hf : f.length ≤ 9223372036854775807) {n : Nat} (hn : f.length = n) (h : perr L f = 0) {P : List Nd} (hP : pln f = P) {k : Nat} (hk : P.length = k) (A : Option Addr) (c : Nat) (W : World) (hX : ExAt W) (hA : NodesAt W W.heap.size A f) :
    Calls Tryz.prog 7 #[.int .i64 L, .slice A n c] W fun e w' => Hid (∃ A' c', e = .returned (.tuple #[.slice A' k c', .nilIface]) ∧ Hid (NodesAt w' w'.heap.size A' P)) ∧ Below W.heap.size W w' := by
  subst hn hP hk
  refine (plain_any L A c f W hL hA hf hX).mono fun e w' ⟨he, hb⟩ => ⟨?_, hb⟩
  rcases he.out with ⟨_, h2⟩ | ⟨h1, _⟩
  · exact h2
  · exact absurd h h1
theorem plain_no {L : Int} (hL : Small L) {f : List Nd} (hf : f.length ≤ 9223372036854775807) {n : Nat} (hn : f.length = n) (h : perr L f ≠ 0) {E : Value} (hE : errV (perr L f) = E) (A : Option Addr) (c : Nat) (W : World) (hX : ExAt W) (hA : NodesAt W W.heap.size A f) :
    Calls Tryz.prog 7 #[.int .i64 L, .slice A n c] W fun e w' => e = .returned (.tuple #[.slice none 0 0, E]) ∧ Below W.heap.size W w' := by
  subst hn hE
  refine (plain_any L A c f W hL hA hf hX).mono fun e w' ⟨he, hb⟩ => ⟨?_, hb⟩
  rcases he.out with ⟨h1, _⟩ | ⟨_, h2⟩
  · exact absurd h1 h
  · exact h2
end Go.Proofs.YtloihkoamccacaaGreatDoor.Fm

/- Package super's contracts for laws; the laws' closed fact. -/
import Derived.Test.YtbciefeipiphiaaDoorSuperF
import Derived.Test.YtbciefeipiphiaaDoorLeast
namespace Go.Proofs.YtbciefeipiphiaaDoor.Su
open Go.RowKit Go.IntWalk Go.Proofs.YtbciefeipiphiaaDoor.Wd Go.Proofs.YtbciefeipiphiaaDoor.Wo Go.Proofs.YtbciefeipiphiaaDoor.Df Go.Proofs.YtbciefeipiphiaaDoor.Rc Go.Proofs.YtbciefeipiphiaaDoor.Sm Go.Proofs.YtbciefeipiphiaaDoor.Sa Go.Proofs.YtbciefeipiphiaaDoor.Mp

theorem flag_pre {P S : Aut} (g : Good2 P S) {W : PS} {l : List Pr} (h : Whole (S2 P S) (start2 P S) l) : ∀ x ∈ l, flagAt (preA (autW P S W l)).fin (num l x) = isAlive (autW P S W l) (num l x) := fun x hx => by
  have hlt : num l x < (autW P S W l).next.length := by simp only [autW, List.length_map]; exact idx_lt hx
  unfold flagAt
  rw [(judge_good (f := preF) (autW_good g h)).fin_at (q := num l x) hlt, Option.getD_some]
  exact pre_fin hlt
/-- There is always just one that comes. -/
theorem supI_ex (P S : Aut) (free : Int) : ∃ r E, SupI P S free r E := by
  rcases h0 : plantE P S free with _ | k
  · obtain ⟨g, _⟩ := plantE_ok h0
    rcases hf : found (S2 P S) (start2 P S) with _ | l
    · exact ⟨_, _, .inr (.inl ⟨h0, hf, rfl, rfl⟩)⟩
    · have hw := found_whole hf
      have key : ∀ n W, Cuts P S free W → aliveC (autW P S W l) < n → ∃ r E, SupI P S free r E := by
        intro n
        induction n with
        | zero => intro W _ hn; omega
        | succ n ih =>
          intro W hW hn
          rcases hs : isAlive (autW P S W l) 0 with _ | _
          · exact ⟨_, _, make_none g h0 hf hW hs⟩
          · rcases ha : shutAny (autW P S W l) (preA (autW P S W l)).fin (prodP P S l) free l.length with _ | _
            · exact ⟨_, _, make_end g h0 hf hW (flag_pre g hw) ha hs⟩
            · have hlt := shut_fewer g hw (flag_pre g hw) (fun x hx => prodP_at g hw hx) ha
              refine ih _ (.cut hW) ?_
              have e : ∀ W, (autW P S W l).next.length = l.length := fun W => by simp [autW]
              unfold aliveC at hn ⊢
              rw [e] at hn ⊢
              omega
      exact key _ _ .all (Nat.lt_succ_self _)
  · exact ⟨_, _, .inl ⟨by omega, h0.symm, rfl⟩⟩
theorem smake_gives {W : World} {v z : Value} {P S : Aut} {free : Int} (h : DfaAt W W.heap.size v P) (h2 : DfaAt W W.heap.size z S) {r : Aut} {k : Nat} {E : Value} (hs : SupI P S free r k) (hE : errV k = E) : Gives 12 #[v, z, .int .i64 free] W E r := by
  refine (smake_any v z P S free W h h2).mono fun e w' he => ?_
  obtain ⟨x, r', k', rfl, hs', ho⟩ := he.out
  obtain ⟨rfl, rfl⟩ := supI_det hs' hs
  obtain ⟨L, s, A, n, c, F, m, cf, rfl⟩ := ho.at_.form
  exact ⟨L, s, A, n, c, F, m, cf, by rw [hE], ho.at_, ho.below⟩
/-- What Kept gives to a law. -/
theorem kept_small (P D : Aut) (free : Int) : ∀ x ∈ (keptO P D free).2.1, Small x := fun x hx => by
  rcases h0 : plantE P D free with _ | k
  · obtain ⟨g, _⟩ := plantE_ok h0
    rcases hk : keptW P D free with _ | u
    · rw [keptO_none h0 hk] at hx; simp at hx
    · rw [keptO_some h0 hk] at hx
      have h1 := (keptW_some.1 hk).1 x hx
      have := g.ga.l6
      exact ⟨by omega, by omega⟩
  · rw [keptO_bad (by omega)] at hx; simp at hx
theorem kept_gives {W : World} {v z : Value} {P D : Aut} {free : Int} (h : DfaAt W W.heap.size v P) (h2 : DfaAt W W.heap.size z D) {k : Bool} {l : List Int} {n : Nat} {E : Value} (ho : keptO P D free = (k, l, n)) (hE : errV n = E) :
    Calls Tryd.prog 9 #[v, z, .int .i64 free] W fun e w' => ∃ A c, e = .returned (.tuple #[.bool k, .slice A l.length c, E]) ∧ Hid (IntsAt w' w'.heap.size A l ∧ l.length ≤ c) ∧ Below W.heap.size W w' := by
  refine (kept_any v z P D free W h h2).mono fun e w' he => ?_
  obtain ⟨wv, rfl, hw⟩ := he.out
  obtain ⟨A, c, rfl, h3, h4, h5⟩ := own_ints_at hw List.mem_cons_self (kept_small P D free)
  rw [ho] at h3 h5 ⊢
  exact ⟨A, c, by rw [hE], ⟨h5, h3⟩, hw.below⟩

/-- What holds of the most that is kept. -/
structure SupOk (P S : Aut) (free : Int) (r : Aut) : Prop where
  g : Good2 P S
  pl : plantE P S free = 0
  f0 : 0 ≤ free
  f1 : free < 64
  gr : Df.Good r
  eL : r.L = P.L
  is : IsSup P S r free
  ex : ∃ w, Word P.L w ∧ accA r w = true
  self : minA r = r
theorem supI_two {P S : Aut} {free : Int} {r : Aut} {E : Nat} (h : SupI P S free r E) : (E = 0 ∧ SupOk P S free r) ∨ (E ≠ 0 ∧ r = zeroA) := by
  rcases h with ⟨a1, a2, a3⟩ | ⟨a1, a2, a3, a4⟩ | ⟨a1, a2, a3, a4, a5⟩ | ⟨a1, a2, a3, ⟨w, a4, a5⟩, d, a6, a7, a8, rfl⟩
  · exact .inr ⟨by omega, a3⟩
  · exact .inr ⟨by omega, a4⟩
  · exact .inr ⟨by omega, a4⟩
  · obtain ⟨g, f0, f1⟩ := plantE_ok a1
    have his : IsSup P S (minA d) free := fun u hu => by
      rw [min_acc a6 (by rw [a7]; exact hu)]; exact a8 u hu
    refine .inl ⟨a3, g, a1, f0, f1, min_good a6, a7, his, ⟨w, a4, (his w a4).2 a5⟩, ?_⟩
    refine (min_iff ⟨min_good a6, a6, rfl⟩).2 fun u hu => ?_
    exact min_acc a6 hu
theorem SupOk.within {P S : Aut} {free : Int} {r : Aut} (h : SupOk P S free r) {w : List Int} (hw : Word P.L w) (ha : accA r w = true) : accA P w = true ∧ accA S w = true := isSup_within h.is hw ha
theorem SupOk.good2 {P S : Aut} {free : Int} {r : Aut} (h : SupOk P S free r) : Good2 P r := ⟨h.g.ga, h.gr, h.eL.symm⟩
theorem SupOk.plant {P S : Aut} {free : Int} {r : Aut} (h : SupOk P S free r) : plantE P r free = 0 := by
  have h1 := h.pl
  unfold plantE at h1 ⊢
  rw [if_neg (by have := chkD2_iff.2 h.good2; omega)]
  rw [if_neg (by have := chkD2_iff.2 h.g; omega)] at h1
  exact h1
theorem SupOk.kept {P S : Aut} {free : Int} {r : Aut} (h : SupOk P S free r) : keptO P r free = (true, [], 0) := keptO_none h.plant (keptW_none.2 (isSup_ctl h.is))
theorem SupOk.first {P S : Aut} {free : Int} {r : Aut} (h : SupOk P S free r) : ∃ u, firstOut r = (u, 0) := by
  rcases e : firstW r r.s.toNat with _ | u
  · obtain ⟨w, hw, ha⟩ := h.ex
    have : accA r w = false := firstW_none h.gr h.gr.s_lt e (by rw [h.eL]; exact hw)
    rw [ha] at this; cases this
  · exact ⟨u, firstOut_some (dchk_iff.2 h.gr) e⟩
theorem first_gives {W : World} {v : Value} {d : Aut} (h : DfaAt W W.heap.size v d) {u : List Int} {k : Nat} {E : Value} (hf : firstOut d = (u, k)) (hE : errV k = E) : GivesI 17 #[v] W E u :=
  givesI_of (out := firstOut d) (first_any v d W h) (by rw [hf]; exact hE) (by rw [hf]) (by have := firstOut_small d; rw [hf] at this; exact this)

/-! ### the closed fact -/
def plantF : Aut := ⟨2, 0, [[1, 3], [1, 2], [3, 3], [3, 3]], [true, true, true, false]⟩
def specF : Aut := ⟨2, 0, [[0, 1], [1, 1]], [true, false]⟩
def lF : List Pr := [(0, 0), (1, 0), (3, 1), (2, 1)]
def lastF : Aut := ⟨2, 0, [[1, 2], [1, 1], [2, 2], [2, 2]], [true, false, false, false]⟩
theorem factF_good : Good2 plantF specF := chkD2_iff.1 (by decide)
theorem factF_found : found (S2 plantF specF) (start2 plantF specF) = some lF := by decide
set_option maxRecDepth 100000 in
theorem factF_one : shutA (autW plantF specF (fun _ _ => true) lF) (preA (autW plantF specF (fun _ _ => true) lF)).fin (prodP plantF specF lF) 2 = lastF := by kernel_rfl
set_option maxRecDepth 100000 in
theorem factF_two : shutAny lastF (preA lastF).fin (prodP plantF specF lF) 2 4 = false ∧ isAlive lastF 0 = true ∧ accA lastF [] = true ∧ accA lastF [0] = false := ⟨by kernel_rfl, by kernel_rfl, by kernel_rfl, by kernel_rfl⟩
theorem factF : ∃ r, SupI plantF specF 2 r 0 ∧ Df.Good r ∧ r.L = 2 ∧ accA r [] = true ∧ accA r [0] = false := by
  have g := factF_good
  have hf := factF_found
  have hw := found_whole hf
  have e : autW plantF specF (cutW plantF specF 2 (fun _ _ => true)) lF = lastF := by
    rw [← shut_cut g hw (flag_pre g hw) (fun x hx => prodP_at g hw hx)]
    exact factF_one
  obtain ⟨h1, h2, h3, h4⟩ := factF_two
  have hgl : Df.Good lastF := by rw [← e]; exact autW_good g hw
  refine ⟨minA lastF, ?_, min_good hgl, rfl, ?_, ?_⟩
  · rw [← e]
    refine make_end g (by decide) hf (.cut .all) (flag_pre g hw) ?_ ?_
    · rw [e]; exact h1
    · rw [e]; exact h2
  · rw [min_acc hgl (fun a ha => by simp at ha)]; exact h3
  · rw [min_acc hgl (fun a ha => by simp at ha; subst ha; exact ⟨by decide, by decide⟩)]; exact h4
theorem size_sal (w : World) (o : Obj) : (w.alloc o).heap.size = w.heap.size + 1 := by simp
theorem litF1 (w w6 : World) (g : Nat) (hg : g = w.heap.size)
    (hw : w6 = (((((w.alloc (.cells #[.int .i64 1, .int .i64 3] 3)).alloc (.cells #[.int .i64 1, .int .i64 2] 3)).alloc (.cells #[.int .i64 3, .int .i64 3] 3)).alloc (.cells #[.int .i64 3, .int .i64 3] 3)).alloc
      (.cells #[.slice (some ⟨g, 0, none⟩) 2 2, .slice (some ⟨g + 1, 0, none⟩) 2 2, .slice (some ⟨g + 1 + 1, 0, none⟩) 2 2, .slice (some ⟨g + 1 + 1 + 1, 0, none⟩) 2 2] 27)).alloc (.cells #[.bool true, .bool true, .bool true, .bool false] 4)) :
    DfaAt w6 w6.heap.size (.agg #[.int .i64 2, .int .i64 0, .slice (some ⟨g + 1 + 1 + 1 + 1, 0, none⟩) 4 4, .slice (some ⟨g + 1 + 1 + 1 + 1 + 1, 0, none⟩) 4 4]) plantF ∧ Below w.heap.size w w6 := by
  have h1 := (own_start w).lit 3 1 2 #[.int .i64 1, .int .i64 3] rfl (by simp [maxLen])
  have h2 := h1.lit 3 1 2 #[.int .i64 1, .int .i64 2] rfl (by simp [maxLen])
  have h3 := h2.lit 3 1 2 #[.int .i64 3, .int .i64 3] rfl (by simp [maxLen])
  have h4 := h3.lit 3 1 2 #[.int .i64 3, .int .i64 3] rfl (by simp [maxLen])
  have h5 := h4.lit 27 1 4 #[.slice (some ⟨g, 0, none⟩) 2 2, .slice (some ⟨g + 1, 0, none⟩) 2 2, .slice (some ⟨g + 1 + 1, 0, none⟩) 2 2, .slice (some ⟨g + 1 + 1 + 1, 0, none⟩) 2 2] rfl (by simp [maxLen])
  have h6 := h5.lit 4 1 4 #[.bool true, .bool true, .bool true, .bool false] rfl (by simp [maxLen])
  simp only [size_sal] at h6
  rw [← hg] at h6
  subst hw
  have h7 := own_dfa (nv := .slice (some ⟨g + 1 + 1 + 1 + 1, 0, none⟩) 4 4) (fv := .slice (some ⟨g + 1 + 1 + 1 + 1 + 1, 0, none⟩) 4 4) (rs := [(.slice (some ⟨g, 0, none⟩) 2 2, [1, 3]), (.slice (some ⟨g + 1, 0, none⟩) 2 2, [1, 2]), (.slice (some ⟨g + 1 + 1, 0, none⟩) 2 2, [3, 3]), (.slice (some ⟨g + 1 + 1 + 1, 0, none⟩) 2 2, [3, 3])]) (bs := [true, true, true, false]) (L := 2) (s := 0) h6 (by simp [eRows]) (fun e he => by
    simp only [eEach, List.map_cons, List.map_nil, List.mem_cons, List.not_mem_nil, or_false] at he
    rcases he with rfl | rfl | rfl | rfl <;> simp [eInts, i64]) (by simp [eBools]) (fun p hp x hx => by
    simp only [List.mem_cons, List.not_mem_nil, or_false] at hp
    rcases hp with rfl | rfl | rfl | rfl
    all_goals
      simp only [List.mem_cons, List.not_mem_nil, or_false] at hx
      rcases hx with rfl | rfl <;> exact ⟨by decide, by decide⟩) ⟨by decide, by decide⟩ ⟨by decide, by decide⟩
  exact ⟨h7, h6.below⟩
theorem litF2 (w w6 : World) (g : Nat) (hg : g = w.heap.size)
    (hw : w6 = (((w.alloc (.cells #[.int .i64 0, .int .i64 1] 3)).alloc (.cells #[.int .i64 1, .int .i64 1] 3)).alloc
      (.cells #[.slice (some ⟨g, 0, none⟩) 2 2, .slice (some ⟨g + 1, 0, none⟩) 2 2] 27)).alloc (.cells #[.bool true, .bool false] 4)) :
    DfaAt w6 w6.heap.size (.agg #[.int .i64 2, .int .i64 0, .slice (some ⟨g + 1 + 1, 0, none⟩) 2 2, .slice (some ⟨g + 1 + 1 + 1, 0, none⟩) 2 2]) specF ∧ Below w.heap.size w w6 := by
  have h1 := (own_start w).lit 3 1 2 #[.int .i64 0, .int .i64 1] rfl (by simp [maxLen])
  have h2 := h1.lit 3 1 2 #[.int .i64 1, .int .i64 1] rfl (by simp [maxLen])
  have h5 := h2.lit 27 1 2 #[.slice (some ⟨g, 0, none⟩) 2 2, .slice (some ⟨g + 1, 0, none⟩) 2 2] rfl (by simp [maxLen])
  have h6 := h5.lit 4 1 2 #[.bool true, .bool false] rfl (by simp [maxLen])
  simp only [size_sal] at h6
  rw [← hg] at h6
  subst hw
  have h7 := own_dfa (nv := .slice (some ⟨g + 1 + 1, 0, none⟩) 2 2) (fv := .slice (some ⟨g + 1 + 1 + 1, 0, none⟩) 2 2) (rs := [(.slice (some ⟨g, 0, none⟩) 2 2, [0, 1]), (.slice (some ⟨g + 1, 0, none⟩) 2 2, [1, 1])]) (bs := [true, false]) (L := 2) (s := 0) h6 (by simp [eRows]) (fun e he => by
    simp only [eEach, List.map_cons, List.map_nil, List.mem_cons, List.not_mem_nil, or_false] at he
    rcases he with rfl | rfl <;> simp [eInts, i64]) (by simp [eBools]) (fun p hp x hx => by
    simp only [List.mem_cons, List.not_mem_nil, or_false] at hp
    rcases hp with rfl | rfl
    all_goals
      simp only [List.mem_cons, List.not_mem_nil, or_false] at hx
      rcases hx with rfl | rfl <;> exact ⟨by decide, by decide⟩) ⟨by decide, by decide⟩ ⟨by decide, by decide⟩
  exact ⟨h7, h6.below⟩
set_option maxRecDepth 100000 in
set_option maxHeartbeats 2000000 in
theorem superFact_any (w : World) : Calls Tryd.prog 14 #[] w fun e w' => e = .returned (.bool true) ∧ Below w.heap.size w w' := by
  obtain ⟨r, hs, hgr, hrL, hr1, hr2⟩ := factF
  obtain ⟨w6, hw6⟩ : ∃ w6, w6 = (((((w.alloc (.cells #[.int .i64 1, .int .i64 3] 3)).alloc (.cells #[.int .i64 1, .int .i64 2] 3)).alloc (.cells #[.int .i64 3, .int .i64 3] 3)).alloc (.cells #[.int .i64 3, .int .i64 3] 3)).alloc
      (.cells #[.slice (some ⟨w.heap.size, 0, none⟩) 2 2, .slice (some ⟨w.heap.size + 1, 0, none⟩) 2 2, .slice (some ⟨w.heap.size + 1 + 1, 0, none⟩) 2 2, .slice (some ⟨w.heap.size + 1 + 1 + 1, 0, none⟩) 2 2] 27)).alloc (.cells #[.bool true, .bool true, .bool true, .bool false] 4) := ⟨_, rfl⟩
  obtain ⟨k1, k2⟩ := litF1 w w6 _ rfl hw6
  have s6 : w6.heap.size = w.heap.size + 1 + 1 + 1 + 1 + 1 + 1 := by rw [hw6]; simp
  obtain ⟨w7, hw7, b7, V7⟩ := var_new w6 k1
  have s7 : w7.heap.size = w6.heap.size + 1 := by rw [hw7]; simp
  obtain ⟨w11, hw11⟩ : ∃ w11, w11 = (((w7.alloc (.cells #[.int .i64 0, .int .i64 1] 3)).alloc (.cells #[.int .i64 1, .int .i64 1] 3)).alloc
      (.cells #[.slice (some ⟨w7.heap.size, 0, none⟩) 2 2, .slice (some ⟨w7.heap.size + 1, 0, none⟩) 2 2] 27)).alloc (.cells #[.bool true, .bool false] 4) := ⟨_, rfl⟩
  obtain ⟨k3, k4⟩ := litF2 w7 w11 _ rfl hw11
  have s11 : w11.heap.size = w7.heap.size + 1 + 1 + 1 + 1 := by rw [hw11]; simp
  obtain ⟨w12, hw12, b12, V12⟩ := var_new w11 k3
  have V7 := (V7.on k4).on b12
  have B := Lib.hid (k2.trans ((b7.trans ((k4.trans (b12.mono k4.size)).mono b7.size)).mono k2.size))
  have HC := Lib.hid (smake_gives (E := .nilIface) V7.at_ V12.at_ hs rfl)
  have HA1 := Lib.hid (fun W v (h : DfaAt W W.heap.size v r) => acc_gives (cz := 0) (z := []) (E := .nilIface) h (IntsAt.nil W W.heap.size none) (by simp) ((accOut_ok hgr (chk_iff.1 (by rw [hrL]; decide))).trans hr1) (congrArg errV (accErr_ok hgr (chk_iff.1 (by rw [hrL]; decide)))))
  have HA2 := Lib.hid (fun W v Z (h : DfaAt W W.heap.size v r) (hZ : IntsAt W W.heap.size Z [0]) => acc_gives (cz := 1) (z := [0]) (E := .nilIface) h hZ (by simp) ((accOut_ok hgr (chk_iff.1 (by rw [hrL]; decide))).trans hr2) (congrArg errV (accErr_ok hgr (chk_iff.1 (by rw [hrL]; decide)))))
  obtain ⟨p0, p1, p2, p3, p4⟩ := V7.box
  obtain ⟨q0, q1, q2, q3, q4⟩ := V12.box
  have HW : Hid (w12 = w11.alloc (.cells #[.int .i64 2, .int .i64 0, .slice (some ⟨w7.heap.size + 1 + 1, 0, none⟩) 2 2, .slice (some ⟨w7.heap.size + 1 + 1 + 1, 0, none⟩) 2 2] 25)) := hw12
  have HW2 := Lib.hid hw11
  have HW3 := Lib.hid hw7
  have HW4 := Lib.hid hw6
  have hfull : Hid (w12 = w12) := rfl
  rw [s6] at p1 p2 p3 p4 s7
  rw [s11, s7] at q1 q2 q3 q4
  rw [s7] at hw11 hw12 HW HW2 HC
  rw [hw12, hw11, hw7, hw6] at p1 p2 p3 p4 q1 q2 q3 q4
  clear k1 k2 k3 k4 hs hgr hrL hr1 hr2 V7 V12 hw12 hw11 hw7 hw6 b7 b12 s6 s11 p0 q0 hfull
  go_enter Tryd.func14, Tryd.ntmps14
  go_wp2_with fail
  rw [← HW4.out, ← HW3.out, ← HW2.out, ← HW.out]
  clear p1 p2 p3 p4 q1 q2 q3 q4 HW HW2 HW3 HW4
  refine HC.out.mono ?_
  rintro e w13 ⟨L, s, A, n, c, F, m, k, rfl, hd, hb⟩
  obtain ⟨w14, hw14, hb14, V⟩ := var_new w13 hd.out
  have B := Lib.hid (B.out.trans ((hb.trans (hb14.mono hb.size)).mono B.out.size))
  have HC := Lib.hid (HA1.out _ _ V.at_)
  have V := Lib.hid V
  obtain ⟨p0, p1, p2, p3, p4⟩ := V.out.box
  rw [hw14] at p1 p2 p3 p4
  have HW := Lib.hid hw14
  clear hd hb hb14 hw14 HA1 p0 s7
  go_wp2_with fail
  rw [← HW.out]
  clear p1 p2 p3 p4 HW
  refine HC.out.mono ?_
  rintro e w15 ⟨rfl, hb⟩
  have V := Lib.hid (V.out.on hb)
  have B := Lib.hid (B.out.trans (hb.mono B.out.size))
  clear hb HC
  obtain ⟨w16, hw16⟩ : ∃ w16, w16 = w15.alloc (.cells #[.int .i64 0] 3) := ⟨_, rfl⟩
  have hb16 : Below w15.heap.size w15 w16 := by rw [hw16]; exact below_alloc _ _
  have HC := Lib.hid (HA2.out _ _ (some ⟨w15.heap.size, 0, none⟩) (V.out.at_.on hb16) ⟨fun k u hk => by
    have hlt : w15.heap.size < w16.heap.size := by rw [hw16]; simp
    refine ⟨⟨w15.heap.size, 0, none⟩, rfl, hlt, ?_⟩
    rw [hw16]
    exact World.news_of_block (heap_alloc_new w15 _) k u hk, fun x hx => by
    simp at hx; subst hx; exact ⟨by decide, by decide⟩⟩)
  have B := Lib.hid (B.out.trans (hb16.mono B.out.size))
  have HW := Lib.hid hw16
  obtain ⟨p0, p1, p2, p3, p4⟩ := V.out.box
  clear hb16 hw16 HA2 p0
  go_wp2_with fail
  rw [← HW.out]
  clear p1 p2 p3 p4 HW V
  refine HC.out.mono ?_
  rintro e w17 ⟨rfl, hb⟩
  have B := Lib.hid (B.out.trans (hb.mono B.out.size))
  clear hb HC
  go_wp2
  go_ret
  exact ⟨rfl, B.out⟩
end Go.Proofs.YtbciefeipiphiaaDoor.Su

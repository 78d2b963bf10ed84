/- The document's put: letters are put in as long as something gets better. -/
import Derived.Test.YtfiknbdpjnpkdaaDoorRefLab
namespace Go.Proofs.YtfiknbdpjnpkdaaDoor.Me
open Go.RowKit Go.IntWalk Go.Proofs.YtfiknbdpjnpkdaaDoor.Wd Go.Proofs.YtfiknbdpjnpkdaaDoor.Wo Go.Proofs.YtfiknbdpjnpkdaaDoor.Df Go.Proofs.YtfiknbdpjnpkdaaDoor.Rc Go.Proofs.YtfiknbdpjnpkdaaDoor.Ne

/-- The labels of the states. -/
def rowF (l : List Lv) : Row := fun s => (l[s]?).bind (·.1)
theorem rowF_get {l : List Lv} {k : Nat} {p : Lv} (h : l[k]? = some p) : rowF l k = p.1 := by unfold rowF; rw [h]; rfl
theorem rowF_none {l : List Lv} {s : Nat} (h : l.length ≤ s) : rowF l s = none := by unfold rowF; rw [List.getElem?_eq_none h]; rfl
theorem rowF_lt {l : List Lv} {s : Nat} {x : Lb} (h : rowF l s = some x) : s < l.length := by
  rcases Nat.lt_or_ge s l.length with h2 | h2
  · exact h2
  · rw [rowF_none h2] at h; cases h
theorem rowF_set {l : List Lv} {t : Nat} (ht : t < l.length) (p : Lv) : rowF (l.set t p) = fun s => if s = t then p.1 else rowF l s := by
  funext s
  unfold rowF
  by_cases e : s = t
  · subst e; rw [if_pos rfl, List.getElem?_set_self ht]; rfl
  · rw [if_neg e, List.getElem?_set_ne (fun h => e h.symm)]
theorem rowF_lay {l : List Lv} {t : Nat} (ht : t < l.length) {x : Lb} (u : Value) (h : btr (some x) (rowF l t) = true) : rowF (l.set t (some x, u)) = lay (rowF l) t x := by rw [rowF_set ht, lay_hit h]
/-- How many states have a label. -/
def cnt0 : List Lv → Nat
  | [] => 0
  | p :: l => (if p.1.isSome then 1 else 0) + cnt0 l
theorem cnt0_le : ∀ l : List Lv, cnt0 l ≤ l.length
  | [] => Nat.le_refl _
  | p :: l => by have := cnt0_le l; unfold cnt0; rw [List.length_cons]; split <;> omega
theorem cnt0_set : ∀ (l : List Lv) (t : Nat) (x : Lb) (u : Value), t < l.length → cnt0 (l.set t (some x, u)) = cnt0 l + (if (rowF l t).isSome then 0 else 1)
  | [], t, x, u, h => by simp at h
  | p :: l, 0, x, u, _ => by
    have e : rowF (p :: l) 0 = p.1 := rfl
    rw [e]
    show (if (some x).isSome then 1 else 0) + cnt0 l = (if p.1.isSome then 1 else 0) + cnt0 l + _
    rcases p.1 with _ | y <;> simp <;> omega
  | p :: l, t + 1, x, u, h => by
    have e : rowF (p :: l) (t + 1) = rowF l t := rfl
    rw [e]
    show (if p.1.isSome then 1 else 0) + cnt0 (l.set t (some x, u)) = (if p.1.isSome then 1 else 0) + cnt0 l + _
    rw [cnt0_set l t x u (by simpa using h)]; omega
/-- No label costs more. -/
def Capd (M : Nat) (l : List Lv) : Prop := ∀ s x, rowF l s = some x → x.1 ≤ M + cnt0 l
theorem capd_set {M : Nat} {l : List Lv} (h : Capd M l) {t : Nat} (ht : t < l.length) {x : Lb} (u : Value) (hb : btr (some x) (rowF l t) = true) (hx : x.1 ≤ M + cnt0 l + 1) : Capd M (l.set t (some x, u)) := fun s y hy => by
  rw [rowF_set ht] at hy
  rw [cnt0_set l t x u ht]
  by_cases e : s = t
  · simp only [if_pos e] at hy
    obtain rfl := Option.some.inj hy
    rcases hr : rowF l t with _ | z
    · simp; omega
    · rw [hr] at hb
      have h1 := h t z hr
      have h2 := ple_cost (ple_of hb)
      simp; omega
  · simp only [if_neg e] at hy
    have := h s y hy
    omega
theorem words_set {fs fs' : List Ent} {l : List Lv} (h : Words fs l) (hs : ∀ e ∈ fs, e ∈ fs') (t : Nat) {x : Lb} {u : Value} (hu : eInts u x.2 ∈ fs') (hsm : ∀ y ∈ x.2, Small y) : Words fs' (l.set t (some x, u)) := fun p hp => by
  rcases List.mem_or_eq_of_mem_set hp with hp | rfl
  · obtain ⟨z, h1, h2, h3⟩ := h p hp
    exact ⟨z, hs _ h1, h2, h3⟩
  · exact ⟨x.2, hu, hsm, fun y hy => by obtain rfl := Option.some.inj hy; rfl⟩
theorem words_more {fs fs' : List Ent} {l : List Lv} (h : Words fs l) (hs : ∀ e ∈ fs, e ∈ fs') : Words fs' l := fun p hp => by
  obtain ⟨z, h1, h2, h3⟩ := h p hp
  exact ⟨z, hs _ h1, h2, h3⟩
/-- A label of a row, as a value. -/
theorem lab_value {w0 w : World} {es fs : List Ent} {l : List Lv} (h : Own w0 w es fs) (hw : Words fs l) {k : Nat} {p : Lv} (hk : l[k]? = some p) :
    ∃ (A : Option Addr) (c : Nat) (z : List Int), p.2 = .slice A z.length c ∧ LabAt w (.agg #[.int .i64 (costO p.1), .slice A z.length c]) p.1 := by
  obtain ⟨z, h1, h2, h3⟩ := hw p (List.mem_of_getElem? hk)
  obtain ⟨A, c, e, h4, _, h5⟩ := own_ints_at h (List.mem_append_right _ h1) h2
  exact ⟨A, c, z, e, A, c, z, rfl, h5, h4, h3⟩
theorem len_of_cost {p : List Int} {x : Lb} (h : lev p x.2 ≤ x.1) : x.2.length ≤ p.length + x.1 := by
  have := (lev_len p x.2).2
  omega

/-! ### the row while letters are put in -/
structure PS (w0 wr : World) (d : Aut) (p : List Int) (M n g cap : Nat) (es : List Ent) (fs0 : List Ent) (R : Row) (l : List Lv) (fs : List Ent) : Prop where
  own : Own w0 wr (eLab (.slice (some ⟨g, 0, none⟩) n cap) l :: es) fs
  more : ∀ e ∈ fs0, e ∈ fs
  len : l.length = n
  words : Words fs l
  sound : Sound d p (rowF l)
  cap : Capd M l
  low : lower (rowF l) R
/-- What has been looked at: letters c and beyond of state s are still to come. -/
def Done (d : Aut) (R : Row) (l : List Lv) (s c : Nat) : Prop := ∀ s' c' y, (s' < s ∨ s' = s ∧ c' < c) → (c' : Int) < d.L → R s' = some y → leO (rowF l (Df.step d s' c')) (ext 1 (c' : Int) y)
def Flag (d : Aut) (p : List Int) (R : Row) (l : List Lv) (b : Bool) : Prop := (b = false → rowF l = R) ∧ (b = true → ∃ s, R s ≠ at_ d p s)
theorem done_zero (d : Aut) (R : Row) (l : List Lv) : Done d R l 0 0 := fun s' c' y h => by omega
theorem done_next {d : Aut} {R : Row} {l : List Lv} {s c : Nat} (h : Done d R l s c) (hc : d.L ≤ (c : Int) ∨ R s = none) : Done d R l (s + 1) 0 := fun s' c' y hs hl hy => by
  rcases hc with hc | hc
  · exact h s' c' y (by omega) hl hy
  · by_cases e : s' = s
    · subst e; rw [hc] at hy; cases hy
    · exact h s' c' y (by omega) hl hy
theorem done_step {d : Aut} {R : Row} {l : List Lv} {s c : Nat} {x : Lb} (h : Done d R l s c) (hlow : lower (rowF l) R) (hx : rowF l s = some x) {l' : List Lv} (hl' : rowF l' = lay (rowF l) (Df.step d s c) (ext 1 (c : Int) x)) : Done d R l' s (c + 1) := fun s' c' y hs hl hy => by
  rw [hl']
  by_cases e : s' = s ∧ c' = c
  · obtain ⟨rfl, rfl⟩ := e
    obtain ⟨z, hz, hzy⟩ := hlow s' y (by rw [hy]; exact leO_self y)
    rw [hx] at hz
    obtain rfl := Option.some.inj hz
    exact leO_trans (lay_le _ _ _) (ple_ext hzy 1 _)
  · exact lay_lower _ _ _ _ _ (h s' c' y (by omega) hl hy)
theorem flag_hit {d : Aut} {p : List Int} {R : Row} {l l' : List Lv} {t : Nat} {x : Lb} (hs : Sound d p (rowF l)) (hlow : lower (rowF l) R) (h1 : Word d.L x.2) (h2 : runA d d.s.toNat x.2 = t) (h3 : lev p x.2 ≤ x.1) (hb : btr (some x) (rowF l t) = true) : Flag d p R l' true := by
  refine ⟨(fun h => by cases h), fun _ => ?_⟩
  refine Classical.byContradiction fun hn => ?_
  have hall : ∀ s, R s = at_ d p s := fun s => Classical.byContradiction fun h => hn ⟨s, h⟩
  have hall2 : ∀ s, rowF l s = at_ d p s := fun s => best_stays hs hlow (hall s)
  rw [no_better hall2 h1 h2 h3] at hb
  cases hb
/-- Nothing got better: all are best. -/
theorem pass_done {d : Aut} (g : Df.Good d) {p : List Int} {R R0 : Row} {l : List Lv} (h : Sound d p R) (hf : Full d p R0) (hl : lower R R0) (hd : Done d R l d.next.length 0) (he : rowF l = R) (s : Nat) : rowF l s = at_ d p s := by
  rw [he]
  refine closed_best h hf hl (fun s x a hx h0 h1 => ?_) s
  obtain ⟨hw, hr, _⟩ := h s x hx
  have hs : s < d.next.length := by rw [← hr]; exact g.run_lt hw g.s_lt
  have := hd s a.toNat x (.inl hs) (by omega) hx
  rw [he, Int.toNat_of_nonneg h0] at this
  exact this
theorem pass_again {d : Aut} (g : Df.Good d) {p : List Int} {R R0 : Row} {l : List Lv} (h : Sound d p R) (hf : Full d p R0) (hl : lower R R0) (hc : Sound d p (rowF l)) (hcl : lower (rowF l) R) (hd : Done d R l d.next.length 0) (hb : ∃ s, R s ≠ at_ d p s) : bad d p (rowF l) < bad d p R :=
  pass_less g h hf hl hc hcl (fun s x a hx _ h0 h1 => by
    obtain ⟨hw, hr, _⟩ := h s x hx
    have hs : s < d.next.length := by rw [← hr]; exact g.run_lt hw g.s_lt
    have := hd s a.toNat x (.inl hs) (by omega) hx
    rw [Int.toNat_of_nonneg h0] at this
    exact this) hb
/-! ### how many are not best yet, as memory says -/
def IsBad (w0 wr : World) (d : Aut) (p : List Int) (n g cap : Nat) (es : List Ent) (m : Nat) : Prop :=
  ∃ l fs, Own w0 wr (eLab (.slice (some ⟨g, 0, none⟩) n cap) l :: es) fs ∧ Words fs l ∧ l.length = n ∧ m = bad d p (rowF l)
theorem row_unique {w0 wr : World} {n g cap : Nat} {es fs1 fs2 : List Ent} {l1 l2 : List Lv} (o1 : Own w0 wr (eLab (.slice (some ⟨g, 0, none⟩) n cap) l1 :: es) fs1) (o2 : Own w0 wr (eLab (.slice (some ⟨g, 0, none⟩) n cap) l2 :: es) fs2) (h1 : Words fs1 l1) (h2 : Words fs2 l2) (e1 : l1.length = n) (e2 : l2.length = n) : rowF l1 = rowF l2 := by
  funext s
  by_cases hs : s < n
  · have k1 : l1[s]? = some (l1[s]'(by omega)) := List.getElem?_eq_getElem _
    have k2 : l2[s]? = some (l2[s]'(by omega)) := List.getElem?_eq_getElem _
    rw [rowF_get k1, rowF_get k2]
    obtain ⟨⟨a1, _⟩, a2, _⟩ := own_lab_cell o1 List.mem_cons_self e1 k1
    obtain ⟨⟨b1, _⟩, b2, _⟩ := own_lab_cell o2 List.mem_cons_self e2 k2
    obtain ⟨z, hz, hzs, hz2⟩ := h1 _ (List.mem_of_getElem? k1)
    obtain ⟨y, hy, hys, hy2⟩ := h2 _ (List.mem_of_getElem? k2)
    generalize l1[s]'(by omega) = p1 at *
    generalize l2[s]'(by omega) = p2 at *
    have hc : costO p1.1 = costO p2.1 := by have := a1.symm.trans b1; simpa using this
    have hv : p1.2 = p2.2 := by have := a2.symm.trans b2; simpa using this
    rw [← hv] at hy
    obtain ⟨A, c, ev, _, _, hA⟩ := own_ints_at o1 (List.mem_append_right _ hz) hzs
    obtain ⟨B, c', ev', _, _, hB⟩ := own_ints_at o2 (List.mem_append_right _ hy) hys
    have hAB : A = B ∧ z.length = y.length := by
      have := ev.symm.trans ev'
      simp only [Value.slice.injEq] at this
      exact ⟨this.1, this.2.1⟩
    obtain ⟨rfl, hlen⟩ := hAB
    have hzy : z = y := by
      refine List.ext_getElem hlen fun i q1 q2 => ?_
      obtain ⟨ad, ea, _, ca, _⟩ := hA.get (List.getElem?_eq_getElem q1)
      obtain ⟨ad2, ea2, _, cb, _⟩ := hB.get (List.getElem?_eq_getElem q2)
      obtain rfl := Option.some.inj (ea.symm.trans ea2)
      have := ca.symm.trans cb
      simpa using this
    rcases q1 : p1.1 with _ | x1 <;> rcases q2 : p2.1 with _ | x2
    · rfl
    · rw [q1, q2] at hc; unfold costO at hc; simp at hc
    · rw [q1, q2] at hc; unfold costO at hc; simp at hc
    · rw [q1, q2] at hc
      have r1 := hz2 x1 q1
      have r2 := hy2 x2 q2
      have r3 : x1.1 = x2.1 := by unfold costO at hc; simp only at hc; omega
      congr 1
      exact Prod.ext r3 (by rw [r1, r2, hzy])
  · rw [rowF_none (by omega), rowF_none (by omega)]
noncomputable def badOf (w0 : World) (d : Aut) (p : List Int) (n g cap : Nat) (es : List Ent) (wr : World) : Nat := by
  classical exact if h : ∃ m, IsBad w0 wr d p n g cap es m then Classical.choose h else 0
theorem badOf_eq {w0 wr : World} {d : Aut} {p : List Int} {n g cap : Nat} {es fs : List Ent} {l : List Lv} (o : Own w0 wr (eLab (.slice (some ⟨g, 0, none⟩) n cap) l :: es) fs) (h : Words fs l) (e : l.length = n) : badOf w0 d p n g cap es wr = bad d p (rowF l) := by
  have hex : ∃ m, IsBad w0 wr d p n g cap es m := ⟨_, l, fs, o, h, e, rfl⟩
  unfold badOf
  rw [dif_pos hex]
  obtain ⟨l2, fs2, o2, h2, e2, hm⟩ := Classical.choose_spec hex
  rw [hm, row_unique o2 o h2 h e2 e]
/-! ### the walk -/
def isT : Value → Bool
  | .bool b => b
  | _ => false
theorem ps_low {w0 wr : World} {d : Aut} {p : List Int} {M n g cap : Nat} {es fs0 : List Ent} {R R' : Row} {l : List Lv} {fs : List Ent} (h : PS w0 wr d p M n g cap es fs0 R l fs) (h2 : lower (rowF l) R') : PS w0 wr d p M n g cap es fs0 R' l fs := ⟨h.own, h.more, h.len, h.words, h.sound, h.cap, h2⟩
set_option linter.unusedSimpArgs false in
set_option maxRecDepth 100000 in
set_option maxHeartbeats 4000000 in
theorem put_any (v : Value) (d : Aut) (p : List Int) (M n g cap : Nat) (R0 : Row) (w0 w : World) (es fs0 fs : List Ent) (l : List Lv) (hd : DfaAt w0 w0.heap.size v d) (gd : Df.Good d) (hn : d.next.length = n) (hp : p.length ≤ 80) (hM : M ≤ 100000) (hf : Full d p R0)
    (hs : PS w0 w d p M n g cap es fs0 R0 l fs) :
    Calls Tryd.prog 21 #[v, .slice (some ⟨g, 0, none⟩) n cap] w fun e w' => Hid (e = .returned (.slice (some ⟨g, 0, none⟩) n cap) ∧ ∃ l' fs', Own w0 w' (eLab (.slice (some ⟨g, 0, none⟩) n cap) l' :: es) fs' ∧ (∀ e ∈ fs0, e ∈ fs') ∧ l'.length = n ∧ Words fs' l' ∧ Capd M l' ∧ ∀ s, rowF l' s = at_ d p s) := by
  obtain ⟨L, s, A, c, F, cf, rfl, h⟩ := hd
  have hb0 := hs.own.below
  obtain ⟨w1, hw1⟩ : ∃ w1, w1 = w.alloc (.cells #[.int .i64 L, .int .i64 s, .slice A d.next.length c, .slice F d.fin.length cf] 25) := ⟨_, rfl⟩
  have hO1 := (hs.own.lit 25 4 1 #[.int .i64 L, .int .i64 s, .slice A d.next.length c, .slice F d.fin.length cf] rfl (by simp [maxLen])).fin
  rw [← hw1] at hO1
  have hS1 : PS w0 w1 d p M n g cap es (eDfa w.heap.size [.int .i64 L, .int .i64 s, .slice A d.next.length c, .slice F d.fin.length cf] :: fs0) R0 l (eDfa w.heap.size [.int .i64 L, .int .i64 s, .slice A d.next.length c, .slice F d.fin.length cf] :: fs) :=
    ⟨hO1, fun e he => by
      rcases List.mem_cons.1 he with rfl | he
      · exact List.mem_cons_self
      · exact List.mem_cons_of_mem _ (hs.more e he), hs.len, words_more hs.words (fun e he => List.mem_cons_of_mem _ he), hs.sound, hs.cap, hs.low⟩
  have HD := Lib.hid h
  have HG := Lib.hid gd
  have HF := Lib.hid hf
  have HW := Lib.hid hw1
  have HL := Lib.hid h.eL
  have hn40 : n ≤ 40 := by rw [← hn]; exact gd.n40
  rw [hn] at hS1 HW
  rw [hn]
  have HN := Lib.hid hn
  obtain ⟨m, hm⟩ : ∃ m, d.fin.length = m := ⟨_, rfl⟩
  rw [hm] at hS1 HW
  rw [hm]
  obtain ⟨fsb, hfsb⟩ : ∃ fsb, fsb = eDfa w.heap.size [.int .i64 L, .int .i64 s, .slice A n c, .slice F m cf] :: fs0 := ⟨_, rfl⟩
  rw [← hfsb] at hS1
  have HFsb := Lib.hid hfsb
  have HS0 : Hid (∃ (l' : List Lv) (fs' : List Ent), PS w0 w1 d p M n g cap es fsb R0 l' fs' ∧ (true = false → ∀ s, rowF l' s = at_ d p s)) := ⟨l, _, hS1, fun h => by cases h⟩
  clear h gd hf hw1 hn hO1 hS1 hs hm hb0 hfsb
  go_enter Tryd.func21, Tryd.ntmps21
  go_wp2
  rw [← HW.out]
  go_loopw [5] (fun ag wr => ∃ b : Bool, ag = .bool b ∧ Hid (∃ (l' : List Lv) (fs' : List Ent), PS w0 wr d p M n g cap es fsb R0 l' fs' ∧ (b = false → ∀ s, rowF l' s = at_ d p s))) (fun ag wr => if isT ag = true then badOf w0 d p n g cap es wr + 1 else 0)
  case atStart => exact ⟨true, rfl, HS0⟩
  case round =>
    clear HS0 HW
    obtain ⟨b, rfl, HS⟩ := hrel
    rcases b with _ | _
    · have HE : Hid (∃ l' fs', Own w0 wr (eLab (.slice (some ⟨g, 0, none⟩) n cap) l' :: es) fs' ∧ (∀ e ∈ fs0, e ∈ fs') ∧ l'.length = n ∧ Words fs' l' ∧ Capd M l' ∧ ∀ s, rowF l' s = at_ d p s) := by
        obtain ⟨l', fs', h1, h2⟩ := HS.out
        exact ⟨l', fs', h1.own, fun e he => h1.more e (by rw [HFsb.out]; exact List.mem_cons_of_mem _ he), h1.len, h1.words, h1.cap, h2 rfl⟩
      clear HS
      go_wp2
      go_ret
      exact ⟨rfl, HE.out⟩
    · obtain ⟨l1, fs1, hps, _⟩ := HS.out
      obtain ⟨R, hR⟩ : ∃ R, R = rowF l1 := ⟨_, rfl⟩
      have HRs : Hid (Sound d p R ∧ lower R R0) := by rw [hR]; exact ⟨hps.sound, hps.low⟩
      have HBad : Hid (badOf w0 d p n g cap es wr = bad d p R) := by rw [hR]; exact badOf_eq hps.own hps.words hps.len
      have HS1 : Hid (∃ (l2 : List Lv) (fs2 : List Ent), PS w0 wr d p M n g cap es fsb R l2 fs2 ∧ Done d R l2 0 0 ∧ Flag d p R l2 false) := ⟨l1, fs1, ps_low hps (by rw [hR]; exact lower_refl _), done_zero _ _ _, fun _ => hR.symm, fun h => by cases h⟩
      clear HS hps hR
      go_wp2
      go_loopw [5, 6] (fun ag sv w2 => ∃ (b2 : Bool) (s2 : Nat), s2 ≤ n ∧ ag = .bool b2 ∧ sv = .int .i64 s2 ∧ Hid (∃ (l2 : List Lv) (fs2 : List Ent), PS w0 w2 d p M n g cap es fsb R l2 fs2 ∧ Done d R l2 s2 0 ∧ Flag d p R l2 b2)) (fun _ sv _ => n - (intOf sv).toNat)
      case atStart => exact ⟨false, 0, by omega, rfl, rfl, HS1⟩
      case round =>
        clear HS1
        obtain ⟨b2, s2, hs2, rfl, rfl, HS2⟩ := hrel
        by_cases hlt : s2 < n
        · have e1 : (s2 : Int) < (n : Int) := by omega
          go_wp2
          go_loopw [5, 7] (fun ag av w3 => ∃ (b3 : Bool) (c3 : Nat), (c3 : Int) ≤ L ∧ ag = .bool b3 ∧ av = .int .i64 c3 ∧ Hid (∃ (l2 : List Lv) (fs2 : List Ent), PS w0 w3 d p M n g cap es fsb R l2 fs2 ∧ Done d R l2 s2 c3 ∧ Flag d p R l2 b3)) (fun _ av _ => L.toNat - (intOf av).toNat)
          case atStart => exact ⟨b2, 0, by have := HG.out.l1; rw [HL.out] at this; omega, rfl, rfl, HS2⟩
          case round =>
            clear HS2
            obtain ⟨b3, c3, hc3, rfl, rfl, HS3⟩ := hrel
            obtain ⟨l3, fs3, hps, hdn, hfl⟩ := HS3.out
            have hbox : ∀ (j : Nat) (u : Value), [Value.int .i64 L, .int .i64 s, .slice A n c, .slice F m cf][j]? = some u → wr.cell? ⟨w.heap.size, j, none⟩ = some u := fun j u hj => (hps.own.dcell (g := w.heap.size) (List.mem_append_right _ (hps.more _ (by rw [HFsb.out]; exact List.mem_cons_self))) hj).1
            have k0 := hbox 0 _ rfl
            have k2 := hbox 2 _ rfl
            have hl3 : l3[s2]? = some (l3[s2]'(by rw [hps.len]; exact hlt)) := List.getElem?_eq_getElem _
            obtain ⟨⟨q0, _⟩, q1, _⟩ := own_lab_cell hps.own List.mem_cons_self hps.len hl3
            have hrow := rowF_get hl3
            obtain ⟨Aw, cw, z, hpv, hlab⟩ := lab_value hps.own hps.words hl3
            generalize l3[s2]'(by rw [hps.len]; exact hlt) = p3 at *
            obtain ⟨o3, u3⟩ := p3
            obtain rfl : u3 = .slice Aw z.length cw := hpv
            by_cases hcl : (c3 : Int) < L
            · rcases o3 with _ | y
              · have HN3 : Hid (∃ (l2 : List Lv) (fs2 : List Ent), PS w0 wr d p M n g cap es fsb R l2 fs2 ∧ Done d R l2 (s2 + 1) 0 ∧ Flag d p R l2 b3) := by
                  refine ⟨l3, fs3, hps, done_next hdn (.inr ?_), hfl⟩
                  rcases hRs : R s2 with _ | y0
                  · rfl
                  · obtain ⟨z0, hz0, _⟩ := hps.low s2 y0 (by rw [hRs]; exact leO_self y0)
                    rw [hrow] at hz0; cases hz0
                have q0' : wr.cell? ⟨g, s2 * 2, none⟩ = some (.int .i64 (-1)) := q0
                clear HS3 hps hdn hfl hbox hl3 hrow hlab q0 q1 k2
                go_wp2
                go_roundw
                case rel => exact ⟨b3, s2 + 1, by omega, rfl, by go_num, HN3⟩
                case measure => simp [intOf]; omega
              · have hyb : y.2.length ≤ 999999 ∧ y.1 ≤ 1000000 ∧ y.1 ≤ M + cnt0 l3 := by
                  have h1 := hps.cap s2 y hrow
                  have h2 := cnt0_le l3
                  have h3 := len_of_cost (hps.sound s2 y hrow).2.2
                  have h4 := hps.len
                  omega
                have hyc : costO (some y) = (y.1 : Int) := rfl
                have HWi := Lib.hid (with_any _ y 1 (c3 : Int) wr hlab (Nat.le_trans hyb.1 (by omega)) hyb.2.1 (by decide) (by decide))
                rw [hyc] at HWi q0
                have hy0 : (0 : Int) ≤ (y.1 : Int) := by omega
                obtain ⟨r, hr1, _, hr2, hr3, hr4⟩ := HG.out.at_ (q := s2) (a := c3) (by rw [HN.out]; exact hlt) (by rw [HL.out]; exact hcl)
                have hsnd := ext_sound hps.sound hrow (a := (c3 : Int)) (by omega) (by rw [HL.out]; exact hcl)
                rw [Int.toNat_natCast] at hsnd
                rw [HN.out] at hr4
                have HSnd := Lib.hid hsnd
                obtain ⟨t, ht⟩ : ∃ t, Df.step d s2 c3 = t := ⟨_, rfl⟩
                rw [ht] at hr3 hr4
                have HT := Lib.hid ht
                obtain ⟨x, hx⟩ : ∃ x, ext 1 (c3 : Int) y = x := ⟨_, rfl⟩
                have hxc : costO (some x) = (y.1 : Int) + 1 := by rw [← hx]; simp [costO, ext]
                have hx2 : x.2 = y.2 ++ [(c3 : Int)] := by rw [← hx]; rfl
                have hx1 : x.1 = y.1 + 1 := by rw [← hx]; rfl
                have HX := Lib.hid hx
                have HX12 := Lib.hid (And.intro hxc (And.intro hx2 hx1))
                have hlt3 : l3[t]? = some (l3[t]'(by rw [hps.len]; exact hr4)) := List.getElem?_eq_getElem _
                have hrt := rowF_get hlt3
                obtain ⟨At, ct, zt, hpt, _⟩ := lab_value hps.own hps.words hlt3
                have htb : ∀ y2, rowF l3 t = some y2 → y2.2.length ≤ 1000000 := fun y2 hy2 => by
                  have h1 := hps.cap t y2 hy2
                  have h2 := cnt0_le l3
                  have h3 := len_of_cost (hps.sound t y2 hy2).2.2
                  have h4 := hps.len
                  omega
                have hxsm : ∀ q ∈ x.2, Small q := fun q hq => by
                  have h1 := HSnd.out.1 q (by rw [hx]; exact hq)
                  have h2 := HG.out.l6
                  exact ⟨by omega, by omega⟩
                generalize l3[t]'(by rw [hps.len]; exact hr4) = pt at *
                obtain ⟨ot, ut⟩ := pt
                obtain rfl : ut = .slice At zt.length ct := hpt
                have HPS := Lib.hid hps
                have HDn := Lib.hid hdn
                have HFl := Lib.hid hfl
                have HRow := Lib.hid (And.intro hrow hrt)
                have HLt := Lib.hid hlt3
                have HYb := Lib.hid (And.intro hyb htb)
                have HSm := Lib.hid hxsm
                clear HS3 hdn hfl hbox hlab hyc hsnd ht hx hxc hx2 hx1 hyb htb hxsm hrow hrt hl3 hlt3
                generalize z.length = zl at *
                go_wp2_with fail
                refine HWi.out.mono ?_
                rintro e w4 he
                obtain ⟨u, rfl, hou⟩ := he.out
                rw [← HX12.out.2.1] at hou
                obtain ⟨gu, cu, hu⟩ := owns_some (hou.done _ List.mem_cons_self) (by show 0 < x.2.length; rw [HX12.out.2.1]; simp)
                change u = .slice (some ⟨gu, 0, none⟩) x.2.length cu at hu
                subst hu
                have hO4 : Own w0 w4 (eLab (.slice (some ⟨g, 0, none⟩) n cap) l3 :: es) (eInts (.slice (some ⟨gu, 0, none⟩) x.2.length cu) x.2 :: fs3) := HPS.out.own.join hou
                clear he hou HWi q0 q1 k0 k2 hps
                obtain ⟨xl, hxl⟩ : ∃ xl, x.2.length = xl := ⟨_, rfl⟩
                obtain ⟨w5, hw5⟩ : ∃ w5, w5 = w4.alloc (.cells #[.int .i64 ((y.1 : Int) + 1), .slice (some ⟨gu, 0, none⟩) xl cu] 51) := ⟨_, rfl⟩
                have hB5 : Below w4.heap.size w4 w5 := by rw [hw5]; exact below_alloc _ _
                have hO5 := hO4.on hB5
                have x0 : w5.cell? ⟨w4.heap.size, 0, none⟩ = some (.int .i64 ((y.1 : Int) + 1)) := by rw [hw5]; exact cell_of_row _ _ 0 _ _ _ (heap_alloc_new w4 _)
                have x1 : w5.cell? ⟨w4.heap.size, 1, none⟩ = some (.slice (some ⟨gu, 0, none⟩) xl cu) := by rw [hw5]; exact cell_of_row _ _ 1 _ _ _ (heap_alloc_new w4 _)
                have HMore : Hid (∀ e ∈ fsb, e ∈ eInts (.slice (some ⟨gu, 0, none⟩) x.2.length cu) x.2 :: fs3) := fun e he => List.mem_cons_of_mem _ (HPS.out.more e he)
                have HO5 := Lib.hid hO5
                have HBox : Hid (∀ W, Below w5.heap.size w5 W → ∀ (j : Nat) (u : Value), [Value.int .i64 L, .int .i64 s, .slice A n c, .slice F m cf][j]? = some u → W.cell? ⟨w.heap.size, j, none⟩ = some u) := fun W hW j u hj => ((HO5.out.on hW).dcell (g := w.heap.size) (List.mem_append_right _ (HMore.out _ (by rw [HFsb.out]; exact List.mem_cons_self))) hj).1
                have k2 := HBox.out w5 (Below.refl _ _) 2 _ rfl
                have hD := HD.out.on hO5.below
                obtain ⟨ada, Ar, cr, rfl, hrb, hrc, hrl, hrl2, hri⟩ := hD.rows _ _ hr1
                obtain ⟨adr, rfl, _, hrcell, hrlt⟩ := hri.get hr3
                have HCt : Hid (∀ W, Below w5.heap.size w5 W → (W.cell? ⟨g, t * 2, none⟩ = some (.int .i64 (costO ot)) ∧ W.frozen? ⟨g, t * 2, none⟩ = false) ∧ W.cell? ⟨g, t * 2 + 1, none⟩ = some (.slice At zt.length ct) ∧ W.frozen? ⟨g, t * 2 + 1, none⟩ = false) := fun W hW => own_lab_cell (HO5.out.on hW) List.mem_cons_self HPS.out.len HLt.out
                have hxW : Below w4.heap.size w4 w5 := hB5
                have HXc : Hid (∀ W, Below w5.heap.size w5 W → W.cell? ⟨w4.heap.size, 0, none⟩ = some (.int .i64 ((y.1 : Int) + 1)) ∧ W.cell? ⟨w4.heap.size, 1, none⟩ = some (.slice (some ⟨gu, 0, none⟩) xl cu)) := fun W hW => ⟨(hW.cell (World.block_lt_of_cell? _ _ x0)).trans x0, (hW.cell (World.block_lt_of_cell? _ _ x1)).trans x1⟩
                have HBt : Hid (∀ W, Below w5.heap.size w5 W → Calls Tryd.prog 23 #[.agg #[.int .i64 ((y.1 : Int) + 1), .slice (some ⟨gu, 0, none⟩) xl cu], .agg #[.int .i64 (costO ot), .slice At zt.length ct]] W fun e w' => e = .returned (.bool (btr (some x) ot)) ∧ Below W.heap.size W w') := fun W hW => by
                  have hOW := HO5.out.on hW
                  obtain ⟨A9, c9, e9, _, _, hI9⟩ := own_ints_at hOW (v := .slice (some ⟨gu, 0, none⟩) x.2.length cu) (l := x.2) (List.mem_append_right _ List.mem_cons_self) HSm.out
                  have hA9 : some ⟨gu, 0, none⟩ = A9 := by simp only [Value.slice.injEq] at e9; exact e9.1
                  subst hA9
                  obtain ⟨A8, c8, z8, e8, hl8⟩ := lab_value hOW (words_more HPS.out.words (fun e he => List.mem_cons_of_mem _ he)) HLt.out
                  rw [← e8] at hl8
                  have hl9 : LabAt W (.agg #[.int .i64 ((y.1 : Int) + 1), .slice (some ⟨gu, 0, none⟩) xl cu]) (some x) := ⟨some ⟨gu, 0, none⟩, cu, x.2, by rw [← HX12.out.1, hxl], hI9, by
                    simp only [Value.slice.injEq] at e9
                    obtain ⟨_, _, _, hlc, _⟩ := own_ints_at hOW (v := .slice (some ⟨gu, 0, none⟩) x.2.length cu) (l := x.2) (List.mem_append_right _ List.mem_cons_self) HSm.out
                    obtain ⟨_, c7, e7, q7, _⟩ := own_ints_at hOW (v := .slice (some ⟨gu, 0, none⟩) x.2.length cu) (l := x.2) (List.mem_append_right _ List.mem_cons_self) HSm.out
                    simp only [Value.slice.injEq] at e7
                    rw [e7.2.2]; exact q7, fun q hq => by obtain rfl := Option.some.inj hq; rfl⟩
                  exact (better_any _ _ (some x) ot W hl9 hl8 (fun q hq => by obtain rfl := Option.some.inj hq; have := HX12.out.2.1; have h2 := HYb.out.1.1; rw [this, List.length_append]; simp; omega) (fun q hq => HYb.out.2 q (HRow.out.2.trans hq))).mono fun e w' ⟨h1, h2⟩ => ⟨h1.out, h2⟩
                rw [hxl]
                have HXl := Lib.hid hxl
                clear hxl
                have HK : Hid (∀ W, Below w5.heap.size w5 W → W.cell? ⟨w4.heap.size, 0, none⟩ = some (.int .i64 ((y.1 : Int) + 1)) ∧ W.cell? ⟨w4.heap.size, 1, none⟩ = some (.slice (some ⟨gu, 0, none⟩) xl cu) ∧ W.cell? ⟨g, t * 2, none⟩ = some (.int .i64 (costO ot)) ∧ W.cell? ⟨g, t * 2 + 1, none⟩ = some (.slice At zt.length ct)) := fun W hW => ⟨(HXc.out W hW).1, (HXc.out W hW).2, (HCt.out W hW).1.1, (HCt.out W hW).2.1⟩
                have HD5 : Hid (Below w5.heap.size w5 w5.drew) := (Below.refl _ _).drew
                have HW5 := Lib.hid hw5
                have hrl9 : (c3 : Int) < (r.length : Int) := by omega
                have et : (t : Int) < (n : Int) := by omega
                rw [hw5] at k2 hrc hrcell
                clear hw5 hB5 hO5 hO4 x0 x1 hD hri hr1 hr2 hr3 hxW
                generalize r.length = rl at *
                generalize zt.length = zl2 at *
                go_wp2_with fail
                rw [← HW5.out]
                go_region_held3 (fun W => W.cell? ⟨w4.heap.size, 0, none⟩ = some (.int .i64 ((y.1 : Int) + 1)) ∧ W.cell? ⟨w4.heap.size, 1, none⟩ = some (.slice (some ⟨gu, 0, none⟩) xl cu) ∧ W.cell? ⟨g, t * 2, none⟩ = some (.int .i64 (costO ot)) ∧ W.cell? ⟨g, t * 2 + 1, none⟩ = some (.slice At zl2 ct))
                  (first | exact HK.out _ HB6.out | exact HK.out _ HD5.out)
                  (first | (go_at_call 23; refine (HBt.out _ HD5.out).mono ?_; rintro e w6 ⟨rfl, hb⟩; have HB6 := Lib.hid (HD5.out.trans (hb.mono HD5.out.size)); clear hb))
                all_goals
                  obtain ⟨⟨t0, ft0⟩, t1, ft1⟩ := HCt.out _ HB6.out
                  obtain ⟨y0, y1⟩ := HXc.out _ HB6.out
                  rcases hbt : btr (some x) ot with _ | _
                  · have HNew : Hid (∃ (l2 : List Lv) (fs2 : List Ent), PS w0 w6 d p M n g cap es fsb R l2 fs2 ∧ Done d R l2 s2 (c3 + 1) ∧ Flag d p R l2 b3) := by
                      refine ⟨l3, _, ⟨HO5.out.on HB6.out, HMore.out, HPS.out.len, words_more HPS.out.words (fun e he => List.mem_cons_of_mem _ he), HPS.out.sound, HPS.out.cap, HPS.out.low⟩, done_step HDn.out HPS.out.low HRow.out.1 ?_, HFl.out⟩
                      rw [HT.out, HX.out, lay_miss (by rw [HRow.out.2]; exact hbt)]
                    clear HBt HK HD5 HCt HXc HO5 HBox HMore HFl HDn HPS HB6 t0 ft0 t1 ft1 y0 y1 hbt
                    go_wp2
                    go_roundw
                    case rel => exact ⟨b3, c3 + 1, by omega, rfl, by go_num, HNew⟩
                    case measure => simp [intOf]; omega
                  · have HNew : Hid (∃ (l2 : List Lv) (fs2 : List Ent), PS w0 ((w6.setCell ⟨g, t * 2, none⟩ (.int .i64 ((y.1 : Int) + 1))).setCell ⟨g, t * 2 + 1, none⟩ (.slice (some ⟨gu, 0, none⟩) xl cu)) d p M n g cap es fsb R l2 fs2 ∧ Done d R l2 s2 (c3 + 1) ∧ Flag d p R l2 true) := by
                      have htl : t < l3.length := by rw [HPS.out.len]; exact hr4
                      have hbt2 : btr (some x) (rowF l3 t) = true := by rw [HRow.out.2]; exact hbt
                      obtain ⟨k1, k2, k3⟩ := HSnd.out
                      rw [HX.out] at k1 k2 k3
                      rw [HT.out] at k2
                      have hlay := rowF_lay htl (.slice (some ⟨gu, 0, none⟩) xl cu) hbt2
                      have ho := own_lab_set (HO5.out.on HB6.out) HPS.out.len t (some x, .slice (some ⟨gu, 0, none⟩) xl cu)
                      rw [show costO (some x, Value.slice (some ⟨gu, 0, none⟩) xl cu).1 = (y.1 : Int) + 1 from HX12.out.1] at ho
                      refine ⟨l3.set t (some x, .slice (some ⟨gu, 0, none⟩) xl cu), _, ⟨ho, HMore.out, by rw [List.length_set]; exact HPS.out.len, words_set HPS.out.words (fun e he => List.mem_cons_of_mem _ he) t (by rw [← HXl.out]; exact List.mem_cons_self) HSm.out, ?_, ?_, ?_⟩, ?_, ?_⟩
                      · rw [hlay]; exact lay_sound HPS.out.sound k1 k2 k3
                      · exact capd_set HPS.out.cap htl _ hbt2 (by rw [HX12.out.2.2]; have := HYb.out.1.2.2; omega)
                      · rw [hlay]; exact lower_trans (lay_lower _ _ _) HPS.out.low
                      · exact done_step HDn.out HPS.out.low HRow.out.1 (by rw [HT.out, HX.out]; exact hlay)
                      · exact flag_hit HPS.out.sound HPS.out.low k1 k2 k3 hbt2
                    clear HBt HK HD5 HCt HXc HO5 HBox HMore HFl HDn HPS HB6 hbt
                    go_wp2
                    go_roundw
                    case rel => exact ⟨true, c3 + 1, by omega, rfl, by go_num, HNew⟩
                    case measure => simp [intOf]; omega
            · have HN3 : Hid (∃ (l2 : List Lv) (fs2 : List Ent), PS w0 wr d p M n g cap es fsb R l2 fs2 ∧ Done d R l2 (s2 + 1) 0 ∧ Flag d p R l2 b3) := ⟨l3, fs3, hps, done_next hdn (.inl (by rw [HL.out]; omega)), hfl⟩
              clear HS3 hps hdn hfl hbox hl3 hrow hlab q0 q1 k2
              go_wp2
              go_roundw
              case rel => exact ⟨b3, s2 + 1, by omega, rfl, by go_num, HN3⟩
              case measure => simp [intOf]; omega
        · obtain rfl : s2 = n := by omega
          have e1 : ¬ (s2 : Int) < (s2 : Int) := by omega
          obtain ⟨l2, fs2, hps, hdn, hfl⟩ := HS2.out
          rw [← HN.out] at hdn
          rcases b2 with _ | _
          · have HE : Hid (∃ (l' : List Lv) (fs' : List Ent), PS w0 wr d p M s2 g cap es fsb R0 l' fs' ∧ (false = false → ∀ s, rowF l' s = at_ d p s)) := ⟨l2, fs2, ps_low hps (lower_trans hps.low HRs.out.2), fun _ => pass_done HG.out HRs.out.1 HF.out HRs.out.2 hdn (hfl.1 rfl)⟩
            clear HS2 hps hdn hfl
            go_wp2
            go_roundw
            case rel => exact ⟨false, rfl, HE⟩
            case measure => simp [isT]
          · have HE : Hid (∃ (l' : List Lv) (fs' : List Ent), PS w0 wr d p M s2 g cap es fsb R0 l' fs' ∧ (true = false → ∀ s, rowF l' s = at_ d p s)) := ⟨l2, fs2, ps_low hps (lower_trans hps.low HRs.out.2), fun h => by cases h⟩
            have HLess : Hid (badOf w0 d p s2 g cap es wr < bad d p R) := by
              unfold Hid
              rw [badOf_eq hps.own hps.words hps.len]
              exact pass_again HG.out HRs.out.1 HF.out HRs.out.2 hps.sound hps.low hdn (hfl.2 rfl)
            clear HS2 hps hdn hfl
            go_wp2
            go_roundw
            case rel => exact ⟨true, rfl, HE⟩
            case measure => have h1 := HLess.out; have h2 := HBad.out; simp [isT]; omega
end Go.Proofs.YtfiknbdpjnpkdaaDoor.Me

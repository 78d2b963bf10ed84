/- The walk of package small's numbered, at bools. -/
import Derived.Test.YtjecphfjkpinlaaArr
namespace Go.Proofs.Ytjecphfjkpinlaa.Mp
open Go.RowKit Go.IntWalk Go.Proofs.Ytjecphfjkpinlaa.Wd Go.Proofs.Ytjecphfjkpinlaa.Wo Go.Proofs.Ytjecphfjkpinlaa.Df Go.Proofs.Ytjecphfjkpinlaa.Rc Go.Proofs.Ytjecphfjkpinlaa.Sm

theorem num_start (w : World) (tk : TypeId) {κ : Type} [DecidableEq κ] (K : κ → Value) (ks : List κ) :
    NInv tk K w (((w.alloc (.cells #[.int .i64 0, .int .i64 0, .int .i64 0, .int .i64 0, .int .i64 0, .int .i64 0, .int .i64 0, .int .i64 0, .int .i64 0, .int .i64 0, .int .i64 0, .int .i64 0, .int .i64 0, .int .i64 0, .int .i64 0, .int .i64 0, .int .i64 0, .int .i64 0, .int .i64 0, .int .i64 0, .int .i64 0, .int .i64 0, .int .i64 0, .int .i64 0, .int .i64 0, .int .i64 0, .int .i64 0, .int .i64 0, .int .i64 0, .int .i64 0, .int .i64 0, .int .i64 0, .int .i64 0, .int .i64 0, .int .i64 0, .int .i64 0, .int .i64 0, .int .i64 0, .int .i64 0, .int .i64 0] 52)).alloc (.cells #[.int .i64 0, .int .i64 0, .int .i64 0, .int .i64 0, .int .i64 0, .int .i64 0, .int .i64 0, .int .i64 0, .int .i64 0, .int .i64 0, .int .i64 0, .int .i64 0, .int .i64 0, .int .i64 0, .int .i64 0, .int .i64 0, .int .i64 0, .int .i64 0, .int .i64 0, .int .i64 0, .int .i64 0, .int .i64 0, .int .i64 0, .int .i64 0, .int .i64 0, .int .i64 0, .int .i64 0, .int .i64 0, .int .i64 0, .int .i64 0, .int .i64 0, .int .i64 0, .int .i64 0, .int .i64 0, .int .i64 0, .int .i64 0, .int .i64 0, .int .i64 0, .int .i64 0, .int .i64 0] 52)).alloc (.map #[] 0)) (w.heap.size + 1) w.heap.size (w.heap.size + 1 + 1) ks 0 := by
  have h1 := (own_start w).lit 52 40 1 #[.int .i64 0, .int .i64 0, .int .i64 0, .int .i64 0, .int .i64 0, .int .i64 0, .int .i64 0, .int .i64 0, .int .i64 0, .int .i64 0, .int .i64 0, .int .i64 0, .int .i64 0, .int .i64 0, .int .i64 0, .int .i64 0, .int .i64 0, .int .i64 0, .int .i64 0, .int .i64 0, .int .i64 0, .int .i64 0, .int .i64 0, .int .i64 0, .int .i64 0, .int .i64 0, .int .i64 0, .int .i64 0, .int .i64 0, .int .i64 0, .int .i64 0, .int .i64 0, .int .i64 0, .int .i64 0, .int .i64 0, .int .i64 0, .int .i64 0, .int .i64 0, .int .i64 0, .int .i64 0] rfl (by simp [maxLen])
  have h2 := h1.lit 52 40 1 #[.int .i64 0, .int .i64 0, .int .i64 0, .int .i64 0, .int .i64 0, .int .i64 0, .int .i64 0, .int .i64 0, .int .i64 0, .int .i64 0, .int .i64 0, .int .i64 0, .int .i64 0, .int .i64 0, .int .i64 0, .int .i64 0, .int .i64 0, .int .i64 0, .int .i64 0, .int .i64 0, .int .i64 0, .int .i64 0, .int .i64 0, .int .i64 0, .int .i64 0, .int .i64 0, .int .i64 0, .int .i64 0, .int .i64 0, .int .i64 0, .int .i64 0, .int .i64 0, .int .i64 0, .int .i64 0, .int .i64 0, .int .i64 0, .int .i64 0, .int .i64 0, .int .i64 0, .int .i64 0] rfl (by simp [maxLen])
  have e1 : (w.alloc (.cells #[.int .i64 0, .int .i64 0, .int .i64 0, .int .i64 0, .int .i64 0, .int .i64 0, .int .i64 0, .int .i64 0, .int .i64 0, .int .i64 0, .int .i64 0, .int .i64 0, .int .i64 0, .int .i64 0, .int .i64 0, .int .i64 0, .int .i64 0, .int .i64 0, .int .i64 0, .int .i64 0, .int .i64 0, .int .i64 0, .int .i64 0, .int .i64 0, .int .i64 0, .int .i64 0, .int .i64 0, .int .i64 0, .int .i64 0, .int .i64 0, .int .i64 0, .int .i64 0, .int .i64 0, .int .i64 0, .int .i64 0, .int .i64 0, .int .i64 0, .int .i64 0, .int .i64 0, .int .i64 0] 52)).heap.size = w.heap.size + 1 := by simp
  have e2 : ((w.alloc (.cells #[.int .i64 0, .int .i64 0, .int .i64 0, .int .i64 0, .int .i64 0, .int .i64 0, .int .i64 0, .int .i64 0, .int .i64 0, .int .i64 0, .int .i64 0, .int .i64 0, .int .i64 0, .int .i64 0, .int .i64 0, .int .i64 0, .int .i64 0, .int .i64 0, .int .i64 0, .int .i64 0, .int .i64 0, .int .i64 0, .int .i64 0, .int .i64 0, .int .i64 0, .int .i64 0, .int .i64 0, .int .i64 0, .int .i64 0, .int .i64 0, .int .i64 0, .int .i64 0, .int .i64 0, .int .i64 0, .int .i64 0, .int .i64 0, .int .i64 0, .int .i64 0, .int .i64 0, .int .i64 0] 52)).alloc (.cells #[.int .i64 0, .int .i64 0, .int .i64 0, .int .i64 0, .int .i64 0, .int .i64 0, .int .i64 0, .int .i64 0, .int .i64 0, .int .i64 0, .int .i64 0, .int .i64 0, .int .i64 0, .int .i64 0, .int .i64 0, .int .i64 0, .int .i64 0, .int .i64 0, .int .i64 0, .int .i64 0, .int .i64 0, .int .i64 0, .int .i64 0, .int .i64 0, .int .i64 0, .int .i64 0, .int .i64 0, .int .i64 0, .int .i64 0, .int .i64 0, .int .i64 0, .int .i64 0, .int .i64 0, .int .i64 0, .int .i64 0, .int .i64 0, .int .i64 0, .int .i64 0, .int .i64 0, .int .i64 0] 52)).heap.size = w.heap.size + 1 + 1 := by simp
  rw [e1] at h2
  have hm := map_made ((w.alloc (.cells #[.int .i64 0, .int .i64 0, .int .i64 0, .int .i64 0, .int .i64 0, .int .i64 0, .int .i64 0, .int .i64 0, .int .i64 0, .int .i64 0, .int .i64 0, .int .i64 0, .int .i64 0, .int .i64 0, .int .i64 0, .int .i64 0, .int .i64 0, .int .i64 0, .int .i64 0, .int .i64 0, .int .i64 0, .int .i64 0, .int .i64 0, .int .i64 0, .int .i64 0, .int .i64 0, .int .i64 0, .int .i64 0, .int .i64 0, .int .i64 0, .int .i64 0, .int .i64 0, .int .i64 0, .int .i64 0, .int .i64 0, .int .i64 0, .int .i64 0, .int .i64 0, .int .i64 0, .int .i64 0] 52)).alloc (.cells #[.int .i64 0, .int .i64 0, .int .i64 0, .int .i64 0, .int .i64 0, .int .i64 0, .int .i64 0, .int .i64 0, .int .i64 0, .int .i64 0, .int .i64 0, .int .i64 0, .int .i64 0, .int .i64 0, .int .i64 0, .int .i64 0, .int .i64 0, .int .i64 0, .int .i64 0, .int .i64 0, .int .i64 0, .int .i64 0, .int .i64 0, .int .i64 0, .int .i64 0, .int .i64 0, .int .i64 0, .int .i64 0, .int .i64 0, .int .i64 0, .int .i64 0, .int .i64 0, .int .i64 0, .int .i64 0, .int .i64 0, .int .i64 0, .int .i64 0, .int .i64 0, .int .i64 0, .int .i64 0] 52)) Try.prog tk 3 K (Lit.int .i64)
  rw [e2] at hm
  refine ⟨h2.alloc _, by omega, by omega, by omega, ?_⟩
  have e3 : nf (ks.take 0) = fun _ => none := by funext y; unfold nf; simp
  rw [e3]
  exact hm
theorem clsV_info {l : List Nat} (h : l.length ≤ 40) : (Try.prog.info? 52).map (·.size) = some (clsV l).toArray.size := by rw [info_cls]; simp [clsV_length h]
set_option maxRecDepth 100000 in
set_option maxHeartbeats 4000000 in
theorem numB_any (A : Option Addr) (c : Nat) (bs : List Bool) (w : World) (hA : BoolsAt w w.heap.size A bs) (h40 : bs.length ≤ 40) (hc : bs.length ≤ c) (hc2 : c ≤ 9223372036854775807) :
    Calls Try.prog 44 #[.slice A bs.length c] w fun e w' => Hid (e = .returned (.agg (clsV (cls bs)).toArray)) ∧ Below w.heap.size w w' := by
  have HA := Lib.hid hA
  have hmm := @run_makeMap Try.prog
  have HS0 := Lib.hid (num_start w 4 Value.bool bs)
  clear hA
  go_enter Try.func44, Try.ntmps44
  go_wp2
  clear hmm
  obtain ⟨g3, hg3⟩ : ∃ g3, g3 = w.heap.size + 1 := ⟨_, rfl⟩
  obtain ⟨gm, hgm⟩ : ∃ gm, gm = w.heap.size + 1 + 1 := ⟨_, rfl⟩
  rw [← hgm, ← hg3] at HS0
  rw [← hgm, ← hg3]
  obtain ⟨g2, hg2⟩ : ∃ g2, g2 = w.heap.size := ⟨_, rfl⟩
  have HG2 := Lib.hid hg2
  rw [← hg2] at HS0
  rw [← hg2]
  generalize (((w.alloc (.cells #[.int .i64 0, .int .i64 0, .int .i64 0, .int .i64 0, .int .i64 0, .int .i64 0, .int .i64 0, .int .i64 0, .int .i64 0, .int .i64 0, .int .i64 0, .int .i64 0, .int .i64 0, .int .i64 0, .int .i64 0, .int .i64 0, .int .i64 0, .int .i64 0, .int .i64 0, .int .i64 0, .int .i64 0, .int .i64 0, .int .i64 0, .int .i64 0, .int .i64 0, .int .i64 0, .int .i64 0, .int .i64 0, .int .i64 0, .int .i64 0, .int .i64 0, .int .i64 0, .int .i64 0, .int .i64 0, .int .i64 0, .int .i64 0, .int .i64 0, .int .i64 0, .int .i64 0, .int .i64 0] 52)).alloc (.cells #[.int .i64 0, .int .i64 0, .int .i64 0, .int .i64 0, .int .i64 0, .int .i64 0, .int .i64 0, .int .i64 0, .int .i64 0, .int .i64 0, .int .i64 0, .int .i64 0, .int .i64 0, .int .i64 0, .int .i64 0, .int .i64 0, .int .i64 0, .int .i64 0, .int .i64 0, .int .i64 0, .int .i64 0, .int .i64 0, .int .i64 0, .int .i64 0, .int .i64 0, .int .i64 0, .int .i64 0, .int .i64 0, .int .i64 0, .int .i64 0, .int .i64 0, .int .i64 0, .int .i64 0, .int .i64 0, .int .i64 0, .int .i64 0, .int .i64 0, .int .i64 0, .int .i64 0, .int .i64 0] 52)).alloc (.map #[] 0)) = w4 at *
  clear hg3 hgm hg2
  go_loopw [12] (fun i wr => ∃ (k : Nat), k ≤ bs.length ∧ i = .int .i64 k ∧ Hid (NInv 4 Value.bool w wr g3 g2 gm bs k)) (fun i _ => bs.length - (intOf i).toNat)
  case atStart => exact ⟨0, by omega, rfl, HS0⟩
  case round =>
    clear HS0
    obtain ⟨k, hk, rfl, HS⟩ := hrel
    have hbw := HS.out.1.below
    have hln : (cls (bs.take k)).length = k := by rw [cls_length, List.length_take]; omega
    by_cases hlt : k < bs.length
    · as_aux_lemma =>
      obtain ⟨ad, e1, h1, h2, _⟩ := (HA.out.on hbw).at_ (List.getElem?_eq_getElem hlt)
      subst e1
      obtain ⟨⟨v0, hcv⟩, hcf⟩ := own_cls_cell HS.out.1 (g := g3) (l := cls (bs.take k)) (by simp) (j := k) (by omega) (by omega)
      have HM := Lib.hid HS.out.2.2.2.2
      have HKl := Lib.hid (Maps.keyOf_bool_mk Try.underlying4 bs[k])
      obtain ⟨bk, hbk⟩ : ∃ b, b = bs[k] := ⟨_, rfl⟩
      have HBk := Lib.hid hbk
      rw [← hbk] at h2 HKl
      clear hln hbw hbk
      by_cases hmem : bs[k] ∈ bs.take k
      · as_aux_lemma =>
        have HX : Hid (some ((num (dst (bs.take k)) bs[k] : Nat) : Int) = nf (bs.take k) bk) := by rw [Hid, HBk.out, nf_at hmem]
        have HN := Lib.hid (HS.out.old hlt h40 hmem rfl)
        clear hmem HBk HS
        generalize num (dst (bs.take k)) bs[k] = nn at *
        go_wp2_with (at_lookup; refine wp_look_ok HM.out keyedB Try.underlying91 elem_int (by rfl) _ _ (by rfl) (by rfl) (a := bk) (by rfl) HKl.out HX.out ?_)
        go_roundw
        case rel => exact ⟨k + 1, by omega, by go_num, HN⟩
        case measure => simp [intOf]; omega
      · as_aux_lemma =>
        have HX : Hid (none = nf (bs.take k) bk) := by rw [Hid, HBk.out, nf_no hmem]
        have HSn := Lib.hid (fun w5 ht => HS.out.beside (w5 := w5) ht)
        have HN := Lib.hid (fun w5 ht hm => HS.out.new hlt h40 hmem (w5 := w5) ht hm)
        rw [← HBk.out] at HN
        have hdl : (dst (bs.take k)).length ≤ 40 := by have := dst_length (bs.take k); rw [List.length_take] at this; omega
        clear hmem HS HBk
        generalize (dst (bs.take k)).length = dl at *
        go_wp2_with (first | (at_lookup; refine wp_look_ok HM.out keyedB Try.underlying91 elem_int (by rfl) _ _ (by rfl) (by rfl) (a := bk) (by rfl) HKl.out HX.out ?_) | (at_len; refine wp_len HM.out Try.underlying91 (by rfl) _ (by rfl) (by rfl) ?_) | (at_mapUpdate; refine wp_store HM.out keyedB Try.underlying91 elem_int (by omega) (fun x y h => by simpa using h) (by rfl) _ _ _ (by rfl) (by rfl) (a := bk) (by rfl) HKl.out (x := (dl : Int)) (by rfl) (wf_of ⟨by omega, by omega⟩) (m' := dl + 1) (by rw [← HX.out]; rfl) ?_))
        intro w5 ht hm
        have hN := Lib.hid (HN.out w5 ht hm)
        obtain ⟨⟨v5, hcv5⟩, hcf5⟩ := own_cls_cell (HSn.out w5 ht) (g := g3) (l := cls (bs.take k)) (by simp) (j := k) (by omega) (by rw [cls_length, List.length_take]; omega)
        clear ht hm hcv hcf HSn HN HM HKl HX
        go_wp2
        go_roundw
        case rel => exact ⟨k + 1, by omega, by go_num, hN⟩
        case measure => simp [intOf]; omega
    · as_aux_lemma =>
      obtain rfl : k = bs.length := by omega
      have ho := HS.out.1
      rw [List.take_length] at ho
      have HO := Lib.hid ho
      have hlen : (cls bs).length ≤ 40 := by rw [cls_length]; exact h40
      obtain ⟨hb3, _⟩ := row_block (g := g3) (t := 52) (sz := 40) (xs := clsV (cls bs)) ho (by simp [eCls])
      obtain ⟨hb2, _⟩ := row_block (g := g2) (t := 52) (sz := 40) (xs := clsV []) ho (by simp [eCls])
      have h9 := Own.setRow (g := g2) (t := 52) (sz := 40) (xs := clsV []) (ys := clsV (cls bs)) ho.two (clsV_length hlen)
      obtain ⟨hb9, _⟩ := row_block (g := g2) (t := 52) (sz := 40) (xs := clsV (cls bs)) h9 (by simp)
      have HB9 := Lib.hid h9.below
      have hi := clsV_info hlen
      have hone := clsV_one (cls bs)
      have hsz : (clsV []).toArray.size = (clsV (cls bs)).toArray.size := by simp [clsV_length hlen, clsV_zero]
      have Hi := Lib.hid hi
      have H1 := Lib.hid hone
      have Hsz := Lib.hid hsz
      have Hb3 := Lib.hid hb3
      have Hb2 := Lib.hid hb2
      have Hb9 := Lib.hid hb9
      clear hi hone hsz hb3 hb2 hb9 h9 ho hlen hln hbw HS HO
      generalize hcv9 : (clsV (cls bs)).toArray = cv at *
      have HCv := Lib.hid hcv9
      clear hcv9
      go_wp2_with (first | (refine wpList_load_row (by rfl) 52 _ (by rfl) g3 (by rfl) 52 cv (0, 0) _ Hb3.out Try.underlying52 (by rfl) Hi.out ?_) | (refine wpList_store_row (by rfl) 52 _ _ (by rfl) g2 cv (by rfl) (by rfl) 52 _ Hb2.out Hi.out Hsz.out H1.out ?_))
      (try simp only [Exit.inBlock, Exit.then])
      refine bodyPost_ret (results_cell_row (by rfl) _ _ g2 52 cv (0, 0) _ (by rfl) Hb9.out Try.underlying52 (by rfl) Hi.out) rfl ?_
      exact ⟨Lib.hid (by rw [HCv.out]), HB9.out⟩
end Go.Proofs.Ytjecphfjkpinlaa.Mp

/- The walk of the reference's Parse. -/
import Derived.Test.YtlhhhdgkdbplmaaDoorRefParseA
import Derived.Test.YtlhhhdgkdbplmaaDoorRead
import Derived.Test.YtlhhhdgkdbplmaaDoorWriter
namespace Go.Proofs.YtlhhhdgkdbplmaaDoor.Fm
open Go.RowKit Go.IntWalk Go.PlainAid Go.Proofs.YtlhhhdgkdbplmaaDoor.Wd Go.Proofs.YtlhhhdgkdbplmaaDoor.Wo
set_option linter.unusedVariables false

theorem own_byteZ {w0 w : World} {ops : Array Oper} {rest : List Oper} {o : Oper} {a : Act} {Q : Exit → Act → World → Prop} (hgd : o.guard = none) (s x : Operand)
    (ho : o.op = .call { callee := .builtin .append, args := #[s, x], argTypes := #[94, 94] })
    {v : Value} {l : List UInt8} {es fs : List Ent} (hs : a.eval s = v) (h : Own w0 w (eBuf v l :: es) fs) {c : UInt8} {z : Int} (hz : z = (c.toNat : Int)) {t' : TypeId} (hx : a.eval x = .slice (some ⟨w.heap.size, 0, none⟩) 1 1) (hb : l.length < 17592186044416)
    (hK : ∀ g cap w', Own w0 w' (eBuf (.slice (some ⟨g, 0, none⟩) (l.length + 1) cap) (l ++ [c]) :: es) fs → wpList Tryd.prog ops Q rest (a.put o.dst (.slice (some ⟨g, 0, none⟩) (l.length + 1) cap)) w') :
    wpList Tryd.prog ops Q (o :: rest) a (w.alloc (.cells #[.int .u8 z] t')) := by
  subst hz
  exact own_byte hgd s x ho hs h hx hb hK
theorem buf_conv {w0 w : World} {es fs : List Ent} {v : Value} {l : List UInt8} (h : Own w0 w (eBuf v l :: es) fs) :
    ∃ A cap, v = .slice A l.length cap ∧ (convert 94 9 (.slice A l.length cap)).run Tryd.prog w = .ok (.string (str l)) w := by
  rcases (h.each _ List.mem_cons_self).2 with ⟨e, h0⟩ | ⟨g, cap, cur, e, _⟩
  · simp only [eBuf] at e h0
    have hl : l = [] := List.eq_nil_of_length_eq_zero h0
    subst hl
    refine ⟨none, 0, e, ?_⟩
    rw [run_convert_bytes_string w 94 9 5 none _ 0 Tryd.underlying94 Tryd.underlying5 Tryd.underlying9]
    rfl
  · simp only [eBuf] at e
    refine ⟨_, cap, e, run_convert_bytes_back (P := Tryd.prog) w 94 9 5 ⟨g, 0, none⟩ cap l Tryd.underlying94 Tryd.underlying5 Tryd.underlying9 ?_⟩
    intro j hj
    have := h.cell (t := 5) (sz := 1) (n := l.length) (cap := cap) (g := g) (xs := l.map byt) (by subst e; exact List.mem_cons_self) (j := j) (u := byt l[j]) (by rw [List.getElem?_map, List.getElem?_eq_getElem hj]; rfl)
    have e2 : (⟨g, 0, none⟩ : Addr).add j = ⟨g, j, none⟩ := by unfold Addr.add; simp [eq_comm]
    rw [e2]
    exact this.1
/-- What Parse hands back. -/
def ParseOut (f : List Nd) (n : Nat) (w : World) (e : Ending) (w' : World) : Prop :=
  (∃ A c, e = .returned (.tuple #[.slice A f.length c, .int .i64 (n : Int)]) ∧ f.length ≤ c ∧ c ≤ 9223372036854775807 ∧ Hid (NodesAt w' w'.heap.size A f)) ∧ Below w.heap.size w w'
set_option maxRecDepth 100000 in
set_option maxHeartbeats 2000000 in
theorem rparse_ok (L : Int) (s : ByteArray) (w : World) (h1 : 1 ≤ L) (h6 : L ≤ 6) (hs : s.size ≤ 300) {x : Option Tree} (hx : Rp L.toNat (strip s.data.toList) x) {n : Nat} {f : List Nd}
    (hn : (x = none ∧ n = 2 ∧ f = []) ∨ (∃ t, x = some t ∧ (∀ m ∈ flat t [], NdSmall m) ∧ ((40 < (flat t []).length ∧ n = 4 ∧ f = []) ∨ ((flat t []).length ≤ 40 ∧ n = 0 ∧ f = flat t [])))) :
    Calls Tryd.prog 23 #[.int .i64 L, .string s] w (ParseOut f n w) := by
  have HPD := Lib.hid (parse_does h1 h6 hx)
  have HL := Lib.hid (in2_any L 1 6 w true (decide_eq_true (by omega)))
  have hbt := get_bt s
  have HN := Lib.hid hn
  have hq : decide ((s.size : Int) > 300) = false := decide_eq_false (by omega)
  clear hx hn
  go_enter Tryd.func23, Tryd.ntmps23
  go_wp2_with fail
  refine HL.out.mono ?_
  rintro e w2 ⟨rfl, rfl⟩
  clear HL
  go_wp2
  go_loopw [6, 7] (fun v i wr => ∃ (k : Nat) (l : List UInt8), k ≤ s.size ∧ l.length ≤ k ∧ i = .int .i64 (k : Int) ∧ Hid (Own w2 wr [eBuf v l] []) ∧ Hid (l ++ strip (s.data.toList.drop k) = strip s.data.toList)) (fun _ i _ => s.size - (intOf i).toNat)
  case atStart => exact ⟨0, [], by omega, by simp, rfl, (own_start w2).nil 5 1, rfl⟩
  case round =>
    obtain ⟨k, l, hk, hl, rfl, HO, HT⟩ := hrel
    by_cases hlt : k < s.size
    · obtain ⟨c, hc, hcb⟩ := bt_some hlt
      have HT2 : Hid (l ++ strip (c :: s.data.toList.drop (k + 1)) = strip s.data.toList) := by rw [Hid, ← drop_yes hc]; exact HT.out
      clear HPD HN HT hc
      by_cases h32 : c = 32
      · have q : (bt s k != 32) = false := by rw [hcb, h32]; rfl
        have HT3 : Hid (l ++ strip (s.data.toList.drop (k + 1)) = strip s.data.toList) := by
          have := HT2.out
          rw [h32] at this
          exact this
        clear HT2 hcb h32
        go_wp2
        go_roundw
        case rel => exact ⟨k + 1, l, by omega, by omega, by go_num, HO, HT3⟩
        case measure => simp [intOf]; omega
      · have q : (bt s k != 32) = true := by rw [hcb]; simp only [bne_iff_ne, ne_eq]; exact fun e => h32 (u8_inj (b := 32) e)
        have HT3 : Hid ((l ++ [c]) ++ strip (s.data.toList.drop (k + 1)) = strip s.data.toList) := by
          have := HT2.out
          rw [show strip (c :: s.data.toList.drop (k + 1)) = c :: strip (s.data.toList.drop (k + 1)) by simp [strip, h32]] at this
          rw [Hid, ← this]; simp
        have HCB := Lib.hid hcb
        clear HT2 hcb h32
        go_wp2_with (at_builtin; refine own_byteZ (c := c) rfl _ _ rfl rfl HO.out HCB.out rfl (by omega) ?_)
        intro g cap w8 ho
        have H8 := Lib.hid ho
        clear ho HO
        go_wp2
        go_roundw
        case rel => exact ⟨k + 1, l ++ [c], by omega, by simp; omega, by go_num, H8, HT3⟩
        case measure => simp [intOf]; omega
    · have hl2 : l = strip s.data.toList := by
        have := HT.out
        rw [show s.data.toList.drop k = [] from List.drop_eq_nil_of_le (by rw [data_len]; omega)] at this
        simpa [strip] using this
      obtain ⟨A, cap, rfl, hcv⟩ := buf_conv HO.out
      have HX := Lib.hid (HPD.out (str l) wr wr (.slice none 0 0) [] (by rw [str_data]; exact hl2) (by rw [str_size]; omega) ((own_start wr).nil 87 3) (by rw [← hl2]; simp; omega))
      have HB := Lib.hid HO.out.below
      have HC := Lib.hid hcv
      clear HPD HT hl2 HO
      generalize str l = T at *
      go_wp2_with fail
      refine HX.out.mono ?_
      rcases HN.out with ⟨rfl, rfl, rfl⟩ | ⟨t, rfl, hsm, hz⟩
      · rintro e w5 ⟨v5, rfl, h5⟩
        have HF := Lib.hid (HB.out.trans (h5.out.below.mono HB.out.size))
        clear HN HX HB h5
        go_wp2
        go_ret2
        exact ⟨⟨none, 0, rfl, by simp, by omega, NodesAt.nil _ _ _⟩, HF.out⟩
      · rintro e w5 ⟨v5, rfl, h5⟩
        have HF := Lib.hid (HB.out.trans (h5.out.below.mono HB.out.size))
        obtain ⟨A5, c5, rfl, k1, k2, k3⟩ := own_nodes h5.out List.mem_cons_self hsm
        have K3 := Lib.hid k3
        clear HN HX HB h5 hsm k3
        generalize flat t [] = F at *
        rcases hz with ⟨hz, rfl, rfl⟩ | ⟨hz, rfl, rfl⟩
        · go_wp2
          go_ret2
          exact ⟨⟨none, 0, rfl, by simp, by omega, NodesAt.nil _ _ _⟩, HF.out⟩
        · go_wp2
          go_ret2
          exact ⟨⟨A5, c5, rfl, k1, k2, K3⟩, HF.out⟩
set_option maxRecDepth 100000 in
theorem rparse_any (L : Int) (s : ByteArray) (w : World) (hs : s.size ≤ 140737488351232) {n : Nat} {f : List Nd} (hr : Rd L s.data.toList n f) :
    Calls Tryd.prog 23 #[.int .i64 L, .string s] w (ParseOut f n w) := by
  rcases hr with ⟨g, rfl, rfl⟩ | ⟨h1, h6, g, rfl, rfl⟩ | ⟨h1, h6, g, hno, rfl, rfl⟩ | ⟨h1, h6, g, t, ht, hz⟩
  · have HL := Lib.hid (in2_any L 1 6 w false (decide_eq_false (by omega)))
    clear g
    go_enter Tryd.func23, Tryd.ntmps23
    go_wp2_with fail
    refine HL.out.mono ?_
    rintro e w2 ⟨rfl, rfl⟩
    clear HL
    go_wp2
    go_ret2
    exact ⟨⟨none, 0, rfl, by simp, by omega, NodesAt.nil _ _ _⟩, Below.refl _ _⟩
  · have HL := Lib.hid (in2_any L 1 6 w true (decide_eq_true (by omega)))
    rw [data_len] at g
    go_enter Tryd.func23, Tryd.ntmps23
    go_wp2_with fail
    refine HL.out.mono ?_
    rintro e w2 ⟨rfl, rfl⟩
    clear HL
    go_wp2
    go_ret2
    exact ⟨⟨none, 0, rfl, by simp, by omega, NodesAt.nil _ _ _⟩, Below.refl _ _⟩
  · rw [data_len] at g
    exact rparse_ok L s w h1 h6 g (cuts_no (by omega) hno) (.inl ⟨rfl, rfl, rfl⟩)
  · rw [data_len] at g
    have hx := Rp_full (by omega) ht
    have hsz := Rp_size hx t rfl
    have hst := strip_length s.data.toList
    rw [data_len] at hst
    have hfl : (flat t []).length = t.size := by rw [flat_length]; simp
    refine rparse_ok L s w h1 h6 g hx (.inr ⟨t, rfl, flat_small h1 h6 ht (by omega), ?_⟩)
    rw [hfl]
    exact hz
end Go.Proofs.YtlhhhdgkdbplmaaDoor.Fm

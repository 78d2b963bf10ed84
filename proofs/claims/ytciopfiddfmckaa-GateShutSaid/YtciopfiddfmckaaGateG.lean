/- Gates to which letters are offered: stilewardlaw4.gated. -/
import Derived.Test.YtciopfiddfmckaaGateN
import Derived.Test.YtciopfiddfmckaaDfaV
namespace Go.Proofs.Ytciopfiddfmckaa.Ga
open Go.RowKit Go.IntWalk Go.Proofs.Ytciopfiddfmckaa.Wd Go.Proofs.Ytciopfiddfmckaa.Wo Go.Proofs.Ytciopfiddfmckaa.Df Go.Proofs.Ytciopfiddfmckaa.Rc Go.Proofs.Ytciopfiddfmckaa.Sm Go.Proofs.Ytciopfiddfmckaa.Sa

theorem offer_len (d : Aut) (g : Gt) (a : Int) : (offer d g a).2.2.out.length ≤ g.out.length + 1 := by
  rcases offer_ways d g a with ⟨_, e⟩ | ⟨_, _, e⟩ | ⟨_, _, _, e⟩ | ⟨_, _, _, _, e⟩ | ⟨_, _, _, _, e⟩ <;> rw [e] <;> simp
theorem offers_len (d : Aut) (l : List Int) (g : Gt) : (offers d g l).out.length ≤ g.out.length + l.length := by
  induction l generalizing g with
  | nil => simp [offers]
  | cons a l ih =>
    have h1 := ih (offer d g a).2.2
    have h2 := offer_len d g a
    have e : offers d g (a :: l) = offers d (offer d g a).2.2 l := rfl
    rw [e, List.length_cons]
    omega
theorem offer_err {d : Aut} {g : Gt} {a : Int} (h : g.out.length < 80) : (offer d g a).1 = if isL d a = true then 0 else 1 := by
  rcases offer_ways d g a with ⟨h1, e⟩ | ⟨h1, _, e⟩ | ⟨h1, _, h8, e⟩ | ⟨h1, _, _, _, e⟩ | ⟨h1, _, _, _, e⟩ <;> rw [e, h1]
  · rfl
  · rfl
  · omega
  · rfl
  · rfl
theorem lets_take (d : Aut) (l : List Int) {k : Nat} (hk : k < l.length) : lets d (l.take (k + 1)) = lets d (l.take k) ++ (if isL d l[k] then [l[k]] else []) := by rw [← lets_snoc, List.take_append_getElem]
section
variable {w0 w w' : World} {g : Nat} {d : Aut} {G : Gt} {nv fv pv : Value} {rs : List (Value × List Int)} {es fs : List Ent} {e e' : Ent}
theorem GateV.front (h : GateV w0 w g d G nv fv pv rs (e :: es) fs) : Own w0 w (e :: eGate g [.int .i64 d.L, .int .i64 d.s, nv, fv, pv, .bool G.shut] :: eInts pv G.out :: es) (eRows nv (rs.map (·.1)) :: eBools fv d.fin :: (eEach rs ++ fs)) := h.own.three
theorem GateV.swap (h : GateV w0 w g d G nv fv pv rs es fs) (h2 : Own w0 w' (e' :: eGate g [.int .i64 d.L, .int .i64 d.s, nv, fv, pv, .bool G.shut] :: eInts pv G.out :: es) (eRows nv (rs.map (·.1)) :: eBools fv d.fin :: (eEach rs ++ fs))) : GateV w0 w' g d G nv fv pv rs (e' :: es) fs :=
  ⟨h.next, h.small, h.sL, h.ss, h.nil0, h2.three'⟩
theorem GateV.tail (h : GateV w0 w g d G nv fv pv rs (e :: es) fs) : GateV w0 w g d G nv fv pv rs es fs := ⟨h.next, h.small, h.sL, h.ss, h.nil0, h.own.three.tail⟩
theorem GateW.tail (h : GateW w0 w g d G (e :: es) fs) : GateW w0 w g d G es fs := by
  obtain ⟨nv, fv, pv, rs, h⟩ := h
  exact ⟨nv, fv, pv, rs, h.tail⟩
theorem GateW.with_nil (h : GateW w0 w g d G es fs) : GateW w0 w g d G (eInts (.slice none 0 0) [] :: es) fs := by
  obtain ⟨nv, fv, pv, rs, h⟩ := h
  exact ⟨nv, fv, pv, rs, h.swap (h.own.nil 3 1)⟩
theorem GateW.ints {x : Value} {l : List Int} (h : GateW w0 w g d G es fs) (hm : eInts x l ∈ es) (hs : ∀ y ∈ l, Small y) : ∃ A cap, x = .slice A l.length cap ∧ l.length ≤ cap ∧ IntsAt w w.heap.size A l := by
  obtain ⟨nv, fv, pv, rs, h⟩ := h
  obtain ⟨A, cap, e, h1, _, h2⟩ := own_ints_at h.own (v := x) (l := l) (List.mem_append_left _ (List.mem_cons_of_mem _ (List.mem_cons_of_mem _ hm))) hs
  exact ⟨A, cap, e, h1, h2⟩
theorem GateW.join {es1 fs1 : List Ent} (h : GateW w0 w g d G es fs) (h1 : Own w w' es1 fs1) : GateW w0 w' g d G (es1 ++ es) (fs1 ++ fs) := by
  obtain ⟨nv, fv, pv, rs, h⟩ := h
  exact ⟨nv, fv, pv, rs, h.join h1⟩
end
set_option maxRecDepth 100000 in
set_option maxHeartbeats 2000000 in
theorem gated_ok (v : Value) (d : Aut) (A : Option Addr) (c : Nat) (z : List Int) (w : World) (h : DfaAt w w.heap.size v d) (hZ : IntsAt w w.heap.size A z) (hz : z.length ≤ 17592186044416) (hg : GGood d) :
    Calls Try.prog 16 #[v, .slice A z.length c] w fun e w' => Hid (∃ g v', e = .returned (.tuple #[.pointer (some ⟨g, 0, none⟩), v', .bool true]) ∧ GateW w w' g d (offers d (gate0 d) (z.take 80)) [eInts v' (lets d (z.take 80))] []) := by
  obtain ⟨L, s, B0, n0, c0, F0, m0, k0, rfl⟩ := h.form
  obtain ⟨w1, hw1, hB1, hV⟩ := var_new w h
  have HB := Lib.hid hB1
  have HW := Lib.hid hw1
  have HZ := Lib.hid (hZ.on hB1)
  have HN := Lib.hid (gnew_ok _ d w1 hV.at_ hg)
  obtain ⟨_, q1, q2, q3, q4⟩ := hV.box
  have HGG := Lib.hid hg
  clear h hw1 hB1 hV hZ hg
  obtain ⟨zl, hzl⟩ : ∃ zl, z.length = zl := ⟨_, rfl⟩
  rw [hzl] at hz ⊢
  have HL := Lib.hid hzl
  clear hzl
  go_enter Try.func16, Try.ntmps16
  go_wp2_with fail
  rw [← HW.out]
  clear HW
  refine HN.out.mono ?_
  rintro e w2 he
  obtain ⟨g, rfl, hG⟩ := he.out
  have HS : Hid (GateW w1 w2 g d (offers d (gate0 d) (z.take 0)) [eInts (.slice none 0 0) (lets d (z.take 0))] []) := hG.with_nil
  clear he hG HN q1 q2 q3 q4
  go_wp2
  go_loopw [9, 10] (fun x i wr => ∃ k : Nat, k ≤ zl ∧ k ≤ 80 ∧ i = .int .i64 k ∧ Hid (GateW w1 wr g d (offers d (gate0 d) (z.take k)) [eInts x (lets d (z.take k))] [])) (fun _ i _ => 80 - (intOf i).toNat)
  case atStart => exact ⟨0, by omega, by omega, rfl, HS⟩
  case round =>
    clear HS
    obtain ⟨k, hk, hk8, rfl, HS⟩ := hrel
    obtain ⟨Ax, cx, rfl, _, _⟩ := HS.out.ints (List.mem_cons_self) (letter_small HGG.out.good (lets_word d _))
    by_cases hlt : k < zl
    · by_cases h8 : k < 80
      · have hkz : k < z.length := by rw [HL.out]; exact hlt
        have hZ := HZ.out.on HS.out.below
        obtain ⟨ada, rfl, hab, hac, _⟩ := hZ.get (List.getElem?_eq_getElem hkz)
        have hsa : Small z[k] := hZ.2 _ (List.getElem_mem hkz)
        have hol := offers_len d (z.take k) (gate0 d)
        have hok := gok_offers (gok_start HGG.out) (z.take k)
        have hll : (lets d (z.take k)).length ≤ 80 := by have := lets_len d (z.take k); rw [List.length_take] at this; omega
        have h80 : (offers d (gate0 d) (z.take k)).out.length < 80 := by rw [List.length_take, show (gate0 d).out.length = 0 from rfl] at hol; omega
        have HF := Lib.hid (offer_any w1 wr g d _ _ _ z[k] HS.out HGG.out.good hok hsa)
        rw [offer_err h80, ← offers_take d (gate0 d) z hkz] at HF
        have HT : Hid (lets d (z.take (k + 1)) = lets d (z.take k) ++ (if isL d z[k] then [z[k]] else [])) := lets_take d z hkz
        have e1 : (k : Int) < (zl : Int) := by omega
        have e2 : (k : Int) < 80 := by omega
        have HK := Lib.hid (List.getElem?_eq_getElem hkz)
        clear hol hok h80 HS hZ hab
        generalize (offer d (offers d (gate0 d) (z.take k)) z[k]).2.1 = b at *
        generalize z[k] = a at *
        clear hkz
        generalize hin : lets d (z.take k) = l at *
        clear hin
        rcases hl : isL d a with _ | _
        · rw [hl] at HF HT
          go_wp2_with fail
          refine HF.out.mono ?_
          rintro e w3 ⟨he, hG⟩
          obtain rfl : e = .returned (.tuple #[.bool b, errI 1]) := he.out
          have HG : Hid (GateW w1 w3 g d (offers d (gate0 d) (z.take (k + 1))) [eInts (.slice Ax l.length cx) (lets d (z.take (k + 1)))] []) := by
            have h := hG.out
            unfold Hid
            rw [HT.out]
            simpa using h
          clear he hG HF hac hl
          go_wp2
          go_roundw
          case rel => exact ⟨k + 1, by omega, by omega, by go_num, HG⟩
          case measure => simp [intOf]; omega
        · rw [hl] at HF HT
          go_wp2_with fail
          refine HF.out.mono ?_
          rintro e w3 ⟨he, hG⟩
          obtain rfl : e = .returned (.tuple #[.bool b, .nilIface]) := he.out
          obtain ⟨nv, fv, pv, rs, hV⟩ := hG.out
          have HV := Lib.hid hV
          have HO := Lib.hid hV.front
          obtain ⟨ada', e5, _, hac2, _⟩ := (HZ.out.on hV.own.below).get (k := k) (y := a) HK.out
          obtain rfl := Option.some.inj e5
          clear he hG HF hac hl hV e5
          go_wp2_with (at_builtin; refine own_int rfl _ _ rfl rfl HO.out rfl (by omega) ?_)
          intro g2 cap w4 ho
          have HG : Hid (GateW w1 w4 g d (offers d (gate0 d) (z.take (k + 1))) [eInts (.slice (some ⟨g2, 0, none⟩) (l.length + 1) cap) (lets d (z.take (k + 1)))] []) := by
            unfold Hid
            rw [HT.out, if_pos trivial]
            exact ⟨_, _, _, _, HV.out.tail.swap (by rw [List.append_nil]; exact ho)⟩
          clear HO ho HV hac2
          go_wp2
          go_roundw
          case rel => exact ⟨k + 1, by omega, by omega, by go_num, HG⟩
          case measure => simp [intOf]; omega
      · obtain rfl : k = 80 := by omega
        have e1 : ((80 : Nat) : Int) < (zl : Int) := by omega
        have HE : Hid (GateW w wr g d (offers d (gate0 d) (z.take 80)) [eInts (.slice Ax (lets d (z.take 80)).length cx) (lets d (z.take 80))] []) := HS.out.base HB.out
        clear HS
        generalize (lets d (z.take 80)).length = ln at *
        go_wp2
        go_ret3
        exact ⟨_, _, rfl, HE.out⟩
    · obtain rfl : k = zl := by omega
      have HE : Hid (GateW w wr g d (offers d (gate0 d) (z.take 80)) [eInts (.slice Ax (lets d (z.take k)).length cx) (lets d (z.take 80))] []) := by
        have h := HS.out.base HB.out
        have e : z.take 80 = z.take k := by rw [List.take_of_length_le (by rw [HL.out]; omega), List.take_of_length_le (by rw [HL.out]; omega)]
        rw [e]; exact h
      clear HS
      generalize (lets d (z.take k)).length = ln at *
      go_wp2
      go_ret3
      exact ⟨_, _, rfl, HE.out⟩
set_option maxRecDepth 100000 in
set_option maxHeartbeats 2000000 in
theorem gated_bad (v : Value) (d : Aut) (A : Option Addr) (n c : Nat) (w : World) (h : DfaAt w w.heap.size v d) (hg : gchk d ≠ 0) :
    Calls Try.prog 16 #[v, .slice A n c] w fun e w' => e = .returned (.tuple #[.pointer none, .slice none 0 0, .bool false]) ∧ Below w.heap.size w w' := by
  obtain ⟨L, s, B0, n0, c0, F0, m0, k0, rfl⟩ := h.form
  obtain ⟨w1, hw1, hB1, hV⟩ := var_new w h
  have HB := Lib.hid hB1
  have HW := Lib.hid hw1
  have HN := Lib.hid (gnew_bad _ d w1 hV.at_ hg)
  obtain ⟨_, q1, q2, q3, q4⟩ := hV.box
  obtain ⟨x, hx⟩ : ∃ x, gchk d = x + 1 := ⟨gchk d - 1, by omega⟩
  rw [hx, errV_succ] at HN
  generalize ((x + 1 : Nat) : Int) = E at *
  clear h hw1 hB1 hV hg hx
  go_enter Try.func16, Try.ntmps16
  go_wp2_with fail
  rw [← HW.out]
  clear HW
  refine HN.out.mono ?_
  rintro e w2 ⟨he, hb⟩
  obtain rfl := he.out
  have HB := Lib.hid (HB.out.trans (hb.mono HB.out.size))
  clear he hb HN q1 q2 q3 q4
  go_wp2
  go_ret3
  exact ⟨rfl, HB.out⟩
end Go.Proofs.Ytciopfiddfmckaa.Ga

/-
  The statement MeanGrowsSaid of this seat, proved: for every input the law returns true and its arguments read behind the call as before. Conditions: none but the row's own (each argument within the reach).
-/
import Derived.Test.YtaelgnmklepebaaRows
import Derived.Test.YtaelgnmklepebaaWords
import Derived.WalkKit
import Derived.ProofKit
import Derived.OpenShut
import Derived.ShutString
import Derived.ChangeOld
import Derived.Below
import Derived.SizedLaws
import Derived.Lib.Hide
import Derived.Test.YtaelgnmklepebaaMeanL
namespace Go.Proofs.Ytaelgnmklepebaa.meanGrows
open Go.ChangeShapes Go.WideShapes Go.ChangeAt Go.RowKit Go.IntWalk Go.Proofs.Ytaelgnmklepebaa.Wd
open Go.ChangeMaps (open_string shut_string)
set_option linter.unusedVariables false

theorem own : ownKnob Try.prog.godebug = none := by kernel_rfl
theorem laidOut : laidOutB Try.prog = true := by kernel_rfl
open Go.Proofs.Ytaelgnmklepebaa.Wo Go.Proofs.Ytaelgnmklepebaa.Fm
theorem or_two (a b : Nat) (ha : a < 9223372036854775808) (hb : b < 9223372036854775808) : bits .or .i64 (a : Int) (b : Int) = ((a ||| b : Nat) : Int) := by
  have hx : a ||| b < 2 ^ 63 := Nat.or_lt_two_pow (by omega) (by omega)
  have h1 : (BitVec.ofInt 64 (a : Int)).toNat = a := by
    rw [BitVec.ofInt_natCast, BitVec.toNat_ofNat]; exact Nat.mod_eq_of_lt (by omega)
  have h2 : (BitVec.ofInt 64 (b : Int)).toNat = b := by
    rw [BitVec.ofInt_natCast, BitVec.toNat_ofNat]; exact Nat.mod_eq_of_lt (by omega)
  show IntKind.i64.wrap ((BitVec.ofInt 64 (a : Int) ||| BitVec.ofInt 64 (b : Int)).toNat : Int) = _
  rw [BitVec.toNat_or, h1, h2, IntKind.wrap_i64]
  omega
/-- A node of a set, the set grown. -/
theorem set_good {L : Int} {f : List Nd} (g : FGood L f) {i y s : Nat} (hi : f[i]? = some (2, (y : Int), 0)) (hs : (s : Int) < 2 ^ L.toNat) : FGood L (f.set i (2, ((y ||| s : Nat) : Int), 0)) := by
  have hy := (g.nd i _ hi).set rfl
  simp only at hy
  have e : (2 : Int) ^ L.toNat = ((2 ^ L.toNat : Nat) : Int) := by rw [Int.natCast_pow]; rfl
  rw [e] at hs hy
  have hor : y ||| s < 2 ^ L.toNat := Nat.or_lt_two_pow (by omega) (by omega)
  refine ⟨g.l1, g.l6, by rw [List.length_set]; exact g.ne, by rw [List.length_set]; exact g.le, fun j n hj => ?_⟩
  by_cases hij : i = j
  · subst hij
    have hil := (List.getElem?_eq_some_iff.1 hi).1
    rw [List.getElem?_set_self hil] at hj
    obtain rfl := Option.some.inj hj
    refine ⟨show (0 : Int) ≤ 2 by decide, show (2 : Int) ≤ 9 by decide, fun _ => ⟨show (0 : Int) ≤ ((y ||| s : Nat) : Int) by omega, show ((y ||| s : Nat) : Int) < 2 ^ L.toNat by rw [e]; omega⟩, fun h => absurd rfl h, fun h => absurd (show 1 ≤ ops 2 from h) (by decide), fun _ => rfl, fun h => absurd (show ops 2 = 2 from h) (by decide)⟩
  · rw [List.getElem?_set_ne hij] at hj
    exact g.nd j n hj
theorem grows_vec {L : Int} {f : List Nd} (g : FGood L f) (h3 : ∀ (j : Nat) (n : Nd), f[j]? = some n → n.1 ≠ 3) {i y s : Nat} (hi : f[i]? = some (2, (y : Int), 0)) (hs : (s : Int) < 2 ^ L.toNat) (z : List Int) {j : Nat} (hj : j < f.length) :
    ∃ a b, (vec f z)[j]? = some a ∧ (vec (f.set i (2, ((y ||| s : Nat) : Int), 0)) z)[j]? = some b ∧ (a && !b) = false := by
  have g2 := set_good g hi hs
  refine ⟨_, _, vec_at f z hj, vec_at _ z (by rw [List.length_set]; exact hj), ?_⟩
  have hg := grows_tre g.nd g2.nd (by rw [List.length_set]) (fun k n m hn hm => ?_) j hj
  · have := grows_val z hg 0
    unfold vat
    rcases h1 : val1 z (tre f j) 0 with _ | _
    · rfl
    · rw [this h1]; rfl
  · refine ⟨h3 k n hn, ?_⟩
    by_cases hik : i = k
    · subst hik
      have hil := (List.getElem?_eq_some_iff.1 hi).1
      rw [List.getElem?_set_self hil] at hm
      obtain rfl := Option.some.inj hm
      obtain rfl := Option.some.inj (hi.symm.trans hn)
      refine .inr ⟨rfl, rfl, fun t ht => ?_⟩
      simp only [Int.toNat_natCast] at ht ⊢
      rw [Nat.testBit_or, ht, Bool.true_or]
    · rw [List.getElem?_set_ne hik] at hm
      obtain rfl := Option.some.inj (hn.symm.trans hm)
      by_cases h2 : n.1 = 2
      · exact .inr ⟨h2, h2, fun _ h => h⟩
      · exact .inl ⟨h2, rfl⟩

set_option maxRecDepth 100000 in
set_option maxHeartbeats 4000000 in
theorem walk (a0 : Int) (A1 : Option Addr) (c1 : Nat) (z1 : List Fm.Nd) (a2 : Int) (a3 : Int) (A4 : Option Addr) (c4 : Nat) (z4 : List Int) (w : World) (l0 : -9223372036854775808 ≤ a0) (h0 : a0 ≤ 9223372036854775807) (v1 : Fm.NodesAt w w.heap.size A1 z1) (m1 : z1.length ≤ c1) (n1 : c1 ≤ 9223372036854775807) (r1 : z1.length ≤ 5864062014634) (l2 : -9223372036854775808 ≤ a2) (h2 : a2 ≤ 9223372036854775807) (l3 : -9223372036854775808 ≤ a3) (h3 : a3 ≤ 9223372036854775807) (v4 : IntsAt w w.heap.size A4 z4) (r4 : z4.length ≤ 17592186043904) (m4 : z4.length ≤ c4) :
    Calls Try.prog 5 #[.int .i64 a0, .slice A1 z1.length c1, .int .i64 a2, .int .i64 a3, .slice A4 z4.length c4] w fun e w' => e = .returned (.bool true) ∧ Below w.heap.size w w' := by
  have hL : Small a0 := ⟨l0, h0⟩
  have HK := Lib.hid known_any
  have HN1 := Lib.hid v1
  have HZ4 := Lib.hid v4
  obtain ⟨n, hn⟩ : ∃ n, z1.length = n := ⟨_, rfl⟩
  obtain ⟨M, hM⟩ : ∃ M, z4.length = M := ⟨_, rfl⟩
  have HNh := Lib.hid hn
  by_cases hv : verr a0 z1 z4 = 0
  · obtain ⟨g, hw⟩ := verr_iff.1 hv
    have HF := Lib.hid (values_yes hL hn hM hv)
    have HVl := Lib.hid ((vec_length z1 z4).trans hn)
    have hn0 : 0 < n := by have := g.ne; omega
    have hn40 : n ≤ 40 := by have := g.le; omega
    have HG := Lib.hid g
    have HW := Lib.hid hw
    have hg1 := g.l1
    have hg6 := g.l6
    obtain ⟨P, hP1, hP2, hP3, hP4⟩ := shl_lim g.l1 g.l6
    have HP := Lib.hid hP2
    have HHL := Lib.hid hL
    have HMh := Lib.hid hM
    have hL0 : 0 ≤ a0 := by omega
    have hL64 : a0 ≤ 64 := by omega
    rw [hn, hM]
    clear hn hM hv g hw hP2 hL
    go_enter Try.func5, Try.ntmps5
    go_wp2_with fail
    refine (HK.out _).mono ?_
    rintro e w2 ⟨rfl, hb⟩
    have B2 := Lib.hid hb
    replace HN1 := Lib.hid (HN1.out.on hb)
    replace HZ4 := Lib.hid (HZ4.out.on hb)
    clear hb HK
    go_wp2_with fail
    refine (HF.out _ _ _ _ _ HN1.out HZ4.out).mono ?_
    rintro e w3 he
    obtain ⟨gx, rfl, hox⟩ := he.out
    have hb := hox.below
    have HX := Lib.hid hox
    have B3 := Lib.hid (B2.out.trans (hb.mono B2.out.size))
    replace HN1 := Lib.hid (HN1.out.on hb)
    replace HZ4 := Lib.hid (HZ4.out.on hb)
    clear hb he hox HF
    by_cases c : a2 < 0
    · have cc := c
      go_wp2
      go_ret
      exact ⟨rfl, B3.out⟩
    by_cases c : (n : Int) ≤ a2
    · have cc := c
      go_wp2
      go_ret
      exact ⟨rfl, B3.out⟩
    obtain ⟨i, rfl, hi⟩ := nat_of (x := a2) (n := n) ⟨by omega, by omega⟩
    clear c
    obtain ⟨nd, hnd⟩ : ∃ m, z1[i]? = some m := ⟨_, List.getElem?_eq_getElem (by rw [HNh.out]; exact hi)⟩
    obtain ⟨ad, e, hadb, cA, cB, cC⟩ := HN1.out.at_ hnd
    subst e
    have hgd := HG.out.nd i nd hnd
    have hst := hgd.set
    have hb0 := hgd.b0
    have HND := Lib.hid hnd
    obtain ⟨kk, yy, bb⟩ := nd
    simp only at cA cB cC hst hb0
    have e1 : (i : Int) < (n : Int) := by omega
    clear hgd hnd
    by_cases c : kk ≠ 2
    · have cc : (kk != 2) = true := bne_iff_ne.2 c
      clear c
      go_wp2
      go_ret
      exact ⟨rfl, B3.out⟩
    obtain rfl : kk = 2 := by omega
    obtain rfl : bb = 0 := hb0 (by decide)
    obtain ⟨hy0, hy1⟩ := hst rfl
    clear hst hb0 c
    by_cases c : a3 < 0
    · have cc := c
      go_wp2
      go_ret
      exact ⟨rfl, B3.out⟩
    have c3 : 0 ≤ a3 := by omega
    clear c
    by_cases c : P ≤ a3
    · have cc := c
      go_wp2
      go_ret
      exact ⟨rfl, B3.out⟩
    have c4 : a3 < P := by omega
    clear c
    obtain ⟨y, rfl⟩ := Int.eq_ofNat_of_zero_le hy0
    obtain ⟨s, rfl⟩ := Int.eq_ofNat_of_zero_le c3
    have hsP : (s : Int) < 2 ^ a0.toNat := by rw [HP.out]; exact c4
    have hyP : (y : Int) < P := by rw [← HP.out]; exact hy1
    have hor := or_two y s (by omega) (by omega)
    have HSP := Lib.hid hsP
    clear hsP hy1
    go_wp2_with fail
    go_loopw [14] (fun q wr => ∃ (k : Nat), k ≤ n ∧ q = .int .i64 k ∧ wr = w3 ∧ Hid (∀ j, j < k → ∀ m : Nd, z1[j]? = some m → m.1 ≠ 3)) (fun q _ => n - (intOf q).toNat)
    case atStart => exact ⟨0, by omega, rfl, rfl, fun j hj => absurd hj (by omega)⟩
    case round =>
      obtain ⟨k, hk, rfl, rfl, HE⟩ := hrel
      by_cases hlt : k < n
      · obtain ⟨nk, hnk⟩ : ∃ m, z1[k]? = some m := ⟨_, List.getElem?_eq_getElem (by rw [HNh.out]; exact hlt)⟩
        obtain ⟨ad2, e, _, d0, d1, d2⟩ := HN1.out.at_ hnk
        obtain rfl := Option.some.inj e
        have e2 : (k : Int) < (n : Int) := by omega
        have HNK := Lib.hid hnk
        clear d1 d2 e hnk
        obtain ⟨k3, y3, b3⟩ := nk
        simp only at d0
        by_cases h3 : k3 = 3
        · subst h3
          go_wp2
          go_ret
          exact ⟨rfl, B3.out⟩
        · have q3 : (k3 == 3) = false := beq_eq_false_iff_ne.2 h3
          have HE2 : Hid (∀ j, j < k + 1 → ∀ m : Nd, z1[j]? = some m → m.1 ≠ 3) := fun j hj m hm => by
            by_cases hjk : j < k
            · exact HE.out j hjk m hm
            · obtain rfl : j = k := by omega
              obtain rfl := Option.some.inj (HNK.out.symm.trans hm)
              exact h3
          clear h3
          go_wp2
          go_roundw
          case rel => exact ⟨k + 1, by omega, by go_num, by simp, HE2⟩
          case measure => simp [intOf]; omega
      · obtain rfl : k = n := by omega
        have H3 : Hid (∀ (j : Nat) (m : Nd), z1[j]? = some m → m.1 ≠ 3) := fun j m hm => HE.out j (by have := (List.getElem?_eq_some_iff.1 hm).1; rw [HNh.out] at this; exact this) m hm
        have HMo := Lib.hid (more_none (some ad) c1 z1 _ HN1.out (by rw [HNh.out]; exact hn0) (by rw [HNh.out]; omega))
        rw [HNh.out] at HMo
        clear HE cA cB cC hlt hk
        go_wp2_with fail
        refine HMo.out.mono ?_
        rintro e w4 he
        obtain ⟨gm, cm, rfl, hom⟩ := he.out
        have hb := hom.below
        obtain ⟨hos, t0, t1⟩ := own_nodes_set hom HNh.out HND.out ((y ||| s : Nat) : Int)
        have hb2 := hos.below
        have HOS := Lib.hid hos
        have B4 := Lib.hid (B3.out.trans (hb2.mono B3.out.size))
        replace HN1 := Lib.hid (HN1.out.on hb2)
        replace HZ4 := Lib.hid (HZ4.out.on hb2)
        have HXn := Lib.hid (HX.out.on hb2)
        clear HMo he hom hb hb2 hos HX
        obtain ⟨A7, c7, e7, _, _, N7⟩ := more_at HOS.out (nds_small (set_good HG.out HND.out HSP.out))
        have HN7 := Lib.hid N7
        have l7 : (z1.set i (2, ((y ||| s : Nat) : Int), 0)).length = k := by rw [List.length_set, HNh.out]
        rw [l7] at e7
        have hv2 : verr a0 (z1.set i (2, ((y ||| s : Nat) : Int), 0)) z4 = 0 := verr_iff.2 ⟨set_good HG.out HND.out HSP.out, HW.out⟩
        have HF2 := Lib.hid (values_yes HHL.out l7 HMh.out hv2)
        have HVl2 := Lib.hid ((vec_length _ z4).trans l7)
        have HGr := Lib.hid (fun (j : Nat) => grows_vec HG.out H3.out HND.out HSP.out z4 (j := j))
        have HE7 := Lib.hid e7
        generalize y ||| s = ys at *
        generalize z1.set i (2, (ys : Int), 0) = Z7 at *
        clear N7 l7 hv2 e7 HOS
        go_wp2_with fail
        rw [HE7.out]
        clear t0 t1
        refine (HF2.out _ _ _ _ _ HN7.out HZ4.out).mono ?_
        rintro e w5 he
        obtain ⟨gy, rfl, hoy⟩ := he.out
        have hb := hoy.below
        have HY := Lib.hid hoy
        have HX := Lib.hid (HXn.out.on hb)
        have B5 := Lib.hid (B4.out.trans (hb.mono B4.out.size))
        replace HN1 := Lib.hid (HN1.out.on hb)
        replace HZ4 := Lib.hid (HZ4.out.on hb)
        replace HN7 := Lib.hid (HN7.out.on hb)
        clear hb he hoy HF2 HXn
        have nn : ((k : Int) != (k : Int)) = false := bne_self_eq_false _
        go_wp2_with fail
        go_loopw [18] (fun q wr => ∃ (j : Nat), j ≤ k ∧ q = .int .i64 j ∧ wr = w5) (fun q _ => k - (intOf q).toNat)
        case atStart => exact ⟨0, by omega, rfl, rfl⟩
        case round =>
          obtain ⟨j, hj, rfl, rfl⟩ := hrel
          by_cases hlt : j < k
          · obtain ⟨xa, xb, hxa, hxb, hab⟩ := HGr.out j (by rw [HNh.out]; exact hlt)
            have x0 := row_cell HX.out HVl.out hxa
            have y0 := row_cell HY.out HVl2.out hxb
            have e2 : (j : Int) < (k : Int) := by omega
            clear hxa hxb
            rcases xa with _ | _
            · go_wp2
              go_roundw
              case rel => exact ⟨j + 1, by omega, by go_num, by simp⟩
              case measure => simp [intOf]; omega
            · obtain rfl : xb = true := by cases xb <;> simp at hab ⊢
              go_wp2
              go_roundw
              case rel => exact ⟨j + 1, by omega, by go_num, by simp⟩
              case measure => simp [intOf]; omega
          · obtain rfl : j = k := by omega
            go_wp2
            go_ret
            exact ⟨rfl, B5.out⟩
  · obtain ⟨q, hq⟩ : ∃ q : Int, q = (verr a0 z1 z4 : Int) := ⟨_, rfl⟩
    have HF := Lib.hid (values_no hL (by omega) (by omega) hn hM hv)
    rw [errV_pos hv, ← hq] at HF
    rw [hn, hM]
    clear hv hn hM hq hL
    go_enter Try.func5, Try.ntmps5
    go_wp2_with fail
    refine (HK.out _).mono ?_
    rintro e w2 ⟨rfl, hb⟩
    have B2 := Lib.hid hb
    replace HN1 := Lib.hid (HN1.out.on hb)
    replace HZ4 := Lib.hid (HZ4.out.on hb)
    clear hb HK
    go_wp2_with fail
    refine (HF.out _ _ _ _ _ HN1.out HZ4.out).mono ?_
    rintro e w3 ⟨rfl, hb⟩
    have B3 := Lib.hid (B2.out.trans (hb.mono B2.out.size))
    replace HN1 := Lib.hid (HN1.out.on hb)
    replace HZ4 := Lib.hid (HZ4.out.on hb)
    clear hb HF
    go_wp2
    go_ret
    exact ⟨rfl, B3.out⟩


set_option maxRecDepth 100000 in
theorem lifted (os : Os) (started : os.Started) (H : Type) (enc : TypeId × Value → H) :
    ReturnsInHanded {} Try.checked os 5 .any (Rows.meanGrowsSpec.pre6 enc Try.prog Try.f5 Rows.meanGrowsRow.domain false) (Rows.meanGrowsSpec.post enc Try.prog Try.f5 false true false false) := by
  refine returnsInHanded_of_change_sized (C := Try.checked) own started (by kernel_rfl) Try.func5
    (ChangeSpec.witness6 (enc := enc) (C := Try.checked) false ⟨#[], #[.int .i64 0, .slice none 0 0, .int .i64 0, .int .i64 0, .slice none 0 0], []⟩ 8 (by kernel_rfl) (by kernel_rfl) (by kernel_rfl) (by kernel_rfl)) ?_
  intro W base args ds gs before hval0 hW hcnd hsz0 _
  have hval : ∀ (j : Nat) t v, Try.f5.params[j]? = some t → args[j]? = some v → Value.okWide Try.prog W .any base t v := hval0
  have hsz : (DataW.weightsEach Try.prog (Try.f5.params.toList ++ Rows.meanGrowsSpec.plain.varTypes Try.prog) (ds ++ gs)).all (· ≤ reachBytes) = true := hsz0
  have hW' := hW
  obtain ⟨p, q, hA0, hV0, rfl, hfz, hnd⟩ := hW
  have hV : DataW.TrodVars enc Try.prog W (fun _ => true) [] gs q := hV0
  have hA : DataW.TrodAll enc Try.prog W 0 (fun _ => true) true Try.f5.params.toList args.toList ds p := hA0
  rw [Try.params5] at hA hval hsz
  obtain ⟨v0, vs0, d0, ds0, p0, q0, hargs, rfl, rfl, h0, rr0⟩ := trodAll_cons hA
  obtain ⟨v1, vs1, d1, ds1, p1, q1, rfl, rfl, rfl, h1, rr1⟩ := trodAll_cons rr0
  obtain ⟨v2, vs2, d2, ds2, p2, q2, rfl, rfl, rfl, h2, rr2⟩ := trodAll_cons rr1
  obtain ⟨v3, vs3, d3, ds3, p3, q3, rfl, rfl, rfl, h3, rr3⟩ := trodAll_cons rr2
  obtain ⟨v4, vs4, d4, ds4, p4, q4, rfl, rfl, rfl, h4, rr4⟩ := trodAll_cons rr3
  obtain ⟨rfl, rfl, rfl⟩ := trodAll_nil rr4
  obtain rfl : args = #[v0, v1, v2, v3, v4] := by cases args; simp_all
  obtain ⟨rfl, rfl⟩ := trodVars_none hV
  have k0 := h0
  have lt0 : ∀ x ∈ p0, x.block < W.heap.size := by obtain ⟨m, hm⟩ := k0; exact DataW.trod_lt m _ _ _ hm
  have k1 := h1
  have lt1 : ∀ x ∈ p1, x.block < W.heap.size := by obtain ⟨m, hm⟩ := k1; exact DataW.trod_lt m _ _ _ hm
  have k2 := h2
  have lt2 : ∀ x ∈ p2, x.block < W.heap.size := by obtain ⟨m, hm⟩ := k2; exact DataW.trod_lt m _ _ _ hm
  have k3 := h3
  have lt3 : ∀ x ∈ p3, x.block < W.heap.size := by obtain ⟨m, hm⟩ := k3; exact DataW.trod_lt m _ _ _ hm
  have k4 := h4
  have lt4 : ∀ x ∈ p4, x.block < W.heap.size := by obtain ⟨m, hm⟩ := k4; exact DataW.trod_lt m _ _ _ hm
  obtain ⟨a0, rfl, rfl, rfl, w0⟩ := open_int Try.underlying3 (hval 0 3 v0 rfl rfl) h0
  obtain ⟨l0, hh0⟩ := bounds_i64 w0
  obtain ⟨A1, c1, z1, rfl, m1, n1, x1, r1⟩ : ∃ (A : Option Addr) (c : Nat) (l : List Fm.Nd), v1 = .slice A l.length c ∧ l.length ≤ c ∧ c ≤ 9223372036854775807 ∧ Fm.NodesAt W W.heap.size A l ∧ l.length ≤ 5864062014634 := by
    obtain ⟨A, len, c, rfl⟩ := okWide_slice Try.underlying22 (hval 1 22 v1 rfl rfl)
    obtain ⟨fuel, hf⟩ := h1
    obtain ⟨A2, c2, l, hcs, q1, q2, q3, q4⟩ := Fm.open_nodes hf
    simp [Value.cells] at hcs
    obtain ⟨rfl, rfl, rfl⟩ := hcs
    refine ⟨_, _, l, rfl, q1, q2, q3, ?_⟩
    rcases q4 with q4 | ⟨es, sp, hd, hl⟩
    · omega
    · have := sized_slice hsz (j := 1) (t := 22) (e := 31) (elems := es) (spare := sp) rfl (by rw [← hd]; rfl) Try.underlying22
      rw [(show Try.prog.bytesOf 31 = 24 by kernel_rfl)] at this
      simp only [reachBytes] at this
      omega
  obtain ⟨a2, rfl, rfl, rfl, w2⟩ := open_int Try.underlying3 (hval 2 3 v2 rfl rfl) h2
  obtain ⟨l2, hh2⟩ := bounds_i64 w2
  obtain ⟨a3, rfl, rfl, rfl, w3⟩ := open_int Try.underlying3 (hval 3 3 v3 rfl rfl) h3
  obtain ⟨l3, hh3⟩ := bounds_i64 w3
  obtain ⟨A4, len4, c4, rfl⟩ := okWide_slice Try.underlying23 (hval 4 23 v4 rfl rfl)
  obtain ⟨z4, rfl, x4, r4, m4⟩ : ∃ zs : List Int, len4 = zs.length ∧ IntsAt W W.heap.size A4 zs ∧ zs.length ≤ 17592186043904 ∧ zs.length ≤ c4 := by
    obtain ⟨fuel, hf⟩ := h4
    rcases open_ints Try.underlying23 Try.underlying3 (by kernel_rfl) hf with ⟨hcs, _⟩ | ⟨x, l, c, zs, hcs, _, hl, hm, hz, hx, hcell, hwz⟩
    · simp [Value.cells] at hcs
      obtain ⟨rfl, rfl, rfl⟩ := hcs
      exact ⟨[], rfl, IntsAt.nil _ _ _, by simp, by simp⟩
    · simp [Value.cells] at hcs
      obtain ⟨rfl, rfl, rfl⟩ := hcs
      have hd := congrArg Prod.fst hx
      simp only at hd
      have := sized_slice hsz (j := 4) (t := 23) (e := 3) rfl (by rw [hd]; rfl) Try.underlying23
      rw [(show Try.prog.bytesOf 3 = 8 by kernel_rfl)] at this
      simp only [reachBytes, lits, List.length_map, List.length_take, List.length_drop] at this
      have hz' : zs.length = c4 := by simpa using hz
      exact ⟨zs.take len4, by rw [List.length_take]; omega, intsAt_of_open hcell hwz len4, by rw [List.length_take]; omega, by rw [List.length_take]; omega⟩
  clear hA0 hval0
  refine (walk a0 A1 c1 z1 a2 a3 A4 c4 z4 W l0 hh0 x1 m1 n1 r1 l2 hh2 l3 hh3 x4 r4 m4).mono fun e W' ⟨he, bel⟩ => ?_
  subst he
  exact ⟨_, rfl, _, _, _, [], _, [], hW', trodAll_mk1 (shut_bool Try.underlying4 _), (trodAll_cons_mk (Below.trod laidOut (by kernel_rfl) (of_decide_eq_true (by kernel_rfl)) k0 bel lt0) (trodAll_cons_mk (Below.trod laidOut (by kernel_rfl) (of_decide_eq_true (by kernel_rfl)) k1 bel lt1) (trodAll_cons_mk (Below.trod laidOut (by kernel_rfl) (of_decide_eq_true (by kernel_rfl)) k2 bel lt2) (trodAll_cons_mk (Below.trod laidOut (by kernel_rfl) (of_decide_eq_true (by kernel_rfl)) k3 bel lt3) (trodAll_cons_mk (Below.trod laidOut (by kernel_rfl) (of_decide_eq_true (by kernel_rfl)) k4 bel lt4) trodAll_mk0))))), rfl, bel.frame _, fun h => by cases h⟩

theorem over : Rows.meanGrowsRow.holds Try.pinned (OpenSpec.ofChange Rows.meanGrowsSpec) :=
  OpenClaim.holds_of_wide 5 Try.f5 rfl rfl rfl rfl rfl rfl rfl ⟨rfl, rfl, rfl, rfl, rfl⟩ rfl rfl rfl rfl rfl (by kernel_rfl) Try.func5 (by kernel_rfl)
    (of_decide_eq_true (by kernel_rfl)) (by unfold Func.isWrapper; rw [if_neg (of_decide_eq_false (by kernel_rfl))]; exact ⟨rfl, rfl⟩)
    (fun os started H enc _ => lifted os started H enc)
theorem proved : Rows.MeanGrowsSaid := over
#print axioms proved
end Go.Proofs.Ytaelgnmklepebaa.meanGrows

/- The walks of package form: whole, Read. -/
import Derived.Test.YtloihkoamccacaaGreatDoorParseC
import Derived.Test.YtloihkoamccacaaGreatDoorReplace
import Derived.Test.YtloihkoamccacaaGreatDoorAttempt
namespace Go.Proofs.YtloihkoamccacaaGreatDoor.Fm
open Go.RowKit Go.IntWalk Go.PlainAid Go.Proofs.YtloihkoamccacaaGreatDoor.Wd Go.Proofs.YtloihkoamccacaaGreatDoor.Wo

set_option maxRecDepth 100000 in
theorem whole_yes {w0 w : World} {g : Nat} {T : ByteArray} {L : Int} {fs : List Ent} {t : Tree} (h : Pr w0 g T L fs w 0 []) (hT : T.size ≤ 300) (h1 : 1 ≤ L) (h6 : L ≤ 6) (hp : Ps L.toNat .ei T.data.toList (some (t, []))) :
    Calls Tryz.prog 28 #[.pointer (some ⟨g, 0, none⟩)] w fun e w' => e = .returned (.tuple #[]) ∧ Hid (Pr w0 g T L fs w' T.size (flat t [])) := by
  have HX := Lib.hid ((all_do hT h1 h6 _ T.data.toList (Nat.le_refl _)).2.2.2 w0 w g fs 0 [] _ h (by omega) rfl (by simp; omega) hp)
  clear h hp
  go_enter Tryz.func28, Tryz.ntmps28
  go_wp2_with fail
  refine HX.out.mono ?_
  rintro e w2 ⟨k2, hk2, hd2, rfl, h2⟩
  obtain rfl := drop_end hk2 hd2
  have HN : Hid (Pr w0 g T L fs w2.drew T.size (flat t [])) := h2.out.on (below_drewN (Below.refl _ _) 1)
  obtain ⟨c0, c1, _, _⟩ := h2.out.cells
  have hq : decide ((T.size : Int) < (T.size : Int)) = false := decide_eq_false (by omega)
  clear HX h2 hd2
  go_wp2_with fail
  go_region
  go_wp2
  go_end0
  exact ⟨rfl, HN⟩
set_option maxRecDepth 100000 in
theorem whole_no {w0 w : World} {g : Nat} {T : ByteArray} {L : Int} {fs : List Ent} {x : Option (Tree × List UInt8)} (h : Pr w0 g T L fs w 0 []) (hT : T.size ≤ 300) (h1 : 1 ≤ L) (h6 : L ≤ 6) (hp : Ps L.toNat .ei T.data.toList x) (hx : ∀ t, x ≠ some (t, [])) :
    Calls Tryz.prog 28 #[.pointer (some ⟨g, 0, none⟩)] w (Gave w0 fs 2) := by
  have HX := Lib.hid ((all_do hT h1 h6 _ T.data.toList (Nat.le_refl _)).2.2.2 w0 w g fs 0 [] _ h (by omega) rfl (by simp; omega) hp)
  clear h hp
  rcases x with _ | ⟨t, r⟩
  · clear hx
    go_enter Tryz.func28, Tryz.ntmps28
    go_wp2_with fail
    refine HX.out.mono ?_
    rintro e w2 ⟨rfl, h2⟩
    exact ⟨rfl, rfl, h2⟩
  · go_enter Tryz.func28, Tryz.ntmps28
    go_wp2_with fail
    refine HX.out.mono ?_
    rintro e w2 ⟨k2, hk2, hd2, rfl, h2⟩
    have hlt : k2 < T.size := by
      rcases Nat.lt_or_ge k2 T.size with h | h
      · exact h
      · exfalso
        have : T.data.toList.drop k2 = [] := List.drop_eq_nil_of_le (by rw [data_len]; exact h)
        exact hx t (by rw [← hd2, this])
    have HN : Hid (Own w0 w2.drew [] fs) := h2.out.only.drewN 1
    obtain ⟨c0, c1, _, _⟩ := h2.out.cells
    clear HX h2 hd2 hx
    go_wp2_with fail
    go_region
    go_wp2
    exact ⟨rfl, rfl, HN⟩
/-- What Read hands back. -/
def ReadOut (f : List Nd) (n : Nat) (w : World) (e : Ending) (w' : World) : Prop :=
  (∃ A c, e = .returned (.tuple #[.slice A f.length c, errV n]) ∧ f.length ≤ c ∧ c ≤ 9223372036854775807 ∧ NodesAt w' w'.heap.size A f) ∧ Below w.heap.size w w'
theorem flat_small {L : Int} {s : List UInt8} {t : Tree} (h1 : 1 ≤ L) (h6 : L ≤ 6) (h : G L.toNat 3 s t) (h4 : t.size ≤ 1000) : ∀ m ∈ flat t [], NdSmall m := by
  intro m hm
  obtain ⟨j, hj⟩ := List.getElem?_of_mem hm
  have hl := (List.getElem?_eq_some_iff.1 hj).1
  rw [flat_length] at hl
  have hg := flat_good t [] (G_ok h) (by simp) j m hj
  rw [show ((L.toNat : Nat) : Int) = L by omega] at hg
  exact good_small h6 (by simp at hl; omega) hg
set_option maxRecDepth 100000 in
set_option maxHeartbeats 4000000 in
theorem read_any (L : Int) (s : ByteArray) (w : World) (hL : Small L) (hs : s.size ≤ 140737488351232) {n : Nat} {f : List Nd} (hr : Rd L s.data.toList n f) :
    Calls Tryz.prog 9 #[.int .i64 L, .string s] w (ReadOut f n w) := by
  by_cases g : L < 1 ∨ 6 < L
  · obtain ⟨rfl, rfl⟩ : n = 1 ∧ f = [] := by
      rcases hr with ⟨_, h2, h3⟩ | ⟨h1, h2, _⟩ | ⟨h1, h2, _⟩ | ⟨h1, h2, _⟩
      · exact ⟨h2, h3⟩
      all_goals omega
    have HL := Lib.hid (letters_any L w hL (.iface 57 (.int .i64 1)) (by rw [if_pos g]; rfl))
    clear hr g hL
    go_enter Tryz.func9, Tryz.ntmps9
    go_wp2_with fail
    refine HL.out.mono ?_
    rintro e w2 ⟨rfl, rfl⟩
    clear HL
    go_wp2
    go_ret2
    exact ⟨⟨none, 0, rfl, by simp, by omega, NodesAt.nil _ _ _⟩, Below.refl _ _⟩
  have h1 : 1 ≤ L := by omega
  have h6 : L ≤ 6 := by omega
  have HL := Lib.hid (letters_any L w hL .nilIface (by rw [if_neg g]; rfl))
  by_cases g2 : 300 < s.size
  · obtain ⟨rfl, rfl⟩ : n = 4 ∧ f = [] := by
      rcases hr with ⟨h2, _⟩ | ⟨_, _, _, h2, h3⟩ | ⟨_, _, h2, _⟩ | ⟨_, _, h2, _⟩
      · omega
      · exact ⟨h2, h3⟩
      all_goals (rw [data_len] at h2; omega)
    clear hr g hL
    go_enter Tryz.func9, Tryz.ntmps9
    go_wp2_with fail
    refine HL.out.mono ?_
    rintro e w2 ⟨rfl, rfl⟩
    clear HL
    go_wp2
    go_ret2
    exact ⟨⟨none, 0, rfl, by simp, by omega, NodesAt.nil _ _ _⟩, Below.refl _ _⟩
  have HP := Lib.hid (replaceAll_any s w (by omega))
  obtain ⟨T, hT⟩ : ∃ T, T = str (strip s.data.toList) := ⟨_, rfl⟩
  have hTd : T.data.toList = strip s.data.toList := by rw [hT, str_data]
  have hTs : T.size ≤ 300 := by rw [hT, str_size]; have := strip_length s.data.toList; rw [data_len] at this; omega
  rw [← hT] at HP
  have hr2 : (∃ x, Ps L.toNat .ei T.data.toList x ∧ (∀ t, x ≠ some (t, [])) ∧ n = 2 ∧ f = []) ∨
      (∃ t, Ps L.toNat .ei T.data.toList (some (t, [])) ∧ (∀ m ∈ flat t [], NdSmall m) ∧ t.size ≤ 300 ∧ ((40 < t.size ∧ n = 4 ∧ f = []) ∨ (t.size ≤ 40 ∧ n = 0 ∧ f = flat t []))) := by
    rcases hr with ⟨h2, _⟩ | ⟨_, _, h2, _⟩ | ⟨_, _, _, h3, h4, h5⟩ | ⟨_, _, _, t, h3, h4⟩
    · omega
    · rw [data_len] at h2; omega
    · left
      rw [hTd]
      obtain ⟨x, hx, hx2⟩ := reads_no h3
      exact ⟨x, hx, hx2, h4, h5⟩
    · right
      have hp := reads_yes (show L.toNat ≤ 6 by omega) h3
      have hsz := Ps_size hp _ _ rfl
      simp only [Szd, List.length_nil] at hsz
      rw [← hTd, data_len] at hsz
      exact ⟨t, by rw [hTd]; exact hp, flat_small h1 h6 h3 (by omega), by omega, h4⟩
  clear hr hT hTd g hL hs
  have hmf : ∀ (fn : Fn) (first cap : Array Value) (w : World), (Instr.makeFunc fn first cap).run Tryz.prog w = .ok (.func fn first cap) w := fun _ _ _ _ => rfl
  have HR := Lib.hid hr2
  clear hr2
  go_enter Tryz.func9, Tryz.ntmps9
  go_wp2_with fail
  refine HL.out.mono ?_
  rintro e w2 ⟨rfl, rfl⟩
  clear HL
  go_wp2_with fail
  refine HP.out.mono ?_
  rintro e w3 ⟨rfl, hb3⟩
  clear HP
  obtain ⟨w4, hw4⟩ : ∃ w4, w4 = w3.alloc (.cells #[.string T, .int .i64 0, .slice none 0 0, .int .i64 L] 74) := ⟨_, rfl⟩
  have HW4 := Lib.hid hw4
  have HO : Own w3 w4 [ePar w3.heap.size [.string T, .int .i64 0, .slice none 0 0, .int .i64 L], eNodes (.slice none 0 0) []] [] := by
    rw [hw4]
    exact (((own_start w3).lit 74 4 1 #[.string T, .int .i64 0, .slice none 0 0, .int .i64 L] rfl (by simp [maxLen])).nil 108 3).two
  clear hw4
  go_wp2_with fail
  rw [← HW4.out]
  rcases HR.out with ⟨x, hp, hx, rfl, rfl⟩ | ⟨t, hp, hsm, hsz, hcase⟩
  · have HX := Lib.hid (attempt_whole_bad (.pointer (some ⟨w3.heap.size, 0, none⟩)) 2 HO (fun W hO => whole_no (⟨_, hO⟩ : Pr w3 w3.heap.size T L _ W 0 []) hTs h1 h6 hp hx))
    clear HO HR hp hx HW4
    refine HX.out.mono ?_
    rintro e w5 ⟨rfl, h5⟩
    have HB5 := Lib.hid (hb3.out.trans (h5.out.mono hb3.out.size))
    clear HX h5 hb3
    go_wp2
    go_ret2
    exact ⟨⟨none, 0, rfl, by simp, by omega, NodesAt.nil _ _ _⟩, HB5.out⟩
  · have HX := Lib.hid (attempt_whole_ok (.pointer (some ⟨w3.heap.size, 0, none⟩)) (K := fun es' => ∃ v, es' = [ePar w3.heap.size [.string T, .int .i64 (T.size : Int), v, .int .i64 L], eNodes v (flat t [])]) HO
      (fun W hO => (whole_yes (⟨_, hO⟩ : Pr w3 w3.heap.size T L _ W 0 []) hTs h1 h6 hp).mono fun e w' ⟨q1, q2⟩ => ⟨q1, by
        obtain ⟨v, q3⟩ := q2.out
        exact ⟨_, q3, v, rfl⟩⟩))
    clear HO HR hp HW4
    refine HX.out.mono ?_
    rintro e w5 ⟨rfl, h5⟩
    obtain ⟨es', ho, v, rfl⟩ := h5.out
    obtain ⟨A, c, rfl, q1, q2, q3⟩ := own_nodes ho (v := v) (l := flat t []) (by simp) hsm
    have c2 := (par_cell (j := 2) ho rfl).1
    have HB5 := Lib.hid (hb3.out.trans (ho.below.mono hb3.out.size))
    have HN := Lib.hid q3
    have hfl : (flat t []).length = t.size := by rw [flat_length]; simp
    clear HX h5 hb3 ho q3
    rcases hcase with ⟨hbig, rfl, rfl⟩ | ⟨hle, rfl, rfl⟩
    · have hq : (40 : Int) < ((flat t []).length : Int) := by omega
      clear hfl
      go_wp2
      go_ret2
      exact ⟨⟨none, 0, rfl, by simp, by omega, NodesAt.nil _ _ _⟩, HB5.out⟩
    · have hq : decide ((40 : Int) < ((flat t []).length : Int)) = false := decide_eq_false (by omega)
      clear hfl
      go_wp2
      go_ret2
      exact ⟨⟨A, c, rfl, q1, q2, HN.out⟩, HB5.out⟩
end Go.Proofs.YtloihkoamccacaaGreatDoor.Fm

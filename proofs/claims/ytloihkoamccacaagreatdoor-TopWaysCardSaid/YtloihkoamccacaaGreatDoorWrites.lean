/- The walk of form.Write. -/
import Derived.Test.YtloihkoamccacaaGreatDoorNode
import Derived.Test.YtloihkoamccacaaGreatDoorAttempt
namespace Go.Proofs.YtloihkoamccacaaGreatDoor.Fm
open Go.RowKit Go.IntWalk Go.Proofs.YtloihkoamccacaaGreatDoor.Wd Go.Proofs.YtloihkoamccacaaGreatDoor.Wo

set_option maxRecDepth 100000 in
theorem wclos_any {w0 w : World} {g : Nat} {nv : Value} {fs : List Ent} (h : Wr w0 w g nv fs []) {A : Option Addr} {f : List Nd} {c : Nat} {L : Int} (hg : FGood L f) (hA : NodesAt w0 w0.heap.size A f) (hnv : nv = .slice A f.length c) {q : Addr} (hq : w.cell? q = some (.slice A f.length c)) :
    Calls Tryz.prog 23 #[.pointer (some ⟨g, 0, none⟩), .pointer (some q)] w (Put w0 g nv fs [] (ftxt f)) := by
  have h0 := hg.ne
  have h40 := hg.le
  have HN := Lib.hid (node_any hg.nd hA hnv f.length (f.length - 1) (by omega) (by omega) fs w [] h (by simp))
  rw [show (((f.length - 1 : Nat)) : Int) = (f.length : Int) - 1 by omega] at HN
  clear h hA hg hnv
  unfold ftxt
  generalize txt f (f.length - 1) = T at *
  go_enter Tryz.func23, Tryz.ntmps23
  go_wp2_with fail
  refine HN.out.mono ?_
  rintro e w2 (⟨h1, rfl, h2⟩ | ⟨h1, rfl, h2⟩)
  · clear HN
    go_wp2
    go_end0
    exact .inl ⟨h1, rfl, h2⟩
  · exact ⟨rfl, .inr ⟨h1, rfl, h2⟩⟩
theorem errV_ne {n : Nat} (h : n ≠ 0) : ∃ m, n = m + 1 ∧ errV n = .iface 57 (.int .i64 (n : Int)) := by
  rcases n with _ | m
  · exact absurd rfl h
  · exact ⟨m, rfl, rfl⟩
/-- What Write hands back, and what of memory it leaves. -/
def Wrote (L : Int) (f : List Nd) (w : World) (e : Ending) (w' : World) : Prop := Hid (e = .returned (.tuple #[.string (str (wtext L f)), errV (werr L f)])) ∧ Below w.heap.size w w'
set_option maxRecDepth 100000 in
set_option maxHeartbeats 4000000 in
theorem write_any (L : Int) (A : Option Addr) (c : Nat) (f : List Nd) (w : World) (hL : Small L) (hA : NodesAt w w.heap.size A f) (hlen : f.length ≤ 9223372036854775807) :
    Calls Tryz.prog 8 #[.int .i64 L, .slice A f.length c] w (Wrote L f w) := by
  obtain ⟨w1, hw1⟩ : ∃ w1, w1 = w.alloc (.cells #[.slice A f.length c] 22) := ⟨_, rfl⟩
  have HW1 := Lib.hid hw1
  have hb1 : Below w.heap.size w w1 := by rw [hw1]; exact bel_alloc _ _
  have hs1 : w.heap.size < w1.heap.size := by rw [hw1]; simp
  have hq1 : w1.cell? ⟨w.heap.size, 0, none⟩ = some (.slice A f.length c) := by rw [hw1]; exact box_at w _ _ 0
  have HC := Lib.hid (fcheck_any L A c f w1 hL (hA.on hb1) hlen)
  have HB1 := Lib.hid hb1
  by_cases g : fchk L f = 0
  · have hg := fchk_iff.1 g
    obtain ⟨Wn, hWn⟩ : ∃ R : List UInt8 × Nat, R = (wtext L f, werr L f) := ⟨_, rfl⟩
    have HA := Lib.hid hA
    have HG := Lib.hid hg
    have HQ := Lib.hid g
    rw [g] at HC
    have hmf : ∀ (fn : Fn) (first cap : Array Value) (w : World), (Instr.makeFunc fn first cap).run Tryz.prog w = .ok (.func fn first cap) w := fun _ _ _ _ => rfl
    clear hw1 hb1 hA hL hlen g hg hWn
    go_enter Tryz.func8, Tryz.ntmps8
    go_wp2_with fail
    rw [← HW1.out]
    refine HC.out.mono ?_
    rintro e w2 ⟨he, hb⟩
    obtain rfl := he.out
    have hq2 := (hb.cell (p := ⟨w.heap.size, 0, none⟩) hs1).trans hq1
    have HB2 := Lib.hid (HB1.out.trans (hb.mono HB1.out.size))
    have hs2 : w.heap.size < w2.heap.size := Nat.lt_of_lt_of_le hs1 hb.size
    clear he hb HC hq1
    simp only [errV]
    obtain ⟨nv, hnv⟩ : ∃ nv, nv = Value.slice A f.length c := ⟨_, rfl⟩
    obtain ⟨w3, hw3⟩ : ∃ w3, w3 = w2.alloc (.cells #[.pointer none, .slice none 0 0, .slice A f.length c] 63) := ⟨_, rfl⟩
    have HW3 := Lib.hid hw3
    have HO : Own w2 w3 [eWr w2.heap.size [.pointer none, .slice none 0 0, nv], eBuf (.slice none 0 0) []] [] := by
      rw [hw3, hnv]
      exact (((own_start w2).lit 63 3 1 #[.pointer none, .slice none 0 0, .slice A f.length c] rfl (by simp [maxLen])).nil 5 1).two
    have hdo : ∀ W, Own w2 W [eWr w2.heap.size [.pointer none, .slice none 0 0, nv], eBuf (.slice none 0 0) []] [eErr w3.heap.size .nilIface] →
        Calls Tryz.prog 23 #[.pointer (some ⟨w2.heap.size, 0, none⟩), .pointer (some ⟨w.heap.size, 0, none⟩)] W (Put w2 w2.heap.size nv [eErr w3.heap.size .nilIface] [] (ftxt f)) := fun W hO =>
      wclos_any ⟨_, _, .inl rfl, hO⟩ HG.out (HA.out.on HB2.out) hnv ((hO.below.cell (p := ⟨w.heap.size, 0, none⟩) hs2).trans hq2)
    by_cases hT : (ftxt f).length ≤ 300
    · have HX := Lib.hid (attempt_write_ok (.pointer (some ⟨w2.heap.size, 0, none⟩)) (.pointer (some ⟨w.heap.size, 0, none⟩)) (K := fun es' => ∃ p v, (p = .pointer none ∨ p = .pointer (some ⟨w2.heap.size, 0, none⟩)) ∧ es' = [eWr w2.heap.size [p, v, nv], eBuf v (ftxt f)]) HO
        (fun W hO => (hdo W hO).mono fun e w' hp => by
          rcases hp with ⟨_, h2, h3⟩ | ⟨h1, _, _⟩
          · obtain ⟨p, v, hp, h4⟩ := h3.out
            exact ⟨h2, _, h4, p, v, hp, rfl⟩
          · simp only [List.length_nil, Nat.zero_add] at h1; omega))
      obtain ⟨e1, e2⟩ := wrote_ok HQ.out hT
      have E1 := Lib.hid e1
      have E2 := Lib.hid e2
      clear HO hdo e1 e2 hT hnv hw3 HQ HG HA HW1
      go_wp2_with fail
      rw [← HW3.out]
      refine HX.out.mono ?_
      rintro e w4 ⟨rfl, h4⟩
      obtain ⟨es', ho, p, v, hp, rfl⟩ := h4.out
      have HS := Lib.hid (string_any (⟨p, v, hp, ho⟩ : Wr w2 w4 w2.heap.size nv [] (ftxt f)))
      clear HX h4 ho hp
      go_wp2_with fail
      refine HS.out.mono ?_
      rintro e w5 ⟨rfl, h5⟩
      have HB5 := Lib.hid (HB2.out.trans (h5.out.mono HB2.out.size))
      clear HS h5
      go_wp2
      go_ret2
      exact ⟨by rw [Hid, E1.out, E2.out]; rfl, HB5.out⟩
    · have HX := Lib.hid (attempt_write_bad (.pointer (some ⟨w2.heap.size, 0, none⟩)) (.pointer (some ⟨w.heap.size, 0, none⟩)) 4 HO
        (fun W hO => (hdo W hO).mono fun e w' hp => by
          rcases hp with ⟨h1, _, _⟩ | ⟨_, h2, h3⟩
          · simp only [List.length_nil, Nat.zero_add] at h1; omega
          · exact ⟨h2, h3⟩))
      obtain ⟨e1, e2⟩ := wrote_long HQ.out (show 300 < (ftxt f).length by omega)
      have E1 := Lib.hid e1
      have E2 := Lib.hid e2
      clear HO hdo e1 e2 hT hnv hw3 HQ HG HA HW1
      go_wp2_with fail
      rw [← HW3.out]
      refine HX.out.mono ?_
      rintro e w4 ⟨rfl, h4⟩
      have HB4 := Lib.hid (HB2.out.trans (h4.out.mono HB2.out.size))
      clear HX h4
      go_wp2
      go_ret2
      exact ⟨by rw [Hid, E1.out, E2.out]; rfl, HB4.out⟩
  · obtain ⟨e1, e2⟩ := wrote_bad g
    obtain ⟨m, hm, hE⟩ := errV_ne g
    have E1 := Lib.hid e1
    have E2 := Lib.hid e2
    have E3 := Lib.hid hE
    rw [hE] at HC
    clear hw1 hb1 hA hL hlen g e1 e2 hE hq1 hm
    go_enter Tryz.func8, Tryz.ntmps8
    go_wp2_with fail
    rw [← HW1.out]
    refine HC.out.mono ?_
    rintro e w2 ⟨he, hb⟩
    obtain rfl := he.out
    have HB2 := Lib.hid (HB1.out.trans (hb.mono HB1.out.size))
    clear he hb HC
    go_wp2
    go_ret2
    exact ⟨by rw [Hid, E1.out, E2.out, E3.out]; rfl, HB2.out⟩
end Go.Proofs.YtloihkoamccacaaGreatDoor.Fm

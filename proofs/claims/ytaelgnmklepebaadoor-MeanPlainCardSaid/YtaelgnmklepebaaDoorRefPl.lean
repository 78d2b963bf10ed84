/- The walk of the document's answer for the plain form: Plain. -/
import Derived.Test.YtaelgnmklepebaaDoorRefPln
import Derived.Test.YtaelgnmklepebaaDoorRefSiz
import Derived.Test.YtaelgnmklepebaaDoorPlainP
namespace Go.Proofs.YtaelgnmklepebaaDoor.Fm
open Go.RowKit Go.IntWalk Go.Proofs.YtaelgnmklepebaaDoor.Wd Go.Proofs.YtaelgnmklepebaaDoor.Wo

set_option maxRecDepth 100000 in
set_option maxHeartbeats 2000000 in
theorem refPlain_any {L : Int} (A : Option Addr) (c : Nat) (f : List Nd) (w : World) (hA : NodesAt w w.heap.size A f) (g : FGood L f) :
    Calls Tryd.prog 16 #[.slice A f.length c] w fun e w' => Hid (((pln f).length ≤ 40 ∧ ∃ A' c', e = .returned (.tuple #[.slice A' (pln f).length c', .int .i64 0]) ∧ Hid (NodesAt w' w'.heap.size A' (pln f))) ∨ (40 < (pln f).length ∧ e = .returned (.tuple #[.slice none 0 0, .int .i64 4]))) ∧ Below w.heap.size w w' := by
  have h0 := g.ne
  have h40 := g.le
  have HS := Lib.hid (sizes_any A c f w hA g)
  obtain ⟨n, hn⟩ : ∃ n, f.length = n + 1 := ⟨f.length - 1, by omega⟩
  have hroot : tre f n = root f := by unfold root; rw [hn]; rfl
  have hlen := pln_length f
  have HR := Lib.hid (fun (W : World) (hb : Below w.heap.size w W) (hs : (pln f).length ≤ 40) => rplain_any g (hA.on hb) c n (by omega) false [] none 0 [] W ((own_start W).nil 29 3) (by rw [hroot, List.length_nil, ← hlen]; omega))
  rw [hroot] at HR
  have hsz : szN f n 0 = ((sat (pln f).length : Nat) : Int) := by unfold szN; rw [hroot, hlen]; rfl
  have hbig := sat_big (pln f).length
  rw [hn] at HS HR
  rw [hn]
  have HG := Lib.hid g
  have hn40 : n ≤ 40 := by omega
  clear g hA hn hroot hlen h0 h40
  go_enter Tryd.func16, Tryd.ntmps16
  go_wp2_with fail
  refine HS.out.mono ?_
  rintro e w1 he
  obtain ⟨A1, c1, rs, rfl, hpo⟩ := he.out
  have HB1 := Lib.hid hpo.1.below
  obtain ⟨ad, g1, e1, b1, r1, l1, cs⟩ := rs_child hpo.1 hpo.2.1 hpo.2.2 (i := n) (by omega)
  subst e1
  have x1 := cs 0 (by decide)
  rw [hsz] at x1
  clear HS he hpo cs hsz
  generalize hS : ((sat (pln f).length : Nat) : Int) = S at *
  by_cases hl : (pln f).length ≤ 40
  · have hS40 : ¬ (40 : Int) < S := by omega
    have HRw := Lib.hid (HR.out w1 HB1.out hl)
    have HL := Lib.hid hl
    clear HR hS hbig hl
    go_wp2_with fail
    refine HRw.out.mono ?_
    rintro e w2 ⟨A2, c2, l2, rfl, ho, hq⟩
    obtain rfl : l2 = pln f := hq.out
    have HB2 := Lib.hid (HB1.out.trans (ho.out.below.mono HB1.out.size))
    obtain ⟨A4, c4, hv4, _, _, hN4⟩ := own_nodes (v := .slice A2 (pln f).length c2) (l := pln f) ho.out (by simp) (nds_small (pln_good HG.out HL.out))
    simp only [Value.slice.injEq] at hv4
    have HN4 := Lib.hid hN4
    rw [← hv4.1] at HN4
    clear HRw ho hq hN4 hv4
    go_wp2
    go_ret2
    exact ⟨.inl ⟨HL.out, _, _, rfl, HN4⟩, HB2.out⟩
  · have hS40 : (40 : Int) < S := by omega
    have HL : Hid (40 < (pln f).length) := by unfold Hid; omega
    clear HR hS hbig hl
    go_wp2
    go_ret2
    exact ⟨.inr ⟨HL.out, rfl⟩, HB1.out⟩
end Go.Proofs.YtaelgnmklepebaaDoor.Fm

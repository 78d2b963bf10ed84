/- Gates, for the laws: the closed fact of a gate of few; what one asks of a gate. -/
import Derived.Test.YtciopfiddfmckaaDoorGateG
import Derived.Test.YtciopfiddfmckaaDoorFew
import Derived.Deep.RegionHeld3
namespace Go.Proofs.YtciopfiddfmckaaDoor.Ga
open Go.RowKit Go.IntWalk Go.Proofs.YtciopfiddfmckaaDoor.Wd Go.Proofs.YtciopfiddfmckaaDoor.Wo Go.Proofs.YtciopfiddfmckaaDoor.Df Go.Proofs.YtciopfiddfmckaaDoor.Rc Go.Proofs.YtciopfiddfmckaaDoor.Sm Go.Proofs.YtciopfiddfmckaaDoor.Sa

/-- Number i, which only reads, is taken first; its slot is told. -/
theorem wpAnyH_takeD {P : Program} {md : Region.Mode} {ops : Array Oper} {Q : Exit → Act → World → Prop} {S : World → Prop} {i : Nat} {oi : Oper} (D : Option Tmp) {v : Value} {fuel : Nat} {listed : Array Bool} {a : Act} {w : World} (hi : ops[i]? = some oi) (hD : oi.dst = D)
    (hs : Region.noSelect ops = true) (hf : Region.free md ops listed i = true) (hr : (Region.ready md ops listed).contains i = true) (hQ : ∀ c a w, Q (.panic c) (a.put D v) w → Q (.panic c) a w) (hy : YieldsIf P ops S oi v a) (hS : S w)
    (h : wpAnyH P md ops Q S fuel (listed.setIfInBounds i true) (a.put D v) w) : wpAnyH P md ops Q S (fuel + 1) listed a w := by
  subst hD
  exact wpAnyH_take hi hs hf hr hQ hy hS h
theorem few_gate : GGood fewA := ⟨few_good, (begunB_iff few_good).1 ((class_odd fewA).1 (by rw [few_class])), by decide +kernel⟩
def fewG : Gt := ⟨2, [1, 0, 1], true⟩
set_option maxRecDepth 100000 in
theorem few_offers : offers fewA (gate0 fewA) [1, 0, 1, 1, 0] = fewG ∧ lets fewA [1, 0, 1, 1, 0] = [1, 0, 1, 1, 0] := ⟨by kernel_rfl, by kernel_rfl⟩
theorem gok_few : Gok fewA fewG := by
  have h := gok_offers (gok_start few_gate) [1, 0, 1, 1, 0]
  rw [few_offers.1] at h
  exact h
/-- What passed is a list. -/
def OutAt (w w' : World) (e : Ending) (l : List Int) : Prop := ∃ A c, e = .returned (.slice A l.length c) ∧ Hid (IntsAt w' w'.heap.size A l) ∧ Hid (l.length ≤ c) ∧ Below w.heap.size w w'
theorem gout_gives {w0 w : World} {g : Nat} {d : Aut} {G : Gt} {es fs : List Ent} (hG : GateW w0 w g d G es fs) (hd : Df.Good d) (hk : Gok d G) :
    Calls Tryd.prog 20 #[.pointer (some ⟨g, 0, none⟩)] w fun e w' => OutAt w w' e G.out := (out_any w0 w g d G es fs hG hd hk).mono fun e w' he => by
  obtain ⟨v', rfl, ho⟩ := he.out
  obtain ⟨A, c, rfl, h1, _, h2⟩ := own_ints_at ho (List.mem_append_left _ List.mem_cons_self) (letter_small hd hk.word)
  exact ⟨A, c, rfl, h2, h1, ho.below⟩
/-- A gate whose offers are over: who made it is of no account. -/
def GateR (w : World) (g : Nat) (d : Aut) (G : Gt) : Prop := ∃ w0 es fs, GateW w0 w g d G es fs
theorem GateR.on {w w' : World} {g : Nat} {d : Aut} {G : Gt} (h : GateR w g d G) (hb : Below w.heap.size w w') : GateR w' g d G := by
  obtain ⟨w0, es, fs, h⟩ := h
  exact ⟨w0, es, fs, h.on hb⟩
theorem rout_gives {w : World} {g : Nat} {d : Aut} {G : Gt} (h : GateR w g d G) (hd : Df.Good d) (hk : Gok d G) :
    Calls Tryd.prog 20 #[.pointer (some ⟨g, 0, none⟩)] w fun e w' => OutAt w w' e G.out := by
  obtain ⟨w0, es, fs, h⟩ := h
  exact gout_gives h hd hk
theorem rshut_gives {w : World} {g : Nat} {d : Aut} {G : Gt} (h : GateR w g d G) : Calls Tryd.prog 18 #[.pointer (some ⟨g, 0, none⟩)] w fun e w' => e = .returned (.bool G.shut) ∧ w' = w := by
  obtain ⟨w0, es, fs, h⟩ := h
  exact shut_any w0 w g d G es fs h
theorem five_at (w : World) : IntsAt (w.alloc (.cells #[.int .i64 1, .int .i64 0, .int .i64 1, .int .i64 1, .int .i64 0] 3)) (w.alloc (.cells #[.int .i64 1, .int .i64 0, .int .i64 1, .int .i64 1, .int .i64 0] 3)).heap.size (some ⟨w.heap.size, 0, none⟩) [1, 0, 1, 1, 0] :=
  lit_ints w [1, 0, 1, 1, 0] (by intro x hx; simp only [List.mem_cons, List.not_mem_nil, or_false] at hx; rcases hx with rfl | rfl | rfl | rfl | rfl <;> exact ⟨by decide, by decide⟩) (by decide)
theorem three_at (w : World) : IntsAt (w.alloc (.cells #[.int .i64 1, .int .i64 0, .int .i64 1] 3)) (w.alloc (.cells #[.int .i64 1, .int .i64 0, .int .i64 1] 3)).heap.size (some ⟨w.heap.size, 0, none⟩) [1, 0, 1] :=
  lit_ints w [1, 0, 1] (by intro x hx; simp only [List.mem_cons, List.not_mem_nil, or_false] at hx; rcases hx with rfl | rfl | rfl <;> exact ⟨by decide, by decide⟩) (by decide)
theorem few_out {W : World} {g : Nat} (h : GateR W g fewA fewG) : Calls Tryd.prog 20 #[.pointer (some ⟨g, 0, none⟩)] W fun e w' => OutAt W w' e [1, 0, 1] := rout_gives h few_good gok_few
theorem few_same {W : World} {A : Option Addr} {c : Nat} (h : IntsAt W W.heap.size A [1, 0, 1]) : Calls Tryd.prog 19 #[.slice A 3 c, .slice (some ⟨W.heap.size, 0, none⟩) 3 3] (W.alloc (.cells #[.int .i64 1, .int .i64 0, .int .i64 1] 3)) fun e w' => e = .returned (.bool true) ∧ Below W.heap.size W w' :=
  (ints_any A (some ⟨W.heap.size, 0, none⟩) c 3 [1, 0, 1] [1, 0, 1] _ (h.on (below_alloc _ _)) (three_at W) (by simp) (by simp)).mono fun e w' ⟨he, n, hn⟩ => by
    refine ⟨by rw [he.out, decide_eq_true rfl], ?_⟩
    rw [hn]
    exact below_drewN (below_alloc _ _) n
/-! ### beginnings of lists -/
theorem ints_take' {w : World} {B : Nat} {A : Option Addr} {z : List Int} (h : IntsAt w B A z) (k : Nat) : IntsAt w B A (z.take k) :=
  ⟨fun j u hj => h.1 j u (by
    rw [List.map_take] at hj
    rw [List.getElem?_take] at hj
    split at hj
    · exact hj
    · simp at hj), fun x hx => h.2 x (List.mem_of_mem_take hx)⟩
/-! ### words that are accepted -/
theorem acc_word {d : Aut} (hd : Df.Good d) {l : List Int} (hw : Word d.L l) (hl : l.length ≤ 80) : accErr d l = 0 ∧ accOut d l = accA d l := by
  have h1 : accErr d l = 0 := accErr_ok hd ⟨⟨hd.l1, hd.l6⟩, hl, hw⟩
  exact ⟨h1, by unfold accOut; rw [if_pos h1]⟩
theorem acc_is {v : Value} {d : Aut} {Z : Option Addr} {cz : Nat} {l : List Int} {W : World} (h : DfaAt W W.heap.size v d) (hZ : IntsAt W W.heap.size Z l) (hd : Df.Good d) (hw : Word d.L l) (hl : l.length ≤ 80) :
    Calls Tryd.prog 39 #[v, .slice Z l.length cz] W fun e w' => e = .returned (.tuple #[.bool (accA d l), .nilIface]) ∧ Below W.heap.size W w' :=
  (acc_any v d Z cz l W h hZ (by omega)).mono fun e w' ⟨he, hb⟩ => by
    obtain ⟨h1, h2⟩ := acc_word hd hw hl
    rw [h1, h2] at he
    exact ⟨he.out, hb⟩
/-- Of a word's beginning. -/
theorem acc_upto {v : Value} {d : Aut} {Z : Option Addr} {cz k : Nat} {l : List Int} {W : World} (h : DfaAt W W.heap.size v d) (hZ : IntsAt W W.heap.size Z l) (hd : Df.Good d) (hw : Word d.L l) (hl : l.length ≤ 80) (hk : k ≤ l.length) :
    Calls Tryd.prog 39 #[v, .slice Z k cz] W fun e w' => e = .returned (.tuple #[.bool (accA d (l.take k)), .nilIface]) ∧ Below W.heap.size W w' := by
  have h1 := acc_is (cz := cz) h (ints_take' hZ k) hd (word_take hw k) (by rw [List.length_take]; omega)
  rwa [List.length_take, Nat.min_eq_left hk] at h1
theorem rstill_gives {w : World} {g : Nat} {d : Aut} {G : Gt} {a : Int} (h : GateR w g d G) (hd : Df.Good d) (hs : G.shut = true) (ha : Small a) :
    Calls Tryd.prog 17 #[.pointer (some ⟨g, 0, none⟩), .int .i64 a] w fun e w' => e = .returned (.tuple #[.bool false, errV (if isL d a = true then 0 else 1)]) ∧ Below w.heap.size w w' := by
  obtain ⟨w0, es, fs, h⟩ := h
  exact (offer_still w0 w g d G es fs a h hd hs ha).mono fun e w' ⟨h1, h2⟩ => ⟨h1.out, h2⟩
theorem same_ints {A B : Option Addr} {ca cb : Nat} {l : List Int} {W : World} (h1 : IntsAt W W.heap.size A l) (h2 : IntsAt W W.heap.size B l) (hl : l.length ≤ 140737488355328) :
    Calls Tryd.prog 19 #[.slice A l.length ca, .slice B l.length cb] W fun e w' => e = .returned (.bool true) ∧ Below W.heap.size W w' :=
  (ints_any A B ca cb l l W h1 h2 hl hl).mono fun e w' ⟨he, n, hn⟩ => ⟨by rw [he.out, decide_eq_true rfl], by rw [hn]; exact below_drewN (Below.refl _ _) n⟩
/-- Is there a gate? -/
theorem gnew_gives {v : Value} {d : Aut} {W : World} (h : DfaAt W W.heap.size v d) {k : Nat} {E : Value} (hr : gchk d = k) (hE : errV k = E) :
    Calls Tryd.prog 16 #[v] W fun e w' => ∃ p, e = .returned (.tuple #[.pointer p, E]) ∧ Below W.heap.size W w' := by
  subst hE hr
  by_cases hg : gchk d = 0
  · exact (gnew_ok v d W h (gchk_iff.1 hg)).mono fun e w' he => by
      obtain ⟨g, rfl, hG⟩ := he.out
      exact ⟨_, by rw [hg]; rfl, hG.below⟩
  · exact (gnew_bad v d W h hg).mono fun e w' ⟨h1, h2⟩ => ⟨_, h1.out, h2⟩
theorem acc_none {v : Value} {d : Aut} {W : World} (h : DfaAt W W.heap.size v d) : Calls Tryd.prog 39 #[v, .slice none 0 0] W fun e w' => e = .returned (.tuple #[.bool (accOut d []), errV (dchk d)]) ∧ Below W.heap.size W w' :=
  (acc_any v d none 0 [] W h (IntsAt.nil W W.heap.size none) (by simp)).mono fun e w' ⟨he, hb⟩ => by
    have e1 : accErr d [] = dchk d := by
      unfold accErr
      split
      · rfl
      · have hd := dchk_iff.1 (by omega : dchk d = 0)
        rw [chk_iff.2 ⟨⟨hd.l1, hd.l6⟩, by simp, fun a ha => by simp at ha⟩]; omega
    rw [e1] at he
    exact ⟨he.out, hb⟩
/-! ### a gate of which only what passed is asked -/
def GateO (w : World) (g : Nat) (l : List Int) : Prop := ∃ d G, GateR w g d G ∧ Df.Good d ∧ Gok d G ∧ G.out = l
theorem GateO.on {w w' : World} {g : Nat} {l : List Int} (h : GateO w g l) (hb : Below w.heap.size w w') : GateO w' g l := by
  obtain ⟨d, G, h1, h2⟩ := h
  exact ⟨d, G, h1.on hb, h2⟩
theorem oout_gives {w : World} {g : Nat} {l : List Int} (h : GateO w g l) : Calls Tryd.prog 20 #[.pointer (some ⟨g, 0, none⟩)] w fun e w' => ∃ A c, e = .returned (.slice A l.length c) ∧ Hid (IntsAt w' w'.heap.size A l) ∧ Below w.heap.size w w' := by
  obtain ⟨d, G, h1, h2, h3, rfl⟩ := h
  exact (rout_gives h1 h2 h3).mono fun e w' ⟨A, c, k1, k2, _, k3⟩ => ⟨A, c, k1, k2, k3⟩
theorem lets_same {a b : Aut} (h : a.L = b.L) (l : List Int) : lets a l = lets b l := by unfold lets isL; rw [h]
end Go.Proofs.YtciopfiddfmckaaDoor.Ga

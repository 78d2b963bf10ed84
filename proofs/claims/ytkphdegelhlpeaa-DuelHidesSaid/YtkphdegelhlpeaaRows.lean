/-
  No cell of these rows narrows 'for every input' (looked for: loops, veiled, ifaces, maps, wideKeys, modest, calm, conditions, laid).
  DERIVED. THE GIVEN ROWS OF THIS SEAT. 5 by the template 'for every input the law returns true; each argument reads behind the call as it read before'; 0 by the template 'total and deterministic' (their statements: YtkphdegelhlpeaaTotals.lean).
  GIVEN WITH THE SEED: the statements are not yours to turn. If you find one false, say at which input.
  Laid BY PROGRAM, IN A SANDBOX (cutbox-rows.mjs): the forced cells as the released guide's own fill.sh prints them over the translation bad65c28de8695a5… (all of the seat's roots in one cut). By AI agents, Wed Nov 11 2026. No macro, syntax, notation, axiom, sorry.
-/
import Derived.Test.YtkphdegelhlpeaaChecked
import GoSem.Claim
import GoSem.ClaimJoined
import GoSem.ClaimMapViews
import Derived.JoinedTies
import Derived.KernelRfl
namespace Go.Proofs.Ytkphdegelhlpeaa
/- THE CELL 'sum', in the pinned program and in every row, IS THE sha256 OF THE DUMP (.gsa) THAT YtkphdegelhlpeaaProg.lean LOADS. Nothing in Lean hashes anything: it is a label: what it is worth is what the hold of that sum in a sandbox is worth. -/
noncomputable def Try.pinned : Pinned := { name := "ytkphdegelhlpeaa", sum := "bad65c28de8695a5086600a695f6deacd27b4d6922e7b0412b703db563fcdb32", checked := Try.checked }
namespace Rows
def none {H : Type} : Left H := { results := [], args := [] }

/-- 'stilewardlaw5.DuelForces': WHATEVER THE INPUT: true; the input reads as it did. -/
def duelForcesSpec : ChangeSpec := { name := "duelForces", fn := fun _ => fun
  | [d1, d2, d3] => { results := [.lit (.bool true)], args := [d1, d2, d3] }
  | _ => none }
def duelForcesRow : OpenClaim := { program := "ytkphdegelhlpeaa", sum := "bad65c28de8695a5086600a695f6deacd27b4d6922e7b0412b703db563fcdb32", func := "stileward/stilewardlaw5.DuelForces", spec := "duelForces", unfollowed := true, recurses := true, apart := false }
def DuelForcesSaid : Prop := duelForcesRow.holds Try.pinned (OpenSpec.ofChange duelForcesSpec)

/-- ITS FALSE NEIGHBOUR: 'it returns false'. Refute it at one input. -/
def duelForcesWrong : ChangeSpec := { name := "duelForces", fn := fun _ => fun
  | [d1, d2, d3] => { results := [.lit (.bool false)], args := [d1, d2, d3] }
  | _ => none }
def DuelForcesWrongFalsely : Prop := duelForcesRow.holds Try.pinned (OpenSpec.ofChange duelForcesWrong)

/-- 'stilewardlaw5.DuelHides': WHATEVER THE INPUT: true; the input reads as it did. -/
def duelHidesSpec : ChangeSpec := { name := "duelHides", fn := fun _ => fun
  | [d1, d2, d3] => { results := [.lit (.bool true)], args := [d1, d2, d3] }
  | _ => none }
def duelHidesRow : OpenClaim := { program := "ytkphdegelhlpeaa", sum := "bad65c28de8695a5086600a695f6deacd27b4d6922e7b0412b703db563fcdb32", func := "stileward/stilewardlaw5.DuelHides", spec := "duelHides", unfollowed := true, recurses := true, apart := false }
def DuelHidesSaid : Prop := duelHidesRow.holds Try.pinned (OpenSpec.ofChange duelHidesSpec)

/-- ITS FALSE NEIGHBOUR: 'it returns false'. Refute it at one input. -/
def duelHidesWrong : ChangeSpec := { name := "duelHides", fn := fun _ => fun
  | [d1, d2, d3] => { results := [.lit (.bool false)], args := [d1, d2, d3] }
  | _ => none }
def DuelHidesWrongFalsely : Prop := duelHidesRow.holds Try.pinned (OpenSpec.ofChange duelHidesWrong)

/-- 'stilewardlaw5.DuelStep': WHATEVER THE INPUT: true; the input reads as it did. -/
def duelStepSpec : ChangeSpec := { name := "duelStep", fn := fun _ => fun
  | [d] => { results := [.lit (.bool true)], args := [d] }
  | _ => none }
def duelStepRow : OpenClaim := { program := "ytkphdegelhlpeaa", sum := "bad65c28de8695a5086600a695f6deacd27b4d6922e7b0412b703db563fcdb32", func := "stileward/stilewardlaw5.DuelStep", spec := "duelStep", unfollowed := true, recurses := true, apart := false }
def DuelStepSaid : Prop := duelStepRow.holds Try.pinned (OpenSpec.ofChange duelStepSpec)

/-- ITS FALSE NEIGHBOUR: 'it returns false'. Refute it at one input. -/
def duelStepWrong : ChangeSpec := { name := "duelStep", fn := fun _ => fun
  | [d] => { results := [.lit (.bool false)], args := [d] }
  | _ => none }
def DuelStepWrongFalsely : Prop := duelStepRow.holds Try.pinned (OpenSpec.ofChange duelStepWrong)

/-- 'stilewardlaw5.DuelGrows': WHATEVER THE INPUT: true; the input reads as it did. -/
def duelGrowsSpec : ChangeSpec := { name := "duelGrows", fn := fun _ => fun
  | [d1, d2] => { results := [.lit (.bool true)], args := [d1, d2] }
  | _ => none }
def duelGrowsRow : OpenClaim := { program := "ytkphdegelhlpeaa", sum := "bad65c28de8695a5086600a695f6deacd27b4d6922e7b0412b703db563fcdb32", func := "stileward/stilewardlaw5.DuelGrows", spec := "duelGrows", unfollowed := true, recurses := true, apart := false }
def DuelGrowsSaid : Prop := duelGrowsRow.holds Try.pinned (OpenSpec.ofChange duelGrowsSpec)

/-- ITS FALSE NEIGHBOUR: 'it returns false'. Refute it at one input. -/
def duelGrowsWrong : ChangeSpec := { name := "duelGrows", fn := fun _ => fun
  | [d1, d2] => { results := [.lit (.bool false)], args := [d1, d2] }
  | _ => none }
def DuelGrowsWrongFalsely : Prop := duelGrowsRow.holds Try.pinned (OpenSpec.ofChange duelGrowsWrong)

/-- 'stilewardlaw5.DuelTraps': WHATEVER THE INPUT: true; the input reads as it did. -/
def duelTrapsSpec : ChangeSpec := { name := "duelTraps", fn := fun _ => fun
  | [d1, d2] => { results := [.lit (.bool true)], args := [d1, d2] }
  | _ => none }
def duelTrapsRow : OpenClaim := { program := "ytkphdegelhlpeaa", sum := "bad65c28de8695a5086600a695f6deacd27b4d6922e7b0412b703db563fcdb32", func := "stileward/stilewardlaw5.DuelTraps", spec := "duelTraps", unfollowed := true, recurses := true, apart := false }
def DuelTrapsSaid : Prop := duelTrapsRow.holds Try.pinned (OpenSpec.ofChange duelTrapsSpec)

/-- ITS FALSE NEIGHBOUR: 'it returns false'. Refute it at one input. -/
def duelTrapsWrong : ChangeSpec := { name := "duelTraps", fn := fun _ => fun
  | [d1, d2] => { results := [.lit (.bool false)], args := [d1, d2] }
  | _ => none }
def DuelTrapsWrongFalsely : Prop := duelTrapsRow.holds Try.pinned (OpenSpec.ofChange duelTrapsWrong)

/- THE SECOND FORM. 'bulk': how many values and letters a reading holds, each counted each time it is reached (what is shared counts as often as it is met; a slice's spare places count too). A statement '..UptoSaid' is the law's where the arguments, and the package variables that the reading takes, are together of bulk at most 1048576: NARROWER than '..Said'. Prove '..Said' where nothing that the law and all that it calls make is longer than what came in: it says more and counts as full. Else prove '..UptoSaid'. A law counts once. -/
mutual
def uptoBulk {H : Type} : DataW H → Nat
  | .lit (.string bytes) => bytes.length + 1
  | .lit _ => 1
  | .nil => 1
  | .ptr d => uptoBulk d + 1
  | .slice elems spare => uptoBulkAll elems + uptoBulkAll spare + 1
  | .agg parts => uptoBulkAll parts + 1
  | .iface _ d => uptoBulk d + 1
  | .map entries => uptoBulkEntries entries + 1
  | .held _ => 1
def uptoBulkAll {H : Type} : List (DataW H) → Nat
  | [] => 0
  | d :: r => uptoBulk d + uptoBulkAll r
def uptoBulkEntries {H : Type} : List (Lit × DataW H) → Nat
  | [] => 0
  | x :: r => uptoBulkEntry x + uptoBulkEntries r
def uptoBulkEntry {H : Type} : Lit × DataW H → Nat
  | (.string bytes, d) => bytes.length + uptoBulk d + 1
  | (_, d) => uptoBulk d + 1
 end
def uptoSmall : (H : Type) → List (DataW H) → Bool := fun _ ds => decide (uptoBulkAll ds ≤ 1048576)
def OpenSpec.upto (s : _root_.Go.ChangeSpec) : _root_.Go.OpenSpec := { _root_.Go.OpenSpec.ofChange s with cond := some uptoSmall }

/-- 'stilewardlaw5.DuelForces', WHERE WHAT IT READS IS OF BULK AT MOST 1048576: true; the input reads as it did. -/
def duelForcesUptoRow : OpenClaim := { program := "ytkphdegelhlpeaa", sum := "bad65c28de8695a5086600a695f6deacd27b4d6922e7b0412b703db563fcdb32", func := "stileward/stilewardlaw5.DuelForces", spec := "duelForces", unfollowed := true, recurses := true, apart := false, narrowed := true }
def DuelForcesUptoSaid : Prop := duelForcesUptoRow.holds Try.pinned (OpenSpec.upto duelForcesSpec)

/-- 'stilewardlaw5.DuelHides', WHERE WHAT IT READS IS OF BULK AT MOST 1048576: true; the input reads as it did. -/
def duelHidesUptoRow : OpenClaim := { program := "ytkphdegelhlpeaa", sum := "bad65c28de8695a5086600a695f6deacd27b4d6922e7b0412b703db563fcdb32", func := "stileward/stilewardlaw5.DuelHides", spec := "duelHides", unfollowed := true, recurses := true, apart := false, narrowed := true }
def DuelHidesUptoSaid : Prop := duelHidesUptoRow.holds Try.pinned (OpenSpec.upto duelHidesSpec)

/-- 'stilewardlaw5.DuelStep', WHERE WHAT IT READS IS OF BULK AT MOST 1048576: true; the input reads as it did. -/
def duelStepUptoRow : OpenClaim := { program := "ytkphdegelhlpeaa", sum := "bad65c28de8695a5086600a695f6deacd27b4d6922e7b0412b703db563fcdb32", func := "stileward/stilewardlaw5.DuelStep", spec := "duelStep", unfollowed := true, recurses := true, apart := false, narrowed := true }
def DuelStepUptoSaid : Prop := duelStepUptoRow.holds Try.pinned (OpenSpec.upto duelStepSpec)

/-- 'stilewardlaw5.DuelGrows', WHERE WHAT IT READS IS OF BULK AT MOST 1048576: true; the input reads as it did. -/
def duelGrowsUptoRow : OpenClaim := { program := "ytkphdegelhlpeaa", sum := "bad65c28de8695a5086600a695f6deacd27b4d6922e7b0412b703db563fcdb32", func := "stileward/stilewardlaw5.DuelGrows", spec := "duelGrows", unfollowed := true, recurses := true, apart := false, narrowed := true }
def DuelGrowsUptoSaid : Prop := duelGrowsUptoRow.holds Try.pinned (OpenSpec.upto duelGrowsSpec)

/-- 'stilewardlaw5.DuelTraps', WHERE WHAT IT READS IS OF BULK AT MOST 1048576: true; the input reads as it did. -/
def duelTrapsUptoRow : OpenClaim := { program := "ytkphdegelhlpeaa", sum := "bad65c28de8695a5086600a695f6deacd27b4d6922e7b0412b703db563fcdb32", func := "stileward/stilewardlaw5.DuelTraps", spec := "duelTraps", unfollowed := true, recurses := true, apart := false, narrowed := true }
def DuelTrapsUptoSaid : Prop := duelTrapsUptoRow.holds Try.pinned (OpenSpec.upto duelTrapsSpec)

end Rows
end Go.Proofs.Ytkphdegelhlpeaa

/-
  No cell of these rows narrows 'for every input' (looked for: loops, veiled, ifaces, maps, wideKeys, modest, calm, conditions, laid).
  DERIVED. THE GIVEN ROWS OF THIS SEAT. 5 by the template 'for every input the law returns true; each argument reads behind the call as it read before'; 0 by the template 'total and deterministic' (their statements: YtplimhmdhgkplaaTotals.lean).
  GIVEN WITH THE SEED: the statements are not yours to turn. If you find one false, say at which input.
  Laid BY PROGRAM, IN A SANDBOX (cutbox-rows.mjs): the forced cells as the released guide's own fill.sh prints them over the translation c1f9338e7dd3c4c5… (all of the seat's roots in one cut). By AI agents, Wed Nov 11 2026. No macro, syntax, notation, axiom, sorry.
-/
import Derived.Test.YtplimhmdhgkplaaChecked
import GoSem.Claim
import GoSem.ClaimJoined
import GoSem.ClaimMapViews
import Derived.JoinedTies
import Derived.KernelRfl
namespace Go.Proofs.Ytplimhmdhgkplaa
/- THE CELL 'sum', in the pinned program and in every row, IS THE sha256 OF THE DUMP (.gsa) THAT YtplimhmdhgkplaaProg.lean LOADS. Nothing in Lean hashes anything: it is a label: what it is worth is what the hold of that sum in a sandbox is worth. -/
noncomputable def Try.pinned : Pinned := { name := "ytplimhmdhgkplaa", sum := "c1f9338e7dd3c4c5c2a3be277b6512dba958ecdeecbf8a31a6dbe666f59d80d2", checked := Try.checked }
namespace Rows
def none {H : Type} : Left H := { results := [], args := [] }

/-- 'stilewardlaw1.SumJoins': WHATEVER THE INPUT: true; the input reads as it did. -/
def sumJoinsSpec : ChangeSpec := { name := "sumJoins", fn := fun _ => fun
  | [d1, d2] => { results := [.lit (.bool true)], args := [d1, d2] }
  | _ => none }
def sumJoinsRow : OpenClaim := { program := "ytplimhmdhgkplaa", sum := "c1f9338e7dd3c4c5c2a3be277b6512dba958ecdeecbf8a31a6dbe666f59d80d2", func := "stileward/stilewardlaw1.SumJoins", spec := "sumJoins", apart := false }
def SumJoinsSaid : Prop := sumJoinsRow.holds Try.pinned (OpenSpec.ofChange sumJoinsSpec)

/-- ITS FALSE NEIGHBOUR: 'it returns false'. Refute it at one input. -/
def sumJoinsWrong : ChangeSpec := { name := "sumJoins", fn := fun _ => fun
  | [d1, d2] => { results := [.lit (.bool false)], args := [d1, d2] }
  | _ => none }
def SumJoinsWrongFalsely : Prop := sumJoinsRow.holds Try.pinned (OpenSpec.ofChange sumJoinsWrong)

/-- 'stilewardlaw1.SumGroups': WHATEVER THE INPUT: true; the input reads as it did. -/
def sumGroupsSpec : ChangeSpec := { name := "sumGroups", fn := fun _ => fun
  | [d1, d2, d3, d4, d5] => { results := [.lit (.bool true)], args := [d1, d2, d3, d4, d5] }
  | _ => none }
def sumGroupsRow : OpenClaim := { program := "ytplimhmdhgkplaa", sum := "c1f9338e7dd3c4c5c2a3be277b6512dba958ecdeecbf8a31a6dbe666f59d80d2", func := "stileward/stilewardlaw1.SumGroups", spec := "sumGroups", apart := false }
def SumGroupsSaid : Prop := sumGroupsRow.holds Try.pinned (OpenSpec.ofChange sumGroupsSpec)

/-- ITS FALSE NEIGHBOUR: 'it returns false'. Refute it at one input. -/
def sumGroupsWrong : ChangeSpec := { name := "sumGroups", fn := fun _ => fun
  | [d1, d2, d3, d4, d5] => { results := [.lit (.bool false)], args := [d1, d2, d3, d4, d5] }
  | _ => none }
def SumGroupsWrongFalsely : Prop := sumGroupsRow.holds Try.pinned (OpenSpec.ofChange sumGroupsWrong)

/-- 'stilewardlaw1.SumOne': WHATEVER THE INPUT: true; the input reads as it did. -/
def sumOneSpec : ChangeSpec := { name := "sumOne", fn := fun _ => fun
  | [d1, d2, d3] => { results := [.lit (.bool true)], args := [d1, d2, d3] }
  | _ => none }
def sumOneRow : OpenClaim := { program := "ytplimhmdhgkplaa", sum := "c1f9338e7dd3c4c5c2a3be277b6512dba958ecdeecbf8a31a6dbe666f59d80d2", func := "stileward/stilewardlaw1.SumOne", spec := "sumOne", apart := false }
def SumOneSaid : Prop := sumOneRow.holds Try.pinned (OpenSpec.ofChange sumOneSpec)

/-- ITS FALSE NEIGHBOUR: 'it returns false'. Refute it at one input. -/
def sumOneWrong : ChangeSpec := { name := "sumOne", fn := fun _ => fun
  | [d1, d2, d3] => { results := [.lit (.bool false)], args := [d1, d2, d3] }
  | _ => none }
def SumOneWrongFalsely : Prop := sumOneRow.holds Try.pinned (OpenSpec.ofChange sumOneWrong)

/-- 'stilewardlaw1.SumSwap': WHATEVER THE INPUT: true; the input reads as it did. -/
def sumSwapSpec : ChangeSpec := { name := "sumSwap", fn := fun _ => fun
  | [d1, d2] => { results := [.lit (.bool true)], args := [d1, d2] }
  | _ => none }
def sumSwapRow : OpenClaim := { program := "ytplimhmdhgkplaa", sum := "c1f9338e7dd3c4c5c2a3be277b6512dba958ecdeecbf8a31a6dbe666f59d80d2", func := "stileward/stilewardlaw1.SumSwap", spec := "sumSwap", apart := false }
def SumSwapSaid : Prop := sumSwapRow.holds Try.pinned (OpenSpec.ofChange sumSwapSpec)

/-- ITS FALSE NEIGHBOUR: 'it returns false'. Refute it at one input. -/
def sumSwapWrong : ChangeSpec := { name := "sumSwap", fn := fun _ => fun
  | [d1, d2] => { results := [.lit (.bool false)], args := [d1, d2] }
  | _ => none }
def SumSwapWrongFalsely : Prop := sumSwapRow.holds Try.pinned (OpenSpec.ofChange sumSwapWrong)

/-- 'stilewardlaw1.SumRolls': WHATEVER THE INPUT: true; the input reads as it did. -/
def sumRollsSpec : ChangeSpec := { name := "sumRolls", fn := fun _ => fun
  | [d1, d2] => { results := [.lit (.bool true)], args := [d1, d2] }
  | _ => none }
def sumRollsRow : OpenClaim := { program := "ytplimhmdhgkplaa", sum := "c1f9338e7dd3c4c5c2a3be277b6512dba958ecdeecbf8a31a6dbe666f59d80d2", func := "stileward/stilewardlaw1.SumRolls", spec := "sumRolls", apart := false }
def SumRollsSaid : Prop := sumRollsRow.holds Try.pinned (OpenSpec.ofChange sumRollsSpec)

/-- ITS FALSE NEIGHBOUR: 'it returns false'. Refute it at one input. -/
def sumRollsWrong : ChangeSpec := { name := "sumRolls", fn := fun _ => fun
  | [d1, d2] => { results := [.lit (.bool false)], args := [d1, d2] }
  | _ => none }
def SumRollsWrongFalsely : Prop := sumRollsRow.holds Try.pinned (OpenSpec.ofChange sumRollsWrong)

/- THE SECOND FORM. 'bulk': how many values and letters a reading holds, each counted each time it is reached (what is shared counts as often as it is met; a slice's spare places count too). A statement '..UptoSaid' is the law's where the arguments, and the package variables that the reading takes, are together of bulk at most 1048576: NARROWER than '..Said'. Prove '..Said' where nothing that the law and all that it calls make is longer than what came in: it says more and counts as full. Else prove '..UptoSaid'. A law counts once. -/
mutual
def uptoBulk {H : Type} : DataW H → Nat
  | .lit (.string bytes) => bytes.length + 1
  | .lit _ => 1
  | .nil => 1
  | .ptr d => uptoBulk d + 1
  | .slice elems spare => uptoBulkAll elems + uptoBulkAll spare + 1
  | .agg parts => uptoBulkAll parts + 1
  | .iface _ d => uptoBulk d + 1
  | .map entries => uptoBulkEntries entries + 1
  | .held _ => 1
def uptoBulkAll {H : Type} : List (DataW H) → Nat
  | [] => 0
  | d :: r => uptoBulk d + uptoBulkAll r
def uptoBulkEntries {H : Type} : List (Lit × DataW H) → Nat
  | [] => 0
  | x :: r => uptoBulkEntry x + uptoBulkEntries r
def uptoBulkEntry {H : Type} : Lit × DataW H → Nat
  | (.string bytes, d) => bytes.length + uptoBulk d + 1
  | (_, d) => uptoBulk d + 1
 end
def uptoSmall : (H : Type) → List (DataW H) → Bool := fun _ ds => decide (uptoBulkAll ds ≤ 1048576)
def OpenSpec.upto (s : _root_.Go.ChangeSpec) : _root_.Go.OpenSpec := { _root_.Go.OpenSpec.ofChange s with cond := some uptoSmall }

/-- 'stilewardlaw1.SumJoins', WHERE WHAT IT READS IS OF BULK AT MOST 1048576: true; the input reads as it did. -/
def sumJoinsUptoRow : OpenClaim := { program := "ytplimhmdhgkplaa", sum := "c1f9338e7dd3c4c5c2a3be277b6512dba958ecdeecbf8a31a6dbe666f59d80d2", func := "stileward/stilewardlaw1.SumJoins", spec := "sumJoins", apart := false, narrowed := true }
def SumJoinsUptoSaid : Prop := sumJoinsUptoRow.holds Try.pinned (OpenSpec.upto sumJoinsSpec)

/-- 'stilewardlaw1.SumGroups', WHERE WHAT IT READS IS OF BULK AT MOST 1048576: true; the input reads as it did. -/
def sumGroupsUptoRow : OpenClaim := { program := "ytplimhmdhgkplaa", sum := "c1f9338e7dd3c4c5c2a3be277b6512dba958ecdeecbf8a31a6dbe666f59d80d2", func := "stileward/stilewardlaw1.SumGroups", spec := "sumGroups", apart := false, narrowed := true }
def SumGroupsUptoSaid : Prop := sumGroupsUptoRow.holds Try.pinned (OpenSpec.upto sumGroupsSpec)

/-- 'stilewardlaw1.SumOne', WHERE WHAT IT READS IS OF BULK AT MOST 1048576: true; the input reads as it did. -/
def sumOneUptoRow : OpenClaim := { program := "ytplimhmdhgkplaa", sum := "c1f9338e7dd3c4c5c2a3be277b6512dba958ecdeecbf8a31a6dbe666f59d80d2", func := "stileward/stilewardlaw1.SumOne", spec := "sumOne", apart := false, narrowed := true }
def SumOneUptoSaid : Prop := sumOneUptoRow.holds Try.pinned (OpenSpec.upto sumOneSpec)

/-- 'stilewardlaw1.SumSwap', WHERE WHAT IT READS IS OF BULK AT MOST 1048576: true; the input reads as it did. -/
def sumSwapUptoRow : OpenClaim := { program := "ytplimhmdhgkplaa", sum := "c1f9338e7dd3c4c5c2a3be277b6512dba958ecdeecbf8a31a6dbe666f59d80d2", func := "stileward/stilewardlaw1.SumSwap", spec := "sumSwap", apart := false, narrowed := true }
def SumSwapUptoSaid : Prop := sumSwapUptoRow.holds Try.pinned (OpenSpec.upto sumSwapSpec)

/-- 'stilewardlaw1.SumRolls', WHERE WHAT IT READS IS OF BULK AT MOST 1048576: true; the input reads as it did. -/
def sumRollsUptoRow : OpenClaim := { program := "ytplimhmdhgkplaa", sum := "c1f9338e7dd3c4c5c2a3be277b6512dba958ecdeecbf8a31a6dbe666f59d80d2", func := "stileward/stilewardlaw1.SumRolls", spec := "sumRolls", apart := false, narrowed := true }
def SumRollsUptoSaid : Prop := sumRollsUptoRow.holds Try.pinned (OpenSpec.upto sumRollsSpec)

end Rows
end Go.Proofs.Ytplimhmdhgkplaa

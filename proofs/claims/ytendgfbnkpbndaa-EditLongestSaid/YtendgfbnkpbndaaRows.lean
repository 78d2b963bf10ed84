/-
  No cell of these rows narrows 'for every input' (looked for: loops, veiled, ifaces, maps, wideKeys, modest, calm, conditions, laid).
  DERIVED. THE GIVEN ROWS OF THIS SEAT. 5 by the template 'for every input the law returns true; each argument reads behind the call as it read before'; 0 by the template 'total and deterministic' (their statements: YtendgfbnkpbndaaTotals.lean).
  GIVEN WITH THE SEED: the statements are not yours to turn. If you find one false, say at which input.
  Laid BY PROGRAM, IN A SANDBOX (cutbox-rows.mjs): the forced cells as the released guide's own fill.sh prints them over the translation 3c7bf4a096fc01cd… (all of the seat's roots in one cut). By AI agents, Wed Nov 11 2026. No macro, syntax, notation, axiom, sorry.
-/
import Derived.Test.YtendgfbnkpbndaaChecked
import GoSem.Claim
import GoSem.ClaimJoined
import GoSem.ClaimMapViews
import Derived.JoinedTies
import Derived.KernelRfl
namespace Go.Proofs.Ytendgfbnkpbndaa
/- THE CELL 'sum', in the pinned program and in every row, IS THE sha256 OF THE DUMP (.gsa) THAT YtendgfbnkpbndaaProg.lean LOADS. Nothing in Lean hashes anything: it is a label: what it is worth is what the hold of that sum in a sandbox is worth. -/
noncomputable def Try.pinned : Pinned := { name := "ytendgfbnkpbndaa", sum := "3c7bf4a096fc01cd71ddb401782f2b5a4205ba1e0cceed190dd4e51d71433403", checked := Try.checked }
namespace Rows
def none {H : Type} : Left H := { results := [], args := [] }

/-- 'stilewardlaw4.EditSound': WHATEVER THE INPUT: true; the input reads as it did. -/
def editSoundSpec : ChangeSpec := { name := "editSound", fn := fun _ => fun
  | [d1, d2] => { results := [.lit (.bool true)], args := [d1, d2] }
  | _ => none }
def editSoundRow : OpenClaim := { program := "ytendgfbnkpbndaa", sum := "3c7bf4a096fc01cd71ddb401782f2b5a4205ba1e0cceed190dd4e51d71433403", func := "stileward/stilewardlaw4.EditSound", spec := "editSound", plainKeys := false, apart := false }
def EditSoundSaid : Prop := editSoundRow.holds Try.pinned (OpenSpec.ofChange editSoundSpec)

/-- ITS FALSE NEIGHBOUR: 'it returns false'. Refute it at one input. -/
def editSoundWrong : ChangeSpec := { name := "editSound", fn := fun _ => fun
  | [d1, d2] => { results := [.lit (.bool false)], args := [d1, d2] }
  | _ => none }
def EditSoundWrongFalsely : Prop := editSoundRow.holds Try.pinned (OpenSpec.ofChange editSoundWrong)

/-- 'stilewardlaw4.EditClear': WHATEVER THE INPUT: true; the input reads as it did. -/
def editClearSpec : ChangeSpec := { name := "editClear", fn := fun _ => fun
  | [d1, d2] => { results := [.lit (.bool true)], args := [d1, d2] }
  | _ => none }
def editClearRow : OpenClaim := { program := "ytendgfbnkpbndaa", sum := "3c7bf4a096fc01cd71ddb401782f2b5a4205ba1e0cceed190dd4e51d71433403", func := "stileward/stilewardlaw4.EditClear", spec := "editClear", plainKeys := false, apart := false }
def EditClearSaid : Prop := editClearRow.holds Try.pinned (OpenSpec.ofChange editClearSpec)

/-- ITS FALSE NEIGHBOUR: 'it returns false'. Refute it at one input. -/
def editClearWrong : ChangeSpec := { name := "editClear", fn := fun _ => fun
  | [d1, d2] => { results := [.lit (.bool false)], args := [d1, d2] }
  | _ => none }
def EditClearWrongFalsely : Prop := editClearRow.holds Try.pinned (OpenSpec.ofChange editClearWrong)

/-- 'stilewardlaw4.EditKeeps': WHATEVER THE INPUT: true; the input reads as it did. -/
def editKeepsSpec : ChangeSpec := { name := "editKeeps", fn := fun _ => fun
  | [d1, d2] => { results := [.lit (.bool true)], args := [d1, d2] }
  | _ => none }
def editKeepsRow : OpenClaim := { program := "ytendgfbnkpbndaa", sum := "3c7bf4a096fc01cd71ddb401782f2b5a4205ba1e0cceed190dd4e51d71433403", func := "stileward/stilewardlaw4.EditKeeps", spec := "editKeeps", plainKeys := false, apart := false }
def EditKeepsSaid : Prop := editKeepsRow.holds Try.pinned (OpenSpec.ofChange editKeepsSpec)

/-- ITS FALSE NEIGHBOUR: 'it returns false'. Refute it at one input. -/
def editKeepsWrong : ChangeSpec := { name := "editKeeps", fn := fun _ => fun
  | [d1, d2] => { results := [.lit (.bool false)], args := [d1, d2] }
  | _ => none }
def EditKeepsWrongFalsely : Prop := editKeepsRow.holds Try.pinned (OpenSpec.ofChange editKeepsWrong)

/-- 'stilewardlaw4.EditLongest': WHATEVER THE INPUT: true; the input reads as it did. -/
def editLongestSpec : ChangeSpec := { name := "editLongest", fn := fun _ => fun
  | [d1, d2] => { results := [.lit (.bool true)], args := [d1, d2] }
  | _ => none }
def editLongestRow : OpenClaim := { program := "ytendgfbnkpbndaa", sum := "3c7bf4a096fc01cd71ddb401782f2b5a4205ba1e0cceed190dd4e51d71433403", func := "stileward/stilewardlaw4.EditLongest", spec := "editLongest", plainKeys := false, apart := false }
def EditLongestSaid : Prop := editLongestRow.holds Try.pinned (OpenSpec.ofChange editLongestSpec)

/-- ITS FALSE NEIGHBOUR: 'it returns false'. Refute it at one input. -/
def editLongestWrong : ChangeSpec := { name := "editLongest", fn := fun _ => fun
  | [d1, d2] => { results := [.lit (.bool false)], args := [d1, d2] }
  | _ => none }
def EditLongestWrongFalsely : Prop := editLongestRow.holds Try.pinned (OpenSpec.ofChange editLongestWrong)

/-- 'stilewardlaw4.EditGate': WHATEVER THE INPUT: true; the input reads as it did. -/
def editGateSpec : ChangeSpec := { name := "editGate", fn := fun _ => fun
  | [d1, d2] => { results := [.lit (.bool true)], args := [d1, d2] }
  | _ => none }
def editGateRow : OpenClaim := { program := "ytendgfbnkpbndaa", sum := "3c7bf4a096fc01cd71ddb401782f2b5a4205ba1e0cceed190dd4e51d71433403", func := "stileward/stilewardlaw4.EditGate", spec := "editGate", unfollowed := true, recurses := true, plainKeys := false, apart := false }
def EditGateSaid : Prop := editGateRow.holds Try.pinned (OpenSpec.ofChange editGateSpec)

/-- ITS FALSE NEIGHBOUR: 'it returns false'. Refute it at one input. -/
def editGateWrong : ChangeSpec := { name := "editGate", fn := fun _ => fun
  | [d1, d2] => { results := [.lit (.bool false)], args := [d1, d2] }
  | _ => none }
def EditGateWrongFalsely : Prop := editGateRow.holds Try.pinned (OpenSpec.ofChange editGateWrong)

/- THE SECOND FORM. 'bulk': how many values and letters a reading holds, each counted each time it is reached (what is shared counts as often as it is met; a slice's spare places count too). A statement '..UptoSaid' is the law's where the arguments, and the package variables that the reading takes, are together of bulk at most 1048576: NARROWER than '..Said'. Prove '..Said' where nothing that the law and all that it calls make is longer than what came in: it says more and counts as full. Else prove '..UptoSaid'. A law counts once. -/
mutual
def uptoBulk {H : Type} : DataW H → Nat
  | .lit (.string bytes) => bytes.length + 1
  | .lit _ => 1
  | .nil => 1
  | .ptr d => uptoBulk d + 1
  | .slice elems spare => uptoBulkAll elems + uptoBulkAll spare + 1
  | .agg parts => uptoBulkAll parts + 1
  | .iface _ d => uptoBulk d + 1
  | .map entries => uptoBulkEntries entries + 1
  | .held _ => 1
def uptoBulkAll {H : Type} : List (DataW H) → Nat
  | [] => 0
  | d :: r => uptoBulk d + uptoBulkAll r
def uptoBulkEntries {H : Type} : List (Lit × DataW H) → Nat
  | [] => 0
  | x :: r => uptoBulkEntry x + uptoBulkEntries r
def uptoBulkEntry {H : Type} : Lit × DataW H → Nat
  | (.string bytes, d) => bytes.length + uptoBulk d + 1
  | (_, d) => uptoBulk d + 1
 end
def uptoSmall : (H : Type) → List (DataW H) → Bool := fun _ ds => decide (uptoBulkAll ds ≤ 1048576)
def OpenSpec.upto (s : _root_.Go.ChangeSpec) : _root_.Go.OpenSpec := { _root_.Go.OpenSpec.ofChange s with cond := some uptoSmall }

/-- 'stilewardlaw4.EditSound', WHERE WHAT IT READS IS OF BULK AT MOST 1048576: true; the input reads as it did. -/
def editSoundUptoRow : OpenClaim := { program := "ytendgfbnkpbndaa", sum := "3c7bf4a096fc01cd71ddb401782f2b5a4205ba1e0cceed190dd4e51d71433403", func := "stileward/stilewardlaw4.EditSound", spec := "editSound", plainKeys := false, apart := false, narrowed := true }
def EditSoundUptoSaid : Prop := editSoundUptoRow.holds Try.pinned (OpenSpec.upto editSoundSpec)

/-- 'stilewardlaw4.EditClear', WHERE WHAT IT READS IS OF BULK AT MOST 1048576: true; the input reads as it did. -/
def editClearUptoRow : OpenClaim := { program := "ytendgfbnkpbndaa", sum := "3c7bf4a096fc01cd71ddb401782f2b5a4205ba1e0cceed190dd4e51d71433403", func := "stileward/stilewardlaw4.EditClear", spec := "editClear", plainKeys := false, apart := false, narrowed := true }
def EditClearUptoSaid : Prop := editClearUptoRow.holds Try.pinned (OpenSpec.upto editClearSpec)

/-- 'stilewardlaw4.EditKeeps', WHERE WHAT IT READS IS OF BULK AT MOST 1048576: true; the input reads as it did. -/
def editKeepsUptoRow : OpenClaim := { program := "ytendgfbnkpbndaa", sum := "3c7bf4a096fc01cd71ddb401782f2b5a4205ba1e0cceed190dd4e51d71433403", func := "stileward/stilewardlaw4.EditKeeps", spec := "editKeeps", plainKeys := false, apart := false, narrowed := true }
def EditKeepsUptoSaid : Prop := editKeepsUptoRow.holds Try.pinned (OpenSpec.upto editKeepsSpec)

/-- 'stilewardlaw4.EditLongest', WHERE WHAT IT READS IS OF BULK AT MOST 1048576: true; the input reads as it did. -/
def editLongestUptoRow : OpenClaim := { program := "ytendgfbnkpbndaa", sum := "3c7bf4a096fc01cd71ddb401782f2b5a4205ba1e0cceed190dd4e51d71433403", func := "stileward/stilewardlaw4.EditLongest", spec := "editLongest", plainKeys := false, apart := false, narrowed := true }
def EditLongestUptoSaid : Prop := editLongestUptoRow.holds Try.pinned (OpenSpec.upto editLongestSpec)

/-- 'stilewardlaw4.EditGate', WHERE WHAT IT READS IS OF BULK AT MOST 1048576: true; the input reads as it did. -/
def editGateUptoRow : OpenClaim := { program := "ytendgfbnkpbndaa", sum := "3c7bf4a096fc01cd71ddb401782f2b5a4205ba1e0cceed190dd4e51d71433403", func := "stileward/stilewardlaw4.EditGate", spec := "editGate", unfollowed := true, recurses := true, plainKeys := false, apart := false, narrowed := true }
def EditGateUptoSaid : Prop := editGateUptoRow.holds Try.pinned (OpenSpec.upto editGateSpec)

end Rows
end Go.Proofs.Ytendgfbnkpbndaa

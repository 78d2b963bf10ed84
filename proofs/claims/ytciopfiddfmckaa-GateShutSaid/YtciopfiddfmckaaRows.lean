/-
  No cell of these rows narrows 'for every input' (looked for: loops, veiled, ifaces, maps, wideKeys, modest, calm, conditions, laid).
  DERIVED. THE GIVEN ROWS OF THIS SEAT. 7 by the template 'for every input the law returns true; each argument reads behind the call as it read before'; 0 by the template 'total and deterministic' (their statements: YtciopfiddfmckaaTotals.lean).
  GIVEN WITH THE SEED: the statements are not yours to turn. If you find one false, say at which input.
  Laid BY PROGRAM, IN A SANDBOX (cutbox-rows.mjs): the forced cells as the released guide's own fill.sh prints them over the translation 46ab36d2ec1a50da… (all of the seat's roots in one cut). By AI agents, Wed Nov 11 2026. No macro, syntax, notation, axiom, sorry.
-/
import Derived.Test.YtciopfiddfmckaaChecked
import GoSem.Claim
import GoSem.ClaimJoined
import GoSem.ClaimMapViews
import Derived.JoinedTies
import Derived.KernelRfl
namespace Go.Proofs.Ytciopfiddfmckaa
/- THE CELL 'sum', in the pinned program and in every row, IS THE sha256 OF THE DUMP (.gsa) THAT YtciopfiddfmckaaProg.lean LOADS. Nothing in Lean hashes anything: it is a label: what it is worth is what the hold of that sum in a sandbox is worth. -/
noncomputable def Try.pinned : Pinned := { name := "ytciopfiddfmckaa", sum := "46ab36d2ec1a50da6b7574849d79202953e58b455a12470dcc445460c52baeeb", checked := Try.checked }
namespace Rows
def none {H : Type} : Left H := { results := [], args := [] }

/-- 'stilewardlaw4.SafeClass': WHATEVER THE INPUT: true; the input reads as it did. -/
def safeClassSpec : ChangeSpec := { name := "safeClass", fn := fun _ => fun
  | [d] => { results := [.lit (.bool true)], args := [d] }
  | _ => none }
def safeClassRow : OpenClaim := { program := "ytciopfiddfmckaa", sum := "46ab36d2ec1a50da6b7574849d79202953e58b455a12470dcc445460c52baeeb", func := "stileward/stilewardlaw4.SafeClass", spec := "safeClass", unfollowed := true, recurses := true, plainKeys := false, apart := false }
def SafeClassSaid : Prop := safeClassRow.holds Try.pinned (OpenSpec.ofChange safeClassSpec)

/-- ITS FALSE NEIGHBOUR: 'it returns false'. Refute it at one input. -/
def safeClassWrong : ChangeSpec := { name := "safeClass", fn := fun _ => fun
  | [d] => { results := [.lit (.bool false)], args := [d] }
  | _ => none }
def SafeClassWrongFalsely : Prop := safeClassRow.holds Try.pinned (OpenSpec.ofChange safeClassWrong)

/-- 'stilewardlaw4.GateSound': WHATEVER THE INPUT: true; the input reads as it did. -/
def gateSoundSpec : ChangeSpec := { name := "gateSound", fn := fun _ => fun
  | [d1, d2] => { results := [.lit (.bool true)], args := [d1, d2] }
  | _ => none }
def gateSoundRow : OpenClaim := { program := "ytciopfiddfmckaa", sum := "46ab36d2ec1a50da6b7574849d79202953e58b455a12470dcc445460c52baeeb", func := "stileward/stilewardlaw4.GateSound", spec := "gateSound", unfollowed := true, recurses := true, plainKeys := false, apart := false }
def GateSoundSaid : Prop := gateSoundRow.holds Try.pinned (OpenSpec.ofChange gateSoundSpec)

/-- ITS FALSE NEIGHBOUR: 'it returns false'. Refute it at one input. -/
def gateSoundWrong : ChangeSpec := { name := "gateSound", fn := fun _ => fun
  | [d1, d2] => { results := [.lit (.bool false)], args := [d1, d2] }
  | _ => none }
def GateSoundWrongFalsely : Prop := gateSoundRow.holds Try.pinned (OpenSpec.ofChange gateSoundWrong)

/-- 'stilewardlaw4.GateClear': WHATEVER THE INPUT: true; the input reads as it did. -/
def gateClearSpec : ChangeSpec := { name := "gateClear", fn := fun _ => fun
  | [d1, d2] => { results := [.lit (.bool true)], args := [d1, d2] }
  | _ => none }
def gateClearRow : OpenClaim := { program := "ytciopfiddfmckaa", sum := "46ab36d2ec1a50da6b7574849d79202953e58b455a12470dcc445460c52baeeb", func := "stileward/stilewardlaw4.GateClear", spec := "gateClear", unfollowed := true, recurses := true, plainKeys := false, apart := false }
def GateClearSaid : Prop := gateClearRow.holds Try.pinned (OpenSpec.ofChange gateClearSpec)

/-- ITS FALSE NEIGHBOUR: 'it returns false'. Refute it at one input. -/
def gateClearWrong : ChangeSpec := { name := "gateClear", fn := fun _ => fun
  | [d1, d2] => { results := [.lit (.bool false)], args := [d1, d2] }
  | _ => none }
def GateClearWrongFalsely : Prop := gateClearRow.holds Try.pinned (OpenSpec.ofChange gateClearWrong)

/-- 'stilewardlaw4.GateShut': WHATEVER THE INPUT: true; the input reads as it did. -/
def gateShutSpec : ChangeSpec := { name := "gateShut", fn := fun _ => fun
  | [d1, d2, d3] => { results := [.lit (.bool true)], args := [d1, d2, d3] }
  | _ => none }
def gateShutRow : OpenClaim := { program := "ytciopfiddfmckaa", sum := "46ab36d2ec1a50da6b7574849d79202953e58b455a12470dcc445460c52baeeb", func := "stileward/stilewardlaw4.GateShut", spec := "gateShut", unfollowed := true, recurses := true, plainKeys := false, apart := false }
def GateShutSaid : Prop := gateShutRow.holds Try.pinned (OpenSpec.ofChange gateShutSpec)

/-- ITS FALSE NEIGHBOUR: 'it returns false'. Refute it at one input. -/
def gateShutWrong : ChangeSpec := { name := "gateShut", fn := fun _ => fun
  | [d1, d2, d3] => { results := [.lit (.bool false)], args := [d1, d2, d3] }
  | _ => none }
def GateShutWrongFalsely : Prop := gateShutRow.holds Try.pinned (OpenSpec.ofChange gateShutWrong)

/-- 'stilewardlaw4.GateTwo': WHATEVER THE INPUT: true; the input reads as it did. -/
def gateTwoSpec : ChangeSpec := { name := "gateTwo", fn := fun _ => fun
  | [d1, d2, d3] => { results := [.lit (.bool true)], args := [d1, d2, d3] }
  | _ => none }
def gateTwoRow : OpenClaim := { program := "ytciopfiddfmckaa", sum := "46ab36d2ec1a50da6b7574849d79202953e58b455a12470dcc445460c52baeeb", func := "stileward/stilewardlaw4.GateTwo", spec := "gateTwo", unfollowed := true, recurses := true, plainKeys := false, apart := false }
def GateTwoSaid : Prop := gateTwoRow.holds Try.pinned (OpenSpec.ofChange gateTwoSpec)

/-- ITS FALSE NEIGHBOUR: 'it returns false'. Refute it at one input. -/
def gateTwoWrong : ChangeSpec := { name := "gateTwo", fn := fun _ => fun
  | [d1, d2, d3] => { results := [.lit (.bool false)], args := [d1, d2, d3] }
  | _ => none }
def GateTwoWrongFalsely : Prop := gateTwoRow.holds Try.pinned (OpenSpec.ofChange gateTwoWrong)

/-- 'stilewardlaw4.GateNew': WHATEVER THE INPUT: true; the input reads as it did. -/
def gateNewSpec : ChangeSpec := { name := "gateNew", fn := fun _ => fun
  | [d] => { results := [.lit (.bool true)], args := [d] }
  | _ => none }
def gateNewRow : OpenClaim := { program := "ytciopfiddfmckaa", sum := "46ab36d2ec1a50da6b7574849d79202953e58b455a12470dcc445460c52baeeb", func := "stileward/stilewardlaw4.GateNew", spec := "gateNew", unfollowed := true, recurses := true, plainKeys := false, apart := false }
def GateNewSaid : Prop := gateNewRow.holds Try.pinned (OpenSpec.ofChange gateNewSpec)

/-- ITS FALSE NEIGHBOUR: 'it returns false'. Refute it at one input. -/
def gateNewWrong : ChangeSpec := { name := "gateNew", fn := fun _ => fun
  | [d] => { results := [.lit (.bool false)], args := [d] }
  | _ => none }
def GateNewWrongFalsely : Prop := gateNewRow.holds Try.pinned (OpenSpec.ofChange gateNewWrong)

/-- 'stilewardtop.TopVerdict': WHATEVER THE INPUT: true; the input reads as it did. -/
def topVerdictSpec : ChangeSpec := { name := "topVerdict", fn := fun _ => fun
  | [d1, d2] => { results := [.lit (.bool true)], args := [d1, d2] }
  | _ => none }
def topVerdictRow : OpenClaim := { program := "ytciopfiddfmckaa", sum := "46ab36d2ec1a50da6b7574849d79202953e58b455a12470dcc445460c52baeeb", func := "stileward/stilewardtop.TopVerdict", spec := "topVerdict", unfollowed := true, recurses := true, plainKeys := false, apart := false }
def TopVerdictSaid : Prop := topVerdictRow.holds Try.pinned (OpenSpec.ofChange topVerdictSpec)

/-- ITS FALSE NEIGHBOUR: 'it returns false'. Refute it at one input. -/
def topVerdictWrong : ChangeSpec := { name := "topVerdict", fn := fun _ => fun
  | [d1, d2] => { results := [.lit (.bool false)], args := [d1, d2] }
  | _ => none }
def TopVerdictWrongFalsely : Prop := topVerdictRow.holds Try.pinned (OpenSpec.ofChange topVerdictWrong)

/- THE SECOND FORM. 'bulk': how many values and letters a reading holds, each counted each time it is reached (what is shared counts as often as it is met; a slice's spare places count too). A statement '..UptoSaid' is the law's where the arguments, and the package variables that the reading takes, are together of bulk at most 1048576: NARROWER than '..Said'. Prove '..Said' where nothing that the law and all that it calls make is longer than what came in: it says more and counts as full. Else prove '..UptoSaid'. A law counts once. -/
mutual
def uptoBulk {H : Type} : DataW H → Nat
  | .lit (.string bytes) => bytes.length + 1
  | .lit _ => 1
  | .nil => 1
  | .ptr d => uptoBulk d + 1
  | .slice elems spare => uptoBulkAll elems + uptoBulkAll spare + 1
  | .agg parts => uptoBulkAll parts + 1
  | .iface _ d => uptoBulk d + 1
  | .map entries => uptoBulkEntries entries + 1
  | .held _ => 1
def uptoBulkAll {H : Type} : List (DataW H) → Nat
  | [] => 0
  | d :: r => uptoBulk d + uptoBulkAll r
def uptoBulkEntries {H : Type} : List (Lit × DataW H) → Nat
  | [] => 0
  | x :: r => uptoBulkEntry x + uptoBulkEntries r
def uptoBulkEntry {H : Type} : Lit × DataW H → Nat
  | (.string bytes, d) => bytes.length + uptoBulk d + 1
  | (_, d) => uptoBulk d + 1
 end
def uptoSmall : (H : Type) → List (DataW H) → Bool := fun _ ds => decide (uptoBulkAll ds ≤ 1048576)
def OpenSpec.upto (s : _root_.Go.ChangeSpec) : _root_.Go.OpenSpec := { _root_.Go.OpenSpec.ofChange s with cond := some uptoSmall }

/-- 'stilewardlaw4.SafeClass', WHERE WHAT IT READS IS OF BULK AT MOST 1048576: true; the input reads as it did. -/
def safeClassUptoRow : OpenClaim := { program := "ytciopfiddfmckaa", sum := "46ab36d2ec1a50da6b7574849d79202953e58b455a12470dcc445460c52baeeb", func := "stileward/stilewardlaw4.SafeClass", spec := "safeClass", unfollowed := true, recurses := true, plainKeys := false, apart := false, narrowed := true }
def SafeClassUptoSaid : Prop := safeClassUptoRow.holds Try.pinned (OpenSpec.upto safeClassSpec)

/-- 'stilewardlaw4.GateSound', WHERE WHAT IT READS IS OF BULK AT MOST 1048576: true; the input reads as it did. -/
def gateSoundUptoRow : OpenClaim := { program := "ytciopfiddfmckaa", sum := "46ab36d2ec1a50da6b7574849d79202953e58b455a12470dcc445460c52baeeb", func := "stileward/stilewardlaw4.GateSound", spec := "gateSound", unfollowed := true, recurses := true, plainKeys := false, apart := false, narrowed := true }
def GateSoundUptoSaid : Prop := gateSoundUptoRow.holds Try.pinned (OpenSpec.upto gateSoundSpec)

/-- 'stilewardlaw4.GateClear', WHERE WHAT IT READS IS OF BULK AT MOST 1048576: true; the input reads as it did. -/
def gateClearUptoRow : OpenClaim := { program := "ytciopfiddfmckaa", sum := "46ab36d2ec1a50da6b7574849d79202953e58b455a12470dcc445460c52baeeb", func := "stileward/stilewardlaw4.GateClear", spec := "gateClear", unfollowed := true, recurses := true, plainKeys := false, apart := false, narrowed := true }
def GateClearUptoSaid : Prop := gateClearUptoRow.holds Try.pinned (OpenSpec.upto gateClearSpec)

/-- 'stilewardlaw4.GateShut', WHERE WHAT IT READS IS OF BULK AT MOST 1048576: true; the input reads as it did. -/
def gateShutUptoRow : OpenClaim := { program := "ytciopfiddfmckaa", sum := "46ab36d2ec1a50da6b7574849d79202953e58b455a12470dcc445460c52baeeb", func := "stileward/stilewardlaw4.GateShut", spec := "gateShut", unfollowed := true, recurses := true, plainKeys := false, apart := false, narrowed := true }
def GateShutUptoSaid : Prop := gateShutUptoRow.holds Try.pinned (OpenSpec.upto gateShutSpec)

/-- 'stilewardlaw4.GateTwo', WHERE WHAT IT READS IS OF BULK AT MOST 1048576: true; the input reads as it did. -/
def gateTwoUptoRow : OpenClaim := { program := "ytciopfiddfmckaa", sum := "46ab36d2ec1a50da6b7574849d79202953e58b455a12470dcc445460c52baeeb", func := "stileward/stilewardlaw4.GateTwo", spec := "gateTwo", unfollowed := true, recurses := true, plainKeys := false, apart := false, narrowed := true }
def GateTwoUptoSaid : Prop := gateTwoUptoRow.holds Try.pinned (OpenSpec.upto gateTwoSpec)

/-- 'stilewardlaw4.GateNew', WHERE WHAT IT READS IS OF BULK AT MOST 1048576: true; the input reads as it did. -/
def gateNewUptoRow : OpenClaim := { program := "ytciopfiddfmckaa", sum := "46ab36d2ec1a50da6b7574849d79202953e58b455a12470dcc445460c52baeeb", func := "stileward/stilewardlaw4.GateNew", spec := "gateNew", unfollowed := true, recurses := true, plainKeys := false, apart := false, narrowed := true }
def GateNewUptoSaid : Prop := gateNewUptoRow.holds Try.pinned (OpenSpec.upto gateNewSpec)

/-- 'stilewardtop.TopVerdict', WHERE WHAT IT READS IS OF BULK AT MOST 1048576: true; the input reads as it did. -/
def topVerdictUptoRow : OpenClaim := { program := "ytciopfiddfmckaa", sum := "46ab36d2ec1a50da6b7574849d79202953e58b455a12470dcc445460c52baeeb", func := "stileward/stilewardtop.TopVerdict", spec := "topVerdict", unfollowed := true, recurses := true, plainKeys := false, apart := false, narrowed := true }
def TopVerdictUptoSaid : Prop := topVerdictUptoRow.holds Try.pinned (OpenSpec.upto topVerdictSpec)

end Rows
end Go.Proofs.Ytciopfiddfmckaa

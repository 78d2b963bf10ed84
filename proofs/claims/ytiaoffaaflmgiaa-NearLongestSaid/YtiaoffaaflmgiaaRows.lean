/-
  No cell of these rows narrows 'for every input' (looked for: loops, veiled, ifaces, maps, wideKeys, modest, calm, conditions, laid).
  DERIVED. THE GIVEN ROWS OF THIS SEAT. 4 by the template 'for every input the law returns true; each argument reads behind the call as it read before'; 0 by the template 'total and deterministic' (their statements: YtiaoffaaflmgiaaTotals.lean).
  GIVEN WITH THE SEED: the statements are not yours to turn. If you find one false, say at which input.
  Laid BY PROGRAM, IN A SANDBOX (cutbox-rows.mjs): the forced cells as the released guide's own fill.sh prints them over the translation d4d65ea0f042f9e7… (all of the seat's roots in one cut). By AI agents, Wed Nov 11 2026. No macro, syntax, notation, axiom, sorry.
-/
import Derived.Test.YtiaoffaaflmgiaaChecked
import GoSem.Claim
import GoSem.ClaimJoined
import GoSem.ClaimMapViews
import Derived.JoinedTies
import Derived.KernelRfl
namespace Go.Proofs.Ytiaoffaaflmgiaa
/- THE CELL 'sum', in the pinned program and in every row, IS THE sha256 OF THE DUMP (.gsa) THAT YtiaoffaaflmgiaaProg.lean LOADS. Nothing in Lean hashes anything: it is a label: what it is worth is what the hold of that sum in a sandbox is worth. -/
noncomputable def Try.pinned : Pinned := { name := "ytiaoffaaflmgiaa", sum := "d4d65ea0f042f9e763dff21ff15eb454cdeec2790d8857d3b234de666cd8b402", checked := Try.checked }
namespace Rows
def none {H : Type} : Left H := { results := [], args := [] }

/-- 'stilewardlaw1.NearMetric': WHATEVER THE INPUT: true; the input reads as it did. -/
def nearMetricSpec : ChangeSpec := { name := "nearMetric", fn := fun _ => fun
  | [d1, d2, d3, d4] => { results := [.lit (.bool true)], args := [d1, d2, d3, d4] }
  | _ => none }
def nearMetricRow : OpenClaim := { program := "ytiaoffaaflmgiaa", sum := "d4d65ea0f042f9e763dff21ff15eb454cdeec2790d8857d3b234de666cd8b402", func := "stileward/stilewardlaw1.NearMetric", spec := "nearMetric", apart := false }
def NearMetricSaid : Prop := nearMetricRow.holds Try.pinned (OpenSpec.ofChange nearMetricSpec)

/-- ITS FALSE NEIGHBOUR: 'it returns false'. Refute it at one input. -/
def nearMetricWrong : ChangeSpec := { name := "nearMetric", fn := fun _ => fun
  | [d1, d2, d3, d4] => { results := [.lit (.bool false)], args := [d1, d2, d3, d4] }
  | _ => none }
def NearMetricWrongFalsely : Prop := nearMetricRow.holds Try.pinned (OpenSpec.ofChange nearMetricWrong)

/-- 'stilewardlaw1.NearLongest': WHATEVER THE INPUT: true; the input reads as it did. -/
def nearLongestSpec : ChangeSpec := { name := "nearLongest", fn := fun _ => fun
  | [d1, d2, d3, d4] => { results := [.lit (.bool true)], args := [d1, d2, d3, d4] }
  | _ => none }
def nearLongestRow : OpenClaim := { program := "ytiaoffaaflmgiaa", sum := "d4d65ea0f042f9e763dff21ff15eb454cdeec2790d8857d3b234de666cd8b402", func := "stileward/stilewardlaw1.NearLongest", spec := "nearLongest", apart := false }
def NearLongestSaid : Prop := nearLongestRow.holds Try.pinned (OpenSpec.ofChange nearLongestSpec)

/-- ITS FALSE NEIGHBOUR: 'it returns false'. Refute it at one input. -/
def nearLongestWrong : ChangeSpec := { name := "nearLongest", fn := fun _ => fun
  | [d1, d2, d3, d4] => { results := [.lit (.bool false)], args := [d1, d2, d3, d4] }
  | _ => none }
def NearLongestWrongFalsely : Prop := nearLongestRow.holds Try.pinned (OpenSpec.ofChange nearLongestWrong)

/-- 'stilewardlaw1.NearBounds': WHATEVER THE INPUT: true; the input reads as it did. -/
def nearBoundsSpec : ChangeSpec := { name := "nearBounds", fn := fun _ => fun
  | [d1, d2, d3] => { results := [.lit (.bool true)], args := [d1, d2, d3] }
  | _ => none }
def nearBoundsRow : OpenClaim := { program := "ytiaoffaaflmgiaa", sum := "d4d65ea0f042f9e763dff21ff15eb454cdeec2790d8857d3b234de666cd8b402", func := "stileward/stilewardlaw1.NearBounds", spec := "nearBounds", apart := false }
def NearBoundsSaid : Prop := nearBoundsRow.holds Try.pinned (OpenSpec.ofChange nearBoundsSpec)

/-- ITS FALSE NEIGHBOUR: 'it returns false'. Refute it at one input. -/
def nearBoundsWrong : ChangeSpec := { name := "nearBounds", fn := fun _ => fun
  | [d1, d2, d3] => { results := [.lit (.bool false)], args := [d1, d2, d3] }
  | _ => none }
def NearBoundsWrongFalsely : Prop := nearBoundsRow.holds Try.pinned (OpenSpec.ofChange nearBoundsWrong)

/-- 'stilewardlaw1.NearOnly': WHATEVER THE INPUT: true; the input reads as it did. -/
def nearOnlySpec : ChangeSpec := { name := "nearOnly", fn := fun _ => fun
  | [d1, d2, d3, d4] => { results := [.lit (.bool true)], args := [d1, d2, d3, d4] }
  | _ => none }
def nearOnlyRow : OpenClaim := { program := "ytiaoffaaflmgiaa", sum := "d4d65ea0f042f9e763dff21ff15eb454cdeec2790d8857d3b234de666cd8b402", func := "stileward/stilewardlaw1.NearOnly", spec := "nearOnly", apart := false }
def NearOnlySaid : Prop := nearOnlyRow.holds Try.pinned (OpenSpec.ofChange nearOnlySpec)

/-- ITS FALSE NEIGHBOUR: 'it returns false'. Refute it at one input. -/
def nearOnlyWrong : ChangeSpec := { name := "nearOnly", fn := fun _ => fun
  | [d1, d2, d3, d4] => { results := [.lit (.bool false)], args := [d1, d2, d3, d4] }
  | _ => none }
def NearOnlyWrongFalsely : Prop := nearOnlyRow.holds Try.pinned (OpenSpec.ofChange nearOnlyWrong)

/- THE SECOND FORM. 'bulk': how many values and letters a reading holds, each counted each time it is reached (what is shared counts as often as it is met; a slice's spare places count too). A statement '..UptoSaid' is the law's where the arguments, and the package variables that the reading takes, are together of bulk at most 1048576: NARROWER than '..Said'. Prove '..Said' where nothing that the law and all that it calls make is longer than what came in: it says more and counts as full. Else prove '..UptoSaid'. A law counts once. -/
mutual
def uptoBulk {H : Type} : DataW H → Nat
  | .lit (.string bytes) => bytes.length + 1
  | .lit _ => 1
  | .nil => 1
  | .ptr d => uptoBulk d + 1
  | .slice elems spare => uptoBulkAll elems + uptoBulkAll spare + 1
  | .agg parts => uptoBulkAll parts + 1
  | .iface _ d => uptoBulk d + 1
  | .map entries => uptoBulkEntries entries + 1
  | .held _ => 1
def uptoBulkAll {H : Type} : List (DataW H) → Nat
  | [] => 0
  | d :: r => uptoBulk d + uptoBulkAll r
def uptoBulkEntries {H : Type} : List (Lit × DataW H) → Nat
  | [] => 0
  | x :: r => uptoBulkEntry x + uptoBulkEntries r
def uptoBulkEntry {H : Type} : Lit × DataW H → Nat
  | (.string bytes, d) => bytes.length + uptoBulk d + 1
  | (_, d) => uptoBulk d + 1
 end
def uptoSmall : (H : Type) → List (DataW H) → Bool := fun _ ds => decide (uptoBulkAll ds ≤ 1048576)
def OpenSpec.upto (s : _root_.Go.ChangeSpec) : _root_.Go.OpenSpec := { _root_.Go.OpenSpec.ofChange s with cond := some uptoSmall }

/-- 'stilewardlaw1.NearMetric', WHERE WHAT IT READS IS OF BULK AT MOST 1048576: true; the input reads as it did. -/
def nearMetricUptoRow : OpenClaim := { program := "ytiaoffaaflmgiaa", sum := "d4d65ea0f042f9e763dff21ff15eb454cdeec2790d8857d3b234de666cd8b402", func := "stileward/stilewardlaw1.NearMetric", spec := "nearMetric", apart := false, narrowed := true }
def NearMetricUptoSaid : Prop := nearMetricUptoRow.holds Try.pinned (OpenSpec.upto nearMetricSpec)

/-- 'stilewardlaw1.NearLongest', WHERE WHAT IT READS IS OF BULK AT MOST 1048576: true; the input reads as it did. -/
def nearLongestUptoRow : OpenClaim := { program := "ytiaoffaaflmgiaa", sum := "d4d65ea0f042f9e763dff21ff15eb454cdeec2790d8857d3b234de666cd8b402", func := "stileward/stilewardlaw1.NearLongest", spec := "nearLongest", apart := false, narrowed := true }
def NearLongestUptoSaid : Prop := nearLongestUptoRow.holds Try.pinned (OpenSpec.upto nearLongestSpec)

/-- 'stilewardlaw1.NearBounds', WHERE WHAT IT READS IS OF BULK AT MOST 1048576: true; the input reads as it did. -/
def nearBoundsUptoRow : OpenClaim := { program := "ytiaoffaaflmgiaa", sum := "d4d65ea0f042f9e763dff21ff15eb454cdeec2790d8857d3b234de666cd8b402", func := "stileward/stilewardlaw1.NearBounds", spec := "nearBounds", apart := false, narrowed := true }
def NearBoundsUptoSaid : Prop := nearBoundsUptoRow.holds Try.pinned (OpenSpec.upto nearBoundsSpec)

/-- 'stilewardlaw1.NearOnly', WHERE WHAT IT READS IS OF BULK AT MOST 1048576: true; the input reads as it did. -/
def nearOnlyUptoRow : OpenClaim := { program := "ytiaoffaaflmgiaa", sum := "d4d65ea0f042f9e763dff21ff15eb454cdeec2790d8857d3b234de666cd8b402", func := "stileward/stilewardlaw1.NearOnly", spec := "nearOnly", apart := false, narrowed := true }
def NearOnlyUptoSaid : Prop := nearOnlyUptoRow.holds Try.pinned (OpenSpec.upto nearOnlySpec)

end Rows
end Go.Proofs.Ytiaoffaaflmgiaa

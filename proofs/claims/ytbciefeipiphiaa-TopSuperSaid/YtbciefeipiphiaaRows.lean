/-
  No cell of these rows narrows 'for every input' (looked for: loops, veiled, ifaces, maps, wideKeys, modest, calm, conditions, laid).
  DERIVED. THE GIVEN ROWS OF THIS SEAT. 5 by the template 'for every input the law returns true; each argument reads behind the call as it read before'; 0 by the template 'total and deterministic' (their statements: YtbciefeipiphiaaTotals.lean).
  GIVEN WITH THE SEED: the statements are not yours to turn. If you find one false, say at which input.
  Laid BY PROGRAM, IN A SANDBOX (cutbox-rows.mjs): the forced cells as the released guide's own fill.sh prints them over the translation d142c1308a11d2a4… (all of the seat's roots in one cut). By AI agents, Wed Nov 11 2026. No macro, syntax, notation, axiom, sorry.
-/
import Derived.Test.YtbciefeipiphiaaChecked
import GoSem.Claim
import GoSem.ClaimJoined
import GoSem.ClaimMapViews
import Derived.JoinedTies
import Derived.KernelRfl
namespace Go.Proofs.Ytbciefeipiphiaa
/- THE CELL 'sum', in the pinned program and in every row, IS THE sha256 OF THE DUMP (.gsa) THAT YtbciefeipiphiaaProg.lean LOADS. Nothing in Lean hashes anything: it is a label: what it is worth is what the hold of that sum in a sandbox is worth. -/
noncomputable def Try.pinned : Pinned := { name := "ytbciefeipiphiaa", sum := "d142c1308a11d2a4fc91287b9bf6e08caa969766cbf611fa98e3e61945cdfea2", checked := Try.checked }
namespace Rows
def none {H : Type} : Left H := { results := [], args := [] }

/-- 'stilewardlaw5.SuperWithin': WHATEVER THE INPUT: true; the input reads as it did. -/
def superWithinSpec : ChangeSpec := { name := "superWithin", fn := fun _ => fun
  | [d1, d2, d3, d4] => { results := [.lit (.bool true)], args := [d1, d2, d3, d4] }
  | _ => none }
def superWithinRow : OpenClaim := { program := "ytbciefeipiphiaa", sum := "d142c1308a11d2a4fc91287b9bf6e08caa969766cbf611fa98e3e61945cdfea2", func := "stileward/stilewardlaw5.SuperWithin", spec := "superWithin", unfollowed := true, recurses := true, plainKeys := false, apart := false }
def SuperWithinSaid : Prop := superWithinRow.holds Try.pinned (OpenSpec.ofChange superWithinSpec)

/-- ITS FALSE NEIGHBOUR: 'it returns false'. Refute it at one input. -/
def superWithinWrong : ChangeSpec := { name := "superWithin", fn := fun _ => fun
  | [d1, d2, d3, d4] => { results := [.lit (.bool false)], args := [d1, d2, d3, d4] }
  | _ => none }
def SuperWithinWrongFalsely : Prop := superWithinRow.holds Try.pinned (OpenSpec.ofChange superWithinWrong)

/-- 'stilewardlaw5.SuperKept': WHATEVER THE INPUT: true; the input reads as it did. -/
def superKeptSpec : ChangeSpec := { name := "superKept", fn := fun _ => fun
  | [d1, d2, d3] => { results := [.lit (.bool true)], args := [d1, d2, d3] }
  | _ => none }
def superKeptRow : OpenClaim := { program := "ytbciefeipiphiaa", sum := "d142c1308a11d2a4fc91287b9bf6e08caa969766cbf611fa98e3e61945cdfea2", func := "stileward/stilewardlaw5.SuperKept", spec := "superKept", unfollowed := true, recurses := true, plainKeys := false, apart := false }
def SuperKeptSaid : Prop := superKeptRow.holds Try.pinned (OpenSpec.ofChange superKeptSpec)

/-- ITS FALSE NEIGHBOUR: 'it returns false'. Refute it at one input. -/
def superKeptWrong : ChangeSpec := { name := "superKept", fn := fun _ => fun
  | [d1, d2, d3] => { results := [.lit (.bool false)], args := [d1, d2, d3] }
  | _ => none }
def SuperKeptWrongFalsely : Prop := superKeptRow.holds Try.pinned (OpenSpec.ofChange superKeptWrong)

/-- 'stilewardlaw5.SuperFewer': WHATEVER THE INPUT: true; the input reads as it did. -/
def superFewerSpec : ChangeSpec := { name := "superFewer", fn := fun _ => fun
  | [d1, d2, d3, d4, d5] => { results := [.lit (.bool true)], args := [d1, d2, d3, d4, d5] }
  | _ => none }
def superFewerRow : OpenClaim := { program := "ytbciefeipiphiaa", sum := "d142c1308a11d2a4fc91287b9bf6e08caa969766cbf611fa98e3e61945cdfea2", func := "stileward/stilewardlaw5.SuperFewer", spec := "superFewer", unfollowed := true, recurses := true, plainKeys := false, apart := false }
def SuperFewerSaid : Prop := superFewerRow.holds Try.pinned (OpenSpec.ofChange superFewerSpec)

/-- ITS FALSE NEIGHBOUR: 'it returns false'. Refute it at one input. -/
def superFewerWrong : ChangeSpec := { name := "superFewer", fn := fun _ => fun
  | [d1, d2, d3, d4, d5] => { results := [.lit (.bool false)], args := [d1, d2, d3, d4, d5] }
  | _ => none }
def SuperFewerWrongFalsely : Prop := superFewerRow.holds Try.pinned (OpenSpec.ofChange superFewerWrong)

/-- 'stilewardlaw5.SuperWord': WHATEVER THE INPUT: true; the input reads as it did. -/
def superWordSpec : ChangeSpec := { name := "superWord", fn := fun _ => fun
  | [d1, d2, d3] => { results := [.lit (.bool true)], args := [d1, d2, d3] }
  | _ => none }
def superWordRow : OpenClaim := { program := "ytbciefeipiphiaa", sum := "d142c1308a11d2a4fc91287b9bf6e08caa969766cbf611fa98e3e61945cdfea2", func := "stileward/stilewardlaw5.SuperWord", spec := "superWord", unfollowed := true, recurses := true, plainKeys := false, apart := false }
def SuperWordSaid : Prop := superWordRow.holds Try.pinned (OpenSpec.ofChange superWordSpec)

/-- ITS FALSE NEIGHBOUR: 'it returns false'. Refute it at one input. -/
def superWordWrong : ChangeSpec := { name := "superWord", fn := fun _ => fun
  | [d1, d2, d3] => { results := [.lit (.bool false)], args := [d1, d2, d3] }
  | _ => none }
def SuperWordWrongFalsely : Prop := superWordRow.holds Try.pinned (OpenSpec.ofChange superWordWrong)

/-- 'stilewardtop.TopSuper': WHATEVER THE INPUT: true; the input reads as it did. -/
def topSuperSpec : ChangeSpec := { name := "topSuper", fn := fun _ => fun
  | [d1, d2, d3, d4] => { results := [.lit (.bool true)], args := [d1, d2, d3, d4] }
  | _ => none }
def topSuperRow : OpenClaim := { program := "ytbciefeipiphiaa", sum := "d142c1308a11d2a4fc91287b9bf6e08caa969766cbf611fa98e3e61945cdfea2", func := "stileward/stilewardtop.TopSuper", spec := "topSuper", unfollowed := true, recurses := true, plainKeys := false, apart := false }
def TopSuperSaid : Prop := topSuperRow.holds Try.pinned (OpenSpec.ofChange topSuperSpec)

/-- ITS FALSE NEIGHBOUR: 'it returns false'. Refute it at one input. -/
def topSuperWrong : ChangeSpec := { name := "topSuper", fn := fun _ => fun
  | [d1, d2, d3, d4] => { results := [.lit (.bool false)], args := [d1, d2, d3, d4] }
  | _ => none }
def TopSuperWrongFalsely : Prop := topSuperRow.holds Try.pinned (OpenSpec.ofChange topSuperWrong)

/- THE SECOND FORM. 'bulk': how many values and letters a reading holds, each counted each time it is reached (what is shared counts as often as it is met; a slice's spare places count too). A statement '..UptoSaid' is the law's where the arguments, and the package variables that the reading takes, are together of bulk at most 1048576: NARROWER than '..Said'. Prove '..Said' where nothing that the law and all that it calls make is longer than what came in: it says more and counts as full. Else prove '..UptoSaid'. A law counts once. -/
mutual
def uptoBulk {H : Type} : DataW H → Nat
  | .lit (.string bytes) => bytes.length + 1
  | .lit _ => 1
  | .nil => 1
  | .ptr d => uptoBulk d + 1
  | .slice elems spare => uptoBulkAll elems + uptoBulkAll spare + 1
  | .agg parts => uptoBulkAll parts + 1
  | .iface _ d => uptoBulk d + 1
  | .map entries => uptoBulkEntries entries + 1
  | .held _ => 1
def uptoBulkAll {H : Type} : List (DataW H) → Nat
  | [] => 0
  | d :: r => uptoBulk d + uptoBulkAll r
def uptoBulkEntries {H : Type} : List (Lit × DataW H) → Nat
  | [] => 0
  | x :: r => uptoBulkEntry x + uptoBulkEntries r
def uptoBulkEntry {H : Type} : Lit × DataW H → Nat
  | (.string bytes, d) => bytes.length + uptoBulk d + 1
  | (_, d) => uptoBulk d + 1
 end
def uptoSmall : (H : Type) → List (DataW H) → Bool := fun _ ds => decide (uptoBulkAll ds ≤ 1048576)
def OpenSpec.upto (s : _root_.Go.ChangeSpec) : _root_.Go.OpenSpec := { _root_.Go.OpenSpec.ofChange s with cond := some uptoSmall }

/-- 'stilewardlaw5.SuperWithin', WHERE WHAT IT READS IS OF BULK AT MOST 1048576: true; the input reads as it did. -/
def superWithinUptoRow : OpenClaim := { program := "ytbciefeipiphiaa", sum := "d142c1308a11d2a4fc91287b9bf6e08caa969766cbf611fa98e3e61945cdfea2", func := "stileward/stilewardlaw5.SuperWithin", spec := "superWithin", unfollowed := true, recurses := true, plainKeys := false, apart := false, narrowed := true }
def SuperWithinUptoSaid : Prop := superWithinUptoRow.holds Try.pinned (OpenSpec.upto superWithinSpec)

/-- 'stilewardlaw5.SuperKept', WHERE WHAT IT READS IS OF BULK AT MOST 1048576: true; the input reads as it did. -/
def superKeptUptoRow : OpenClaim := { program := "ytbciefeipiphiaa", sum := "d142c1308a11d2a4fc91287b9bf6e08caa969766cbf611fa98e3e61945cdfea2", func := "stileward/stilewardlaw5.SuperKept", spec := "superKept", unfollowed := true, recurses := true, plainKeys := false, apart := false, narrowed := true }
def SuperKeptUptoSaid : Prop := superKeptUptoRow.holds Try.pinned (OpenSpec.upto superKeptSpec)

/-- 'stilewardlaw5.SuperFewer', WHERE WHAT IT READS IS OF BULK AT MOST 1048576: true; the input reads as it did. -/
def superFewerUptoRow : OpenClaim := { program := "ytbciefeipiphiaa", sum := "d142c1308a11d2a4fc91287b9bf6e08caa969766cbf611fa98e3e61945cdfea2", func := "stileward/stilewardlaw5.SuperFewer", spec := "superFewer", unfollowed := true, recurses := true, plainKeys := false, apart := false, narrowed := true }
def SuperFewerUptoSaid : Prop := superFewerUptoRow.holds Try.pinned (OpenSpec.upto superFewerSpec)

/-- 'stilewardlaw5.SuperWord', WHERE WHAT IT READS IS OF BULK AT MOST 1048576: true; the input reads as it did. -/
def superWordUptoRow : OpenClaim := { program := "ytbciefeipiphiaa", sum := "d142c1308a11d2a4fc91287b9bf6e08caa969766cbf611fa98e3e61945cdfea2", func := "stileward/stilewardlaw5.SuperWord", spec := "superWord", unfollowed := true, recurses := true, plainKeys := false, apart := false, narrowed := true }
def SuperWordUptoSaid : Prop := superWordUptoRow.holds Try.pinned (OpenSpec.upto superWordSpec)

/-- 'stilewardtop.TopSuper', WHERE WHAT IT READS IS OF BULK AT MOST 1048576: true; the input reads as it did. -/
def topSuperUptoRow : OpenClaim := { program := "ytbciefeipiphiaa", sum := "d142c1308a11d2a4fc91287b9bf6e08caa969766cbf611fa98e3e61945cdfea2", func := "stileward/stilewardtop.TopSuper", spec := "topSuper", unfollowed := true, recurses := true, plainKeys := false, apart := false, narrowed := true }
def TopSuperUptoSaid : Prop := topSuperUptoRow.holds Try.pinned (OpenSpec.upto topSuperSpec)

end Rows
end Go.Proofs.Ytbciefeipiphiaa

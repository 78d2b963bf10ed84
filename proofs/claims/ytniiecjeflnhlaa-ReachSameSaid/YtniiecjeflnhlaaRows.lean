/-
  No cell of these rows narrows 'for every input' (looked for: loops, veiled, ifaces, maps, wideKeys, modest, calm, conditions, laid).
  DERIVED. THE GIVEN ROWS OF THIS SEAT. 3 by the template 'for every input the law returns true; each argument reads behind the call as it read before'; 0 by the template 'total and deterministic' (their statements: YtniiecjeflnhlaaTotals.lean).
  GIVEN WITH THE SEED: the statements are not yours to turn. If you find one false, say at which input.
  Laid BY PROGRAM, IN A SANDBOX (cutbox-rows.mjs): the forced cells as the released guide's own fill.sh prints them over the translation 31ada0539854af4e… (all of the seat's roots in one cut). By AI agents, Wed Nov 11 2026. No macro, syntax, notation, axiom, sorry.
-/
import Derived.Test.YtniiecjeflnhlaaChecked
import GoSem.Claim
import GoSem.ClaimJoined
import GoSem.ClaimMapViews
import Derived.JoinedTies
import Derived.KernelRfl
namespace Go.Proofs.Ytniiecjeflnhlaa
/- THE CELL 'sum', in the pinned program and in every row, IS THE sha256 OF THE DUMP (.gsa) THAT YtniiecjeflnhlaaProg.lean LOADS. Nothing in Lean hashes anything: it is a label: what it is worth is what the hold of that sum in a sandbox is worth. -/
noncomputable def Try.pinned : Pinned := { name := "ytniiecjeflnhlaa", sum := "31ada0539854af4e56254c452f1a98bad6dc4883d712018b6ef8a95bb8ce84f5", checked := Try.checked }
namespace Rows
def none {H : Type} : Left H := { results := [], args := [] }

/-- 'stilewardlaw2.ReachAdds': WHATEVER THE INPUT: true; the input reads as it did. -/
def reachAddsSpec : ChangeSpec := { name := "reachAdds", fn := fun _ => fun
  | [d1, d2, d3] => { results := [.lit (.bool true)], args := [d1, d2, d3] }
  | _ => none }
def reachAddsRow : OpenClaim := { program := "ytniiecjeflnhlaa", sum := "31ada0539854af4e56254c452f1a98bad6dc4883d712018b6ef8a95bb8ce84f5", func := "stileward/stilewardlaw2.ReachAdds", spec := "reachAdds", unfollowed := true, recurses := true, apart := false }
def ReachAddsSaid : Prop := reachAddsRow.holds Try.pinned (OpenSpec.ofChange reachAddsSpec)

/-- ITS FALSE NEIGHBOUR: 'it returns false'. Refute it at one input. -/
def reachAddsWrong : ChangeSpec := { name := "reachAdds", fn := fun _ => fun
  | [d1, d2, d3] => { results := [.lit (.bool false)], args := [d1, d2, d3] }
  | _ => none }
def ReachAddsWrongFalsely : Prop := reachAddsRow.holds Try.pinned (OpenSpec.ofChange reachAddsWrong)

/-- 'stilewardlaw2.ReachSame': WHATEVER THE INPUT: true; the input reads as it did. -/
def reachSameSpec : ChangeSpec := { name := "reachSame", fn := fun _ => fun
  | [d1, d2] => { results := [.lit (.bool true)], args := [d1, d2] }
  | _ => none }
def reachSameRow : OpenClaim := { program := "ytniiecjeflnhlaa", sum := "31ada0539854af4e56254c452f1a98bad6dc4883d712018b6ef8a95bb8ce84f5", func := "stileward/stilewardlaw2.ReachSame", spec := "reachSame", recurses := true, apart := false }
def ReachSameSaid : Prop := reachSameRow.holds Try.pinned (OpenSpec.ofChange reachSameSpec)

/-- ITS FALSE NEIGHBOUR: 'it returns false'. Refute it at one input. -/
def reachSameWrong : ChangeSpec := { name := "reachSame", fn := fun _ => fun
  | [d1, d2] => { results := [.lit (.bool false)], args := [d1, d2] }
  | _ => none }
def ReachSameWrongFalsely : Prop := reachSameRow.holds Try.pinned (OpenSpec.ofChange reachSameWrong)

/-- 'stilewardlaw2.ReachSplits': WHATEVER THE INPUT: true; the input reads as it did. -/
def reachSplitsSpec : ChangeSpec := { name := "reachSplits", fn := fun _ => fun
  | [d1, d2] => { results := [.lit (.bool true)], args := [d1, d2] }
  | _ => none }
def reachSplitsRow : OpenClaim := { program := "ytniiecjeflnhlaa", sum := "31ada0539854af4e56254c452f1a98bad6dc4883d712018b6ef8a95bb8ce84f5", func := "stileward/stilewardlaw2.ReachSplits", spec := "reachSplits", apart := false }
def ReachSplitsSaid : Prop := reachSplitsRow.holds Try.pinned (OpenSpec.ofChange reachSplitsSpec)

/-- ITS FALSE NEIGHBOUR: 'it returns false'. Refute it at one input. -/
def reachSplitsWrong : ChangeSpec := { name := "reachSplits", fn := fun _ => fun
  | [d1, d2] => { results := [.lit (.bool false)], args := [d1, d2] }
  | _ => none }
def ReachSplitsWrongFalsely : Prop := reachSplitsRow.holds Try.pinned (OpenSpec.ofChange reachSplitsWrong)

/- THE SECOND FORM. 'bulk': how many values and letters a reading holds, each counted each time it is reached (what is shared counts as often as it is met; a slice's spare places count too). A statement '..UptoSaid' is the law's where the arguments, and the package variables that the reading takes, are together of bulk at most 1048576: NARROWER than '..Said'. Prove '..Said' where nothing that the law and all that it calls make is longer than what came in: it says more and counts as full. Else prove '..UptoSaid'. A law counts once. -/
mutual
def uptoBulk {H : Type} : DataW H → Nat
  | .lit (.string bytes) => bytes.length + 1
  | .lit _ => 1
  | .nil => 1
  | .ptr d => uptoBulk d + 1
  | .slice elems spare => uptoBulkAll elems + uptoBulkAll spare + 1
  | .agg parts => uptoBulkAll parts + 1
  | .iface _ d => uptoBulk d + 1
  | .map entries => uptoBulkEntries entries + 1
  | .held _ => 1
def uptoBulkAll {H : Type} : List (DataW H) → Nat
  | [] => 0
  | d :: r => uptoBulk d + uptoBulkAll r
def uptoBulkEntries {H : Type} : List (Lit × DataW H) → Nat
  | [] => 0
  | x :: r => uptoBulkEntry x + uptoBulkEntries r
def uptoBulkEntry {H : Type} : Lit × DataW H → Nat
  | (.string bytes, d) => bytes.length + uptoBulk d + 1
  | (_, d) => uptoBulk d + 1
 end
def uptoSmall : (H : Type) → List (DataW H) → Bool := fun _ ds => decide (uptoBulkAll ds ≤ 1048576)
def OpenSpec.upto (s : _root_.Go.ChangeSpec) : _root_.Go.OpenSpec := { _root_.Go.OpenSpec.ofChange s with cond := some uptoSmall }

/-- 'stilewardlaw2.ReachAdds', WHERE WHAT IT READS IS OF BULK AT MOST 1048576: true; the input reads as it did. -/
def reachAddsUptoRow : OpenClaim := { program := "ytniiecjeflnhlaa", sum := "31ada0539854af4e56254c452f1a98bad6dc4883d712018b6ef8a95bb8ce84f5", func := "stileward/stilewardlaw2.ReachAdds", spec := "reachAdds", unfollowed := true, recurses := true, apart := false, narrowed := true }
def ReachAddsUptoSaid : Prop := reachAddsUptoRow.holds Try.pinned (OpenSpec.upto reachAddsSpec)

/-- 'stilewardlaw2.ReachSame', WHERE WHAT IT READS IS OF BULK AT MOST 1048576: true; the input reads as it did. -/
def reachSameUptoRow : OpenClaim := { program := "ytniiecjeflnhlaa", sum := "31ada0539854af4e56254c452f1a98bad6dc4883d712018b6ef8a95bb8ce84f5", func := "stileward/stilewardlaw2.ReachSame", spec := "reachSame", recurses := true, apart := false, narrowed := true }
def ReachSameUptoSaid : Prop := reachSameUptoRow.holds Try.pinned (OpenSpec.upto reachSameSpec)

/-- 'stilewardlaw2.ReachSplits', WHERE WHAT IT READS IS OF BULK AT MOST 1048576: true; the input reads as it did. -/
def reachSplitsUptoRow : OpenClaim := { program := "ytniiecjeflnhlaa", sum := "31ada0539854af4e56254c452f1a98bad6dc4883d712018b6ef8a95bb8ce84f5", func := "stileward/stilewardlaw2.ReachSplits", spec := "reachSplits", apart := false, narrowed := true }
def ReachSplitsUptoSaid : Prop := reachSplitsUptoRow.holds Try.pinned (OpenSpec.upto reachSplitsSpec)

end Rows
end Go.Proofs.Ytniiecjeflnhlaa

/-
  No cell of these rows narrows 'for every input' (looked for: loops, veiled, ifaces, maps, wideKeys, modest, calm, conditions, laid).
  DERIVED. THE GIVEN ROWS OF THIS SEAT. 4 by the template 'for every input the law returns true; each argument reads behind the call as it read before'; 0 by the template 'total and deterministic' (their statements: YtdihbkhhhonlpaaTotals.lean).
  GIVEN WITH THE SEED: the statements are not yours to turn. If you find one false, say at which input.
  Laid BY PROGRAM, IN A SANDBOX (cutbox-rows.mjs): the forced cells as the released guide's own fill.sh prints them over the translation e316b0ec9fa53d4b… (all of the seat's roots in one cut). By AI agents, Wed Nov 11 2026. No macro, syntax, notation, axiom, sorry.
-/
import Derived.Test.YtdihbkhhhonlpaaChecked
import GoSem.Claim
import GoSem.ClaimJoined
import GoSem.ClaimMapViews
import Derived.JoinedTies
import Derived.KernelRfl
namespace Go.Proofs.Ytdihbkhhhonlpaa
/- THE CELL 'sum', in the pinned program and in every row, IS THE sha256 OF THE DUMP (.gsa) THAT YtdihbkhhhonlpaaProg.lean LOADS. Nothing in Lean hashes anything: it is a label: what it is worth is what the hold of that sum in a sandbox is worth. -/
noncomputable def Try.pinned : Pinned := { name := "ytdihbkhhhonlpaa", sum := "e316b0ec9fa53d4b2ee86a3b88affd9354217defbd9f314a55793e5813d877b0", checked := Try.checked }
namespace Rows
def none {H : Type} : Left H := { results := [], args := [] }

/-- 'rubatolaw04.RangesTells': WHATEVER THE INPUT: true; the input reads as it did. -/
def rangesTellsSpec : ChangeSpec := { name := "rangesTells", fn := fun _ => fun
  | [d1, d2, d3] => { results := [.lit (.bool true)], args := [d1, d2, d3] }
  | _ => none }
def rangesTellsRow : OpenClaim := { program := "ytdihbkhhhonlpaa", sum := "e316b0ec9fa53d4b2ee86a3b88affd9354217defbd9f314a55793e5813d877b0", func := "rubato/rubatolaw04.RangesTells", spec := "rangesTells", unfollowed := true, recurses := true, apart := false }
def RangesTellsSaid : Prop := rangesTellsRow.holds Try.pinned (OpenSpec.ofChange rangesTellsSpec)

/-- ITS FALSE NEIGHBOUR: 'it returns false'. Refute it at one input. -/
def rangesTellsWrong : ChangeSpec := { name := "rangesTells", fn := fun _ => fun
  | [d1, d2, d3] => { results := [.lit (.bool false)], args := [d1, d2, d3] }
  | _ => none }
def RangesTellsWrongFalsely : Prop := rangesTellsRow.holds Try.pinned (OpenSpec.ofChange rangesTellsWrong)

/-- 'rubatolaw04.RangesChange': WHATEVER THE INPUT: true; the input reads as it did. -/
def rangesChangeSpec : ChangeSpec := { name := "rangesChange", fn := fun _ => fun
  | [d1, d2, d3] => { results := [.lit (.bool true)], args := [d1, d2, d3] }
  | _ => none }
def rangesChangeRow : OpenClaim := { program := "ytdihbkhhhonlpaa", sum := "e316b0ec9fa53d4b2ee86a3b88affd9354217defbd9f314a55793e5813d877b0", func := "rubato/rubatolaw04.RangesChange", spec := "rangesChange", unfollowed := true, recurses := true, apart := false }
def RangesChangeSaid : Prop := rangesChangeRow.holds Try.pinned (OpenSpec.ofChange rangesChangeSpec)

/-- ITS FALSE NEIGHBOUR: 'it returns false'. Refute it at one input. -/
def rangesChangeWrong : ChangeSpec := { name := "rangesChange", fn := fun _ => fun
  | [d1, d2, d3] => { results := [.lit (.bool false)], args := [d1, d2, d3] }
  | _ => none }
def RangesChangeWrongFalsely : Prop := rangesChangeRow.holds Try.pinned (OpenSpec.ofChange rangesChangeWrong)

/-- 'rubatolaw04.RangesAdd': WHATEVER THE INPUT: true; the input reads as it did. -/
def rangesAddSpec : ChangeSpec := { name := "rangesAdd", fn := fun _ => fun
  | [d1, d2, d3] => { results := [.lit (.bool true)], args := [d1, d2, d3] }
  | _ => none }
def rangesAddRow : OpenClaim := { program := "ytdihbkhhhonlpaa", sum := "e316b0ec9fa53d4b2ee86a3b88affd9354217defbd9f314a55793e5813d877b0", func := "rubato/rubatolaw04.RangesAdd", spec := "rangesAdd", unfollowed := true, recurses := true, apart := false }
def RangesAddSaid : Prop := rangesAddRow.holds Try.pinned (OpenSpec.ofChange rangesAddSpec)

/-- ITS FALSE NEIGHBOUR: 'it returns false'. Refute it at one input. -/
def rangesAddWrong : ChangeSpec := { name := "rangesAdd", fn := fun _ => fun
  | [d1, d2, d3] => { results := [.lit (.bool false)], args := [d1, d2, d3] }
  | _ => none }
def RangesAddWrongFalsely : Prop := rangesAddRow.holds Try.pinned (OpenSpec.ofChange rangesAddWrong)

/-- 'rubatolaw04.RangesPrefix': WHATEVER THE INPUT: true; the input reads as it did. -/
def rangesPrefixSpec : ChangeSpec := { name := "rangesPrefix", fn := fun _ => fun
  | [d1, d2, d3] => { results := [.lit (.bool true)], args := [d1, d2, d3] }
  | _ => none }
def rangesPrefixRow : OpenClaim := { program := "ytdihbkhhhonlpaa", sum := "e316b0ec9fa53d4b2ee86a3b88affd9354217defbd9f314a55793e5813d877b0", func := "rubato/rubatolaw04.RangesPrefix", spec := "rangesPrefix", unfollowed := true, recurses := true, apart := false }
def RangesPrefixSaid : Prop := rangesPrefixRow.holds Try.pinned (OpenSpec.ofChange rangesPrefixSpec)

/-- ITS FALSE NEIGHBOUR: 'it returns false'. Refute it at one input. -/
def rangesPrefixWrong : ChangeSpec := { name := "rangesPrefix", fn := fun _ => fun
  | [d1, d2, d3] => { results := [.lit (.bool false)], args := [d1, d2, d3] }
  | _ => none }
def RangesPrefixWrongFalsely : Prop := rangesPrefixRow.holds Try.pinned (OpenSpec.ofChange rangesPrefixWrong)

/- THE SECOND FORM. 'bulk': how many values and letters a reading holds, each counted each time it is reached (what is shared counts as often as it is met; a slice's spare places count too). A statement '..UptoSaid' is the law's where the arguments, and the package variables that the reading takes, are together of bulk at most 1048576: NARROWER than '..Said'. Prove '..Said' where nothing that the law and all that it calls make is longer than what came in: it says more and counts as full. Else prove '..UptoSaid'. A law counts once. -/
mutual
def uptoBulk {H : Type} : DataW H → Nat
  | .lit (.string bytes) => bytes.length + 1
  | .lit _ => 1
  | .nil => 1
  | .ptr d => uptoBulk d + 1
  | .slice elems spare => uptoBulkAll elems + uptoBulkAll spare + 1
  | .agg parts => uptoBulkAll parts + 1
  | .iface _ d => uptoBulk d + 1
  | .map entries => uptoBulkEntries entries + 1
  | .held _ => 1
def uptoBulkAll {H : Type} : List (DataW H) → Nat
  | [] => 0
  | d :: r => uptoBulk d + uptoBulkAll r
def uptoBulkEntries {H : Type} : List (Lit × DataW H) → Nat
  | [] => 0
  | x :: r => uptoBulkEntry x + uptoBulkEntries r
def uptoBulkEntry {H : Type} : Lit × DataW H → Nat
  | (.string bytes, d) => bytes.length + uptoBulk d + 1
  | (_, d) => uptoBulk d + 1
 end
def uptoSmall : (H : Type) → List (DataW H) → Bool := fun _ ds => decide (uptoBulkAll ds ≤ 1048576)
def OpenSpec.upto (s : _root_.Go.ChangeSpec) : _root_.Go.OpenSpec := { _root_.Go.OpenSpec.ofChange s with cond := some uptoSmall }

/-- 'rubatolaw04.RangesTells', WHERE WHAT IT READS IS OF BULK AT MOST 1048576: true; the input reads as it did. -/
def rangesTellsUptoRow : OpenClaim := { program := "ytdihbkhhhonlpaa", sum := "e316b0ec9fa53d4b2ee86a3b88affd9354217defbd9f314a55793e5813d877b0", func := "rubato/rubatolaw04.RangesTells", spec := "rangesTells", unfollowed := true, recurses := true, apart := false, narrowed := true }
def RangesTellsUptoSaid : Prop := rangesTellsUptoRow.holds Try.pinned (OpenSpec.upto rangesTellsSpec)

/-- 'rubatolaw04.RangesChange', WHERE WHAT IT READS IS OF BULK AT MOST 1048576: true; the input reads as it did. -/
def rangesChangeUptoRow : OpenClaim := { program := "ytdihbkhhhonlpaa", sum := "e316b0ec9fa53d4b2ee86a3b88affd9354217defbd9f314a55793e5813d877b0", func := "rubato/rubatolaw04.RangesChange", spec := "rangesChange", unfollowed := true, recurses := true, apart := false, narrowed := true }
def RangesChangeUptoSaid : Prop := rangesChangeUptoRow.holds Try.pinned (OpenSpec.upto rangesChangeSpec)

/-- 'rubatolaw04.RangesAdd', WHERE WHAT IT READS IS OF BULK AT MOST 1048576: true; the input reads as it did. -/
def rangesAddUptoRow : OpenClaim := { program := "ytdihbkhhhonlpaa", sum := "e316b0ec9fa53d4b2ee86a3b88affd9354217defbd9f314a55793e5813d877b0", func := "rubato/rubatolaw04.RangesAdd", spec := "rangesAdd", unfollowed := true, recurses := true, apart := false, narrowed := true }
def RangesAddUptoSaid : Prop := rangesAddUptoRow.holds Try.pinned (OpenSpec.upto rangesAddSpec)

/-- 'rubatolaw04.RangesPrefix', WHERE WHAT IT READS IS OF BULK AT MOST 1048576: true; the input reads as it did. -/
def rangesPrefixUptoRow : OpenClaim := { program := "ytdihbkhhhonlpaa", sum := "e316b0ec9fa53d4b2ee86a3b88affd9354217defbd9f314a55793e5813d877b0", func := "rubato/rubatolaw04.RangesPrefix", spec := "rangesPrefix", unfollowed := true, recurses := true, apart := false, narrowed := true }
def RangesPrefixUptoSaid : Prop := rangesPrefixUptoRow.holds Try.pinned (OpenSpec.upto rangesPrefixSpec)

end Rows
end Go.Proofs.Ytdihbkhhhonlpaa

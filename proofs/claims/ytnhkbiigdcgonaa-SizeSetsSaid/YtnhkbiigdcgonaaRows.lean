/-
  No cell of these rows narrows 'for every input' (looked for: loops, veiled, ifaces, maps, wideKeys, modest, calm, conditions, laid).
  DERIVED. THE GIVEN ROWS OF THIS SEAT. 4 by the template 'for every input the law returns true; each argument reads behind the call as it read before'; 0 by the template 'total and deterministic' (their statements: YtnhkbiigdcgonaaTotals.lean).
  GIVEN WITH THE SEED: the statements are not yours to turn. If you find one false, say at which input.
  Laid BY PROGRAM, IN A SANDBOX (cutbox-rows.mjs): the forced cells as the released guide's own fill.sh prints them over the translation d27a2cc21f0515c5… (all of the seat's roots in one cut). By AI agents, Wed Nov 11 2026. No macro, syntax, notation, axiom, sorry.
-/
import Derived.Test.YtnhkbiigdcgonaaChecked
import GoSem.Claim
import GoSem.ClaimJoined
import GoSem.ClaimMapViews
import Derived.JoinedTies
import Derived.KernelRfl
namespace Go.Proofs.Ytnhkbiigdcgonaa
/- THE CELL 'sum', in the pinned program and in every row, IS THE sha256 OF THE DUMP (.gsa) THAT YtnhkbiigdcgonaaProg.lean LOADS. Nothing in Lean hashes anything: it is a label: what it is worth is what the hold of that sum in a sandbox is worth. -/
noncomputable def Try.pinned : Pinned := { name := "ytnhkbiigdcgonaa", sum := "d27a2cc21f0515c5f6ecdd7ffbacf021c3c5349891d1fd75bd72ae909b1b2fda", checked := Try.checked }
namespace Rows
def none {H : Type} : Left H := { results := [], args := [] }

/-- 'rubatolaw01.SizeTells': WHATEVER THE INPUT: true; the input reads as it did. -/
def sizeTellsSpec : ChangeSpec := { name := "sizeTells", fn := fun _ => fun
  | [d1, d2, d3] => { results := [.lit (.bool true)], args := [d1, d2, d3] }
  | _ => none }
def sizeTellsRow : OpenClaim := { program := "ytnhkbiigdcgonaa", sum := "d27a2cc21f0515c5f6ecdd7ffbacf021c3c5349891d1fd75bd72ae909b1b2fda", func := "rubato/rubatolaw01.SizeTells", spec := "sizeTells", unfollowed := true, recurses := true, apart := false }
def SizeTellsSaid : Prop := sizeTellsRow.holds Try.pinned (OpenSpec.ofChange sizeTellsSpec)

/-- ITS FALSE NEIGHBOUR: 'it returns false'. Refute it at one input. -/
def sizeTellsWrong : ChangeSpec := { name := "sizeTells", fn := fun _ => fun
  | [d1, d2, d3] => { results := [.lit (.bool false)], args := [d1, d2, d3] }
  | _ => none }
def SizeTellsWrongFalsely : Prop := sizeTellsRow.holds Try.pinned (OpenSpec.ofChange sizeTellsWrong)

/-- 'rubatolaw01.SizeSets': WHATEVER THE INPUT: true; the input reads as it did. -/
def sizeSetsSpec : ChangeSpec := { name := "sizeSets", fn := fun _ => fun
  | [d1, d2, d3] => { results := [.lit (.bool true)], args := [d1, d2, d3] }
  | _ => none }
def sizeSetsRow : OpenClaim := { program := "ytnhkbiigdcgonaa", sum := "d27a2cc21f0515c5f6ecdd7ffbacf021c3c5349891d1fd75bd72ae909b1b2fda", func := "rubato/rubatolaw01.SizeSets", spec := "sizeSets", unfollowed := true, recurses := true, apart := false }
def SizeSetsSaid : Prop := sizeSetsRow.holds Try.pinned (OpenSpec.ofChange sizeSetsSpec)

/-- ITS FALSE NEIGHBOUR: 'it returns false'. Refute it at one input. -/
def sizeSetsWrong : ChangeSpec := { name := "sizeSets", fn := fun _ => fun
  | [d1, d2, d3] => { results := [.lit (.bool false)], args := [d1, d2, d3] }
  | _ => none }
def SizeSetsWrongFalsely : Prop := sizeSetsRow.holds Try.pinned (OpenSpec.ofChange sizeSetsWrong)

/-- 'rubatolaw01.SizeMeet': WHATEVER THE INPUT: true; the input reads as it did. -/
def sizeMeetSpec : ChangeSpec := { name := "sizeMeet", fn := fun _ => fun
  | [d1, d2, d3] => { results := [.lit (.bool true)], args := [d1, d2, d3] }
  | _ => none }
def sizeMeetRow : OpenClaim := { program := "ytnhkbiigdcgonaa", sum := "d27a2cc21f0515c5f6ecdd7ffbacf021c3c5349891d1fd75bd72ae909b1b2fda", func := "rubato/rubatolaw01.SizeMeet", spec := "sizeMeet", unfollowed := true, recurses := true, apart := false }
def SizeMeetSaid : Prop := sizeMeetRow.holds Try.pinned (OpenSpec.ofChange sizeMeetSpec)

/-- ITS FALSE NEIGHBOUR: 'it returns false'. Refute it at one input. -/
def sizeMeetWrong : ChangeSpec := { name := "sizeMeet", fn := fun _ => fun
  | [d1, d2, d3] => { results := [.lit (.bool false)], args := [d1, d2, d3] }
  | _ => none }
def SizeMeetWrongFalsely : Prop := sizeMeetRow.holds Try.pinned (OpenSpec.ofChange sizeMeetWrong)

/-- 'rubatolaw01.SizeRing': WHATEVER THE INPUT: true; the input reads as it did. -/
def sizeRingSpec : ChangeSpec := { name := "sizeRing", fn := fun _ => fun
  | [d1, d2, d3] => { results := [.lit (.bool true)], args := [d1, d2, d3] }
  | _ => none }
def sizeRingRow : OpenClaim := { program := "ytnhkbiigdcgonaa", sum := "d27a2cc21f0515c5f6ecdd7ffbacf021c3c5349891d1fd75bd72ae909b1b2fda", func := "rubato/rubatolaw01.SizeRing", spec := "sizeRing", unfollowed := true, recurses := true, apart := false }
def SizeRingSaid : Prop := sizeRingRow.holds Try.pinned (OpenSpec.ofChange sizeRingSpec)

/-- ITS FALSE NEIGHBOUR: 'it returns false'. Refute it at one input. -/
def sizeRingWrong : ChangeSpec := { name := "sizeRing", fn := fun _ => fun
  | [d1, d2, d3] => { results := [.lit (.bool false)], args := [d1, d2, d3] }
  | _ => none }
def SizeRingWrongFalsely : Prop := sizeRingRow.holds Try.pinned (OpenSpec.ofChange sizeRingWrong)

/- THE SECOND FORM. 'bulk': how many values and letters a reading holds, each counted each time it is reached (what is shared counts as often as it is met; a slice's spare places count too). A statement '..UptoSaid' is the law's where the arguments, and the package variables that the reading takes, are together of bulk at most 1048576: NARROWER than '..Said'. Prove '..Said' where nothing that the law and all that it calls make is longer than what came in: it says more and counts as full. Else prove '..UptoSaid'. A law counts once. -/
mutual
def uptoBulk {H : Type} : DataW H → Nat
  | .lit (.string bytes) => bytes.length + 1
  | .lit _ => 1
  | .nil => 1
  | .ptr d => uptoBulk d + 1
  | .slice elems spare => uptoBulkAll elems + uptoBulkAll spare + 1
  | .agg parts => uptoBulkAll parts + 1
  | .iface _ d => uptoBulk d + 1
  | .map entries => uptoBulkEntries entries + 1
  | .held _ => 1
def uptoBulkAll {H : Type} : List (DataW H) → Nat
  | [] => 0
  | d :: r => uptoBulk d + uptoBulkAll r
def uptoBulkEntries {H : Type} : List (Lit × DataW H) → Nat
  | [] => 0
  | x :: r => uptoBulkEntry x + uptoBulkEntries r
def uptoBulkEntry {H : Type} : Lit × DataW H → Nat
  | (.string bytes, d) => bytes.length + uptoBulk d + 1
  | (_, d) => uptoBulk d + 1
 end
def uptoSmall : (H : Type) → List (DataW H) → Bool := fun _ ds => decide (uptoBulkAll ds ≤ 1048576)
def OpenSpec.upto (s : _root_.Go.ChangeSpec) : _root_.Go.OpenSpec := { _root_.Go.OpenSpec.ofChange s with cond := some uptoSmall }

/-- 'rubatolaw01.SizeTells', WHERE WHAT IT READS IS OF BULK AT MOST 1048576: true; the input reads as it did. -/
def sizeTellsUptoRow : OpenClaim := { program := "ytnhkbiigdcgonaa", sum := "d27a2cc21f0515c5f6ecdd7ffbacf021c3c5349891d1fd75bd72ae909b1b2fda", func := "rubato/rubatolaw01.SizeTells", spec := "sizeTells", unfollowed := true, recurses := true, apart := false, narrowed := true }
def SizeTellsUptoSaid : Prop := sizeTellsUptoRow.holds Try.pinned (OpenSpec.upto sizeTellsSpec)

/-- 'rubatolaw01.SizeSets', WHERE WHAT IT READS IS OF BULK AT MOST 1048576: true; the input reads as it did. -/
def sizeSetsUptoRow : OpenClaim := { program := "ytnhkbiigdcgonaa", sum := "d27a2cc21f0515c5f6ecdd7ffbacf021c3c5349891d1fd75bd72ae909b1b2fda", func := "rubato/rubatolaw01.SizeSets", spec := "sizeSets", unfollowed := true, recurses := true, apart := false, narrowed := true }
def SizeSetsUptoSaid : Prop := sizeSetsUptoRow.holds Try.pinned (OpenSpec.upto sizeSetsSpec)

/-- 'rubatolaw01.SizeMeet', WHERE WHAT IT READS IS OF BULK AT MOST 1048576: true; the input reads as it did. -/
def sizeMeetUptoRow : OpenClaim := { program := "ytnhkbiigdcgonaa", sum := "d27a2cc21f0515c5f6ecdd7ffbacf021c3c5349891d1fd75bd72ae909b1b2fda", func := "rubato/rubatolaw01.SizeMeet", spec := "sizeMeet", unfollowed := true, recurses := true, apart := false, narrowed := true }
def SizeMeetUptoSaid : Prop := sizeMeetUptoRow.holds Try.pinned (OpenSpec.upto sizeMeetSpec)

/-- 'rubatolaw01.SizeRing', WHERE WHAT IT READS IS OF BULK AT MOST 1048576: true; the input reads as it did. -/
def sizeRingUptoRow : OpenClaim := { program := "ytnhkbiigdcgonaa", sum := "d27a2cc21f0515c5f6ecdd7ffbacf021c3c5349891d1fd75bd72ae909b1b2fda", func := "rubato/rubatolaw01.SizeRing", spec := "sizeRing", unfollowed := true, recurses := true, apart := false, narrowed := true }
def SizeRingUptoSaid : Prop := sizeRingUptoRow.holds Try.pinned (OpenSpec.upto sizeRingSpec)

end Rows
end Go.Proofs.Ytnhkbiigdcgonaa

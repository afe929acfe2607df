/-
  No cell of these rows narrows 'for every input' (looked for: loops, veiled, ifaces, maps, wideKeys, modest, calm, conditions, laid).
  DERIVED. THE GIVEN ROWS OF THIS SEAT. 3 by the template 'for every input the law returns true; each argument reads behind the call as it read before'; 0 by the template 'total and deterministic' (their statements: YtflnakjffgobmaaGreatTotals.lean).
  GIVEN WITH THE SEED: the statements are not yours to turn. If you find one false, say at which input.
  Laid BY PROGRAM, IN A SANDBOX (cutbox-rows.mjs): the forced cells as the released guide's own fill.sh prints them over the translation ca9cac479815682f… (all of the seat's roots in one cut). By AI agents, Wed Nov 11 2026. No macro, syntax, notation, axiom, sorry.
-/
import Derived.Test.YtflnakjffgobmaaGreatChecked
import GoSem.Claim
import GoSem.ClaimJoined
import GoSem.ClaimMapViews
import Derived.JoinedTies
import Derived.KernelRfl
namespace Go.Proofs.YtflnakjffgobmaaGreat
/- THE CELL 'sum', in the pinned program and in every row, IS THE sha256 OF THE DUMP (.gsa) THAT YtflnakjffgobmaaGreatProg.lean LOADS. Nothing in Lean hashes anything: it is a label: what it is worth is what the hold of that sum in a sandbox is worth. -/
noncomputable def Tryz.pinned : Pinned := { name := "ytflnakjffgobmaagreat", sum := "ca9cac479815682f684fe34e19c591ef086c2a053488f4b7a0adb7f87fe333b6", checked := Tryz.checked }
namespace Rows
def none {H : Type} : Left H := { results := [], args := [] }

/-- 'clerestorylaw03.HunkNumbers': WHATEVER THE INPUT: true; the input reads as it did. -/
def hunkNumbersSpec : ChangeSpec := { name := "hunkNumbers", fn := fun _ => fun
  | [] => { results := [.lit (.bool true)], args := [] }
  | _ => none }
def hunkNumbersRow : OpenClaim := { program := "ytflnakjffgobmaagreat", sum := "ca9cac479815682f684fe34e19c591ef086c2a053488f4b7a0adb7f87fe333b6", func := "clerestory/clerestorylaw03.HunkNumbers", spec := "hunkNumbers", inPlace := ["internal/bytealg.IndexByteString"], unfollowed := true, recurses := true, apart := false }
def HunkNumbersSaid : Prop := hunkNumbersRow.holds Tryz.pinned (OpenSpec.ofChange hunkNumbersSpec)

/-- ITS FALSE NEIGHBOUR: 'it returns false'. Refute it at one input. -/
def hunkNumbersWrong : ChangeSpec := { name := "hunkNumbers", fn := fun _ => fun
  | [] => { results := [.lit (.bool false)], args := [] }
  | _ => none }
def HunkNumbersWrongFalsely : Prop := hunkNumbersRow.holds Tryz.pinned (OpenSpec.ofChange hunkNumbersWrong)

/-- 'clerestorylaw04.ShiftTells': WHATEVER THE INPUT: true; the input reads as it did. -/
def shiftTellsSpec : ChangeSpec := { name := "shiftTells", fn := fun _ => fun
  | [d1, d2] => { results := [.lit (.bool true)], args := [d1, d2] }
  | _ => none }
def shiftTellsRow : OpenClaim := { program := "ytflnakjffgobmaagreat", sum := "ca9cac479815682f684fe34e19c591ef086c2a053488f4b7a0adb7f87fe333b6", func := "clerestory/clerestorylaw04.ShiftTells", spec := "shiftTells", inPlace := ["internal/bytealg.IndexByteString"], unfollowed := true, recurses := true, apart := false }
def ShiftTellsSaid : Prop := shiftTellsRow.holds Tryz.pinned (OpenSpec.ofChange shiftTellsSpec)

/-- ITS FALSE NEIGHBOUR: 'it returns false'. Refute it at one input. -/
def shiftTellsWrong : ChangeSpec := { name := "shiftTells", fn := fun _ => fun
  | [d1, d2] => { results := [.lit (.bool false)], args := [d1, d2] }
  | _ => none }
def ShiftTellsWrongFalsely : Prop := shiftTellsRow.holds Tryz.pinned (OpenSpec.ofChange shiftTellsWrong)

/-- 'clerestorylaw04.ShiftNumbers': WHATEVER THE INPUT: true; the input reads as it did. -/
def shiftNumbersSpec : ChangeSpec := { name := "shiftNumbers", fn := fun _ => fun
  | [] => { results := [.lit (.bool true)], args := [] }
  | _ => none }
def shiftNumbersRow : OpenClaim := { program := "ytflnakjffgobmaagreat", sum := "ca9cac479815682f684fe34e19c591ef086c2a053488f4b7a0adb7f87fe333b6", func := "clerestory/clerestorylaw04.ShiftNumbers", spec := "shiftNumbers", inPlace := ["internal/bytealg.IndexByteString"], unfollowed := true, recurses := true, apart := false }
def ShiftNumbersSaid : Prop := shiftNumbersRow.holds Tryz.pinned (OpenSpec.ofChange shiftNumbersSpec)

/-- ITS FALSE NEIGHBOUR: 'it returns false'. Refute it at one input. -/
def shiftNumbersWrong : ChangeSpec := { name := "shiftNumbers", fn := fun _ => fun
  | [] => { results := [.lit (.bool false)], args := [] }
  | _ => none }
def ShiftNumbersWrongFalsely : Prop := shiftNumbersRow.holds Tryz.pinned (OpenSpec.ofChange shiftNumbersWrong)

/- THE SECOND FORM. 'bulk': how many values and letters a reading holds, each counted each time it is reached (what is shared counts as often as it is met; a slice's spare places count too). A statement '..UptoSaid' is the law's where the arguments, and the package variables that the reading takes, are together of bulk at most 1048576: NARROWER than '..Said'. Prove '..Said' where nothing that the law and all that it calls make is longer than what came in: it says more and counts as full. Else prove '..UptoSaid'. A law counts once. -/
mutual
def uptoBulk {H : Type} : DataW H → Nat
  | .lit (.string bytes) => bytes.length + 1
  | .lit _ => 1
  | .nil => 1
  | .ptr d => uptoBulk d + 1
  | .slice elems spare => uptoBulkAll elems + uptoBulkAll spare + 1
  | .agg parts => uptoBulkAll parts + 1
  | .iface _ d => uptoBulk d + 1
  | .map entries => uptoBulkEntries entries + 1
  | .held _ => 1
def uptoBulkAll {H : Type} : List (DataW H) → Nat
  | [] => 0
  | d :: r => uptoBulk d + uptoBulkAll r
def uptoBulkEntries {H : Type} : List (Lit × DataW H) → Nat
  | [] => 0
  | x :: r => uptoBulkEntry x + uptoBulkEntries r
def uptoBulkEntry {H : Type} : Lit × DataW H → Nat
  | (.string bytes, d) => bytes.length + uptoBulk d + 1
  | (_, d) => uptoBulk d + 1
 end
def uptoSmall : (H : Type) → List (DataW H) → Bool := fun _ ds => decide (uptoBulkAll ds ≤ 1048576)
def OpenSpec.upto (s : _root_.Go.ChangeSpec) : _root_.Go.OpenSpec := { _root_.Go.OpenSpec.ofChange s with cond := some uptoSmall }

/-- 'clerestorylaw03.HunkNumbers', WHERE WHAT IT READS IS OF BULK AT MOST 1048576: true; the input reads as it did. -/
def hunkNumbersUptoRow : OpenClaim := { program := "ytflnakjffgobmaagreat", sum := "ca9cac479815682f684fe34e19c591ef086c2a053488f4b7a0adb7f87fe333b6", func := "clerestory/clerestorylaw03.HunkNumbers", spec := "hunkNumbers", inPlace := ["internal/bytealg.IndexByteString"], unfollowed := true, recurses := true, apart := false, narrowed := true }
def HunkNumbersUptoSaid : Prop := hunkNumbersUptoRow.holds Tryz.pinned (OpenSpec.upto hunkNumbersSpec)

/-- 'clerestorylaw04.ShiftTells', WHERE WHAT IT READS IS OF BULK AT MOST 1048576: true; the input reads as it did. -/
def shiftTellsUptoRow : OpenClaim := { program := "ytflnakjffgobmaagreat", sum := "ca9cac479815682f684fe34e19c591ef086c2a053488f4b7a0adb7f87fe333b6", func := "clerestory/clerestorylaw04.ShiftTells", spec := "shiftTells", inPlace := ["internal/bytealg.IndexByteString"], unfollowed := true, recurses := true, apart := false, narrowed := true }
def ShiftTellsUptoSaid : Prop := shiftTellsUptoRow.holds Tryz.pinned (OpenSpec.upto shiftTellsSpec)

/-- 'clerestorylaw04.ShiftNumbers', WHERE WHAT IT READS IS OF BULK AT MOST 1048576: true; the input reads as it did. -/
def shiftNumbersUptoRow : OpenClaim := { program := "ytflnakjffgobmaagreat", sum := "ca9cac479815682f684fe34e19c591ef086c2a053488f4b7a0adb7f87fe333b6", func := "clerestory/clerestorylaw04.ShiftNumbers", spec := "shiftNumbers", inPlace := ["internal/bytealg.IndexByteString"], unfollowed := true, recurses := true, apart := false, narrowed := true }
def ShiftNumbersUptoSaid : Prop := shiftNumbersUptoRow.holds Tryz.pinned (OpenSpec.upto shiftNumbersSpec)

end Rows
end Go.Proofs.YtflnakjffgobmaaGreat

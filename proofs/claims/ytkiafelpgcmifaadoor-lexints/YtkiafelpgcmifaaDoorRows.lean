/-
  NARROWER THAN 'FOR EVERY INPUT', by the rows' own cells (each row's printed sentence says how): LexTells: laid · LexNames: laid · LexInts: laid.
  DERIVED. THE GIVEN ROWS OF THIS SEAT. 3 by the template 'for every input the law returns true; each argument reads behind the call as it read before'; 0 by the template 'total and deterministic' (their statements: YtkiafelpgcmifaaDoorTotals.lean).
  GIVEN WITH THE SEED: the statements are not yours to turn. If you find one false, say at which input.
  Laid BY PROGRAM, IN A SANDBOX (cutbox-rows.mjs): the forced cells as the released guide's own fill.sh prints them over the translation 0260b455d25e2f16… (all of the seat's roots in one cut). By AI agents, Wed Nov 11 2026. No macro, syntax, notation, axiom, sorry.
-/
import Derived.Test.YtkiafelpgcmifaaDoorChecked
import GoSem.Claim
import GoSem.ClaimJoined
import GoSem.ClaimMapViews
import Derived.JoinedTies
import Derived.KernelRfl
namespace Go.Proofs.YtkiafelpgcmifaaDoor
/- THE CELL 'sum', in the pinned program and in every row, IS THE sha256 OF THE DUMP (.gsa) THAT YtkiafelpgcmifaaDoorProg.lean LOADS. Nothing in Lean hashes anything: it is a label: what it is worth is what the hold of that sum in a sandbox is worth. -/
noncomputable def Tryd.pinned : Pinned := { name := "ytkiafelpgcmifaadoor", sum := "0260b455d25e2f1660c6cad6b54e82442a247805b0786b60640274994688e549", checked := Tryd.checked }
namespace Rows
def none {H : Type} : Left H := { results := [], args := [] }

/- WHAT THE LISTED PACKAGE-LEVEL VARIABLES READ AS WHEN THE CALL BEGINS. Each datum BY PROGRAM (the guide's laid-datum.mjs) off the statement by which the dump's own 'gosem.cut.vars' lays the variable. In a bare row this is a premise. The card (YtkiafelpgcmifaaDoorCards.lean) ties it to the program's text. -/
def laid_clerestory_lex_signs {H : Type} : DataW H := .slice [.lit (.string [61, 61]), .lit (.string [33, 61]), .lit (.string [60, 61]), .lit (.string [62, 61]), .lit (.string [38, 38]), .lit (.string [124, 124]), .lit (.string [40]), .lit (.string [41]), .lit (.string [123]), .lit (.string [125]), .lit (.string [91]), .lit (.string [93]), .lit (.string [44]), .lit (.string [59]), .lit (.string [61]), .lit (.string [60]), .lit (.string [62]), .lit (.string [43]), .lit (.string [45]), .lit (.string [42]), .lit (.string [47]), .lit (.string [37]), .lit (.string [33])] []

/-- 'clerestorylaw05.LexTells': WHATEVER THE INPUT: true; the input reads as it did. -/
def lexTellsSpec : ChangeSpec := { name := "lexTells", fn := fun _ => fun
  | [d] => { results := [.lit (.bool true)], args := [d] }
  | _ => none }
def lexTellsRow : OpenClaim := { program := "ytkiafelpgcmifaadoor", sum := "0260b455d25e2f1660c6cad6b54e82442a247805b0786b60640274994688e549", func := "clerestory/clerestorylaw05.LexTells", spec := "lexTells", unfollowed := true, recurses := true, named := ["clerestory/lex.signs"], apart := false, laid := [("clerestory/lex.signs", laid_clerestory_lex_signs)] }
def LexTellsSaid : Prop := lexTellsRow.holds Tryd.pinned (OpenSpec.ofChange lexTellsSpec)

/-- ITS FALSE NEIGHBOUR: 'it returns false'. Refute it at one input. -/
def lexTellsWrong : ChangeSpec := { name := "lexTells", fn := fun _ => fun
  | [d] => { results := [.lit (.bool false)], args := [d] }
  | _ => none }
def LexTellsWrongFalsely : Prop := lexTellsRow.holds Tryd.pinned (OpenSpec.ofChange lexTellsWrong)

/-- 'clerestorylaw05.LexNames': WHATEVER THE INPUT: true; the input reads as it did. -/
def lexNamesSpec : ChangeSpec := { name := "lexNames", fn := fun _ => fun
  | [d] => { results := [.lit (.bool true)], args := [d] }
  | _ => none }
def lexNamesRow : OpenClaim := { program := "ytkiafelpgcmifaadoor", sum := "0260b455d25e2f1660c6cad6b54e82442a247805b0786b60640274994688e549", func := "clerestory/clerestorylaw05.LexNames", spec := "lexNames", unfollowed := true, recurses := true, named := ["clerestory/lex.signs"], apart := false, laid := [("clerestory/lex.signs", laid_clerestory_lex_signs)] }
def LexNamesSaid : Prop := lexNamesRow.holds Tryd.pinned (OpenSpec.ofChange lexNamesSpec)

/-- ITS FALSE NEIGHBOUR: 'it returns false'. Refute it at one input. -/
def lexNamesWrong : ChangeSpec := { name := "lexNames", fn := fun _ => fun
  | [d] => { results := [.lit (.bool false)], args := [d] }
  | _ => none }
def LexNamesWrongFalsely : Prop := lexNamesRow.holds Tryd.pinned (OpenSpec.ofChange lexNamesWrong)

/-- 'clerestorylaw05.LexInts': WHATEVER THE INPUT: true; the input reads as it did. -/
def lexIntsSpec : ChangeSpec := { name := "lexInts", fn := fun _ => fun
  | [d1, d2] => { results := [.lit (.bool true)], args := [d1, d2] }
  | _ => none }
def lexIntsRow : OpenClaim := { program := "ytkiafelpgcmifaadoor", sum := "0260b455d25e2f1660c6cad6b54e82442a247805b0786b60640274994688e549", func := "clerestory/clerestorylaw05.LexInts", spec := "lexInts", unfollowed := true, recurses := true, named := ["clerestory/lex.signs"], apart := false, laid := [("clerestory/lex.signs", laid_clerestory_lex_signs)] }
def LexIntsSaid : Prop := lexIntsRow.holds Tryd.pinned (OpenSpec.ofChange lexIntsSpec)

/-- ITS FALSE NEIGHBOUR: 'it returns false'. Refute it at one input. -/
def lexIntsWrong : ChangeSpec := { name := "lexInts", fn := fun _ => fun
  | [d1, d2] => { results := [.lit (.bool false)], args := [d1, d2] }
  | _ => none }
def LexIntsWrongFalsely : Prop := lexIntsRow.holds Tryd.pinned (OpenSpec.ofChange lexIntsWrong)

/- THE SECOND FORM. 'bulk': how many values and letters a reading holds, each counted each time it is reached (what is shared counts as often as it is met; a slice's spare places count too). A statement '..UptoSaid' is the law's where the arguments, and the package variables that the reading takes, are together of bulk at most 1048576: NARROWER than '..Said'. Prove '..Said' where nothing that the law and all that it calls make is longer than what came in: it says more and counts as full. Else prove '..UptoSaid'. A law counts once. -/
mutual
def uptoBulk {H : Type} : DataW H → Nat
  | .lit (.string bytes) => bytes.length + 1
  | .lit _ => 1
  | .nil => 1
  | .ptr d => uptoBulk d + 1
  | .slice elems spare => uptoBulkAll elems + uptoBulkAll spare + 1
  | .agg parts => uptoBulkAll parts + 1
  | .iface _ d => uptoBulk d + 1
  | .map entries => uptoBulkEntries entries + 1
  | .held _ => 1
def uptoBulkAll {H : Type} : List (DataW H) → Nat
  | [] => 0
  | d :: r => uptoBulk d + uptoBulkAll r
def uptoBulkEntries {H : Type} : List (Lit × DataW H) → Nat
  | [] => 0
  | x :: r => uptoBulkEntry x + uptoBulkEntries r
def uptoBulkEntry {H : Type} : Lit × DataW H → Nat
  | (.string bytes, d) => bytes.length + uptoBulk d + 1
  | (_, d) => uptoBulk d + 1
 end
def uptoSmall : (H : Type) → List (DataW H) → Bool := fun _ ds => decide (uptoBulkAll ds ≤ 1048576)
def OpenSpec.upto (s : _root_.Go.ChangeSpec) : _root_.Go.OpenSpec := { _root_.Go.OpenSpec.ofChange s with cond := some uptoSmall }

/-- 'clerestorylaw05.LexTells', WHERE WHAT IT READS IS OF BULK AT MOST 1048576: true; the input reads as it did. -/
def lexTellsUptoRow : OpenClaim := { program := "ytkiafelpgcmifaadoor", sum := "0260b455d25e2f1660c6cad6b54e82442a247805b0786b60640274994688e549", func := "clerestory/clerestorylaw05.LexTells", spec := "lexTells", unfollowed := true, recurses := true, named := ["clerestory/lex.signs"], apart := false, laid := [("clerestory/lex.signs", laid_clerestory_lex_signs)], narrowed := true }
def LexTellsUptoSaid : Prop := lexTellsUptoRow.holds Tryd.pinned (OpenSpec.upto lexTellsSpec)

/-- 'clerestorylaw05.LexNames', WHERE WHAT IT READS IS OF BULK AT MOST 1048576: true; the input reads as it did. -/
def lexNamesUptoRow : OpenClaim := { program := "ytkiafelpgcmifaadoor", sum := "0260b455d25e2f1660c6cad6b54e82442a247805b0786b60640274994688e549", func := "clerestory/clerestorylaw05.LexNames", spec := "lexNames", unfollowed := true, recurses := true, named := ["clerestory/lex.signs"], apart := false, laid := [("clerestory/lex.signs", laid_clerestory_lex_signs)], narrowed := true }
def LexNamesUptoSaid : Prop := lexNamesUptoRow.holds Tryd.pinned (OpenSpec.upto lexNamesSpec)

/-- 'clerestorylaw05.LexInts', WHERE WHAT IT READS IS OF BULK AT MOST 1048576: true; the input reads as it did. -/
def lexIntsUptoRow : OpenClaim := { program := "ytkiafelpgcmifaadoor", sum := "0260b455d25e2f1660c6cad6b54e82442a247805b0786b60640274994688e549", func := "clerestory/clerestorylaw05.LexInts", spec := "lexInts", unfollowed := true, recurses := true, named := ["clerestory/lex.signs"], apart := false, laid := [("clerestory/lex.signs", laid_clerestory_lex_signs)], narrowed := true }
def LexIntsUptoSaid : Prop := lexIntsUptoRow.holds Tryd.pinned (OpenSpec.upto lexIntsSpec)

end Rows
end Go.Proofs.YtkiafelpgcmifaaDoor

/-
  The walks of the document's answers of chapter 5: letters, digits, blanks, words, names, numbers.
-/
import Derived.Test.YtkiafelpgcmifabDoorLxAwake
import Derived.Test.YtkiafelpgcmifabDoorSame
namespace Go.Proofs.YtkiafelpgcmifabDoor
open Go.RowKit

end Go.Proofs.YtkiafelpgcmifabDoor

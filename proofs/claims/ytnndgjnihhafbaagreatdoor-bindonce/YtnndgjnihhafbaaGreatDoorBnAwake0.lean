/-
  Two texts, parsed, and what is bound in them.
-/
import Derived.Test.YtnndgjnihhafbaaGreatDoorBnTell
import Derived.Test.YtnndgjnihhafbaaGreatDoorEndAll
namespace Go.Proofs.YtnndgjnihhafbaaGreatDoor
open Go.RowKit Go.Shelf

def sA9 : ByteArray := ⟨#[102, 117, 110, 99, 32, 102, 40, 97, 41, 32, 123, 32, 118, 97, 114, 32, 97, 32, 61, 32, 97, 59, 32, 112, 114, 105, 110, 116, 32, 97, 59, 32, 125]⟩
def sB9 : ByteArray := ⟨#[102, 117, 110, 99, 32, 102, 40, 41, 32, 123, 32, 112, 114, 105, 110, 116, 32, 120, 59, 32, 118, 97, 114, 32, 120, 32, 61, 32, 49, 59, 32, 125]⟩
def kidA9 : Tr := .mk 2 [102] 0 [.mk 3 [] 0 [.mk 4 [97] 0 []], .mk 5 [] 0 [.mk 6 [97] 0 [.mk 22 [97] 0 []], .mk 11 [] 0 [.mk 22 [97] 0 []]]]
def kidB9 : Tr := .mk 2 [102] 0 [.mk 3 [] 0 [], .mk 5 [] 0 [.mk 11 [] 0 [.mk 22 [120] 0 []], .mk 6 [120] 0 [.mk 20 [] 1 []]]]
def uA9 : List Lx.Tok := [⟨2, [102, 117, 110, 99], 0⟩, ⟨1, [102], 5⟩, ⟨4, [40], 6⟩, ⟨1, [97], 7⟩, ⟨4, [41], 8⟩, ⟨4, [123], 10⟩, ⟨2, [118, 97, 114], 12⟩, ⟨1, [97], 16⟩, ⟨4, [61], 18⟩, ⟨1, [97], 20⟩, ⟨4, [59], 21⟩, ⟨2, [112, 114, 105, 110, 116], 23⟩, ⟨1, [97], 29⟩, ⟨4, [59], 30⟩, ⟨4, [125], 32⟩]
def uB9 : List Lx.Tok := [⟨2, [102, 117, 110, 99], 0⟩, ⟨1, [102], 5⟩, ⟨4, [40], 6⟩, ⟨4, [41], 7⟩, ⟨4, [123], 9⟩, ⟨2, [112, 114, 105, 110, 116], 11⟩, ⟨1, [120], 17⟩, ⟨4, [59], 18⟩, ⟨2, [118, 97, 114], 20⟩, ⟨1, [120], 24⟩, ⟨4, [61], 26⟩, ⟨3, [49], 28⟩, ⟨4, [59], 29⟩, ⟨4, [125], 31⟩]
set_option maxRecDepth 100000 in
theorem lexesA9 : Lx.lex sA9.data.toList = .ok uA9 := by kernel_rfl
set_option maxRecDepth 100000 in
theorem lexesB9 : Lx.lex sB9.data.toList = .ok uB9 := by kernel_rfl
set_option maxRecDepth 100000 in
theorem eatsA9 : Ps.Eats (.file []) (uA9 ++ [⟨5, [], sA9.size⟩]) 0 (.ok [kidA9] [⟨5, [], 33⟩]) := ⟨40, by kernel_rfl⟩
set_option maxRecDepth 100000 in
theorem eatsB9 : Ps.Eats (.file []) (uB9 ++ [⟨5, [], sB9.size⟩]) 0 (.ok [kidB9] [⟨5, [], 32⟩]) := ⟨40, by kernel_rfl⟩
set_option maxRecDepth 100000 in
theorem rightA9 : Tr.right 40 (.mk 1 [] 0 [kidA9]) = true := by kernel_rfl
set_option maxRecDepth 100000 in
theorem rightB9 : Tr.right 40 (.mk 1 [] 0 [kidB9]) = true := by kernel_rfl
theorem bdA9 : Tr.Bd [.mk 1 [] 0 [kidA9]] := ⟨by simp [kidA9, Tr.sizes, Tr.size], by simp [kidA9, Tr.textsL, Tr.texts]⟩
theorem bdB9 : Tr.Bd [.mk 1 [] 0 [kidB9]] := ⟨by simp [kidB9, Tr.sizes, Tr.size], by simp [kidB9, Tr.textsL, Tr.texts]⟩
def bsA9 : List Bn.Bd := [⟨[0], [102], [], 1⟩, ⟨[0, 0, 0], [97], [[0, 1, 0, 0]], 0⟩, ⟨[0, 1, 0], [97], [[0, 1, 1, 0]], 0⟩]
set_option maxRecDepth 100000 in
theorem bindersA9 : Bn.binders (.mk 1 [] 0 [kidA9]) = bsA9 := by kernel_rfl
set_option maxRecDepth 100000 in
theorem faultA9 : Bn.fault (.mk 1 [] 0 [kidA9]) = (0, 0) := by kernel_rfl
set_option maxRecDepth 100000 in
theorem faultB9 : Bn.fault (.mk 1 [] 0 [kidB9]) = (111, 5) := by kernel_rfl
end Go.Proofs.YtnndgjnihhafbaaGreatDoor

/-
  All the reader's rules, however many tokens there are; a file's functions, as plain data.
-/
import Derived.Test.YtfegodofbdlbeaaGreatDoorRsFunc
namespace Go.Proofs.YtfegodofbdlbeaaGreatDoor
open Go.RowKit Go.Shelf
open Rs (St)

/-- The rules that call one another. -/
structure RAll (m : Nat) : Prop where
  un : RDo 116 .unary [] m
  or : RDo 90 (.bin 0) [] m
  ca : ∀ q, q.length ≤ 1000000 → RDo 93 (.call q) [.string (Ln.bs q)] m
  bl : RDo 42 .block [] m
  st : RDo 69 .stmt [] m
theorem rall_of (m : Nat) (h : ∀ m', m = m' + 1 → RAll m') : RAll m := by
  have pr := rprime_of m (fun m' e => (h m' e).or) (fun m' q e hq => (h m' e).ca q hq)
  have un := runary_of m (fun m' e => (h m' e).un) (fun m' e => (h m' e).or) pr
  have or := rlevels_of m un
  have ca := fun q hq => rcall_of m q hq (fun m' e => (h m' e).or)
  have bl := rblock_of m (fun m' e => (h m' e).st)
  exact ⟨un, or, ca, bl, rstatement_of m or bl ca⟩
theorem rall : ∀ m, RAll m
  | 0 => rall_of 0 (fun _ e => by cases e)
  | m + 1 => rall_of (m + 1) (fun m' e => by cases e; exact rall m)
theorem rfunction_any (m : Nat) : RDo 15 .func [] m := rfunction_of m (rall m).bl

namespace Rs
open Ps (R Eats sees hd go)
section
variable {L : List Lx.Tok} {s0 s1 s2 s3 : St} {acc : List Tr} {y : Tr}
theorem Till.file (h : Till L (.file []) s1 (.file acc) s2) (h0 : s2.E = 0) (hk : (hd (rest L s2)).kind ≠ 5) (hr : Rel L .func s2 y s3) : Till L (.file []) s1 (.file (acc ++ [y])) s3 := by
  refine ⟨hr.good, h.kept.trans hr.kept, fun hl => ?_⟩
  rcases h.live hl with ⟨h3, -⟩ | ⟨-, h4, h5⟩
  · exact absurd h0 h3
  rcases hr.live h0 with ⟨h6, n, h7⟩ | ⟨h6, h7, n, h8⟩
  · exact .inl ⟨h6, h5 _ ⟨n + 1, by rw [go, if_neg hk, h7]; rfl⟩⟩
  · refine .inr ⟨h6, h7.trans h4, fun q hq => h5 q ?_⟩
    obtain ⟨k, hk2⟩ := hq
    rw [h7] at hk2
    have e0 := Ps.go_le (Nat.le_max_left n k) h8
    have e1 := Ps.go_le (Nat.le_max_right n k) hk2
    exact ⟨max n k + 1, by rw [go, if_neg hk, e0]; exact e1⟩
theorem Till.file_end (h : Till L (.file []) s1 (.file acc) s2) (hl : s1.E = 0) (hk : s2.E = 0 → (hd (rest L s2)).kind = 5) : (s2.E ≠ 0 ∧ Eats (.file []) (rest L s1) s1.o.toNat (.bad s2.E s2.i)) ∨ (s2.E = 0 ∧ Eats (.file []) (rest L s1) s1.o.toNat (.ok acc (rest L s2))) := by
  rcases h.live hl with h1 | ⟨h1, h2, h3⟩
  · exact .inl h1
  · exact .inr ⟨h1, h3 _ ⟨1, by rw [go, if_pos (hk h1)]⟩⟩
end
end Rs
end Go.Proofs.YtfegodofbdlbeaaGreatDoor

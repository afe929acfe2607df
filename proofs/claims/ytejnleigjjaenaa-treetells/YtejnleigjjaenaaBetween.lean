/-
  The walk of the function that yields the hunks (diff.between, and the function that it makes).
-/
import Derived.Test.YtejnleigjjaenaaHeld
import Derived.Test.YtejnleigjjaenaaCopied
import Derived.Test.YtejnleigjjaenaaCommon
namespace Go.Proofs.Ytejnleigjjaenaa
open Go.RowKit Go.Shelf

attribute [local go_sem] Oper.semAt_some

/-- A hunk that is yielded: its values, and the lines that they read as. -/
structure HV where
  at_ : Nat
  vo : Value
  vn : Value
  old : List (List UInt8)
  new : List (List UInt8)
def HV.hk (x : HV) : Df.Hk (List UInt8) := ⟨x.at_, x.old, x.new⟩
def HV.val (x : HV) : Value := hkV x.at_ x.vo x.vn
/-- The blocks in which lines of hunks lie. -/
def bl (xs : List HV) : List Nat := (xs.flatMap fun x => [x.vo, x.vn]).filterMap Value.ownBlock
theorem bl_append (xs ys : List HV) : bl (xs ++ ys) = bl xs ++ bl ys := by simp [bl]
/-- Its lines lie in memory of its own. -/
def HV.Ok (B : Nat) (x : HV) (W : World) : Prop := W.ownsRow B 9 1 x.vo x.old.length (x.old.map txtV) ∧ W.ownsRow B 9 1 x.vn x.new.length (x.new.map txtV)

set_option maxRecDepth 100000 in
/-- A part of a row of texts. -/
theorem slice_row {m : Nat} {W : World} {v : Value} {A : List (List UInt8)} {i k : Nat} (h : RowLow m W v A) (hi : i ≤ k) (hk : k ≤ A.length) :
    ∃ v', (∀ w, (Instr.slice 32 v (some (.int .i64 i)) (some (.int .i64 k)) none).run Try.prog w = .ok v' w) ∧ RowLow m W v' (Df.part A i k) := by
  obtain ⟨ao, cap, b, off, rfl, ⟨hcap, hnone⟩, ha, hc⟩ := h
  have hr : ∀ w, (Instr.slice 32 (.slice ao A.length cap) (some (.int .i64 i)) (some (.int .i64 k)) none).run Try.prog w = .ok (.slice (if cap = i then ao else ao.map (·.add (i * 1))) (k - i) (cap - i)) w := by
    intro w
    have h1 := run_slice_lh (P := Try.prog) w 32 ao A.length cap Try.underlying32 .i64 .i64 i k (by omega) (by omega) (by omega)
    have h2 : (sizeOf (Try.prog.elem 32)).run Try.prog w = .ok 1 w := by rfl
    rw [h1, h2]
    simp [Result.andThen, sliced]
  refine ⟨_, hr, ?_⟩
  have hl : (Df.part A i k).length = k - i := Df.part_length A i k hk
  refine ⟨_, cap - i, b, off + i, by rw [hl], ⟨by omega, fun e => ?_⟩, fun h0 => ?_, fun j x hj => ?_⟩
  · have e0 : ao = none := by
      by_cases h9 : cap = i
      · rw [if_pos h9] at e; exact e
      · rw [if_neg h9] at e; simpa using e
    have := hnone e0; omega
  · obtain ⟨e1, e2⟩ := ha (by omega)
    rw [if_neg (by omega), e1]
    refine ⟨?_, e2⟩
    cases i <;> simp [Addr.add]
  · rw [Nat.add_assoc]
    refine hc (i + j) x ?_
    rw [List.getElem?_map] at hj ⊢
    unfold Df.part at hj
    rw [List.getElem?_take] at hj
    split at hj
    · rw [List.getElem?_drop] at hj; exact hj
    · simp at hj

/-- Pairs between which there are parts of both rows. -/
def Steps (a b : Nat) : Nat → Nat → List (Nat × Nat) → Prop
  | _, _, [] => True
  | i, j, p :: ps => i ≤ p.1 ∧ p.1 ≤ a ∧ j ≤ p.2 ∧ p.2 ≤ b ∧ Steps a b (p.1 + 1) (p.2 + 1) ps
theorem steps_of_good {α : Type} {A B : List α} : ∀ (ps : List (Nat × Nat)) (i j : Nat), i ≤ A.length → j ≤ B.length → Df.Good A B i j ps → Steps A.length B.length i j (ps ++ [(A.length, B.length)])
  | [], i, j, hi, hj, _ => ⟨hi, Nat.le_refl _, hj, Nat.le_refl _, trivial⟩
  | p :: ps, i, j, hi, hj, hg => by
    have hge := hg.ge p List.mem_cons_self
    have hlt := hg.lt p List.mem_cons_self
    have hr := List.pairwise_cons.1 hg.rise
    exact ⟨hge.1, by omega, hge.2, by omega, steps_of_good ps (p.1 + 1) (p.2 + 1) (by omega) (by omega)
      ⟨fun q hq => by have := hr.1 q hq; omega, fun q hq => hg.lt q (List.mem_cons_of_mem _ hq), fun q hq => hg.same q (List.mem_cons_of_mem _ hq), hr.2⟩⟩

theorem bl_one {w : World} {q n2 : Nat} {x : HV} {L2 : List Value} (hq : ∀ b, x.vo.ownBlock = some b → b < q) (h2 : w.ownsRow q 9 1 x.vn n2 L2) : (bl [x]).Pairwise (· < ·) := by
  have e : bl [x] = [x.vo, x.vn].filterMap Value.ownBlock := by simp [bl]
  rw [e]
  cases h3 : x.vo.ownBlock with
  | none => cases h4 : x.vn.ownBlock <;> simp [h3, h4]
  | some b =>
    cases h4 : x.vn.ownBlock with
    | none => simp [h3, h4]
    | some c =>
      have := hq b h3
      have := (h2.lt c h4).1
      simp [h3, h4]; omega
theorem bl_bounds {w : World} {B q n1 n2 : Nat} {x : HV} {L1 L2 : List Value} (h1 : w.ownsRow B 9 1 x.vo n1 L1) (h2 : w.ownsRow q 9 1 x.vn n2 L2) (hB : B ≤ q) : ∀ b ∈ bl [x], B ≤ b ∧ b < w.heap.size := by
  intro b hb
  have e : bl [x] = [x.vo, x.vn].filterMap Value.ownBlock := by simp [bl]
  rw [e, List.mem_filterMap] at hb
  obtain ⟨v, hv, hvb⟩ := hb
  simp at hv
  rcases hv with rfl | rfl
  · exact h1.lt b hvb
  · have := h2.lt b hvb; omega

end Go.Proofs.Ytejnleigjjaenaa

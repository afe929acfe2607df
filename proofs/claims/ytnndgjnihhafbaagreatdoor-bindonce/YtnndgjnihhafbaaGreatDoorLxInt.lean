/-
  What digits say, and how they are compared as texts.
-/
import Derived.Test.YtnndgjnihhafbaaGreatDoorLxMath
import GoSem.Op.String
namespace Go.Proofs.YtnndgjnihhafbaaGreatDoor
namespace Lx

theorem val_from (n : Nat) (l : List UInt8) : l.foldl (fun n b => 10 * n + (b.toNat - 48)) n = n * 10 ^ l.length + val l := by
  induction l generalizing n with
  | nil => simp [val]
  | cons b l ih =>
    unfold val
    rw [List.foldl_cons, ih, List.foldl_cons, ih (10 * 0 + (b.toNat - 48)), List.length_cons, Nat.pow_succ]
    rw [Nat.mul_zero, Nat.zero_add, Nat.add_mul, Nat.add_assoc, show 10 * n * 10 ^ l.length = n * (10 ^ l.length * 10) by rw [Nat.mul_comm 10 n, Nat.mul_assoc, Nat.mul_comm 10]]
theorem val_cons (b : UInt8) (l : List UInt8) : val (b :: l) = (b.toNat - 48) * 10 ^ l.length + val l := by
  have := val_from (10 * 0 + (b.toNat - 48)) l
  unfold val at this ⊢
  rw [List.foldl_cons, this, Nat.mul_zero, Nat.zero_add]
def digits (l : List UInt8) : Prop := ∀ b ∈ l, 48 ≤ b.toNat ∧ b.toNat ≤ 57
theorem digits_of_lead {l : List UInt8} (h : lead digitI l = l.length) : digits l := by
  intro b hb
  have := lead_all digitI l h b hb
  simp [digitI] at this
  omega
theorem val_lt (l : List UInt8) (h : digits l) : val l < 10 ^ l.length := by
  induction l with
  | nil => simp [val]
  | cons b l ih =>
    have h1 := ih (fun x hx => h x (by simp [hx]))
    have h2 := h b (by simp)
    rw [val_cons, List.length_cons, Nat.pow_succ]
    have : (b.toNat - 48) * 10 ^ l.length ≤ 9 * 10 ^ l.length := Nat.mul_le_mul_right _ (by omega)
    omega
theorem val_ge (b : UInt8) (l : List UInt8) (h : digits (b :: l)) (hb : b ≠ 48) : 10 ^ l.length ≤ val (b :: l) := by
  have h2 := h b (by simp)
  have : b.toNat ≠ 48 := fun e => hb (UInt8.toNat_inj.1 e)
  rw [val_cons]
  have : 1 * 10 ^ l.length ≤ (b.toNat - 48) * 10 ^ l.length := Nat.mul_le_mul_right _ (by omega)
  omega
/-- Of as many digits, texts are compared as what they say. -/
theorem less_val : ∀ (a b : List UInt8), a.length = b.length → digits a → digits b → (Op.bytesLess a b || a == b) = decide (val a ≤ val b)
  | [], [], _, _, _ => by simp [Op.bytesLess, val]
  | [], _ :: _, h, _, _ => by simp at h
  | _ :: _, [], h, _, _ => by simp at h
  | x :: a, y :: b, h, ha, hb => by
    have hl : a.length = b.length := by simpa using h
    have da : digits a := fun u hu => ha u (by simp [hu])
    have db : digits b := fun u hu => hb u (by simp [hu])
    have ih := less_val a b hl da db
    have la := val_lt a da
    have lb := val_lt b db
    have hx := ha x (by simp)
    have hy := hb y (by simp)
    rw [val_cons, val_cons, hl]
    rw [hl] at la
    have e : (Op.bytesLess (x :: a) (y :: b) || (x :: a) == (y :: b)) = (decide (x < y) || (x == y && (Op.bytesLess a b || a == b))) := by
      show ((decide (x < y) || (x == y && Op.bytesLess a b)) || (x == y && a == b)) = _
      cases decide (x < y) <;> cases (x == y) <;> simp
    rw [e, ih]
    generalize 10 ^ b.length = P at *
    by_cases h1 : x.toNat < y.toNat
    · have g : decide (x < y) = true := decide_eq_true (UInt8.lt_iff_toNat_lt.2 h1)
      rw [g, Bool.true_or]
      have : (x.toNat - 48 + 1) * P ≤ (y.toNat - 48) * P := Nat.mul_le_mul_right _ (by omega)
      rw [Nat.add_mul] at this
      symm; rw [decide_eq_true_iff]; omega
    · have g : decide (x < y) = false := decide_eq_false (fun h => h1 (UInt8.lt_iff_toNat_lt.1 h))
      rw [g, Bool.false_or]
      by_cases h2 : x = y
      · subst h2
        simp
      · have g2 : (x == y) = false := by simpa using h2
        rw [g2, Bool.false_and]
        have : x.toNat ≠ y.toNat := fun e => h2 (UInt8.toNat_inj.1 e)
        have : (y.toNat - 48 + 1) * P ≤ (x.toNat - 48) * P := Nat.mul_le_mul_right _ (by omega)
        rw [Nat.add_mul] at this
        symm; rw [decide_eq_false_iff_not]; omega

/-- 2^63 - 1, as a text. -/
def most : List UInt8 := [57, 50, 50, 51, 51, 55, 50, 48, 51, 54, 56, 53, 52, 55, 55, 53, 56, 48, 55]
theorem most_val : val most = 9223372036854775807 := by decide
theorem most_digits : digits most := by unfold digits; decide
/-- By texts: fewer digits, or as many and not behind. -/
theorem val_text (l : List UInt8) (hd : digits l) (hn : l ≠ []) (hz : noZero l = true) : decide (val l ≤ 9223372036854775807) = (decide (l.length < 19) || (decide (l.length = 19) && (Op.bytesLess l most || l == most))) := by
  by_cases h1 : l.length < 19
  · have : val l < 10 ^ 18 := Nat.lt_of_lt_of_le (val_lt l hd) (Nat.pow_le_pow_right (by omega) (by omega))
    rw [decide_eq_true h1, Bool.true_or, decide_eq_true_iff]
    omega
  · rw [decide_eq_false h1, Bool.false_or]
    by_cases h2 : l.length = 19
    · rw [decide_eq_true h2, Bool.true_and, less_val l most h2 hd most_digits, most_val]
    · rw [decide_eq_false h2, Bool.false_and, decide_eq_false_iff_not]
      match l, hn with
      | [_], _ => simp at h1
      | b :: c :: r, _ =>
        have hb : b ≠ 48 := by simpa [noZero] using hz
        have := val_ge b (c :: r) hd hb
        have h3 : 10 ^ 19 ≤ 10 ^ (c :: r).length := Nat.pow_le_pow_right (by omega) (by simp at h1 h2 ⊢; omega)
        omega
end Lx
end Go.Proofs.YtnndgjnihhafbaaGreatDoor

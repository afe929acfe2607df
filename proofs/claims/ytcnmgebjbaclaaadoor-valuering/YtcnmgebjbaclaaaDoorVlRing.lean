/-
  Ints modulo 2^64: sums, products, quotients, rests.
-/
import Derived.Test.YtcnmgebjbaclaaaDoorVlMath
namespace Go.Proofs.YtcnmgebjbaclaaaDoor
namespace Vl
def In (x : Int) : Prop := -9223372036854775808 ≤ x ∧ x ≤ 9223372036854775807
theorem wrap_id {z : Int} (h : In z) : wrap z = z := by unfold In at h; unfold wrap; omega
theorem wrap_more (a t : Int) : wrap (a + 18446744073709551616 * t) = wrap a := by unfold wrap; omega
theorem wrap_ex (a : Int) : ∃ k, wrap a = a + 18446744073709551616 * k := ⟨-((a + 9223372036854775808) / 18446744073709551616), by unfold wrap; omega⟩
def add (x y : Int) : Int := wrap (x + y)
def sub (x y : Int) : Int := wrap (x - y)
def mul (x y : Int) : Int := wrap (x * y)
def neg (x : Int) : Int := wrap (-x)
def quo (x y : Int) : Int := wrap (x.tdiv y)
def rem (x y : Int) : Int := x.tmod y
theorem add_comm (x y : Int) : add x y = add y x := by unfold add; rw [Int.add_comm]
theorem mul_comm (x y : Int) : mul x y = mul y x := by unfold mul; rw [Int.mul_comm]
theorem add_assoc (x y z : Int) : add (add x y) z = add x (add y z) := by unfold add wrap; omega
theorem mul_assoc (x y z : Int) : mul (mul x y) z = mul x (mul y z) := by
  unfold mul
  obtain ⟨k, hk⟩ := wrap_ex (x * y)
  obtain ⟨l, hl⟩ := wrap_ex (y * z)
  rw [hk, hl]
  have e1 : (x * y + 18446744073709551616 * k) * z = x * (y * z) + 18446744073709551616 * (k * z) := by rw [Int.add_mul, Int.mul_assoc, Int.mul_assoc]
  have e2 : x * (y * z + 18446744073709551616 * l) = x * (y * z) + 18446744073709551616 * (x * l) := by rw [Int.mul_add, Int.mul_left_comm x 18446744073709551616 l]
  rw [e1, e2, wrap_more, wrap_more]
theorem mul_add (x y z : Int) : mul x (add y z) = add (mul x y) (mul x z) := by
  unfold mul add
  obtain ⟨k, hk⟩ := wrap_ex (y + z)
  obtain ⟨l, hl⟩ := wrap_ex (x * y)
  obtain ⟨m, hm⟩ := wrap_ex (x * z)
  rw [hk, hl, hm]
  have e1 : x * (y + z + 18446744073709551616 * k) = x * y + x * z + 18446744073709551616 * (x * k) := by rw [Int.mul_add, Int.mul_add, Int.mul_left_comm x 18446744073709551616 k]
  have e2 : x * y + 18446744073709551616 * l + (x * z + 18446744073709551616 * m) = x * y + x * z + 18446744073709551616 * (l + m) := by rw [Int.mul_add]; omega
  rw [e1, e2, wrap_more, wrap_more]
theorem sub_add {x y : Int} (hx : In x) : sub (add x y) y = x := by unfold In at hx; unfold sub add wrap; omega
theorem neg_add (x : Int) : add (neg x) x = 0 := by unfold add neg wrap; omega
theorem quo_rem {x y : Int} (hx : In x) : add (mul (quo x y) y) (rem x y) = x := by
  unfold add mul quo rem
  obtain ⟨k, hk⟩ := wrap_ex (x.tdiv y)
  obtain ⟨l, hl⟩ := wrap_ex (wrap (x.tdiv y) * y)
  rw [hl, hk]
  have e1 : (x.tdiv y + 18446744073709551616 * k) * y + 18446744073709551616 * l + x.tmod y = x.tdiv y * y + x.tmod y + 18446744073709551616 * (k * y + l) := by
    rw [Int.add_mul, Int.mul_add, Int.mul_assoc]; omega
  rw [e1, wrap_more, Int.tdiv_mul_add_tmod, wrap_id hx]
theorem rem_pos {x y : Int} (hx : 0 ≤ x) (hy : y ≠ 0) : 0 ≤ rem x y ∧ rem x y < (y.natAbs : Int) := by
  unfold rem
  rw [Int.tmod_eq_emod_of_nonneg hx]
  exact ⟨Int.emod_nonneg _ hy, Int.emod_lt _ hy⟩
theorem rem_neg {x y : Int} (hx : x < 0) (hy : y ≠ 0) : rem x y ≤ 0 ∧ -rem x y < (y.natAbs : Int) := by
  have h := rem_pos (x := -x) (y := y) (by omega) hy
  unfold rem at h ⊢
  rw [Int.neg_tmod] at h
  omega
theorem rem_sign {x y : Int} (hy : y ≠ 0) (h : rem x y ≠ 0) : decide (rem x y < 0) = decide (x < 0) := by
  by_cases hx : x < 0
  · have := (rem_neg hx hy).1
    rw [decide_eq_true hx, decide_eq_true (by omega)]
  · have := (rem_pos (x := x) (by omega) hy).1
    rw [decide_eq_false hx, decide_eq_false (by omega)]
def abs (n : Int) : Int := if n < 0 then wrap (-n) else n
theorem abs_eq {y : Int} (hy : In y) (hm : y ≠ -9223372036854775808) : abs y = (y.natAbs : Int) := by
  unfold In at hy
  unfold abs
  split
  · rw [wrap_id (by unfold In; omega)]; omega
  · omega
theorem rem_abs {x y : Int} (hy : In y) (h0 : y ≠ 0) (hm : y ≠ -9223372036854775808) : (rem x y < 0 → -rem x y < abs y) ∧ (0 ≤ rem x y → rem x y < abs y) := by
  rw [abs_eq hy hm]
  by_cases hx : x < 0
  · have := rem_neg hx h0; exact ⟨fun _ => this.2, fun _ => by omega⟩
  · have := rem_pos (x := x) (by omega) h0; exact ⟨fun _ => by omega, fun _ => this.2⟩
end Vl
end Go.Proofs.YtcnmgebjbaclaaaDoor

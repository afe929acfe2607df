/-
  The walk of clerestorykit.TextsOf.
-/
import Derived.Test.YtkiafelpgcmifaaBase
namespace Go.Proofs.Ytkiafelpgcmifaa
open Go.RowKit

set_option maxRecDepth 100000 in
set_option maxHeartbeats 4000000 in
theorem textsOf_all (L : List (List UInt8)) (v : Value) (m : Nat) (w : World) (hrow : RowLow m w v L) (hL : L.length ≤ 1000000000000000) (hs : ∀ x ∈ L, x.length ≤ 9223372036854775807) :
    Calls Try.prog 16 #[v, .int .i64 2000] w fun e w' => ∃ r : Nat, e = .returned (.int .i64 r) ∧ w' = w ∧ (r ≤ 2000 → ∀ x ∈ L, x.length ≤ 16007) ∧ L.length ≤ r ∧ r ≤ 2000000000000000000 := by
  obtain ⟨ao, cap, b, off, rfl, -, hao, hc⟩ := hrow.parts
  clear hrow
  go_enter Try.func16, Try.ntmps16
  go_wp2
  go_loop [5, 6] (fun t i => ∃ k r : Nat, k ≤ L.length ∧ i = .int .i64 k ∧ t = .int .i64 r ∧ L.length ≤ r ∧ r ≤ 2000000000000000000 ∧ (∀ x ∈ L.take k, x.length ≤ 8 * r + 7)) (fun _ i => L.length - (intOf i).toNat)
  case atStart => exact ⟨0, L.length, Nat.zero_le _, rfl, rfl, Nat.le_refl _, by omega, fun x hx => by simp at hx⟩
  case round =>
    obtain ⟨k, r, hk, rfl, rfl, hr0, hr, hx⟩ := hrel
    have HX : Hid (∀ x ∈ L.take k, x.length ≤ 8 * r + 7) := hx
    clear hx
    by_cases hlt : k < L.length
    · have d1 : decide ((k : Int) < (L.length : Int)) = true := by simp; omega
      by_cases hle : r ≤ 2000
      · have d2 : decide ((r : Int) ≤ 2000) = true := by simp; omega
        have d3 : decide (r ≤ 2000) = true := by simp; omega
        obtain ⟨x, hx⟩ : ∃ x, L[k]? = some x := ⟨L[k], List.getElem?_eq_getElem hlt⟩
        have hxs := hs x (List.mem_of_getElem? hx)
        obtain ⟨rfl, -⟩ := hao (by omega)
        have g1 := hc k x hx
        have hsz : (Ln.bs x).size = x.length := Ln.bs_size x
        have hsz2 : (Ln.bs x).size ≤ 9223372036854775807 := by omega
        have HT : Hid (L.take (k + 1) = L.take k ++ [x]) := by
          show L.take (k + 1) = L.take k ++ [x]
          rw [List.take_add_one, hx]; rfl
        have HS : Hid ((Ln.bs x).size = x.length) := hsz
        clear hc hao hx hsz hs
        go_wp2
        go_round
        case rel =>
          have hsz := HS.out
          refine ⟨k + 1, r + x.length / 8, by omega, by go_num, ?_, by omega, by omega, ?_⟩
          · rw [hsz]; congr 1
          · intro y hy
            rw [HT.out, List.mem_append] at hy
            rcases hy with hy | hy
            · have := HX.out y hy; omega
            · simp at hy; subst hy; omega
        case measure => simp [intOf]; omega
      · have d2 : decide ((r : Int) ≤ 2000) = false := by simp; omega
        have d3 : decide (r ≤ 2000) = false := by simp; omega
        clear hc hao
        go_wp2
        go_ret
        exact ⟨r, rfl, rfl, fun h => by omega, hr0, hr⟩
    · have d1 : decide ((k : Int) < (L.length : Int)) = false := by simp; omega
      have d2 : decide (k < L.length) = false := by simp; omega
      clear hc hao
      go_wp2
      go_ret
      refine ⟨r, rfl, rfl, fun h x hx => ?_, hr0, hr⟩
      have := HX.out x (by rw [List.take_of_length_le (by omega)]; exact hx)
      omega

theorem textsOf_any (L : List (List UInt8)) (v : Value) (m : Nat) (w : World) (hrow : RowLow m w v L) (hL : L.length ≤ 300) (hs : ∀ x ∈ L, x.length ≤ 9223372036854775807) :
    Calls Try.prog 16 #[v, .int .i64 2000] w fun e w' => ∃ r : Nat, e = .returned (.int .i64 r) ∧ w' = w ∧ (r ≤ 2000 → ∀ x ∈ L, x.length ≤ 16007) ∧ r ≤ 2000000000000000000 := by
  refine (textsOf_all L v m w hrow (by omega) hs).mono ?_
  rintro e w' ⟨r, h1, h2, h3, -, h4⟩
  exact ⟨r, h1, h2, h3, h4⟩

end Go.Proofs.Ytkiafelpgcmifaa

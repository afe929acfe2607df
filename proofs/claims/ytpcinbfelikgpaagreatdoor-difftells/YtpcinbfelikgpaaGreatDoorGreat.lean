/-
  The walks of clerestorykit.TextsOf and of the law's 'great'; and of clerestorykit.Pick.
-/
import Derived.Test.YtpcinbfelikgpaaGreatDoorBase
namespace Go.Proofs.YtpcinbfelikgpaaGreatDoor
open Go.RowKit

set_option maxRecDepth 100000 in
set_option maxHeartbeats 4000000 in
theorem textsOf_any (L : List (List UInt8)) (v : Value) (m : Nat) (w : World) (hrow : RowLow m w v L) (hL : L.length ≤ 300) (hs : ∀ x ∈ L, x.length ≤ 9223372036854775807) :
    Calls Tryz.prog 16 #[v, .int .i64 2000] w fun e w' => ∃ r : Nat, e = .returned (.int .i64 r) ∧ w' = w ∧ (r ≤ 2000 → ∀ x ∈ L, x.length ≤ 16007) ∧ r ≤ 2000000000000000000 := by
  obtain ⟨ao, cap, b, off, rfl, -, hao, hc⟩ := hrow.parts
  clear hrow
  go_enter Tryz.func16, Tryz.ntmps16
  go_wp2
  go_loop [5, 6] (fun t i => ∃ k r : Nat, k ≤ L.length ∧ i = .int .i64 k ∧ t = .int .i64 r ∧ (k = 0 → r ≤ 300) ∧ r ≤ 2000000000000000000 ∧ (∀ x ∈ L.take k, x.length ≤ 8 * r + 7)) (fun _ i => L.length - (intOf i).toNat)
  case atStart => exact ⟨0, L.length, Nat.zero_le _, rfl, rfl, fun _ => hL, by omega, fun x hx => by simp at hx⟩
  case round =>
    obtain ⟨k, r, hk, rfl, rfl, hr0, hr, hx⟩ := hrel
    have HX : Hid (∀ x ∈ L.take k, x.length ≤ 8 * r + 7) := hx
    clear hx
    by_cases hlt : k < L.length
    · have d1 : decide ((k : Int) < (L.length : Int)) = true := by simp; omega
      by_cases hle : r ≤ 2000
      · have d2 : decide ((r : Int) ≤ 2000) = true := by simp; omega
        have d3 : decide (r ≤ 2000) = true := by simp; omega
        obtain ⟨x, hx⟩ : ∃ x, L[k]? = some x := ⟨L[k], List.getElem?_eq_getElem hlt⟩
        have hxs := hs x (List.mem_of_getElem? hx)
        obtain ⟨rfl, -⟩ := hao (by omega)
        have g1 := hc k x hx
        have hsz : (Ln.bs x).size = x.length := Ln.bs_size x
        have hsz2 : (Ln.bs x).size ≤ 9223372036854775807 := by omega
        have HT : Hid (L.take (k + 1) = L.take k ++ [x]) := by
          show L.take (k + 1) = L.take k ++ [x]
          rw [List.take_add_one, hx]; rfl
        have HS : Hid ((Ln.bs x).size = x.length) := hsz
        clear hc hao hx hsz hs
        go_wp2
        go_round
        case rel =>
          have hsz := HS.out
          refine ⟨k + 1, r + x.length / 8, by omega, by go_num, ?_, fun h => by omega, by omega, ?_⟩
          · rw [hsz]; congr 1
          · intro y hy
            rw [HT.out, List.mem_append] at hy
            rcases hy with hy | hy
            · have := HX.out y hy; omega
            · simp at hy; subst hy; omega
        case measure => simp [intOf]; omega
      · have d2 : decide ((r : Int) ≤ 2000) = false := by simp; omega
        have d3 : decide (r ≤ 2000) = false := by simp; omega
        clear hc hao
        go_wp2
        go_ret
        exact ⟨r, rfl, rfl, fun h => by omega, hr⟩
    · have d1 : decide ((k : Int) < (L.length : Int)) = false := by simp; omega
      have d2 : decide (k < L.length) = false := by simp; omega
      clear hc hao
      go_wp2
      go_ret
      refine ⟨r, rfl, rfl, fun h x hx => ?_, hr⟩
      have := HX.out x (by rw [List.take_of_length_le (by omega)]; exact hx)
      omega

set_option maxRecDepth 100000 in
set_option maxHeartbeats 4000000 in
theorem great_any (A B : List (List UInt8)) (va vb : Value) (m : Nat) (w : World) (ha : RowLow m w va A) (hb : RowLow m w vb B) (lA : A.length ≤ 9223372036854775807) (lB : B.length ≤ 9223372036854775807) (sA : ∀ x ∈ A, x.length ≤ 9223372036854775807) (sB : ∀ x ∈ B, x.length ≤ 9223372036854775807) :
    Calls Tryz.prog 4 #[va, vb] w fun e w' => ∃ r, e = .returned (.bool r) ∧ w' = w ∧ (r = false → A.length ≤ 300 ∧ B.length ≤ 300 ∧ (∀ x ∈ A, x.length ≤ 16007) ∧ ∀ x ∈ B, x.length ≤ 16007) := by
  have HA := textsOf_any A va m w ha
  have HB := textsOf_any B vb m w hb
  obtain ⟨a1, c1, b1, o1, rfl, -, -, -⟩ := ha.parts
  obtain ⟨a2, c2, b2, o2, rfl, -, -, -⟩ := hb.parts
  clear ha hb
  by_cases h1 : A.length ≤ 300
  · have q1 : decide ((300 : Int) < (A.length : Int)) = false := by simp; omega
    have q2 : decide (300 < A.length) = false := by simp; omega
    by_cases h2 : B.length ≤ 300
    · have q3 : decide ((300 : Int) < (B.length : Int)) = false := by simp; omega
      have q4 : decide (300 < B.length) = false := by simp; omega
      have HA' : Hid (Calls Tryz.prog 16 #[.slice a1 A.length c1, .int .i64 2000] w _) := HA h1 sA
      have HB' : Hid (Calls Tryz.prog 16 #[.slice a2 B.length c2, .int .i64 2000] w _) := HB h2 sB
      clear HA HB sA sB
      go_enter Tryz.func4, Tryz.ntmps4
      go_wp2_with fail
      refine HA'.out.mono ?_
      rintro e w1 ⟨r, rfl, rfl, hr, hrl⟩
      have HR : Hid (r ≤ 2000 → ∀ x ∈ A, x.length ≤ 16007) := hr
      clear hr
      by_cases h3 : r ≤ 2000
      · have q5 : decide ((2000 : Int) < (r : Int)) = false := by simp; omega
        have q6 : decide (2000 < r) = false := by simp; omega
        go_wp2_with fail
        refine HB'.out.mono ?_
        rintro e w2 ⟨r2, rfl, rfl, hr2, hrl2⟩
        have HR2 : Hid (r2 ≤ 2000 → ∀ x ∈ B, x.length ≤ 16007) := hr2
        clear hr2
        go_wp2
        go_ret
        refine ⟨_, rfl, rfl, fun h => ⟨h1, h2, HR.out h3, HR2.out ?_⟩⟩
        simp at h; omega
      · have q5 : decide ((2000 : Int) < (r : Int)) = true := by simp; omega
        have q6 : decide (2000 < r) = true := by simp; omega
        go_wp2
        go_ret
        exact ⟨true, rfl, rfl, fun h => by cases h⟩
    · have q3 : decide ((300 : Int) < (B.length : Int)) = true := by simp; omega
      have q4 : decide (300 < B.length) = true := by simp; omega
      clear HA HB sA sB
      go_enter Tryz.func4, Tryz.ntmps4
      go_wp2
      go_ret
      exact ⟨true, rfl, rfl, fun h => by cases h⟩
  · have q1 : decide ((300 : Int) < (A.length : Int)) = true := by simp; omega
    have q2 : decide (300 < A.length) = true := by simp; omega
    clear HA HB sA sB
    go_enter Tryz.func4, Tryz.ntmps4
    go_wp2
    go_ret
    exact ⟨true, rfl, rfl, fun h => by cases h⟩

end Go.Proofs.YtpcinbfelikgpaaGreatDoor

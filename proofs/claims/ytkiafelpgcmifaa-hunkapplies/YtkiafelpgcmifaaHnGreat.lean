/-
  The walk of the law's great (chapter 3), at any lines and hunks.
-/
import Derived.Test.YtkiafelpgcmifaaHnAwake
import Derived.Test.YtkiafelpgcmifaaTextsOf
namespace Go.Proofs.Ytkiafelpgcmifaa
open Go.RowKit Go.Shelf

attribute [local go_sem] Oper.semAt_some

/-- What a machine can hold. -/
def HA.Mach (x : HA) : Prop := x.old.length ≤ 1000000000000000 ∧ x.new.length ≤ 1000000000000000
/-- The lines of hunks, old ones and new ones. -/
def allSum (xs : List HA) : Nat := (xs.map fun x => x.old.length + x.new.length).sum
theorem allSum_at (xs : List HA) (k : Nat) (x : HA) (hx : xs[k]? = some x) : allSum (xs.take (k + 1)) = allSum (xs.take k) + (x.old.length + x.new.length) := by
  rw [List.take_add_one, hx]; simp [allSum]
/-- All texts are short. -/
def HA.Short (x : HA) : Prop := (∀ s ∈ x.old, s.length ≤ 16007) ∧ ∀ s ∈ x.new, s.length ≤ 16007

set_option maxRecDepth 100000 in
set_option maxHeartbeats 8000000 in
theorem hgreat_any (L : List (List UInt8)) (xs : List HA) (v hv : Value) (m : Nat) (w : World) (hrow : RowLow m w v L) (hx : HaLow m w hv xs) (hL : L.length ≤ 1000000000000000) (hs : ∀ x ∈ L, x.length ≤ 9223372036854775807) (hl : xs.length ≤ 1000000000000000) (hf : ∀ x ∈ xs, x.Fits) (hM : ∀ x ∈ xs, x.Mach) :
    Calls Try.prog 4 #[v, hv] w fun e w' => ∃ r, e = .returned (.bool r) ∧ (∃ d, w' = w.drewN d) ∧ (r = false → xs.length + L.length + allSum xs ≤ 2000 ∧ (∀ s ∈ L, s.length ≤ 16007) ∧ ∀ x ∈ xs, x.Short) := by
  have TO : Hid (_) := textsOf_all L v m w hrow hL hs
  obtain ⟨⟨ao, cap, b, off, rfl, -, hao, hc⟩, hlow⟩ := hx
  have HC : Hid (_) := hc
  have HLOW : Hid (∀ x ∈ xs, x.Low m w) := hlow
  have HF : Hid (∀ x ∈ xs, x.Fits) := hf
  have HM : Hid (∀ x ∈ xs, x.Mach) := hM
  clear hrow hs hc hlow hf hM
  refine (callsIn_wide (n := 3)).1 ?_
  refine callsIn_of_wp Try.func4 rfl trivial ?_ rfl
  simp only [Try.ntmps4, List.size_toArray, List.length_cons, List.length_nil, Nat.reduceAdd, Nat.reduceSub, Array.replicate_succ, Array.replicate_zero, List.push_toArray, List.append_toArray, List.nil_append, List.cons_append]
  gi_wp2_with fail
  refine ⟨trivial, ?_⟩
  refine (callsIn_wide.2 TO.out).mono ?_
  rintro e w1 ⟨r, rfl, rfl, h1, h2, h3⟩
  have H1 : Hid (r ≤ 2000 → ∀ x ∈ L, x.length ≤ 16007) := h1
  clear h1 TO
  gi_wp2
  gi_loopw [5, 6] (fun t i wr => ∃ (k n d : Nat), k ≤ xs.length ∧ t = .int .i64 n ∧ i = .int .i64 k ∧ wr = w1.drewN d ∧ n ≤ 8000000000000000000 ∧ xs.length + r + allSum (xs.take k) ≤ n ∧ (n ≤ 2000 → ∀ x ∈ xs.take k, x.Short)) (fun _ i _ => xs.length - (intOf i).toNat)
  case atStart => exact ⟨0, xs.length + r, 0, Nat.zero_le _, by go_num, rfl, rfl, by omega, by simp [allSum], fun _ x hx => by simp at hx⟩
  case round =>
    obtain ⟨k, n, d, hk, rfl, rfl, rfl, hn, hsum, hsh⟩ := hrel
    have HSUM : Hid (xs.length + r + allSum (xs.take k) ≤ n) := hsum
    have HSH : Hid (n ≤ 2000 → ∀ x ∈ xs.take k, x.Short) := hsh
    have hrn : r ≤ n := by omega
    clear hsum hsh
    by_cases hlt : k < xs.length
    · have d1 : decide ((k : Int) < (xs.length : Int)) = true := by simp; omega
      by_cases hle : n ≤ 2000
      · have d2 : decide ((n : Int) ≤ 2000) = true := by simp; omega
        have d3 : decide (n ≤ 2000) = true := by simp; omega
        obtain ⟨x, hx⟩ : ∃ x, xs[k]? = some x := ⟨xs[k], List.getElem?_eq_getElem hlt⟩
        obtain ⟨rfl, hbm⟩ := hao (by omega)
        obtain ⟨g0, g1, g2⟩ := haCells_get xs k x hx
        have c1 : w1.cell? ⟨b, off + k * 3 + 1, none⟩ = some x.vo := HC.out _ _ g1
        have c2 : w1.cell? ⟨b, off + k * 3 + 2, none⟩ = some x.vn := HC.out _ _ g2
        have hm2 := List.mem_of_getElem? hx
        obtain ⟨x1, x2⟩ := HLOW.out x hm2
        obtain ⟨-, -, f5, f6⟩ := HF.out x hm2
        obtain ⟨y1, y2⟩ := HM.out x hm2
        have T1 : Hid (∀ d, _) := fun d => textsOf_all x.old x.vo m (w1.drewN d) x1 y1 f5
        have T2 : Hid (∀ d, _) := fun d => textsOf_all x.new x.vn m (w1.drewN d) x2 y2 f6
        have HX : Hid (_) := hx
        clear g0 g1 g2 x1 x2 f5 f6 y1 y2 hx
        gi_wp2
        refine region_lex (fun w' => w'.cell? ⟨b, off + k * 3 + 1, none⟩ = some x.vo ∧ w'.cell? ⟨b, off + k * 3 + 2, none⟩ = some x.vn) 6 10 rfl (by kernel_rfl) (by kernel_rfl) (by kernel_rfl) (by kernel_rfl) (fun _ _ d _ _ h => by cases d <;> exact h) ⟨c1, c2⟩ ?_
        simp only [List.take_succ_cons, List.take_zero]
        iterate 6 (first
          | (apply lexC_want
             · rfl
             · exact fun _ => rfl
             · (intro w' hw'; obtain ⟨q0, q1⟩ := hw'; go_simp; try rfl)
             simp only [Act.put, List.setIfInBounds_toArray, List.set_cons_zero, List.set_cons_succ])
          | (apply lexC_skip
             · rfl
             · exact fun _ => rfl
             simp only [Act.put, List.setIfInBounds_toArray, List.set_cons_zero, List.set_cons_succ]))
        refine lexC_nil ?_
        refine anyC_take (i := 8) (v := .slice (some ⟨b, off, none⟩) xs.length cap) rfl rfl (by kernel_rfl) (by kernel_rfl) (by kernel_rfl) (fun _ _ d _ _ h => by cases d <;> exact h) ⟨c1, c2⟩ (by rfl) (fun _ => rfl) (by intro w' hw'; obtain ⟨q0, q1⟩ := hw'; go_simp; try rfl) ?_
        refine anyC_take (i := 9) (v := .int .i64 k) rfl rfl (by kernel_rfl) (by kernel_rfl) (by kernel_rfl) (fun _ _ d _ _ h => by cases d <;> exact h) ⟨c1, c2⟩ (by rfl) (fun _ => rfl) (by intro w' hw'; obtain ⟨q0, q1⟩ := hw'; go_simp; try rfl) ?_
        refine anyC_take (i := 10) (v := .pointer (some ⟨b, off + k * 3, none⟩)) rfl rfl (by kernel_rfl) (by kernel_rfl) (by kernel_rfl) (fun _ _ d _ _ h => by cases d <;> exact h) ⟨c1, c2⟩ (by rfl) (fun _ => rfl) (by intro w' hw'; obtain ⟨q0, q1⟩ := hw'; go_simp; try rfl) ?_
        refine anyC_take (i := 11) (v := .pointer (some ⟨b, off + k * 3 + 2, none⟩)) rfl rfl (by kernel_rfl) (by kernel_rfl) (by kernel_rfl) (fun _ _ d _ _ h => by cases d <;> exact h) ⟨c1, c2⟩ (by rfl) (fun _ => rfl) (by intro w' hw'; obtain ⟨q0, q1⟩ := hw'; go_simp; try rfl) ?_
        refine anyC_take (i := 12) (v := x.vn) rfl rfl (by kernel_rfl) (by kernel_rfl) (by kernel_rfl) (fun _ _ d _ _ h => by cases d <;> exact h) ⟨c1, c2⟩ (by rfl) (fun _ => rfl) (by intro w' hw'; obtain ⟨q0, q1⟩ := hw'; go_simp; try rfl) ?_
        refine anyC_one (i := 6) (by kernel_rfl) rfl (by rfl) (fun K1 hK1 => ?_)
        go_simp
        refine ⟨trivial, ?_⟩
        refine (callsIn_wide.2 (T1.out (d + 1))).mono ?_
        rintro e w2 ⟨r1, rfl, hw2, u1, u2, u3⟩
        obtain rfl : w2 = w1.drewN (d + 1) := hw2
        have e1 : IntKind.i64.wrap ((n : Int) + (r1 : Int)) = (n : Int) + (r1 : Int) := by rw [IntKind.wrap_i64]; omega
        refine hK1 _ _ ⟨c1, c2⟩ ?_
        have U1 : Hid (r1 ≤ 2000 → ∀ s ∈ x.old, s.length ≤ 16007) := u1
        clear hK1 T1 u1
        refine anyC_take (i := 7) (v := .int .i64 ((n : Int) + (r1 : Int))) rfl rfl (by kernel_rfl) (by kernel_rfl) (by kernel_rfl) (fun _ _ d _ _ h => by cases d <;> exact h) ⟨c1, c2⟩ (by rfl) (fun _ => rfl) (by intro w' hw'; go_simp; try rfl) ?_
        refine anyC_one (i := 13) (by kernel_rfl) rfl (by rfl) (fun K2 hK2 => ?_)
        go_simp
        refine ⟨trivial, ?_⟩
        refine (callsIn_wide.2 (T2.out (d + 1))).mono ?_
        rintro e w3 ⟨r2, rfl, hw3, t1, t2, t3⟩
        obtain rfl : w3 = w1.drewN (d + 1) := hw3
        have e2 : IntKind.i64.wrap ((n : Int) + (r1 : Int) + (r2 : Int)) = (n : Int) + (r1 : Int) + (r2 : Int) := by rw [IntKind.wrap_i64]; omega
        refine hK2 _ _ ⟨c1, c2⟩ ?_
        have U2 : Hid (r2 ≤ 2000 → ∀ s ∈ x.new, s.length ≤ 16007) := t1
        clear hK2 T2 t1
        refine anyC_one (i := 14) (by kernel_rfl) rfl (by rfl) (fun K3 hK3 => ?_)
        go_simp
        refine hK3 _ _ ⟨c1, c2⟩ ?_
        clear hK3
        refine anyC_one (i := 15) (by kernel_rfl) rfl (by rfl) (fun K4 hK4 => ?_)
        go_simp
        refine hK4 _ _ ⟨c1, c2⟩ ?_
        clear hK4
        refine anyC_done (by kernel_rfl) ?_
        gi_wp2
        go_roundw
        case rel =>
          refine ⟨k + 1, n + r1 + r2, d + 1, by omega, by go_num, by go_num, rfl, by omega, ?_, fun h y hy => ?_⟩
          · rw [allSum_at xs k x HX.out]
            have := HSUM.out
            omega
          · rw [List.take_add_one, HX.out] at hy
            rcases List.mem_append.1 hy with hy | hy
            · exact HSH.out (by omega) y hy
            · simp at hy
              subst hy
              exact ⟨U1.out (by omega), U2.out (by omega)⟩
        case measure => simp [intOf]; omega
      · have d2 : decide ((n : Int) ≤ 2000) = false := by simp; omega
        have d3 : decide (n ≤ 2000) = false := by simp; omega
        have d4 : decide ((2000 : Int) < (n : Int)) = true := by simp; omega
        have d5 : decide (2000 < n) = true := by simp; omega
        gi_wp2
        exact bodyPost_ret (results_tmp rfl _ _ _) rfl ⟨true, rfl, ⟨d, rfl⟩, fun h => by cases h⟩
    · have d1 : decide ((k : Int) < (xs.length : Int)) = false := by simp; omega
      have d1' : decide (k < xs.length) = false := by simp; omega
      have hkl : Hid (k = xs.length) := by show k = xs.length; omega
      gi_wp2
      refine bodyPost_ret (results_tmp rfl _ _ _) rfl ⟨_, rfl, ⟨d, rfl⟩, fun h => ?_⟩
      have h9 : (n : Int) ≤ 2000 := by simpa using h
      have hs9 := HSUM.out
      have hh9 := HSH.out (by omega)
      rw [hkl.out, List.take_length] at hs9 hh9
      exact ⟨by omega, H1.out (by omega), hh9⟩

end Go.Proofs.Ytkiafelpgcmifaa

/-
  The walk of the law TreeFits: the program's table and the document's say the same.
-/
import Derived.Test.YtgdgaapkfbddkaaTrFits2
namespace Go.Proofs.Ytgdgaapkfbddkaa
open Go.RowKit Go.Shelf

attribute [local go_sem] Oper.semAt_some

theorem same_fix (p k a : Int) (l : List Int) (hE : Tr.endless l = false) (hm : rMany p = l.length) (hk : ∀ (q : Nat) (y : Int), l[q]? = some y → Tr.stands y k = rKid p k q) : Tr.fitsRow l k a = rFits p k a := by
  unfold Tr.fitsRow rFits
  rw [hE, hm]
  simp only [Bool.false_eq_true, if_false]
  by_cases hin : 0 ≤ a ∧ a < l.length
  · obtain ⟨q, rfl⟩ : ∃ q : Nat, a = q := ⟨a.toNat, by omega⟩
    have hq : q < l.length := by omega
    rw [if_neg (by omega), decide_eq_true hin.1, decide_eq_true hin.2]
    have hg : l.getD ((q : Int).toNat) 0 = l[q] := by simp [List.getD, List.getElem?_eq_getElem hq]
    rw [hg, hk q l[q] (List.getElem?_eq_getElem hq)]
    simp
  · rw [if_pos (by omega)]
    by_cases h0 : 0 ≤ a
    · rw [decide_eq_false (p := a < (l.length : Int)) (by omega)]; simp
    · rw [decide_eq_false h0]; simp
theorem same_end (p k a x : Int) (hm : rMany p = -1) (hk : 0 ≤ a → Tr.stands x k = rKid p k a) : Tr.fitsRow [x, 203] k a = rFits p k a := by
  unfold Tr.fitsRow rFits
  have hE : Tr.endless [x, 203] = true := rfl
  rw [hE, hm, if_pos rfl]
  by_cases h0 : 0 ≤ a
  · rw [if_neg (by omega), decide_eq_true h0, List.headD_cons, hk h0]; simp
  · rw [if_pos (by omega), decide_eq_false h0]; simp

theorem st200 (k : Int) : Tr.stands 200 k = rExpr k := by simp [Tr.stands, rExpr]
theorem st201 (k : Int) : Tr.stands 201 k = rStmt k := by simp [Tr.stands, rStmt]
theorem st202 (k : Int) : Tr.stands 202 k = (k == 22 || k == 26) := by simp [Tr.stands]
theorem st_lit (y k : Int) (h : y < 200) : Tr.stands y k = (k == y) := by
  unfold Tr.stands
  rw [if_neg (by omega), if_neg (by omega), if_neg (by omega)]

theorem fits_same (p k a : Int) : Tr.fits p k a = rFits p k a := by
  unfold Tr.fits Tr.table
  split
  · exact same_end 1 k a 2 rfl (fun _ => by rw [st_lit 2 k (by omega)]; rfl)
  · refine same_fix 2 k a [3, 5] (by decide) rfl (fun q y hq => ?_)
    match q, hq with
    | 0, hq =>
      simp at hq; subst hq
      rw [st_lit 3 k (by omega)]
      simp [rKid]
    | 1, hq =>
      simp at hq; subst hq
      rw [st_lit 5 k (by omega)]
      simp [rKid]
    | q + 2, hq => simp at hq
  · exact same_end 3 k a 4 rfl (fun _ => by rw [st_lit 4 k (by omega)]; rfl)
  · refine same_fix 4 k a [] (by decide) rfl (fun q y hq => ?_)
    simp at hq
  · exact same_end 5 k a 201 rfl (fun _ => by rw [st201 k]; rfl)
  · refine same_fix 6 k a [200] (by decide) rfl (fun q y hq => ?_)
    match q, hq with
    | 0, hq =>
      simp at hq; subst hq
      rw [st200 k]
      simp [rKid]
    | q + 1, hq => simp at hq
  · refine same_fix 7 k a [202, 200] (by decide) rfl (fun q y hq => ?_)
    match q, hq with
    | 0, hq =>
      simp at hq; subst hq
      rw [st202 k]
      simp [rKid]
    | 1, hq =>
      simp at hq; subst hq
      rw [st200 k]
      simp [rKid]
    | q + 2, hq => simp at hq
  · refine same_fix 8 k a [200, 5, 5] (by decide) rfl (fun q y hq => ?_)
    match q, hq with
    | 0, hq =>
      simp at hq; subst hq
      rw [st200 k]
      simp [rKid]
    | 1, hq =>
      simp at hq; subst hq
      rw [st_lit 5 k (by omega)]
      simp [rKid]
    | 2, hq =>
      simp at hq; subst hq
      rw [st_lit 5 k (by omega)]
      simp [rKid]
    | q + 3, hq => simp at hq
  · refine same_fix 9 k a [200, 5] (by decide) rfl (fun q y hq => ?_)
    match q, hq with
    | 0, hq =>
      simp at hq; subst hq
      rw [st200 k]
      simp [rKid]
    | 1, hq =>
      simp at hq; subst hq
      rw [st_lit 5 k (by omega)]
      simp [rKid]
    | q + 2, hq => simp at hq
  · refine same_fix 10 k a [200] (by decide) rfl (fun q y hq => ?_)
    match q, hq with
    | 0, hq =>
      simp at hq; subst hq
      rw [st200 k]
      simp [rKid]
    | q + 1, hq => simp at hq
  · refine same_fix 11 k a [200] (by decide) rfl (fun q y hq => ?_)
    match q, hq with
    | 0, hq =>
      simp at hq; subst hq
      rw [st200 k]
      simp [rKid]
    | q + 1, hq => simp at hq
  · refine same_fix 12 k a [25] (by decide) rfl (fun q y hq => ?_)
    match q, hq with
    | 0, hq =>
      simp at hq; subst hq
      rw [st_lit 25 k (by omega)]
      simp [rKid]
    | q + 1, hq => simp at hq
  · refine same_fix 20 k a [] (by decide) rfl (fun q y hq => ?_)
    simp at hq
  · refine same_fix 21 k a [] (by decide) rfl (fun q y hq => ?_)
    simp at hq
  · refine same_fix 22 k a [] (by decide) rfl (fun q y hq => ?_)
    simp at hq
  · refine same_fix 23 k a [200] (by decide) rfl (fun q y hq => ?_)
    match q, hq with
    | 0, hq =>
      simp at hq; subst hq
      rw [st200 k]
      simp [rKid]
    | q + 1, hq => simp at hq
  · refine same_fix 24 k a [200, 200] (by decide) rfl (fun q y hq => ?_)
    match q, hq with
    | 0, hq =>
      simp at hq; subst hq
      rw [st200 k]
      simp [rKid]
    | 1, hq =>
      simp at hq; subst hq
      rw [st200 k]
      simp [rKid]
    | q + 2, hq => simp at hq
  · exact same_end 25 k a 200 rfl (fun _ => by rw [st200 k]; rfl)
  · refine same_fix 26 k a [200, 200] (by decide) rfl (fun q y hq => ?_)
    match q, hq with
    | 0, hq =>
      simp at hq; subst hq
      rw [st200 k]
      simp [rKid]
    | 1, hq =>
      simp at hq; subst hq
      rw [st200 k]
      simp [rKid]
    | q + 2, hq => simp at hq
  · refine same_fix 27 k a [200, 200] (by decide) rfl (fun q y hq => ?_)
    match q, hq with
    | 0, hq =>
      simp at hq; subst hq
      rw [st200 k]
      simp [rKid]
    | 1, hq =>
      simp at hq; subst hq
      rw [st200 k]
      simp [rKid]
    | q + 2, hq => simp at hq
  · refine same_fix 28 k a [200] (by decide) rfl (fun q y hq => ?_)
    match q, hq with
    | 0, hq =>
      simp at hq; subst hq
      rw [st200 k]
      simp [rKid]
    | q + 1, hq => simp at hq
  · refine same_fix 29 k a [] (by decide) rfl (fun q y hq => ?_)
    simp at hq
  · rename_i h1 h2 h3 h4 h5 h6 h7 h8 h9 h10 h11 h12 h13 h14 h15 h16 h17 h18 h19 h20 h21 h22
    have hm : rMany p = 0 := by
      unfold rMany
      split <;> first | rfl | exact (h1 rfl).elim | exact (h2 rfl).elim | exact (h3 rfl).elim | exact (h4 rfl).elim | exact (h5 rfl).elim | exact (h6 rfl).elim | exact (h7 rfl).elim | exact (h8 rfl).elim | exact (h9 rfl).elim | exact (h10 rfl).elim | exact (h11 rfl).elim | exact (h12 rfl).elim | exact (h13 rfl).elim | exact (h14 rfl).elim | exact (h15 rfl).elim | exact (h16 rfl).elim | exact (h17 rfl).elim | exact (h18 rfl).elim | exact (h19 rfl).elim | exact (h20 rfl).elim | exact (h21 rfl).elim | exact (h22 rfl).elim
    refine same_fix p k a [] (by decide) hm (fun q y hq => ?_)
    simp at hq

set_option maxRecDepth 100000 in
set_option maxHeartbeats 4000000 in
theorem fits_law (w : World) : Calls Try.prog 4 #[] w fun e w' => e = .returned (.bool true) ∧ Below w.heap.size w w' := by
  have HAW : Hid (_) := awake6_any w
  have u8 : ∀ k : Nat, k < 256 → IntKind.u8.wrap (k : Int) = k := fun k hk => by
    have hm : (k : Int) % 256 = k := by omega
    unfold IntKind.wrap
    simp [IntKind.bits, IntKind.signed, hm]
  have HU : Hid (∀ k : Nat, k < 256 → IntKind.u8.wrap (k : Int) = k) := u8
  clear u8
  refine (callsIn_wide (n := 3)).1 ?_
  refine callsIn_of_wp Try.func4 rfl trivial ?_ rfl
  simp only [Try.ntmps4, List.size_toArray, List.length_nil, Nat.reduceSub, Array.replicate_succ, Array.replicate_zero, List.push_toArray, List.append_toArray, List.nil_append, List.cons_append]
  gi_wp2
  refine ⟨trivial, ?_⟩
  refine (callsIn_wide.2 HAW.out).mono ?_
  rintro e w1 ⟨rfl, hb1⟩
  have B1 : Hid (Below w.heap.size w w1) := hb1
  clear hb1 HAW
  gi_wp2
  gi_loopw [1] (fun i wr => ∃ p : Nat, p ≤ 256 ∧ i = .int .i64 p ∧ Below w1.heap.size w1 wr) (fun i _ => 256 - (intOf i).toNat)
  case atStart => exact ⟨0, by omega, rfl, Below.refl _ _⟩
  case round =>
    obtain ⟨p, hp, rfl, hbp⟩ := hrel
    by_cases hpl : p < 256
    · have up := HU.out p hpl
      have BP : Hid (Below w1.heap.size w1 wr) := hbp
      clear hbp
      have dp : decide ((p : Int) < 256) = true := decide_eq_true (by omega)
      gi_wp2
      refine ⟨trivial, ?_⟩
      refine (callsIn_wide.2 (tlist_any p wr)).mono ?_
      rintro e wA ⟨rfl, rfl⟩
      gi_wp2
      refine ⟨trivial, ?_⟩
      refine (callsIn_wide.2 (rlist_any p wA)).mono ?_
      rintro e wB ⟨rfl, rfl⟩
      gi_wp2
      gi_loopw [2] (fun i wr' => ∃ k : Nat, k ≤ 256 ∧ i = .int .i64 k ∧ Below w1.heap.size w1 wr') (fun i _ => 256 - (intOf i).toNat)
      case atStart => exact ⟨0, by omega, rfl, BP.out⟩
      case round =>
        clear BP
        obtain ⟨k, hk, rfl, hbk⟩ := hrel
        by_cases hkl : k < 256
        · have uk := HU.out k hkl
          have dk : decide ((k : Int) < 256) = true := decide_eq_true (by omega)
          have BK : Hid (Below w1.heap.size w1 wr) := hbk
          clear hbk
          gi_wp2
          gi_loopw [3] (fun i wr' => ∃ (q : Nat) (a : Int), q ≤ 7 ∧ a = (q : Int) - 2 ∧ i = .int .i64 a ∧ Below w1.heap.size w1 wr') (fun i _ => (5 - intOf i).toNat)
          case atStart => exact ⟨0, -2, by omega, by omega, rfl, BK.out⟩
          case round =>
            clear BK
            obtain ⟨q, a, hq, ha, rfl, hba⟩ := hrel
            by_cases hal : a < 5
            · have da : decide (a < 5) = true := decide_eq_true hal
              have BA : Hid (Below w1.heap.size w1 wr) := hba
              have HQ : Hid (q ≤ 7 ∧ a = (q : Int) - 2) := ⟨hq, ha⟩
              have hlo : -2 ≤ a := by omega
              clear hba hq ha
              gi_wp2
              refine ⟨trivial, ?_⟩
              refine (callsIn_wide.2 (tfits_any p k a wr)).mono ?_
              rintro e wA ⟨rfl, hbA⟩
              have B2 : Hid (Below w1.heap.size w1 wA) := below_then BA.out hbA
              clear hbA BA
              gi_wp2
              refine ⟨trivial, ?_⟩
              refine (callsIn_wide.2 (rfits_any p k a wA)).mono ?_
              rintro e wB ⟨rfl, rfl⟩
              rw [fits_same]
              generalize rFits (p : Int) k a = bb
              cases bb
              · gi_wp2
                refine ⟨⟨q + 1, a + 1, by have := HQ.out; omega, by have := HQ.out; omega, rfl, B2.out⟩, by simp [intOf]; omega⟩
              · gi_wp2
                refine ⟨⟨q + 1, a + 1, by have := HQ.out; omega, by have := HQ.out; omega, rfl, B2.out⟩, by simp [intOf]; omega⟩
            · have da : decide (a < 5) = false := decide_eq_false hal
              have BA : Hid (Below w1.heap.size w1 wr) := hba
              clear hba hq ha
              gi_wp2
              refine ⟨⟨k + 1, by omega, by simp, BA.out⟩, by simp [intOf]; omega⟩
        · have BK : Hid (Below w1.heap.size w1 wr) := hbk
          clear hbk
          gi_wp2
          refine ⟨⟨p + 1, by omega, by simp, BK.out⟩, by simp [intOf]; omega⟩
    · have HB : Hid (Below w.heap.size w wr) := below_then B1.out hbp
      clear hbp
      gi_wp2
      go_ret
      exact ⟨rfl, HB.out⟩
end Go.Proofs.Ytgdgaapkfbddkaa

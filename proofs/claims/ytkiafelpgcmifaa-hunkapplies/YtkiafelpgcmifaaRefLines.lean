/-
  The walks of the document's answer, clerestoryref03: line, Lines, Right.
-/
import Derived.Test.YtkiafelpgcmifaaHnRight
namespace Go.Proofs.Ytkiafelpgcmifaa
open Go.RowKit Go.Shelf

attribute [local go_sem] Oper.semAt_some

theorem is10 (c : UInt8) : ((c.toNat : Int) == 10) = decide (c = 10) := by
  rw [Bool.eq_iff_iff]
  simp only [beq_iff_eq, decide_eq_true_eq]
  constructor
  · intro h; apply UInt8.toNat_inj.1; have : (10 : UInt8).toNat = 10 := rfl; omega
  · intro h; rw [h]; rfl
theorem ok_iff (x : List UInt8) (h0 : x ≠ []) : Hn.okLine x = true ↔ ∀ k, k < x.length - 1 → x[k]? ≠ some 10 := by
  have e1 : x.isEmpty = false := by cases x; exact absurd rfl h0; rfl
  simp only [Hn.okLine, e1, Bool.not_false, Bool.true_and, Bool.not_eq_true']
  constructor
  · intro h k hk hx
    have hx2 : x.dropLast[k]? = some 10 := by rw [List.getElem?_dropLast, if_pos hk]; exact hx
    have := List.mem_of_getElem? hx2
    rw [List.contains_iff_mem.2 this] at h
    cases h
  · intro h
    cases hc : x.dropLast.contains 10 with
    | false => rfl
    | true =>
      obtain ⟨k, hk⟩ := List.mem_iff_getElem?.1 (List.contains_iff_mem.1 hc)
      rw [List.getElem?_dropLast] at hk
      split at hk
      · rename_i h1; exact absurd hk (h k h1)
      · cases hk
theorem shut_iff (x : List UInt8) : Hn.shut x = true ↔ x[x.length - 1]? = some 10 := by
  unfold Hn.shut
  rw [List.getLast?_eq_getElem?]
  constructor
  · intro h; exact eq_of_beq h
  · intro h; rw [h]; rfl

/-- What line tells: whether it is one; and, if so, whether it is open. -/
def LinePost (x : List UInt8) (w : World) (e : Ending) (w' : World) : Prop := ∃ op, e = .returned (.tuple #[.bool (Hn.okLine x), .bool op]) ∧ (Hn.okLine x = true → op = !Hn.shut x) ∧ ∃ d, w' = w.drewN d

set_option maxRecDepth 100000 in
set_option maxHeartbeats 2000000 in
theorem refLine_any (x : List UInt8) (hx : x.length ≤ 9223372036854775807) (w : World) :
    Calls Try.prog 39 #[.string (Ln.bs x)] w fun e w' => LinePost x w e w' := by
  have hsz : (Ln.bs x).size = x.length := rfl
  have hsub : wrap64 (((Ln.bs x).size : Int) - 1) = (x.length : Int) - 1 := wrap_pred x.length hx
  go_enter Try.func39, Try.ntmps39
  go_wp2
  go_loop [4] (fun i => ∃ k : Nat, k ≤ x.length ∧ (k = 0 ∨ k ≤ x.length - 1) ∧ i = .int .i64 k ∧ ∀ j, j < k → x[j]? ≠ some 10) (fun i => x.length - (intOf i).toNat)
  case atStart => exact ⟨0, Nat.zero_le _, .inl rfl, rfl, fun j hj => absurd hj (by omega)⟩
  case round =>
    obtain ⟨k, hk, hk1, rfl, hj⟩ := hrel
    have HJ : Hid (∀ j, j < k → x[j]? ≠ some 10) := hj
    clear hj
    by_cases hlt : (k : Int) < (x.length : Int) - 1
    · have d1 : decide ((k : Int) < (x.length : Int) - 1) = true := by simp; omega
      have hks : k < (Ln.bs x).size := by omega
      have hks2 : k < x.length := by omega
      by_cases h10 : (Ln.bs x)[k] = 10
      · have hb : (((Ln.bs x)[k].toNat : Int) == 10) = true := by rw [is10]; exact decide_eq_true h10
        have HF : Hid (Hn.okLine x = false) := by
          show Hn.okLine x = false
          cases hc : Hn.okLine x with
          | false => rfl
          | true =>
            have h9 := (ok_iff x (by intro e; subst e; simp at hks2)).1 hc k (by omega)
            exact absurd (by rw [List.getElem?_eq_getElem hks2]; exact congrArg some h10) h9
        clear h10
        go_wp2
        go_ret2
        exact ⟨false, (by rw [HF.out]; rfl), (fun h => by rw [HF.out] at h; cases h), 0, rfl⟩
      · have hb : (((Ln.bs x)[k].toNat : Int) == 10) = false := by rw [is10]; exact decide_eq_false h10
        have HJ2 : Hid (∀ j, j < k + 1 → x[j]? ≠ some 10) := fun j hj e => by
          by_cases hjk : j < k
          · exact HJ.out j hjk e
          · have : j = k := by omega
            subst this
            rw [List.getElem?_eq_getElem hks2] at e
            exact h10 (Option.some.inj e)
        clear h10
        go_wp2
        go_round
        case rel => exact ⟨k + 1, by omega, by omega, by go_num, HJ2.out⟩
        case measure => simp [intOf]; omega
    · have d1 : decide ((k : Int) < (x.length : Int) - 1) = false := by simp; omega
      by_cases h0 : x = []
      · have hbe : (Ln.bs x).toList.isEmpty = true := by rw [bs_empty, h0]; rfl
        have HF : Hid (Hn.okLine x = false) := by rw [Hid, h0]; rfl
        clear h0
        go_wp2
        go_region
        all_goals go_wp2
        all_goals go_ret2
        all_goals exact ⟨true, (by rw [HF.out]; rfl), (fun h => by rw [HF.out] at h; cases h), 1, rfl⟩
      · have hbe : (Ln.bs x).toList.isEmpty = false := by
          rw [bs_empty]; cases x; exact absurd rfl h0; rfl
        have hx0 : 0 < x.length := List.length_pos_iff.2 h0
        have HT : Hid (Hn.okLine x = true) := (ok_iff x h0).2 (fun j hj => HJ.out j (by omega))
        obtain ⟨N, hN⟩ : ∃ N, x.length = N + 1 := ⟨x.length - 1, by omega⟩
        have hks : N < (Ln.bs x).size := by omega
        have s1 : wrap64 (((Ln.bs x).size : Int) - 1) = (N : Int) := by rw [hsub]; omega
        have s2 : IntKind.i64.wrap ((x.length : Int) - 1) = (N : Int) := by rw [IntKind.wrap_i64]; omega
        have s3 : (x.length : Int) - 1 = (N : Int) := by omega
        have s4 : IntKind.i64.wrap (N : Int) = (N : Int) := by rw [IntKind.wrap_i64]; omega
        have s5 : N < x.length := by omega
        have d2 : decide ((k : Int) < (N : Int)) = false := by simp; omega
        have d3 : decide (k < N) = false := by simp; omega
        have hNl : x.length - 1 = N := by omega
        have hlast : x[x.length - 1]? = some (Ln.bs x)[N] := by rw [hNl]; exact List.getElem?_eq_getElem (by omega)
        have HN : Hid (x.length = N + 1) := hN
        clear hsub d1 hNl hlt hN
        by_cases h10 : (Ln.bs x)[N] = 10
        · have hb : (((Ln.bs x)[N].toNat : Int) != 10) = false := by rw [bne, is10, decide_eq_true h10]; rfl
          have HS : Hid (Hn.shut x = true) := (shut_iff x).2 (by rw [hlast, h10])
          clear h10 hlast h0
          clear hk hk1 hx0
          go_wp2
          go_region
          all_goals go_wp2
          all_goals go_ret2
          all_goals exact ⟨_, (by rw [HT.out]; rfl), (fun _ => by rw [HS.out]; exact hb), 1, rfl⟩
        · have hb : (((Ln.bs x)[N].toNat : Int) != 10) = true := by rw [bne, is10, decide_eq_false h10]; rfl
          have HS : Hid (Hn.shut x = false) := by
            show Hn.shut x = false
            cases hc : Hn.shut x with
            | false => rfl
            | true =>
              have h9 := (shut_iff x).1 hc
              rw [hlast] at h9
              exact absurd (Option.some.inj h9) h10
          clear h10 hlast h0
          go_wp2
          go_region
          all_goals go_wp2
          all_goals go_ret2
          all_goals exact ⟨_, (by rw [HT.out]; rfl), (fun _ => by rw [HS.out]; exact hb), 1, rfl⟩

theorem LinePost.split {x : List UInt8} {w w' : World} {e : Ending} (h : LinePost x w e w') : ∃ ok op d, e = .returned (.tuple #[.bool ok, .bool op]) ∧ Hn.okLine x = ok ∧ (Hn.okLine x = true → op = !Hn.shut x) ∧ w' = w.drewN d := by
  obtain ⟨op, h1, h2, d, h3⟩ := h
  exact ⟨_, op, d, h1, rfl, h2, h3⟩

set_option maxRecDepth 100000 in
set_option maxHeartbeats 2000000 in
theorem refLines_any (L : List (List UInt8)) (v : Value) (m : Nat) (w : World) (hrow : RowLow m w v L) (hl : L.length ≤ 9223372036854775807) (hs : ∀ x ∈ L, x.length ≤ 9223372036854775807) :
    Calls Try.prog 25 #[v] w fun e w' => e = .returned (.bool (Hn.lines L)) ∧ ∃ d, w' = w.drewN d := by
  obtain ⟨ao, cap, b, off, rfl, -, hao, hc⟩ := hrow.parts
  clear hrow
  go_enter Try.func25, Try.ntmps25
  go_wp2
  go_loopw [3] (fun i wr => ∃ k d : Nat, k ≤ L.length ∧ i = .int .i64 k ∧ wr = w.drewN d ∧ Hn.lines L = Hn.lines (L.drop k)) (fun i _ => L.length - (intOf i).toNat)
  case atStart => exact ⟨0, 0, Nat.zero_le _, rfl, rfl, rfl⟩
  case round =>
    obtain ⟨k, d, hk, rfl, rfl, hj⟩ := hrel
    by_cases hlt : k < L.length
    · obtain ⟨x, hx⟩ : ∃ x, L[k]? = some x := ⟨L[k], List.getElem?_eq_getElem hlt⟩
      obtain ⟨rfl, hbm⟩ := hao (by omega)
      have g1 : (w.drewN d).cell? ⟨b, off + k, none⟩ = some (.string (Ln.bs x)) := hc k x hx
      have hxl := hs x (List.mem_of_getElem? hx)
      have HL : Hid (Hn.lines L = if k + 1 = L.length then Hn.okLine x else (Hn.okLine x && Hn.shut x && Hn.lines (L.drop (k + 1)))) := hj.trans (lines_at L k x hx)
      have RL : Hid (_) := refLine_any x hxl (w.drewN d)
      have hsl : wrap64 ((L.length : Int) - 1) = (L.length : Int) - 1 := wrap_pred L.length hl
      clear hc hao hj hx hs
      go_wp2_with fail
      refine Calls.mono RL.out ?_
      intro e w1 hlp
      obtain ⟨okb, op, d1, rfl, hok, hop, hw1⟩ := hlp.split
      have HOP : Hid (Hn.okLine x = true → op = !Hn.shut x) := hop
      have HW1 : Hid (w1 = w.drewN (d + d1)) := by show w1 = w.drewN (d + d1); rw [hw1]; simp [World.drewN, Nat.add_assoc]
      clear RL hop hlp hw1
      cases okb with
      | false =>
        have HF : Hid (Hn.lines L = false) := by
          show Hn.lines L = false
          rw [HL.out, hok]; split <;> rfl
        clear hok HL HOP
        go_wp2
        go_ret
        exact ⟨ret_bool HF.out.symm, d + d1, HW1.out⟩
      | true =>
        have hop2 := HOP.out hok
        have HOK : Hid (Hn.okLine x = true) := hok
        clear hok HOP
        cases op with
        | false =>
          have HR : Hid (Hn.lines L = Hn.lines (L.drop (k + 1))) := by
            show Hn.lines L = _
            have h9 : Hn.shut x = true := by cases hh : Hn.shut x; rw [hh] at hop2; cases hop2; rfl
            rw [HL.out, HOK.out, h9]
            split
            · rename_i e; rw [List.drop_eq_nil_of_le (by omega)]; rfl
            · rfl
          clear hop2 HL
          go_wp2
          go_roundw
          case rel => exact ⟨k + 1, d + d1, by omega, by go_num, HW1.out, HR.out⟩
          case measure => simp [intOf]; omega
        | true =>
          have h9 : Hn.shut x = false := by cases hh : Hn.shut x; rfl; rw [hh] at hop2; cases hop2
          by_cases hC : k + 1 = L.length
          · have q1 : decide ((k : Int) < (L.length : Int) - 1) = false := by simp; omega
            have HR : Hid (Hn.lines L = Hn.lines (L.drop (k + 1))) := by
              show Hn.lines L = _
              rw [HL.out, if_pos hC, HOK.out, List.drop_eq_nil_of_le (by omega)]; rfl
            clear hop2 HL h9 hC
            go_wp2
            go_roundw
            case rel => exact ⟨k + 1, d + d1, by omega, by go_num, HW1.out, HR.out⟩
            case measure => simp [intOf]; omega
          · have q1 : decide ((k : Int) < (L.length : Int) - 1) = true := by simp; omega
            have HF : Hid (Hn.lines L = false) := by
              show Hn.lines L = false
              rw [HL.out, if_neg hC, HOK.out, h9]; rfl
            clear hop2 HL h9 hC
            go_wp2
            go_ret
            exact ⟨ret_bool HF.out.symm, d + d1, HW1.out⟩
    · have hkl : k = L.length := by omega
      have HR : Hid (Hn.lines L = true) := by
        show Hn.lines L = _
        rw [hj, hkl, List.drop_length]; rfl
      clear hc hao hj hkl
      go_wp2
      go_ret
      exact ⟨ret_bool HR.out.symm, d, rfl⟩

end Go.Proofs.Ytkiafelpgcmifaa

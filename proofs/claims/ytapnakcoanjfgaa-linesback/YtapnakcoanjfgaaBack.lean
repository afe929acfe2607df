/-
  Proved here: clerestorylaw01.LinesBack returns true for every text, and its argument reads behind the call as it read before (the whole statement Rows.LinesBackSaid, no condition).
-/
import Derived.Test.YtapnakcoanjfgaaJoin
import Derived.ProofKit
import Derived.OpenShut
import Derived.ShutString
namespace Go.Proofs.Ytapnakcoanjfgaa.linesBack
open Go.ChangeShapes Go.WideShapes Go.ChangeAt Go.RowKit
open Go.ChangeMaps (open_string shut_string)

theorem own : ownKnob Try.prog.godebug = none := by kernel_rfl

theorem lines_ok : ∀ (l : List UInt8) (i : Nat) (x : List UInt8), (Ln.splitL l)[i]? = some x → x ≠ [] ∧ (i + 1 < (Ln.splitL l).length → x[x.length - 1]? = some 10) ∧ ∀ k : Nat, k + 1 < x.length → x[k]? ≠ some 10 := by
  refine Ln.byLines ?_ ?_
  · intro i x h; simp [Ln.splitL] at h
  · intro l hne ih i x h
    have hs := Ln.splitL_step l hne
    have hp := Ln.lsz_pos l hne
    have hle := Ln.lsz_le l
    cases i with
    | zero =>
      rw [hs] at h
      have hx : x = l.take (Ln.lsz l) := by simpa using h.symm
      have hxl : x.length = Ln.lsz l := by rw [hx, List.length_take]; omega
      refine ⟨?_, ?_, ?_⟩
      · intro e; rw [e] at hxl; simp at hxl; omega
      · intro h1
        rw [hs, List.length_cons] at h1
        have hE : Ln.endsL (l.take (Ln.lsz l)) = true := by
          cases hE : Ln.endsL (l.take (Ln.lsz l)) with
          | true => rfl
          | false => rw [Ln.first_open l hE] at h1; simp [Ln.splitL] at h1
        rw [hxl, hx, List.getElem?_take, if_pos (by omega)]
        exact Ln.first_ends l hE
      · intro k hk
        rw [hx, List.getElem?_take, if_pos (by omega)]
        exact Ln.first_no l k (by omega) (.inl (by omega))
    | succ i =>
      rw [hs, List.getElem?_cons_succ] at h
      have h2 := ih i x h
      refine ⟨h2.1, ?_, h2.2.2⟩
      rw [hs, List.length_cons]
      intro h3
      exact h2.2.1 (by omega)

/-- The same of a string's bytes, as the walk reads them. -/
theorem str_ok (l : List UInt8) (i : Nat) (x : List UInt8) (h : (Ln.splitL l)[i]? = some x) : ∃ y : ByteArray, Ln.bs x = y ∧ 1 ≤ y.size ∧ y.size ≤ l.length ∧
    (∀ (hp : y.size - 1 < y.size), i + 1 < (Ln.splitL l).length → ((y[y.size - 1].toNat : Int) != 10) = false) ∧ ∀ (k : Nat) (hk : k < y.size), k + 1 < y.size → ((y[k].toNat : Int) == 10) = false := by
  obtain ⟨h1, h2, h3⟩ := lines_ok l i x h
  have hx1 : 1 ≤ x.length := by cases x with | nil => exact absurd rfl h1 | cons a b => simp
  refine ⟨Ln.bs x, rfl, hx1, ?_, ?_, ?_⟩
  · have := mem_le x (Ln.splitL l) (List.mem_of_getElem? h)
    rw [Ln.splitL_flatten] at this
    exact this
  · intro hp hi
    have h4 := h2 hi
    rw [List.getElem?_eq_getElem (by omega)] at h4
    have h5 : x[x.length - 1]'(by omega) = 10 := Option.some.inj h4
    have h6 : (Ln.bs x)[(Ln.bs x).size - 1] = x[x.length - 1]'(by omega) := rfl
    rw [h6, h5]; decide
  · intro k hk hk1
    have h4 := h3 k hk1
    have h5 : x[k]'hk ≠ 10 := by
      intro e; apply h4; rw [List.getElem?_eq_getElem hk, e]
    have h6 : (Ln.bs x)[k] = x[k]'hk := rfl
    rw [h6, beq_eq_false_iff_ne]
    intro e
    apply h5
    apply UInt8.toNat_inj.1
    have : (10 : UInt8).toNat = 10 := rfl
    omega

set_option maxRecDepth 100000 in
set_option maxHeartbeats 1000000 in
theorem walk_big (a0 : ByteArray) (w0 : a0.size ≤ maxLen) (w : World) (hbig : 5000 < a0.size) :
    Calls Try.prog 5 #[.string a0] w fun e w' => e = .returned (.bool true) ∧ Below w.heap.size w w' := by
  unfold maxLen at w0
  go_enter Try.func5, Try.ntmps5
  go_wp2_with fail
  refine (awake_any _).mono ?_
  rintro e w1 ⟨rfl, hb1⟩
  go_wp2
  go_ret
  exact ⟨rfl, hb1⟩

set_option maxRecDepth 100000 in
set_option maxHeartbeats 2000000 in
theorem walk_small (a0 : ByteArray) (w : World) (hsm : a0.size ≤ 5000) :
    Calls Try.prog 5 #[.string a0] w fun e w' => e = .returned (.bool true) ∧ Below w.heap.size w w' := by
  obtain ⟨L, hL⟩ : ∃ L, L = Ln.splitL a0.data.toList := ⟨_, rfl⟩
  have hll : L.length ≤ 5000 := by
    have h1 := Ln.splitL_len a0.data.toList
    rw [← hL] at h1
    exact Nat.le_trans h1 hsm
  have hfl : L.flatten = a0.data.toList := by rw [hL]; exact Ln.splitL_flatten _
  have hok : ∀ (i : Nat) (x : List UInt8), L[i]? = some x → _ := fun i x h => str_ok a0.data.toList i x (by rw [← hL]; exact h)
  rw [← hL] at hok
  have hdl : a0.data.toList.length = a0.size := rfl
  have HL : Hid (L = Ln.splitL a0.data.toList) := hL
  have HF : Hid (L.flatten = a0.data.toList) := hfl
  have HO : Hid (∀ (i : Nat) (x : List UInt8), L[i]? = some x → ∃ y : ByteArray, Ln.bs x = y ∧ 1 ≤ y.size ∧ y.size ≤ a0.data.toList.length ∧
    (∀ (hp : y.size - 1 < y.size), i + 1 < L.length → ((y[y.size - 1].toNat : Int) != 10) = false) ∧ ∀ (k : Nat) (hk : k < y.size), k + 1 < y.size → ((y[k].toNat : Int) == 10) = false) := hok
  clear hL hfl hok
  go_enter Try.func5, Try.ntmps5
  go_wp2_with fail
  refine (awake_any _).mono ?_
  rintro e w1 ⟨rfl, hb1⟩
  go_wp2_with fail
  refine (split_any a0 (by omega) _).mono ?_
  rintro e w2 ⟨v, rfl, hown, hb2⟩
  rw [← HL.out] at hown
  have hlow := RowLow.of_owns hown
  obtain ⟨ao, cap, b, off, rfl, hao, hc⟩ := hlow.parts
  have hB2 : Below w.heap.size w w2 := hb1.trans (hb2.mono hb1.size)
  have HLOW : Hid (RowLow w2.heap.size w2 (.slice ao L.length cap) L) := hlow
  clear hown hlow hb1 hb2
  go_wp2_with fail
  go_loop [4] (fun t => ∃ i : Nat, i ≤ L.length ∧ t = .int .i64 i) (fun t => L.length - (intOf t).toNat)
  case atStart => exact ⟨0, Nat.zero_le _, rfl⟩
  case round =>
    obtain ⟨i, hi, rfl⟩ := hrel
    by_cases hlt : i < L.length
    · obtain ⟨x, hx⟩ : ∃ x, L[i]? = some x := ⟨L[i], List.getElem?_eq_getElem hlt⟩
      obtain ⟨rfl, hbs⟩ := hao (by omega)
      have g1 := hc i x hx
      obtain ⟨y, hy, hy1, hy2, hy3, hy4⟩ := HO.out i x hx
      rw [hy] at g1
      clear hc hao hx hy
      have hy5 : y.size ≤ 5000 := by omega
      have hz : ((y.size : Int) == 0) = false := by rw [beq_eq_false_iff_ne]; omega
      have HY4 : Hid (∀ (k : Nat) (hk : k < y.size), k + 1 < y.size → ((y[k].toNat : Int) == 10) = false) := hy4
      clear hy4 hy2
      have hp : y.size - 1 < y.size := by omega
      cases hlast : ((y[y.size - 1].toNat : Int) != 10) with
      | true =>
        have hi2 : ¬ (i + 1 < L.length) := by intro hc2; have := hy3 hp hc2; rw [this] at hlast; cases hlast
        clear hy3
        go_wp2_with fail
        go_loop [6] (fun t => ∃ k : Nat, k + 1 ≤ y.size ∧ t = .int .i64 k) (fun t => y.size - (intOf t).toNat)
        case atStart => exact ⟨0, by omega, rfl⟩
        case round =>
          obtain ⟨k, hk, rfl⟩ := hrel
          by_cases hkl : k + 1 < y.size
          · have hk2 : k < y.size := by omega
            have h10 := HY4.out k hk2 hkl
            go_wp2
            go_round
            case rel => exact ⟨k + 1, by omega, by go_num⟩
            case measure => simp [intOf]; omega
          · go_wp2
            go_round
            case rel => exact ⟨i + 1, by omega, by go_num⟩
            case measure => simp [intOf]; omega
      | false =>
        clear hy3
        go_wp2_with fail
        go_loop [6] (fun t => ∃ k : Nat, k + 1 ≤ y.size ∧ t = .int .i64 k) (fun t => y.size - (intOf t).toNat)
        case atStart => exact ⟨0, by omega, rfl⟩
        case round =>
          obtain ⟨k, hk, rfl⟩ := hrel
          by_cases hkl : k + 1 < y.size
          · have hk2 : k < y.size := by omega
            have h10 := HY4.out k hk2 hkl
            go_wp2
            go_round
            case rel => exact ⟨k + 1, by omega, by go_num⟩
            case measure => simp [intOf]; omega
          · go_wp2
            go_round
            case rel => exact ⟨i + 1, by omega, by go_num⟩
            case measure => simp [intOf]; omega
    · clear hao hc
      have hs5 : L.flatten.length ≤ 140737488355328 := by rw [HF.out]; omega
      go_wp2_with fail
      refine (join_any L _ _ HLOW.out hs5 (by omega)).mono ?_
      rintro e w3 ⟨rfl, hb3⟩
      rw [HF.out, Ln.bs_of]
      have hlow3 : RowLow w2.heap.size w3 (.slice ao L.length cap) L := HLOW.out.below hb3 (Nat.le_refl _)
      go_wp2_with fail
      refine (join_any L _ _ (hlow3.mono hb3.size) hs5 (by omega)).mono ?_
      rintro e w4 ⟨rfl, hb4⟩
      rw [HF.out, Ln.bs_of]
      have hlow4 : RowLow w3.heap.size w4 (.slice ao L.length cap) L := (hlow3.mono hb3.size).below hb4 (Nat.le_refl _)
      go_wp2_with fail
      refine (split_any a0 (by omega) _).mono ?_
      rintro e w5 ⟨v5, rfl, hown, hb5⟩
      rw [← HL.out] at hown
      have hlow5 : RowAt w5 (.slice ao L.length cap) L := ((hlow4.mono hb4.size).below hb5 (Nat.le_refl _)).row
      have hv5 : RowAt w5 v5 L := RowAt.of_owns hown (Below.refl _ _)
      go_wp2_with fail
      refine (same_any w5 _ _ L L hv5 hlow5 (by omega) (by omega)).mono ?_
      rintro e w6 ⟨rfl, d, rfl⟩
      rw [decide_eq_true rfl]
      have hB5 : Below w.heap.size w w5 := ((hB2.trans (hb3.mono hB2.size)).trans (hb4.mono (Nat.le_trans hB2.size hb3.size))).trans (hb5.mono (Nat.le_trans hB2.size (Nat.le_trans hb3.size hb4.size)))
      go_wp2
      go_ret
      exact ⟨rfl, below_drewN hB5 d⟩

theorem walk (a0 : ByteArray) (w0 : a0.size ≤ maxLen) (w : World) :
    Calls Try.prog 5 #[.string a0] w fun e w' => e = .returned (.bool true) ∧ Below w.heap.size w w' := by
  by_cases h : a0.size ≤ 5000
  · exact walk_small a0 w h
  · exact walk_big a0 w0 w (by omega)

set_option maxRecDepth 100000 in
theorem lifted (os : Os) (started : os.Started) (H : Type) (enc : TypeId × Value → H) :
    ReturnsInHanded {} Try.checked os 5 .any (Rows.linesBackSpec.pre6 enc Try.prog Try.f5 Rows.linesBackRow.domain false) (Rows.linesBackSpec.post enc Try.prog Try.f5 false true false false) := by
  refine returnsInHanded_of_change (C := Try.checked) own started (by kernel_rfl) Try.func5
    (ChangeSpec.witness6 (enc := enc) (C := Try.checked) false ⟨#[], #[.string ByteArray.empty], []⟩ 8 (by kernel_rfl) (by kernel_rfl) (by kernel_rfl) (by kernel_rfl)) ?_
  intro W base args ds gs before hval0 hW hcnd _
  have hval : ∀ (j : Nat) t v, Try.f5.params[j]? = some t → args[j]? = some v → Value.okWide Try.prog W .any base t v := hval0
  have hW' := hW
  obtain ⟨p, q, hA0, hV, rfl, hfz, hnd⟩ := hW
  have hA : DataW.TrodAll enc Try.prog W 0 (fun _ => true) true Try.f5.params.toList args.toList ds p := hA0
  rw [Try.params5] at hA hval
  obtain ⟨v0, vs0, d0, ds0, p0, q0, hargs, rfl, rfl, h0, r0⟩ := trodAll_cons hA
  obtain ⟨rfl, rfl, rfl⟩ := trodAll_nil r0
  obtain rfl : args = #[v0] := by cases args; simp_all
  obtain ⟨rfl, rfl⟩ := trodVars_none hV
  obtain ⟨a0, rfl, rfl, rfl, w0⟩ := open_string Try.underlying9 (hval 0 9 v0 rfl rfl) h0
  clear hA0 hval0
  refine (walk a0 w0 W).mono fun e W' ⟨he, bel⟩ => ?_
  subst he
  exact ⟨_, rfl, _, _, _, [], _, [], hW', trodAll_mk1 (shut_bool Try.underlying4 _), (trodAll_cons_mk (shut_string Try.underlying9 w0) trodAll_mk0), rfl, bel.frame _, fun h => by cases h⟩

end Go.Proofs.Ytapnakcoanjfgaa.linesBack

namespace Go.Proofs.Ytapnakcoanjfgaa
open Go.ChangeShapes Go.WideShapes Go.ChangeAt Go.RowKit

theorem linesBack_holds : Rows.LinesBackSaid :=
  OpenClaim.holds_of_wide 5 Try.f5 rfl rfl rfl rfl rfl rfl rfl ⟨rfl, rfl, rfl, rfl, rfl⟩ rfl rfl rfl rfl rfl (by kernel_rfl) Try.func5 (by kernel_rfl)
    (of_decide_eq_true (by kernel_rfl)) (by unfold Func.isWrapper; first | (rw [if_pos (by decide +kernel)]; kernel_rfl) | (rw [if_neg (by decide +kernel)]; exact ⟨rfl, rfl⟩))
    (fun os started H enc _ => linesBack.lifted os started H enc)

#print axioms linesBack_holds
end Go.Proofs.Ytapnakcoanjfgaa

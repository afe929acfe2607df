/-
  Proved here: clerestorylaw01.LinesPlaces returns true for every text and every place, and its arguments read behind the call as they read before (the whole statement Rows.LinesPlacesSaid, no condition).
-/
import Derived.Test.YtapnakcoanjfgaaAwake
import Derived.ProofKit
import Derived.OpenShut
import Derived.ShutString
namespace Go.Proofs.Ytapnakcoanjfgaa.linesPlaces
open Go.ChangeShapes Go.WideShapes Go.ChangeAt Go.RowKit
open Go.ChangeMaps (open_string shut_string)

theorem own : ownKnob Try.prog.godebug = none := by kernel_rfl

set_option maxRecDepth 100000 in
set_option maxHeartbeats 1000000 in
theorem walk_big (a0 : ByteArray) (a1 : Int) (w0 : a0.size ≤ maxLen) (w : World) (hbig : 5000 < a0.size) :
    Calls Try.prog 6 #[.string a0, .int .i64 a1] w fun e w' => e = .returned (.bool true) ∧ Below w.heap.size w w' := by
  unfold maxLen at w0
  go_enter Try.func6, Try.ntmps6
  go_wp2_with fail
  refine (awake_any _).mono ?_
  rintro e w1 ⟨rfl, hb1⟩
  go_wp2
  go_ret
  exact ⟨rfl, hb1⟩

/-- A place of the text, as an int. -/
theorem clamp_nat (p n : Nat) (h : p ≤ n) : (min (max (p : Int) 0) (n : Int)).toNat = p := by omega
theorem clamp_nat1 (p n : Nat) (h : p + 1 ≤ n) : (min (max ((p : Int) + 1) 0) (n : Int)).toNat = p + 1 := by omega

theorem at_end (l : List UInt8) : ¬ (0 ≤ (Ln.cntL (l.take l.length) : Int) ∧ 0 ≤ (Ln.colL (l.take l.length) : Int) + 1 ∧ Ln.atOk l (Ln.cntL (l.take l.length) : Int).toNat ((Ln.colL (l.take l.length) : Int) + 1).toNat) := by
  rintro ⟨_, _, h⟩
  have h1 := Ln.place_at l l.length (Nat.le_refl _)
  rw [Int.toNat_natCast, show ((Ln.colL (l.take l.length) : Int) + 1).toNat = Ln.colL (l.take l.length) + 1 from by omega] at h
  have h2 := Ln.at_place l _ _ h
  omega

theorem snoc_yes (s : ByteArray) (p : Nat) (hp : p < s.size) (h : ((s[p].toNat : Int) == 10) = true) : Ln.cntL (s.data.toList.take (p + 1)) = Ln.cntL (s.data.toList.take p) + 1 ∧ Ln.colL (s.data.toList.take (p + 1)) = 0 := by
  have e : s.data.toList.take (p + 1) = s.data.toList.take p ++ [s[p]] := by
    rw [List.take_succ_eq_append_getElem (by simpa using hp)]; rfl
  have h10 : s[p] = 10 := by
    apply UInt8.toNat_inj.1
    have : (10 : UInt8).toNat = 10 := rfl
    simp at h
    omega
  rw [e, Ln.cntL_snoc, Ln.colL_snoc, if_pos h10, if_pos h10]
  exact ⟨rfl, rfl⟩
theorem snoc_no (s : ByteArray) (p : Nat) (hp : p < s.size) (h : ((s[p].toNat : Int) == 10) = false) : Ln.cntL (s.data.toList.take (p + 1)) = Ln.cntL (s.data.toList.take p) ∧ Ln.colL (s.data.toList.take (p + 1)) = Ln.colL (s.data.toList.take p) + 1 := by
  have e : s.data.toList.take (p + 1) = s.data.toList.take p ++ [s[p]] := by
    rw [List.take_succ_eq_append_getElem (by simpa using hp)]; rfl
  have h10 : s[p] ≠ 10 := by
    intro e10
    rw [e10] at h
    exact absurd h (by decide)
  rw [e, Ln.cntL_snoc, Ln.colL_snoc, if_neg h10, if_neg h10]
  exact ⟨rfl, rfl⟩

theorem cnt_le (l : List UInt8) : Ln.cntL l ≤ l.length := by
  induction l with
  | nil => simp [Ln.cntL]
  | cons c r ih => simp only [Ln.cntL, List.length_cons]; split <;> omega
theorem col_le (l : List UInt8) : Ln.colL l ≤ l.length := by
  have h := (Ln.place_at l l.length (Nat.le_refl _)).2
  rw [List.take_length] at h
  omega

set_option maxRecDepth 100000 in
set_option maxHeartbeats 2000000 in
theorem walk_small (a0 : ByteArray) (a1 : Int) (w : World) (hsm : a0.size ≤ 5000) :
    Calls Try.prog 6 #[.string a0, .int .i64 a1] w fun e w' => e = .returned (.bool true) ∧ Below w.heap.size w w' := by
  go_enter Try.func6, Try.ntmps6
  go_wp2_with fail
  refine (awake_any _).mono ?_
  rintro e w1 ⟨rfl, hb1⟩
  go_wp2_with fail
  refine (pick_any _ _ _ (by omega) (by omega)).mono ?_
  rintro e w2 ⟨⟨r, rfl, hr0, hr1⟩, rfl⟩
  obtain ⟨p, rfl⟩ := Int.eq_ofNat_of_zero_le hr0
  have hp : p ≤ a0.size := by omega
  clear hr0 hr1
  go_wp2_with fail
  refine (place_any a0 (by omega) _ _).mono ?_
  rintro e w3 ⟨rfl, hb3⟩
  rw [clamp_nat p a0.size hp]
  obtain ⟨L, hL⟩ : ∃ L, L = a0.data.toList := ⟨_, rfl⟩
  have hLs : L.length = a0.size := by rw [hL]; rfl
  have HL : Hid (L = a0.data.toList) := hL
  have hpa := Ln.place_at L p (by omega)
  have hcl := cnt_le (L.take p)
  have hol := col_le (L.take p)
  have htl : (L.take p).length ≤ 5000 := by rw [List.length_take]; omega
  rw [← hL]
  clear hL
  have HPA : Hid (Ln.atOk L (Ln.cntL (L.take p)) (Ln.colL (L.take p)) ∧ Ln.behindL L (Ln.cntL (L.take p)) + Ln.colL (L.take p) = p) := hpa
  clear hpa
  go_wp2_with fail
  refine (at_yes a0 (by omega) _ _ (by omega) (by omega) _ (by omega) (by omega) (by rw [← HL.out, Int.toNat_natCast, Int.toNat_natCast]; exact HPA.out.1)).mono ?_
  rintro e w4 ⟨rfl, hb4⟩
  rw [← HL.out, Int.toNat_natCast, show ((Ln.behindL L (Ln.cntL (L.take p)) : Int) + (Ln.colL (L.take p) : Int)) = (p : Int) from by have := HPA.out.2; omega]
  have hB : Below w.heap.size w w4 := (hb1.trans (hb3.mono hb1.size)).trans (hb4.mono (Nat.le_trans hb1.size hb3.size))
  clear hb1 hb3 hb4
  by_cases hend : p = a0.size
  · have hbe : ((p : Int) == (a0.size : Int)) = true := by rw [beq_iff_eq]; omega
    have HP : Hid (p = a0.size) := hend
    clear hend
    go_wp2_with fail
    refine (at_no a0 (by omega) _ _ (by omega) (by omega) _ (by
      rw [← HL.out, HP.out, ← hLs]; exact at_end L)).mono ?_
    rintro e w5 ⟨rfl, hb5⟩
    unfold atNo
    go_wp2
    go_ret
    exact ⟨rfl, hB.trans (hb5.mono hB.size)⟩
  · have hbe : ((p : Int) == (a0.size : Int)) = false := by rw [beq_eq_false_iff_ne]; omega
    have hlt : p < a0.size := by omega
    clear hend
    go_wp2_with fail
    refine (place_any a0 (by omega) _ _).mono ?_
    rintro e w5 ⟨rfl, hb5⟩
    rw [clamp_nat1 p a0.size (by omega)]
    have hB5 := hB.trans (hb5.mono hB.size)
    cases h10 : ((a0[p].toNat : Int) == 10) with
    | true =>
      have hs := snoc_yes a0 p hlt h10
      rw [hs.1, hs.2, ← HL.out]
      clear hs
      go_wp2
      go_ret
      exact ⟨rfl, hB5⟩
    | false =>
      have hs := snoc_no a0 p hlt h10
      rw [hs.1, hs.2, ← HL.out]
      clear hs
      go_wp2
      go_ret
      exact ⟨rfl, hB5⟩

theorem walk (a0 : ByteArray) (a1 : Int) (w0 : a0.size ≤ maxLen) (w : World) :
    Calls Try.prog 6 #[.string a0, .int .i64 a1] w fun e w' => e = .returned (.bool true) ∧ Below w.heap.size w w' := by
  by_cases h : a0.size ≤ 5000
  · exact walk_small a0 a1 w h
  · exact walk_big a0 a1 w0 w (by omega)

set_option maxRecDepth 100000 in
theorem lifted (os : Os) (started : os.Started) (H : Type) (enc : TypeId × Value → H) :
    ReturnsInHanded {} Try.checked os 6 .any (Rows.linesPlacesSpec.pre6 enc Try.prog Try.f6 Rows.linesPlacesRow.domain false) (Rows.linesPlacesSpec.post enc Try.prog Try.f6 false true false false) := by
  refine returnsInHanded_of_change (C := Try.checked) own started (by kernel_rfl) Try.func6
    (ChangeSpec.witness6 (enc := enc) (C := Try.checked) false ⟨#[], #[.string ByteArray.empty, .int .i64 0], []⟩ 8 (by kernel_rfl) (by kernel_rfl) (by kernel_rfl) (by kernel_rfl)) ?_
  intro W base args ds gs before hval0 hW hcnd _
  have hval : ∀ (j : Nat) t v, Try.f6.params[j]? = some t → args[j]? = some v → Value.okWide Try.prog W .any base t v := hval0
  have hW' := hW
  obtain ⟨p, q, hA0, hV, rfl, hfz, hnd⟩ := hW
  have hA : DataW.TrodAll enc Try.prog W 0 (fun _ => true) true Try.f6.params.toList args.toList ds p := hA0
  rw [Try.params6] at hA hval
  obtain ⟨v0, vs0, d0, ds0, p0, q0, hargs, rfl, rfl, h0, r0⟩ := trodAll_cons hA
  obtain ⟨v1, vs1, d1, ds1, p1, q1, rfl, rfl, rfl, h1, r1⟩ := trodAll_cons r0
  obtain ⟨rfl, rfl, rfl⟩ := trodAll_nil r1
  obtain rfl : args = #[v0, v1] := by cases args; simp_all
  obtain ⟨rfl, rfl⟩ := trodVars_none hV
  obtain ⟨a0, rfl, rfl, rfl, w0⟩ := open_string Try.underlying9 (hval 0 9 v0 rfl rfl) h0
  obtain ⟨a1, rfl, rfl, rfl, w1⟩ := open_int Try.underlying3 (hval 1 3 v1 rfl rfl) h1
  clear hA0 hval0
  refine (walk a0 a1 w0 W).mono fun e W' ⟨he, bel⟩ => ?_
  subst he
  exact ⟨_, rfl, _, _, _, [], _, [], hW', trodAll_mk1 (shut_bool Try.underlying4 _), (trodAll_cons_mk (shut_string Try.underlying9 w0) (trodAll_cons_mk (shut_int Try.underlying3 w1) trodAll_mk0)), rfl, bel.frame _, fun h => by cases h⟩

end Go.Proofs.Ytapnakcoanjfgaa.linesPlaces

namespace Go.Proofs.Ytapnakcoanjfgaa
open Go.ChangeShapes Go.WideShapes Go.ChangeAt Go.RowKit

theorem linesPlaces_holds : Rows.LinesPlacesSaid :=
  OpenClaim.holds_of_wide 6 Try.f6 rfl rfl rfl rfl rfl rfl rfl ⟨rfl, rfl, rfl, rfl, rfl⟩ rfl rfl rfl rfl rfl (by kernel_rfl) Try.func6 (by kernel_rfl)
    (of_decide_eq_true (by kernel_rfl)) (by unfold Func.isWrapper; first | (rw [if_pos (by decide +kernel)]; kernel_rfl) | (rw [if_neg (by decide +kernel)]; exact ⟨rfl, rfl⟩))
    (fun os started H enc _ => linesPlaces.lifted os started H enc)

#print axioms linesPlaces_holds
end Go.Proofs.Ytapnakcoanjfgaa

/-
  Proved here: clerestorylaw01.LinesJoin returns true for every row of texts, and its argument reads behind the call as it read before (the whole statement Rows.LinesJoinSaid, no condition).
-/
import Derived.Test.YtapnakcoanjfgaaKept
import Derived.ProofKit
import Derived.OpenShut
import Derived.ShutString
import Derived.SliceStrings
namespace Go.Proofs.Ytapnakcoanjfgaa.linesJoin
open Go.ChangeShapes Go.WideShapes Go.ChangeAt Go.RowKit
open Go.ChangeMaps (open_string shut_string)

theorem own : ownKnob Try.prog.godebug = none := by kernel_rfl
theorem laidOut : laidOutB Try.prog = true := by kernel_rfl

/-- What the law's own count comes to. -/
def cost : List (List UInt8) → Nat
  | [] => 0
  | x :: r => 1 + min x.length 2000 + cost r
theorem cost_append (a b : List (List UInt8)) : cost (a ++ b) = cost a + cost b := by
  induction a with
  | nil => simp [cost]
  | cons x r ih => simp only [List.cons_append, cost, ih]; omega
theorem cost_take (L : List (List UInt8)) (k : Nat) (x : List UInt8) (h : L[k]? = some x) : cost (L.take (k + 1)) = cost (L.take k) + 1 + min x.length 2000 := by
  obtain ⟨hk, hx⟩ := List.getElem?_eq_some_iff.1 h
  rw [List.take_succ_eq_append_getElem hk, cost_append, hx]
  simp only [cost]; omega
theorem cost_small (L : List (List UInt8)) (h : cost L < 2000) : L.length ≤ cost L ∧ L.flatten.length ≤ cost L := by
  induction L with
  | nil => simp [cost]
  | cons x r ih =>
    simp only [cost] at h ⊢
    have := ih (by omega)
    rw [List.length_cons, List.flatten_cons, List.length_append]
    omega

theorem arg_low {w : World} {v : Value} {L : List (List UInt8)} (h : ArgRow w v L) : RowLow w.heap.size w v L := by
  rcases h with ⟨rfl, rfl⟩ | ⟨a, cap, rfl, hc⟩
  · exact .inl ⟨rfl, none, 0, rfl⟩
  · cases L with
    | nil => exact .inl ⟨rfl, _, _, rfl⟩
    | cons y r =>
      obtain ⟨b, off, spot⟩ := a
      have h0 := hc 0 y rfl
      have hspot : spot = none := by simpa [Addr.add] using World.cell?_spot h0
      subst hspot
      have hlt : b < w.heap.size := by simpa [Addr.add] using World.block_lt_of_cell? _ _ h0
      refine .inr ⟨b, off, cap, hlt, rfl, fun j x hx => ?_⟩
      have := hc j x hx
      rwa [Go.WideShapes.add_plain] at this
theorem arg_below {w w' : World} {v : Value} {L : List (List UInt8)} (h : ArgRow w v L) (hb : Below w.heap.size w w') : ArgRow w' v L := by
  rcases h with h | ⟨a, cap, hv, hc⟩
  · exact .inl h
  · exact .inr ⟨a, cap, hv, fun j x hx => (hb.cell (World.block_lt_of_cell? _ _ (hc j x hx))).trans (hc j x hx)⟩
theorem arg_form {w : World} {v : Value} {L : List (List UInt8)} (h : ArgRow w v L) : ∃ ao cap b off, v = .slice ao L.length cap ∧ (0 < L.length → ao = some ⟨b, off, none⟩) ∧ ∀ (j : Nat) (x : List UInt8), L[j]? = some x → w.cell? ⟨b, off + j, none⟩ = some (.string (Ln.bs x)) :=
  (arg_low h).row.parts

/-- The lent row's first part. -/
theorem lent_low {W : World} {B g cap : Nat} {L M : List (List UInt8)} (h : W.ownsRow B 9 1 (.slice (some ⟨g, 0, none⟩) (L.length + 12) cap) (L.length + 12) ((L ++ M).map txtV)) : RowLow W.heap.size W (.slice (some ⟨g, 0, none⟩) L.length cap) L := by
  refine .inr ⟨g, 0, cap, (h.lt g rfl).2, rfl, fun j x hx => ?_⟩
  have hj : j < L.length := (List.getElem?_eq_some_iff.1 hx).1
  have h2 := h.cells (g := g) rfl j (.string (Ln.bs x)) (by rw [List.getElem?_map, List.getElem?_append_left hj, hx]; rfl)
  have ha : (⟨g, 0, none⟩ : Addr).add j = ⟨g, j, none⟩ := by cases j <;> simp [Addr.add]
  rw [ha] at h2
  rw [Nat.zero_add]; exact h2

set_option maxRecDepth 100000 in
set_option maxHeartbeats 2000000 in
theorem walk (L : List (List UInt8)) (v : Value) (w : World) (harg : ArgRow w v L) (hl : L.length ≤ 9223372036854775807) :
    Calls Try.prog 4 #[v] w fun e w' => e = .returned (.bool true) ∧ Below w.heap.size w w' := by
  obtain ⟨ao, cap, b, off, rfl, hao, hc⟩ := arg_form harg
  go_enter Try.func4, Try.ntmps4
  go_wp2_with fail
  refine (awake_any _).mono ?_
  rintro e w1 ⟨rfl, hb1⟩
  have harg1 := arg_below harg hb1
  have HARG : Hid (ArgRow w1 (.slice ao L.length cap) L) := harg1
  clear harg harg1 hc hao
  obtain ⟨ao', cap', b, off, he, hao, hc⟩ := arg_form HARG.out
  injection he with e1 e2 e3
  subst e1 e3
  clear e2
  go_wp2_with fail
  go_loop [3, 4] (fun t i => ∃ k c : Nat, k ≤ L.length ∧ i = .int .i64 k ∧ t = .int .i64 c ∧ Hid (c = cost (L.take k)) ∧ c ≤ 4001) (fun _ i => L.length - (intOf i).toNat)
  case atStart => exact ⟨0, 0, Nat.zero_le _, rfl, rfl, rfl, by omega⟩
  case round =>
    obtain ⟨k, c, hk, rfl, rfl, HC, hc4⟩ := hrel
    by_cases hlt : k < L.length
    · by_cases hcl : c < 2000
      · obtain ⟨x, hx⟩ : ∃ x, L[k]? = some x := ⟨L[k], List.getElem?_eq_getElem hlt⟩
        obtain rfl := hao (by omega)
        have g1 := hc k x hx
        have HK : Hid (cost (L.take (k + 1)) = cost (L.take k) + 1 + min x.length 2000) := cost_take L k x hx
        clear hc hao hx
        have i1 : decide ((k : Int) < (L.length : Int)) = true := by simp; omega
        have i2 : decide (k < L.length) = true := by simp; omega
        go_wp2
        go_round
        case rel =>
          refine ⟨k + 1, c + 1 + min (Ln.bs x).size 2000, by omega, by go_num, congrArg (Value.int .i64) (by omega), ?_, by omega⟩
          show _ = _
          rw [HK.out, ← HC.out, Ln.bs_size]
        case measure => simp [intOf]; omega
      · clear hc hao
        have i2 : decide (k < L.length) = true := by simp; omega
        go_wp2
        go_ret
        exact ⟨rfl, hb1⟩
    · have hke : k = L.length := by omega
      have i2 : decide (k < L.length) = false := by simp; omega
      have HC2 : Hid (c = cost L) := by
        show c = cost L
        have := HC.out
        rwa [hke, List.take_length] at this
      clear hc hao HC
      by_cases hcl : c < 2000
      · have hsm := cost_small L (by rw [← HC2.out]; exact hcl)
        have hs1 : L.length ≤ 2000 := by rw [← HC2.out] at hsm; omega
        have hs2 : L.flatten.length ≤ 2000 := by rw [← HC2.out] at hsm; omega
        clear hsm
        go_wp2_with fail
        refine (lent_any L _ _ HARG.out (by omega)).mono ?_
        rintro e w2 ⟨g, cap2, rfl, hown, hb2⟩
        have hlow2 := lent_low hown
        go_wp2_with fail
        refine (join_any L _ _ hlow2 (by omega) (by omega)).mono ?_
        rintro e w3 ⟨rfl, hb3⟩
        have harg3 : ArgRow w3 (.slice ao L.length cap) L := arg_below (arg_below HARG.out hb2) (hb3.mono (Nat.le_refl _))
        go_wp2_with fail
        refine (refJoin_any L _ _ (arg_low harg3).row (by omega) (by omega)).mono ?_
        rintro e w4 ⟨rfl, rfl⟩
        have hown4 := owns_below hown hb3
        go_wp2_with fail
        refine (kept_any L _ g cap2 _ _ (arg_low harg3) hown4 (by omega)).mono ?_
        rintro e w5 ⟨rfl, hb5⟩
        have hB : Below w.heap.size w w5 := ((hb1.trans (hb2.mono hb1.size)).trans (hb3.mono (Nat.le_trans hb1.size hb2.size))).trans (hb5.mono (Nat.le_trans hb1.size (Nat.le_trans hb2.size hb3.size)))
        clear hown hown4 hb1 hb2 hb3 hb5
        go_wp2
        go_ret
        exact ⟨rfl, hB⟩
      · go_wp2
        go_ret
        exact ⟨rfl, hb1⟩

set_option maxRecDepth 100000 in
theorem lifted (os : Os) (started : os.Started) (H : Type) (enc : TypeId × Value → H) :
    ReturnsInHanded {} Try.checked os 4 .any (Rows.linesJoinSpec.pre6 enc Try.prog Try.f4 Rows.linesJoinRow.domain false) (Rows.linesJoinSpec.post enc Try.prog Try.f4 false true false false) := by
  refine returnsInHanded_of_change (C := Try.checked) own started (by kernel_rfl) Try.func4
    (ChangeSpec.witness6 (enc := enc) (C := Try.checked) false ⟨#[], #[.slice none 0 0], []⟩ 8 (by kernel_rfl) (by kernel_rfl) (by kernel_rfl) (by kernel_rfl)) ?_
  intro W base args ds gs before hval0 hW hcnd _
  have hval : ∀ (j : Nat) t v, Try.f4.params[j]? = some t → args[j]? = some v → Value.okWide Try.prog W .any base t v := hval0
  have hW' := hW
  obtain ⟨p, q, hA0, hV, rfl, hfz, hnd⟩ := hW
  have hA : DataW.TrodAll enc Try.prog W 0 (fun _ => true) true Try.f4.params.toList args.toList ds p := hA0
  rw [Try.params4] at hA hval
  obtain ⟨v0, vs0, d0, ds0, p0, q0, hargs, rfl, rfl, h0, r0⟩ := trodAll_cons hA
  obtain ⟨rfl, rfl, rfl⟩ := trodAll_nil r0
  obtain rfl : args = #[v0] := by cases args; simp_all
  obtain ⟨rfl, rfl⟩ := trodVars_none hV
  obtain ⟨a0, len0, cap0, rfl⟩ := okWide_slice Try.underlying33 (hval 0 33 v0 rfl rfl)
  have k0 := h0
  have lt0 : ∀ x ∈ p0, x.block < W.heap.size := by obtain ⟨m, hm⟩ := k0; exact DataW.trod_lt m _ _ _ hm
  obtain ⟨L, harg, hl⟩ : ∃ L, ArgRow W (.slice a0 len0 cap0) L ∧ L.length ≤ 9223372036854775807 := by
    obtain ⟨fuel, hf⟩ := h0
    rcases open_strings Try.underlying33 Try.underlying9 (by kernel_rfl) hf with ⟨hcs, _⟩ | ⟨x, l, c, ss, hcs, _, hl, hm, hz, _, hcell, hwz⟩
    · simp [Value.cells] at hcs
      obtain ⟨rfl, rfl, rfl⟩ := hcs
      exact ⟨[], .inl ⟨rfl, rfl⟩, by simp⟩
    · simp [Value.cells] at hcs
      obtain ⟨rfl, rfl, rfl⟩ := hcs
      have hlen : len0 ≤ ss.length := by rw [hz]; split <;> omega
      refine ⟨(ss.take len0).map (fun s => s.data.toList), .inr ⟨x, cap0, ?_, ?_⟩, ?_⟩
      · rw [List.length_map, List.length_take, Nat.min_eq_left hlen]
      · intro j y hy
        rw [List.getElem?_map, List.getElem?_take] at hy
        split at hy
        · have hj : j < ss.length := by omega
          rw [List.getElem?_eq_getElem hj] at hy
          have hy2 : ss[j].data.toList = y := by simpa using hy
          rw [hcell j hj, ← hy2, Ln.bs_of]
          simp [List.getD, List.getElem?_eq_getElem hj]
        · simp at hy
      · rw [List.length_map, List.length_take]
        unfold maxLen at hm
        omega
  clear hA0 hval0
  refine (walk L _ W harg hl).mono fun e W' ⟨he, bel⟩ => ?_
  subst he
  exact ⟨_, rfl, _, _, _, [], _, [], hW', trodAll_mk1 (shut_bool Try.underlying4 _), (trodAll_cons_mk (Below.trod laidOut (by kernel_rfl) (of_decide_eq_true (by kernel_rfl)) k0 bel lt0) trodAll_mk0), rfl, bel.frame _, fun h => by cases h⟩

end Go.Proofs.Ytapnakcoanjfgaa.linesJoin

namespace Go.Proofs.Ytapnakcoanjfgaa
open Go.ChangeShapes Go.WideShapes Go.ChangeAt Go.RowKit

theorem linesJoin_holds : Rows.LinesJoinSaid :=
  OpenClaim.holds_of_wide 4 Try.f4 rfl rfl rfl rfl rfl rfl rfl ⟨rfl, rfl, rfl, rfl, rfl⟩ rfl rfl rfl rfl rfl (by kernel_rfl) Try.func4 (by kernel_rfl)
    (of_decide_eq_true (by kernel_rfl)) (by unfold Func.isWrapper; first | (rw [if_pos (by decide +kernel)]; kernel_rfl) | (rw [if_neg (by decide +kernel)]; exact ⟨rfl, rfl⟩))
    (fun os started H enc _ => linesJoin.lifted os started H enc)

#print axioms linesJoin_holds
end Go.Proofs.Ytapnakcoanjfgaa

/-
  The walk of ValueApart.
-/
import Derived.Test.YtcnmgebjbaclaaaDoorVlApart
import Derived.Test.YtcnmgebjbaclaaaDoorVlAwake
namespace Go.Proofs.YtcnmgebjbaclaaaDoor
open Go.RowKit Go.Shelf
open Vl (V Res)

attribute [local go_sem] Oper.semAt_some

theorem lit63 : ((Ln.bs [63]).toList == [63]) = true := by rw [Lib.toList_data, Ln.bs_toList]; rfl
theorem lit63' (q : List UInt8) : ((Ln.bs q).toList == [63]) = decide (q = [63]) := by rw [Lib.toList_data, Ln.bs_toList, Bool.eq_iff_iff]; simp
theorem right0_any (k n : Int) (x : Bool) (h : Vl.right ⟨k, n, []⟩ = x) (w : World) : Calls Tryd.prog 11 #[vV k n nilV] w fun e w' => e = .returned (.bool x) ∧ Below w.heap.size w w' := by
  have := right_any k n none [] 0 (by simp) w
  rw [h] at this
  exact this
theorem text1_any (x : VA) (rb cap : Nat) (w : World) (hr : w.heap[rb]? = some (.cells #[.int .u8 x.k, .int .i64 x.n, x.vs] 25 (0, 0))) (hc : 1 ≤ cap) (hx : x.Low w.heap.size w) (hf : V.Fit x.v) (ht : TabW w) :
    Calls Tryd.prog 15 #[.slice (some ⟨rb, 0, none⟩) 1 cap] w fun e w' => e = .returned (.string (Ln.bs (Vl.text x.v))) ∧ Below w.heap.size w w' := by
  have h := Text_any [x] (.slice (some ⟨rb, 0, none⟩) 1 cap) w (Row1.low ⟨row_of hr, (Array.getElem?_eq_some_iff.1 hr).1, hx⟩ hc) (by simp) (fun y hy => by rw [List.mem_singleton] at hy; rw [hy]; exact hf) ht
  have e : Vl.texts ([x].map VA.v) = Vl.text x.v := by simp [Vl.texts, Vl.join, Lib.join]
  rwa [e] at h
set_option maxRecDepth 100000 in
set_option maxHeartbeats 8000000 in
theorem apart_law (a b : VA) (s : ByteArray) (w : World) (ha : a.Low w.heap.size w) (hb : b.Low w.heap.size w) (fa : V.Fit a.v) (fb : V.Fit b.v) (hs : s.size ≤ 9223372036854775807) (ht : TabW w) :
    Calls Tryd.prog 7 #[a.val, b.val, .string s] w fun e w' => e = .returned (.bool true) ∧ Below w.heap.size w w' := by
  obtain ⟨sa, ca, hva⟩ := ha.shape
  obtain ⟨sb, cb, hvb⟩ := hb.shape
  obtain ⟨V0, h0⟩ : ∃ V, V = w.alloc (.cells #[.int .u8 a.k, .int .i64 a.n, a.vs] 25) := ⟨_, rfl⟩
  obtain ⟨V, hV⟩ : ∃ V, V = V0.alloc (.cells #[.int .u8 b.k, .int .i64 b.n, b.vs] 25) := ⟨_, rfl⟩
  have b0 : Below w.heap.size w V0 := h0 ▸ below_new w _
  have b1 : Below V0.heap.size V0 V := hV ▸ below_new V0 _
  have s0 : V0.heap.size = w.heap.size + 1 := by rw [h0, World.size_alloc]
  have bV : Below w.heap.size w V := below_then b0 b1
  have n0 : V.heap[w.heap.size]? = some (.cells #[.int .u8 a.k, .int .i64 a.n, a.vs] 25 (0, 0)) := (b1.block _ (by omega)).trans (by rw [h0]; exact World.alloc_heap_new w _)
  have n1 : V.heap[w.heap.size + 1]? = some (.cells #[.int .u8 b.k, .int .i64 b.n, b.vs] 25 (0, 0)) := by rw [hV, ← s0]; exact World.alloc_heap_new V0 _
  have HBV : Hid (Below w.heap.size w V) := bV
  have HC : Hid (∀ W, Below V.heap.size V W → W.cell? ⟨w.heap.size, 0, none⟩ = some (.int .u8 a.k) ∧ W.cell? ⟨w.heap.size, 1, none⟩ = some (.int .i64 a.n) ∧ W.cell? ⟨w.heap.size, 2, none⟩ = some a.vs ∧ W.cell? ⟨w.heap.size + 1, 0, none⟩ = some (.int .u8 b.k) ∧ W.cell? ⟨w.heap.size + 1, 1, none⟩ = some (.int .i64 b.n) ∧ W.cell? ⟨w.heap.size + 1, 2, none⟩ = some b.vs) := fun W hW =>
    ⟨cell_some_below (vcells_at n0 rfl) hW, cell_some_below (vcells_at n0 rfl) hW, cell_some_below (vcells_at n0 rfl) hW, cell_some_below (vcells_at n1 rfl) hW, cell_some_below (vcells_at n1 rfl) hW, cell_some_below (vcells_at n1 rfl) hW⟩
  have HW : Hid (∀ W, Below V.heap.size V W → Calls Tryd.prog 8 #[] W fun e w' => e = .returned (.bool true) ∧ Below W.heap.size W w') := fun W hW => awake_any W (ht.at (below_then bV hW))
  have HBN : Hid (∀ q : List UInt8, q.length ≤ 1000000 → ∀ W, Below V.heap.size V W → Calls Tryd.prog 23 #[.string (Ln.bs q), a.val, b.val] W fun e w' => e = .returned (.tuple #[vV (Vl.bin q a.v b.v).k (Vl.bin q a.v b.v).n nilV, .int .i64 (Vl.bin q a.v b.v).e]) ∧ Below W.heap.size W w') := fun q hq W hW => binary_any q hq a b W (ha.at (below_then bV hW)) (hb.at (below_then bV hW))
  have HU1 : Hid (∀ W, Below V.heap.size V W → Calls Tryd.prog 22 #[.string (Ln.bs [33]), a.val] W fun e w' => e = .returned (.tuple #[vV (Vl.un [33] a.v).k (Vl.un [33] a.v).n nilV, .int .i64 (Vl.un [33] a.v).e]) ∧ Below W.heap.size W w') := fun W hW => unary_any [33] (by simp) a W (ha.at (below_then bV hW))
  have HU2 : Hid (∀ W, Below V.heap.size V W → Calls Tryd.prog 22 #[.string (Ln.bs [33]), b.val] W fun e w' => e = .returned (.tuple #[vV (Vl.un [33] b.v).k (Vl.un [33] b.v).n nilV, .int .i64 (Vl.un [33] b.v).e]) ∧ Below W.heap.size W w') := fun W hW => unary_any [33] (by simp) b W (hb.at (below_then bV hW))
  have HT1 : Hid (∀ W rb, Below V.heap.size V W → W.heap[rb]? = some (.cells #[.int .u8 a.k, .int .i64 a.n, a.vs] 25 (0, 0)) → Calls Tryd.prog 15 #[.slice (some ⟨rb, 0, none⟩) 1 1] W fun e w' => e = .returned (.string (Ln.bs (Vl.text a.v))) ∧ Below W.heap.size W w') := fun W rb hW hr => text1_any a rb 1 W hr (Nat.le_refl _) (ha.at (below_then bV hW)) fa (ht.at (below_then bV hW))
  have HT2 : Hid (∀ W rb, Below V.heap.size V W → W.heap[rb]? = some (.cells #[.int .u8 b.k, .int .i64 b.n, b.vs] 25 (0, 0)) → Calls Tryd.prog 15 #[.slice (some ⟨rb, 0, none⟩) 1 1] W fun e w' => e = .returned (.string (Ln.bs (Vl.text b.v))) ∧ Below W.heap.size W w') := fun W rb hW hr => text1_any b rb 1 W hr (Nat.le_refl _) (hb.at (below_then bV hW)) fb (ht.at (below_then bV hW))
  have la : a.r.length ≤ 1000000000000000 := ha.2
  have lb : b.r.length ≤ 1000000000000000 := hb.2
  have hVV : V = (w.alloc (.cells #[.int .u8 a.k, .int .i64 a.n, a.vs] 25)).alloc (.cells #[.int .u8 b.k, .int .i64 b.n, b.vs] 25) := by rw [hV, h0]
  clear h0 hV b0 b1 s0 bV n0 n1 ha hb fa fb ht
  obtain ⟨ak, an, av, ar⟩ := a
  obtain ⟨bk, bn, bv, br⟩ := b
  simp only at hva hvb
  subst hva hvb
  simp only [VA.val] at hVV HC HBN HU1 HU2 HT1 HT2 ⊢
  simp only at la lb
  go_enter Tryd.func7, Tryd.ntmps7
  go_wp2_with fail
  rw [← hVV]
  clear hVV
  refine Calls.mono (HW.out _ (Below.refl _ _)) ?_
  rintro e w1 ⟨rfl, hb⟩
  have H1 : Hid (Below V.heap.size V w1) := hb
  obtain ⟨c0, c1, c2, d0, d1, d2⟩ := HC.out _ hb
  clear hb
  by_cases hlong : ar.length > 1025 ∨ br.length > 1025 ∨ s.size > 100
  · go_wp2
    all_goals go_ret
    all_goals exact ⟨rfl, below_then HBV.out H1.out⟩
  · have g1 : ar.length ≤ 1025 := by omega
    have g2 : br.length ≤ 1025 := by omega
    have g3 : s.size ≤ 100 := by omega
    clear hlong
    obtain ⟨z, hz⟩ : ∃ z, z = Vl.bin s.data.toList ⟨ak, an, ar⟩ ⟨bk, bn, br⟩ := ⟨_, rfl⟩
    have HBS : Hid (∀ W, Below V.heap.size V W → Calls Tryd.prog 23 #[.string s, vV ak an (.slice sa ar.length ca), vV bk bn (.slice sb br.length cb)] W fun e w' => e = .returned (.tuple #[vV z.k z.n nilV, .int .i64 z.e]) ∧ Below W.heap.size W w') := fun W hW => by
      have h := HBN.out s.data.toList (by rw [Array.length_toList]; show s.size ≤ _; omega) W hW
      rw [Ln.bs_of] at h
      rw [hz]; exact h
    have HZ : Hid ((z.e = 0 → Vl.right ⟨z.k, z.n, []⟩ = true ∧ Vl.right ⟨ak, an, ar⟩ = true ∧ Vl.right ⟨bk, bn, br⟩ = true) ∧ (z.e ≠ 0 → z.k = 0 ∧ z.n = 0)) := by
      show _ ∧ _
      have hw := @Vl.bin_wrong s.data.toList ⟨ak, an, ar⟩ ⟨bk, bn, br⟩
      rw [← hz] at hw
      rcases Vl.bin_kinds s.data.toList ⟨ak, an, ar⟩ ⟨bk, bn, br⟩ with ⟨n, h⟩ | ⟨x, h⟩ | ⟨e, he, h⟩ <;> rw [← hz] at h <;> rw [h] at hw ⊢
      · exact ⟨fun _ => ⟨by simp [Vl.right, Res.k], by cases h1 : Vl.right ⟨ak, an, ar⟩ with | true => rfl | false => exact absurd (hw (.inl h1)) (by simp), by cases h1 : Vl.right ⟨bk, bn, br⟩ with | true => rfl | false => exact absurd (hw (.inr h1)) (by simp)⟩, fun h => absurd rfl h⟩
      · exact ⟨fun _ => ⟨by cases x <;> simp [Vl.right, Res.k, Res.n, Vl.one], by cases h1 : Vl.right ⟨ak, an, ar⟩ with | true => rfl | false => exact absurd (hw (.inl h1)) (by simp), by cases h1 : Vl.right ⟨bk, bn, br⟩ with | true => rfl | false => exact absurd (hw (.inr h1)) (by simp)⟩, fun h => absurd rfl h⟩
      · exact ⟨fun h => absurd h he, fun _ => ⟨rfl, rfl⟩⟩
    obtain ⟨zk, zn, ze, hk⟩ : ∃ k n e, k = z.k ∧ n = z.n ∧ e = z.e := ⟨_, _, _, rfl, rfl, rfl⟩
    obtain ⟨hk1, hk2, hk3⟩ := hk
    rw [← hk1, ← hk2, ← hk3] at HBS HZ
    clear hz hk1 hk2 hk3
    go_wp2_with fail
    clear c0 c1 c2 d0 d1 d2
    refine Calls.mono (HBS.out _ H1.out) ?_
    rintro e w2 ⟨rfl, hb⟩
    have H2 : Hid (Below V.heap.size V w2) := below_then H1.out hb
    clear hb
    obtain ⟨X0, hX⟩ : ∃ X, X = w2.alloc (.cells #[.int .u8 zk, .int .i64 zn, .slice none 0 0] 25) := ⟨_, rfl⟩
    have hbx : Below w2.heap.size w2 X0 := hX ▸ below_new _ _
    have D0 : Hid (Below V.heap.size V X0) := below_then H2.out hbx
    have B0 : Hid (∀ W, Below X0.heap.size X0 W → W.cell? ⟨w2.heap.size, 0, none⟩ = some (.int .u8 zk) ∧ W.cell? ⟨w2.heap.size, 1, none⟩ = some (.int .i64 zn) ∧ W.cell? ⟨w2.heap.size, 2, none⟩ = some (.slice none 0 0)) := by
      have hn : X0.heap[w2.heap.size]? = some (.cells #[.int .u8 zk, .int .i64 zn, .slice none 0 0] 25 (0, 0)) := by rw [hX]; exact World.alloc_heap_new _ _
      exact fun W hW => ⟨cell_some_below (vcells_at hn rfl) hW, cell_some_below (vcells_at hn rfl) hW, cell_some_below (vcells_at hn rfl) hW⟩
    have T0_2 : Hid (Below X0.heap.size X0 X0) := Below.refl _ _
    clear hbx
    by_cases he : ze = 0
    · subst he
      obtain ⟨hr1, ra, rb⟩ := HZ.out.1 rfl
      have HR1 : Hid (_) := hr1
      clear hr1 HZ HBS
      have FA : Hid (∀ W, Calls Tryd.prog 11 #[vV ak an (.slice sa ar.length ca)] W fun e w' => e = .returned (.bool true) ∧ Below W.heap.size W w') := fun W => by have h := right_any ak an sa ar ca la W; rw [ra] at h; exact h
      have FB : Hid (∀ W, Calls Tryd.prog 11 #[vV bk bn (.slice sb br.length cb)] W fun e w' => e = .returned (.bool true) ∧ Below W.heap.size W w') := fun W => by have h := right_any bk bn sb br cb lb W; rw [rb] at h; exact h
      obtain ⟨S, hS⟩ : ∃ S, S = Vl.same ⟨ak, an, ar⟩ ⟨bk, bn, br⟩ := ⟨_, rfl⟩
      have FE : Hid (∀ W, Below V.heap.size V W → Calls Tryd.prog 23 #[.string (Ln.bs [61, 61]), vV ak an (.slice sa ar.length ca), vV bk bn (.slice sb br.length cb)] W fun e w' => e = .returned (.tuple #[vV 2 (Vl.one S) nilV, .int .i64 0]) ∧ Below W.heap.size W w') := fun W hW => by
        have h := HBN.out [61, 61] (by simp) W hW
        have e : Vl.bin [61, 61] (VA.v ⟨ak, an, .slice sa ar.length ca, ar⟩) (VA.v ⟨bk, bn, .slice sb br.length cb, br⟩) = .bool S := by rw [hS]; exact Vl.bin_eq ra rb
        rw [e] at h; exact h
      have FN : Hid (∀ W, Below V.heap.size V W → Calls Tryd.prog 23 #[.string (Ln.bs [33, 61]), vV ak an (.slice sa ar.length ca), vV bk bn (.slice sb br.length cb)] W fun e w' => e = .returned (.tuple #[vV 2 (Vl.one (!S)) nilV, .int .i64 0]) ∧ Below W.heap.size W w') := fun W hW => by
        have h := HBN.out [33, 61] (by simp) W hW
        have e : Vl.bin [33, 61] (VA.v ⟨ak, an, .slice sa ar.length ca, ar⟩) (VA.v ⟨bk, bn, .slice sb br.length cb, br⟩) = .bool (!S) := by rw [hS]; exact Vl.bin_ne ra rb
        rw [e] at h; exact h
      have HSS : Hid (decide (Vl.text ⟨ak, an, ar⟩ = Vl.text ⟨bk, bn, br⟩) = S) := (Vl.same_text ra rb).trans hS.symm
      obtain ⟨TA, hTA⟩ : ∃ T, T = Ln.bs (Vl.text ⟨ak, an, ar⟩) := ⟨_, rfl⟩
      obtain ⟨TB, hTB⟩ : ∃ T, T = Ln.bs (Vl.text ⟨bk, bn, br⟩) := ⟨_, rfl⟩
      have HXA : Hid (∀ W rb, Below V.heap.size V W → W.heap[rb]? = some (.cells #[.int .u8 ak, .int .i64 an, .slice sa ar.length ca] 25 (0, 0)) → Calls Tryd.prog 15 #[.slice (some ⟨rb, 0, none⟩) 1 1] W fun e w' => e = .returned (.string TA) ∧ Below W.heap.size W w') := fun W rb hW hr => by rw [hTA]; exact HT1.out W rb hW hr
      have HXB : Hid (∀ W rb, Below V.heap.size V W → W.heap[rb]? = some (.cells #[.int .u8 bk, .int .i64 bn, .slice sb br.length cb] 25 (0, 0)) → Calls Tryd.prog 15 #[.slice (some ⟨rb, 0, none⟩) 1 1] W fun e w' => e = .returned (.string TB) ∧ Below W.heap.size W w') := fun W rb hW hr => by rw [hTB]; exact HT2.out W rb hW hr
      have HQ3 : Hid ((TA.toList == TB.toList) = S ∧ decide (TA = TB) = S) := by
        have h5 : decide (TA = TB) = S := by rw [← HSS.out, hTA, hTB, Bool.eq_iff_iff]; simp only [decide_eq_true_eq]; exact ⟨fun h => by have := congrArg (fun z : ByteArray => z.data.toList) h; exact this, fun h => by rw [h]⟩
        have h4 : (TA.toList == TB.toList) = S := by rw [← HSS.out, hTA, hTB]; exact bs_beq _ _
        exact ⟨h4, h5⟩
      clear hTA hTB
      have HRA : Hid (_) := ra
      have HRB : Hid (_) := rb
      clear hS ra rb
      obtain ⟨c0, c1, c2, d0, d1, d2⟩ := HC.out _ D0.out
      obtain ⟨p0a, p0b, p0c⟩ := B0.out _ T0_2.out
      rw [hX] at c0 c1 c2 d0 d1 d2 p0a p0b p0c
      go_wp2_with fail
      rw [← hX]
      clear hX c0 c1 c2 d0 d1 d2 p0a p0b p0c
      refine Calls.mono (right0_any zk zn true HR1.out _) ?_
      rintro e w3 ⟨rfl, hb⟩
      have H3 : Hid (Below V.heap.size V w3) := below_then D0.out hb
      have T0_3 : Hid (Below X0.heap.size X0 w3) := below_then T0_2.out hb
      clear hb
      obtain ⟨c0, c1, c2, d0, d1, d2⟩ := HC.out _ H3.out
      obtain ⟨p0a, p0b, p0c⟩ := B0.out _ T0_3.out
      go_wp2_with fail
      clear c0 c1 c2 d0 d1 d2 p0a p0b p0c
      refine Calls.mono (FA.out _) ?_
      rintro e w4 ⟨rfl, hb⟩
      have H4 : Hid (Below V.heap.size V w4) := below_then H3.out hb
      have T0_4 : Hid (Below X0.heap.size X0 w4) := below_then T0_3.out hb
      clear hb
      obtain ⟨c0, c1, c2, d0, d1, d2⟩ := HC.out _ H4.out
      go_wp2_with fail
      clear c0 c1 c2 d0 d1 d2
      refine Calls.mono (FB.out _) ?_
      rintro e w5 ⟨rfl, hb⟩
      have H5 : Hid (Below V.heap.size V w5) := below_then H4.out hb
      have T0_5 : Hid (Below X0.heap.size X0 w5) := below_then T0_4.out hb
      clear hb
      obtain ⟨c0, c1, c2, d0, d1, d2⟩ := HC.out _ H5.out
      go_wp2_with fail
      clear c0 c1 c2 d0 d1 d2
      refine Calls.mono (FE.out _ H5.out) ?_
      rintro e w6 ⟨rfl, hb⟩
      have H6 : Hid (Below V.heap.size V w6) := below_then H5.out hb
      have T0_6 : Hid (Below X0.heap.size X0 w6) := below_then T0_5.out hb
      clear hb
      obtain ⟨X1, hX⟩ : ∃ X, X = w6.alloc (.cells #[.int .u8 2, .int .i64 (Vl.one S), .slice none 0 0] 25) := ⟨_, rfl⟩
      have hbx : Below w6.heap.size w6 X1 := hX ▸ below_new _ _
      have D1 : Hid (Below V.heap.size V X1) := below_then H6.out hbx
      have B1 : Hid (∀ W, Below X1.heap.size X1 W → W.cell? ⟨w6.heap.size, 0, none⟩ = some (.int .u8 2) ∧ W.cell? ⟨w6.heap.size, 1, none⟩ = some (.int .i64 (Vl.one S)) ∧ W.cell? ⟨w6.heap.size, 2, none⟩ = some (.slice none 0 0)) := by
        have hn : X1.heap[w6.heap.size]? = some (.cells #[.int .u8 2, .int .i64 (Vl.one S), .slice none 0 0] 25 (0, 0)) := by rw [hX]; exact World.alloc_heap_new _ _
        exact fun W hW => ⟨cell_some_below (vcells_at hn rfl) hW, cell_some_below (vcells_at hn rfl) hW, cell_some_below (vcells_at hn rfl) hW⟩
      have T0_x1 : Hid (Below X0.heap.size X0 X1) := below_then T0_6.out hbx
      have T1_6 : Hid (Below X1.heap.size X1 X1) := Below.refl _ _
      clear hbx
      obtain ⟨c0, c1, c2, d0, d1, d2⟩ := HC.out _ D1.out
      rw [hX] at c0 c1 c2 d0 d1 d2
      go_wp2_with fail
      rw [← hX]
      clear hX c0 c1 c2 d0 d1 d2
      refine Calls.mono (FN.out _ D1.out) ?_
      rintro e w7 ⟨rfl, hb⟩
      have H7 : Hid (Below V.heap.size V w7) := below_then D1.out hb
      have T0_7 : Hid (Below X0.heap.size X0 w7) := below_then T0_x1.out hb
      have T1_7 : Hid (Below X1.heap.size X1 w7) := below_then T1_6.out hb
      clear hb
      obtain ⟨X2, hX⟩ : ∃ X, X = w7.alloc (.cells #[.int .u8 2, .int .i64 (Vl.one (!S)), .slice none 0 0] 25) := ⟨_, rfl⟩
      have hbx : Below w7.heap.size w7 X2 := hX ▸ below_new _ _
      have D2 : Hid (Below V.heap.size V X2) := below_then H7.out hbx
      have B2 : Hid (∀ W, Below X2.heap.size X2 W → W.cell? ⟨w7.heap.size, 0, none⟩ = some (.int .u8 2) ∧ W.cell? ⟨w7.heap.size, 1, none⟩ = some (.int .i64 (Vl.one (!S))) ∧ W.cell? ⟨w7.heap.size, 2, none⟩ = some (.slice none 0 0)) := by
        have hn : X2.heap[w7.heap.size]? = some (.cells #[.int .u8 2, .int .i64 (Vl.one (!S)), .slice none 0 0] 25 (0, 0)) := by rw [hX]; exact World.alloc_heap_new _ _
        exact fun W hW => ⟨cell_some_below (vcells_at hn rfl) hW, cell_some_below (vcells_at hn rfl) hW, cell_some_below (vcells_at hn rfl) hW⟩
      have T0_x2 : Hid (Below X0.heap.size X0 X2) := below_then T0_7.out hbx
      have T1_x2 : Hid (Below X1.heap.size X1 X2) := below_then T1_7.out hbx
      have T2_7 : Hid (Below X2.heap.size X2 X2) := Below.refl _ _
      clear hbx
      have HCL : Hid (∀ W, Below X2.heap.size X2 W → (W.cell? ⟨w.heap.size, 0, none⟩ = some (.int .u8 ak) ∧ W.cell? ⟨w.heap.size, 1, none⟩ = some (.int .i64 an) ∧ W.cell? ⟨w.heap.size, 2, none⟩ = some (.slice sa ar.length ca) ∧ W.cell? ⟨w.heap.size + 1, 0, none⟩ = some (.int .u8 bk) ∧ W.cell? ⟨w.heap.size + 1, 1, none⟩ = some (.int .i64 bn) ∧ W.cell? ⟨w.heap.size + 1, 2, none⟩ = some (.slice sb br.length cb)) ∧ W.cell? ⟨w6.heap.size, 1, none⟩ = some (.int .i64 (Vl.one S)) ∧ W.cell? ⟨w7.heap.size, 1, none⟩ = some (.int .i64 (Vl.one (!S)))) := fun W hW => ⟨HC.out W (below_then D2.out hW), (B1.out W (below_then T1_x2.out hW)).2.1, (B2.out W hW).2.1⟩
      have HTA : Hid (∀ W rb, Below X2.heap.size X2 W → W.heap[rb]? = some (.cells #[.int .u8 ak, .int .i64 an, .slice sa ar.length ca] 25 (0, 0)) → Calls Tryd.prog 15 #[.slice (some ⟨rb, 0, none⟩) 1 1] W fun e w' => e = .returned (.string TA) ∧ Below W.heap.size W w') := fun W rb hW hr => HXA.out W rb (below_then D2.out hW) hr
      have HTB : Hid (∀ W rb, Below X2.heap.size X2 W → W.heap[rb]? = some (.cells #[.int .u8 bk, .int .i64 bn, .slice sb br.length cb] 25 (0, 0)) → Calls Tryd.prog 15 #[.slice (some ⟨rb, 0, none⟩) 1 1] W fun e w' => e = .returned (.string TB) ∧ Below W.heap.size W w') := fun W rb hW hr => HXB.out W rb (below_then D2.out hW) hr
      have q0 : wrap64 (Vl.one S + Vl.one (!S)) = 1 := by cases S <;> simp [Vl.one, wrap64]
      have q6 : IntKind.i64.wrap (Vl.one S + Vl.one (!S)) = 1 := by cases S <;> rfl
      have q1 : (wrap64 (Vl.one S + Vl.one (!S)) != 1) = false := by cases S <;> simp [Vl.one, wrap64]
      have q2 : (Vl.one S == 1) = S := by cases S <;> rfl
      have q4 : (TA.toList == TB.toList) = S := HQ3.out.1
      have q5 : decide (TA = TB) = S := HQ3.out.2
      obtain ⟨c0, c1, c2, d0, d1, d2⟩ := HC.out _ D2.out
      obtain ⟨p1a, p1b, p1c⟩ := B1.out _ T1_x2.out
      obtain ⟨p2a, p2b, p2c⟩ := B2.out _ T2_7.out
      rw [hX] at c0 c1 c2 d0 d1 d2 p1a p1b p1c p2a p2b p2c
      go_wp2_with fail
      rw [← hX]
      clear hX c0 c1 c2 d0 d1 d2 p1a p1b p1c p2a p2b p2c
      refine (wpIn_wide (n := 3)).1 ?_
      have h00 : Below X2.heap.size X2 X2.drew := below_draw X2 1
      refine region_lex (fun z => Below X2.heap.size X2 z) 19 8 rfl (by kernel_rfl) (by kernel_rfl) (by kernel_rfl) (by kernel_rfl) (fun _ _ d _ _ h => by cases d <;> exact h) h00 ?_
      simp only [List.take_succ_cons, List.take_zero]
      iterate 12 (first
        | (apply lexC_want
           · rfl
           · exact fun _ => rfl
           · (intro w' hw'; obtain ⟨⟨c0, c1, c2, d0, d1, d2⟩, p0, p1⟩ := HCL.out w' hw'; go_simp; try rfl)
           simp only [Act.put, List.setIfInBounds_toArray, List.set_cons_zero, List.set_cons_succ])
        | (apply lexC_skip
           · rfl
           · exact fun _ => rfl
           simp only [Act.put, List.setIfInBounds_toArray, List.set_cons_zero, List.set_cons_succ]))
      refine lexC_want (v := .bool false) rfl (fun _ => rfl) (by intro w' hw'; obtain ⟨⟨c0, c1, c2, d0, d1, d2⟩, p0, p1⟩ := HCL.out w' hw'; go_simp; first | done | rfl | simp [q1] | simp [q0] | exact q6 | simp [q6]) ?_
      simp only [Act.put, List.setIfInBounds_toArray, List.set_cons_zero, List.set_cons_succ]
      iterate 6 (first
        | (apply lexC_want
           · rfl
           · exact fun _ => rfl
           · (intro w' hw'; obtain ⟨⟨c0, c1, c2, d0, d1, d2⟩, p0, p1⟩ := HCL.out w' hw'; go_simp; try rfl)
           simp only [Act.put, List.setIfInBounds_toArray, List.set_cons_zero, List.set_cons_succ])
        | (apply lexC_skip
           · rfl
           · exact fun _ => rfl
           simp only [Act.put, List.setIfInBounds_toArray, List.set_cons_zero, List.set_cons_succ]))
      refine lexC_nil ?_
      refine anyC_take (i := 21) (v := .agg #[.int .u8 bk, .int .i64 bn, .slice sb br.length cb]) rfl rfl (by kernel_rfl) (by kernel_rfl) (by kernel_rfl) (fun _ _ d _ _ h => by cases d <;> exact h) h00 (by rfl) (fun _ => rfl) (by intro w' hw'; obtain ⟨⟨c0, c1, c2, d0, d1, d2⟩, p0, p1⟩ := HCL.out w' hw'; go_simp; try rfl) ?_
      obtain ⟨Y0, hY0⟩ : ∃ W, W = X2.drew := ⟨_, rfl⟩
      have G0 : Hid (Below X2.heap.size X2 Y0) := hY0 ▸ h00
      rw [← hY0]
      clear hY0 h00
      refine anyC_two (i := 19) (j := 22) (by kernel_rfl) rfl rfl (by rfl) (by rfl) (fun KA hKA => ?_) (fun KA hKA => ?_)
      · skip
        obtain ⟨Y1, hY⟩ : ∃ Y, Y = Y0.alloc (.cells #[.int .u8 ak, .int .i64 an, .slice sa ar.length ca] 25) := ⟨_, rfl⟩
        have hbY : Below Y0.heap.size Y0 Y1 := hY ▸ below_new Y0 _
        have RA : Hid (Y1.heap[Y0.heap.size]? = some (.cells #[.int .u8 ak, .int .i64 an, .slice sa ar.length ca] 25 (0, 0))) := (show _ from by rw [hY]; exact World.alloc_heap_new Y0 _)
        have G1 : Hid (Below X2.heap.size X2 Y1) := below_then G0.out hbY
        clear hbY
        go_simp
        rw [← hY]
        clear hY
        refine hKA _ _ G1.out ?_
        refine anyC_two (i := 20) (j := 22) (by kernel_rfl) rfl rfl (by rfl) (by rfl) (fun KB hKB => ?_) (fun KB hKB => ?_)
        · skip
          go_simp
          refine ⟨trivial, ?_⟩
          refine (callsIn_wide.2 (HTA.out _ _ G1.out RA.out)).mono ?_
          rintro e Y2 ⟨rfl, hb⟩
          have G2 : Hid (Below X2.heap.size X2 Y2) := below_then G1.out hb
          clear RA
          clear hb
          refine hKB _ _ G2.out ?_
          refine anyC_one (i := 22) (by kernel_rfl) rfl (by rfl) (fun KC hKC => ?_)
          obtain ⟨Y3, hY⟩ : ∃ Y, Y = Y2.alloc (.cells #[.int .u8 bk, .int .i64 bn, .slice sb br.length cb] 25) := ⟨_, rfl⟩
          have hbY : Below Y2.heap.size Y2 Y3 := hY ▸ below_new Y2 _
          have RB : Hid (Y3.heap[Y2.heap.size]? = some (.cells #[.int .u8 bk, .int .i64 bn, .slice sb br.length cb] 25 (0, 0))) := (show _ from by rw [hY]; exact World.alloc_heap_new Y2 _)
          have G3 : Hid (Below X2.heap.size X2 Y3) := below_then G2.out hbY
          clear hbY
          go_simp
          rw [← hY]
          clear hY
          refine hKC _ _ G3.out ?_
          refine anyC_one (i := 23) (by kernel_rfl) rfl (by rfl) (fun KD hKD => ?_)
          go_simp
          refine ⟨trivial, ?_⟩
          refine (callsIn_wide.2 (HTB.out _ _ G3.out RB.out)).mono ?_
          rintro e Y4 ⟨rfl, hb⟩
          have G4 : Hid (Below X2.heap.size X2 Y4) := below_then G3.out hb
          clear RB
          clear hb
          refine hKD _ _ G4.out ?_
          refine anyC_take (i := 24) (v := .bool S) rfl rfl (by kernel_rfl) (by kernel_rfl) (by kernel_rfl) (fun _ _ d _ _ h => by cases d <;> exact h) G4.out (by rfl) (fun _ => rfl) (by intro w' hw'; go_simp; first | done | rfl | simp [q4] | simp [q5]) ?_
          refine anyC_take (i := 25) (v := .bool false) rfl rfl (by kernel_rfl) (by kernel_rfl) (by kernel_rfl) (fun _ _ d _ _ h => by cases d <;> exact h) G4.out (by rfl) (fun _ => rfl) (by intro w' hw'; go_simp; first | done | rfl | simp [q2] | simp) ?_
          refine anyC_take (i := 26) (v := .bool false) rfl rfl (by kernel_rfl) (by kernel_rfl) (by kernel_rfl) (fun _ _ d _ _ h => by cases d <;> exact h) G4.out (by rfl) (fun _ => rfl) (by intro w' hw'; go_simp; try rfl) ?_
          refine anyC_done (by kernel_rfl) ?_
          have L0 : Hid (Below V.heap.size V Y4) := below_then D2.out G4.out
          clear q0 q1 q2 q4 q5 q6
          by_cases hka : ak = 2
          · by_cases hkb : bk = 2
            · skip
              have ra := HRA.out
              have rb := HRB.out
              obtain ⟨P, hP⟩ : ∃ P, P = (decide (an = 1) || decide (bn = 1)) := ⟨_, rfl⟩
              obtain ⟨p, hp⟩ : ∃ P, P = decide (an = 0) := ⟨_, rfl⟩
              obtain ⟨q, hq⟩ : ∃ P, P = decide (bn = 0) := ⟨_, rfl⟩
              have hpq : (p && q) = !P := by
                rcases Vl.right_cases ra with ⟨k, _⟩ | ⟨_, na, _⟩ | ⟨k, _⟩
                · simp only at k; omega
                · rcases Vl.right_cases rb with ⟨k, _⟩ | ⟨_, nb, _⟩ | ⟨k, _⟩
                  · simp only at k; omega
                  · simp only at na nb; rw [hp, hq, hP]; rcases na with na | na <;> rcases nb with nb | nb <;> rw [na, nb] <;> rfl
                  · simp only at k; omega
                · simp only at k; omega
              have FO : Hid (∀ W, Below V.heap.size V W → Calls Tryd.prog 23 #[.string (Ln.bs [124, 124]), vV ak an (.slice sa ar.length ca), vV bk bn (.slice sb br.length cb)] W fun e w' => e = .returned (.tuple #[vV 2 (Vl.one P) nilV, .int .i64 0]) ∧ Below W.heap.size W w') := fun W hW => by
                have h := HBN.out [124, 124] (by simp) W hW
                have e : Vl.bin [124, 124] (VA.v ⟨ak, an, .slice sa ar.length ca, ar⟩) (VA.v ⟨bk, bn, .slice sb br.length cb, br⟩) = .bool P := by rw [hP]; exact Vl.bin_or ra rb hka hkb
                rw [e] at h; exact h
              have FP : Hid (∀ W, Below V.heap.size V W → Calls Tryd.prog 22 #[.string (Ln.bs [33]), vV ak an (.slice sa ar.length ca)] W fun e w' => e = .returned (.tuple #[vV 2 (Vl.one p) nilV, .int .i64 0]) ∧ Below W.heap.size W w') := fun W hW => by
                have h := HU1.out W hW
                have e : Vl.un [33] (VA.v ⟨ak, an, .slice sa ar.length ca, ar⟩) = .bool p := by rw [hp]; exact Vl.un_not ra hka
                rw [e] at h; exact h
              have FQ : Hid (∀ W, Below V.heap.size V W → Calls Tryd.prog 22 #[.string (Ln.bs [33]), vV bk bn (.slice sb br.length cb)] W fun e w' => e = .returned (.tuple #[vV 2 (Vl.one q) nilV, .int .i64 0]) ∧ Below W.heap.size W w') := fun W hW => by
                have h := HU2.out W hW
                have e : Vl.un [33] (VA.v ⟨bk, bn, .slice sb br.length cb, br⟩) = .bool q := by rw [hq]; exact Vl.un_not rb hkb
                rw [e] at h; exact h
              have FD : Hid (∀ W, Calls Tryd.prog 23 #[.string (Ln.bs [38, 38]), vV 2 (Vl.one p) nilV, vV 2 (Vl.one q) nilV] W fun e w' => e = .returned (.tuple #[vV 2 (Vl.one (!P)) nilV, .int .i64 0]) ∧ Below W.heap.size W w') := fun W => by
                have hl : ∀ k n : Int, (⟨k, n, nilV, []⟩ : VA).Low W.heap.size W := fun k n => ⟨⟨none, 0, 0, 0, rfl, ⟨Nat.le_refl _, fun _ => rfl⟩, fun h => absurd h (by simp), fun j x hx => by simp at hx⟩, by simp⟩
                have h := binary_any [38, 38] (by simp) ⟨2, Vl.one p, nilV, []⟩ ⟨2, Vl.one q, nilV, []⟩ W (hl _ _) (hl _ _)
                have hr : ∀ x : Bool, Vl.right ⟨2, Vl.one x, []⟩ = true := fun x => by cases x <;> simp [Vl.right, Vl.one]
                have e : Vl.bin [38, 38] (VA.v ⟨2, Vl.one p, nilV, []⟩) (VA.v ⟨2, Vl.one q, nilV, []⟩) = .bool (!P) := by rw [← hpq]; refine (Vl.bin_and (hr p) (hr q) rfl rfl).trans ?_; cases p <;> cases q <;> rfl
                rw [e] at h; exact h
              have q7 : (IntKind.i64.wrap (Vl.one P + Vl.one (!P)) == 1) = true := by cases P <;> rfl
              have q8 : IntKind.i64.wrap (Vl.one P + Vl.one (!P)) = 1 := by cases P <;> rfl
              have q9 : wrap64 (Vl.one P + Vl.one (!P)) = 1 := by cases P <;> simp [Vl.one, wrap64]
              have HQ9 : Hid (_ ∧ _ ∧ _) := ⟨q7, q8, q9⟩
              have k1 : (ak != 2) = false := by simp [hka]
              have k2 : (bk != 2) = false := by simp [hkb]
              clear ra rb hP hp hq hpq q7 q8 q9 hka hkb
              obtain ⟨c0, c1, c2, d0, d1, d2⟩ := HC.out _ L0.out
              go_wp2_with fail
              clear c0 c1 c2 d0 d1 d2
              refine Calls.mono (FO.out _ L0.out) ?_
              rintro e w8 ⟨rfl, hb⟩
              have H8 : Hid (Below V.heap.size V w8) := below_then L0.out hb
              clear hb
              obtain ⟨X0, hX⟩ : ∃ X, X = w8.alloc (.cells #[.int .u8 2, .int .i64 (Vl.one P), .slice none 0 0] 25) := ⟨_, rfl⟩
              have hbx : Below w8.heap.size w8 X0 := hX ▸ below_new _ _
              have D0 : Hid (Below V.heap.size V X0) := below_then H8.out hbx
              have B0 : Hid (∀ W, Below X0.heap.size X0 W → W.cell? ⟨w8.heap.size, 0, none⟩ = some (.int .u8 2) ∧ W.cell? ⟨w8.heap.size, 1, none⟩ = some (.int .i64 (Vl.one P)) ∧ W.cell? ⟨w8.heap.size, 2, none⟩ = some (.slice none 0 0)) := by
                have hn : X0.heap[w8.heap.size]? = some (.cells #[.int .u8 2, .int .i64 (Vl.one P), .slice none 0 0] 25 (0, 0)) := by rw [hX]; exact World.alloc_heap_new _ _
                exact fun W hW => ⟨cell_some_below (vcells_at hn rfl) hW, cell_some_below (vcells_at hn rfl) hW, cell_some_below (vcells_at hn rfl) hW⟩
              have T0_8 : Hid (Below X0.heap.size X0 X0) := Below.refl _ _
              clear hbx
              obtain ⟨c0, c1, c2, d0, d1, d2⟩ := HC.out _ D0.out
              rw [hX] at c0 c1 c2 d0 d1 d2
              go_wp2_with fail
              rw [← hX]
              clear hX c0 c1 c2 d0 d1 d2
              refine Calls.mono (FP.out _ D0.out) ?_
              rintro e w9 ⟨rfl, hb⟩
              have H9 : Hid (Below V.heap.size V w9) := below_then D0.out hb
              have T0_9 : Hid (Below X0.heap.size X0 w9) := below_then T0_8.out hb
              clear hb
              obtain ⟨X1, hX⟩ : ∃ X, X = w9.alloc (.cells #[.int .u8 2, .int .i64 (Vl.one p), .slice none 0 0] 25) := ⟨_, rfl⟩
              have hbx : Below w9.heap.size w9 X1 := hX ▸ below_new _ _
              have D1 : Hid (Below V.heap.size V X1) := below_then H9.out hbx
              have B1 : Hid (∀ W, Below X1.heap.size X1 W → W.cell? ⟨w9.heap.size, 0, none⟩ = some (.int .u8 2) ∧ W.cell? ⟨w9.heap.size, 1, none⟩ = some (.int .i64 (Vl.one p)) ∧ W.cell? ⟨w9.heap.size, 2, none⟩ = some (.slice none 0 0)) := by
                have hn : X1.heap[w9.heap.size]? = some (.cells #[.int .u8 2, .int .i64 (Vl.one p), .slice none 0 0] 25 (0, 0)) := by rw [hX]; exact World.alloc_heap_new _ _
                exact fun W hW => ⟨cell_some_below (vcells_at hn rfl) hW, cell_some_below (vcells_at hn rfl) hW, cell_some_below (vcells_at hn rfl) hW⟩
              have T0_x1 : Hid (Below X0.heap.size X0 X1) := below_then T0_9.out hbx
              have T1_9 : Hid (Below X1.heap.size X1 X1) := Below.refl _ _
              clear hbx
              obtain ⟨c0, c1, c2, d0, d1, d2⟩ := HC.out _ D1.out
              rw [hX] at c0 c1 c2 d0 d1 d2
              go_wp2_with fail
              rw [← hX]
              clear hX c0 c1 c2 d0 d1 d2
              refine Calls.mono (FQ.out _ D1.out) ?_
              rintro e w10 ⟨rfl, hb⟩
              have H10 : Hid (Below V.heap.size V w10) := below_then D1.out hb
              have T0_10 : Hid (Below X0.heap.size X0 w10) := below_then T0_x1.out hb
              have T1_10 : Hid (Below X1.heap.size X1 w10) := below_then T1_9.out hb
              clear hb
              obtain ⟨X2, hX⟩ : ∃ X, X = w10.alloc (.cells #[.int .u8 2, .int .i64 (Vl.one q), .slice none 0 0] 25) := ⟨_, rfl⟩
              have hbx : Below w10.heap.size w10 X2 := hX ▸ below_new _ _
              have D2 : Hid (Below V.heap.size V X2) := below_then H10.out hbx
              have B2 : Hid (∀ W, Below X2.heap.size X2 W → W.cell? ⟨w10.heap.size, 0, none⟩ = some (.int .u8 2) ∧ W.cell? ⟨w10.heap.size, 1, none⟩ = some (.int .i64 (Vl.one q)) ∧ W.cell? ⟨w10.heap.size, 2, none⟩ = some (.slice none 0 0)) := by
                have hn : X2.heap[w10.heap.size]? = some (.cells #[.int .u8 2, .int .i64 (Vl.one q), .slice none 0 0] 25 (0, 0)) := by rw [hX]; exact World.alloc_heap_new _ _
                exact fun W hW => ⟨cell_some_below (vcells_at hn rfl) hW, cell_some_below (vcells_at hn rfl) hW, cell_some_below (vcells_at hn rfl) hW⟩
              have T0_x2 : Hid (Below X0.heap.size X0 X2) := below_then T0_10.out hbx
              have T1_x2 : Hid (Below X1.heap.size X1 X2) := below_then T1_10.out hbx
              have T2_10 : Hid (Below X2.heap.size X2 X2) := Below.refl _ _
              clear hbx
              obtain ⟨c0, c1, c2, d0, d1, d2⟩ := HC.out _ D2.out
              obtain ⟨p1a, p1b, p1c⟩ := B1.out _ T1_x2.out
              obtain ⟨p2a, p2b, p2c⟩ := B2.out _ T2_10.out
              rw [hX] at c0 c1 c2 d0 d1 d2 p1a p1b p1c p2a p2b p2c
              go_wp2_with fail
              rw [← hX]
              clear hX c0 c1 c2 d0 d1 d2 p1a p1b p1c p2a p2b p2c
              refine Calls.mono (FD.out _) ?_
              rintro e w11 ⟨rfl, hb⟩
              have H11 : Hid (Below V.heap.size V w11) := below_then D2.out hb
              have T0_11 : Hid (Below X0.heap.size X0 w11) := below_then T0_x2.out hb
              have T1_11 : Hid (Below X1.heap.size X1 w11) := below_then T1_x2.out hb
              have T2_11 : Hid (Below X2.heap.size X2 w11) := below_then T2_10.out hb
              clear hb
              obtain ⟨X3, hX⟩ : ∃ X, X = w11.alloc (.cells #[.int .u8 2, .int .i64 (Vl.one (!P)), .slice none 0 0] 25) := ⟨_, rfl⟩
              have hbx : Below w11.heap.size w11 X3 := hX ▸ below_new _ _
              have D3 : Hid (Below V.heap.size V X3) := below_then H11.out hbx
              have B3 : Hid (∀ W, Below X3.heap.size X3 W → W.cell? ⟨w11.heap.size, 0, none⟩ = some (.int .u8 2) ∧ W.cell? ⟨w11.heap.size, 1, none⟩ = some (.int .i64 (Vl.one (!P))) ∧ W.cell? ⟨w11.heap.size, 2, none⟩ = some (.slice none 0 0)) := by
                have hn : X3.heap[w11.heap.size]? = some (.cells #[.int .u8 2, .int .i64 (Vl.one (!P)), .slice none 0 0] 25 (0, 0)) := by rw [hX]; exact World.alloc_heap_new _ _
                exact fun W hW => ⟨cell_some_below (vcells_at hn rfl) hW, cell_some_below (vcells_at hn rfl) hW, cell_some_below (vcells_at hn rfl) hW⟩
              have T0_x3 : Hid (Below X0.heap.size X0 X3) := below_then T0_11.out hbx
              have T1_x3 : Hid (Below X1.heap.size X1 X3) := below_then T1_11.out hbx
              have T2_x3 : Hid (Below X2.heap.size X2 X3) := below_then T2_11.out hbx
              have T3_11 : Hid (Below X3.heap.size X3 X3) := Below.refl _ _
              clear hbx
              obtain ⟨q7, q8, q9⟩ := HQ9.out
              obtain ⟨c0, c1, c2, d0, d1, d2⟩ := HC.out _ D3.out
              obtain ⟨p0a, p0b, p0c⟩ := B0.out _ T0_x3.out
              obtain ⟨p3a, p3b, p3c⟩ := B3.out _ T3_11.out
              rw [hX] at c0 c1 c2 d0 d1 d2 p0a p0b p0c p3a p3b p3c
              go_wp2
              rw [← hX]
              clear hX c0 c1 c2 d0 d1 d2 p0a p0b p0c p3a p3b p3c
              go_ret
              exact ⟨by first | rfl | simp [q7] | simp [q8] | simp [q9], below_then HBV.out D3.out⟩
            · skip
              have k1 : (ak != 2) = false := by simp [hka]
              have k2 : (bk != 2) = true := by simpa using hkb
              clear hka hkb
              obtain ⟨c0, c1, c2, d0, d1, d2⟩ := HC.out _ L0.out
              go_wp2
              all_goals go_ret
              all_goals exact ⟨rfl, below_then HBV.out L0.out⟩
          · skip
            have k1 : (ak != 2) = true := by simpa using hka
            clear hka
            obtain ⟨c0, c1, c2, d0, d1, d2⟩ := HC.out _ L0.out
            go_wp2
            all_goals go_ret
            all_goals exact ⟨rfl, below_then HBV.out L0.out⟩
        · skip
          obtain ⟨Y2, hY⟩ : ∃ Y, Y = Y1.alloc (.cells #[.int .u8 bk, .int .i64 bn, .slice sb br.length cb] 25) := ⟨_, rfl⟩
          have hbY : Below Y1.heap.size Y1 Y2 := hY ▸ below_new Y1 _
          have RB : Hid (Y2.heap[Y1.heap.size]? = some (.cells #[.int .u8 bk, .int .i64 bn, .slice sb br.length cb] 25 (0, 0))) := (show _ from by rw [hY]; exact World.alloc_heap_new Y1 _)
          have G2 : Hid (Below X2.heap.size X2 Y2) := below_then G1.out hbY
          have RA2 : Hid (Y2.heap[Y0.heap.size]? = some (.cells #[.int .u8 ak, .int .i64 an, .slice sa ar.length ca] 25 (0, 0))) := (hbY.block _ (Array.getElem?_eq_some_iff.1 RA.out).1).trans RA.out
          clear RA
          have RA : Hid (_) := RA2.out
          clear RA2
          clear hbY
          go_simp
          rw [← hY]
          clear hY
          refine hKB _ _ G2.out ?_
          refine anyC_one (i := 20) (by kernel_rfl) rfl (by rfl) (fun KC hKC => ?_)
          go_simp
          refine ⟨trivial, ?_⟩
          refine (callsIn_wide.2 (HTA.out _ _ G2.out RA.out)).mono ?_
          rintro e Y3 ⟨rfl, hb⟩
          have G3 : Hid (Below X2.heap.size X2 Y3) := below_then G2.out hb
          clear RA
          have RB2 : Hid (Y3.heap[Y1.heap.size]? = some (.cells #[.int .u8 bk, .int .i64 bn, .slice sb br.length cb] 25 (0, 0))) := (hb.block _ (Array.getElem?_eq_some_iff.1 RB.out).1).trans RB.out
          clear RB
          have RB : Hid (_) := RB2.out
          clear RB2
          clear hb
          refine hKC _ _ G3.out ?_
          refine anyC_one (i := 23) (by kernel_rfl) rfl (by rfl) (fun KD hKD => ?_)
          go_simp
          refine ⟨trivial, ?_⟩
          refine (callsIn_wide.2 (HTB.out _ _ G3.out RB.out)).mono ?_
          rintro e Y4 ⟨rfl, hb⟩
          have G4 : Hid (Below X2.heap.size X2 Y4) := below_then G3.out hb
          clear RB
          clear hb
          refine hKD _ _ G4.out ?_
          refine anyC_take (i := 24) (v := .bool S) rfl rfl (by kernel_rfl) (by kernel_rfl) (by kernel_rfl) (fun _ _ d _ _ h => by cases d <;> exact h) G4.out (by rfl) (fun _ => rfl) (by intro w' hw'; go_simp; first | done | rfl | simp [q4] | simp [q5]) ?_
          refine anyC_take (i := 25) (v := .bool false) rfl rfl (by kernel_rfl) (by kernel_rfl) (by kernel_rfl) (fun _ _ d _ _ h => by cases d <;> exact h) G4.out (by rfl) (fun _ => rfl) (by intro w' hw'; go_simp; first | done | rfl | simp [q2] | simp) ?_
          refine anyC_take (i := 26) (v := .bool false) rfl rfl (by kernel_rfl) (by kernel_rfl) (by kernel_rfl) (fun _ _ d _ _ h => by cases d <;> exact h) G4.out (by rfl) (fun _ => rfl) (by intro w' hw'; go_simp; try rfl) ?_
          refine anyC_done (by kernel_rfl) ?_
          have L0 : Hid (Below V.heap.size V Y4) := below_then D2.out G4.out
          clear q0 q1 q2 q4 q5 q6
          by_cases hka : ak = 2
          · by_cases hkb : bk = 2
            · skip
              have ra := HRA.out
              have rb := HRB.out
              obtain ⟨P, hP⟩ : ∃ P, P = (decide (an = 1) || decide (bn = 1)) := ⟨_, rfl⟩
              obtain ⟨p, hp⟩ : ∃ P, P = decide (an = 0) := ⟨_, rfl⟩
              obtain ⟨q, hq⟩ : ∃ P, P = decide (bn = 0) := ⟨_, rfl⟩
              have hpq : (p && q) = !P := by
                rcases Vl.right_cases ra with ⟨k, _⟩ | ⟨_, na, _⟩ | ⟨k, _⟩
                · simp only at k; omega
                · rcases Vl.right_cases rb with ⟨k, _⟩ | ⟨_, nb, _⟩ | ⟨k, _⟩
                  · simp only at k; omega
                  · simp only at na nb; rw [hp, hq, hP]; rcases na with na | na <;> rcases nb with nb | nb <;> rw [na, nb] <;> rfl
                  · simp only at k; omega
                · simp only at k; omega
              have FO : Hid (∀ W, Below V.heap.size V W → Calls Tryd.prog 23 #[.string (Ln.bs [124, 124]), vV ak an (.slice sa ar.length ca), vV bk bn (.slice sb br.length cb)] W fun e w' => e = .returned (.tuple #[vV 2 (Vl.one P) nilV, .int .i64 0]) ∧ Below W.heap.size W w') := fun W hW => by
                have h := HBN.out [124, 124] (by simp) W hW
                have e : Vl.bin [124, 124] (VA.v ⟨ak, an, .slice sa ar.length ca, ar⟩) (VA.v ⟨bk, bn, .slice sb br.length cb, br⟩) = .bool P := by rw [hP]; exact Vl.bin_or ra rb hka hkb
                rw [e] at h; exact h
              have FP : Hid (∀ W, Below V.heap.size V W → Calls Tryd.prog 22 #[.string (Ln.bs [33]), vV ak an (.slice sa ar.length ca)] W fun e w' => e = .returned (.tuple #[vV 2 (Vl.one p) nilV, .int .i64 0]) ∧ Below W.heap.size W w') := fun W hW => by
                have h := HU1.out W hW
                have e : Vl.un [33] (VA.v ⟨ak, an, .slice sa ar.length ca, ar⟩) = .bool p := by rw [hp]; exact Vl.un_not ra hka
                rw [e] at h; exact h
              have FQ : Hid (∀ W, Below V.heap.size V W → Calls Tryd.prog 22 #[.string (Ln.bs [33]), vV bk bn (.slice sb br.length cb)] W fun e w' => e = .returned (.tuple #[vV 2 (Vl.one q) nilV, .int .i64 0]) ∧ Below W.heap.size W w') := fun W hW => by
                have h := HU2.out W hW
                have e : Vl.un [33] (VA.v ⟨bk, bn, .slice sb br.length cb, br⟩) = .bool q := by rw [hq]; exact Vl.un_not rb hkb
                rw [e] at h; exact h
              have FD : Hid (∀ W, Calls Tryd.prog 23 #[.string (Ln.bs [38, 38]), vV 2 (Vl.one p) nilV, vV 2 (Vl.one q) nilV] W fun e w' => e = .returned (.tuple #[vV 2 (Vl.one (!P)) nilV, .int .i64 0]) ∧ Below W.heap.size W w') := fun W => by
                have hl : ∀ k n : Int, (⟨k, n, nilV, []⟩ : VA).Low W.heap.size W := fun k n => ⟨⟨none, 0, 0, 0, rfl, ⟨Nat.le_refl _, fun _ => rfl⟩, fun h => absurd h (by simp), fun j x hx => by simp at hx⟩, by simp⟩
                have h := binary_any [38, 38] (by simp) ⟨2, Vl.one p, nilV, []⟩ ⟨2, Vl.one q, nilV, []⟩ W (hl _ _) (hl _ _)
                have hr : ∀ x : Bool, Vl.right ⟨2, Vl.one x, []⟩ = true := fun x => by cases x <;> simp [Vl.right, Vl.one]
                have e : Vl.bin [38, 38] (VA.v ⟨2, Vl.one p, nilV, []⟩) (VA.v ⟨2, Vl.one q, nilV, []⟩) = .bool (!P) := by rw [← hpq]; refine (Vl.bin_and (hr p) (hr q) rfl rfl).trans ?_; cases p <;> cases q <;> rfl
                rw [e] at h; exact h
              have q7 : (IntKind.i64.wrap (Vl.one P + Vl.one (!P)) == 1) = true := by cases P <;> rfl
              have q8 : IntKind.i64.wrap (Vl.one P + Vl.one (!P)) = 1 := by cases P <;> rfl
              have q9 : wrap64 (Vl.one P + Vl.one (!P)) = 1 := by cases P <;> simp [Vl.one, wrap64]
              have HQ9 : Hid (_ ∧ _ ∧ _) := ⟨q7, q8, q9⟩
              have k1 : (ak != 2) = false := by simp [hka]
              have k2 : (bk != 2) = false := by simp [hkb]
              clear ra rb hP hp hq hpq q7 q8 q9 hka hkb
              obtain ⟨c0, c1, c2, d0, d1, d2⟩ := HC.out _ L0.out
              go_wp2_with fail
              clear c0 c1 c2 d0 d1 d2
              refine Calls.mono (FO.out _ L0.out) ?_
              rintro e w8 ⟨rfl, hb⟩
              have H8 : Hid (Below V.heap.size V w8) := below_then L0.out hb
              clear hb
              obtain ⟨X0, hX⟩ : ∃ X, X = w8.alloc (.cells #[.int .u8 2, .int .i64 (Vl.one P), .slice none 0 0] 25) := ⟨_, rfl⟩
              have hbx : Below w8.heap.size w8 X0 := hX ▸ below_new _ _
              have D0 : Hid (Below V.heap.size V X0) := below_then H8.out hbx
              have B0 : Hid (∀ W, Below X0.heap.size X0 W → W.cell? ⟨w8.heap.size, 0, none⟩ = some (.int .u8 2) ∧ W.cell? ⟨w8.heap.size, 1, none⟩ = some (.int .i64 (Vl.one P)) ∧ W.cell? ⟨w8.heap.size, 2, none⟩ = some (.slice none 0 0)) := by
                have hn : X0.heap[w8.heap.size]? = some (.cells #[.int .u8 2, .int .i64 (Vl.one P), .slice none 0 0] 25 (0, 0)) := by rw [hX]; exact World.alloc_heap_new _ _
                exact fun W hW => ⟨cell_some_below (vcells_at hn rfl) hW, cell_some_below (vcells_at hn rfl) hW, cell_some_below (vcells_at hn rfl) hW⟩
              have T0_8 : Hid (Below X0.heap.size X0 X0) := Below.refl _ _
              clear hbx
              obtain ⟨c0, c1, c2, d0, d1, d2⟩ := HC.out _ D0.out
              rw [hX] at c0 c1 c2 d0 d1 d2
              go_wp2_with fail
              rw [← hX]
              clear hX c0 c1 c2 d0 d1 d2
              refine Calls.mono (FP.out _ D0.out) ?_
              rintro e w9 ⟨rfl, hb⟩
              have H9 : Hid (Below V.heap.size V w9) := below_then D0.out hb
              have T0_9 : Hid (Below X0.heap.size X0 w9) := below_then T0_8.out hb
              clear hb
              obtain ⟨X1, hX⟩ : ∃ X, X = w9.alloc (.cells #[.int .u8 2, .int .i64 (Vl.one p), .slice none 0 0] 25) := ⟨_, rfl⟩
              have hbx : Below w9.heap.size w9 X1 := hX ▸ below_new _ _
              have D1 : Hid (Below V.heap.size V X1) := below_then H9.out hbx
              have B1 : Hid (∀ W, Below X1.heap.size X1 W → W.cell? ⟨w9.heap.size, 0, none⟩ = some (.int .u8 2) ∧ W.cell? ⟨w9.heap.size, 1, none⟩ = some (.int .i64 (Vl.one p)) ∧ W.cell? ⟨w9.heap.size, 2, none⟩ = some (.slice none 0 0)) := by
                have hn : X1.heap[w9.heap.size]? = some (.cells #[.int .u8 2, .int .i64 (Vl.one p), .slice none 0 0] 25 (0, 0)) := by rw [hX]; exact World.alloc_heap_new _ _
                exact fun W hW => ⟨cell_some_below (vcells_at hn rfl) hW, cell_some_below (vcells_at hn rfl) hW, cell_some_below (vcells_at hn rfl) hW⟩
              have T0_x1 : Hid (Below X0.heap.size X0 X1) := below_then T0_9.out hbx
              have T1_9 : Hid (Below X1.heap.size X1 X1) := Below.refl _ _
              clear hbx
              obtain ⟨c0, c1, c2, d0, d1, d2⟩ := HC.out _ D1.out
              rw [hX] at c0 c1 c2 d0 d1 d2
              go_wp2_with fail
              rw [← hX]
              clear hX c0 c1 c2 d0 d1 d2
              refine Calls.mono (FQ.out _ D1.out) ?_
              rintro e w10 ⟨rfl, hb⟩
              have H10 : Hid (Below V.heap.size V w10) := below_then D1.out hb
              have T0_10 : Hid (Below X0.heap.size X0 w10) := below_then T0_x1.out hb
              have T1_10 : Hid (Below X1.heap.size X1 w10) := below_then T1_9.out hb
              clear hb
              obtain ⟨X2, hX⟩ : ∃ X, X = w10.alloc (.cells #[.int .u8 2, .int .i64 (Vl.one q), .slice none 0 0] 25) := ⟨_, rfl⟩
              have hbx : Below w10.heap.size w10 X2 := hX ▸ below_new _ _
              have D2 : Hid (Below V.heap.size V X2) := below_then H10.out hbx
              have B2 : Hid (∀ W, Below X2.heap.size X2 W → W.cell? ⟨w10.heap.size, 0, none⟩ = some (.int .u8 2) ∧ W.cell? ⟨w10.heap.size, 1, none⟩ = some (.int .i64 (Vl.one q)) ∧ W.cell? ⟨w10.heap.size, 2, none⟩ = some (.slice none 0 0)) := by
                have hn : X2.heap[w10.heap.size]? = some (.cells #[.int .u8 2, .int .i64 (Vl.one q), .slice none 0 0] 25 (0, 0)) := by rw [hX]; exact World.alloc_heap_new _ _
                exact fun W hW => ⟨cell_some_below (vcells_at hn rfl) hW, cell_some_below (vcells_at hn rfl) hW, cell_some_below (vcells_at hn rfl) hW⟩
              have T0_x2 : Hid (Below X0.heap.size X0 X2) := below_then T0_10.out hbx
              have T1_x2 : Hid (Below X1.heap.size X1 X2) := below_then T1_10.out hbx
              have T2_10 : Hid (Below X2.heap.size X2 X2) := Below.refl _ _
              clear hbx
              obtain ⟨c0, c1, c2, d0, d1, d2⟩ := HC.out _ D2.out
              obtain ⟨p1a, p1b, p1c⟩ := B1.out _ T1_x2.out
              obtain ⟨p2a, p2b, p2c⟩ := B2.out _ T2_10.out
              rw [hX] at c0 c1 c2 d0 d1 d2 p1a p1b p1c p2a p2b p2c
              go_wp2_with fail
              rw [← hX]
              clear hX c0 c1 c2 d0 d1 d2 p1a p1b p1c p2a p2b p2c
              refine Calls.mono (FD.out _) ?_
              rintro e w11 ⟨rfl, hb⟩
              have H11 : Hid (Below V.heap.size V w11) := below_then D2.out hb
              have T0_11 : Hid (Below X0.heap.size X0 w11) := below_then T0_x2.out hb
              have T1_11 : Hid (Below X1.heap.size X1 w11) := below_then T1_x2.out hb
              have T2_11 : Hid (Below X2.heap.size X2 w11) := below_then T2_10.out hb
              clear hb
              obtain ⟨X3, hX⟩ : ∃ X, X = w11.alloc (.cells #[.int .u8 2, .int .i64 (Vl.one (!P)), .slice none 0 0] 25) := ⟨_, rfl⟩
              have hbx : Below w11.heap.size w11 X3 := hX ▸ below_new _ _
              have D3 : Hid (Below V.heap.size V X3) := below_then H11.out hbx
              have B3 : Hid (∀ W, Below X3.heap.size X3 W → W.cell? ⟨w11.heap.size, 0, none⟩ = some (.int .u8 2) ∧ W.cell? ⟨w11.heap.size, 1, none⟩ = some (.int .i64 (Vl.one (!P))) ∧ W.cell? ⟨w11.heap.size, 2, none⟩ = some (.slice none 0 0)) := by
                have hn : X3.heap[w11.heap.size]? = some (.cells #[.int .u8 2, .int .i64 (Vl.one (!P)), .slice none 0 0] 25 (0, 0)) := by rw [hX]; exact World.alloc_heap_new _ _
                exact fun W hW => ⟨cell_some_below (vcells_at hn rfl) hW, cell_some_below (vcells_at hn rfl) hW, cell_some_below (vcells_at hn rfl) hW⟩
              have T0_x3 : Hid (Below X0.heap.size X0 X3) := below_then T0_11.out hbx
              have T1_x3 : Hid (Below X1.heap.size X1 X3) := below_then T1_11.out hbx
              have T2_x3 : Hid (Below X2.heap.size X2 X3) := below_then T2_11.out hbx
              have T3_11 : Hid (Below X3.heap.size X3 X3) := Below.refl _ _
              clear hbx
              obtain ⟨q7, q8, q9⟩ := HQ9.out
              obtain ⟨c0, c1, c2, d0, d1, d2⟩ := HC.out _ D3.out
              obtain ⟨p0a, p0b, p0c⟩ := B0.out _ T0_x3.out
              obtain ⟨p3a, p3b, p3c⟩ := B3.out _ T3_11.out
              rw [hX] at c0 c1 c2 d0 d1 d2 p0a p0b p0c p3a p3b p3c
              go_wp2
              rw [← hX]
              clear hX c0 c1 c2 d0 d1 d2 p0a p0b p0c p3a p3b p3c
              go_ret
              exact ⟨by first | rfl | simp [q7] | simp [q8] | simp [q9], below_then HBV.out D3.out⟩
            · skip
              have k1 : (ak != 2) = false := by simp [hka]
              have k2 : (bk != 2) = true := by simpa using hkb
              clear hka hkb
              obtain ⟨c0, c1, c2, d0, d1, d2⟩ := HC.out _ L0.out
              go_wp2
              all_goals go_ret
              all_goals exact ⟨rfl, below_then HBV.out L0.out⟩
          · skip
            have k1 : (ak != 2) = true := by simpa using hka
            clear hka
            obtain ⟨c0, c1, c2, d0, d1, d2⟩ := HC.out _ L0.out
            go_wp2
            all_goals go_ret
            all_goals exact ⟨rfl, below_then HBV.out L0.out⟩
      · skip
        obtain ⟨Y1, hY⟩ : ∃ Y, Y = Y0.alloc (.cells #[.int .u8 bk, .int .i64 bn, .slice sb br.length cb] 25) := ⟨_, rfl⟩
        have hbY : Below Y0.heap.size Y0 Y1 := hY ▸ below_new Y0 _
        have RB : Hid (Y1.heap[Y0.heap.size]? = some (.cells #[.int .u8 bk, .int .i64 bn, .slice sb br.length cb] 25 (0, 0))) := (show _ from by rw [hY]; exact World.alloc_heap_new Y0 _)
        have G1 : Hid (Below X2.heap.size X2 Y1) := below_then G0.out hbY
        clear hbY
        go_simp
        rw [← hY]
        clear hY
        refine hKA _ _ G1.out ?_
        refine anyC_one (i := 19) (by kernel_rfl) rfl (by rfl) (fun KB hKB => ?_)
        obtain ⟨Y2, hY⟩ : ∃ Y, Y = Y1.alloc (.cells #[.int .u8 ak, .int .i64 an, .slice sa ar.length ca] 25) := ⟨_, rfl⟩
        have hbY : Below Y1.heap.size Y1 Y2 := hY ▸ below_new Y1 _
        have RA : Hid (Y2.heap[Y1.heap.size]? = some (.cells #[.int .u8 ak, .int .i64 an, .slice sa ar.length ca] 25 (0, 0))) := (show _ from by rw [hY]; exact World.alloc_heap_new Y1 _)
        have G2 : Hid (Below X2.heap.size X2 Y2) := below_then G1.out hbY
        have RB2 : Hid (Y2.heap[Y0.heap.size]? = some (.cells #[.int .u8 bk, .int .i64 bn, .slice sb br.length cb] 25 (0, 0))) := (hbY.block _ (Array.getElem?_eq_some_iff.1 RB.out).1).trans RB.out
        clear RB
        have RB : Hid (_) := RB2.out
        clear RB2
        clear hbY
        go_simp
        rw [← hY]
        clear hY
        refine hKB _ _ G2.out ?_
        refine anyC_one (i := 20) (by kernel_rfl) rfl (by rfl) (fun KC hKC => ?_)
        go_simp
        refine ⟨trivial, ?_⟩
        refine (callsIn_wide.2 (HTA.out _ _ G2.out RA.out)).mono ?_
        rintro e Y3 ⟨rfl, hb⟩
        have G3 : Hid (Below X2.heap.size X2 Y3) := below_then G2.out hb
        clear RA
        have RB2 : Hid (Y3.heap[Y0.heap.size]? = some (.cells #[.int .u8 bk, .int .i64 bn, .slice sb br.length cb] 25 (0, 0))) := (hb.block _ (Array.getElem?_eq_some_iff.1 RB.out).1).trans RB.out
        clear RB
        have RB : Hid (_) := RB2.out
        clear RB2
        clear hb
        refine hKC _ _ G3.out ?_
        refine anyC_one (i := 23) (by kernel_rfl) rfl (by rfl) (fun KD hKD => ?_)
        go_simp
        refine ⟨trivial, ?_⟩
        refine (callsIn_wide.2 (HTB.out _ _ G3.out RB.out)).mono ?_
        rintro e Y4 ⟨rfl, hb⟩
        have G4 : Hid (Below X2.heap.size X2 Y4) := below_then G3.out hb
        clear RB
        clear hb
        refine hKD _ _ G4.out ?_
        refine anyC_take (i := 24) (v := .bool S) rfl rfl (by kernel_rfl) (by kernel_rfl) (by kernel_rfl) (fun _ _ d _ _ h => by cases d <;> exact h) G4.out (by rfl) (fun _ => rfl) (by intro w' hw'; go_simp; first | done | rfl | simp [q4] | simp [q5]) ?_
        refine anyC_take (i := 25) (v := .bool false) rfl rfl (by kernel_rfl) (by kernel_rfl) (by kernel_rfl) (fun _ _ d _ _ h => by cases d <;> exact h) G4.out (by rfl) (fun _ => rfl) (by intro w' hw'; go_simp; first | done | rfl | simp [q2] | simp) ?_
        refine anyC_take (i := 26) (v := .bool false) rfl rfl (by kernel_rfl) (by kernel_rfl) (by kernel_rfl) (fun _ _ d _ _ h => by cases d <;> exact h) G4.out (by rfl) (fun _ => rfl) (by intro w' hw'; go_simp; try rfl) ?_
        refine anyC_done (by kernel_rfl) ?_
        have L0 : Hid (Below V.heap.size V Y4) := below_then D2.out G4.out
        clear q0 q1 q2 q4 q5 q6
        by_cases hka : ak = 2
        · by_cases hkb : bk = 2
          · skip
            have ra := HRA.out
            have rb := HRB.out
            obtain ⟨P, hP⟩ : ∃ P, P = (decide (an = 1) || decide (bn = 1)) := ⟨_, rfl⟩
            obtain ⟨p, hp⟩ : ∃ P, P = decide (an = 0) := ⟨_, rfl⟩
            obtain ⟨q, hq⟩ : ∃ P, P = decide (bn = 0) := ⟨_, rfl⟩
            have hpq : (p && q) = !P := by
              rcases Vl.right_cases ra with ⟨k, _⟩ | ⟨_, na, _⟩ | ⟨k, _⟩
              · simp only at k; omega
              · rcases Vl.right_cases rb with ⟨k, _⟩ | ⟨_, nb, _⟩ | ⟨k, _⟩
                · simp only at k; omega
                · simp only at na nb; rw [hp, hq, hP]; rcases na with na | na <;> rcases nb with nb | nb <;> rw [na, nb] <;> rfl
                · simp only at k; omega
              · simp only at k; omega
            have FO : Hid (∀ W, Below V.heap.size V W → Calls Tryd.prog 23 #[.string (Ln.bs [124, 124]), vV ak an (.slice sa ar.length ca), vV bk bn (.slice sb br.length cb)] W fun e w' => e = .returned (.tuple #[vV 2 (Vl.one P) nilV, .int .i64 0]) ∧ Below W.heap.size W w') := fun W hW => by
              have h := HBN.out [124, 124] (by simp) W hW
              have e : Vl.bin [124, 124] (VA.v ⟨ak, an, .slice sa ar.length ca, ar⟩) (VA.v ⟨bk, bn, .slice sb br.length cb, br⟩) = .bool P := by rw [hP]; exact Vl.bin_or ra rb hka hkb
              rw [e] at h; exact h
            have FP : Hid (∀ W, Below V.heap.size V W → Calls Tryd.prog 22 #[.string (Ln.bs [33]), vV ak an (.slice sa ar.length ca)] W fun e w' => e = .returned (.tuple #[vV 2 (Vl.one p) nilV, .int .i64 0]) ∧ Below W.heap.size W w') := fun W hW => by
              have h := HU1.out W hW
              have e : Vl.un [33] (VA.v ⟨ak, an, .slice sa ar.length ca, ar⟩) = .bool p := by rw [hp]; exact Vl.un_not ra hka
              rw [e] at h; exact h
            have FQ : Hid (∀ W, Below V.heap.size V W → Calls Tryd.prog 22 #[.string (Ln.bs [33]), vV bk bn (.slice sb br.length cb)] W fun e w' => e = .returned (.tuple #[vV 2 (Vl.one q) nilV, .int .i64 0]) ∧ Below W.heap.size W w') := fun W hW => by
              have h := HU2.out W hW
              have e : Vl.un [33] (VA.v ⟨bk, bn, .slice sb br.length cb, br⟩) = .bool q := by rw [hq]; exact Vl.un_not rb hkb
              rw [e] at h; exact h
            have FD : Hid (∀ W, Calls Tryd.prog 23 #[.string (Ln.bs [38, 38]), vV 2 (Vl.one p) nilV, vV 2 (Vl.one q) nilV] W fun e w' => e = .returned (.tuple #[vV 2 (Vl.one (!P)) nilV, .int .i64 0]) ∧ Below W.heap.size W w') := fun W => by
              have hl : ∀ k n : Int, (⟨k, n, nilV, []⟩ : VA).Low W.heap.size W := fun k n => ⟨⟨none, 0, 0, 0, rfl, ⟨Nat.le_refl _, fun _ => rfl⟩, fun h => absurd h (by simp), fun j x hx => by simp at hx⟩, by simp⟩
              have h := binary_any [38, 38] (by simp) ⟨2, Vl.one p, nilV, []⟩ ⟨2, Vl.one q, nilV, []⟩ W (hl _ _) (hl _ _)
              have hr : ∀ x : Bool, Vl.right ⟨2, Vl.one x, []⟩ = true := fun x => by cases x <;> simp [Vl.right, Vl.one]
              have e : Vl.bin [38, 38] (VA.v ⟨2, Vl.one p, nilV, []⟩) (VA.v ⟨2, Vl.one q, nilV, []⟩) = .bool (!P) := by rw [← hpq]; refine (Vl.bin_and (hr p) (hr q) rfl rfl).trans ?_; cases p <;> cases q <;> rfl
              rw [e] at h; exact h
            have q7 : (IntKind.i64.wrap (Vl.one P + Vl.one (!P)) == 1) = true := by cases P <;> rfl
            have q8 : IntKind.i64.wrap (Vl.one P + Vl.one (!P)) = 1 := by cases P <;> rfl
            have q9 : wrap64 (Vl.one P + Vl.one (!P)) = 1 := by cases P <;> simp [Vl.one, wrap64]
            have HQ9 : Hid (_ ∧ _ ∧ _) := ⟨q7, q8, q9⟩
            have k1 : (ak != 2) = false := by simp [hka]
            have k2 : (bk != 2) = false := by simp [hkb]
            clear ra rb hP hp hq hpq q7 q8 q9 hka hkb
            obtain ⟨c0, c1, c2, d0, d1, d2⟩ := HC.out _ L0.out
            go_wp2_with fail
            clear c0 c1 c2 d0 d1 d2
            refine Calls.mono (FO.out _ L0.out) ?_
            rintro e w8 ⟨rfl, hb⟩
            have H8 : Hid (Below V.heap.size V w8) := below_then L0.out hb
            clear hb
            obtain ⟨X0, hX⟩ : ∃ X, X = w8.alloc (.cells #[.int .u8 2, .int .i64 (Vl.one P), .slice none 0 0] 25) := ⟨_, rfl⟩
            have hbx : Below w8.heap.size w8 X0 := hX ▸ below_new _ _
            have D0 : Hid (Below V.heap.size V X0) := below_then H8.out hbx
            have B0 : Hid (∀ W, Below X0.heap.size X0 W → W.cell? ⟨w8.heap.size, 0, none⟩ = some (.int .u8 2) ∧ W.cell? ⟨w8.heap.size, 1, none⟩ = some (.int .i64 (Vl.one P)) ∧ W.cell? ⟨w8.heap.size, 2, none⟩ = some (.slice none 0 0)) := by
              have hn : X0.heap[w8.heap.size]? = some (.cells #[.int .u8 2, .int .i64 (Vl.one P), .slice none 0 0] 25 (0, 0)) := by rw [hX]; exact World.alloc_heap_new _ _
              exact fun W hW => ⟨cell_some_below (vcells_at hn rfl) hW, cell_some_below (vcells_at hn rfl) hW, cell_some_below (vcells_at hn rfl) hW⟩
            have T0_8 : Hid (Below X0.heap.size X0 X0) := Below.refl _ _
            clear hbx
            obtain ⟨c0, c1, c2, d0, d1, d2⟩ := HC.out _ D0.out
            rw [hX] at c0 c1 c2 d0 d1 d2
            go_wp2_with fail
            rw [← hX]
            clear hX c0 c1 c2 d0 d1 d2
            refine Calls.mono (FP.out _ D0.out) ?_
            rintro e w9 ⟨rfl, hb⟩
            have H9 : Hid (Below V.heap.size V w9) := below_then D0.out hb
            have T0_9 : Hid (Below X0.heap.size X0 w9) := below_then T0_8.out hb
            clear hb
            obtain ⟨X1, hX⟩ : ∃ X, X = w9.alloc (.cells #[.int .u8 2, .int .i64 (Vl.one p), .slice none 0 0] 25) := ⟨_, rfl⟩
            have hbx : Below w9.heap.size w9 X1 := hX ▸ below_new _ _
            have D1 : Hid (Below V.heap.size V X1) := below_then H9.out hbx
            have B1 : Hid (∀ W, Below X1.heap.size X1 W → W.cell? ⟨w9.heap.size, 0, none⟩ = some (.int .u8 2) ∧ W.cell? ⟨w9.heap.size, 1, none⟩ = some (.int .i64 (Vl.one p)) ∧ W.cell? ⟨w9.heap.size, 2, none⟩ = some (.slice none 0 0)) := by
              have hn : X1.heap[w9.heap.size]? = some (.cells #[.int .u8 2, .int .i64 (Vl.one p), .slice none 0 0] 25 (0, 0)) := by rw [hX]; exact World.alloc_heap_new _ _
              exact fun W hW => ⟨cell_some_below (vcells_at hn rfl) hW, cell_some_below (vcells_at hn rfl) hW, cell_some_below (vcells_at hn rfl) hW⟩
            have T0_x1 : Hid (Below X0.heap.size X0 X1) := below_then T0_9.out hbx
            have T1_9 : Hid (Below X1.heap.size X1 X1) := Below.refl _ _
            clear hbx
            obtain ⟨c0, c1, c2, d0, d1, d2⟩ := HC.out _ D1.out
            rw [hX] at c0 c1 c2 d0 d1 d2
            go_wp2_with fail
            rw [← hX]
            clear hX c0 c1 c2 d0 d1 d2
            refine Calls.mono (FQ.out _ D1.out) ?_
            rintro e w10 ⟨rfl, hb⟩
            have H10 : Hid (Below V.heap.size V w10) := below_then D1.out hb
            have T0_10 : Hid (Below X0.heap.size X0 w10) := below_then T0_x1.out hb
            have T1_10 : Hid (Below X1.heap.size X1 w10) := below_then T1_9.out hb
            clear hb
            obtain ⟨X2, hX⟩ : ∃ X, X = w10.alloc (.cells #[.int .u8 2, .int .i64 (Vl.one q), .slice none 0 0] 25) := ⟨_, rfl⟩
            have hbx : Below w10.heap.size w10 X2 := hX ▸ below_new _ _
            have D2 : Hid (Below V.heap.size V X2) := below_then H10.out hbx
            have B2 : Hid (∀ W, Below X2.heap.size X2 W → W.cell? ⟨w10.heap.size, 0, none⟩ = some (.int .u8 2) ∧ W.cell? ⟨w10.heap.size, 1, none⟩ = some (.int .i64 (Vl.one q)) ∧ W.cell? ⟨w10.heap.size, 2, none⟩ = some (.slice none 0 0)) := by
              have hn : X2.heap[w10.heap.size]? = some (.cells #[.int .u8 2, .int .i64 (Vl.one q), .slice none 0 0] 25 (0, 0)) := by rw [hX]; exact World.alloc_heap_new _ _
              exact fun W hW => ⟨cell_some_below (vcells_at hn rfl) hW, cell_some_below (vcells_at hn rfl) hW, cell_some_below (vcells_at hn rfl) hW⟩
            have T0_x2 : Hid (Below X0.heap.size X0 X2) := below_then T0_10.out hbx
            have T1_x2 : Hid (Below X1.heap.size X1 X2) := below_then T1_10.out hbx
            have T2_10 : Hid (Below X2.heap.size X2 X2) := Below.refl _ _
            clear hbx
            obtain ⟨c0, c1, c2, d0, d1, d2⟩ := HC.out _ D2.out
            obtain ⟨p1a, p1b, p1c⟩ := B1.out _ T1_x2.out
            obtain ⟨p2a, p2b, p2c⟩ := B2.out _ T2_10.out
            rw [hX] at c0 c1 c2 d0 d1 d2 p1a p1b p1c p2a p2b p2c
            go_wp2_with fail
            rw [← hX]
            clear hX c0 c1 c2 d0 d1 d2 p1a p1b p1c p2a p2b p2c
            refine Calls.mono (FD.out _) ?_
            rintro e w11 ⟨rfl, hb⟩
            have H11 : Hid (Below V.heap.size V w11) := below_then D2.out hb
            have T0_11 : Hid (Below X0.heap.size X0 w11) := below_then T0_x2.out hb
            have T1_11 : Hid (Below X1.heap.size X1 w11) := below_then T1_x2.out hb
            have T2_11 : Hid (Below X2.heap.size X2 w11) := below_then T2_10.out hb
            clear hb
            obtain ⟨X3, hX⟩ : ∃ X, X = w11.alloc (.cells #[.int .u8 2, .int .i64 (Vl.one (!P)), .slice none 0 0] 25) := ⟨_, rfl⟩
            have hbx : Below w11.heap.size w11 X3 := hX ▸ below_new _ _
            have D3 : Hid (Below V.heap.size V X3) := below_then H11.out hbx
            have B3 : Hid (∀ W, Below X3.heap.size X3 W → W.cell? ⟨w11.heap.size, 0, none⟩ = some (.int .u8 2) ∧ W.cell? ⟨w11.heap.size, 1, none⟩ = some (.int .i64 (Vl.one (!P))) ∧ W.cell? ⟨w11.heap.size, 2, none⟩ = some (.slice none 0 0)) := by
              have hn : X3.heap[w11.heap.size]? = some (.cells #[.int .u8 2, .int .i64 (Vl.one (!P)), .slice none 0 0] 25 (0, 0)) := by rw [hX]; exact World.alloc_heap_new _ _
              exact fun W hW => ⟨cell_some_below (vcells_at hn rfl) hW, cell_some_below (vcells_at hn rfl) hW, cell_some_below (vcells_at hn rfl) hW⟩
            have T0_x3 : Hid (Below X0.heap.size X0 X3) := below_then T0_11.out hbx
            have T1_x3 : Hid (Below X1.heap.size X1 X3) := below_then T1_11.out hbx
            have T2_x3 : Hid (Below X2.heap.size X2 X3) := below_then T2_11.out hbx
            have T3_11 : Hid (Below X3.heap.size X3 X3) := Below.refl _ _
            clear hbx
            obtain ⟨q7, q8, q9⟩ := HQ9.out
            obtain ⟨c0, c1, c2, d0, d1, d2⟩ := HC.out _ D3.out
            obtain ⟨p0a, p0b, p0c⟩ := B0.out _ T0_x3.out
            obtain ⟨p3a, p3b, p3c⟩ := B3.out _ T3_11.out
            rw [hX] at c0 c1 c2 d0 d1 d2 p0a p0b p0c p3a p3b p3c
            go_wp2
            rw [← hX]
            clear hX c0 c1 c2 d0 d1 d2 p0a p0b p0c p3a p3b p3c
            go_ret
            exact ⟨by first | rfl | simp [q7] | simp [q8] | simp [q9], below_then HBV.out D3.out⟩
          · skip
            have k1 : (ak != 2) = false := by simp [hka]
            have k2 : (bk != 2) = true := by simpa using hkb
            clear hka hkb
            obtain ⟨c0, c1, c2, d0, d1, d2⟩ := HC.out _ L0.out
            go_wp2
            all_goals go_ret
            all_goals exact ⟨rfl, below_then HBV.out L0.out⟩
        · skip
          have k1 : (ak != 2) = true := by simpa using hka
          clear hka
          obtain ⟨c0, c1, c2, d0, d1, d2⟩ := HC.out _ L0.out
          go_wp2
          all_goals go_ret
          all_goals exact ⟨rfl, below_then HBV.out L0.out⟩
    · have HE : Hid (ze ≠ 0) := he
      obtain ⟨rfl, rfl⟩ := HZ.out.2 he
      have e1 : (ze == 0) = false := by simpa using he
      have e2 : (ze != 0) = true := by simpa using he
      clear HZ HBS he
      obtain ⟨c0, c1, c2, d0, d1, d2⟩ := HC.out _ D0.out
      obtain ⟨p0a, p0b, p0c⟩ := B0.out _ T0_2.out
      rw [hX] at c0 c1 c2 d0 d1 d2 p0a p0b p0c
      go_wp2_with fail
      rw [← hX]
      clear hX c0 c1 c2 d0 d1 d2 p0a p0b p0c
      refine Calls.mono (same0_any 0 0 0 0 true (by simp [Vl.same]) _) ?_
      rintro e w3 ⟨rfl, hb⟩
      have H3 : Hid (Below V.heap.size V w3) := below_then D0.out hb
      have T0_3 : Hid (Below X0.heap.size X0 w3) := below_then T0_2.out hb
      clear hb
      obtain ⟨c0, c1, c2, d0, d1, d2⟩ := HC.out _ H3.out
      go_wp2_with fail
      clear c0 c1 c2 d0 d1 d2
      cases ra : Vl.right ⟨ak, an, ar⟩ with
      | false =>
        obtain ⟨TA, hTA⟩ : ∃ T, T = Ln.bs (Vl.text ⟨ak, an, ar⟩) := ⟨_, rfl⟩
        have HXA : Hid (∀ W rb, Below V.heap.size V W → W.heap[rb]? = some (.cells #[.int .u8 ak, .int .i64 an, .slice sa ar.length ca] 25 (0, 0)) → Calls Tryd.prog 15 #[.slice (some ⟨rb, 0, none⟩) 1 1] W fun e w' => e = .returned (.string TA) ∧ Below W.heap.size W w') := fun W rb hW hr => by rw [hTA]; exact HT1.out W rb hW hr
        have FA : Hid (∀ W, Calls Tryd.prog 11 #[vV ak an (.slice sa ar.length ca)] W fun e w' => e = .returned (.bool false) ∧ Below W.heap.size W w') := fun W => by have h := right_any ak an sa ar ca la W; rw [ra] at h; exact h
        have r1 : (TA.toList == [63]) = true := by rw [hTA, Vl.text_wrong ra]; exact lit63
        have r2 : decide (TA = ⟨#[63]⟩) = true := by rw [hTA, Vl.text_wrong ra]; exact decide_eq_true rfl
        clear ra hTA
        refine Calls.mono (FA.out _) ?_
        rintro e w4 ⟨rfl, hb⟩
        have H4 : Hid (Below V.heap.size V w4) := below_then H3.out hb
        have T0_4 : Hid (Below X0.heap.size X0 w4) := below_then T0_3.out hb
        clear hb
        obtain ⟨Y, hY⟩ : ∃ Y, Y = w4.alloc (.cells #[.int .u8 ak, .int .i64 an, .slice sa ar.length ca] 25) := ⟨_, rfl⟩
        have hbY : Below w4.heap.size w4 Y := hY ▸ below_new w4 _
        have RA : Hid (Y.heap[w4.heap.size]? = some (.cells #[.int .u8 ak, .int .i64 an, .slice sa ar.length ca] 25 (0, 0))) := (show _ from by rw [hY]; exact World.alloc_heap_new w4 _)
        have GY : Hid (Below V.heap.size V Y) := below_then H4.out hbY
        clear hbY
        obtain ⟨c0, c1, c2, d0, d1, d2⟩ := HC.out _ H4.out
        go_wp2_with fail
        rw [← hY]
        clear hY c0 c1 c2 d0 d1 d2
        refine Calls.mono (HXA.out _ _ GY.out RA.out) ?_
        rintro e w5 ⟨rfl, hb⟩
        have H5 : Hid (Below V.heap.size V w5) := below_then GY.out hb
        clear hb
        go_wp2
        go_ret
        exact ⟨rfl, below_then HBV.out H5.out⟩
      | true =>
        cases rb : Vl.right ⟨bk, bn, br⟩ with
        | false =>
          obtain ⟨TA, hTA⟩ : ∃ T, T = Ln.bs (Vl.text ⟨ak, an, ar⟩) := ⟨_, rfl⟩
          have HXA : Hid (∀ W rb, Below V.heap.size V W → W.heap[rb]? = some (.cells #[.int .u8 ak, .int .i64 an, .slice sa ar.length ca] 25 (0, 0)) → Calls Tryd.prog 15 #[.slice (some ⟨rb, 0, none⟩) 1 1] W fun e w' => e = .returned (.string TA) ∧ Below W.heap.size W w') := fun W rb hW hr => by rw [hTA]; exact HT1.out W rb hW hr
          have FA : Hid (∀ W, Calls Tryd.prog 11 #[vV ak an (.slice sa ar.length ca)] W fun e w' => e = .returned (.bool true) ∧ Below W.heap.size W w') := fun W => by have h := right_any ak an sa ar ca la W; rw [ra] at h; exact h
          have FB : Hid (∀ W, Calls Tryd.prog 11 #[vV bk bn (.slice sb br.length cb)] W fun e w' => e = .returned (.bool false) ∧ Below W.heap.size W w') := fun W => by have h := right_any bk bn sb br cb lb W; rw [rb] at h; exact h
          have r0 := Vl.text_right ra
          have r1 : (TA.toList == [63]) = false := by rw [hTA, lit63'];  simpa using r0
          have r2 : decide (TA = ⟨#[63]⟩) = false := by rw [hTA]; exact decide_eq_false (fun h => r0 (congrArg (fun z : ByteArray => z.data.toList) h))
          clear ra rb hTA r0
          refine Calls.mono (FA.out _) ?_
          rintro e w4 ⟨rfl, hb⟩
          have H4 : Hid (Below V.heap.size V w4) := below_then H3.out hb
          have T0_4 : Hid (Below X0.heap.size X0 w4) := below_then T0_3.out hb
          clear hb
          obtain ⟨c0, c1, c2, d0, d1, d2⟩ := HC.out _ H4.out
          go_wp2_with fail
          clear c0 c1 c2 d0 d1 d2
          refine Calls.mono (FB.out _) ?_
          rintro e w5 ⟨rfl, hb⟩
          have H5 : Hid (Below V.heap.size V w5) := below_then H4.out hb
          have T0_5 : Hid (Below X0.heap.size X0 w5) := below_then T0_4.out hb
          clear hb
          obtain ⟨Y, hY⟩ : ∃ Y, Y = w5.alloc (.cells #[.int .u8 ak, .int .i64 an, .slice sa ar.length ca] 25) := ⟨_, rfl⟩
          have hbY : Below w5.heap.size w5 Y := hY ▸ below_new w5 _
          have RA : Hid (Y.heap[w5.heap.size]? = some (.cells #[.int .u8 ak, .int .i64 an, .slice sa ar.length ca] 25 (0, 0))) := (show _ from by rw [hY]; exact World.alloc_heap_new w5 _)
          have GY : Hid (Below V.heap.size V Y) := below_then H5.out hbY
          clear hbY
          obtain ⟨c0, c1, c2, d0, d1, d2⟩ := HC.out _ H5.out
          go_wp2_with fail
          rw [← hY]
          clear hY c0 c1 c2 d0 d1 d2
          refine Calls.mono (HXA.out _ _ GY.out RA.out) ?_
          rintro e w6 ⟨rfl, hb⟩
          have H6 : Hid (Below V.heap.size V w6) := below_then GY.out hb
          clear hb
          obtain ⟨c0, c1, c2, d0, d1, d2⟩ := HC.out _ H6.out
          go_wp2_with fail
          clear c0 c1 c2 d0 d1 d2
          refine Calls.mono (FA.out _) ?_
          rintro e w7 ⟨rfl, hb⟩
          have H7 : Hid (Below V.heap.size V w7) := below_then H6.out hb
          clear hb
          go_wp2
          go_ret
          exact ⟨rfl, below_then HBV.out H7.out⟩
        | true =>
          have FA : Hid (∀ W, Calls Tryd.prog 11 #[vV ak an (.slice sa ar.length ca)] W fun e w' => e = .returned (.bool true) ∧ Below W.heap.size W w') := fun W => by have h := right_any ak an sa ar ca la W; rw [ra] at h; exact h
          have FB : Hid (∀ W, Calls Tryd.prog 11 #[vV bk bn (.slice sb br.length cb)] W fun e w' => e = .returned (.bool true) ∧ Below W.heap.size W w') := fun W => by have h := right_any bk bn sb br cb lb W; rw [rb] at h; exact h
          obtain ⟨S, hS⟩ : ∃ S, S = Vl.same ⟨ak, an, ar⟩ ⟨bk, bn, br⟩ := ⟨_, rfl⟩
          have FE : Hid (∀ W, Below V.heap.size V W → Calls Tryd.prog 23 #[.string (Ln.bs [61, 61]), vV ak an (.slice sa ar.length ca), vV bk bn (.slice sb br.length cb)] W fun e w' => e = .returned (.tuple #[vV 2 (Vl.one S) nilV, .int .i64 0]) ∧ Below W.heap.size W w') := fun W hW => by
            have h := HBN.out [61, 61] (by simp) W hW
            have e : Vl.bin [61, 61] (VA.v ⟨ak, an, .slice sa ar.length ca, ar⟩) (VA.v ⟨bk, bn, .slice sb br.length cb, br⟩) = .bool S := by rw [hS]; exact Vl.bin_eq ra rb
            rw [e] at h; exact h
          have FN : Hid (∀ W, Below V.heap.size V W → Calls Tryd.prog 23 #[.string (Ln.bs [33, 61]), vV ak an (.slice sa ar.length ca), vV bk bn (.slice sb br.length cb)] W fun e w' => e = .returned (.tuple #[vV 2 (Vl.one (!S)) nilV, .int .i64 0]) ∧ Below W.heap.size W w') := fun W hW => by
            have h := HBN.out [33, 61] (by simp) W hW
            have e : Vl.bin [33, 61] (VA.v ⟨ak, an, .slice sa ar.length ca, ar⟩) (VA.v ⟨bk, bn, .slice sb br.length cb, br⟩) = .bool (!S) := by rw [hS]; exact Vl.bin_ne ra rb
            rw [e] at h; exact h
          have HSS : Hid (decide (Vl.text ⟨ak, an, ar⟩ = Vl.text ⟨bk, bn, br⟩) = S) := (Vl.same_text ra rb).trans hS.symm
          obtain ⟨TA, hTA⟩ : ∃ T, T = Ln.bs (Vl.text ⟨ak, an, ar⟩) := ⟨_, rfl⟩
          obtain ⟨TB, hTB⟩ : ∃ T, T = Ln.bs (Vl.text ⟨bk, bn, br⟩) := ⟨_, rfl⟩
          have HXA : Hid (∀ W rb, Below V.heap.size V W → W.heap[rb]? = some (.cells #[.int .u8 ak, .int .i64 an, .slice sa ar.length ca] 25 (0, 0)) → Calls Tryd.prog 15 #[.slice (some ⟨rb, 0, none⟩) 1 1] W fun e w' => e = .returned (.string TA) ∧ Below W.heap.size W w') := fun W rb hW hr => by rw [hTA]; exact HT1.out W rb hW hr
          have HXB : Hid (∀ W rb, Below V.heap.size V W → W.heap[rb]? = some (.cells #[.int .u8 bk, .int .i64 bn, .slice sb br.length cb] 25 (0, 0)) → Calls Tryd.prog 15 #[.slice (some ⟨rb, 0, none⟩) 1 1] W fun e w' => e = .returned (.string TB) ∧ Below W.heap.size W w') := fun W rb hW hr => by rw [hTB]; exact HT2.out W rb hW hr
          have HQ3 : Hid ((TA.toList == TB.toList) = S ∧ decide (TA = TB) = S) := by
            have h5 : decide (TA = TB) = S := by rw [← HSS.out, hTA, hTB, Bool.eq_iff_iff]; simp only [decide_eq_true_eq]; exact ⟨fun h => by have := congrArg (fun z : ByteArray => z.data.toList) h; exact this, fun h => by rw [h]⟩
            have h4 : (TA.toList == TB.toList) = S := by rw [← HSS.out, hTA, hTB]; exact bs_beq _ _
            exact ⟨h4, h5⟩
          clear hTA hTB
          have HRA : Hid (_) := ra
          have HRB : Hid (_) := rb
          clear hS ra rb
          refine Calls.mono (FA.out _) ?_
          rintro e w4 ⟨rfl, hb⟩
          have H4 : Hid (Below V.heap.size V w4) := below_then H3.out hb
          have T0_4 : Hid (Below X0.heap.size X0 w4) := below_then T0_3.out hb
          clear hb
          obtain ⟨c0, c1, c2, d0, d1, d2⟩ := HC.out _ H4.out
          go_wp2_with fail
          clear c0 c1 c2 d0 d1 d2
          refine Calls.mono (FB.out _) ?_
          rintro e w5 ⟨rfl, hb⟩
          have H5 : Hid (Below V.heap.size V w5) := below_then H4.out hb
          have T0_5 : Hid (Below X0.heap.size X0 w5) := below_then T0_4.out hb
          clear hb
          obtain ⟨c0, c1, c2, d0, d1, d2⟩ := HC.out _ H5.out
          go_wp2_with fail
          clear c0 c1 c2 d0 d1 d2
          refine Calls.mono (FE.out _ H5.out) ?_
          rintro e w6 ⟨rfl, hb⟩
          have H6 : Hid (Below V.heap.size V w6) := below_then H5.out hb
          have T0_6 : Hid (Below X0.heap.size X0 w6) := below_then T0_5.out hb
          clear hb
          obtain ⟨X1, hX⟩ : ∃ X, X = w6.alloc (.cells #[.int .u8 2, .int .i64 (Vl.one S), .slice none 0 0] 25) := ⟨_, rfl⟩
          have hbx : Below w6.heap.size w6 X1 := hX ▸ below_new _ _
          have D1 : Hid (Below V.heap.size V X1) := below_then H6.out hbx
          have B1 : Hid (∀ W, Below X1.heap.size X1 W → W.cell? ⟨w6.heap.size, 0, none⟩ = some (.int .u8 2) ∧ W.cell? ⟨w6.heap.size, 1, none⟩ = some (.int .i64 (Vl.one S)) ∧ W.cell? ⟨w6.heap.size, 2, none⟩ = some (.slice none 0 0)) := by
            have hn : X1.heap[w6.heap.size]? = some (.cells #[.int .u8 2, .int .i64 (Vl.one S), .slice none 0 0] 25 (0, 0)) := by rw [hX]; exact World.alloc_heap_new _ _
            exact fun W hW => ⟨cell_some_below (vcells_at hn rfl) hW, cell_some_below (vcells_at hn rfl) hW, cell_some_below (vcells_at hn rfl) hW⟩
          have T0_x1 : Hid (Below X0.heap.size X0 X1) := below_then T0_6.out hbx
          have T1_6 : Hid (Below X1.heap.size X1 X1) := Below.refl _ _
          clear hbx
          obtain ⟨c0, c1, c2, d0, d1, d2⟩ := HC.out _ D1.out
          rw [hX] at c0 c1 c2 d0 d1 d2
          go_wp2_with fail
          rw [← hX]
          clear hX c0 c1 c2 d0 d1 d2
          refine Calls.mono (FN.out _ D1.out) ?_
          rintro e w7 ⟨rfl, hb⟩
          have H7 : Hid (Below V.heap.size V w7) := below_then D1.out hb
          have T0_7 : Hid (Below X0.heap.size X0 w7) := below_then T0_x1.out hb
          have T1_7 : Hid (Below X1.heap.size X1 w7) := below_then T1_6.out hb
          clear hb
          obtain ⟨X2, hX⟩ : ∃ X, X = w7.alloc (.cells #[.int .u8 2, .int .i64 (Vl.one (!S)), .slice none 0 0] 25) := ⟨_, rfl⟩
          have hbx : Below w7.heap.size w7 X2 := hX ▸ below_new _ _
          have D2 : Hid (Below V.heap.size V X2) := below_then H7.out hbx
          have B2 : Hid (∀ W, Below X2.heap.size X2 W → W.cell? ⟨w7.heap.size, 0, none⟩ = some (.int .u8 2) ∧ W.cell? ⟨w7.heap.size, 1, none⟩ = some (.int .i64 (Vl.one (!S))) ∧ W.cell? ⟨w7.heap.size, 2, none⟩ = some (.slice none 0 0)) := by
            have hn : X2.heap[w7.heap.size]? = some (.cells #[.int .u8 2, .int .i64 (Vl.one (!S)), .slice none 0 0] 25 (0, 0)) := by rw [hX]; exact World.alloc_heap_new _ _
            exact fun W hW => ⟨cell_some_below (vcells_at hn rfl) hW, cell_some_below (vcells_at hn rfl) hW, cell_some_below (vcells_at hn rfl) hW⟩
          have T0_x2 : Hid (Below X0.heap.size X0 X2) := below_then T0_7.out hbx
          have T1_x2 : Hid (Below X1.heap.size X1 X2) := below_then T1_7.out hbx
          have T2_7 : Hid (Below X2.heap.size X2 X2) := Below.refl _ _
          clear hbx
          have HCL : Hid (∀ W, Below X2.heap.size X2 W → (W.cell? ⟨w.heap.size, 0, none⟩ = some (.int .u8 ak) ∧ W.cell? ⟨w.heap.size, 1, none⟩ = some (.int .i64 an) ∧ W.cell? ⟨w.heap.size, 2, none⟩ = some (.slice sa ar.length ca) ∧ W.cell? ⟨w.heap.size + 1, 0, none⟩ = some (.int .u8 bk) ∧ W.cell? ⟨w.heap.size + 1, 1, none⟩ = some (.int .i64 bn) ∧ W.cell? ⟨w.heap.size + 1, 2, none⟩ = some (.slice sb br.length cb)) ∧ W.cell? ⟨w6.heap.size, 1, none⟩ = some (.int .i64 (Vl.one S)) ∧ W.cell? ⟨w7.heap.size, 1, none⟩ = some (.int .i64 (Vl.one (!S)))) := fun W hW => ⟨HC.out W (below_then D2.out hW), (B1.out W (below_then T1_x2.out hW)).2.1, (B2.out W hW).2.1⟩
          have HTA : Hid (∀ W rb, Below X2.heap.size X2 W → W.heap[rb]? = some (.cells #[.int .u8 ak, .int .i64 an, .slice sa ar.length ca] 25 (0, 0)) → Calls Tryd.prog 15 #[.slice (some ⟨rb, 0, none⟩) 1 1] W fun e w' => e = .returned (.string TA) ∧ Below W.heap.size W w') := fun W rb hW hr => HXA.out W rb (below_then D2.out hW) hr
          have HTB : Hid (∀ W rb, Below X2.heap.size X2 W → W.heap[rb]? = some (.cells #[.int .u8 bk, .int .i64 bn, .slice sb br.length cb] 25 (0, 0)) → Calls Tryd.prog 15 #[.slice (some ⟨rb, 0, none⟩) 1 1] W fun e w' => e = .returned (.string TB) ∧ Below W.heap.size W w') := fun W rb hW hr => HXB.out W rb (below_then D2.out hW) hr
          have q0 : wrap64 (Vl.one S + Vl.one (!S)) = 1 := by cases S <;> simp [Vl.one, wrap64]
          have q6 : IntKind.i64.wrap (Vl.one S + Vl.one (!S)) = 1 := by cases S <;> rfl
          have q1 : (wrap64 (Vl.one S + Vl.one (!S)) != 1) = false := by cases S <;> simp [Vl.one, wrap64]
          have q2 : (Vl.one S == 1) = S := by cases S <;> rfl
          have q4 : (TA.toList == TB.toList) = S := HQ3.out.1
          have q5 : decide (TA = TB) = S := HQ3.out.2
          obtain ⟨c0, c1, c2, d0, d1, d2⟩ := HC.out _ D2.out
          obtain ⟨p1a, p1b, p1c⟩ := B1.out _ T1_x2.out
          obtain ⟨p2a, p2b, p2c⟩ := B2.out _ T2_7.out
          rw [hX] at c0 c1 c2 d0 d1 d2 p1a p1b p1c p2a p2b p2c
          go_wp2_with fail
          rw [← hX]
          clear hX c0 c1 c2 d0 d1 d2 p1a p1b p1c p2a p2b p2c
          refine (wpIn_wide (n := 3)).1 ?_
          have h00 : Below X2.heap.size X2 X2.drew := below_draw X2 1
          refine region_lex (fun z => Below X2.heap.size X2 z) 19 8 rfl (by kernel_rfl) (by kernel_rfl) (by kernel_rfl) (by kernel_rfl) (fun _ _ d _ _ h => by cases d <;> exact h) h00 ?_
          simp only [List.take_succ_cons, List.take_zero]
          iterate 12 (first
            | (apply lexC_want
               · rfl
               · exact fun _ => rfl
               · (intro w' hw'; obtain ⟨⟨c0, c1, c2, d0, d1, d2⟩, p0, p1⟩ := HCL.out w' hw'; go_simp; try rfl)
               simp only [Act.put, List.setIfInBounds_toArray, List.set_cons_zero, List.set_cons_succ])
            | (apply lexC_skip
               · rfl
               · exact fun _ => rfl
               simp only [Act.put, List.setIfInBounds_toArray, List.set_cons_zero, List.set_cons_succ]))
          refine lexC_want (v := .bool false) rfl (fun _ => rfl) (by intro w' hw'; obtain ⟨⟨c0, c1, c2, d0, d1, d2⟩, p0, p1⟩ := HCL.out w' hw'; go_simp; first | done | rfl | simp [q1] | simp [q0] | exact q6 | simp [q6]) ?_
          simp only [Act.put, List.setIfInBounds_toArray, List.set_cons_zero, List.set_cons_succ]
          iterate 6 (first
            | (apply lexC_want
               · rfl
               · exact fun _ => rfl
               · (intro w' hw'; obtain ⟨⟨c0, c1, c2, d0, d1, d2⟩, p0, p1⟩ := HCL.out w' hw'; go_simp; try rfl)
               simp only [Act.put, List.setIfInBounds_toArray, List.set_cons_zero, List.set_cons_succ])
            | (apply lexC_skip
               · rfl
               · exact fun _ => rfl
               simp only [Act.put, List.setIfInBounds_toArray, List.set_cons_zero, List.set_cons_succ]))
          refine lexC_nil ?_
          refine anyC_take (i := 21) (v := .agg #[.int .u8 bk, .int .i64 bn, .slice sb br.length cb]) rfl rfl (by kernel_rfl) (by kernel_rfl) (by kernel_rfl) (fun _ _ d _ _ h => by cases d <;> exact h) h00 (by rfl) (fun _ => rfl) (by intro w' hw'; obtain ⟨⟨c0, c1, c2, d0, d1, d2⟩, p0, p1⟩ := HCL.out w' hw'; go_simp; try rfl) ?_
          obtain ⟨Y0, hY0⟩ : ∃ W, W = X2.drew := ⟨_, rfl⟩
          have G0 : Hid (Below X2.heap.size X2 Y0) := hY0 ▸ h00
          rw [← hY0]
          clear hY0 h00
          refine anyC_two (i := 19) (j := 22) (by kernel_rfl) rfl rfl (by rfl) (by rfl) (fun KA hKA => ?_) (fun KA hKA => ?_)
          · skip
            obtain ⟨Y1, hY⟩ : ∃ Y, Y = Y0.alloc (.cells #[.int .u8 ak, .int .i64 an, .slice sa ar.length ca] 25) := ⟨_, rfl⟩
            have hbY : Below Y0.heap.size Y0 Y1 := hY ▸ below_new Y0 _
            have RA : Hid (Y1.heap[Y0.heap.size]? = some (.cells #[.int .u8 ak, .int .i64 an, .slice sa ar.length ca] 25 (0, 0))) := (show _ from by rw [hY]; exact World.alloc_heap_new Y0 _)
            have G1 : Hid (Below X2.heap.size X2 Y1) := below_then G0.out hbY
            clear hbY
            go_simp
            rw [← hY]
            clear hY
            refine hKA _ _ G1.out ?_
            refine anyC_two (i := 20) (j := 22) (by kernel_rfl) rfl rfl (by rfl) (by rfl) (fun KB hKB => ?_) (fun KB hKB => ?_)
            · skip
              go_simp
              refine ⟨trivial, ?_⟩
              refine (callsIn_wide.2 (HTA.out _ _ G1.out RA.out)).mono ?_
              rintro e Y2 ⟨rfl, hb⟩
              have G2 : Hid (Below X2.heap.size X2 Y2) := below_then G1.out hb
              clear RA
              clear hb
              refine hKB _ _ G2.out ?_
              refine anyC_one (i := 22) (by kernel_rfl) rfl (by rfl) (fun KC hKC => ?_)
              obtain ⟨Y3, hY⟩ : ∃ Y, Y = Y2.alloc (.cells #[.int .u8 bk, .int .i64 bn, .slice sb br.length cb] 25) := ⟨_, rfl⟩
              have hbY : Below Y2.heap.size Y2 Y3 := hY ▸ below_new Y2 _
              have RB : Hid (Y3.heap[Y2.heap.size]? = some (.cells #[.int .u8 bk, .int .i64 bn, .slice sb br.length cb] 25 (0, 0))) := (show _ from by rw [hY]; exact World.alloc_heap_new Y2 _)
              have G3 : Hid (Below X2.heap.size X2 Y3) := below_then G2.out hbY
              clear hbY
              go_simp
              rw [← hY]
              clear hY
              refine hKC _ _ G3.out ?_
              refine anyC_one (i := 23) (by kernel_rfl) rfl (by rfl) (fun KD hKD => ?_)
              go_simp
              refine ⟨trivial, ?_⟩
              refine (callsIn_wide.2 (HTB.out _ _ G3.out RB.out)).mono ?_
              rintro e Y4 ⟨rfl, hb⟩
              have G4 : Hid (Below X2.heap.size X2 Y4) := below_then G3.out hb
              clear RB
              clear hb
              refine hKD _ _ G4.out ?_
              refine anyC_take (i := 24) (v := .bool S) rfl rfl (by kernel_rfl) (by kernel_rfl) (by kernel_rfl) (fun _ _ d _ _ h => by cases d <;> exact h) G4.out (by rfl) (fun _ => rfl) (by intro w' hw'; go_simp; first | done | rfl | simp [q4] | simp [q5]) ?_
              refine anyC_take (i := 25) (v := .bool false) rfl rfl (by kernel_rfl) (by kernel_rfl) (by kernel_rfl) (fun _ _ d _ _ h => by cases d <;> exact h) G4.out (by rfl) (fun _ => rfl) (by intro w' hw'; go_simp; first | done | rfl | simp [q2] | simp) ?_
              refine anyC_take (i := 26) (v := .bool false) rfl rfl (by kernel_rfl) (by kernel_rfl) (by kernel_rfl) (fun _ _ d _ _ h => by cases d <;> exact h) G4.out (by rfl) (fun _ => rfl) (by intro w' hw'; go_simp; try rfl) ?_
              refine anyC_done (by kernel_rfl) ?_
              have L0 : Hid (Below V.heap.size V Y4) := below_then D2.out G4.out
              clear q0 q1 q2 q4 q5 q6
              by_cases hka : ak = 2
              · by_cases hkb : bk = 2
                · skip
                  have ra := HRA.out
                  have rb := HRB.out
                  obtain ⟨P, hP⟩ : ∃ P, P = (decide (an = 1) || decide (bn = 1)) := ⟨_, rfl⟩
                  obtain ⟨p, hp⟩ : ∃ P, P = decide (an = 0) := ⟨_, rfl⟩
                  obtain ⟨q, hq⟩ : ∃ P, P = decide (bn = 0) := ⟨_, rfl⟩
                  have hpq : (p && q) = !P := by
                    rcases Vl.right_cases ra with ⟨k, _⟩ | ⟨_, na, _⟩ | ⟨k, _⟩
                    · simp only at k; omega
                    · rcases Vl.right_cases rb with ⟨k, _⟩ | ⟨_, nb, _⟩ | ⟨k, _⟩
                      · simp only at k; omega
                      · simp only at na nb; rw [hp, hq, hP]; rcases na with na | na <;> rcases nb with nb | nb <;> rw [na, nb] <;> rfl
                      · simp only at k; omega
                    · simp only at k; omega
                  have FO : Hid (∀ W, Below V.heap.size V W → Calls Tryd.prog 23 #[.string (Ln.bs [124, 124]), vV ak an (.slice sa ar.length ca), vV bk bn (.slice sb br.length cb)] W fun e w' => e = .returned (.tuple #[vV 2 (Vl.one P) nilV, .int .i64 0]) ∧ Below W.heap.size W w') := fun W hW => by
                    have h := HBN.out [124, 124] (by simp) W hW
                    have e : Vl.bin [124, 124] (VA.v ⟨ak, an, .slice sa ar.length ca, ar⟩) (VA.v ⟨bk, bn, .slice sb br.length cb, br⟩) = .bool P := by rw [hP]; exact Vl.bin_or ra rb hka hkb
                    rw [e] at h; exact h
                  have FP : Hid (∀ W, Below V.heap.size V W → Calls Tryd.prog 22 #[.string (Ln.bs [33]), vV ak an (.slice sa ar.length ca)] W fun e w' => e = .returned (.tuple #[vV 2 (Vl.one p) nilV, .int .i64 0]) ∧ Below W.heap.size W w') := fun W hW => by
                    have h := HU1.out W hW
                    have e : Vl.un [33] (VA.v ⟨ak, an, .slice sa ar.length ca, ar⟩) = .bool p := by rw [hp]; exact Vl.un_not ra hka
                    rw [e] at h; exact h
                  have FQ : Hid (∀ W, Below V.heap.size V W → Calls Tryd.prog 22 #[.string (Ln.bs [33]), vV bk bn (.slice sb br.length cb)] W fun e w' => e = .returned (.tuple #[vV 2 (Vl.one q) nilV, .int .i64 0]) ∧ Below W.heap.size W w') := fun W hW => by
                    have h := HU2.out W hW
                    have e : Vl.un [33] (VA.v ⟨bk, bn, .slice sb br.length cb, br⟩) = .bool q := by rw [hq]; exact Vl.un_not rb hkb
                    rw [e] at h; exact h
                  have FD : Hid (∀ W, Calls Tryd.prog 23 #[.string (Ln.bs [38, 38]), vV 2 (Vl.one p) nilV, vV 2 (Vl.one q) nilV] W fun e w' => e = .returned (.tuple #[vV 2 (Vl.one (!P)) nilV, .int .i64 0]) ∧ Below W.heap.size W w') := fun W => by
                    have hl : ∀ k n : Int, (⟨k, n, nilV, []⟩ : VA).Low W.heap.size W := fun k n => ⟨⟨none, 0, 0, 0, rfl, ⟨Nat.le_refl _, fun _ => rfl⟩, fun h => absurd h (by simp), fun j x hx => by simp at hx⟩, by simp⟩
                    have h := binary_any [38, 38] (by simp) ⟨2, Vl.one p, nilV, []⟩ ⟨2, Vl.one q, nilV, []⟩ W (hl _ _) (hl _ _)
                    have hr : ∀ x : Bool, Vl.right ⟨2, Vl.one x, []⟩ = true := fun x => by cases x <;> simp [Vl.right, Vl.one]
                    have e : Vl.bin [38, 38] (VA.v ⟨2, Vl.one p, nilV, []⟩) (VA.v ⟨2, Vl.one q, nilV, []⟩) = .bool (!P) := by rw [← hpq]; refine (Vl.bin_and (hr p) (hr q) rfl rfl).trans ?_; cases p <;> cases q <;> rfl
                    rw [e] at h; exact h
                  have q7 : (IntKind.i64.wrap (Vl.one P + Vl.one (!P)) == 1) = true := by cases P <;> rfl
                  have q8 : IntKind.i64.wrap (Vl.one P + Vl.one (!P)) = 1 := by cases P <;> rfl
                  have q9 : wrap64 (Vl.one P + Vl.one (!P)) = 1 := by cases P <;> simp [Vl.one, wrap64]
                  have HQ9 : Hid (_ ∧ _ ∧ _) := ⟨q7, q8, q9⟩
                  have k1 : (ak != 2) = false := by simp [hka]
                  have k2 : (bk != 2) = false := by simp [hkb]
                  clear ra rb hP hp hq hpq q7 q8 q9 hka hkb
                  obtain ⟨c0, c1, c2, d0, d1, d2⟩ := HC.out _ L0.out
                  go_wp2_with fail
                  clear c0 c1 c2 d0 d1 d2
                  refine Calls.mono (FO.out _ L0.out) ?_
                  rintro e w8 ⟨rfl, hb⟩
                  have H8 : Hid (Below V.heap.size V w8) := below_then L0.out hb
                  clear hb
                  obtain ⟨X0, hX⟩ : ∃ X, X = w8.alloc (.cells #[.int .u8 2, .int .i64 (Vl.one P), .slice none 0 0] 25) := ⟨_, rfl⟩
                  have hbx : Below w8.heap.size w8 X0 := hX ▸ below_new _ _
                  have D0 : Hid (Below V.heap.size V X0) := below_then H8.out hbx
                  have B0 : Hid (∀ W, Below X0.heap.size X0 W → W.cell? ⟨w8.heap.size, 0, none⟩ = some (.int .u8 2) ∧ W.cell? ⟨w8.heap.size, 1, none⟩ = some (.int .i64 (Vl.one P)) ∧ W.cell? ⟨w8.heap.size, 2, none⟩ = some (.slice none 0 0)) := by
                    have hn : X0.heap[w8.heap.size]? = some (.cells #[.int .u8 2, .int .i64 (Vl.one P), .slice none 0 0] 25 (0, 0)) := by rw [hX]; exact World.alloc_heap_new _ _
                    exact fun W hW => ⟨cell_some_below (vcells_at hn rfl) hW, cell_some_below (vcells_at hn rfl) hW, cell_some_below (vcells_at hn rfl) hW⟩
                  have T0_8 : Hid (Below X0.heap.size X0 X0) := Below.refl _ _
                  clear hbx
                  obtain ⟨c0, c1, c2, d0, d1, d2⟩ := HC.out _ D0.out
                  rw [hX] at c0 c1 c2 d0 d1 d2
                  go_wp2_with fail
                  rw [← hX]
                  clear hX c0 c1 c2 d0 d1 d2
                  refine Calls.mono (FP.out _ D0.out) ?_
                  rintro e w9 ⟨rfl, hb⟩
                  have H9 : Hid (Below V.heap.size V w9) := below_then D0.out hb
                  have T0_9 : Hid (Below X0.heap.size X0 w9) := below_then T0_8.out hb
                  clear hb
                  obtain ⟨X1, hX⟩ : ∃ X, X = w9.alloc (.cells #[.int .u8 2, .int .i64 (Vl.one p), .slice none 0 0] 25) := ⟨_, rfl⟩
                  have hbx : Below w9.heap.size w9 X1 := hX ▸ below_new _ _
                  have D1 : Hid (Below V.heap.size V X1) := below_then H9.out hbx
                  have B1 : Hid (∀ W, Below X1.heap.size X1 W → W.cell? ⟨w9.heap.size, 0, none⟩ = some (.int .u8 2) ∧ W.cell? ⟨w9.heap.size, 1, none⟩ = some (.int .i64 (Vl.one p)) ∧ W.cell? ⟨w9.heap.size, 2, none⟩ = some (.slice none 0 0)) := by
                    have hn : X1.heap[w9.heap.size]? = some (.cells #[.int .u8 2, .int .i64 (Vl.one p), .slice none 0 0] 25 (0, 0)) := by rw [hX]; exact World.alloc_heap_new _ _
                    exact fun W hW => ⟨cell_some_below (vcells_at hn rfl) hW, cell_some_below (vcells_at hn rfl) hW, cell_some_below (vcells_at hn rfl) hW⟩
                  have T0_x1 : Hid (Below X0.heap.size X0 X1) := below_then T0_9.out hbx
                  have T1_9 : Hid (Below X1.heap.size X1 X1) := Below.refl _ _
                  clear hbx
                  obtain ⟨c0, c1, c2, d0, d1, d2⟩ := HC.out _ D1.out
                  rw [hX] at c0 c1 c2 d0 d1 d2
                  go_wp2_with fail
                  rw [← hX]
                  clear hX c0 c1 c2 d0 d1 d2
                  refine Calls.mono (FQ.out _ D1.out) ?_
                  rintro e w10 ⟨rfl, hb⟩
                  have H10 : Hid (Below V.heap.size V w10) := below_then D1.out hb
                  have T0_10 : Hid (Below X0.heap.size X0 w10) := below_then T0_x1.out hb
                  have T1_10 : Hid (Below X1.heap.size X1 w10) := below_then T1_9.out hb
                  clear hb
                  obtain ⟨X2, hX⟩ : ∃ X, X = w10.alloc (.cells #[.int .u8 2, .int .i64 (Vl.one q), .slice none 0 0] 25) := ⟨_, rfl⟩
                  have hbx : Below w10.heap.size w10 X2 := hX ▸ below_new _ _
                  have D2 : Hid (Below V.heap.size V X2) := below_then H10.out hbx
                  have B2 : Hid (∀ W, Below X2.heap.size X2 W → W.cell? ⟨w10.heap.size, 0, none⟩ = some (.int .u8 2) ∧ W.cell? ⟨w10.heap.size, 1, none⟩ = some (.int .i64 (Vl.one q)) ∧ W.cell? ⟨w10.heap.size, 2, none⟩ = some (.slice none 0 0)) := by
                    have hn : X2.heap[w10.heap.size]? = some (.cells #[.int .u8 2, .int .i64 (Vl.one q), .slice none 0 0] 25 (0, 0)) := by rw [hX]; exact World.alloc_heap_new _ _
                    exact fun W hW => ⟨cell_some_below (vcells_at hn rfl) hW, cell_some_below (vcells_at hn rfl) hW, cell_some_below (vcells_at hn rfl) hW⟩
                  have T0_x2 : Hid (Below X0.heap.size X0 X2) := below_then T0_10.out hbx
                  have T1_x2 : Hid (Below X1.heap.size X1 X2) := below_then T1_10.out hbx
                  have T2_10 : Hid (Below X2.heap.size X2 X2) := Below.refl _ _
                  clear hbx
                  obtain ⟨c0, c1, c2, d0, d1, d2⟩ := HC.out _ D2.out
                  obtain ⟨p1a, p1b, p1c⟩ := B1.out _ T1_x2.out
                  obtain ⟨p2a, p2b, p2c⟩ := B2.out _ T2_10.out
                  rw [hX] at c0 c1 c2 d0 d1 d2 p1a p1b p1c p2a p2b p2c
                  go_wp2_with fail
                  rw [← hX]
                  clear hX c0 c1 c2 d0 d1 d2 p1a p1b p1c p2a p2b p2c
                  refine Calls.mono (FD.out _) ?_
                  rintro e w11 ⟨rfl, hb⟩
                  have H11 : Hid (Below V.heap.size V w11) := below_then D2.out hb
                  have T0_11 : Hid (Below X0.heap.size X0 w11) := below_then T0_x2.out hb
                  have T1_11 : Hid (Below X1.heap.size X1 w11) := below_then T1_x2.out hb
                  have T2_11 : Hid (Below X2.heap.size X2 w11) := below_then T2_10.out hb
                  clear hb
                  obtain ⟨X3, hX⟩ : ∃ X, X = w11.alloc (.cells #[.int .u8 2, .int .i64 (Vl.one (!P)), .slice none 0 0] 25) := ⟨_, rfl⟩
                  have hbx : Below w11.heap.size w11 X3 := hX ▸ below_new _ _
                  have D3 : Hid (Below V.heap.size V X3) := below_then H11.out hbx
                  have B3 : Hid (∀ W, Below X3.heap.size X3 W → W.cell? ⟨w11.heap.size, 0, none⟩ = some (.int .u8 2) ∧ W.cell? ⟨w11.heap.size, 1, none⟩ = some (.int .i64 (Vl.one (!P))) ∧ W.cell? ⟨w11.heap.size, 2, none⟩ = some (.slice none 0 0)) := by
                    have hn : X3.heap[w11.heap.size]? = some (.cells #[.int .u8 2, .int .i64 (Vl.one (!P)), .slice none 0 0] 25 (0, 0)) := by rw [hX]; exact World.alloc_heap_new _ _
                    exact fun W hW => ⟨cell_some_below (vcells_at hn rfl) hW, cell_some_below (vcells_at hn rfl) hW, cell_some_below (vcells_at hn rfl) hW⟩
                  have T0_x3 : Hid (Below X0.heap.size X0 X3) := below_then T0_11.out hbx
                  have T1_x3 : Hid (Below X1.heap.size X1 X3) := below_then T1_11.out hbx
                  have T2_x3 : Hid (Below X2.heap.size X2 X3) := below_then T2_11.out hbx
                  have T3_11 : Hid (Below X3.heap.size X3 X3) := Below.refl _ _
                  clear hbx
                  obtain ⟨q7, q8, q9⟩ := HQ9.out
                  obtain ⟨c0, c1, c2, d0, d1, d2⟩ := HC.out _ D3.out
                  obtain ⟨p0a, p0b, p0c⟩ := B0.out _ T0_x3.out
                  obtain ⟨p3a, p3b, p3c⟩ := B3.out _ T3_11.out
                  rw [hX] at c0 c1 c2 d0 d1 d2 p0a p0b p0c p3a p3b p3c
                  go_wp2
                  rw [← hX]
                  clear hX c0 c1 c2 d0 d1 d2 p0a p0b p0c p3a p3b p3c
                  go_ret
                  exact ⟨by first | rfl | simp [q7] | simp [q8] | simp [q9], below_then HBV.out D3.out⟩
                · skip
                  have k1 : (ak != 2) = false := by simp [hka]
                  have k2 : (bk != 2) = true := by simpa using hkb
                  clear hka hkb
                  obtain ⟨c0, c1, c2, d0, d1, d2⟩ := HC.out _ L0.out
                  go_wp2
                  all_goals go_ret
                  all_goals exact ⟨rfl, below_then HBV.out L0.out⟩
              · skip
                have k1 : (ak != 2) = true := by simpa using hka
                clear hka
                obtain ⟨c0, c1, c2, d0, d1, d2⟩ := HC.out _ L0.out
                go_wp2
                all_goals go_ret
                all_goals exact ⟨rfl, below_then HBV.out L0.out⟩
            · skip
              obtain ⟨Y2, hY⟩ : ∃ Y, Y = Y1.alloc (.cells #[.int .u8 bk, .int .i64 bn, .slice sb br.length cb] 25) := ⟨_, rfl⟩
              have hbY : Below Y1.heap.size Y1 Y2 := hY ▸ below_new Y1 _
              have RB : Hid (Y2.heap[Y1.heap.size]? = some (.cells #[.int .u8 bk, .int .i64 bn, .slice sb br.length cb] 25 (0, 0))) := (show _ from by rw [hY]; exact World.alloc_heap_new Y1 _)
              have G2 : Hid (Below X2.heap.size X2 Y2) := below_then G1.out hbY
              have RA2 : Hid (Y2.heap[Y0.heap.size]? = some (.cells #[.int .u8 ak, .int .i64 an, .slice sa ar.length ca] 25 (0, 0))) := (hbY.block _ (Array.getElem?_eq_some_iff.1 RA.out).1).trans RA.out
              clear RA
              have RA : Hid (_) := RA2.out
              clear RA2
              clear hbY
              go_simp
              rw [← hY]
              clear hY
              refine hKB _ _ G2.out ?_
              refine anyC_one (i := 20) (by kernel_rfl) rfl (by rfl) (fun KC hKC => ?_)
              go_simp
              refine ⟨trivial, ?_⟩
              refine (callsIn_wide.2 (HTA.out _ _ G2.out RA.out)).mono ?_
              rintro e Y3 ⟨rfl, hb⟩
              have G3 : Hid (Below X2.heap.size X2 Y3) := below_then G2.out hb
              clear RA
              have RB2 : Hid (Y3.heap[Y1.heap.size]? = some (.cells #[.int .u8 bk, .int .i64 bn, .slice sb br.length cb] 25 (0, 0))) := (hb.block _ (Array.getElem?_eq_some_iff.1 RB.out).1).trans RB.out
              clear RB
              have RB : Hid (_) := RB2.out
              clear RB2
              clear hb
              refine hKC _ _ G3.out ?_
              refine anyC_one (i := 23) (by kernel_rfl) rfl (by rfl) (fun KD hKD => ?_)
              go_simp
              refine ⟨trivial, ?_⟩
              refine (callsIn_wide.2 (HTB.out _ _ G3.out RB.out)).mono ?_
              rintro e Y4 ⟨rfl, hb⟩
              have G4 : Hid (Below X2.heap.size X2 Y4) := below_then G3.out hb
              clear RB
              clear hb
              refine hKD _ _ G4.out ?_
              refine anyC_take (i := 24) (v := .bool S) rfl rfl (by kernel_rfl) (by kernel_rfl) (by kernel_rfl) (fun _ _ d _ _ h => by cases d <;> exact h) G4.out (by rfl) (fun _ => rfl) (by intro w' hw'; go_simp; first | done | rfl | simp [q4] | simp [q5]) ?_
              refine anyC_take (i := 25) (v := .bool false) rfl rfl (by kernel_rfl) (by kernel_rfl) (by kernel_rfl) (fun _ _ d _ _ h => by cases d <;> exact h) G4.out (by rfl) (fun _ => rfl) (by intro w' hw'; go_simp; first | done | rfl | simp [q2] | simp) ?_
              refine anyC_take (i := 26) (v := .bool false) rfl rfl (by kernel_rfl) (by kernel_rfl) (by kernel_rfl) (fun _ _ d _ _ h => by cases d <;> exact h) G4.out (by rfl) (fun _ => rfl) (by intro w' hw'; go_simp; try rfl) ?_
              refine anyC_done (by kernel_rfl) ?_
              have L0 : Hid (Below V.heap.size V Y4) := below_then D2.out G4.out
              clear q0 q1 q2 q4 q5 q6
              by_cases hka : ak = 2
              · by_cases hkb : bk = 2
                · skip
                  have ra := HRA.out
                  have rb := HRB.out
                  obtain ⟨P, hP⟩ : ∃ P, P = (decide (an = 1) || decide (bn = 1)) := ⟨_, rfl⟩
                  obtain ⟨p, hp⟩ : ∃ P, P = decide (an = 0) := ⟨_, rfl⟩
                  obtain ⟨q, hq⟩ : ∃ P, P = decide (bn = 0) := ⟨_, rfl⟩
                  have hpq : (p && q) = !P := by
                    rcases Vl.right_cases ra with ⟨k, _⟩ | ⟨_, na, _⟩ | ⟨k, _⟩
                    · simp only at k; omega
                    · rcases Vl.right_cases rb with ⟨k, _⟩ | ⟨_, nb, _⟩ | ⟨k, _⟩
                      · simp only at k; omega
                      · simp only at na nb; rw [hp, hq, hP]; rcases na with na | na <;> rcases nb with nb | nb <;> rw [na, nb] <;> rfl
                      · simp only at k; omega
                    · simp only at k; omega
                  have FO : Hid (∀ W, Below V.heap.size V W → Calls Tryd.prog 23 #[.string (Ln.bs [124, 124]), vV ak an (.slice sa ar.length ca), vV bk bn (.slice sb br.length cb)] W fun e w' => e = .returned (.tuple #[vV 2 (Vl.one P) nilV, .int .i64 0]) ∧ Below W.heap.size W w') := fun W hW => by
                    have h := HBN.out [124, 124] (by simp) W hW
                    have e : Vl.bin [124, 124] (VA.v ⟨ak, an, .slice sa ar.length ca, ar⟩) (VA.v ⟨bk, bn, .slice sb br.length cb, br⟩) = .bool P := by rw [hP]; exact Vl.bin_or ra rb hka hkb
                    rw [e] at h; exact h
                  have FP : Hid (∀ W, Below V.heap.size V W → Calls Tryd.prog 22 #[.string (Ln.bs [33]), vV ak an (.slice sa ar.length ca)] W fun e w' => e = .returned (.tuple #[vV 2 (Vl.one p) nilV, .int .i64 0]) ∧ Below W.heap.size W w') := fun W hW => by
                    have h := HU1.out W hW
                    have e : Vl.un [33] (VA.v ⟨ak, an, .slice sa ar.length ca, ar⟩) = .bool p := by rw [hp]; exact Vl.un_not ra hka
                    rw [e] at h; exact h
                  have FQ : Hid (∀ W, Below V.heap.size V W → Calls Tryd.prog 22 #[.string (Ln.bs [33]), vV bk bn (.slice sb br.length cb)] W fun e w' => e = .returned (.tuple #[vV 2 (Vl.one q) nilV, .int .i64 0]) ∧ Below W.heap.size W w') := fun W hW => by
                    have h := HU2.out W hW
                    have e : Vl.un [33] (VA.v ⟨bk, bn, .slice sb br.length cb, br⟩) = .bool q := by rw [hq]; exact Vl.un_not rb hkb
                    rw [e] at h; exact h
                  have FD : Hid (∀ W, Calls Tryd.prog 23 #[.string (Ln.bs [38, 38]), vV 2 (Vl.one p) nilV, vV 2 (Vl.one q) nilV] W fun e w' => e = .returned (.tuple #[vV 2 (Vl.one (!P)) nilV, .int .i64 0]) ∧ Below W.heap.size W w') := fun W => by
                    have hl : ∀ k n : Int, (⟨k, n, nilV, []⟩ : VA).Low W.heap.size W := fun k n => ⟨⟨none, 0, 0, 0, rfl, ⟨Nat.le_refl _, fun _ => rfl⟩, fun h => absurd h (by simp), fun j x hx => by simp at hx⟩, by simp⟩
                    have h := binary_any [38, 38] (by simp) ⟨2, Vl.one p, nilV, []⟩ ⟨2, Vl.one q, nilV, []⟩ W (hl _ _) (hl _ _)
                    have hr : ∀ x : Bool, Vl.right ⟨2, Vl.one x, []⟩ = true := fun x => by cases x <;> simp [Vl.right, Vl.one]
                    have e : Vl.bin [38, 38] (VA.v ⟨2, Vl.one p, nilV, []⟩) (VA.v ⟨2, Vl.one q, nilV, []⟩) = .bool (!P) := by rw [← hpq]; refine (Vl.bin_and (hr p) (hr q) rfl rfl).trans ?_; cases p <;> cases q <;> rfl
                    rw [e] at h; exact h
                  have q7 : (IntKind.i64.wrap (Vl.one P + Vl.one (!P)) == 1) = true := by cases P <;> rfl
                  have q8 : IntKind.i64.wrap (Vl.one P + Vl.one (!P)) = 1 := by cases P <;> rfl
                  have q9 : wrap64 (Vl.one P + Vl.one (!P)) = 1 := by cases P <;> simp [Vl.one, wrap64]
                  have HQ9 : Hid (_ ∧ _ ∧ _) := ⟨q7, q8, q9⟩
                  have k1 : (ak != 2) = false := by simp [hka]
                  have k2 : (bk != 2) = false := by simp [hkb]
                  clear ra rb hP hp hq hpq q7 q8 q9 hka hkb
                  obtain ⟨c0, c1, c2, d0, d1, d2⟩ := HC.out _ L0.out
                  go_wp2_with fail
                  clear c0 c1 c2 d0 d1 d2
                  refine Calls.mono (FO.out _ L0.out) ?_
                  rintro e w8 ⟨rfl, hb⟩
                  have H8 : Hid (Below V.heap.size V w8) := below_then L0.out hb
                  clear hb
                  obtain ⟨X0, hX⟩ : ∃ X, X = w8.alloc (.cells #[.int .u8 2, .int .i64 (Vl.one P), .slice none 0 0] 25) := ⟨_, rfl⟩
                  have hbx : Below w8.heap.size w8 X0 := hX ▸ below_new _ _
                  have D0 : Hid (Below V.heap.size V X0) := below_then H8.out hbx
                  have B0 : Hid (∀ W, Below X0.heap.size X0 W → W.cell? ⟨w8.heap.size, 0, none⟩ = some (.int .u8 2) ∧ W.cell? ⟨w8.heap.size, 1, none⟩ = some (.int .i64 (Vl.one P)) ∧ W.cell? ⟨w8.heap.size, 2, none⟩ = some (.slice none 0 0)) := by
                    have hn : X0.heap[w8.heap.size]? = some (.cells #[.int .u8 2, .int .i64 (Vl.one P), .slice none 0 0] 25 (0, 0)) := by rw [hX]; exact World.alloc_heap_new _ _
                    exact fun W hW => ⟨cell_some_below (vcells_at hn rfl) hW, cell_some_below (vcells_at hn rfl) hW, cell_some_below (vcells_at hn rfl) hW⟩
                  have T0_8 : Hid (Below X0.heap.size X0 X0) := Below.refl _ _
                  clear hbx
                  obtain ⟨c0, c1, c2, d0, d1, d2⟩ := HC.out _ D0.out
                  rw [hX] at c0 c1 c2 d0 d1 d2
                  go_wp2_with fail
                  rw [← hX]
                  clear hX c0 c1 c2 d0 d1 d2
                  refine Calls.mono (FP.out _ D0.out) ?_
                  rintro e w9 ⟨rfl, hb⟩
                  have H9 : Hid (Below V.heap.size V w9) := below_then D0.out hb
                  have T0_9 : Hid (Below X0.heap.size X0 w9) := below_then T0_8.out hb
                  clear hb
                  obtain ⟨X1, hX⟩ : ∃ X, X = w9.alloc (.cells #[.int .u8 2, .int .i64 (Vl.one p), .slice none 0 0] 25) := ⟨_, rfl⟩
                  have hbx : Below w9.heap.size w9 X1 := hX ▸ below_new _ _
                  have D1 : Hid (Below V.heap.size V X1) := below_then H9.out hbx
                  have B1 : Hid (∀ W, Below X1.heap.size X1 W → W.cell? ⟨w9.heap.size, 0, none⟩ = some (.int .u8 2) ∧ W.cell? ⟨w9.heap.size, 1, none⟩ = some (.int .i64 (Vl.one p)) ∧ W.cell? ⟨w9.heap.size, 2, none⟩ = some (.slice none 0 0)) := by
                    have hn : X1.heap[w9.heap.size]? = some (.cells #[.int .u8 2, .int .i64 (Vl.one p), .slice none 0 0] 25 (0, 0)) := by rw [hX]; exact World.alloc_heap_new _ _
                    exact fun W hW => ⟨cell_some_below (vcells_at hn rfl) hW, cell_some_below (vcells_at hn rfl) hW, cell_some_below (vcells_at hn rfl) hW⟩
                  have T0_x1 : Hid (Below X0.heap.size X0 X1) := below_then T0_9.out hbx
                  have T1_9 : Hid (Below X1.heap.size X1 X1) := Below.refl _ _
                  clear hbx
                  obtain ⟨c0, c1, c2, d0, d1, d2⟩ := HC.out _ D1.out
                  rw [hX] at c0 c1 c2 d0 d1 d2
                  go_wp2_with fail
                  rw [← hX]
                  clear hX c0 c1 c2 d0 d1 d2
                  refine Calls.mono (FQ.out _ D1.out) ?_
                  rintro e w10 ⟨rfl, hb⟩
                  have H10 : Hid (Below V.heap.size V w10) := below_then D1.out hb
                  have T0_10 : Hid (Below X0.heap.size X0 w10) := below_then T0_x1.out hb
                  have T1_10 : Hid (Below X1.heap.size X1 w10) := below_then T1_9.out hb
                  clear hb
                  obtain ⟨X2, hX⟩ : ∃ X, X = w10.alloc (.cells #[.int .u8 2, .int .i64 (Vl.one q), .slice none 0 0] 25) := ⟨_, rfl⟩
                  have hbx : Below w10.heap.size w10 X2 := hX ▸ below_new _ _
                  have D2 : Hid (Below V.heap.size V X2) := below_then H10.out hbx
                  have B2 : Hid (∀ W, Below X2.heap.size X2 W → W.cell? ⟨w10.heap.size, 0, none⟩ = some (.int .u8 2) ∧ W.cell? ⟨w10.heap.size, 1, none⟩ = some (.int .i64 (Vl.one q)) ∧ W.cell? ⟨w10.heap.size, 2, none⟩ = some (.slice none 0 0)) := by
                    have hn : X2.heap[w10.heap.size]? = some (.cells #[.int .u8 2, .int .i64 (Vl.one q), .slice none 0 0] 25 (0, 0)) := by rw [hX]; exact World.alloc_heap_new _ _
                    exact fun W hW => ⟨cell_some_below (vcells_at hn rfl) hW, cell_some_below (vcells_at hn rfl) hW, cell_some_below (vcells_at hn rfl) hW⟩
                  have T0_x2 : Hid (Below X0.heap.size X0 X2) := below_then T0_10.out hbx
                  have T1_x2 : Hid (Below X1.heap.size X1 X2) := below_then T1_10.out hbx
                  have T2_10 : Hid (Below X2.heap.size X2 X2) := Below.refl _ _
                  clear hbx
                  obtain ⟨c0, c1, c2, d0, d1, d2⟩ := HC.out _ D2.out
                  obtain ⟨p1a, p1b, p1c⟩ := B1.out _ T1_x2.out
                  obtain ⟨p2a, p2b, p2c⟩ := B2.out _ T2_10.out
                  rw [hX] at c0 c1 c2 d0 d1 d2 p1a p1b p1c p2a p2b p2c
                  go_wp2_with fail
                  rw [← hX]
                  clear hX c0 c1 c2 d0 d1 d2 p1a p1b p1c p2a p2b p2c
                  refine Calls.mono (FD.out _) ?_
                  rintro e w11 ⟨rfl, hb⟩
                  have H11 : Hid (Below V.heap.size V w11) := below_then D2.out hb
                  have T0_11 : Hid (Below X0.heap.size X0 w11) := below_then T0_x2.out hb
                  have T1_11 : Hid (Below X1.heap.size X1 w11) := below_then T1_x2.out hb
                  have T2_11 : Hid (Below X2.heap.size X2 w11) := below_then T2_10.out hb
                  clear hb
                  obtain ⟨X3, hX⟩ : ∃ X, X = w11.alloc (.cells #[.int .u8 2, .int .i64 (Vl.one (!P)), .slice none 0 0] 25) := ⟨_, rfl⟩
                  have hbx : Below w11.heap.size w11 X3 := hX ▸ below_new _ _
                  have D3 : Hid (Below V.heap.size V X3) := below_then H11.out hbx
                  have B3 : Hid (∀ W, Below X3.heap.size X3 W → W.cell? ⟨w11.heap.size, 0, none⟩ = some (.int .u8 2) ∧ W.cell? ⟨w11.heap.size, 1, none⟩ = some (.int .i64 (Vl.one (!P))) ∧ W.cell? ⟨w11.heap.size, 2, none⟩ = some (.slice none 0 0)) := by
                    have hn : X3.heap[w11.heap.size]? = some (.cells #[.int .u8 2, .int .i64 (Vl.one (!P)), .slice none 0 0] 25 (0, 0)) := by rw [hX]; exact World.alloc_heap_new _ _
                    exact fun W hW => ⟨cell_some_below (vcells_at hn rfl) hW, cell_some_below (vcells_at hn rfl) hW, cell_some_below (vcells_at hn rfl) hW⟩
                  have T0_x3 : Hid (Below X0.heap.size X0 X3) := below_then T0_11.out hbx
                  have T1_x3 : Hid (Below X1.heap.size X1 X3) := below_then T1_11.out hbx
                  have T2_x3 : Hid (Below X2.heap.size X2 X3) := below_then T2_11.out hbx
                  have T3_11 : Hid (Below X3.heap.size X3 X3) := Below.refl _ _
                  clear hbx
                  obtain ⟨q7, q8, q9⟩ := HQ9.out
                  obtain ⟨c0, c1, c2, d0, d1, d2⟩ := HC.out _ D3.out
                  obtain ⟨p0a, p0b, p0c⟩ := B0.out _ T0_x3.out
                  obtain ⟨p3a, p3b, p3c⟩ := B3.out _ T3_11.out
                  rw [hX] at c0 c1 c2 d0 d1 d2 p0a p0b p0c p3a p3b p3c
                  go_wp2
                  rw [← hX]
                  clear hX c0 c1 c2 d0 d1 d2 p0a p0b p0c p3a p3b p3c
                  go_ret
                  exact ⟨by first | rfl | simp [q7] | simp [q8] | simp [q9], below_then HBV.out D3.out⟩
                · skip
                  have k1 : (ak != 2) = false := by simp [hka]
                  have k2 : (bk != 2) = true := by simpa using hkb
                  clear hka hkb
                  obtain ⟨c0, c1, c2, d0, d1, d2⟩ := HC.out _ L0.out
                  go_wp2
                  all_goals go_ret
                  all_goals exact ⟨rfl, below_then HBV.out L0.out⟩
              · skip
                have k1 : (ak != 2) = true := by simpa using hka
                clear hka
                obtain ⟨c0, c1, c2, d0, d1, d2⟩ := HC.out _ L0.out
                go_wp2
                all_goals go_ret
                all_goals exact ⟨rfl, below_then HBV.out L0.out⟩
          · skip
            obtain ⟨Y1, hY⟩ : ∃ Y, Y = Y0.alloc (.cells #[.int .u8 bk, .int .i64 bn, .slice sb br.length cb] 25) := ⟨_, rfl⟩
            have hbY : Below Y0.heap.size Y0 Y1 := hY ▸ below_new Y0 _
            have RB : Hid (Y1.heap[Y0.heap.size]? = some (.cells #[.int .u8 bk, .int .i64 bn, .slice sb br.length cb] 25 (0, 0))) := (show _ from by rw [hY]; exact World.alloc_heap_new Y0 _)
            have G1 : Hid (Below X2.heap.size X2 Y1) := below_then G0.out hbY
            clear hbY
            go_simp
            rw [← hY]
            clear hY
            refine hKA _ _ G1.out ?_
            refine anyC_one (i := 19) (by kernel_rfl) rfl (by rfl) (fun KB hKB => ?_)
            obtain ⟨Y2, hY⟩ : ∃ Y, Y = Y1.alloc (.cells #[.int .u8 ak, .int .i64 an, .slice sa ar.length ca] 25) := ⟨_, rfl⟩
            have hbY : Below Y1.heap.size Y1 Y2 := hY ▸ below_new Y1 _
            have RA : Hid (Y2.heap[Y1.heap.size]? = some (.cells #[.int .u8 ak, .int .i64 an, .slice sa ar.length ca] 25 (0, 0))) := (show _ from by rw [hY]; exact World.alloc_heap_new Y1 _)
            have G2 : Hid (Below X2.heap.size X2 Y2) := below_then G1.out hbY
            have RB2 : Hid (Y2.heap[Y0.heap.size]? = some (.cells #[.int .u8 bk, .int .i64 bn, .slice sb br.length cb] 25 (0, 0))) := (hbY.block _ (Array.getElem?_eq_some_iff.1 RB.out).1).trans RB.out
            clear RB
            have RB : Hid (_) := RB2.out
            clear RB2
            clear hbY
            go_simp
            rw [← hY]
            clear hY
            refine hKB _ _ G2.out ?_
            refine anyC_one (i := 20) (by kernel_rfl) rfl (by rfl) (fun KC hKC => ?_)
            go_simp
            refine ⟨trivial, ?_⟩
            refine (callsIn_wide.2 (HTA.out _ _ G2.out RA.out)).mono ?_
            rintro e Y3 ⟨rfl, hb⟩
            have G3 : Hid (Below X2.heap.size X2 Y3) := below_then G2.out hb
            clear RA
            have RB2 : Hid (Y3.heap[Y0.heap.size]? = some (.cells #[.int .u8 bk, .int .i64 bn, .slice sb br.length cb] 25 (0, 0))) := (hb.block _ (Array.getElem?_eq_some_iff.1 RB.out).1).trans RB.out
            clear RB
            have RB : Hid (_) := RB2.out
            clear RB2
            clear hb
            refine hKC _ _ G3.out ?_
            refine anyC_one (i := 23) (by kernel_rfl) rfl (by rfl) (fun KD hKD => ?_)
            go_simp
            refine ⟨trivial, ?_⟩
            refine (callsIn_wide.2 (HTB.out _ _ G3.out RB.out)).mono ?_
            rintro e Y4 ⟨rfl, hb⟩
            have G4 : Hid (Below X2.heap.size X2 Y4) := below_then G3.out hb
            clear RB
            clear hb
            refine hKD _ _ G4.out ?_
            refine anyC_take (i := 24) (v := .bool S) rfl rfl (by kernel_rfl) (by kernel_rfl) (by kernel_rfl) (fun _ _ d _ _ h => by cases d <;> exact h) G4.out (by rfl) (fun _ => rfl) (by intro w' hw'; go_simp; first | done | rfl | simp [q4] | simp [q5]) ?_
            refine anyC_take (i := 25) (v := .bool false) rfl rfl (by kernel_rfl) (by kernel_rfl) (by kernel_rfl) (fun _ _ d _ _ h => by cases d <;> exact h) G4.out (by rfl) (fun _ => rfl) (by intro w' hw'; go_simp; first | done | rfl | simp [q2] | simp) ?_
            refine anyC_take (i := 26) (v := .bool false) rfl rfl (by kernel_rfl) (by kernel_rfl) (by kernel_rfl) (fun _ _ d _ _ h => by cases d <;> exact h) G4.out (by rfl) (fun _ => rfl) (by intro w' hw'; go_simp; try rfl) ?_
            refine anyC_done (by kernel_rfl) ?_
            have L0 : Hid (Below V.heap.size V Y4) := below_then D2.out G4.out
            clear q0 q1 q2 q4 q5 q6
            by_cases hka : ak = 2
            · by_cases hkb : bk = 2
              · skip
                have ra := HRA.out
                have rb := HRB.out
                obtain ⟨P, hP⟩ : ∃ P, P = (decide (an = 1) || decide (bn = 1)) := ⟨_, rfl⟩
                obtain ⟨p, hp⟩ : ∃ P, P = decide (an = 0) := ⟨_, rfl⟩
                obtain ⟨q, hq⟩ : ∃ P, P = decide (bn = 0) := ⟨_, rfl⟩
                have hpq : (p && q) = !P := by
                  rcases Vl.right_cases ra with ⟨k, _⟩ | ⟨_, na, _⟩ | ⟨k, _⟩
                  · simp only at k; omega
                  · rcases Vl.right_cases rb with ⟨k, _⟩ | ⟨_, nb, _⟩ | ⟨k, _⟩
                    · simp only at k; omega
                    · simp only at na nb; rw [hp, hq, hP]; rcases na with na | na <;> rcases nb with nb | nb <;> rw [na, nb] <;> rfl
                    · simp only at k; omega
                  · simp only at k; omega
                have FO : Hid (∀ W, Below V.heap.size V W → Calls Tryd.prog 23 #[.string (Ln.bs [124, 124]), vV ak an (.slice sa ar.length ca), vV bk bn (.slice sb br.length cb)] W fun e w' => e = .returned (.tuple #[vV 2 (Vl.one P) nilV, .int .i64 0]) ∧ Below W.heap.size W w') := fun W hW => by
                  have h := HBN.out [124, 124] (by simp) W hW
                  have e : Vl.bin [124, 124] (VA.v ⟨ak, an, .slice sa ar.length ca, ar⟩) (VA.v ⟨bk, bn, .slice sb br.length cb, br⟩) = .bool P := by rw [hP]; exact Vl.bin_or ra rb hka hkb
                  rw [e] at h; exact h
                have FP : Hid (∀ W, Below V.heap.size V W → Calls Tryd.prog 22 #[.string (Ln.bs [33]), vV ak an (.slice sa ar.length ca)] W fun e w' => e = .returned (.tuple #[vV 2 (Vl.one p) nilV, .int .i64 0]) ∧ Below W.heap.size W w') := fun W hW => by
                  have h := HU1.out W hW
                  have e : Vl.un [33] (VA.v ⟨ak, an, .slice sa ar.length ca, ar⟩) = .bool p := by rw [hp]; exact Vl.un_not ra hka
                  rw [e] at h; exact h
                have FQ : Hid (∀ W, Below V.heap.size V W → Calls Tryd.prog 22 #[.string (Ln.bs [33]), vV bk bn (.slice sb br.length cb)] W fun e w' => e = .returned (.tuple #[vV 2 (Vl.one q) nilV, .int .i64 0]) ∧ Below W.heap.size W w') := fun W hW => by
                  have h := HU2.out W hW
                  have e : Vl.un [33] (VA.v ⟨bk, bn, .slice sb br.length cb, br⟩) = .bool q := by rw [hq]; exact Vl.un_not rb hkb
                  rw [e] at h; exact h
                have FD : Hid (∀ W, Calls Tryd.prog 23 #[.string (Ln.bs [38, 38]), vV 2 (Vl.one p) nilV, vV 2 (Vl.one q) nilV] W fun e w' => e = .returned (.tuple #[vV 2 (Vl.one (!P)) nilV, .int .i64 0]) ∧ Below W.heap.size W w') := fun W => by
                  have hl : ∀ k n : Int, (⟨k, n, nilV, []⟩ : VA).Low W.heap.size W := fun k n => ⟨⟨none, 0, 0, 0, rfl, ⟨Nat.le_refl _, fun _ => rfl⟩, fun h => absurd h (by simp), fun j x hx => by simp at hx⟩, by simp⟩
                  have h := binary_any [38, 38] (by simp) ⟨2, Vl.one p, nilV, []⟩ ⟨2, Vl.one q, nilV, []⟩ W (hl _ _) (hl _ _)
                  have hr : ∀ x : Bool, Vl.right ⟨2, Vl.one x, []⟩ = true := fun x => by cases x <;> simp [Vl.right, Vl.one]
                  have e : Vl.bin [38, 38] (VA.v ⟨2, Vl.one p, nilV, []⟩) (VA.v ⟨2, Vl.one q, nilV, []⟩) = .bool (!P) := by rw [← hpq]; refine (Vl.bin_and (hr p) (hr q) rfl rfl).trans ?_; cases p <;> cases q <;> rfl
                  rw [e] at h; exact h
                have q7 : (IntKind.i64.wrap (Vl.one P + Vl.one (!P)) == 1) = true := by cases P <;> rfl
                have q8 : IntKind.i64.wrap (Vl.one P + Vl.one (!P)) = 1 := by cases P <;> rfl
                have q9 : wrap64 (Vl.one P + Vl.one (!P)) = 1 := by cases P <;> simp [Vl.one, wrap64]
                have HQ9 : Hid (_ ∧ _ ∧ _) := ⟨q7, q8, q9⟩
                have k1 : (ak != 2) = false := by simp [hka]
                have k2 : (bk != 2) = false := by simp [hkb]
                clear ra rb hP hp hq hpq q7 q8 q9 hka hkb
                obtain ⟨c0, c1, c2, d0, d1, d2⟩ := HC.out _ L0.out
                go_wp2_with fail
                clear c0 c1 c2 d0 d1 d2
                refine Calls.mono (FO.out _ L0.out) ?_
                rintro e w8 ⟨rfl, hb⟩
                have H8 : Hid (Below V.heap.size V w8) := below_then L0.out hb
                clear hb
                obtain ⟨X0, hX⟩ : ∃ X, X = w8.alloc (.cells #[.int .u8 2, .int .i64 (Vl.one P), .slice none 0 0] 25) := ⟨_, rfl⟩
                have hbx : Below w8.heap.size w8 X0 := hX ▸ below_new _ _
                have D0 : Hid (Below V.heap.size V X0) := below_then H8.out hbx
                have B0 : Hid (∀ W, Below X0.heap.size X0 W → W.cell? ⟨w8.heap.size, 0, none⟩ = some (.int .u8 2) ∧ W.cell? ⟨w8.heap.size, 1, none⟩ = some (.int .i64 (Vl.one P)) ∧ W.cell? ⟨w8.heap.size, 2, none⟩ = some (.slice none 0 0)) := by
                  have hn : X0.heap[w8.heap.size]? = some (.cells #[.int .u8 2, .int .i64 (Vl.one P), .slice none 0 0] 25 (0, 0)) := by rw [hX]; exact World.alloc_heap_new _ _
                  exact fun W hW => ⟨cell_some_below (vcells_at hn rfl) hW, cell_some_below (vcells_at hn rfl) hW, cell_some_below (vcells_at hn rfl) hW⟩
                have T0_8 : Hid (Below X0.heap.size X0 X0) := Below.refl _ _
                clear hbx
                obtain ⟨c0, c1, c2, d0, d1, d2⟩ := HC.out _ D0.out
                rw [hX] at c0 c1 c2 d0 d1 d2
                go_wp2_with fail
                rw [← hX]
                clear hX c0 c1 c2 d0 d1 d2
                refine Calls.mono (FP.out _ D0.out) ?_
                rintro e w9 ⟨rfl, hb⟩
                have H9 : Hid (Below V.heap.size V w9) := below_then D0.out hb
                have T0_9 : Hid (Below X0.heap.size X0 w9) := below_then T0_8.out hb
                clear hb
                obtain ⟨X1, hX⟩ : ∃ X, X = w9.alloc (.cells #[.int .u8 2, .int .i64 (Vl.one p), .slice none 0 0] 25) := ⟨_, rfl⟩
                have hbx : Below w9.heap.size w9 X1 := hX ▸ below_new _ _
                have D1 : Hid (Below V.heap.size V X1) := below_then H9.out hbx
                have B1 : Hid (∀ W, Below X1.heap.size X1 W → W.cell? ⟨w9.heap.size, 0, none⟩ = some (.int .u8 2) ∧ W.cell? ⟨w9.heap.size, 1, none⟩ = some (.int .i64 (Vl.one p)) ∧ W.cell? ⟨w9.heap.size, 2, none⟩ = some (.slice none 0 0)) := by
                  have hn : X1.heap[w9.heap.size]? = some (.cells #[.int .u8 2, .int .i64 (Vl.one p), .slice none 0 0] 25 (0, 0)) := by rw [hX]; exact World.alloc_heap_new _ _
                  exact fun W hW => ⟨cell_some_below (vcells_at hn rfl) hW, cell_some_below (vcells_at hn rfl) hW, cell_some_below (vcells_at hn rfl) hW⟩
                have T0_x1 : Hid (Below X0.heap.size X0 X1) := below_then T0_9.out hbx
                have T1_9 : Hid (Below X1.heap.size X1 X1) := Below.refl _ _
                clear hbx
                obtain ⟨c0, c1, c2, d0, d1, d2⟩ := HC.out _ D1.out
                rw [hX] at c0 c1 c2 d0 d1 d2
                go_wp2_with fail
                rw [← hX]
                clear hX c0 c1 c2 d0 d1 d2
                refine Calls.mono (FQ.out _ D1.out) ?_
                rintro e w10 ⟨rfl, hb⟩
                have H10 : Hid (Below V.heap.size V w10) := below_then D1.out hb
                have T0_10 : Hid (Below X0.heap.size X0 w10) := below_then T0_x1.out hb
                have T1_10 : Hid (Below X1.heap.size X1 w10) := below_then T1_9.out hb
                clear hb
                obtain ⟨X2, hX⟩ : ∃ X, X = w10.alloc (.cells #[.int .u8 2, .int .i64 (Vl.one q), .slice none 0 0] 25) := ⟨_, rfl⟩
                have hbx : Below w10.heap.size w10 X2 := hX ▸ below_new _ _
                have D2 : Hid (Below V.heap.size V X2) := below_then H10.out hbx
                have B2 : Hid (∀ W, Below X2.heap.size X2 W → W.cell? ⟨w10.heap.size, 0, none⟩ = some (.int .u8 2) ∧ W.cell? ⟨w10.heap.size, 1, none⟩ = some (.int .i64 (Vl.one q)) ∧ W.cell? ⟨w10.heap.size, 2, none⟩ = some (.slice none 0 0)) := by
                  have hn : X2.heap[w10.heap.size]? = some (.cells #[.int .u8 2, .int .i64 (Vl.one q), .slice none 0 0] 25 (0, 0)) := by rw [hX]; exact World.alloc_heap_new _ _
                  exact fun W hW => ⟨cell_some_below (vcells_at hn rfl) hW, cell_some_below (vcells_at hn rfl) hW, cell_some_below (vcells_at hn rfl) hW⟩
                have T0_x2 : Hid (Below X0.heap.size X0 X2) := below_then T0_10.out hbx
                have T1_x2 : Hid (Below X1.heap.size X1 X2) := below_then T1_10.out hbx
                have T2_10 : Hid (Below X2.heap.size X2 X2) := Below.refl _ _
                clear hbx
                obtain ⟨c0, c1, c2, d0, d1, d2⟩ := HC.out _ D2.out
                obtain ⟨p1a, p1b, p1c⟩ := B1.out _ T1_x2.out
                obtain ⟨p2a, p2b, p2c⟩ := B2.out _ T2_10.out
                rw [hX] at c0 c1 c2 d0 d1 d2 p1a p1b p1c p2a p2b p2c
                go_wp2_with fail
                rw [← hX]
                clear hX c0 c1 c2 d0 d1 d2 p1a p1b p1c p2a p2b p2c
                refine Calls.mono (FD.out _) ?_
                rintro e w11 ⟨rfl, hb⟩
                have H11 : Hid (Below V.heap.size V w11) := below_then D2.out hb
                have T0_11 : Hid (Below X0.heap.size X0 w11) := below_then T0_x2.out hb
                have T1_11 : Hid (Below X1.heap.size X1 w11) := below_then T1_x2.out hb
                have T2_11 : Hid (Below X2.heap.size X2 w11) := below_then T2_10.out hb
                clear hb
                obtain ⟨X3, hX⟩ : ∃ X, X = w11.alloc (.cells #[.int .u8 2, .int .i64 (Vl.one (!P)), .slice none 0 0] 25) := ⟨_, rfl⟩
                have hbx : Below w11.heap.size w11 X3 := hX ▸ below_new _ _
                have D3 : Hid (Below V.heap.size V X3) := below_then H11.out hbx
                have B3 : Hid (∀ W, Below X3.heap.size X3 W → W.cell? ⟨w11.heap.size, 0, none⟩ = some (.int .u8 2) ∧ W.cell? ⟨w11.heap.size, 1, none⟩ = some (.int .i64 (Vl.one (!P))) ∧ W.cell? ⟨w11.heap.size, 2, none⟩ = some (.slice none 0 0)) := by
                  have hn : X3.heap[w11.heap.size]? = some (.cells #[.int .u8 2, .int .i64 (Vl.one (!P)), .slice none 0 0] 25 (0, 0)) := by rw [hX]; exact World.alloc_heap_new _ _
                  exact fun W hW => ⟨cell_some_below (vcells_at hn rfl) hW, cell_some_below (vcells_at hn rfl) hW, cell_some_below (vcells_at hn rfl) hW⟩
                have T0_x3 : Hid (Below X0.heap.size X0 X3) := below_then T0_11.out hbx
                have T1_x3 : Hid (Below X1.heap.size X1 X3) := below_then T1_11.out hbx
                have T2_x3 : Hid (Below X2.heap.size X2 X3) := below_then T2_11.out hbx
                have T3_11 : Hid (Below X3.heap.size X3 X3) := Below.refl _ _
                clear hbx
                obtain ⟨q7, q8, q9⟩ := HQ9.out
                obtain ⟨c0, c1, c2, d0, d1, d2⟩ := HC.out _ D3.out
                obtain ⟨p0a, p0b, p0c⟩ := B0.out _ T0_x3.out
                obtain ⟨p3a, p3b, p3c⟩ := B3.out _ T3_11.out
                rw [hX] at c0 c1 c2 d0 d1 d2 p0a p0b p0c p3a p3b p3c
                go_wp2
                rw [← hX]
                clear hX c0 c1 c2 d0 d1 d2 p0a p0b p0c p3a p3b p3c
                go_ret
                exact ⟨by first | rfl | simp [q7] | simp [q8] | simp [q9], below_then HBV.out D3.out⟩
              · skip
                have k1 : (ak != 2) = false := by simp [hka]
                have k2 : (bk != 2) = true := by simpa using hkb
                clear hka hkb
                obtain ⟨c0, c1, c2, d0, d1, d2⟩ := HC.out _ L0.out
                go_wp2
                all_goals go_ret
                all_goals exact ⟨rfl, below_then HBV.out L0.out⟩
            · skip
              have k1 : (ak != 2) = true := by simpa using hka
              clear hka
              obtain ⟨c0, c1, c2, d0, d1, d2⟩ := HC.out _ L0.out
              go_wp2
              all_goals go_ret
              all_goals exact ⟨rfl, below_then HBV.out L0.out⟩
end Go.Proofs.YtcnmgebjbaclaaaDoor

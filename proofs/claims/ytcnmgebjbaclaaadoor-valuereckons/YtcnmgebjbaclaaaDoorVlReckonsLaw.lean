/-
  The walk of ValueReckons.
-/
import Derived.Test.YtcnmgebjbaclaaaDoorVlTells
import Derived.Test.YtcnmgebjbaclaaaDoorVlLent
namespace Go.Proofs.YtcnmgebjbaclaaaDoor
open Go.RowKit Go.Shelf
open Vl (V Res)

/-- One of three operations comes up. -/
theorem anyC_three {F : Fence} {n : Nat} {P : Program} {ops : Array Oper} {Q : Exit → Act → World → Prop} {md : Region.Mode} {C : World → Prop} {i j l : Nat} {o o' o'' : Oper} {fuel : Nat} {listed : Array Bool} {a : Act} {w : World} (hr : Region.ready md ops listed = [i, j, l]) (ho : ops[i]? = some o) (ho' : ops[j]? = some o') (ho'' : ops[l]? = some o'') (hw : Region.wanted o (yielded ops a.tmps) = true) (hw' : Region.wanted o' (yielded ops a.tmps) = true) (hw'' : Region.wanted o'' (yielded ops a.tmps) = true)
    (h : ∀ K : Act → World → Prop, (∀ a' w', C w' → anyC F n P md ops C Q fuel (listed.setIfInBounds i true) a' w' → K a' w') → o.wpIn F n P a w K Q)
    (h' : ∀ K : Act → World → Prop, (∀ a' w', C w' → anyC F n P md ops C Q fuel (listed.setIfInBounds j true) a' w' → K a' w') → o'.wpIn F n P a w K Q)
    (h'' : ∀ K : Act → World → Prop, (∀ a' w', C w' → anyC F n P md ops C Q fuel (listed.setIfInBounds l true) a' w' → K a' w') → o''.wpIn F n P a w K Q) : anyC F n P md ops C Q (fuel + 1) listed a w := by
  refine ⟨fun h0 => absurd h0 (by rw [hr]; simp), fun k hk => ?_⟩
  rw [hr] at hk
  simp at hk
  rcases hk with rfl | rfl | rfl
  · unfold wpOpIn
    simp only [ho, hw, if_true]
    exact h _ (fun a' w' h1 h2 => ⟨h1, h2⟩)
  · unfold wpOpIn
    simp only [ho', hw', if_true]
    exact h' _ (fun a' w' h1 h2 => ⟨h1, h2⟩)
  · unfold wpOpIn
    simp only [ho'', hw'', if_true]
    exact h'' _ (fun a' w' h1 h2 => ⟨h1, h2⟩)
theorem LentV.put {B : Nat} {w Q : World} {x y : VA} {p : Nat} {c : Array Value} {fr : Nat × Nat} (h : LentV B w x y) (hp : w.heap[p]? = some (.cells c 25 fr)) (hQ : ∀ j, j < w.heap.size → j ≠ p → Q.heap[j]? = w.heap[j]?) : LentV B Q x y := by
  obtain ⟨h1, h2, h3, g, cap, h4, h5⟩ := h
  refine ⟨h1, h2, h3, g, cap, h4, ?_⟩
  have hg := (h5.lt g rfl).2
  refine ⟨h5.1, ?_⟩
  rcases h5.2 with ⟨hh, _⟩ | ⟨g', cap', cur, he, hbb, hgg, hr⟩
  · cases hh
  · injection he with he1 he2 he3
    injection he1 with he1
    injection he1 with he1 _ _
    subst he1
    refine .inr ⟨g, cap', cur, by rw [← he3], hbb, (hQ g hg (fun e => ?_)).trans hgg, hr⟩
    rw [e, hp] at hgg
    simp at hgg
/-- A box's cells are written; the rest lies as it lay. -/
theorem put_box {p q : Nat} {V W Q : World} {x1 y1 x2 y2 : VA} {c2 : Array Value} {f2 : Nat × Nat} {v0 v1 v2 x0 x1' x2' : Value} (hB : Below V.heap.size V W) (h1 : ∃ B, LentV B W x1 y1) (h2 : ∃ B, LentV B W x2 y2) (hp : W.heap[p]? = some (.cells #[x0, x1', x2'] 25 (0, 0))) (hq : W.heap[q]? = some (.cells c2 25 f2)) (hm : V.heap.size ≤ p) (hne : q ≠ p)
    (hQ : Q = (((W.setCell ⟨p, 0, none⟩ v0).setCell ⟨p, 1, none⟩ v1).setCell ⟨p, 2, none⟩ v2)) : Below V.heap.size V Q ∧ (∃ B, LentV B Q x1 y1) ∧ (∃ B, LentV B Q x2 y2) ∧ Q.heap[p]? = some (.cells #[v0, v1, v2] 25 (0, 0)) ∧ Q.heap[q]? = some (.cells c2 25 f2) := by
  obtain ⟨Q', hQ', hq', hbq⟩ := store_value hp (Nat.le_refl _) v0 v1 v2
  have eQ : Q' = Q := hQ'.trans hQ.symm
  rw [eQ] at hq'
  have g := ((grown_set W p 0 v0).trans (grown_set _ p 1 v1)).trans (grown_set _ p 2 v2)
  rw [← hQ] at g
  have hl : ∀ j, j < W.heap.size → j ≠ p → Q.heap[j]? = W.heap[j]? := fun j hj hjp => g.block j hj (by simpa using hjp)
  refine ⟨hB.trans ⟨g.os, g.tape, g.output, g.size, fun j hj => hl j (Nat.lt_of_lt_of_le hj hB.size) (by omega)⟩, ?_, ?_, hq', (hl q (Array.getElem?_eq_some_iff.1 hq).1 hne).trans hq⟩
  · obtain ⟨B, h⟩ := h1; exact ⟨B, h.put hp hl⟩
  · obtain ⟨B, h⟩ := h2; exact ⟨B, h.put hp hl⟩
theorem lent2_any (x : VA) (w : World) (hx : x.Low w.heap.size w) (hl : x.r.length ≤ 5000) :
    Calls Tryd.prog 9 #[x.val] w fun e w' => ∃ g c, e = .returned (vV x.k x.n (.slice (some ⟨g, 0, none⟩) x.r.length c)) ∧ (∃ B, LentV B w' x ⟨x.k, x.n, .slice (some ⟨g, 0, none⟩) x.r.length c, x.r⟩) ∧ Below w.heap.size w w' := by
  refine (lentValue_any x w hx hl).mono ?_
  rintro e w' ⟨⟨k, n, vs, r⟩, rfl, hL, hb⟩
  obtain ⟨h1, h2, h3, g, cap, h4, h5⟩ := hL
  simp only at h1 h2 h3 h4
  subst h1 h2 h3 h4
  exact ⟨g, cap, rfl, ⟨_, rfl, rfl, rfl, g, cap, rfl, h5⟩, hb⟩
set_option maxRecDepth 100000 in
set_option maxHeartbeats 8000000 in
theorem reckons_law (s : ByteArray) (a b : VA) (w : World) (ha : a.Low w.heap.size w) (hb : b.Low w.heap.size w) (hs : s.size ≤ 9223372036854775807) (ht : TabW w) :
    Calls Tryd.prog 3 #[.string s, a.val, b.val] w fun e w' => e = .returned (.bool true) ∧ Below w.heap.size w w' := by
  obtain ⟨sa, ca, hva⟩ := ha.shape
  obtain ⟨sb, cb, hvb⟩ := hb.shape
  obtain ⟨V0, h0⟩ : ∃ V, V = w.alloc (.cells #[.int .u8 a.k, .int .i64 a.n, a.vs] 25) := ⟨_, rfl⟩
  obtain ⟨V, hV⟩ : ∃ V, V = V0.alloc (.cells #[.int .u8 b.k, .int .i64 b.n, b.vs] 25) := ⟨_, rfl⟩
  have b0 : Below w.heap.size w V0 := h0 ▸ below_new w _
  have b1 : Below V0.heap.size V0 V := hV ▸ below_new V0 _
  have s0 : V0.heap.size = w.heap.size + 1 := by rw [h0, World.size_alloc]
  have bV : Below w.heap.size w V := below_then b0 b1
  have n0 : V.heap[w.heap.size]? = some (.cells #[.int .u8 a.k, .int .i64 a.n, a.vs] 25 (0, 0)) := (b1.block _ (by omega)).trans (by rw [h0]; exact World.alloc_heap_new w _)
  have n1 : V.heap[w.heap.size + 1]? = some (.cells #[.int .u8 b.k, .int .i64 b.n, b.vs] 25 (0, 0)) := by rw [hV, ← s0]; exact World.alloc_heap_new V0 _
  have HBV : Hid (Below w.heap.size w V) := bV
  have HC : Hid (∀ W, Below V.heap.size V W → (fun z => Below V.heap.size V z ∧ z.heap[w.heap.size]? = some (.cells #[.int .u8 a.k, .int .i64 a.n, a.vs] 25 (0, 0)) ∧ z.heap[w.heap.size + 1]? = some (.cells #[.int .u8 b.k, .int .i64 b.n, b.vs] 25 (0, 0))) W) := fun W hW => ⟨hW, (hW.block _ (by have := (Array.getElem?_eq_some_iff.1 n0).1; omega)).trans n0, (hW.block _ (by have := (Array.getElem?_eq_some_iff.1 n1).1; omega)).trans n1⟩
  have HA : Hid (∀ W, Below V.heap.size V W → a.Low W.heap.size W ∧ b.Low W.heap.size W ∧ TabW W) := fun W hW => ⟨ha.at (below_then bV hW), hb.at (below_then bV hW), ht.at (below_then bV hW)⟩
  have HW : Hid (∀ W, Below V.heap.size V W → Calls Tryd.prog 8 #[] W fun e w' => e = .returned (.bool true) ∧ Below W.heap.size W w') := fun W hW => awake_any W (ht.at (below_then bV hW))
  have HL1 : Hid (a.r.length ≤ 3000 → ∀ W, Below V.heap.size V W → Calls Tryd.prog 9 #[a.val] W fun e w' => ∃ g c, e = .returned (vV a.k a.n (.slice (some ⟨g, 0, none⟩) a.r.length c)) ∧ (∃ B, LentV B w' a ⟨a.k, a.n, .slice (some ⟨g, 0, none⟩) a.r.length c, a.r⟩) ∧ Below W.heap.size W w') := fun h W hW => lent2_any a W (ha.at (below_then bV hW)) (by omega)
  have HL2 : Hid (b.r.length ≤ 3000 → ∀ W, Below V.heap.size V W → Calls Tryd.prog 9 #[b.val] W fun e w' => ∃ g c, e = .returned (vV b.k b.n (.slice (some ⟨g, 0, none⟩) b.r.length c)) ∧ (∃ B, LentV B w' b ⟨b.k, b.n, .slice (some ⟨g, 0, none⟩) b.r.length c, b.r⟩) ∧ Below W.heap.size W w') := fun h W hW => lent2_any b W (hb.at (below_then bV hW)) (by omega)
  have la : a.r.length ≤ 1000000000000000 := ha.2
  have lb : b.r.length ≤ 1000000000000000 := hb.2
  have hVV : V = (w.alloc (.cells #[.int .u8 a.k, .int .i64 a.n, a.vs] 25)).alloc (.cells #[.int .u8 b.k, .int .i64 b.n, b.vs] 25) := by rw [hV, h0]
  clear h0 hV b0 b1 s0 bV n0 n1 ha hb ht
  obtain ⟨ak, an, av, ar⟩ := a
  obtain ⟨bk, bn, bv, br⟩ := b
  simp only at hva hvb
  subst hva hvb
  simp only [VA.val] at hVV HC HL1 HL2 ⊢
  simp only at la lb
  refine (callsIn_wide (n := 3)).1 ?_
  refine callsIn_of_wp Tryd.func3 rfl trivial ?_ rfl
  simp only [Tryd.ntmps3, List.size_toArray, List.length_cons, List.length_nil, Nat.reduceAdd, Nat.reduceSub, Array.replicate_succ, Array.replicate_zero, List.push_toArray, List.append_toArray, List.nil_append, List.cons_append]
  gi_wp2
  all_goals rw [← hVV]
  all_goals clear hVV
  all_goals try (refine ⟨trivial, (callsIn_wide.2 (HW.out V (Below.refl _ _))).mono ?_⟩; rintro e w1 ⟨rfl, hb⟩; gi_wp2; refine bodyPost_ret (v := .bool true) ?_ rfl ⟨rfl, below_then HBV.out hb⟩; simp [results, Tryd.results3, go_sem])
  rename_i K hK
  have harl : ar.length ≤ 3000 := by omega
  have hbrl : br.length ≤ 3000 := by omega
  have hsl : s.size ≤ 100 := by omega
  have KEY : Hid (∀ (g1 c1 g2 c2 p7 p8 : Nat) (W : World), Below V.heap.size V W → (∃ B, LentV B W ⟨ak, an, .slice sa ar.length ca, ar⟩ ⟨ak, an, .slice (some ⟨g1, 0, none⟩) ar.length c1, ar⟩) → (∃ B, LentV B W ⟨bk, bn, .slice sb br.length cb, br⟩ ⟨bk, bn, .slice (some ⟨g2, 0, none⟩) br.length c2, br⟩) → W.heap[p7]? = some (.cells #[.int .u8 ak, .int .i64 an, .slice (some ⟨g1, 0, none⟩) ar.length c1] 25 (0, 0)) → W.heap[p8]? = some (.cells #[.int .u8 bk, .int .i64 bn, .slice (some ⟨g2, 0, none⟩) br.length c2] 25 (0, 0)) →
      K { tmps := #[.string s, vV ak an (.slice sa ar.length ca), vV bk bn (.slice sb br.length cb), undef, boxP w.heap.size, boxP (w.heap.size + 1), .bool false, boxP p7, boxP p8, .pointer (some ⟨w.heap.size, 2, none⟩), .slice sa ar.length ca, .int .i64 ar.length, .bool (decide (3000 < (ar.length : Int))), .bool (decide (3000 < (ar.length : Int))), .pointer (some ⟨w.heap.size + 1, 2, none⟩), .slice sb br.length cb, .int .i64 br.length, .bool (decide (3000 < (br.length : Int))), .bool (decide (3000 < (ar.length : Int)) || decide (3000 < (br.length : Int))), .bool (decide (3000 < (ar.length : Int)) || decide (3000 < (br.length : Int))), .string s, .int .i64 s.size, .bool (decide (100 < (s.size : Int))), .bool (decide (3000 < (ar.length : Int)) || decide (3000 < (br.length : Int)) || decide (100 < (s.size : Int))), undef, vV ak an (.slice sa ar.length ca), vV ak an (.slice (some ⟨g1, 0, none⟩) ar.length c1), vV bk bn (.slice sb br.length cb), vV bk bn (.slice (some ⟨g2, 0, none⟩) br.length c2), undef, undef, undef, undef, undef, undef, undef, undef, undef, undef, undef, undef, undef, undef, undef, undef, undef, undef, undef, undef, undef, undef, undef, undef], defers := [] } W) := by
    show ∀ _, _
    intro g1 c1 g2 c2 p7 p8 W hW l1 l2 q7 q8
    refine hK _ _ ?_
    clear hK
    obtain ⟨B1, l1⟩ := l1
    obtain ⟨B2, l2⟩ := l2
    have z0 := (HC.out W hW).2.1
    have z1 := (HC.out W hW).2.2
    have HC4 : Hid (∀ Z, Below W.heap.size W Z → (Z.cell? ⟨p7, 0, none⟩ = some (.int .u8 ak) ∧ Z.cell? ⟨p7, 1, none⟩ = some (.int .i64 an) ∧ Z.cell? ⟨p7, 2, none⟩ = some (.slice (some ⟨g1, 0, none⟩) ar.length c1)) ∧ (Z.cell? ⟨p8, 0, none⟩ = some (.int .u8 bk) ∧ Z.cell? ⟨p8, 1, none⟩ = some (.int .i64 bn) ∧ Z.cell? ⟨p8, 2, none⟩ = some (.slice (some ⟨g2, 0, none⟩) br.length c2)) ∧ (Z.cell? ⟨w.heap.size, 0, none⟩ = some (.int .u8 ak) ∧ Z.cell? ⟨w.heap.size, 1, none⟩ = some (.int .i64 an) ∧ Z.cell? ⟨w.heap.size, 2, none⟩ = some (.slice sa ar.length ca)) ∧ (Z.cell? ⟨w.heap.size + 1, 0, none⟩ = some (.int .u8 bk) ∧ Z.cell? ⟨w.heap.size + 1, 1, none⟩ = some (.int .i64 bn) ∧ Z.cell? ⟨w.heap.size + 1, 2, none⟩ = some (.slice sb br.length cb))) := fun Z hZ =>
      ⟨⟨cell_some_below (vcells_at q7 rfl) hZ, cell_some_below (vcells_at q7 rfl) hZ, cell_some_below (vcells_at q7 rfl) hZ⟩, ⟨cell_some_below (vcells_at q8 rfl) hZ, cell_some_below (vcells_at q8 rfl) hZ, cell_some_below (vcells_at q8 rfl) hZ⟩, ⟨cell_some_below (vcells_at z0 rfl) hZ, cell_some_below (vcells_at z0 rfl) hZ, cell_some_below (vcells_at z0 rfl) hZ⟩, ⟨cell_some_below (vcells_at z1 rfl) hZ, cell_some_below (vcells_at z1 rfl) hZ, cell_some_below (vcells_at z1 rfl) hZ⟩⟩
    have F0 : Hid (∀ Z, Below W.heap.size W Z → Calls Tryd.prog 10 #[.string s, vV ak an (.slice (some ⟨g1, 0, none⟩) ar.length c1), vV bk bn (.slice (some ⟨g2, 0, none⟩) br.length c2)] Z fun e w' => e = .returned (.bool true) ∧ Below Z.heap.size Z w') := fun Z hZ => by
      have h := tells_any s.data.toList (by rw [Array.length_toList]; show s.size ≤ _; omega) ⟨ak, an, .slice (some ⟨g1, 0, none⟩) ar.length c1, ar⟩ ⟨bk, bn, .slice (some ⟨g2, 0, none⟩) br.length c2, br⟩ Z ((l1.at hZ).low la) ((l2.at hZ).low lb)
      rwa [Ln.bs_of] at h
    obtain ⟨r, hr⟩ : ∃ r, r = Vl.right ⟨ak, an, ar⟩ := ⟨_, rfl⟩
    have F1 : Hid (∀ Z, Below W.heap.size W Z → Calls Tryd.prog 11 #[vV ak an (.slice (some ⟨g1, 0, none⟩) ar.length c1)] Z fun e w' => e = .returned (.bool r) ∧ Below Z.heap.size Z w') := fun Z hZ => by rw [hr]; exact right_any ak an _ ar c1 la Z
    have F2 : Hid (∀ Z, Below W.heap.size W Z → Calls Tryd.prog 12 #[vV ak an (.slice sa ar.length ca)] Z fun e w' => e = .returned (.bool r) ∧ Below Z.heap.size Z w') := fun Z hZ => by rw [hr]; exact rright_any ak an _ ar ca la Z
    have F3 : Hid (∀ Z, Below W.heap.size W Z → Calls Tryd.prog 13 #[vV ak an (.slice (some ⟨g1, 0, none⟩) ar.length c1), vV ak an (.slice sa ar.length ca)] Z fun e w' => e = .returned (.bool true) ∧ Below Z.heap.size Z w') := fun Z hZ => keptValue_any ⟨ak, an, .slice sa ar.length ca, ar⟩ ⟨ak, an, .slice (some ⟨g1, 0, none⟩) ar.length c1, ar⟩ B1 Z (HA.out Z (below_then hW hZ)).1 (show ar.length ≤ 5000 by omega) (l1.at hZ)
    have F4 : Hid (∀ Z, Below W.heap.size W Z → Calls Tryd.prog 13 #[vV bk bn (.slice (some ⟨g2, 0, none⟩) br.length c2), vV bk bn (.slice sb br.length cb)] Z fun e w' => e = .returned (.bool true) ∧ Below Z.heap.size Z w') := fun Z hZ => keptValue_any ⟨bk, bn, .slice sb br.length cb, br⟩ ⟨bk, bn, .slice (some ⟨g2, 0, none⟩) br.length c2, br⟩ B2 Z (HA.out Z (below_then hW hZ)).2.1 (show br.length ≤ 5000 by omega) (l2.at hZ)
    have F5 : Hid (∀ Z, Below W.heap.size W Z → Calls Tryd.prog 8 #[] Z fun e w' => e = .returned (.bool true) ∧ Below Z.heap.size Z w') := fun Z hZ => HW.out Z (below_then hW hZ)
    have HE : Hid (Below w.heap.size w W) := below_then HBV.out hW
    have h00 : Below W.heap.size W W.drew := below_draw W 1
    clear hr z0 z1 q7 q8 l1 l2 hW
    cases r <;> (
    gi_wp2
    refine region_lex (fun z => Below W.heap.size W z) 0 25 rfl (by kernel_rfl) (by kernel_rfl) (by kernel_rfl) (by kernel_rfl) (fun _ _ d _ _ h => by cases d <;> exact h) h00 ?_
    refine lexC_nil ?_
    refine anyC_take (i := 0) (v := .string s) rfl rfl (by kernel_rfl) (by kernel_rfl) (by kernel_rfl) (fun _ _ d _ _ h => by cases d <;> exact h) h00 (by rfl) (fun _ => rfl) (by intro w' hw'; go_simp; try rfl) ?_
    refine anyC_take (i := 1) (v := vV ak an (.slice (some ⟨g1, 0, none⟩) ar.length c1)) rfl rfl (by kernel_rfl) (by kernel_rfl) (by kernel_rfl) (fun _ _ d _ _ h => by cases d <;> exact h) h00 (by rfl) (fun _ => rfl) (by intro w' hw'; obtain ⟨⟨f0, f1, f2⟩, ⟨f3, f4, f5⟩, ⟨f6, f7, f8⟩, ⟨f9, f10, f11⟩⟩ := HC4.out w' hw'; go_simp; try rfl) ?_
    refine anyC_take (i := 2) (v := vV bk bn (.slice (some ⟨g2, 0, none⟩) br.length c2)) rfl rfl (by kernel_rfl) (by kernel_rfl) (by kernel_rfl) (fun _ _ d _ _ h => by cases d <;> exact h) h00 (by rfl) (fun _ => rfl) (by intro w' hw'; obtain ⟨⟨f0, f1, f2⟩, ⟨f3, f4, f5⟩, ⟨f6, f7, f8⟩, ⟨f9, f10, f11⟩⟩ := HC4.out w' hw'; go_simp; try rfl) ?_
    refine anyC_one (i := 3) (by kernel_rfl) rfl (by rfl) (fun K1 hK1 => ?_)
    go_simp
    refine ⟨trivial, ?_⟩
    refine (callsIn_wide.2 (F0.out _ h00)).mono ?_
    rintro e W1 ⟨rfl, hb1⟩
    have h01 := below_then h00 hb1
    refine hK1 _ _ h01 ?_
    refine anyC_take (i := 4) (v := .bool true) rfl rfl (by kernel_rfl) (by kernel_rfl) (by kernel_rfl) (fun _ _ d _ _ h => by cases d <;> exact h) h01 (by rfl) (fun _ => rfl) (by intro w' hw'; go_simp; try rfl) ?_
    refine anyC_take (i := 5) (v := vV ak an (.slice (some ⟨g1, 0, none⟩) ar.length c1)) rfl rfl (by kernel_rfl) (by kernel_rfl) (by kernel_rfl) (fun _ _ d _ _ h => by cases d <;> exact h) h01 (by rfl) (fun _ => rfl) (by intro w' hw'; obtain ⟨⟨f0, f1, f2⟩, ⟨f3, f4, f5⟩, ⟨f6, f7, f8⟩, ⟨f9, f10, f11⟩⟩ := HC4.out w' hw'; go_simp; try rfl) ?_
    refine anyC_take (i := 7) (v := vV ak an (.slice sa ar.length ca)) rfl rfl (by kernel_rfl) (by kernel_rfl) (by kernel_rfl) (fun _ _ d _ _ h => by cases d <;> exact h) h01 (by rfl) (fun _ => rfl) (by intro w' hw'; obtain ⟨⟨f0, f1, f2⟩, ⟨f3, f4, f5⟩, ⟨f6, f7, f8⟩, ⟨f9, f10, f11⟩⟩ := HC4.out w' hw'; go_simp; try rfl) ?_
    refine anyC_one (i := 6) (by kernel_rfl) rfl (by rfl) (fun K2 hK2 => ?_)
    go_simp
    refine ⟨trivial, ?_⟩
    refine (callsIn_wide.2 (F1.out _ h01)).mono ?_
    rintro e W2 ⟨rfl, hb2⟩
    have h02 := below_then h01 hb2
    refine hK2 _ _ h02 ?_
    refine anyC_one (i := 8) (by kernel_rfl) rfl (by rfl) (fun K3 hK3 => ?_)
    go_simp
    refine ⟨trivial, ?_⟩
    refine (callsIn_wide.2 (F2.out _ h02)).mono ?_
    rintro e W3 ⟨rfl, hb3⟩
    have h03 := below_then h02 hb3
    refine hK3 _ _ h03 ?_
    refine anyC_take (i := 9) (v := .bool true) rfl rfl (by kernel_rfl) (by kernel_rfl) (by kernel_rfl) (fun _ _ d _ _ h => by cases d <;> exact h) h03 (by rfl) (fun _ => rfl) (by intro w' hw'; go_simp; try rfl) ?_
    refine anyC_take (i := 10) (v := .bool true) rfl rfl (by kernel_rfl) (by kernel_rfl) (by kernel_rfl) (fun _ _ d _ _ h => by cases d <;> exact h) h03 (by rfl) (fun _ => rfl) (by intro w' hw'; go_simp; try rfl) ?_
    refine anyC_take (i := 11) (v := .bool true) rfl rfl (by kernel_rfl) (by kernel_rfl) (by kernel_rfl) (fun _ _ d _ _ h => by cases d <;> exact h) h03 (by rfl) (fun _ => rfl) (by intro w' hw'; go_simp; try rfl) ?_
    refine anyC_take (i := 12) (v := vV ak an (.slice (some ⟨g1, 0, none⟩) ar.length c1)) rfl rfl (by kernel_rfl) (by kernel_rfl) (by kernel_rfl) (fun _ _ d _ _ h => by cases d <;> exact h) h03 (by rfl) (fun _ => rfl) (by intro w' hw'; obtain ⟨⟨f0, f1, f2⟩, ⟨f3, f4, f5⟩, ⟨f6, f7, f8⟩, ⟨f9, f10, f11⟩⟩ := HC4.out w' hw'; go_simp; try rfl) ?_
    refine anyC_take (i := 13) (v := vV ak an (.slice sa ar.length ca)) rfl rfl (by kernel_rfl) (by kernel_rfl) (by kernel_rfl) (fun _ _ d _ _ h => by cases d <;> exact h) h03 (by rfl) (fun _ => rfl) (by intro w' hw'; obtain ⟨⟨f0, f1, f2⟩, ⟨f3, f4, f5⟩, ⟨f6, f7, f8⟩, ⟨f9, f10, f11⟩⟩ := HC4.out w' hw'; go_simp; try rfl) ?_
    refine anyC_one (i := 14) (by kernel_rfl) rfl (by rfl) (fun K4 hK4 => ?_)
    go_simp
    refine ⟨trivial, ?_⟩
    refine (callsIn_wide.2 (F3.out _ h03)).mono ?_
    rintro e W4 ⟨rfl, hb4⟩
    have h04 := below_then h03 hb4
    refine hK4 _ _ h04 ?_
    refine anyC_take (i := 15) (v := .bool true) rfl rfl (by kernel_rfl) (by kernel_rfl) (by kernel_rfl) (fun _ _ d _ _ h => by cases d <;> exact h) h04 (by rfl) (fun _ => rfl) (by intro w' hw'; go_simp; try rfl) ?_
    refine anyC_take (i := 16) (v := .bool true) rfl rfl (by kernel_rfl) (by kernel_rfl) (by kernel_rfl) (fun _ _ d _ _ h => by cases d <;> exact h) h04 (by rfl) (fun _ => rfl) (by intro w' hw'; go_simp; try rfl) ?_
    refine anyC_take (i := 17) (v := vV bk bn (.slice (some ⟨g2, 0, none⟩) br.length c2)) rfl rfl (by kernel_rfl) (by kernel_rfl) (by kernel_rfl) (fun _ _ d _ _ h => by cases d <;> exact h) h04 (by rfl) (fun _ => rfl) (by intro w' hw'; obtain ⟨⟨f0, f1, f2⟩, ⟨f3, f4, f5⟩, ⟨f6, f7, f8⟩, ⟨f9, f10, f11⟩⟩ := HC4.out w' hw'; go_simp; try rfl) ?_
    refine anyC_take (i := 18) (v := vV bk bn (.slice sb br.length cb)) rfl rfl (by kernel_rfl) (by kernel_rfl) (by kernel_rfl) (fun _ _ d _ _ h => by cases d <;> exact h) h04 (by rfl) (fun _ => rfl) (by intro w' hw'; obtain ⟨⟨f0, f1, f2⟩, ⟨f3, f4, f5⟩, ⟨f6, f7, f8⟩, ⟨f9, f10, f11⟩⟩ := HC4.out w' hw'; go_simp; try rfl) ?_
    refine anyC_one (i := 19) (by kernel_rfl) rfl (by rfl) (fun K5 hK5 => ?_)
    go_simp
    refine ⟨trivial, ?_⟩
    refine (callsIn_wide.2 (F4.out _ h04)).mono ?_
    rintro e W5 ⟨rfl, hb5⟩
    have h05 := below_then h04 hb5
    refine hK5 _ _ h05 ?_
    refine anyC_take (i := 20) (v := .bool true) rfl rfl (by kernel_rfl) (by kernel_rfl) (by kernel_rfl) (fun _ _ d _ _ h => by cases d <;> exact h) h05 (by rfl) (fun _ => rfl) (by intro w' hw'; go_simp; try rfl) ?_
    refine anyC_take (i := 21) (v := .bool true) rfl rfl (by kernel_rfl) (by kernel_rfl) (by kernel_rfl) (fun _ _ d _ _ h => by cases d <;> exact h) h05 (by rfl) (fun _ => rfl) (by intro w' hw'; go_simp; try rfl) ?_
    refine anyC_one (i := 22) (by kernel_rfl) rfl (by rfl) (fun K6 hK6 => ?_)
    go_simp
    refine ⟨trivial, ?_⟩
    refine (callsIn_wide.2 (F5.out _ h05)).mono ?_
    rintro e W6 ⟨rfl, hb6⟩
    have h06 := below_then h05 hb6
    refine hK6 _ _ h06 ?_
    refine anyC_take (i := 23) (v := .bool true) rfl rfl (by kernel_rfl) (by kernel_rfl) (by kernel_rfl) (fun _ _ d _ _ h => by cases d <;> exact h) h06 (by rfl) (fun _ => rfl) (by intro w' hw'; go_simp; try rfl) ?_
    refine anyC_one (i := 24) (by kernel_rfl) rfl (by rfl) (fun K9 hK9 => ?_)
    go_simp
    refine hK9 _ _ h06 ?_
    refine anyC_done (by kernel_rfl) ?_
    gi_wp2
    refine bodyPost_ret (v := .bool true) ?_ rfl ⟨rfl, below_then HE.out h06⟩
    simp [results, Tryd.results3, go_sem])
  clear hK
  have hVd : Below V.heap.size V V.drew := below_draw V 1
  refine region_lex (fun z => Below V.heap.size V z ∧ z.heap[w.heap.size]? = some (.cells #[.int .u8 ak, .int .i64 an, .slice sa ar.length ca] 25 (0, 0)) ∧ z.heap[w.heap.size + 1]? = some (.cells #[.int .u8 bk, .int .i64 bn, .slice sb br.length cb] 25 (0, 0))) 0 8 rfl (by kernel_rfl) (by kernel_rfl) (by kernel_rfl) (by kernel_rfl) (fun _ _ d _ _ h => by cases d <;> exact h) (HC.out _ hVd) ?_
  refine lexC_nil ?_
  refine anyC_take (i := 0) (v := .agg #[.int .u8 ak, .int .i64 an, .slice sa ar.length ca]) rfl rfl (by kernel_rfl) (by kernel_rfl) (by kernel_rfl) (fun _ _ d _ _ h => by cases d <;> exact h) (HC.out _ hVd) (by rfl) (fun _ => rfl) (by intro w' hw'; have f0 := vcells_at hw'.2.1 (o := 0) rfl; have f1 := vcells_at hw'.2.1 (o := 1) rfl; have f2 := vcells_at hw'.2.1 (o := 2) rfl; go_simp; try rfl) ?_
  refine anyC_take (i := 2) (v := .agg #[.int .u8 bk, .int .i64 bn, .slice sb br.length cb]) rfl rfl (by kernel_rfl) (by kernel_rfl) (by kernel_rfl) (fun _ _ d _ _ h => by cases d <;> exact h) (HC.out _ hVd) (by rfl) (fun _ => rfl) (by intro w' hw'; have f0 := vcells_at hw'.2.2 (o := 0) rfl; have f1 := vcells_at hw'.2.2 (o := 1) rfl; have f2 := vcells_at hw'.2.2 (o := 2) rfl; go_simp; try rfl) ?_
  obtain ⟨W0, hW0⟩ : ∃ W, W = V.drew := ⟨_, rfl⟩
  have HB0 : Hid (Below V.heap.size V W0) := hW0 ▸ hVd
  rw [← hW0]
  clear hW0 hVd
  refine anyC_three (i := 1) (j := 4) (l := 5) (by kernel_rfl) rfl rfl rfl (by rfl) (by rfl) (by rfl) (fun K0 hK0 => ?_) (fun K0 hK0 => ?_) (fun K0 hK0 => ?_)
  · go_simp
    refine ⟨trivial, ?_⟩
    refine (callsIn_wide.2 (HL1.out harl _ HB0.out)).mono ?_
    rintro e W1 ⟨g1, c1, rfl, hl, hb⟩
    have HB1 : Hid (Below V.heap.size V W1) := below_then HB0.out hb
    have LA1 : Hid (∃ B, LentV B W1 ⟨ak, an, .slice sa ar.length ca, ar⟩ ⟨ak, an, .slice (some ⟨g1, 0, none⟩) ar.length c1, ar⟩) := hl
    clear hb hl
    refine hK0 _ _ (HC.out _ HB1.out) ?_
    refine anyC_three (i := 3) (j := 4) (l := 5) (by kernel_rfl) rfl rfl rfl (by rfl) (by rfl) (by rfl) (fun K1 hK1 => ?_) (fun K1 hK1 => ?_) (fun K1 hK1 => ?_)
    · go_simp
      refine ⟨trivial, ?_⟩
      refine (callsIn_wide.2 (HL2.out hbrl _ HB1.out)).mono ?_
      rintro e W2 ⟨g2, c2, rfl, hl, hb⟩
      have HB2 : Hid (Below V.heap.size V W2) := below_then HB1.out hb
      have LA2 : Hid (∃ B, LentV B W2 ⟨ak, an, .slice sa ar.length ca, ar⟩ ⟨ak, an, .slice (some ⟨g1, 0, none⟩) ar.length c1, ar⟩) := (show _ from by obtain ⟨B, h⟩ := LA1.out; exact ⟨B, h.at hb⟩)
      have LB2 : Hid (∃ B, LentV B W2 ⟨bk, bn, .slice sb br.length cb, br⟩ ⟨bk, bn, .slice (some ⟨g2, 0, none⟩) br.length c2, br⟩) := hl
      clear hb hl
      refine hK1 _ _ (HC.out _ HB2.out) ?_
      refine anyC_two (i := 4) (j := 5) (by kernel_rfl) rfl rfl (by rfl) (by rfl) (fun K2 hK2 => ?_) (fun K2 hK2 => ?_)
      · obtain ⟨W3, hY⟩ : ∃ W, W = W2.alloc (.cells #[.int .u8 0, .int .i64 0, .slice none 0 0] 25) := ⟨_, rfl⟩
        have hb : Below W2.heap.size W2 W3 := hY ▸ below_new W2 _
        have HB3 : Hid (Below V.heap.size V W3) := below_then HB2.out hb
        have LA3 : Hid (∃ B, LentV B W3 ⟨ak, an, .slice sa ar.length ca, ar⟩ ⟨ak, an, .slice (some ⟨g1, 0, none⟩) ar.length c1, ar⟩) := (show _ from by obtain ⟨B, h⟩ := LA2.out; exact ⟨B, h.at hb⟩)
        have LB3 : Hid (∃ B, LentV B W3 ⟨bk, bn, .slice sb br.length cb, br⟩ ⟨bk, bn, .slice (some ⟨g2, 0, none⟩) br.length c2, br⟩) := (show _ from by obtain ⟨B, h⟩ := LB2.out; exact ⟨B, h.at hb⟩)
        obtain ⟨p7, hp⟩ : ∃ p, p = W2.heap.size := ⟨_, rfl⟩
        have P73 : Hid (W3.heap[p7]? = some (.cells #[.int .u8 0, .int .i64 0, .slice none 0 0] 25 (0, 0))) := (show _ from by rw [hp, hY]; exact World.alloc_heap_new W2 _)
        have M7 : Hid (V.heap.size ≤ p7) := hp ▸ HB2.out.size
        clear hb
        go_simp
        rw [← hY, ← hp]
        clear hY hp
        refine hK2 _ _ (HC.out _ HB3.out) ?_
        refine anyC_one (i := 5) (by kernel_rfl) rfl (by rfl) (fun K3 hK3 => ?_)
        obtain ⟨W4, hY⟩ : ∃ W, W = W3.alloc (.cells #[.int .u8 0, .int .i64 0, .slice none 0 0] 25) := ⟨_, rfl⟩
        have hb : Below W3.heap.size W3 W4 := hY ▸ below_new W3 _
        have HB4 : Hid (Below V.heap.size V W4) := below_then HB3.out hb
        have LA4 : Hid (∃ B, LentV B W4 ⟨ak, an, .slice sa ar.length ca, ar⟩ ⟨ak, an, .slice (some ⟨g1, 0, none⟩) ar.length c1, ar⟩) := (show _ from by obtain ⟨B, h⟩ := LA3.out; exact ⟨B, h.at hb⟩)
        have LB4 : Hid (∃ B, LentV B W4 ⟨bk, bn, .slice sb br.length cb, br⟩ ⟨bk, bn, .slice (some ⟨g2, 0, none⟩) br.length c2, br⟩) := (show _ from by obtain ⟨B, h⟩ := LB3.out; exact ⟨B, h.at hb⟩)
        have P74 : Hid (W4.heap[p7]? = some (.cells #[.int .u8 0, .int .i64 0, .slice none 0 0] 25 (0, 0))) := (hb.block _ (Array.getElem?_eq_some_iff.1 P73.out).1).trans P73.out
        obtain ⟨p8, hp⟩ : ∃ p, p = W3.heap.size := ⟨_, rfl⟩
        have P84 : Hid (W4.heap[p8]? = some (.cells #[.int .u8 0, .int .i64 0, .slice none 0 0] 25 (0, 0))) := (show _ from by rw [hp, hY]; exact World.alloc_heap_new W3 _)
        have M8 : Hid (V.heap.size ≤ p8) := hp ▸ HB3.out.size
        have PP : Hid (p7 ≠ p8) := (show p7 ≠ p8 from by have := (Array.getElem?_eq_some_iff.1 P73.out).1; omega)
        clear hb
        go_simp
        rw [← hY, ← hp]
        clear hY hp
        refine hK3 _ _ (HC.out _ HB4.out) ?_
        refine anyC_one (i := 6) (by kernel_rfl) rfl (by rfl) (fun K4 hK4 => ?_)
        obtain ⟨zf, d0, d1, d2, W5, hQ, e0, e1, e2, hb3⟩ := rdoor P74.out (.int .u8 ak) (.int .i64 an) (.slice (some ⟨g1, 0, none⟩) ar.length c1)
        have HF : Hid (Below V.heap.size V W5 ∧ (∃ B, LentV B W5 ⟨ak, an, .slice sa ar.length ca, ar⟩ ⟨ak, an, .slice (some ⟨g1, 0, none⟩) ar.length c1, ar⟩) ∧ (∃ B, LentV B W5 ⟨bk, bn, .slice sb br.length cb, br⟩ ⟨bk, bn, .slice (some ⟨g2, 0, none⟩) br.length c2, br⟩) ∧ W5.heap[p7]? = some (.cells #[.int .u8 ak, .int .i64 an, .slice (some ⟨g1, 0, none⟩) ar.length c1] 25 (0, 0)) ∧ W5.heap[p8]? = some (.cells #[.int .u8 0, .int .i64 0, .slice none 0 0] 25 (0, 0))) := put_box HB4.out LA4.out LB4.out P74.out P84.out M7.out (Ne.symm PP.out) hQ
        clear hb3
        go_simp
        rw [← hQ]
        clear hQ e0 e1 e2 d0 d1 d2 zf
        refine hK4 _ _ (HC.out _ HF.out.1) ?_
        refine anyC_one (i := 7) (by kernel_rfl) rfl (by rfl) (fun K5 hK5 => ?_)
        obtain ⟨zf, d0, d1, d2, W6, hQ, e0, e1, e2, hb3⟩ := rdoor HF.out.2.2.2.2 (.int .u8 bk) (.int .i64 bn) (.slice (some ⟨g2, 0, none⟩) br.length c2)
        have HG : Hid (Below V.heap.size V W6 ∧ (∃ B, LentV B W6 ⟨ak, an, .slice sa ar.length ca, ar⟩ ⟨ak, an, .slice (some ⟨g1, 0, none⟩) ar.length c1, ar⟩) ∧ (∃ B, LentV B W6 ⟨bk, bn, .slice sb br.length cb, br⟩ ⟨bk, bn, .slice (some ⟨g2, 0, none⟩) br.length c2, br⟩) ∧ W6.heap[p7]? = some (.cells #[.int .u8 ak, .int .i64 an, .slice (some ⟨g1, 0, none⟩) ar.length c1] 25 (0, 0)) ∧ W6.heap[p8]? = some (.cells #[.int .u8 bk, .int .i64 bn, .slice (some ⟨g2, 0, none⟩) br.length c2] 25 (0, 0))) := (show _ from by obtain ⟨a1, a2, a3, a4, a5⟩ := put_box HF.out.1 HF.out.2.1 HF.out.2.2.1 HF.out.2.2.2.2 HF.out.2.2.2.1 M8.out PP.out hQ; exact ⟨a1, a2, a3, a5, a4⟩)
        clear hb3
        go_simp
        rw [← hQ]
        clear hQ e0 e1 e2 d0 d1 d2 zf
        refine hK5 _ _ (HC.out _ HG.out.1) ?_
        refine anyC_done (by kernel_rfl) ?_
        exact KEY.out g1 c1 g2 c2 p7 p8 W6 HG.out.1 HG.out.2.1 HG.out.2.2.1 HG.out.2.2.2.1 HG.out.2.2.2.2
      · obtain ⟨W3, hY⟩ : ∃ W, W = W2.alloc (.cells #[.int .u8 0, .int .i64 0, .slice none 0 0] 25) := ⟨_, rfl⟩
        have hb : Below W2.heap.size W2 W3 := hY ▸ below_new W2 _
        have HB3 : Hid (Below V.heap.size V W3) := below_then HB2.out hb
        have LA3 : Hid (∃ B, LentV B W3 ⟨ak, an, .slice sa ar.length ca, ar⟩ ⟨ak, an, .slice (some ⟨g1, 0, none⟩) ar.length c1, ar⟩) := (show _ from by obtain ⟨B, h⟩ := LA2.out; exact ⟨B, h.at hb⟩)
        have LB3 : Hid (∃ B, LentV B W3 ⟨bk, bn, .slice sb br.length cb, br⟩ ⟨bk, bn, .slice (some ⟨g2, 0, none⟩) br.length c2, br⟩) := (show _ from by obtain ⟨B, h⟩ := LB2.out; exact ⟨B, h.at hb⟩)
        obtain ⟨p8, hp⟩ : ∃ p, p = W2.heap.size := ⟨_, rfl⟩
        have P83 : Hid (W3.heap[p8]? = some (.cells #[.int .u8 0, .int .i64 0, .slice none 0 0] 25 (0, 0))) := (show _ from by rw [hp, hY]; exact World.alloc_heap_new W2 _)
        have M8 : Hid (V.heap.size ≤ p8) := hp ▸ HB2.out.size
        clear hb
        go_simp
        rw [← hY, ← hp]
        clear hY hp
        refine hK2 _ _ (HC.out _ HB3.out) ?_
        refine anyC_one (i := 4) (by kernel_rfl) rfl (by rfl) (fun K3 hK3 => ?_)
        obtain ⟨W4, hY⟩ : ∃ W, W = W3.alloc (.cells #[.int .u8 0, .int .i64 0, .slice none 0 0] 25) := ⟨_, rfl⟩
        have hb : Below W3.heap.size W3 W4 := hY ▸ below_new W3 _
        have HB4 : Hid (Below V.heap.size V W4) := below_then HB3.out hb
        have LA4 : Hid (∃ B, LentV B W4 ⟨ak, an, .slice sa ar.length ca, ar⟩ ⟨ak, an, .slice (some ⟨g1, 0, none⟩) ar.length c1, ar⟩) := (show _ from by obtain ⟨B, h⟩ := LA3.out; exact ⟨B, h.at hb⟩)
        have LB4 : Hid (∃ B, LentV B W4 ⟨bk, bn, .slice sb br.length cb, br⟩ ⟨bk, bn, .slice (some ⟨g2, 0, none⟩) br.length c2, br⟩) := (show _ from by obtain ⟨B, h⟩ := LB3.out; exact ⟨B, h.at hb⟩)
        have P84 : Hid (W4.heap[p8]? = some (.cells #[.int .u8 0, .int .i64 0, .slice none 0 0] 25 (0, 0))) := (hb.block _ (Array.getElem?_eq_some_iff.1 P83.out).1).trans P83.out
        obtain ⟨p7, hp⟩ : ∃ p, p = W3.heap.size := ⟨_, rfl⟩
        have P74 : Hid (W4.heap[p7]? = some (.cells #[.int .u8 0, .int .i64 0, .slice none 0 0] 25 (0, 0))) := (show _ from by rw [hp, hY]; exact World.alloc_heap_new W3 _)
        have M7 : Hid (V.heap.size ≤ p7) := hp ▸ HB3.out.size
        have PP : Hid (p7 ≠ p8) := (show p7 ≠ p8 from by have := (Array.getElem?_eq_some_iff.1 P83.out).1; omega)
        clear hb
        go_simp
        rw [← hY, ← hp]
        clear hY hp
        refine hK3 _ _ (HC.out _ HB4.out) ?_
        refine anyC_one (i := 6) (by kernel_rfl) rfl (by rfl) (fun K4 hK4 => ?_)
        obtain ⟨zf, d0, d1, d2, W5, hQ, e0, e1, e2, hb3⟩ := rdoor P74.out (.int .u8 ak) (.int .i64 an) (.slice (some ⟨g1, 0, none⟩) ar.length c1)
        have HF : Hid (Below V.heap.size V W5 ∧ (∃ B, LentV B W5 ⟨ak, an, .slice sa ar.length ca, ar⟩ ⟨ak, an, .slice (some ⟨g1, 0, none⟩) ar.length c1, ar⟩) ∧ (∃ B, LentV B W5 ⟨bk, bn, .slice sb br.length cb, br⟩ ⟨bk, bn, .slice (some ⟨g2, 0, none⟩) br.length c2, br⟩) ∧ W5.heap[p7]? = some (.cells #[.int .u8 ak, .int .i64 an, .slice (some ⟨g1, 0, none⟩) ar.length c1] 25 (0, 0)) ∧ W5.heap[p8]? = some (.cells #[.int .u8 0, .int .i64 0, .slice none 0 0] 25 (0, 0))) := put_box HB4.out LA4.out LB4.out P74.out P84.out M7.out (Ne.symm PP.out) hQ
        clear hb3
        go_simp
        rw [← hQ]
        clear hQ e0 e1 e2 d0 d1 d2 zf
        refine hK4 _ _ (HC.out _ HF.out.1) ?_
        refine anyC_one (i := 7) (by kernel_rfl) rfl (by rfl) (fun K5 hK5 => ?_)
        obtain ⟨zf, d0, d1, d2, W6, hQ, e0, e1, e2, hb3⟩ := rdoor HF.out.2.2.2.2 (.int .u8 bk) (.int .i64 bn) (.slice (some ⟨g2, 0, none⟩) br.length c2)
        have HG : Hid (Below V.heap.size V W6 ∧ (∃ B, LentV B W6 ⟨ak, an, .slice sa ar.length ca, ar⟩ ⟨ak, an, .slice (some ⟨g1, 0, none⟩) ar.length c1, ar⟩) ∧ (∃ B, LentV B W6 ⟨bk, bn, .slice sb br.length cb, br⟩ ⟨bk, bn, .slice (some ⟨g2, 0, none⟩) br.length c2, br⟩) ∧ W6.heap[p7]? = some (.cells #[.int .u8 ak, .int .i64 an, .slice (some ⟨g1, 0, none⟩) ar.length c1] 25 (0, 0)) ∧ W6.heap[p8]? = some (.cells #[.int .u8 bk, .int .i64 bn, .slice (some ⟨g2, 0, none⟩) br.length c2] 25 (0, 0))) := (show _ from by obtain ⟨a1, a2, a3, a4, a5⟩ := put_box HF.out.1 HF.out.2.1 HF.out.2.2.1 HF.out.2.2.2.2 HF.out.2.2.2.1 M8.out PP.out hQ; exact ⟨a1, a2, a3, a5, a4⟩)
        clear hb3
        go_simp
        rw [← hQ]
        clear hQ e0 e1 e2 d0 d1 d2 zf
        refine hK5 _ _ (HC.out _ HG.out.1) ?_
        refine anyC_done (by kernel_rfl) ?_
        exact KEY.out g1 c1 g2 c2 p7 p8 W6 HG.out.1 HG.out.2.1 HG.out.2.2.1 HG.out.2.2.2.1 HG.out.2.2.2.2
    · obtain ⟨W2, hY⟩ : ∃ W, W = W1.alloc (.cells #[.int .u8 0, .int .i64 0, .slice none 0 0] 25) := ⟨_, rfl⟩
      have hb : Below W1.heap.size W1 W2 := hY ▸ below_new W1 _
      have HB2 : Hid (Below V.heap.size V W2) := below_then HB1.out hb
      have LA2 : Hid (∃ B, LentV B W2 ⟨ak, an, .slice sa ar.length ca, ar⟩ ⟨ak, an, .slice (some ⟨g1, 0, none⟩) ar.length c1, ar⟩) := (show _ from by obtain ⟨B, h⟩ := LA1.out; exact ⟨B, h.at hb⟩)
      obtain ⟨p7, hp⟩ : ∃ p, p = W1.heap.size := ⟨_, rfl⟩
      have P72 : Hid (W2.heap[p7]? = some (.cells #[.int .u8 0, .int .i64 0, .slice none 0 0] 25 (0, 0))) := (show _ from by rw [hp, hY]; exact World.alloc_heap_new W1 _)
      have M7 : Hid (V.heap.size ≤ p7) := hp ▸ HB1.out.size
      clear hb
      go_simp
      rw [← hY, ← hp]
      clear hY hp
      refine hK1 _ _ (HC.out _ HB2.out) ?_
      refine anyC_two (i := 3) (j := 5) (by kernel_rfl) rfl rfl (by rfl) (by rfl) (fun K2 hK2 => ?_) (fun K2 hK2 => ?_)
      · go_simp
        refine ⟨trivial, ?_⟩
        refine (callsIn_wide.2 (HL2.out hbrl _ HB2.out)).mono ?_
        rintro e W3 ⟨g2, c2, rfl, hl, hb⟩
        have HB3 : Hid (Below V.heap.size V W3) := below_then HB2.out hb
        have LA3 : Hid (∃ B, LentV B W3 ⟨ak, an, .slice sa ar.length ca, ar⟩ ⟨ak, an, .slice (some ⟨g1, 0, none⟩) ar.length c1, ar⟩) := (show _ from by obtain ⟨B, h⟩ := LA2.out; exact ⟨B, h.at hb⟩)
        have P73 : Hid (W3.heap[p7]? = some (.cells #[.int .u8 0, .int .i64 0, .slice none 0 0] 25 (0, 0))) := (hb.block _ (Array.getElem?_eq_some_iff.1 P72.out).1).trans P72.out
        have LB3 : Hid (∃ B, LentV B W3 ⟨bk, bn, .slice sb br.length cb, br⟩ ⟨bk, bn, .slice (some ⟨g2, 0, none⟩) br.length c2, br⟩) := hl
        clear hb hl
        refine hK2 _ _ (HC.out _ HB3.out) ?_
        refine anyC_one (i := 5) (by kernel_rfl) rfl (by rfl) (fun K3 hK3 => ?_)
        obtain ⟨W4, hY⟩ : ∃ W, W = W3.alloc (.cells #[.int .u8 0, .int .i64 0, .slice none 0 0] 25) := ⟨_, rfl⟩
        have hb : Below W3.heap.size W3 W4 := hY ▸ below_new W3 _
        have HB4 : Hid (Below V.heap.size V W4) := below_then HB3.out hb
        have LA4 : Hid (∃ B, LentV B W4 ⟨ak, an, .slice sa ar.length ca, ar⟩ ⟨ak, an, .slice (some ⟨g1, 0, none⟩) ar.length c1, ar⟩) := (show _ from by obtain ⟨B, h⟩ := LA3.out; exact ⟨B, h.at hb⟩)
        have LB4 : Hid (∃ B, LentV B W4 ⟨bk, bn, .slice sb br.length cb, br⟩ ⟨bk, bn, .slice (some ⟨g2, 0, none⟩) br.length c2, br⟩) := (show _ from by obtain ⟨B, h⟩ := LB3.out; exact ⟨B, h.at hb⟩)
        have P74 : Hid (W4.heap[p7]? = some (.cells #[.int .u8 0, .int .i64 0, .slice none 0 0] 25 (0, 0))) := (hb.block _ (Array.getElem?_eq_some_iff.1 P73.out).1).trans P73.out
        obtain ⟨p8, hp⟩ : ∃ p, p = W3.heap.size := ⟨_, rfl⟩
        have P84 : Hid (W4.heap[p8]? = some (.cells #[.int .u8 0, .int .i64 0, .slice none 0 0] 25 (0, 0))) := (show _ from by rw [hp, hY]; exact World.alloc_heap_new W3 _)
        have M8 : Hid (V.heap.size ≤ p8) := hp ▸ HB3.out.size
        have PP : Hid (p7 ≠ p8) := (show p7 ≠ p8 from by have := (Array.getElem?_eq_some_iff.1 P73.out).1; omega)
        clear hb
        go_simp
        rw [← hY, ← hp]
        clear hY hp
        refine hK3 _ _ (HC.out _ HB4.out) ?_
        refine anyC_one (i := 6) (by kernel_rfl) rfl (by rfl) (fun K4 hK4 => ?_)
        obtain ⟨zf, d0, d1, d2, W5, hQ, e0, e1, e2, hb3⟩ := rdoor P74.out (.int .u8 ak) (.int .i64 an) (.slice (some ⟨g1, 0, none⟩) ar.length c1)
        have HF : Hid (Below V.heap.size V W5 ∧ (∃ B, LentV B W5 ⟨ak, an, .slice sa ar.length ca, ar⟩ ⟨ak, an, .slice (some ⟨g1, 0, none⟩) ar.length c1, ar⟩) ∧ (∃ B, LentV B W5 ⟨bk, bn, .slice sb br.length cb, br⟩ ⟨bk, bn, .slice (some ⟨g2, 0, none⟩) br.length c2, br⟩) ∧ W5.heap[p7]? = some (.cells #[.int .u8 ak, .int .i64 an, .slice (some ⟨g1, 0, none⟩) ar.length c1] 25 (0, 0)) ∧ W5.heap[p8]? = some (.cells #[.int .u8 0, .int .i64 0, .slice none 0 0] 25 (0, 0))) := put_box HB4.out LA4.out LB4.out P74.out P84.out M7.out (Ne.symm PP.out) hQ
        clear hb3
        go_simp
        rw [← hQ]
        clear hQ e0 e1 e2 d0 d1 d2 zf
        refine hK4 _ _ (HC.out _ HF.out.1) ?_
        refine anyC_one (i := 7) (by kernel_rfl) rfl (by rfl) (fun K5 hK5 => ?_)
        obtain ⟨zf, d0, d1, d2, W6, hQ, e0, e1, e2, hb3⟩ := rdoor HF.out.2.2.2.2 (.int .u8 bk) (.int .i64 bn) (.slice (some ⟨g2, 0, none⟩) br.length c2)
        have HG : Hid (Below V.heap.size V W6 ∧ (∃ B, LentV B W6 ⟨ak, an, .slice sa ar.length ca, ar⟩ ⟨ak, an, .slice (some ⟨g1, 0, none⟩) ar.length c1, ar⟩) ∧ (∃ B, LentV B W6 ⟨bk, bn, .slice sb br.length cb, br⟩ ⟨bk, bn, .slice (some ⟨g2, 0, none⟩) br.length c2, br⟩) ∧ W6.heap[p7]? = some (.cells #[.int .u8 ak, .int .i64 an, .slice (some ⟨g1, 0, none⟩) ar.length c1] 25 (0, 0)) ∧ W6.heap[p8]? = some (.cells #[.int .u8 bk, .int .i64 bn, .slice (some ⟨g2, 0, none⟩) br.length c2] 25 (0, 0))) := (show _ from by obtain ⟨a1, a2, a3, a4, a5⟩ := put_box HF.out.1 HF.out.2.1 HF.out.2.2.1 HF.out.2.2.2.2 HF.out.2.2.2.1 M8.out PP.out hQ; exact ⟨a1, a2, a3, a5, a4⟩)
        clear hb3
        go_simp
        rw [← hQ]
        clear hQ e0 e1 e2 d0 d1 d2 zf
        refine hK5 _ _ (HC.out _ HG.out.1) ?_
        refine anyC_done (by kernel_rfl) ?_
        exact KEY.out g1 c1 g2 c2 p7 p8 W6 HG.out.1 HG.out.2.1 HG.out.2.2.1 HG.out.2.2.2.1 HG.out.2.2.2.2
      · obtain ⟨W3, hY⟩ : ∃ W, W = W2.alloc (.cells #[.int .u8 0, .int .i64 0, .slice none 0 0] 25) := ⟨_, rfl⟩
        have hb : Below W2.heap.size W2 W3 := hY ▸ below_new W2 _
        have HB3 : Hid (Below V.heap.size V W3) := below_then HB2.out hb
        have LA3 : Hid (∃ B, LentV B W3 ⟨ak, an, .slice sa ar.length ca, ar⟩ ⟨ak, an, .slice (some ⟨g1, 0, none⟩) ar.length c1, ar⟩) := (show _ from by obtain ⟨B, h⟩ := LA2.out; exact ⟨B, h.at hb⟩)
        have P73 : Hid (W3.heap[p7]? = some (.cells #[.int .u8 0, .int .i64 0, .slice none 0 0] 25 (0, 0))) := (hb.block _ (Array.getElem?_eq_some_iff.1 P72.out).1).trans P72.out
        obtain ⟨p8, hp⟩ : ∃ p, p = W2.heap.size := ⟨_, rfl⟩
        have P83 : Hid (W3.heap[p8]? = some (.cells #[.int .u8 0, .int .i64 0, .slice none 0 0] 25 (0, 0))) := (show _ from by rw [hp, hY]; exact World.alloc_heap_new W2 _)
        have M8 : Hid (V.heap.size ≤ p8) := hp ▸ HB2.out.size
        have PP : Hid (p7 ≠ p8) := (show p7 ≠ p8 from by have := (Array.getElem?_eq_some_iff.1 P72.out).1; omega)
        clear hb
        go_simp
        rw [← hY, ← hp]
        clear hY hp
        refine hK2 _ _ (HC.out _ HB3.out) ?_
        refine anyC_one (i := 3) (by kernel_rfl) rfl (by rfl) (fun K3 hK3 => ?_)
        go_simp
        refine ⟨trivial, ?_⟩
        refine (callsIn_wide.2 (HL2.out hbrl _ HB3.out)).mono ?_
        rintro e W4 ⟨g2, c2, rfl, hl, hb⟩
        have HB4 : Hid (Below V.heap.size V W4) := below_then HB3.out hb
        have LA4 : Hid (∃ B, LentV B W4 ⟨ak, an, .slice sa ar.length ca, ar⟩ ⟨ak, an, .slice (some ⟨g1, 0, none⟩) ar.length c1, ar⟩) := (show _ from by obtain ⟨B, h⟩ := LA3.out; exact ⟨B, h.at hb⟩)
        have P74 : Hid (W4.heap[p7]? = some (.cells #[.int .u8 0, .int .i64 0, .slice none 0 0] 25 (0, 0))) := (hb.block _ (Array.getElem?_eq_some_iff.1 P73.out).1).trans P73.out
        have P84 : Hid (W4.heap[p8]? = some (.cells #[.int .u8 0, .int .i64 0, .slice none 0 0] 25 (0, 0))) := (hb.block _ (Array.getElem?_eq_some_iff.1 P83.out).1).trans P83.out
        have LB4 : Hid (∃ B, LentV B W4 ⟨bk, bn, .slice sb br.length cb, br⟩ ⟨bk, bn, .slice (some ⟨g2, 0, none⟩) br.length c2, br⟩) := hl
        clear hb hl
        refine hK3 _ _ (HC.out _ HB4.out) ?_
        refine anyC_one (i := 6) (by kernel_rfl) rfl (by rfl) (fun K4 hK4 => ?_)
        obtain ⟨zf, d0, d1, d2, W5, hQ, e0, e1, e2, hb3⟩ := rdoor P74.out (.int .u8 ak) (.int .i64 an) (.slice (some ⟨g1, 0, none⟩) ar.length c1)
        have HF : Hid (Below V.heap.size V W5 ∧ (∃ B, LentV B W5 ⟨ak, an, .slice sa ar.length ca, ar⟩ ⟨ak, an, .slice (some ⟨g1, 0, none⟩) ar.length c1, ar⟩) ∧ (∃ B, LentV B W5 ⟨bk, bn, .slice sb br.length cb, br⟩ ⟨bk, bn, .slice (some ⟨g2, 0, none⟩) br.length c2, br⟩) ∧ W5.heap[p7]? = some (.cells #[.int .u8 ak, .int .i64 an, .slice (some ⟨g1, 0, none⟩) ar.length c1] 25 (0, 0)) ∧ W5.heap[p8]? = some (.cells #[.int .u8 0, .int .i64 0, .slice none 0 0] 25 (0, 0))) := put_box HB4.out LA4.out LB4.out P74.out P84.out M7.out (Ne.symm PP.out) hQ
        clear hb3
        go_simp
        rw [← hQ]
        clear hQ e0 e1 e2 d0 d1 d2 zf
        refine hK4 _ _ (HC.out _ HF.out.1) ?_
        refine anyC_one (i := 7) (by kernel_rfl) rfl (by rfl) (fun K5 hK5 => ?_)
        obtain ⟨zf, d0, d1, d2, W6, hQ, e0, e1, e2, hb3⟩ := rdoor HF.out.2.2.2.2 (.int .u8 bk) (.int .i64 bn) (.slice (some ⟨g2, 0, none⟩) br.length c2)
        have HG : Hid (Below V.heap.size V W6 ∧ (∃ B, LentV B W6 ⟨ak, an, .slice sa ar.length ca, ar⟩ ⟨ak, an, .slice (some ⟨g1, 0, none⟩) ar.length c1, ar⟩) ∧ (∃ B, LentV B W6 ⟨bk, bn, .slice sb br.length cb, br⟩ ⟨bk, bn, .slice (some ⟨g2, 0, none⟩) br.length c2, br⟩) ∧ W6.heap[p7]? = some (.cells #[.int .u8 ak, .int .i64 an, .slice (some ⟨g1, 0, none⟩) ar.length c1] 25 (0, 0)) ∧ W6.heap[p8]? = some (.cells #[.int .u8 bk, .int .i64 bn, .slice (some ⟨g2, 0, none⟩) br.length c2] 25 (0, 0))) := (show _ from by obtain ⟨a1, a2, a3, a4, a5⟩ := put_box HF.out.1 HF.out.2.1 HF.out.2.2.1 HF.out.2.2.2.2 HF.out.2.2.2.1 M8.out PP.out hQ; exact ⟨a1, a2, a3, a5, a4⟩)
        clear hb3
        go_simp
        rw [← hQ]
        clear hQ e0 e1 e2 d0 d1 d2 zf
        refine hK5 _ _ (HC.out _ HG.out.1) ?_
        refine anyC_done (by kernel_rfl) ?_
        exact KEY.out g1 c1 g2 c2 p7 p8 W6 HG.out.1 HG.out.2.1 HG.out.2.2.1 HG.out.2.2.2.1 HG.out.2.2.2.2
    · obtain ⟨W2, hY⟩ : ∃ W, W = W1.alloc (.cells #[.int .u8 0, .int .i64 0, .slice none 0 0] 25) := ⟨_, rfl⟩
      have hb : Below W1.heap.size W1 W2 := hY ▸ below_new W1 _
      have HB2 : Hid (Below V.heap.size V W2) := below_then HB1.out hb
      have LA2 : Hid (∃ B, LentV B W2 ⟨ak, an, .slice sa ar.length ca, ar⟩ ⟨ak, an, .slice (some ⟨g1, 0, none⟩) ar.length c1, ar⟩) := (show _ from by obtain ⟨B, h⟩ := LA1.out; exact ⟨B, h.at hb⟩)
      obtain ⟨p8, hp⟩ : ∃ p, p = W1.heap.size := ⟨_, rfl⟩
      have P82 : Hid (W2.heap[p8]? = some (.cells #[.int .u8 0, .int .i64 0, .slice none 0 0] 25 (0, 0))) := (show _ from by rw [hp, hY]; exact World.alloc_heap_new W1 _)
      have M8 : Hid (V.heap.size ≤ p8) := hp ▸ HB1.out.size
      clear hb
      go_simp
      rw [← hY, ← hp]
      clear hY hp
      refine hK1 _ _ (HC.out _ HB2.out) ?_
      refine anyC_two (i := 3) (j := 4) (by kernel_rfl) rfl rfl (by rfl) (by rfl) (fun K2 hK2 => ?_) (fun K2 hK2 => ?_)
      · go_simp
        refine ⟨trivial, ?_⟩
        refine (callsIn_wide.2 (HL2.out hbrl _ HB2.out)).mono ?_
        rintro e W3 ⟨g2, c2, rfl, hl, hb⟩
        have HB3 : Hid (Below V.heap.size V W3) := below_then HB2.out hb
        have LA3 : Hid (∃ B, LentV B W3 ⟨ak, an, .slice sa ar.length ca, ar⟩ ⟨ak, an, .slice (some ⟨g1, 0, none⟩) ar.length c1, ar⟩) := (show _ from by obtain ⟨B, h⟩ := LA2.out; exact ⟨B, h.at hb⟩)
        have P83 : Hid (W3.heap[p8]? = some (.cells #[.int .u8 0, .int .i64 0, .slice none 0 0] 25 (0, 0))) := (hb.block _ (Array.getElem?_eq_some_iff.1 P82.out).1).trans P82.out
        have LB3 : Hid (∃ B, LentV B W3 ⟨bk, bn, .slice sb br.length cb, br⟩ ⟨bk, bn, .slice (some ⟨g2, 0, none⟩) br.length c2, br⟩) := hl
        clear hb hl
        refine hK2 _ _ (HC.out _ HB3.out) ?_
        refine anyC_one (i := 4) (by kernel_rfl) rfl (by rfl) (fun K3 hK3 => ?_)
        obtain ⟨W4, hY⟩ : ∃ W, W = W3.alloc (.cells #[.int .u8 0, .int .i64 0, .slice none 0 0] 25) := ⟨_, rfl⟩
        have hb : Below W3.heap.size W3 W4 := hY ▸ below_new W3 _
        have HB4 : Hid (Below V.heap.size V W4) := below_then HB3.out hb
        have LA4 : Hid (∃ B, LentV B W4 ⟨ak, an, .slice sa ar.length ca, ar⟩ ⟨ak, an, .slice (some ⟨g1, 0, none⟩) ar.length c1, ar⟩) := (show _ from by obtain ⟨B, h⟩ := LA3.out; exact ⟨B, h.at hb⟩)
        have LB4 : Hid (∃ B, LentV B W4 ⟨bk, bn, .slice sb br.length cb, br⟩ ⟨bk, bn, .slice (some ⟨g2, 0, none⟩) br.length c2, br⟩) := (show _ from by obtain ⟨B, h⟩ := LB3.out; exact ⟨B, h.at hb⟩)
        have P84 : Hid (W4.heap[p8]? = some (.cells #[.int .u8 0, .int .i64 0, .slice none 0 0] 25 (0, 0))) := (hb.block _ (Array.getElem?_eq_some_iff.1 P83.out).1).trans P83.out
        obtain ⟨p7, hp⟩ : ∃ p, p = W3.heap.size := ⟨_, rfl⟩
        have P74 : Hid (W4.heap[p7]? = some (.cells #[.int .u8 0, .int .i64 0, .slice none 0 0] 25 (0, 0))) := (show _ from by rw [hp, hY]; exact World.alloc_heap_new W3 _)
        have M7 : Hid (V.heap.size ≤ p7) := hp ▸ HB3.out.size
        have PP : Hid (p7 ≠ p8) := (show p7 ≠ p8 from by have := (Array.getElem?_eq_some_iff.1 P83.out).1; omega)
        clear hb
        go_simp
        rw [← hY, ← hp]
        clear hY hp
        refine hK3 _ _ (HC.out _ HB4.out) ?_
        refine anyC_one (i := 6) (by kernel_rfl) rfl (by rfl) (fun K4 hK4 => ?_)
        obtain ⟨zf, d0, d1, d2, W5, hQ, e0, e1, e2, hb3⟩ := rdoor P74.out (.int .u8 ak) (.int .i64 an) (.slice (some ⟨g1, 0, none⟩) ar.length c1)
        have HF : Hid (Below V.heap.size V W5 ∧ (∃ B, LentV B W5 ⟨ak, an, .slice sa ar.length ca, ar⟩ ⟨ak, an, .slice (some ⟨g1, 0, none⟩) ar.length c1, ar⟩) ∧ (∃ B, LentV B W5 ⟨bk, bn, .slice sb br.length cb, br⟩ ⟨bk, bn, .slice (some ⟨g2, 0, none⟩) br.length c2, br⟩) ∧ W5.heap[p7]? = some (.cells #[.int .u8 ak, .int .i64 an, .slice (some ⟨g1, 0, none⟩) ar.length c1] 25 (0, 0)) ∧ W5.heap[p8]? = some (.cells #[.int .u8 0, .int .i64 0, .slice none 0 0] 25 (0, 0))) := put_box HB4.out LA4.out LB4.out P74.out P84.out M7.out (Ne.symm PP.out) hQ
        clear hb3
        go_simp
        rw [← hQ]
        clear hQ e0 e1 e2 d0 d1 d2 zf
        refine hK4 _ _ (HC.out _ HF.out.1) ?_
        refine anyC_one (i := 7) (by kernel_rfl) rfl (by rfl) (fun K5 hK5 => ?_)
        obtain ⟨zf, d0, d1, d2, W6, hQ, e0, e1, e2, hb3⟩ := rdoor HF.out.2.2.2.2 (.int .u8 bk) (.int .i64 bn) (.slice (some ⟨g2, 0, none⟩) br.length c2)
        have HG : Hid (Below V.heap.size V W6 ∧ (∃ B, LentV B W6 ⟨ak, an, .slice sa ar.length ca, ar⟩ ⟨ak, an, .slice (some ⟨g1, 0, none⟩) ar.length c1, ar⟩) ∧ (∃ B, LentV B W6 ⟨bk, bn, .slice sb br.length cb, br⟩ ⟨bk, bn, .slice (some ⟨g2, 0, none⟩) br.length c2, br⟩) ∧ W6.heap[p7]? = some (.cells #[.int .u8 ak, .int .i64 an, .slice (some ⟨g1, 0, none⟩) ar.length c1] 25 (0, 0)) ∧ W6.heap[p8]? = some (.cells #[.int .u8 bk, .int .i64 bn, .slice (some ⟨g2, 0, none⟩) br.length c2] 25 (0, 0))) := (show _ from by obtain ⟨a1, a2, a3, a4, a5⟩ := put_box HF.out.1 HF.out.2.1 HF.out.2.2.1 HF.out.2.2.2.2 HF.out.2.2.2.1 M8.out PP.out hQ; exact ⟨a1, a2, a3, a5, a4⟩)
        clear hb3
        go_simp
        rw [← hQ]
        clear hQ e0 e1 e2 d0 d1 d2 zf
        refine hK5 _ _ (HC.out _ HG.out.1) ?_
        refine anyC_done (by kernel_rfl) ?_
        exact KEY.out g1 c1 g2 c2 p7 p8 W6 HG.out.1 HG.out.2.1 HG.out.2.2.1 HG.out.2.2.2.1 HG.out.2.2.2.2
      · obtain ⟨W3, hY⟩ : ∃ W, W = W2.alloc (.cells #[.int .u8 0, .int .i64 0, .slice none 0 0] 25) := ⟨_, rfl⟩
        have hb : Below W2.heap.size W2 W3 := hY ▸ below_new W2 _
        have HB3 : Hid (Below V.heap.size V W3) := below_then HB2.out hb
        have LA3 : Hid (∃ B, LentV B W3 ⟨ak, an, .slice sa ar.length ca, ar⟩ ⟨ak, an, .slice (some ⟨g1, 0, none⟩) ar.length c1, ar⟩) := (show _ from by obtain ⟨B, h⟩ := LA2.out; exact ⟨B, h.at hb⟩)
        have P83 : Hid (W3.heap[p8]? = some (.cells #[.int .u8 0, .int .i64 0, .slice none 0 0] 25 (0, 0))) := (hb.block _ (Array.getElem?_eq_some_iff.1 P82.out).1).trans P82.out
        obtain ⟨p7, hp⟩ : ∃ p, p = W2.heap.size := ⟨_, rfl⟩
        have P73 : Hid (W3.heap[p7]? = some (.cells #[.int .u8 0, .int .i64 0, .slice none 0 0] 25 (0, 0))) := (show _ from by rw [hp, hY]; exact World.alloc_heap_new W2 _)
        have M7 : Hid (V.heap.size ≤ p7) := hp ▸ HB2.out.size
        have PP : Hid (p7 ≠ p8) := (show p7 ≠ p8 from by have := (Array.getElem?_eq_some_iff.1 P82.out).1; omega)
        clear hb
        go_simp
        rw [← hY, ← hp]
        clear hY hp
        refine hK2 _ _ (HC.out _ HB3.out) ?_
        refine anyC_one (i := 3) (by kernel_rfl) rfl (by rfl) (fun K3 hK3 => ?_)
        go_simp
        refine ⟨trivial, ?_⟩
        refine (callsIn_wide.2 (HL2.out hbrl _ HB3.out)).mono ?_
        rintro e W4 ⟨g2, c2, rfl, hl, hb⟩
        have HB4 : Hid (Below V.heap.size V W4) := below_then HB3.out hb
        have LA4 : Hid (∃ B, LentV B W4 ⟨ak, an, .slice sa ar.length ca, ar⟩ ⟨ak, an, .slice (some ⟨g1, 0, none⟩) ar.length c1, ar⟩) := (show _ from by obtain ⟨B, h⟩ := LA3.out; exact ⟨B, h.at hb⟩)
        have P74 : Hid (W4.heap[p7]? = some (.cells #[.int .u8 0, .int .i64 0, .slice none 0 0] 25 (0, 0))) := (hb.block _ (Array.getElem?_eq_some_iff.1 P73.out).1).trans P73.out
        have P84 : Hid (W4.heap[p8]? = some (.cells #[.int .u8 0, .int .i64 0, .slice none 0 0] 25 (0, 0))) := (hb.block _ (Array.getElem?_eq_some_iff.1 P83.out).1).trans P83.out
        have LB4 : Hid (∃ B, LentV B W4 ⟨bk, bn, .slice sb br.length cb, br⟩ ⟨bk, bn, .slice (some ⟨g2, 0, none⟩) br.length c2, br⟩) := hl
        clear hb hl
        refine hK3 _ _ (HC.out _ HB4.out) ?_
        refine anyC_one (i := 6) (by kernel_rfl) rfl (by rfl) (fun K4 hK4 => ?_)
        obtain ⟨zf, d0, d1, d2, W5, hQ, e0, e1, e2, hb3⟩ := rdoor P74.out (.int .u8 ak) (.int .i64 an) (.slice (some ⟨g1, 0, none⟩) ar.length c1)
        have HF : Hid (Below V.heap.size V W5 ∧ (∃ B, LentV B W5 ⟨ak, an, .slice sa ar.length ca, ar⟩ ⟨ak, an, .slice (some ⟨g1, 0, none⟩) ar.length c1, ar⟩) ∧ (∃ B, LentV B W5 ⟨bk, bn, .slice sb br.length cb, br⟩ ⟨bk, bn, .slice (some ⟨g2, 0, none⟩) br.length c2, br⟩) ∧ W5.heap[p7]? = some (.cells #[.int .u8 ak, .int .i64 an, .slice (some ⟨g1, 0, none⟩) ar.length c1] 25 (0, 0)) ∧ W5.heap[p8]? = some (.cells #[.int .u8 0, .int .i64 0, .slice none 0 0] 25 (0, 0))) := put_box HB4.out LA4.out LB4.out P74.out P84.out M7.out (Ne.symm PP.out) hQ
        clear hb3
        go_simp
        rw [← hQ]
        clear hQ e0 e1 e2 d0 d1 d2 zf
        refine hK4 _ _ (HC.out _ HF.out.1) ?_
        refine anyC_one (i := 7) (by kernel_rfl) rfl (by rfl) (fun K5 hK5 => ?_)
        obtain ⟨zf, d0, d1, d2, W6, hQ, e0, e1, e2, hb3⟩ := rdoor HF.out.2.2.2.2 (.int .u8 bk) (.int .i64 bn) (.slice (some ⟨g2, 0, none⟩) br.length c2)
        have HG : Hid (Below V.heap.size V W6 ∧ (∃ B, LentV B W6 ⟨ak, an, .slice sa ar.length ca, ar⟩ ⟨ak, an, .slice (some ⟨g1, 0, none⟩) ar.length c1, ar⟩) ∧ (∃ B, LentV B W6 ⟨bk, bn, .slice sb br.length cb, br⟩ ⟨bk, bn, .slice (some ⟨g2, 0, none⟩) br.length c2, br⟩) ∧ W6.heap[p7]? = some (.cells #[.int .u8 ak, .int .i64 an, .slice (some ⟨g1, 0, none⟩) ar.length c1] 25 (0, 0)) ∧ W6.heap[p8]? = some (.cells #[.int .u8 bk, .int .i64 bn, .slice (some ⟨g2, 0, none⟩) br.length c2] 25 (0, 0))) := (show _ from by obtain ⟨a1, a2, a3, a4, a5⟩ := put_box HF.out.1 HF.out.2.1 HF.out.2.2.1 HF.out.2.2.2.2 HF.out.2.2.2.1 M8.out PP.out hQ; exact ⟨a1, a2, a3, a5, a4⟩)
        clear hb3
        go_simp
        rw [← hQ]
        clear hQ e0 e1 e2 d0 d1 d2 zf
        refine hK5 _ _ (HC.out _ HG.out.1) ?_
        refine anyC_done (by kernel_rfl) ?_
        exact KEY.out g1 c1 g2 c2 p7 p8 W6 HG.out.1 HG.out.2.1 HG.out.2.2.1 HG.out.2.2.2.1 HG.out.2.2.2.2
  · obtain ⟨W1, hY⟩ : ∃ W, W = W0.alloc (.cells #[.int .u8 0, .int .i64 0, .slice none 0 0] 25) := ⟨_, rfl⟩
    have hb : Below W0.heap.size W0 W1 := hY ▸ below_new W0 _
    have HB1 : Hid (Below V.heap.size V W1) := below_then HB0.out hb
    obtain ⟨p7, hp⟩ : ∃ p, p = W0.heap.size := ⟨_, rfl⟩
    have P71 : Hid (W1.heap[p7]? = some (.cells #[.int .u8 0, .int .i64 0, .slice none 0 0] 25 (0, 0))) := (show _ from by rw [hp, hY]; exact World.alloc_heap_new W0 _)
    have M7 : Hid (V.heap.size ≤ p7) := hp ▸ HB0.out.size
    clear hb
    go_simp
    rw [← hY, ← hp]
    clear hY hp
    refine hK0 _ _ (HC.out _ HB1.out) ?_
    refine anyC_two (i := 1) (j := 5) (by kernel_rfl) rfl rfl (by rfl) (by rfl) (fun K1 hK1 => ?_) (fun K1 hK1 => ?_)
    · go_simp
      refine ⟨trivial, ?_⟩
      refine (callsIn_wide.2 (HL1.out harl _ HB1.out)).mono ?_
      rintro e W2 ⟨g1, c1, rfl, hl, hb⟩
      have HB2 : Hid (Below V.heap.size V W2) := below_then HB1.out hb
      have P72 : Hid (W2.heap[p7]? = some (.cells #[.int .u8 0, .int .i64 0, .slice none 0 0] 25 (0, 0))) := (hb.block _ (Array.getElem?_eq_some_iff.1 P71.out).1).trans P71.out
      have LA2 : Hid (∃ B, LentV B W2 ⟨ak, an, .slice sa ar.length ca, ar⟩ ⟨ak, an, .slice (some ⟨g1, 0, none⟩) ar.length c1, ar⟩) := hl
      clear hb hl
      refine hK1 _ _ (HC.out _ HB2.out) ?_
      refine anyC_two (i := 3) (j := 5) (by kernel_rfl) rfl rfl (by rfl) (by rfl) (fun K2 hK2 => ?_) (fun K2 hK2 => ?_)
      · go_simp
        refine ⟨trivial, ?_⟩
        refine (callsIn_wide.2 (HL2.out hbrl _ HB2.out)).mono ?_
        rintro e W3 ⟨g2, c2, rfl, hl, hb⟩
        have HB3 : Hid (Below V.heap.size V W3) := below_then HB2.out hb
        have LA3 : Hid (∃ B, LentV B W3 ⟨ak, an, .slice sa ar.length ca, ar⟩ ⟨ak, an, .slice (some ⟨g1, 0, none⟩) ar.length c1, ar⟩) := (show _ from by obtain ⟨B, h⟩ := LA2.out; exact ⟨B, h.at hb⟩)
        have P73 : Hid (W3.heap[p7]? = some (.cells #[.int .u8 0, .int .i64 0, .slice none 0 0] 25 (0, 0))) := (hb.block _ (Array.getElem?_eq_some_iff.1 P72.out).1).trans P72.out
        have LB3 : Hid (∃ B, LentV B W3 ⟨bk, bn, .slice sb br.length cb, br⟩ ⟨bk, bn, .slice (some ⟨g2, 0, none⟩) br.length c2, br⟩) := hl
        clear hb hl
        refine hK2 _ _ (HC.out _ HB3.out) ?_
        refine anyC_one (i := 5) (by kernel_rfl) rfl (by rfl) (fun K3 hK3 => ?_)
        obtain ⟨W4, hY⟩ : ∃ W, W = W3.alloc (.cells #[.int .u8 0, .int .i64 0, .slice none 0 0] 25) := ⟨_, rfl⟩
        have hb : Below W3.heap.size W3 W4 := hY ▸ below_new W3 _
        have HB4 : Hid (Below V.heap.size V W4) := below_then HB3.out hb
        have LA4 : Hid (∃ B, LentV B W4 ⟨ak, an, .slice sa ar.length ca, ar⟩ ⟨ak, an, .slice (some ⟨g1, 0, none⟩) ar.length c1, ar⟩) := (show _ from by obtain ⟨B, h⟩ := LA3.out; exact ⟨B, h.at hb⟩)
        have LB4 : Hid (∃ B, LentV B W4 ⟨bk, bn, .slice sb br.length cb, br⟩ ⟨bk, bn, .slice (some ⟨g2, 0, none⟩) br.length c2, br⟩) := (show _ from by obtain ⟨B, h⟩ := LB3.out; exact ⟨B, h.at hb⟩)
        have P74 : Hid (W4.heap[p7]? = some (.cells #[.int .u8 0, .int .i64 0, .slice none 0 0] 25 (0, 0))) := (hb.block _ (Array.getElem?_eq_some_iff.1 P73.out).1).trans P73.out
        obtain ⟨p8, hp⟩ : ∃ p, p = W3.heap.size := ⟨_, rfl⟩
        have P84 : Hid (W4.heap[p8]? = some (.cells #[.int .u8 0, .int .i64 0, .slice none 0 0] 25 (0, 0))) := (show _ from by rw [hp, hY]; exact World.alloc_heap_new W3 _)
        have M8 : Hid (V.heap.size ≤ p8) := hp ▸ HB3.out.size
        have PP : Hid (p7 ≠ p8) := (show p7 ≠ p8 from by have := (Array.getElem?_eq_some_iff.1 P73.out).1; omega)
        clear hb
        go_simp
        rw [← hY, ← hp]
        clear hY hp
        refine hK3 _ _ (HC.out _ HB4.out) ?_
        refine anyC_one (i := 6) (by kernel_rfl) rfl (by rfl) (fun K4 hK4 => ?_)
        obtain ⟨zf, d0, d1, d2, W5, hQ, e0, e1, e2, hb3⟩ := rdoor P74.out (.int .u8 ak) (.int .i64 an) (.slice (some ⟨g1, 0, none⟩) ar.length c1)
        have HF : Hid (Below V.heap.size V W5 ∧ (∃ B, LentV B W5 ⟨ak, an, .slice sa ar.length ca, ar⟩ ⟨ak, an, .slice (some ⟨g1, 0, none⟩) ar.length c1, ar⟩) ∧ (∃ B, LentV B W5 ⟨bk, bn, .slice sb br.length cb, br⟩ ⟨bk, bn, .slice (some ⟨g2, 0, none⟩) br.length c2, br⟩) ∧ W5.heap[p7]? = some (.cells #[.int .u8 ak, .int .i64 an, .slice (some ⟨g1, 0, none⟩) ar.length c1] 25 (0, 0)) ∧ W5.heap[p8]? = some (.cells #[.int .u8 0, .int .i64 0, .slice none 0 0] 25 (0, 0))) := put_box HB4.out LA4.out LB4.out P74.out P84.out M7.out (Ne.symm PP.out) hQ
        clear hb3
        go_simp
        rw [← hQ]
        clear hQ e0 e1 e2 d0 d1 d2 zf
        refine hK4 _ _ (HC.out _ HF.out.1) ?_
        refine anyC_one (i := 7) (by kernel_rfl) rfl (by rfl) (fun K5 hK5 => ?_)
        obtain ⟨zf, d0, d1, d2, W6, hQ, e0, e1, e2, hb3⟩ := rdoor HF.out.2.2.2.2 (.int .u8 bk) (.int .i64 bn) (.slice (some ⟨g2, 0, none⟩) br.length c2)
        have HG : Hid (Below V.heap.size V W6 ∧ (∃ B, LentV B W6 ⟨ak, an, .slice sa ar.length ca, ar⟩ ⟨ak, an, .slice (some ⟨g1, 0, none⟩) ar.length c1, ar⟩) ∧ (∃ B, LentV B W6 ⟨bk, bn, .slice sb br.length cb, br⟩ ⟨bk, bn, .slice (some ⟨g2, 0, none⟩) br.length c2, br⟩) ∧ W6.heap[p7]? = some (.cells #[.int .u8 ak, .int .i64 an, .slice (some ⟨g1, 0, none⟩) ar.length c1] 25 (0, 0)) ∧ W6.heap[p8]? = some (.cells #[.int .u8 bk, .int .i64 bn, .slice (some ⟨g2, 0, none⟩) br.length c2] 25 (0, 0))) := (show _ from by obtain ⟨a1, a2, a3, a4, a5⟩ := put_box HF.out.1 HF.out.2.1 HF.out.2.2.1 HF.out.2.2.2.2 HF.out.2.2.2.1 M8.out PP.out hQ; exact ⟨a1, a2, a3, a5, a4⟩)
        clear hb3
        go_simp
        rw [← hQ]
        clear hQ e0 e1 e2 d0 d1 d2 zf
        refine hK5 _ _ (HC.out _ HG.out.1) ?_
        refine anyC_done (by kernel_rfl) ?_
        exact KEY.out g1 c1 g2 c2 p7 p8 W6 HG.out.1 HG.out.2.1 HG.out.2.2.1 HG.out.2.2.2.1 HG.out.2.2.2.2
      · obtain ⟨W3, hY⟩ : ∃ W, W = W2.alloc (.cells #[.int .u8 0, .int .i64 0, .slice none 0 0] 25) := ⟨_, rfl⟩
        have hb : Below W2.heap.size W2 W3 := hY ▸ below_new W2 _
        have HB3 : Hid (Below V.heap.size V W3) := below_then HB2.out hb
        have LA3 : Hid (∃ B, LentV B W3 ⟨ak, an, .slice sa ar.length ca, ar⟩ ⟨ak, an, .slice (some ⟨g1, 0, none⟩) ar.length c1, ar⟩) := (show _ from by obtain ⟨B, h⟩ := LA2.out; exact ⟨B, h.at hb⟩)
        have P73 : Hid (W3.heap[p7]? = some (.cells #[.int .u8 0, .int .i64 0, .slice none 0 0] 25 (0, 0))) := (hb.block _ (Array.getElem?_eq_some_iff.1 P72.out).1).trans P72.out
        obtain ⟨p8, hp⟩ : ∃ p, p = W2.heap.size := ⟨_, rfl⟩
        have P83 : Hid (W3.heap[p8]? = some (.cells #[.int .u8 0, .int .i64 0, .slice none 0 0] 25 (0, 0))) := (show _ from by rw [hp, hY]; exact World.alloc_heap_new W2 _)
        have M8 : Hid (V.heap.size ≤ p8) := hp ▸ HB2.out.size
        have PP : Hid (p7 ≠ p8) := (show p7 ≠ p8 from by have := (Array.getElem?_eq_some_iff.1 P72.out).1; omega)
        clear hb
        go_simp
        rw [← hY, ← hp]
        clear hY hp
        refine hK2 _ _ (HC.out _ HB3.out) ?_
        refine anyC_one (i := 3) (by kernel_rfl) rfl (by rfl) (fun K3 hK3 => ?_)
        go_simp
        refine ⟨trivial, ?_⟩
        refine (callsIn_wide.2 (HL2.out hbrl _ HB3.out)).mono ?_
        rintro e W4 ⟨g2, c2, rfl, hl, hb⟩
        have HB4 : Hid (Below V.heap.size V W4) := below_then HB3.out hb
        have LA4 : Hid (∃ B, LentV B W4 ⟨ak, an, .slice sa ar.length ca, ar⟩ ⟨ak, an, .slice (some ⟨g1, 0, none⟩) ar.length c1, ar⟩) := (show _ from by obtain ⟨B, h⟩ := LA3.out; exact ⟨B, h.at hb⟩)
        have P74 : Hid (W4.heap[p7]? = some (.cells #[.int .u8 0, .int .i64 0, .slice none 0 0] 25 (0, 0))) := (hb.block _ (Array.getElem?_eq_some_iff.1 P73.out).1).trans P73.out
        have P84 : Hid (W4.heap[p8]? = some (.cells #[.int .u8 0, .int .i64 0, .slice none 0 0] 25 (0, 0))) := (hb.block _ (Array.getElem?_eq_some_iff.1 P83.out).1).trans P83.out
        have LB4 : Hid (∃ B, LentV B W4 ⟨bk, bn, .slice sb br.length cb, br⟩ ⟨bk, bn, .slice (some ⟨g2, 0, none⟩) br.length c2, br⟩) := hl
        clear hb hl
        refine hK3 _ _ (HC.out _ HB4.out) ?_
        refine anyC_one (i := 6) (by kernel_rfl) rfl (by rfl) (fun K4 hK4 => ?_)
        obtain ⟨zf, d0, d1, d2, W5, hQ, e0, e1, e2, hb3⟩ := rdoor P74.out (.int .u8 ak) (.int .i64 an) (.slice (some ⟨g1, 0, none⟩) ar.length c1)
        have HF : Hid (Below V.heap.size V W5 ∧ (∃ B, LentV B W5 ⟨ak, an, .slice sa ar.length ca, ar⟩ ⟨ak, an, .slice (some ⟨g1, 0, none⟩) ar.length c1, ar⟩) ∧ (∃ B, LentV B W5 ⟨bk, bn, .slice sb br.length cb, br⟩ ⟨bk, bn, .slice (some ⟨g2, 0, none⟩) br.length c2, br⟩) ∧ W5.heap[p7]? = some (.cells #[.int .u8 ak, .int .i64 an, .slice (some ⟨g1, 0, none⟩) ar.length c1] 25 (0, 0)) ∧ W5.heap[p8]? = some (.cells #[.int .u8 0, .int .i64 0, .slice none 0 0] 25 (0, 0))) := put_box HB4.out LA4.out LB4.out P74.out P84.out M7.out (Ne.symm PP.out) hQ
        clear hb3
        go_simp
        rw [← hQ]
        clear hQ e0 e1 e2 d0 d1 d2 zf
        refine hK4 _ _ (HC.out _ HF.out.1) ?_
        refine anyC_one (i := 7) (by kernel_rfl) rfl (by rfl) (fun K5 hK5 => ?_)
        obtain ⟨zf, d0, d1, d2, W6, hQ, e0, e1, e2, hb3⟩ := rdoor HF.out.2.2.2.2 (.int .u8 bk) (.int .i64 bn) (.slice (some ⟨g2, 0, none⟩) br.length c2)
        have HG : Hid (Below V.heap.size V W6 ∧ (∃ B, LentV B W6 ⟨ak, an, .slice sa ar.length ca, ar⟩ ⟨ak, an, .slice (some ⟨g1, 0, none⟩) ar.length c1, ar⟩) ∧ (∃ B, LentV B W6 ⟨bk, bn, .slice sb br.length cb, br⟩ ⟨bk, bn, .slice (some ⟨g2, 0, none⟩) br.length c2, br⟩) ∧ W6.heap[p7]? = some (.cells #[.int .u8 ak, .int .i64 an, .slice (some ⟨g1, 0, none⟩) ar.length c1] 25 (0, 0)) ∧ W6.heap[p8]? = some (.cells #[.int .u8 bk, .int .i64 bn, .slice (some ⟨g2, 0, none⟩) br.length c2] 25 (0, 0))) := (show _ from by obtain ⟨a1, a2, a3, a4, a5⟩ := put_box HF.out.1 HF.out.2.1 HF.out.2.2.1 HF.out.2.2.2.2 HF.out.2.2.2.1 M8.out PP.out hQ; exact ⟨a1, a2, a3, a5, a4⟩)
        clear hb3
        go_simp
        rw [← hQ]
        clear hQ e0 e1 e2 d0 d1 d2 zf
        refine hK5 _ _ (HC.out _ HG.out.1) ?_
        refine anyC_done (by kernel_rfl) ?_
        exact KEY.out g1 c1 g2 c2 p7 p8 W6 HG.out.1 HG.out.2.1 HG.out.2.2.1 HG.out.2.2.2.1 HG.out.2.2.2.2
    · obtain ⟨W2, hY⟩ : ∃ W, W = W1.alloc (.cells #[.int .u8 0, .int .i64 0, .slice none 0 0] 25) := ⟨_, rfl⟩
      have hb : Below W1.heap.size W1 W2 := hY ▸ below_new W1 _
      have HB2 : Hid (Below V.heap.size V W2) := below_then HB1.out hb
      have P72 : Hid (W2.heap[p7]? = some (.cells #[.int .u8 0, .int .i64 0, .slice none 0 0] 25 (0, 0))) := (hb.block _ (Array.getElem?_eq_some_iff.1 P71.out).1).trans P71.out
      obtain ⟨p8, hp⟩ : ∃ p, p = W1.heap.size := ⟨_, rfl⟩
      have P82 : Hid (W2.heap[p8]? = some (.cells #[.int .u8 0, .int .i64 0, .slice none 0 0] 25 (0, 0))) := (show _ from by rw [hp, hY]; exact World.alloc_heap_new W1 _)
      have M8 : Hid (V.heap.size ≤ p8) := hp ▸ HB1.out.size
      have PP : Hid (p7 ≠ p8) := (show p7 ≠ p8 from by have := (Array.getElem?_eq_some_iff.1 P71.out).1; omega)
      clear hb
      go_simp
      rw [← hY, ← hp]
      clear hY hp
      refine hK1 _ _ (HC.out _ HB2.out) ?_
      refine anyC_one (i := 1) (by kernel_rfl) rfl (by rfl) (fun K2 hK2 => ?_)
      go_simp
      refine ⟨trivial, ?_⟩
      refine (callsIn_wide.2 (HL1.out harl _ HB2.out)).mono ?_
      rintro e W3 ⟨g1, c1, rfl, hl, hb⟩
      have HB3 : Hid (Below V.heap.size V W3) := below_then HB2.out hb
      have P73 : Hid (W3.heap[p7]? = some (.cells #[.int .u8 0, .int .i64 0, .slice none 0 0] 25 (0, 0))) := (hb.block _ (Array.getElem?_eq_some_iff.1 P72.out).1).trans P72.out
      have P83 : Hid (W3.heap[p8]? = some (.cells #[.int .u8 0, .int .i64 0, .slice none 0 0] 25 (0, 0))) := (hb.block _ (Array.getElem?_eq_some_iff.1 P82.out).1).trans P82.out
      have LA3 : Hid (∃ B, LentV B W3 ⟨ak, an, .slice sa ar.length ca, ar⟩ ⟨ak, an, .slice (some ⟨g1, 0, none⟩) ar.length c1, ar⟩) := hl
      clear hb hl
      refine hK2 _ _ (HC.out _ HB3.out) ?_
      refine anyC_one (i := 3) (by kernel_rfl) rfl (by rfl) (fun K3 hK3 => ?_)
      go_simp
      refine ⟨trivial, ?_⟩
      refine (callsIn_wide.2 (HL2.out hbrl _ HB3.out)).mono ?_
      rintro e W4 ⟨g2, c2, rfl, hl, hb⟩
      have HB4 : Hid (Below V.heap.size V W4) := below_then HB3.out hb
      have LA4 : Hid (∃ B, LentV B W4 ⟨ak, an, .slice sa ar.length ca, ar⟩ ⟨ak, an, .slice (some ⟨g1, 0, none⟩) ar.length c1, ar⟩) := (show _ from by obtain ⟨B, h⟩ := LA3.out; exact ⟨B, h.at hb⟩)
      have P74 : Hid (W4.heap[p7]? = some (.cells #[.int .u8 0, .int .i64 0, .slice none 0 0] 25 (0, 0))) := (hb.block _ (Array.getElem?_eq_some_iff.1 P73.out).1).trans P73.out
      have P84 : Hid (W4.heap[p8]? = some (.cells #[.int .u8 0, .int .i64 0, .slice none 0 0] 25 (0, 0))) := (hb.block _ (Array.getElem?_eq_some_iff.1 P83.out).1).trans P83.out
      have LB4 : Hid (∃ B, LentV B W4 ⟨bk, bn, .slice sb br.length cb, br⟩ ⟨bk, bn, .slice (some ⟨g2, 0, none⟩) br.length c2, br⟩) := hl
      clear hb hl
      refine hK3 _ _ (HC.out _ HB4.out) ?_
      refine anyC_one (i := 6) (by kernel_rfl) rfl (by rfl) (fun K4 hK4 => ?_)
      obtain ⟨zf, d0, d1, d2, W5, hQ, e0, e1, e2, hb3⟩ := rdoor P74.out (.int .u8 ak) (.int .i64 an) (.slice (some ⟨g1, 0, none⟩) ar.length c1)
      have HF : Hid (Below V.heap.size V W5 ∧ (∃ B, LentV B W5 ⟨ak, an, .slice sa ar.length ca, ar⟩ ⟨ak, an, .slice (some ⟨g1, 0, none⟩) ar.length c1, ar⟩) ∧ (∃ B, LentV B W5 ⟨bk, bn, .slice sb br.length cb, br⟩ ⟨bk, bn, .slice (some ⟨g2, 0, none⟩) br.length c2, br⟩) ∧ W5.heap[p7]? = some (.cells #[.int .u8 ak, .int .i64 an, .slice (some ⟨g1, 0, none⟩) ar.length c1] 25 (0, 0)) ∧ W5.heap[p8]? = some (.cells #[.int .u8 0, .int .i64 0, .slice none 0 0] 25 (0, 0))) := put_box HB4.out LA4.out LB4.out P74.out P84.out M7.out (Ne.symm PP.out) hQ
      clear hb3
      go_simp
      rw [← hQ]
      clear hQ e0 e1 e2 d0 d1 d2 zf
      refine hK4 _ _ (HC.out _ HF.out.1) ?_
      refine anyC_one (i := 7) (by kernel_rfl) rfl (by rfl) (fun K5 hK5 => ?_)
      obtain ⟨zf, d0, d1, d2, W6, hQ, e0, e1, e2, hb3⟩ := rdoor HF.out.2.2.2.2 (.int .u8 bk) (.int .i64 bn) (.slice (some ⟨g2, 0, none⟩) br.length c2)
      have HG : Hid (Below V.heap.size V W6 ∧ (∃ B, LentV B W6 ⟨ak, an, .slice sa ar.length ca, ar⟩ ⟨ak, an, .slice (some ⟨g1, 0, none⟩) ar.length c1, ar⟩) ∧ (∃ B, LentV B W6 ⟨bk, bn, .slice sb br.length cb, br⟩ ⟨bk, bn, .slice (some ⟨g2, 0, none⟩) br.length c2, br⟩) ∧ W6.heap[p7]? = some (.cells #[.int .u8 ak, .int .i64 an, .slice (some ⟨g1, 0, none⟩) ar.length c1] 25 (0, 0)) ∧ W6.heap[p8]? = some (.cells #[.int .u8 bk, .int .i64 bn, .slice (some ⟨g2, 0, none⟩) br.length c2] 25 (0, 0))) := (show _ from by obtain ⟨a1, a2, a3, a4, a5⟩ := put_box HF.out.1 HF.out.2.1 HF.out.2.2.1 HF.out.2.2.2.2 HF.out.2.2.2.1 M8.out PP.out hQ; exact ⟨a1, a2, a3, a5, a4⟩)
      clear hb3
      go_simp
      rw [← hQ]
      clear hQ e0 e1 e2 d0 d1 d2 zf
      refine hK5 _ _ (HC.out _ HG.out.1) ?_
      refine anyC_done (by kernel_rfl) ?_
      exact KEY.out g1 c1 g2 c2 p7 p8 W6 HG.out.1 HG.out.2.1 HG.out.2.2.1 HG.out.2.2.2.1 HG.out.2.2.2.2
  · obtain ⟨W1, hY⟩ : ∃ W, W = W0.alloc (.cells #[.int .u8 0, .int .i64 0, .slice none 0 0] 25) := ⟨_, rfl⟩
    have hb : Below W0.heap.size W0 W1 := hY ▸ below_new W0 _
    have HB1 : Hid (Below V.heap.size V W1) := below_then HB0.out hb
    obtain ⟨p8, hp⟩ : ∃ p, p = W0.heap.size := ⟨_, rfl⟩
    have P81 : Hid (W1.heap[p8]? = some (.cells #[.int .u8 0, .int .i64 0, .slice none 0 0] 25 (0, 0))) := (show _ from by rw [hp, hY]; exact World.alloc_heap_new W0 _)
    have M8 : Hid (V.heap.size ≤ p8) := hp ▸ HB0.out.size
    clear hb
    go_simp
    rw [← hY, ← hp]
    clear hY hp
    refine hK0 _ _ (HC.out _ HB1.out) ?_
    refine anyC_two (i := 1) (j := 4) (by kernel_rfl) rfl rfl (by rfl) (by rfl) (fun K1 hK1 => ?_) (fun K1 hK1 => ?_)
    · go_simp
      refine ⟨trivial, ?_⟩
      refine (callsIn_wide.2 (HL1.out harl _ HB1.out)).mono ?_
      rintro e W2 ⟨g1, c1, rfl, hl, hb⟩
      have HB2 : Hid (Below V.heap.size V W2) := below_then HB1.out hb
      have P82 : Hid (W2.heap[p8]? = some (.cells #[.int .u8 0, .int .i64 0, .slice none 0 0] 25 (0, 0))) := (hb.block _ (Array.getElem?_eq_some_iff.1 P81.out).1).trans P81.out
      have LA2 : Hid (∃ B, LentV B W2 ⟨ak, an, .slice sa ar.length ca, ar⟩ ⟨ak, an, .slice (some ⟨g1, 0, none⟩) ar.length c1, ar⟩) := hl
      clear hb hl
      refine hK1 _ _ (HC.out _ HB2.out) ?_
      refine anyC_two (i := 3) (j := 4) (by kernel_rfl) rfl rfl (by rfl) (by rfl) (fun K2 hK2 => ?_) (fun K2 hK2 => ?_)
      · go_simp
        refine ⟨trivial, ?_⟩
        refine (callsIn_wide.2 (HL2.out hbrl _ HB2.out)).mono ?_
        rintro e W3 ⟨g2, c2, rfl, hl, hb⟩
        have HB3 : Hid (Below V.heap.size V W3) := below_then HB2.out hb
        have LA3 : Hid (∃ B, LentV B W3 ⟨ak, an, .slice sa ar.length ca, ar⟩ ⟨ak, an, .slice (some ⟨g1, 0, none⟩) ar.length c1, ar⟩) := (show _ from by obtain ⟨B, h⟩ := LA2.out; exact ⟨B, h.at hb⟩)
        have P83 : Hid (W3.heap[p8]? = some (.cells #[.int .u8 0, .int .i64 0, .slice none 0 0] 25 (0, 0))) := (hb.block _ (Array.getElem?_eq_some_iff.1 P82.out).1).trans P82.out
        have LB3 : Hid (∃ B, LentV B W3 ⟨bk, bn, .slice sb br.length cb, br⟩ ⟨bk, bn, .slice (some ⟨g2, 0, none⟩) br.length c2, br⟩) := hl
        clear hb hl
        refine hK2 _ _ (HC.out _ HB3.out) ?_
        refine anyC_one (i := 4) (by kernel_rfl) rfl (by rfl) (fun K3 hK3 => ?_)
        obtain ⟨W4, hY⟩ : ∃ W, W = W3.alloc (.cells #[.int .u8 0, .int .i64 0, .slice none 0 0] 25) := ⟨_, rfl⟩
        have hb : Below W3.heap.size W3 W4 := hY ▸ below_new W3 _
        have HB4 : Hid (Below V.heap.size V W4) := below_then HB3.out hb
        have LA4 : Hid (∃ B, LentV B W4 ⟨ak, an, .slice sa ar.length ca, ar⟩ ⟨ak, an, .slice (some ⟨g1, 0, none⟩) ar.length c1, ar⟩) := (show _ from by obtain ⟨B, h⟩ := LA3.out; exact ⟨B, h.at hb⟩)
        have LB4 : Hid (∃ B, LentV B W4 ⟨bk, bn, .slice sb br.length cb, br⟩ ⟨bk, bn, .slice (some ⟨g2, 0, none⟩) br.length c2, br⟩) := (show _ from by obtain ⟨B, h⟩ := LB3.out; exact ⟨B, h.at hb⟩)
        have P84 : Hid (W4.heap[p8]? = some (.cells #[.int .u8 0, .int .i64 0, .slice none 0 0] 25 (0, 0))) := (hb.block _ (Array.getElem?_eq_some_iff.1 P83.out).1).trans P83.out
        obtain ⟨p7, hp⟩ : ∃ p, p = W3.heap.size := ⟨_, rfl⟩
        have P74 : Hid (W4.heap[p7]? = some (.cells #[.int .u8 0, .int .i64 0, .slice none 0 0] 25 (0, 0))) := (show _ from by rw [hp, hY]; exact World.alloc_heap_new W3 _)
        have M7 : Hid (V.heap.size ≤ p7) := hp ▸ HB3.out.size
        have PP : Hid (p7 ≠ p8) := (show p7 ≠ p8 from by have := (Array.getElem?_eq_some_iff.1 P83.out).1; omega)
        clear hb
        go_simp
        rw [← hY, ← hp]
        clear hY hp
        refine hK3 _ _ (HC.out _ HB4.out) ?_
        refine anyC_one (i := 6) (by kernel_rfl) rfl (by rfl) (fun K4 hK4 => ?_)
        obtain ⟨zf, d0, d1, d2, W5, hQ, e0, e1, e2, hb3⟩ := rdoor P74.out (.int .u8 ak) (.int .i64 an) (.slice (some ⟨g1, 0, none⟩) ar.length c1)
        have HF : Hid (Below V.heap.size V W5 ∧ (∃ B, LentV B W5 ⟨ak, an, .slice sa ar.length ca, ar⟩ ⟨ak, an, .slice (some ⟨g1, 0, none⟩) ar.length c1, ar⟩) ∧ (∃ B, LentV B W5 ⟨bk, bn, .slice sb br.length cb, br⟩ ⟨bk, bn, .slice (some ⟨g2, 0, none⟩) br.length c2, br⟩) ∧ W5.heap[p7]? = some (.cells #[.int .u8 ak, .int .i64 an, .slice (some ⟨g1, 0, none⟩) ar.length c1] 25 (0, 0)) ∧ W5.heap[p8]? = some (.cells #[.int .u8 0, .int .i64 0, .slice none 0 0] 25 (0, 0))) := put_box HB4.out LA4.out LB4.out P74.out P84.out M7.out (Ne.symm PP.out) hQ
        clear hb3
        go_simp
        rw [← hQ]
        clear hQ e0 e1 e2 d0 d1 d2 zf
        refine hK4 _ _ (HC.out _ HF.out.1) ?_
        refine anyC_one (i := 7) (by kernel_rfl) rfl (by rfl) (fun K5 hK5 => ?_)
        obtain ⟨zf, d0, d1, d2, W6, hQ, e0, e1, e2, hb3⟩ := rdoor HF.out.2.2.2.2 (.int .u8 bk) (.int .i64 bn) (.slice (some ⟨g2, 0, none⟩) br.length c2)
        have HG : Hid (Below V.heap.size V W6 ∧ (∃ B, LentV B W6 ⟨ak, an, .slice sa ar.length ca, ar⟩ ⟨ak, an, .slice (some ⟨g1, 0, none⟩) ar.length c1, ar⟩) ∧ (∃ B, LentV B W6 ⟨bk, bn, .slice sb br.length cb, br⟩ ⟨bk, bn, .slice (some ⟨g2, 0, none⟩) br.length c2, br⟩) ∧ W6.heap[p7]? = some (.cells #[.int .u8 ak, .int .i64 an, .slice (some ⟨g1, 0, none⟩) ar.length c1] 25 (0, 0)) ∧ W6.heap[p8]? = some (.cells #[.int .u8 bk, .int .i64 bn, .slice (some ⟨g2, 0, none⟩) br.length c2] 25 (0, 0))) := (show _ from by obtain ⟨a1, a2, a3, a4, a5⟩ := put_box HF.out.1 HF.out.2.1 HF.out.2.2.1 HF.out.2.2.2.2 HF.out.2.2.2.1 M8.out PP.out hQ; exact ⟨a1, a2, a3, a5, a4⟩)
        clear hb3
        go_simp
        rw [← hQ]
        clear hQ e0 e1 e2 d0 d1 d2 zf
        refine hK5 _ _ (HC.out _ HG.out.1) ?_
        refine anyC_done (by kernel_rfl) ?_
        exact KEY.out g1 c1 g2 c2 p7 p8 W6 HG.out.1 HG.out.2.1 HG.out.2.2.1 HG.out.2.2.2.1 HG.out.2.2.2.2
      · obtain ⟨W3, hY⟩ : ∃ W, W = W2.alloc (.cells #[.int .u8 0, .int .i64 0, .slice none 0 0] 25) := ⟨_, rfl⟩
        have hb : Below W2.heap.size W2 W3 := hY ▸ below_new W2 _
        have HB3 : Hid (Below V.heap.size V W3) := below_then HB2.out hb
        have LA3 : Hid (∃ B, LentV B W3 ⟨ak, an, .slice sa ar.length ca, ar⟩ ⟨ak, an, .slice (some ⟨g1, 0, none⟩) ar.length c1, ar⟩) := (show _ from by obtain ⟨B, h⟩ := LA2.out; exact ⟨B, h.at hb⟩)
        have P83 : Hid (W3.heap[p8]? = some (.cells #[.int .u8 0, .int .i64 0, .slice none 0 0] 25 (0, 0))) := (hb.block _ (Array.getElem?_eq_some_iff.1 P82.out).1).trans P82.out
        obtain ⟨p7, hp⟩ : ∃ p, p = W2.heap.size := ⟨_, rfl⟩
        have P73 : Hid (W3.heap[p7]? = some (.cells #[.int .u8 0, .int .i64 0, .slice none 0 0] 25 (0, 0))) := (show _ from by rw [hp, hY]; exact World.alloc_heap_new W2 _)
        have M7 : Hid (V.heap.size ≤ p7) := hp ▸ HB2.out.size
        have PP : Hid (p7 ≠ p8) := (show p7 ≠ p8 from by have := (Array.getElem?_eq_some_iff.1 P82.out).1; omega)
        clear hb
        go_simp
        rw [← hY, ← hp]
        clear hY hp
        refine hK2 _ _ (HC.out _ HB3.out) ?_
        refine anyC_one (i := 3) (by kernel_rfl) rfl (by rfl) (fun K3 hK3 => ?_)
        go_simp
        refine ⟨trivial, ?_⟩
        refine (callsIn_wide.2 (HL2.out hbrl _ HB3.out)).mono ?_
        rintro e W4 ⟨g2, c2, rfl, hl, hb⟩
        have HB4 : Hid (Below V.heap.size V W4) := below_then HB3.out hb
        have LA4 : Hid (∃ B, LentV B W4 ⟨ak, an, .slice sa ar.length ca, ar⟩ ⟨ak, an, .slice (some ⟨g1, 0, none⟩) ar.length c1, ar⟩) := (show _ from by obtain ⟨B, h⟩ := LA3.out; exact ⟨B, h.at hb⟩)
        have P74 : Hid (W4.heap[p7]? = some (.cells #[.int .u8 0, .int .i64 0, .slice none 0 0] 25 (0, 0))) := (hb.block _ (Array.getElem?_eq_some_iff.1 P73.out).1).trans P73.out
        have P84 : Hid (W4.heap[p8]? = some (.cells #[.int .u8 0, .int .i64 0, .slice none 0 0] 25 (0, 0))) := (hb.block _ (Array.getElem?_eq_some_iff.1 P83.out).1).trans P83.out
        have LB4 : Hid (∃ B, LentV B W4 ⟨bk, bn, .slice sb br.length cb, br⟩ ⟨bk, bn, .slice (some ⟨g2, 0, none⟩) br.length c2, br⟩) := hl
        clear hb hl
        refine hK3 _ _ (HC.out _ HB4.out) ?_
        refine anyC_one (i := 6) (by kernel_rfl) rfl (by rfl) (fun K4 hK4 => ?_)
        obtain ⟨zf, d0, d1, d2, W5, hQ, e0, e1, e2, hb3⟩ := rdoor P74.out (.int .u8 ak) (.int .i64 an) (.slice (some ⟨g1, 0, none⟩) ar.length c1)
        have HF : Hid (Below V.heap.size V W5 ∧ (∃ B, LentV B W5 ⟨ak, an, .slice sa ar.length ca, ar⟩ ⟨ak, an, .slice (some ⟨g1, 0, none⟩) ar.length c1, ar⟩) ∧ (∃ B, LentV B W5 ⟨bk, bn, .slice sb br.length cb, br⟩ ⟨bk, bn, .slice (some ⟨g2, 0, none⟩) br.length c2, br⟩) ∧ W5.heap[p7]? = some (.cells #[.int .u8 ak, .int .i64 an, .slice (some ⟨g1, 0, none⟩) ar.length c1] 25 (0, 0)) ∧ W5.heap[p8]? = some (.cells #[.int .u8 0, .int .i64 0, .slice none 0 0] 25 (0, 0))) := put_box HB4.out LA4.out LB4.out P74.out P84.out M7.out (Ne.symm PP.out) hQ
        clear hb3
        go_simp
        rw [← hQ]
        clear hQ e0 e1 e2 d0 d1 d2 zf
        refine hK4 _ _ (HC.out _ HF.out.1) ?_
        refine anyC_one (i := 7) (by kernel_rfl) rfl (by rfl) (fun K5 hK5 => ?_)
        obtain ⟨zf, d0, d1, d2, W6, hQ, e0, e1, e2, hb3⟩ := rdoor HF.out.2.2.2.2 (.int .u8 bk) (.int .i64 bn) (.slice (some ⟨g2, 0, none⟩) br.length c2)
        have HG : Hid (Below V.heap.size V W6 ∧ (∃ B, LentV B W6 ⟨ak, an, .slice sa ar.length ca, ar⟩ ⟨ak, an, .slice (some ⟨g1, 0, none⟩) ar.length c1, ar⟩) ∧ (∃ B, LentV B W6 ⟨bk, bn, .slice sb br.length cb, br⟩ ⟨bk, bn, .slice (some ⟨g2, 0, none⟩) br.length c2, br⟩) ∧ W6.heap[p7]? = some (.cells #[.int .u8 ak, .int .i64 an, .slice (some ⟨g1, 0, none⟩) ar.length c1] 25 (0, 0)) ∧ W6.heap[p8]? = some (.cells #[.int .u8 bk, .int .i64 bn, .slice (some ⟨g2, 0, none⟩) br.length c2] 25 (0, 0))) := (show _ from by obtain ⟨a1, a2, a3, a4, a5⟩ := put_box HF.out.1 HF.out.2.1 HF.out.2.2.1 HF.out.2.2.2.2 HF.out.2.2.2.1 M8.out PP.out hQ; exact ⟨a1, a2, a3, a5, a4⟩)
        clear hb3
        go_simp
        rw [← hQ]
        clear hQ e0 e1 e2 d0 d1 d2 zf
        refine hK5 _ _ (HC.out _ HG.out.1) ?_
        refine anyC_done (by kernel_rfl) ?_
        exact KEY.out g1 c1 g2 c2 p7 p8 W6 HG.out.1 HG.out.2.1 HG.out.2.2.1 HG.out.2.2.2.1 HG.out.2.2.2.2
    · obtain ⟨W2, hY⟩ : ∃ W, W = W1.alloc (.cells #[.int .u8 0, .int .i64 0, .slice none 0 0] 25) := ⟨_, rfl⟩
      have hb : Below W1.heap.size W1 W2 := hY ▸ below_new W1 _
      have HB2 : Hid (Below V.heap.size V W2) := below_then HB1.out hb
      have P82 : Hid (W2.heap[p8]? = some (.cells #[.int .u8 0, .int .i64 0, .slice none 0 0] 25 (0, 0))) := (hb.block _ (Array.getElem?_eq_some_iff.1 P81.out).1).trans P81.out
      obtain ⟨p7, hp⟩ : ∃ p, p = W1.heap.size := ⟨_, rfl⟩
      have P72 : Hid (W2.heap[p7]? = some (.cells #[.int .u8 0, .int .i64 0, .slice none 0 0] 25 (0, 0))) := (show _ from by rw [hp, hY]; exact World.alloc_heap_new W1 _)
      have M7 : Hid (V.heap.size ≤ p7) := hp ▸ HB1.out.size
      have PP : Hid (p7 ≠ p8) := (show p7 ≠ p8 from by have := (Array.getElem?_eq_some_iff.1 P81.out).1; omega)
      clear hb
      go_simp
      rw [← hY, ← hp]
      clear hY hp
      refine hK1 _ _ (HC.out _ HB2.out) ?_
      refine anyC_one (i := 1) (by kernel_rfl) rfl (by rfl) (fun K2 hK2 => ?_)
      go_simp
      refine ⟨trivial, ?_⟩
      refine (callsIn_wide.2 (HL1.out harl _ HB2.out)).mono ?_
      rintro e W3 ⟨g1, c1, rfl, hl, hb⟩
      have HB3 : Hid (Below V.heap.size V W3) := below_then HB2.out hb
      have P73 : Hid (W3.heap[p7]? = some (.cells #[.int .u8 0, .int .i64 0, .slice none 0 0] 25 (0, 0))) := (hb.block _ (Array.getElem?_eq_some_iff.1 P72.out).1).trans P72.out
      have P83 : Hid (W3.heap[p8]? = some (.cells #[.int .u8 0, .int .i64 0, .slice none 0 0] 25 (0, 0))) := (hb.block _ (Array.getElem?_eq_some_iff.1 P82.out).1).trans P82.out
      have LA3 : Hid (∃ B, LentV B W3 ⟨ak, an, .slice sa ar.length ca, ar⟩ ⟨ak, an, .slice (some ⟨g1, 0, none⟩) ar.length c1, ar⟩) := hl
      clear hb hl
      refine hK2 _ _ (HC.out _ HB3.out) ?_
      refine anyC_one (i := 3) (by kernel_rfl) rfl (by rfl) (fun K3 hK3 => ?_)
      go_simp
      refine ⟨trivial, ?_⟩
      refine (callsIn_wide.2 (HL2.out hbrl _ HB3.out)).mono ?_
      rintro e W4 ⟨g2, c2, rfl, hl, hb⟩
      have HB4 : Hid (Below V.heap.size V W4) := below_then HB3.out hb
      have LA4 : Hid (∃ B, LentV B W4 ⟨ak, an, .slice sa ar.length ca, ar⟩ ⟨ak, an, .slice (some ⟨g1, 0, none⟩) ar.length c1, ar⟩) := (show _ from by obtain ⟨B, h⟩ := LA3.out; exact ⟨B, h.at hb⟩)
      have P74 : Hid (W4.heap[p7]? = some (.cells #[.int .u8 0, .int .i64 0, .slice none 0 0] 25 (0, 0))) := (hb.block _ (Array.getElem?_eq_some_iff.1 P73.out).1).trans P73.out
      have P84 : Hid (W4.heap[p8]? = some (.cells #[.int .u8 0, .int .i64 0, .slice none 0 0] 25 (0, 0))) := (hb.block _ (Array.getElem?_eq_some_iff.1 P83.out).1).trans P83.out
      have LB4 : Hid (∃ B, LentV B W4 ⟨bk, bn, .slice sb br.length cb, br⟩ ⟨bk, bn, .slice (some ⟨g2, 0, none⟩) br.length c2, br⟩) := hl
      clear hb hl
      refine hK3 _ _ (HC.out _ HB4.out) ?_
      refine anyC_one (i := 6) (by kernel_rfl) rfl (by rfl) (fun K4 hK4 => ?_)
      obtain ⟨zf, d0, d1, d2, W5, hQ, e0, e1, e2, hb3⟩ := rdoor P74.out (.int .u8 ak) (.int .i64 an) (.slice (some ⟨g1, 0, none⟩) ar.length c1)
      have HF : Hid (Below V.heap.size V W5 ∧ (∃ B, LentV B W5 ⟨ak, an, .slice sa ar.length ca, ar⟩ ⟨ak, an, .slice (some ⟨g1, 0, none⟩) ar.length c1, ar⟩) ∧ (∃ B, LentV B W5 ⟨bk, bn, .slice sb br.length cb, br⟩ ⟨bk, bn, .slice (some ⟨g2, 0, none⟩) br.length c2, br⟩) ∧ W5.heap[p7]? = some (.cells #[.int .u8 ak, .int .i64 an, .slice (some ⟨g1, 0, none⟩) ar.length c1] 25 (0, 0)) ∧ W5.heap[p8]? = some (.cells #[.int .u8 0, .int .i64 0, .slice none 0 0] 25 (0, 0))) := put_box HB4.out LA4.out LB4.out P74.out P84.out M7.out (Ne.symm PP.out) hQ
      clear hb3
      go_simp
      rw [← hQ]
      clear hQ e0 e1 e2 d0 d1 d2 zf
      refine hK4 _ _ (HC.out _ HF.out.1) ?_
      refine anyC_one (i := 7) (by kernel_rfl) rfl (by rfl) (fun K5 hK5 => ?_)
      obtain ⟨zf, d0, d1, d2, W6, hQ, e0, e1, e2, hb3⟩ := rdoor HF.out.2.2.2.2 (.int .u8 bk) (.int .i64 bn) (.slice (some ⟨g2, 0, none⟩) br.length c2)
      have HG : Hid (Below V.heap.size V W6 ∧ (∃ B, LentV B W6 ⟨ak, an, .slice sa ar.length ca, ar⟩ ⟨ak, an, .slice (some ⟨g1, 0, none⟩) ar.length c1, ar⟩) ∧ (∃ B, LentV B W6 ⟨bk, bn, .slice sb br.length cb, br⟩ ⟨bk, bn, .slice (some ⟨g2, 0, none⟩) br.length c2, br⟩) ∧ W6.heap[p7]? = some (.cells #[.int .u8 ak, .int .i64 an, .slice (some ⟨g1, 0, none⟩) ar.length c1] 25 (0, 0)) ∧ W6.heap[p8]? = some (.cells #[.int .u8 bk, .int .i64 bn, .slice (some ⟨g2, 0, none⟩) br.length c2] 25 (0, 0))) := (show _ from by obtain ⟨a1, a2, a3, a4, a5⟩ := put_box HF.out.1 HF.out.2.1 HF.out.2.2.1 HF.out.2.2.2.2 HF.out.2.2.2.1 M8.out PP.out hQ; exact ⟨a1, a2, a3, a5, a4⟩)
      clear hb3
      go_simp
      rw [← hQ]
      clear hQ e0 e1 e2 d0 d1 d2 zf
      refine hK5 _ _ (HC.out _ HG.out.1) ?_
      refine anyC_done (by kernel_rfl) ?_
      exact KEY.out g1 c1 g2 c2 p7 p8 W6 HG.out.1 HG.out.2.1 HG.out.2.2.1 HG.out.2.2.2.1 HG.out.2.2.2.2
end Go.Proofs.YtcnmgebjbaclaaaDoor

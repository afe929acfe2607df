/-
  The walk of clerestorykit.LentValues: a row of values with marks behind it, and behind the numbers of each.
-/
import Derived.Test.YtcnmgebjbaclaaaDoorVlLent
import Derived.Test.YtcnmgebjbaclaaaDoorFlatBase
namespace Go.Proofs.YtcnmgebjbaclaaaDoor
open Go.RowKit Go.Shelf
open Vl (V Res)

attribute [local go_sem] Oper.semAt_some

theorem vaCells_snoc (ys : List VA) (y : VA) : vaCells (ys ++ [y]) = vaCells ys ++ [.int .u8 y.k, .int .i64 y.n, y.vs] := by simp [vaCells, VA.cells]
/-- Marks. -/
def vm1 (j : Nat) : VA := ⟨0, mk1 j, .slice none 0 0, []⟩
def vmk (n : Nat) : List VA := (List.range n).map vm1
theorem vmk_succ (n : Nat) : vmk (n + 1) = vmk n ++ [vm1 n] := by unfold vmk; rw [List.range_succ, List.map_append]; rfl
theorem vmk_len (n : Nat) : (vmk n).length = n := by unfold vmk; rw [List.length_map, List.length_range]
theorem vmk_get (k : Nat) (h : k < 12) : (vmk 12)[k]? = some (vm1 k) := by
  unfold vmk
  rw [List.getElem?_map, List.getElem?_range h]; rfl
set_option maxRecDepth 100000 in
set_option maxHeartbeats 2000000 in
theorem markValue_any (i : Nat) (hi : i ≤ 1000000) (w : World) : Calls Tryd.prog 30 #[.int .i64 1, .int .i64 i] w fun e w' => e = .returned (vV 0 (mk1 i) (.slice none 0 0)) ∧ Below w.heap.size w w' := by
  obtain ⟨X, hX⟩ : ∃ X, X = w.alloc (.cells #[.int .u8 0, .int .i64 0, .slice none 0 0] 25) := ⟨_, rfl⟩
  have HX : Hid (Below w.heap.size w X ∧ X.heap[w.heap.size]? = some (.cells #[.int .u8 0, .int .i64 0, .slice none 0 0] 25 (0, 0)) ∧ w.heap.size < X.heap.size) := by rw [hX]; exact ⟨below_new w _, World.alloc_heap_new w _, by rw [World.size_alloc]; omega⟩
  go_enter Tryd.func30, Tryd.ntmps30
  go_wp2_with fail
  rw [← hX]
  clear hX
  refine (mark1_any i hi _).mono ?_
  rintro e w1 ⟨rfl, hb⟩
  have n1 := (hb.block _ HX.out.2.2).trans HX.out.2.1
  have HB : Hid (_) := below_then HX.out.1 hb
  obtain ⟨zf, d0, d1, d2, Q, hQ, e0, e1, e2, hb3⟩ := rdoor n1 (.int .u8 0) (.int .i64 (mk1 i)) (.slice none 0 0)
  have HQ : Hid (Below w.heap.size w Q) := HB.out.trans hb3
  clear hb n1 hb3
  go_wp2
  rw [← hQ]
  clear hQ d0 d1 d2 zf
  refine bodyPost_ret (v := vV 0 (mk1 i) (.slice none 0 0)) ?_ rfl ⟨rfl, HQ.out⟩
  simp [results, Tryd.results30, go_sem, e0, e1, e2]
theorem LentV.grown {B B' n s : Nat} {W W' : World} {x y : VA} {u : Value} {zs : List Value} (h : LentV B W x y) (hu : W.ownsRow B' 25 s u n zs) (hg : W.grownBy W' u.ownBlock) : LentV B W' x y := by
  obtain ⟨h1, h2, h3, g, cap, h4, h5⟩ := h
  exact ⟨h1, h2, h3, g, cap, h4, owns_two h5 hu hg (by decide)⟩
theorem LentV.base {B B' : Nat} {W : World} {x y : VA} (h : LentV B W x y) (hb : B' ≤ B) : LentV B' W x y := by
  obtain ⟨h1, h2, h3, g, cap, h4, h5⟩ := h
  refine ⟨h1, h2, h3, g, cap, h4, ⟨h5.1, ?_⟩⟩
  rcases h5.2 with h0 | ⟨g', cap', cur, e, hbb, r⟩
  · exact .inl h0
  · exact .inr ⟨g', cap', cur, e, Nat.le_trans hb hbb, r⟩
/-- Each of ys is that of xs, lent. -/
def LentVs (B : Nat) (W : World) (xs ys : List VA) : Prop := ys.length = xs.length ∧ ∀ (j : Nat) (x y : VA), xs[j]? = some x → ys[j]? = some y → LentV B W x y
theorem LentVs.below {B : Nat} {W W' : World} {xs ys : List VA} (h : LentVs B W xs ys) (hb : Below W.heap.size W W') : LentVs B W' xs ys := ⟨h.1, fun j x y hx hy => (h.2 j x y hx hy).at hb⟩
theorem LentVs.grown {B B' n s : Nat} {W W' : World} {xs ys : List VA} {u : Value} {zs : List Value} (h : LentVs B W xs ys) (hu : W.ownsRow B' 25 s u n zs) (hg : W.grownBy W' u.ownBlock) : LentVs B W' xs ys := ⟨h.1, fun j x y hx hy => (h.2 j x y hx hy).grown hu hg⟩
theorem LentVs.snoc {B : Nat} {W : World} {xs ys : List VA} {k : Nat} {x y : VA} (h : LentVs B W (xs.take k) ys) (hk : k ≤ xs.length) (hx : xs[k]? = some x) (hy : LentV B W x y) : LentVs B W (xs.take (k + 1)) (ys ++ [y]) := by
  have hkl : k < xs.length := (List.getElem?_eq_some_iff.1 hx).1
  have hl : ys.length = k := by rw [h.1, List.length_take]; omega
  refine ⟨by simp [hl]; omega, fun j u v hu hv => ?_⟩
  rw [List.getElem?_take] at hu
  split at hu
  · rename_i hj
    by_cases e : j < k
    · rw [List.getElem?_append_left (by omega)] at hv
      exact h.2 j u v (by rw [List.getElem?_take, if_pos e]; exact hu) hv
    · have : j = k := by omega
      subst this
      rw [List.getElem?_append_right (by omega), hl, Nat.sub_self] at hv
      simp at hv
      rw [hx] at hu
      cases hu
      subst hv
      exact hy
  · cases hu
theorem lent3_any (x : VA) (w : World) (hx : x.Low w.heap.size w) (hl : x.r.length ≤ 5000) :
    Calls Tryd.prog 9 #[x.val] w fun e w' => ∃ g c, e = .returned (vV x.k x.n (.slice (some ⟨g, 0, none⟩) x.r.length c)) ∧ LentV w.heap.size w' x ⟨x.k, x.n, .slice (some ⟨g, 0, none⟩) x.r.length c, x.r⟩ ∧ Below w.heap.size w w' := by
  refine (lentValue_any x w hx hl).mono ?_
  rintro e w' ⟨⟨k, n, vs, r⟩, rfl, hL, hb⟩
  obtain ⟨h1, h2, h3, g, cap, h4, h5⟩ := hL
  simp only at h1 h2 h3 h4
  subst h1 h2 h3 h4
  exact ⟨g, cap, rfl, ⟨rfl, rfl, rfl, g, cap, rfl, h5⟩, hb⟩
theorem info_value : (Tryd.prog.info? 25).map (fun i => (i.zero, i.size, i.bytes)) = some (some (.agg #[.int .u8 0, .int .i64 0, .slice none 0 0]), 3, 40) := by kernel_rfl

set_option maxRecDepth 100000 in
set_option maxHeartbeats 8000000 in
theorem lentValues_any (xs : List VA) (v : Value) (w : World) (hv : VsLow w.heap.size w v xs) (hl : xs.length ≤ 4000) (hs : ∀ x ∈ xs, x.r.length ≤ 5000) :
    Calls Tryd.prog 14 #[v] w fun e w' => ∃ g cap ys, e = .returned (.slice (some ⟨g, 0, none⟩) xs.length cap) ∧ w'.ownsRow w.heap.size 25 3 (.slice (some ⟨g, 0, none⟩) (xs.length + 12) cap) (xs.length + 12) (vaCells (ys ++ vmk 12)) ∧ LentVs w.heap.size w' xs ys ∧ Below w.heap.size w w' := by
  obtain ⟨⟨ao, cap, b, off, rfl, -, hao, hc⟩, hlow⟩ := hv
  obtain ⟨i0, hi, hz0, hz1, hz2⟩ := info_parts info_value
  have HC : Hid (_) := hc
  have HLOW : Hid (∀ x ∈ xs, x.Low w.heap.size w) := hlow
  have HS : Hid (_) := hs
  clear hc hlow hs
  go_enter Tryd.func14, Tryd.ntmps14
  go_wp2_with (at_make; refine wpList_make_own _ rfl _ _ 31 rfl w.heap.size 25 i0 (.agg #[.int .u8 0, .int .i64 0, .slice none 0 0]) 3 Tryd.underlying31 hi hz0 hz1 _ _ _ (xs.length + 12) rfl rfl (by omega) (by rw [hz2]; omega) (by unfold maxLen; omega) (Nat.le_refl _) ?_; intro w1 hown1 hg1; have hB1 := (Below.refl w.heap.size w).grown hg1 (Nat.le_refl _) (by simp))
  have ST : Hid (w1.ownsRow w.heap.size 25 3 (.slice (some ⟨w.heap.size, 0, none⟩) 0 (xs.length + 12)) 0 [] ∧ Below w.heap.size w w1) := ⟨hown1, hB1⟩
  clear hown1 hg1 hB1
  go_loopw [3, 4] (fun t i wr => ∃ (k : Nat) (ys : List VA), k ≤ xs.length ∧ i = .int .i64 k ∧ wr.ownsRow w.heap.size 25 3 t k (vaCells ys) ∧ LentVs w.heap.size wr (xs.take k) ys ∧ Below w.heap.size w wr) (fun _ i _ => xs.length - (intOf i).toNat)
  case atStart => exact ⟨0, [], by omega, rfl, ST.out.1, ⟨rfl, fun j x y hx hy => by simp at hy⟩, ST.out.2⟩
  case round =>
    clear ST
    obtain ⟨k, ys, hk, rfl, hown, hla, hB⟩ := hrel
    by_cases hlt : k < xs.length
    · obtain ⟨x, hx⟩ : ∃ x, xs[k]? = some x := ⟨xs[k], List.getElem?_eq_getElem hlt⟩
      obtain ⟨rfl, hbm⟩ := hao (by omega)
      obtain ⟨g0, g1, g2⟩ := vaCells_get xs k x hx
      have c0 : wr.cell? ⟨b, off + k * 3, none⟩ = some (.int .u8 x.k) := (hB.cell (p := ⟨b, off + k * 3, none⟩) (by show b < _; omega)).trans (HC.out _ _ g0)
      have c1 : wr.cell? ⟨b, off + k * 3 + 1, none⟩ = some (.int .i64 x.n) := (hB.cell (p := ⟨b, off + k * 3 + 1, none⟩) (by show b < _; omega)).trans (HC.out _ _ g1)
      have c2 : wr.cell? ⟨b, off + k * 3 + 2, none⟩ = some x.vs := (hB.cell (p := ⟨b, off + k * 3 + 2, none⟩) (by show b < _; omega)).trans (HC.out _ _ g2)
      have hm2 := List.mem_of_getElem? hx
      have xl := VA.Low.at (HLOW.out x hm2) hB
      have l1 := HS.out x hm2
      have LT : Hid (_) := lent3_any x wr xl l1
      obtain ⟨a1, k1, e1⟩ := xl.shape
      obtain ⟨at3, cp3, rfl⟩ := slice_shape hown
      have HX : Hid (xs[k]? = some x) := hx
      obtain ⟨p, q, vn, L1⟩ := x
      simp only at c0 c1 c2 e1
      subst e1
      have OWN : Hid (wr.ownsRow w.heap.size 25 3 (.slice at3 k cp3) k (vaCells ys)) := hown
      have HLA : Hid (_) := hla
      have HB : Hid (Below w.heap.size w wr) := hB
      simp only [VA.val] at LT
      clear g0 g1 g2 hm2 xl l1 hx hown hla hB
      go_wp2_with fail
      refine Calls.mono LT.out ?_
      rintro e w1 ⟨g4, k4, rfl, lo, b1⟩
      have OW1 := owns_below OWN.out b1
      have B1 : Below w.heap.size w w1 := below_then HB.out b1
      obtain ⟨V, hV⟩ : ∃ V, V = (w1.alloc (.cells #[.int .u8 p, .int .i64 q, .slice (some ⟨g4, 0, none⟩) L1.length k4] 25)).alloc (.cells #[.int .u8 p, .int .i64 q, .slice (some ⟨g4, 0, none⟩) L1.length k4] 25) := ⟨_, rfl⟩
      have bV : Below w1.heap.size w1 V := by rw [hV]; exact below_then (below_nw _ _) (below_nw _ _)
      have hsrc : ∀ (j : Nat) (u : Value), [Value.int .u8 p, .int .i64 q, .slice (some ⟨g4, 0, none⟩) L1.length k4][j]? = some u → V.cell? ((⟨w1.heap.size + 1, 0, none⟩ : Addr).add j) = some u := by
        have h := cells_new (w1.alloc (.cells #[.int .u8 p, .int .i64 q, .slice (some ⟨g4, 0, none⟩) L1.length k4] 25)) [.int .u8 p, .int .i64 q, .slice (some ⟨g4, 0, none⟩) L1.length k4] 25
        rw [World.size_alloc] at h
        rw [hV]; exact h
      subst hV
      have OWV : Hid (_) := owns_below OW1 bV
      have HSRC : Hid (_) := hsrc
      have HLE : Hid (w.heap.size ≤ ((w1.alloc (.cells #[.int .u8 p, .int .i64 q, .slice (some ⟨g4, 0, none⟩) L1.length k4] 25)).alloc (.cells #[.int .u8 p, .int .i64 q, .slice (some ⟨g4, 0, none⟩) L1.length k4] 25)).heap.size) := Nat.le_trans B1.size bV.size
      have HLV : Hid (_ ∧ _ ∧ _) := ⟨(LentVs.below HLA.out b1).below bV, LentV.base (lo.at bV) HB.out.size, below_then B1 bV⟩
      clear LT OWN HLA HB lo b1 OW1 B1 bV hsrc
      go_wp2_with (at_builtin; refine wpList_append_own _ rfl _ _ 31 rfl w.heap.size 25 i0 (.agg #[.int .u8 0, .int .i64 0, .slice none 0 0]) 3 40 Tryd.underlying31 hi hz0 hz1 hz2 rfl (by decide) _ _ _ rfl OWV.out ⟨w1.heap.size + 1, 0, none⟩ 1 1 [.int .u8 p, .int .i64 q, .slice (some ⟨g4, 0, none⟩) L1.length k4] rfl rfl HSRC.out (by simp [Value.oneCell']) (by unfold maxLen; omega) (by omega) HLE.out ?_; intro v' W' hown' hgr _)
      go_roundw
      case rel =>
        refine ⟨k + 1, ys ++ [⟨p, q, .slice (some ⟨g4, 0, none⟩) L1.length k4, L1⟩], by omega, by go_num, ?_, ?_, ?_⟩
        · rw [vaCells_snoc]; exact hown'
        · exact LentVs.snoc (HLV.out.1.grown OWV.out hgr) hk HX.out (HLV.out.2.1.grown OWV.out hgr)
        · exact HLV.out.2.2.grown hgr HLV.out.2.2.size (fun q hq => (World.ownsRow.lt OWV.out q hq).1)
      case measure => simp [intOf]; omega
    · have hkl : k = xs.length := by omega
      have ST2 : Hid (wr.ownsRow w.heap.size 25 3 u3 (xs.length + 0) (vaCells (ys ++ vmk 0)) ∧ LentVs w.heap.size wr xs ys ∧ Below w.heap.size w wr) := by
        rw [hkl, List.take_length] at hla
        refine ⟨?_, hla, hB⟩
        rw [show vmk 0 = [] from rfl, List.append_nil, Nat.add_zero, ← hkl]; exact hown
      clear hown hla hB hkl HC HLOW HS hao
      go_wp2
      go_loopw [3, 6] (fun t i wr => ∃ (j : Nat), j ≤ 12 ∧ i = .int .i64 j ∧ wr.ownsRow w.heap.size 25 3 t (xs.length + j) (vaCells (ys ++ vmk j)) ∧ LentVs w.heap.size wr xs ys ∧ Below w.heap.size w wr) (fun _ i _ => 12 - (intOf i).toNat)
      case atStart => exact ⟨0, by omega, rfl, ST2.out.1, ST2.out.2.1, ST2.out.2.2⟩
      case round =>
        clear ST2
        obtain ⟨j, hj, rfl, hown, hla, hB⟩ := hrel
        by_cases hlt2 : j < 12
        · have MK : Hid (_) := markValue_any j (by omega) wr
          obtain ⟨at3, cp3, rfl⟩ := slice_shape hown
          have OWN : Hid (_) := hown
          have HLB : Hid (_ ∧ _) := ⟨hla, hB⟩
          clear hown hla hB
          go_wp2_with fail
          refine Calls.mono MK.out ?_
          rintro e w1 ⟨rfl, b1⟩
          have bV := below_nw w1 (.cells #[.int .u8 0, .int .i64 (mk1 j), .slice none 0 0] 25)
          have OWV : Hid (_) := owns_below (owns_below OWN.out b1) bV
          have HSRC : Hid (_) := cells_new w1 [.int .u8 0, .int .i64 (mk1 j), .slice none 0 0] 25
          have HLV : Hid (_ ∧ _) := ⟨(LentVs.below HLB.out.1 b1).below bV, below_then (below_then HLB.out.2 b1) bV⟩
          clear MK OWN HLB b1 bV
          go_wp2_with (at_builtin; refine wpList_append_own _ rfl _ _ 31 rfl w.heap.size 25 i0 (.agg #[.int .u8 0, .int .i64 0, .slice none 0 0]) 3 40 Tryd.underlying31 hi hz0 hz1 hz2 rfl (by decide) _ _ _ rfl OWV.out ⟨w1.heap.size, 0, none⟩ 1 1 [.int .u8 0, .int .i64 (mk1 j), .slice none 0 0] rfl rfl HSRC.out (by simp [Value.oneCell']) (by unfold maxLen; omega) (by omega) HLV.out.2.size ?_; intro v' W' hown' hgr _)
          go_roundw
          case rel =>
            refine ⟨j + 1, by omega, by go_num, ?_, ?_, ?_⟩
            · rw [vmk_succ, ← List.append_assoc, vaCells_snoc]; exact hown'
            · exact HLV.out.1.grown OWV.out hgr
            · exact HLV.out.2.grown hgr HLV.out.2.size (fun q hq => (World.ownsRow.lt OWV.out q hq).1)
          case measure => simp [intOf]; omega
        · have hj12 : j = 12 := by omega
          subst hj12
          obtain ⟨g, cp3, rfl⟩ := ownsRow_succ hown
          have hcap : (xs.length : Int) ≤ (cp3 : Int) := by
            rcases hown.2 with ⟨h0, _⟩ | ⟨g', cap', cur, he, _, _, hnc, _⟩
            · cases h0
            · injection he with _ _ e3; omega
          have HF : Hid (_ ∧ _ ∧ _) := ⟨hown, hla, hB⟩
          clear hown hla hB
          go_wp2
          go_ret
          exact ⟨g, cp3, ys, by simp, HF.out.1, HF.out.2.1, HF.out.2.2⟩

end Go.Proofs.YtcnmgebjbaclaaaDoor

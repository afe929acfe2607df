/-
  The walk of clerestorykit.LentHunks: a row of hunks with marks behind it, and behind the lines of each.
-/
import Derived.Test.YtkiafelpgcmifaaLentHunkA
import Derived.Test.YtkiafelpgcmifaaMarkHunks
namespace Go.Proofs.Ytkiafelpgcmifaa
open Go.RowKit Go.Shelf

attribute [local go_sem] Oper.semAt_some

/-- Each of ys is that of xs, lent. -/
def LentAll (B : Nat) (W : World) (xs ys : List HA) : Prop := ys.length = xs.length ∧ ∀ (j : Nat) (x y : HA), xs[j]? = some x → ys[j]? = some y → LentOf B W x y
theorem LentAll.below {B : Nat} {W W' : World} {xs ys : List HA} (h : LentAll B W xs ys) (hb : Below W.heap.size W W') : LentAll B W' xs ys := ⟨h.1, fun j x y hx hy => (h.2 j x y hx hy).below hb⟩
theorem LentRow.grown {B B' n s : Nat} {W W' : World} {v u : Value} {L : List (List UInt8)} {ys : List Value} (h : LentRow B W v L) (hu : W.ownsRow B' 40 s u n ys) (hg : W.grownBy W' u.ownBlock) : LentRow B W' v L := by
  obtain ⟨g, cap, e, h⟩ := h
  exact ⟨g, cap, e, owns_two h hu hg (by decide)⟩
theorem LentOf.grown {B B' n s : Nat} {W W' : World} {x y : HA} {u : Value} {ys : List Value} (h : LentOf B W x y) (hu : W.ownsRow B' 40 s u n ys) (hg : W.grownBy W' u.ownBlock) : LentOf B W' x y := ⟨h.1, h.2.1.grown hu hg, h.2.2.grown hu hg⟩
theorem LentAll.grown {B B' n s : Nat} {W W' : World} {xs ys : List HA} {u : Value} {zs : List Value} (h : LentAll B W xs ys) (hu : W.ownsRow B' 40 s u n zs) (hg : W.grownBy W' u.ownBlock) : LentAll B W' xs ys := ⟨h.1, fun j x y hx hy => (h.2 j x y hx hy).grown hu hg⟩
theorem LentAll.snoc {B : Nat} {W : World} {xs ys : List HA} {k : Nat} {x y : HA} (h : LentAll B W (xs.take k) ys) (hk : k ≤ xs.length) (hx : xs[k]? = some x) (hy : LentOf B W x y) : LentAll B W (xs.take (k + 1)) (ys ++ [y]) := by
  have hkl : k < xs.length := (List.getElem?_eq_some_iff.1 hx).1
  have hl : ys.length = k := by rw [h.1, List.length_take]; omega
  refine ⟨by simp [hl]; omega, fun j u v hu hv => ?_⟩
  rw [List.getElem?_take] at hu
  split at hu
  · rename_i hj
    by_cases e : j < k
    · rw [List.getElem?_append_left (by omega)] at hv
      exact h.2 j u v (by rw [List.getElem?_take, if_pos e]; exact hu) hv
    · have : j = k := by omega
      subst this
      rw [List.getElem?_append_right (by omega), hl, Nat.sub_self] at hv
      simp at hv
      rw [hx] at hu
      cases hu
      subst hv
      exact hy
  · cases hu
theorem haCells_snoc (ys : List HA) (y : HA) : haCells (ys ++ [y]) = haCells ys ++ [.int .i64 y.at_, y.vo, y.vn] := by simp [haCells]

set_option maxRecDepth 100000 in
set_option maxHeartbeats 8000000 in
theorem lentHunks_any (xs : List HA) (v : Value) (w : World) (hv : HaLow w.heap.size w v xs) (hl : xs.length ≤ 4000) (hs : ∀ x ∈ xs, x.old.length ≤ 5000 ∧ x.new.length ≤ 5000) :
    Calls Try.prog 7 #[v] w fun e w' => ∃ g cap ys, e = .returned (.slice (some ⟨g, 0, none⟩) xs.length cap) ∧ w'.ownsRow w.heap.size 40 3 (.slice (some ⟨g, 0, none⟩) (xs.length + 12) cap) (xs.length + 12) (haCells ys ++ mks mcH 1 12) ∧ LentAll w.heap.size w' xs ys ∧ Below w.heap.size w w' := by
  obtain ⟨⟨ao, cap, b, off, rfl, -, hao, hc⟩, hlow⟩ := hv
  obtain ⟨i0, hi, hz0, hz1, hz2⟩ := info_parts info40s
  have HC : Hid (_) := hc
  have HLOW : Hid (∀ x ∈ xs, x.Low w.heap.size w) := hlow
  have HS : Hid (_) := hs
  clear hc hlow hs
  go_enter Try.func7, Try.ntmps7
  go_wp2_with (at_make; refine wpList_make_own _ rfl _ _ 23 rfl w.heap.size 40 i0 (.agg #[.int .i64 0, .slice none 0 0, .slice none 0 0]) 3 Try.underlying23 hi hz0 hz1 _ _ _ (xs.length + 12) rfl rfl (by omega) (by rw [hz2]; omega) (by unfold maxLen; omega) (Nat.le_refl _) ?_; intro w1 hown1 hg1; have hB1 := (Below.refl w.heap.size w).grown hg1 (Nat.le_refl _) (by simp))
  have ST : Hid (w1.ownsRow w.heap.size 40 3 (.slice (some ⟨w.heap.size, 0, none⟩) 0 (xs.length + 12)) 0 [] ∧ Below w.heap.size w w1) := ⟨hown1, hB1⟩
  clear hown1 hg1 hB1
  go_loopw [3, 4] (fun t i wr => ∃ (k : Nat) (ys : List HA), k ≤ xs.length ∧ i = .int .i64 k ∧ wr.ownsRow w.heap.size 40 3 t k (haCells ys) ∧ LentAll w.heap.size wr (xs.take k) ys ∧ Below w.heap.size w wr) (fun _ i _ => xs.length - (intOf i).toNat)
  case atStart => exact ⟨0, [], by omega, rfl, ST.out.1, ⟨rfl, fun j x y hx hy => by simp at hy⟩, ST.out.2⟩
  case round =>
    clear ST
    obtain ⟨k, ys, hk, rfl, hown, hla, hB⟩ := hrel
    by_cases hlt : k < xs.length
    · obtain ⟨x, hx⟩ : ∃ x, xs[k]? = some x := ⟨xs[k], List.getElem?_eq_getElem hlt⟩
      obtain ⟨rfl, hbm⟩ := hao (by omega)
      obtain ⟨g0, g1, g2⟩ := haCells_get xs k x hx
      have c0 : wr.cell? ⟨b, off + k * 3, none⟩ = some (.int .i64 x.at_) := (hB.cell (p := ⟨b, off + k * 3, none⟩) (by show b < _; omega)).trans (HC.out _ _ g0)
      have c1 : wr.cell? ⟨b, off + k * 3 + 1, none⟩ = some x.vo := (hB.cell (p := ⟨b, off + k * 3 + 1, none⟩) (by show b < _; omega)).trans (HC.out _ _ g1)
      have c2 : wr.cell? ⟨b, off + k * 3 + 2, none⟩ = some x.vn := (hB.cell (p := ⟨b, off + k * 3 + 2, none⟩) (by show b < _; omega)).trans (HC.out _ _ g2)
      have hm2 := List.mem_of_getElem? hx
      have xl := HA.Low.at (HLOW.out x hm2) hB
      obtain ⟨l1, l2⟩ := HS.out x hm2
      have LT : Hid (_) := lentHunk_any x wr xl l1 l2
      obtain ⟨⟨a1, k1, e1⟩, ⟨a2, k2, e2⟩⟩ := xl.shape
      obtain ⟨at3, cp3, rfl⟩ := slice_shape hown
      have HX : Hid (xs[k]? = some x) := hx
      obtain ⟨p, vo, vn, L1, L2⟩ := x
      simp only at c0 c1 c2 e1 e2
      subst e1 e2
      have OWN : Hid (wr.ownsRow w.heap.size 40 3 (.slice at3 k cp3) k (haCells ys)) := hown
      have HLA : Hid (_) := hla
      have HB : Hid (Below w.heap.size w wr) := hB
      simp only [HA.val] at LT
      clear g0 g1 g2 hm2 xl l1 l2 hx hown hla hB
      go_wp2_with fail
      refine Calls.mono LT.out ?_
      rintro e w1 ⟨y, rfl, lo, b1⟩
      obtain ⟨⟨a3, k3, e3⟩, ⟨a4, k4, e4⟩⟩ := lo.low.shape
      obtain ⟨q, uo, un, M1, M2⟩ := y
      simp only at e3 e4
      subst e3 e4
      have OW1 := owns_below OWN.out b1
      have B1 : Below w.heap.size w w1 := below_then HB.out b1
      obtain ⟨V, hV⟩ : ∃ V, V = (w1.alloc (.cells #[.int .i64 q, .slice a3 M1.length k3, .slice a4 M2.length k4] 40)).alloc (.cells #[.int .i64 q, .slice a3 M1.length k3, .slice a4 M2.length k4] 40) := ⟨_, rfl⟩
      have bV : Below w1.heap.size w1 V := by rw [hV]; exact below_then (below_nw _ _) (below_nw _ _)
      have hsrc : ∀ (j : Nat) (u : Value), [Value.int .i64 q, .slice a3 M1.length k3, .slice a4 M2.length k4][j]? = some u → V.cell? ((⟨w1.heap.size + 1, 0, none⟩ : Addr).add j) = some u := by
        have h := cells_new (w1.alloc (.cells #[.int .i64 q, .slice a3 M1.length k3, .slice a4 M2.length k4] 40)) [.int .i64 q, .slice a3 M1.length k3, .slice a4 M2.length k4] 40
        rw [World.size_alloc] at h
        rw [hV]; exact h
      subst hV
      have OWV : Hid (_) := owns_below OW1 bV
      have HSRC : Hid (_) := hsrc
      have HLE : Hid (w.heap.size ≤ ((w1.alloc (.cells #[.int .i64 q, .slice a3 M1.length k3, .slice a4 M2.length k4] 40)).alloc (.cells #[.int .i64 q, .slice a3 M1.length k3, .slice a4 M2.length k4] 40)).heap.size) := Nat.le_trans B1.size bV.size
      have HLV : Hid (_ ∧ _ ∧ _) := ⟨(LentAll.below HLA.out b1).below bV, LentOf.base (lo.below bV) HB.out.size, below_then B1 bV⟩
      clear LT OWN HLA HB lo b1 OW1 B1 bV hsrc
      go_wp2_with (at_builtin; refine wpList_append_own _ rfl _ _ 23 rfl w.heap.size 40 i0 (.agg #[.int .i64 0, .slice none 0 0, .slice none 0 0]) 3 56 Try.underlying23 hi hz0 hz1 hz2 rfl (by decide) _ _ _ rfl OWV.out ⟨w1.heap.size + 1, 0, none⟩ 1 1 [.int .i64 q, .slice a3 M1.length k3, .slice a4 M2.length k4] rfl rfl HSRC.out (by simp [Value.oneCell']) (by unfold maxLen; omega) (by omega) HLE.out ?_; intro v' W' hown' hgr _)
      go_roundw
      case rel =>
        refine ⟨k + 1, ys ++ [⟨q, .slice a3 M1.length k3, .slice a4 M2.length k4, M1, M2⟩], by omega, by go_num, ?_, ?_, ?_⟩
        · rw [haCells_snoc]; exact hown'
        · exact LentAll.snoc (HLV.out.1.grown OWV.out hgr) hk HX.out (HLV.out.2.1.grown OWV.out hgr)
        · exact HLV.out.2.2.grown hgr HLV.out.2.2.size (fun q hq => (World.ownsRow.lt OWV.out q hq).1)
      case measure => simp [intOf]; omega
    · have hkl : k = xs.length := by omega
      have ST2 : Hid (wr.ownsRow w.heap.size 40 3 u3 (xs.length + 0) (haCells ys ++ mks mcH 1 0) ∧ LentAll w.heap.size wr xs ys ∧ Below w.heap.size w wr) := by
        rw [hkl, List.take_length] at hla
        refine ⟨?_, hla, hB⟩
        rw [mks_zero, List.append_nil, Nat.add_zero, ← hkl]; exact hown
      clear hown hla hB hkl HC HLOW HS hao
      go_wp2
      go_loopw [3, 6] (fun t i wr => ∃ (j : Nat), j ≤ 12 ∧ i = .int .i64 j ∧ wr.ownsRow w.heap.size 40 3 t (xs.length + j) (haCells ys ++ mks mcH 1 j) ∧ LentAll w.heap.size wr xs ys ∧ Below w.heap.size w wr) (fun _ i _ => 12 - (intOf i).toNat)
      case atStart => exact ⟨0, by omega, rfl, ST2.out.1, ST2.out.2.1, ST2.out.2.2⟩
      case round =>
        clear ST2
        obtain ⟨j, hj, rfl, hown, hla, hB⟩ := hrel
        by_cases hlt2 : j < 12
        · have MK : Hid (_) := markHunk_any 1 j (by omega) (by omega) wr
          obtain ⟨at3, cp3, rfl⟩ := slice_shape hown
          have OWN : Hid (_) := hown
          have HLB : Hid (_ ∧ _) := ⟨hla, hB⟩
          clear hown hla hB
          go_wp2_with fail
          refine Calls.mono MK.out ?_
          rintro e w1 ⟨rfl, b1⟩
          have bV := below_nw w1 (.cells #[.int .i64 (mn 1 j : Nat), .slice none 0 0, .slice none 0 0] 40)
          have OWV : Hid (_) := owns_below (owns_below OWN.out b1) bV
          have HSRC : Hid (_) := cells_new w1 [.int .i64 (mn 1 j : Nat), .slice none 0 0, .slice none 0 0] 40
          have HLV : Hid (_ ∧ _) := ⟨(LentAll.below HLB.out.1 b1).below bV, below_then (below_then HLB.out.2 b1) bV⟩
          clear MK OWN HLB b1 bV
          go_wp2_with (at_builtin; refine wpList_append_own _ rfl _ _ 23 rfl w.heap.size 40 i0 (.agg #[.int .i64 0, .slice none 0 0, .slice none 0 0]) 3 56 Try.underlying23 hi hz0 hz1 hz2 rfl (by decide) _ _ _ rfl OWV.out ⟨w1.heap.size, 0, none⟩ 1 1 [.int .i64 (mn 1 j : Nat), .slice none 0 0, .slice none 0 0] rfl rfl HSRC.out (by simp [Value.oneCell']) (by unfold maxLen; omega) (by omega) HLV.out.2.size ?_; intro v' W' hown' hgr _)
          go_roundw
          case rel =>
            refine ⟨j + 1, by omega, by go_num, ?_, ?_, ?_⟩
            · rw [mks_succ, ← List.append_assoc]; exact hown'
            · exact HLV.out.1.grown OWV.out hgr
            · exact HLV.out.2.grown hgr HLV.out.2.size (fun q hq => (World.ownsRow.lt OWV.out q hq).1)
          case measure => simp [intOf]; omega
        · have hj12 : j = 12 := by omega
          subst hj12
          obtain ⟨g, cp3, rfl⟩ := ownsRow_succ hown
          have hcap : (xs.length : Int) ≤ (cp3 : Int) := by
            rcases hown.2 with ⟨h0, _⟩ | ⟨g', cap', cur, he, _, _, hnc, _⟩
            · cases h0
            · injection he with _ _ e3; omega
          have HF : Hid (_ ∧ _ ∧ _) := ⟨hown, hla, hB⟩
          clear hown hla hB
          go_wp2
          go_ret
          exact ⟨g, cp3, ys, by simp, HF.out.1, HF.out.2.1, HF.out.2.2⟩

end Go.Proofs.Ytkiafelpgcmifaa

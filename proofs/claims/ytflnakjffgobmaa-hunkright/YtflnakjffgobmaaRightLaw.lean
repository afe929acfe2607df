/-
  The walk of the law HunkRight.
-/
import Derived.Test.YtflnakjffgobmaaRightBase
import Derived.Test.YtflnakjffgobmaaShAll
import Derived.Test.YtflnakjffgobmaaHnGreat
import Derived.Test.YtflnakjffgobmaaHnCopy
import Derived.Test.YtflnakjffgobmaaHnInvert
namespace Go.Proofs.Ytflnakjffgobmaa
open Go.RowKit Go.Shelf

attribute [local go_sem] Oper.semAt_some

theorem lent_shape' {B : Nat} {W : World} {x y : HA} (h : LentOf B W x y) : ∃ g1 c1 g2 c2, y = ⟨x.at_, .slice (some ⟨g1, 0, none⟩) x.old.length c1, .slice (some ⟨g2, 0, none⟩) x.new.length c2, x.old, x.new⟩ := by
  obtain ⟨h0, ⟨g1, c1, e1, -⟩, ⟨g2, c2, e2, -⟩⟩ := h
  obtain ⟨p, vo, vn, L1, L2⟩ := x
  obtain ⟨q, uo, un, M1, M2⟩ := y
  simp only [HA.h, Hn.H.mk.injEq] at h0
  obtain ⟨rfl, rfl, rfl⟩ := h0
  simp only at e1 e2
  subst e1 e2
  exact ⟨g1, c1, g2, c2, rfl⟩
theorem apart_of_nodup' (R : List (Value × Nat)) (h : ((R.map Prod.fst).filterMap Value.ownBlock).Nodup) : Apart R := by
  intro j k p q hp hq hjk
  cases hb : p.1.ownBlock with
  | none => exact .inl rfl
  | some b =>
    right
    intro e
    have key : ∀ (L : List (Value × Nat)) (j k : Nat) (p q : Value × Nat), ((L.map Prod.fst).filterMap Value.ownBlock).Nodup → L[j]? = some p → L[k]? = some q → j < k → p.1.ownBlock = some b → q.1.ownBlock = some b → False := by
      intro L
      induction L with
      | nil => intro j k p q _ hp; simp at hp
      | cons x L ih =>
        intro j k p q hpw hp hq hjk h1 h2
        cases k with
        | zero => omega
        | succ k =>
          simp only [List.getElem?_cons_succ] at hq
          cases j with
          | zero =>
            simp only [List.getElem?_cons_zero, Option.some.injEq] at hp
            subst hp
            simp only [List.map_cons, List.filterMap_cons, h1, List.nodup_cons] at hpw
            exact hpw.1 (List.mem_filterMap.2 ⟨q.1, List.mem_map.2 ⟨q, List.mem_of_getElem? hq, rfl⟩, h2⟩)
          | succ j =>
            simp only [List.getElem?_cons_succ] at hp
            refine ih j k p q ?_ hp hq (by omega) h1 h2
            simp only [List.map_cons, List.filterMap_cons] at hpw
            split at hpw
            · exact hpw
            · exact (List.nodup_cons.1 hpw).2
    rcases Nat.lt_or_gt_of_ne hjk with hlt | hlt
    · exact key R j k p q h hp hq hlt hb e.symm
    · exact key R k j q p h hq hp hlt e.symm hb
/-- Hunks told: their lines lie in memory of their own, all distinct. -/
def Told3 (B : Nat) (W : World) (zs : List HA) : Prop := (∀ z ∈ zs, HA.Ok B z W) ∧ ((txts zs).filterMap Value.ownBlock).Nodup ∧ ∀ z ∈ zs, z.old.length ≤ 2000 ∧ z.new.length ≤ 2000
theorem Told3.below {B : Nat} {W W' : World} {zs : List HA} (h : Told3 B W zs) (hb : Below W.heap.size W W') : Told3 B W' zs := ⟨fun z hz => (h.1 z hz).below hb, h.2⟩
theorem Told3.grown {B B' n s : Nat} {W W' : World} {zs : List HA} {u : Value} {ys : List Value} (h : Told3 B W zs) (hu : W.ownsRow B' 41 s u n ys) (hg : W.grownBy W' u.ownBlock) : Told3 B W' zs := ⟨fun z hz => ⟨owns_two (h.1 z hz).1 hu hg (by decide), owns_two (h.1 z hz).2 hu hg (by decide)⟩, h.2⟩
theorem Told3.lt {B : Nat} {W : World} {zs : List HA} (h : Told3 B W zs) : ∀ b ∈ (txts zs).filterMap Value.ownBlock, b < W.heap.size := fun b hb => by
  obtain ⟨v, hv, e⟩ := List.mem_filterMap.1 hb
  simp only [txts, List.mem_flatMap] at hv
  obtain ⟨z, hz, hv⟩ := hv
  have hk := h.1 z hz
  simp at hv
  rcases hv with rfl | rfl
  · exact (hk.1.lt b e).2
  · exact (hk.2.lt b e).2
theorem Told3.snoc {B n0 n1 : Nat} {W : World} {zs : List HA} {z : HA} (h : Told3 B W zs) (hlow : ∀ b ∈ (txts zs).filterMap Value.ownBlock, b < n0) (h1 : W.ownsRow n0 9 1 z.vo z.old.length (z.old.map txtV)) (h2 : W.ownsRow n1 9 1 z.vn z.new.length (z.new.map txtV)) (h01 : n0 ≤ n1) (hord : ∀ b, z.vo.ownBlock = some b → b < n1) (hB : B ≤ n0) (l1 : z.old.length ≤ 2000) (l2 : z.new.length ≤ 2000) : Told3 B W (zs ++ [z]) := by
  refine ⟨fun q hq => ?_, ?_, fun q hq => ?_⟩
  · rcases List.mem_append.1 hq with hq | hq
    · exact h.1 q hq
    · simp at hq
      subst hq
      exact ⟨owns_base h1 hB, owns_base h2 (Nat.le_trans hB h01)⟩
  · have e : txts (zs ++ [z]) = txts zs ++ [z.vo, z.vn] := by simp [txts]
    rw [e, List.filterMap_append]
    refine List.nodup_append.2 ⟨h.2.1, ?_, ?_⟩
    · cases e1 : z.vo.ownBlock with
      | none => cases e2 : z.vn.ownBlock <;> simp [e1, e2]
      | some c =>
        cases e2 : z.vn.ownBlock with
        | none => simp [e1, e2]
        | some d =>
          have := hord c e1
          have := (h2.lt d e2).1
          simp [e1, e2]; omega
    · intro b hb c hc
      have hb2 := hlow b hb
      obtain ⟨v, hv, e⟩ := List.mem_filterMap.1 hc
      simp at hv
      rcases hv with rfl | rfl
      · have := (h1.lt c e).1
        omega
      · have := (h2.lt c e).1
        omega
  · rcases List.mem_append.1 hq with hq | hq
    · exact h.2.2 q hq
    · simp at hq
      subst hq
      exact ⟨l1, l2⟩

set_option maxRecDepth 100000 in
set_option maxHeartbeats 8000000 in
theorem right_law (xs : List HA) (v : Value) (w : World) (hv : HaLow w.heap.size w v xs) (hl : xs.length ≤ 1000000000000000) (hf : ∀ x ∈ xs, x.Fits) (hM : ∀ x ∈ xs, x.Mach) :
    Calls Try.prog 4 #[v] w fun e w' => e = .returned (.bool true) ∧ Below w.heap.size w w' := by
  have G : Hid (_) := hgreat_any [] xs (.slice none 0 0) v w.heap.size w (rowLow_nil _ _) hv (by simp) (by simp) hl hf hM
  have HV : Hid (HaLow w.heap.size w v xs) := hv
  have HF : Hid (_) := hf
  obtain ⟨⟨ao, capv, b, off, rfl, -, hao, hc⟩, hlow⟩ := hv
  have HC : Hid (_) := hc
  obtain ⟨i0, hi, hz0, hz1, hz2⟩ := info_parts info41s
  clear hc hlow hf hM
  refine (callsIn_wide (n := 3)).1 ?_
  refine callsIn_of_wp Try.func4 rfl trivial ?_ rfl
  simp only [Try.ntmps4, List.size_toArray, List.length_cons, List.length_nil, Nat.reduceAdd, Nat.reduceSub, Array.replicate_succ, Array.replicate_zero, List.push_toArray, List.append_toArray, List.nil_append, List.cons_append]
  gi_wp2_with fail
  refine ⟨trivial, ?_⟩
  refine (callsIn_wide.2 G.out).mono ?_
  rintro e w1 ⟨r, rfl, ⟨d, hw1⟩, hr⟩
  have B1 : Hid (Below w.heap.size w w1) := by rw [hw1]; exact below_drewN (Below.refl _ _) d
  clear hw1 G
  cases r with
  | true =>
    clear hr
    gi_wp2_with fail
    refine ⟨trivial, ?_⟩
    refine (callsIn_wide.2 (hawake_any w1)).mono ?_
    rintro e w2 ⟨rfl, b2⟩
    have BF : Hid (Below w.heap.size w w2) := below_then B1.out b2
    clear b2
    gi_wp2
    exact bodyPost_ret (results_tmp rfl _ _ _) rfl ⟨rfl, BF.out⟩
  | false =>
    obtain ⟨hsum, -, hsh⟩ := hr rfl
    have hn : xs.length ≤ 2000 := by simp only [List.length_nil] at hsum; omega
    have LEN : Hid (∀ x ∈ xs, x.old.length ≤ 2000 ∧ x.new.length ≤ 2000) := fun x hx => by
      have h := allSum_mem xs x hx
      simp only [List.length_nil] at hsum
      omega
    have HSH : Hid (∀ x ∈ xs, x.Short) := hsh
    clear hsum hsh hr
    have VW : Hid (∀ W, Below w.heap.size w W → HaLow W.heap.size W (.slice ao xs.length capv) xs) := fun W hW => HaLow.at HV.out hW
    have LT : Hid (_) := lentHunks_any xs _ w1 (VW.out w1 B1.out) (by omega) (fun x hx => by have := LEN.out x hx; omega)
    gi_wp2_with fail
    refine ⟨trivial, ?_⟩
    refine (callsIn_wide.2 LT.out).mono ?_
    rintro e w2 ⟨g, cap, ys, rfl, own2, la2, b2⟩
    have B2 : Hid (Below w.heap.size w w2) := below_then B1.out b2
    have LR : Hid (∀ W, Below w2.heap.size w2 W → W.ownsRow w1.heap.size 41 3 (.slice (some ⟨g, 0, none⟩) (xs.length + 12) cap) (xs.length + 12) (haCells ys ++ mks mcH 1 12) ∧ LentAll w1.heap.size W xs ys) := fun W hW => ⟨owns_below own2 hW, la2.below hW⟩
    have EH : Hid (ys.map HA.h = xs.map HA.h) := lentAll_h la2
    have FY : Hid (∀ y ∈ ys, y.Fits) := lentAll_of la2 (fun x y h f => fits_of h f) HF.out
    have SX : Hid (∀ x ∈ xs, x.Small) := fun x hx => by have := LEN.out x hx; exact ⟨by omega, by omega⟩
    have SY : Hid (∀ y ∈ ys, y.Small) := lentAll_of la2 (fun x y h f => small_of h f) SX.out
    have hyl : ys.length = xs.length := la2.1
    have S1 := sorted_any ys _ w2.heap.size w2 (lentRow_low own2 la2) (Nat.le_refl _) FY.out SY.out (by omega)
    rw [EH.out] at S1
    have HS1 : Hid (_) := S1
    have YL : Hid (ys.length = xs.length) := hyl
    clear LT own2 la2 b2 S1 hyl
    gi_wp2_with fail
    refine ⟨trivial, ?_⟩
    refine (callsIn_wide.2 HS1.out).mono ?_
    rintro e w3 ⟨rfl, b3⟩
    have B3 : Hid (Below w.heap.size w w3) := below_then B2.out b3
    have C3 : Hid (Below w2.heap.size w2 w3) := b3
    have HS2 : Hid (_) := refSorted_any xs _ w3 (VW.out w3 B3.out) HF.out SX.out (by omega)
    clear HS1 b3
    gi_wp2_with fail
    refine ⟨trivial, ?_⟩
    refine (callsIn_wide.2 HS2.out).mono ?_
    rintro e w4 ⟨rfl, b4⟩
    have B4 : Hid (Below w.heap.size w w4) := below_then B3.out b4
    have C4 : Hid (Below w2.heap.size w2 w4) := below_then C3.out b4
    clear HS2 b4 B3 C3
    gi_wp2
    gi_loopw [4, 5] (fun t i wr => ∃ (k : Nat) (zs : List HA), k ≤ xs.length ∧ i = .int .i64 k ∧ zs.length = k ∧ wr.ownsRow w4.heap.size 41 3 t k (haCells zs) ∧ Told3 w4.heap.size wr zs ∧ Below w4.heap.size w4 wr) (fun _ i _ => xs.length - (intOf i).toNat)
    case atStart => exact ⟨0, [], by omega, rfl, rfl, World.ownsRow_nil _ _ _ _, ⟨fun z hz => by simp at hz, List.nodup_nil, fun z hz => by simp at hz⟩, Below.refl _ _⟩
    case round =>
      obtain ⟨k, zs, hk, rfl, hzl, hown, htold, hB⟩ := hrel
      by_cases hlt : k < xs.length
      · obtain ⟨x, hx⟩ : ∃ x, xs[k]? = some x := ⟨xs[k], List.getElem?_eq_getElem hlt⟩
        obtain ⟨y, hy⟩ : ∃ y, ys[k]? = some y := ⟨ys[k]'(by have := YL.out; omega), List.getElem?_eq_getElem _⟩
        obtain ⟨rfl, hbm⟩ := hao (by omega)
        have BWR : Below w.heap.size w wr := below_then B4.out hB
        obtain ⟨own, la⟩ := LR.out wr (below_then C4.out hB)
        have lo := la.2 k x y hx hy
        have yl := lo.low
        have hm2 := List.mem_of_getElem? hx
        have xl := (VW.out wr BWR).2 x hm2
        obtain ⟨l1, l2⟩ := LEN.out x hm2
        obtain ⟨sh1, sh2⟩ := HSH.out x hm2
        obtain ⟨g0, g1, g2⟩ := haCells_get xs k x hx
        have CX : Hid (∀ W, Below wr.heap.size wr W → W.cell? ⟨b, off + k * 3, none⟩ = some (.int .i64 x.at_) ∧ W.cell? ⟨b, off + k * 3 + 1, none⟩ = some x.vo ∧ W.cell? ⟨b, off + k * 3 + 2, none⟩ = some x.vn) := fun W hW => by
          have hb := below_then BWR hW
          exact ⟨below_cell_some (HC.out _ _ g0) hb, below_cell_some (HC.out _ _ g1) hb, below_cell_some (HC.out _ _ g2) hb⟩
        obtain ⟨g0, g1, g2⟩ := haCells_get ys k y hy
        have hyn := haCells_len' ys
        have hyk := (List.getElem?_eq_some_iff.1 hy).1
        have CY : Hid (∀ W, Below wr.heap.size wr W → W.cell? ⟨g, k * 3, none⟩ = some (.int .i64 y.at_) ∧ W.cell? ⟨g, k * 3 + 1, none⟩ = some y.vo ∧ W.cell? ⟨g, k * 3 + 2, none⟩ = some y.vn) := fun W hW => by
          have h := owns_below own hW
          have hh := YL.out
          exact ⟨(h.cellAt _ (by omega)).trans (by rw [List.getElem?_append_left (by omega)]; exact g0), (h.cellAt _ (by omega)).trans (by rw [List.getElem?_append_left (by omega)]; exact g1), (h.cellAt _ (by omega)).trans (by rw [List.getElem?_append_left (by omega)]; exact g2)⟩
        have IV : Hid (_) := invert_any y wr.heap.size wr yl (Nat.le_refl _) (SY.out y (List.mem_of_getElem? hy)) (by rw [(h_parts lo.1).2.1]; intro s hs; have := sh1 s hs; omega) (by rw [(h_parts lo.1).2.2]; intro s hs; have := sh2 s hs; omega)
        have RY : Hid (∀ W, Below wr.heap.size wr W → Calls Try.prog 21 #[y.val] W fun e w' => e = .returned (.bool (Hn.right x.h)) ∧ Below W.heap.size W w') := fun W hW => by
          rw [← lo.1]
          exact right_any y W.heap.size W (yl.at hW) (Nat.le_refl _) (FY.out y (List.mem_of_getElem? hy))
        have RX : Hid (∀ W, Below wr.heap.size wr W → Calls Try.prog 22 #[x.val] W fun e w' => e = .returned (.bool (Hn.right x.h)) ∧ Below W.heap.size W w') := fun W hW => refRight_any x W.heap.size W (xl.at hW) (Nat.le_refl _) (HF.out x hm2)
        have IX : Hid (∀ W, Below wr.heap.size wr W → Calls Try.prog 24 #[x.val] W fun e w' => ∃ y : HA, e = .returned y.val ∧ y.h = Hn.inv x.h ∧ y.Low w'.heap.size w' ∧ Below W.heap.size W w') := fun W hW => refInvert_any x W (xl.at hW) (SX.out x hm2)
        obtain ⟨⟨xa1, xk1, e1⟩, ⟨xa2, xk2, e2⟩⟩ := xl.shape
        obtain ⟨h1, c1, h2, c2, e3⟩ := lent_shape' lo
        obtain ⟨p, vo, vn, L1, L2⟩ := x
        simp only at e1 e2 e3 l1 l2
        subst e1 e2 e3
        simp only [HA.val, HA.h] at CX CY IV RY RX IX
        obtain ⟨cx0, cx1, cx2⟩ := CX.out wr (Below.refl _ _)
        obtain ⟨cy0, cy1, cy2⟩ := CY.out wr (Below.refl _ _)
        obtain ⟨at4, cp4, rfl⟩ := slice_shape hown
        have OWN : Hid (_) := hown
        have TLD : Hid (Told3 w4.heap.size wr zs) := htold
        have HB : Hid (Below w4.heap.size w4 wr) := hB
        clear hx hy own la lo yl hm2 xl g0 g1 g2 hyn hyk sh1 sh2 hown htold hB BWR
        gi_wp2_with fail
        refine ⟨trivial, ?_⟩
        refine (callsIn_wide.2 IV.out).mono ?_
        rintro e s1 ⟨uo, un, n1, rfl, o1, o2, hn1, hlt1, b1⟩
        obtain ⟨a5, c5, rfl⟩ := slice_shape o1
        obtain ⟨a6, c6, rfl⟩ := slice_shape o2
        obtain ⟨Z, hZ⟩ : ∃ Z, Z = s1.alloc (.cells #[.int .i64 p, .slice a5 L2.length c5, .slice a6 L1.length c6] 41) := ⟨_, rfl⟩
        have bV : Below s1.heap.size s1 Z := by rw [hZ]; exact below_nw s1 _
        have hz : HBox Z s1.heap.size ⟨p, .slice a5 L2.length c5, .slice a6 L1.length c6, L2, L1⟩ := by rw [hZ]; exact HBox.new s1 ⟨p, .slice a5 L2.length c5, .slice a6 L1.length c6, L2, L1⟩
        have O1 : Hid (Z.ownsRow wr.heap.size 9 1 (.slice a5 L2.length c5) L2.length (L2.map txtV)) := owns_below o1 bV
        have O2 : Hid (Z.ownsRow n1 9 1 (.slice a6 L1.length c6) L1.length (L1.map txtV)) := owns_below o2 bV
        have ORD : Hid (wr.heap.size ≤ n1 ∧ ∀ b, (Value.slice a5 L2.length c5).ownBlock = some b → b < n1) := ⟨hn1, hlt1⟩
        have BZ : Hid (Below wr.heap.size wr Z) := below_then b1 bV
        have ZB : Hid (HBox Z s1.heap.size ⟨p, .slice a5 L2.length c5, .slice a6 L1.length c6, L2, L1⟩) := hz
        have hsl : s1.heap.size < Z.heap.size := HBox.lt hz
        clear IV o1 o2 hn1 hlt1 b1 bV hz cx0 cx1 cx2 cy0 cy1 cy2
        gi_wp2
        rw [← hZ]
        clear hZ
        have HCC : Hid (∀ W, Below Z.heap.size Z W → (W.cell? ⟨b, off + k * 3, none⟩ = some (.int .i64 p) ∧ W.cell? ⟨b, off + k * 3 + 1, none⟩ = some (.slice xa1 L1.length xk1) ∧ W.cell? ⟨b, off + k * 3 + 2, none⟩ = some (.slice xa2 L2.length xk2)) ∧ (W.cell? ⟨g, k * 3, none⟩ = some (.int .i64 p) ∧ W.cell? ⟨g, k * 3 + 1, none⟩ = some (.slice (some ⟨h1, 0, none⟩) L1.length c1) ∧ W.cell? ⟨g, k * 3 + 2, none⟩ = some (.slice (some ⟨h2, 0, none⟩) L2.length c2)) ∧ W.cell? ⟨s1.heap.size, 0, none⟩ = some (.int .i64 p) ∧ W.cell? ⟨s1.heap.size, 1, none⟩ = some (.slice a5 L2.length c5) ∧ W.cell? ⟨s1.heap.size, 2, none⟩ = some (.slice a6 L1.length c6)) := fun W hW =>
          ⟨CX.out W (below_then BZ.out hW), CY.out W (below_then BZ.out hW), (HBox.below ZB.out hW).cells⟩
        refine region_lex (fun W => (W.cell? ⟨b, off + k * 3, none⟩ = some (.int .i64 p) ∧ W.cell? ⟨b, off + k * 3 + 1, none⟩ = some (.slice xa1 L1.length xk1) ∧ W.cell? ⟨b, off + k * 3 + 2, none⟩ = some (.slice xa2 L2.length xk2)) ∧ (W.cell? ⟨g, k * 3, none⟩ = some (.int .i64 p) ∧ W.cell? ⟨g, k * 3 + 1, none⟩ = some (.slice (some ⟨h1, 0, none⟩) L1.length c1) ∧ W.cell? ⟨g, k * 3 + 2, none⟩ = some (.slice (some ⟨h2, 0, none⟩) L2.length c2)) ∧ W.cell? ⟨s1.heap.size, 0, none⟩ = some (.int .i64 p) ∧ W.cell? ⟨s1.heap.size, 1, none⟩ = some (.slice a5 L2.length c5) ∧ W.cell? ⟨s1.heap.size, 2, none⟩ = some (.slice a6 L1.length c6)) 4 17 rfl (by kernel_rfl) (by kernel_rfl) (by kernel_rfl) (by kernel_rfl) (fun _ _ d _ _ h => by cases d <;> exact h) (HCC.out _ (below_drewN (Below.refl _ Z) 1)) ?_
        simp only [List.take_succ_cons, List.take_zero]
        iterate 4 (first
          | (apply lexC_want
             · rfl
             · exact fun _ => rfl
             · (intro w' hw'; obtain ⟨⟨q0, q1, q2⟩, ⟨q3, q4, q5⟩, q6, q7, q8⟩ := hw'; go_simp; try rfl)
             simp only [Act.put, List.setIfInBounds_toArray, List.set_cons_zero, List.set_cons_succ])
          | (apply lexC_skip
             · rfl
             · exact fun _ => rfl
             simp only [Act.put, List.setIfInBounds_toArray, List.set_cons_zero, List.set_cons_succ]))
        refine lexC_nil ?_
        refine anyC_take (i := 5) (v := .slice (some ⟨b, off, none⟩) xs.length capv) rfl rfl (by kernel_rfl) (by kernel_rfl) (by kernel_rfl) (fun _ _ d _ _ h => by cases d <;> exact h) (HCC.out _ (below_drewN (Below.refl _ Z) 1)) (by rfl) (fun _ => rfl) (by intro w' _; go_simp; try rfl) ?_
        refine anyC_take (i := 6) (v := .int .i64 k) rfl rfl (by kernel_rfl) (by kernel_rfl) (by kernel_rfl) (fun _ _ d _ _ h => by cases d <;> exact h) (HCC.out _ (below_drewN (Below.refl _ Z) 1)) (by rfl) (fun _ => rfl) (by intro w' _; go_simp; try rfl) ?_
        refine anyC_take (i := 7) (v := .pointer (some ⟨b, off + k * 3, none⟩)) rfl rfl (by kernel_rfl) (by kernel_rfl) (by kernel_rfl) (fun _ _ d _ _ h => by cases d <;> exact h) (HCC.out _ (below_drewN (Below.refl _ Z) 1)) (by rfl) (fun _ => rfl) (by intro w' _; go_simp; try rfl) ?_
        refine anyC_take (i := 8) (v := .agg #[.int .i64 p, .slice xa1 L1.length xk1, .slice xa2 L2.length xk2]) rfl rfl (by kernel_rfl) (by kernel_rfl) (by kernel_rfl) (fun _ _ d _ _ h => by cases d <;> exact h) (HCC.out _ (below_drewN (Below.refl _ Z) 1)) (by rfl) (fun _ => rfl) (by intro w' hw'; obtain ⟨⟨q0, q1, q2⟩, ⟨q3, q4, q5⟩, q6, q7, q8⟩ := hw'; go_simp; try rfl) ?_
        refine anyC_one (i := 4) (by kernel_rfl) rfl (by rfl) (fun K1 hK1 => ?_)
        go_simp
        refine ⟨trivial, ?_⟩
        refine (callsIn_wide.2 (RY.out _ (below_then BZ.out (below_drewN (Below.refl _ Z) 1)))).mono ?_
        rintro e s2 ⟨rfl, b2⟩
        have D2 : Below Z.heap.size Z s2 := (below_drewN (Below.refl _ Z) 1).trans b2
        refine hK1 _ _ (HCC.out _ D2) ?_
        clear hK1 b2
        refine anyC_one (i := 9) (by kernel_rfl) rfl (by rfl) (fun K1 hK1 => ?_)
        go_simp
        refine ⟨trivial, ?_⟩
        refine (callsIn_wide.2 (RX.out _ (below_then BZ.out D2))).mono ?_
        rintro e s3 ⟨rfl, b3⟩
        have D3 : Below Z.heap.size Z s3 := below_then D2 b3
        refine hK1 _ _ (HCC.out _ D3) ?_
        clear hK1 b3 D2
        refine anyC_more 10 7 4 11 rfl (by kernel_rfl) rfl (by decide) (by kernel_rfl) (fun _ _ d _ _ h => by cases d <;> exact h) (HCC.out _ D3) ?_
        simp only [List.drop_succ_cons, List.drop_zero, List.take_succ_cons, List.take_zero]
        iterate 7 (first
          | (apply lexC_want
             · rfl
             · exact fun _ => rfl
             · (intro w' hw'; obtain ⟨⟨q0, q1, q2⟩, ⟨q3, q4, q5⟩, q6, q7, q8⟩ := hw'; go_simp; try rfl)
             simp only [Act.put, List.setIfInBounds_toArray, List.set_cons_zero, List.set_cons_succ])
          | (apply lexC_skip
             · rfl
             · exact fun _ => rfl
             simp only [Act.put, List.setIfInBounds_toArray, List.set_cons_zero, List.set_cons_succ]))
        refine lexC_nil ?_
        refine anyC_one (i := 17) (by kernel_rfl) rfl (by rfl) (fun K1 hK1 => ?_)
        go_simp
        refine ⟨trivial, ?_⟩
        refine (callsIn_wide.2 (IX.out _ (below_then BZ.out D3))).mono ?_
        rintro e s4 ⟨y', rfl, hy', ly', b4⟩
        have D4 : Below Z.heap.size Z s4 := below_then D3 b4
        have SH : Hid (_) := sameHunkA_yes ⟨p, .slice a5 L2.length c5, .slice a6 L1.length c6, L2, L1⟩ y' s4.heap.size s4 ⟨RowLow.of_owns (owns_below O1.out D4), RowLow.of_owns (owns_below O2.out D4)⟩ ly' (Nat.le_refl _) (hy'.symm) (by show L2.length ≤ _; omega) (by show L1.length ≤ _; omega)
        obtain ⟨⟨ya1, yk1, e1⟩, ⟨ya2, yk2, e2⟩⟩ := ly'.shape
        obtain ⟨q, uo, un, M1, M2⟩ := y'
        simp only at e1 e2
        subst e1 e2
        simp only [HA.val] at SH
        refine hK1 _ _ (HCC.out _ D4) ?_
        clear hK1 b4 D3 hy' ly'
        refine anyC_one (i := 18) (by kernel_rfl) rfl (by rfl) (fun K1 hK1 => ?_)
        go_simp
        refine ⟨trivial, ?_⟩
        refine (callsIn_wide.2 SH.out).mono ?_
        rintro e s5 ⟨rfl, b5⟩
        have D5 : Below Z.heap.size Z s5 := below_then D4 b5
        refine hK1 _ _ (HCC.out _ D5) ?_
        clear hK1 b5 D4 SH
        refine anyC_more 19 2 0 2 rfl (by kernel_rfl) rfl (by decide) (by kernel_rfl) (fun _ _ d _ _ h => by cases d <;> exact h) (HCC.out _ D5) ?_
        simp only [List.drop_succ_cons, List.drop_zero, List.take_succ_cons, List.take_zero]
        iterate 2 (first
          | (apply lexC_want
             · rfl
             · exact fun _ => rfl
             · (intro w' hw'; obtain ⟨⟨q0, q1, q2⟩, ⟨q3, q4, q5⟩, q6, q7, q8⟩ := hw'; go_simp; try rfl)
             simp only [Act.put, List.setIfInBounds_toArray, List.set_cons_zero, List.set_cons_succ])
          | (apply lexC_skip
             · rfl
             · exact fun _ => rfl
             simp only [Act.put, List.setIfInBounds_toArray, List.set_cons_zero, List.set_cons_succ]))
        refine lexC_nil ?_
        refine anyC_done (by kernel_rfl) ?_
        obtain ⟨-, -, f0, f1, f2⟩ := HCC.out s5 D5
        have hs5 : s1.heap.size < s5.heap.size := Nat.lt_of_lt_of_le hsl D5.size
        have BW5 : Below w4.heap.size w4 s5 := below_then (below_then HB.out BZ.out) D5
        have bb := below_nw s5 (.cells #[.int .i64 p, .slice a5 L2.length c5, .slice a6 L1.length c6] 41)
        have OW6 := owns_below (owns_below OWN.out (below_then BZ.out D5)) bb
        obtain ⟨v', W', hrun, ho', hg', -⟩ := run_append_own (P := Try.prog) _ w4.heap.size 23 23 41 i0 (.agg #[.int .i64 0, .slice none 0 0, .slice none 0 0]) 3 56 Try.underlying23 hi hz0 hz1 hz2 rfl (by decide) (.slice at4 k cp4) k (haCells zs) OW6 ⟨s5.heap.size, 0, none⟩ 1 1 [.int .i64 p, .slice a5 L2.length c5, .slice a6 L1.length c6] rfl (cells_new s5 [.int .i64 p, .slice a5 L2.length c5, .slice a6 L1.length c6] 41) (by simp [Value.oneCell']) (by unfold maxLen; omega) (by omega) (below_then BW5 bb).size
        have FIN : Hid (W'.ownsRow w4.heap.size 41 3 v' (k + 1) (haCells (zs ++ [⟨p, .slice a5 L2.length c5, .slice a6 L1.length c6, L2, L1⟩])) ∧ Told3 w4.heap.size W' (zs ++ [⟨p, .slice a5 L2.length c5, .slice a6 L1.length c6, L2, L1⟩]) ∧ Below w4.heap.size w4 W') := by
          refine ⟨?_, ?_, ?_⟩
          · rw [haCells_snoc]; exact ho'
          · refine Told3.grown ?_ OW6 hg'
            refine Told3.snoc (n0 := wr.heap.size) (n1 := n1) ((TLD.out.below (below_then BZ.out D5)).below bb) TLD.out.lt (owns_below (owns_below O1.out D5) bb) (owns_below (owns_below O2.out D5) bb) ORD.out.1 ORD.out.2 HB.out.size l2 l1
          · exact (below_then BW5 bb).grown hg' (below_then BW5 bb).size (fun q hq => (World.ownsRow.lt OW6 q hq).1)
        clear ho' hg' OW6 bb BW5 D5 HCC TLD HB OWN O1 O2 ORD BZ ZB RY RX IX CX CY
        gi_wp2_with (gi_at_builtin; refine list_append rfl _ _ 23 rfl _ _ _ _ rfl rfl hrun ?_)
        go_roundw
        case rel => exact ⟨k + 1, _, by omega, by go_num, by simp [hzl], FIN.out.1, FIN.out.2.1, FIN.out.2.2⟩
        case measure => simp [intOf]; omega
      · have hkl : k = xs.length := by omega
        subst hkl
        have BWR : Below w.heap.size w wr := below_then B4.out hB
        obtain ⟨own, la⟩ := LR.out wr (below_then C4.out hB)
        have K1 : Hid (_) := keptHunks_any xs ys _ g cap w1.heap.size wr (VW.out wr BWR) own la (by omega) (fun x hx => by have := LEN.out x hx; omega)
        obtain ⟨at4, cp4, rfl⟩ := slice_shape hown
        have OWN : Hid (_) := hown
        have TLD : Hid (Told3 w4.heap.size wr zs) := htold
        have HB : Hid (Below w4.heap.size w4 wr) := hB
        clear own la hown htold hB BWR
        gi_wp2_with fail
        refine ⟨trivial, ?_⟩
        refine (callsIn_wide.2 K1.out).mono ?_
        rintro e s1 ⟨rfl, b1⟩
        obtain ⟨Z, hZ⟩ : ∃ Z, Z = s1.alloc (.cells #[.slice at4 xs.length cp4] 23) := ⟨_, rfl⟩
        have bZ : Below s1.heap.size s1 Z := by rw [hZ]; exact below_nw s1 _
        have hcell : Z.cell? ⟨s1.heap.size, 0, none⟩ = some (.slice at4 xs.length cp4) := by
          have h := cells_new s1 [.slice at4 xs.length cp4] 23 0 _ rfl
          rw [hZ]; exact h
        have BZ4 : Below w4.heap.size w4 Z := below_then (below_then HB.out b1) bZ
        have OZ := owns_below (owns_below OWN.out b1) bZ
        have TZ := (TLD.out.below b1).below bZ
        have AP : Hid (_) := apartHunks_any w4.heap.size [(.slice at4 xs.length cp4, zs)] s1.heap.size 1 Z (fun j q hq => by
            cases j with
            | zero => simp at hq; subst hq; exact hcell
            | succ j => simp at hq) (fun q hq => by simp at hq; subst hq; exact ⟨by simp only [hzl]; exact OZ, TZ.1⟩)
          (apart_of_nodup' _ (by have h := TZ.2.1; simp only [txtRows, List.flatMap_cons, List.flatMap_nil, List.append_nil, haRows_fst]; exact h))
          (apart_of_nodup' _ (by simp only [hkRows, List.map_cons, List.map_nil]; cases h : (Value.slice at4 xs.length cp4).ownBlock <;> simp [h]))
          BZ4.size (by simp) (fun q hq => by simp at hq; subst hq; simp only [hzl]; omega) (fun q hq x hx => by simp at hq; subst hq; have := TZ.2.2 x hx; omega)
        have HBZ : Hid (Below w4.heap.size w4 Z) := BZ4
        clear K1 b1 bZ hcell BZ4 OZ TZ OWN TLD HB
        simp only [List.length_cons, List.length_nil, Nat.zero_add] at AP
        gi_wp2_with fail
        rw [← hZ]
        clear hZ
        refine ⟨trivial, ?_⟩
        refine (callsIn_wide.2 AP.out).mono ?_
        rintro e s2 ⟨rfl, b2⟩
        have B42 : Below w4.heap.size w4 s2 := HBZ.out.trans b2
        have BW2 : Hid (Below w.heap.size w s2) := below_then B4.out B42
        obtain ⟨own, la⟩ := LR.out s2 (below_then C4.out B42)
        have K2 : Hid (_) := keptHunks_any xs ys _ g cap w1.heap.size s2 (VW.out s2 BW2.out) own la (by omega) (fun x hx => by have := LEN.out x hx; omega)
        clear AP b2 B42 own la HBZ
        gi_wp2_with fail
        refine ⟨trivial, ?_⟩
        refine (callsIn_wide.2 K2.out).mono ?_
        rintro e s3 ⟨rfl, b3⟩
        have BW3 : Hid (Below w.heap.size w s3) := below_then BW2.out b3
        clear K2 b3 BW2
        gi_wp2_with fail
        refine ⟨trivial, ?_⟩
        refine (callsIn_wide.2 (hawake_any s3)).mono ?_
        rintro e s4 ⟨rfl, b4⟩
        have BF : Hid (Below w.heap.size w s4) := below_then BW3.out b4
        clear b4 BW3
        gi_wp2
        exact bodyPost_ret (results_tmp rfl _ _ _) rfl ⟨rfl, BF.out⟩

end Go.Proofs.Ytflnakjffgobmaa

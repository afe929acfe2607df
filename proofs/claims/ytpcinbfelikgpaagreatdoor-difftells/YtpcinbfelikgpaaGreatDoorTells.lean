/-
  The walk of the law DiffTells.
-/
import Derived.Test.YtpcinbfelikgpaaGreatDoorAwake
import Derived.Test.YtpcinbfelikgpaaGreatDoorGreat
import Derived.Test.YtpcinbfelikgpaaGreatDoorRefHunks
import Derived.Test.YtpcinbfelikgpaaGreatDoorKept
import Derived.Test.YtpcinbfelikgpaaGreatDoorApartHunks
namespace Go.Proofs.YtpcinbfelikgpaaGreatDoor
open Go.RowKit Go.Shelf

attribute [local go_sem] Oper.semAt_some

/-- Of lists of hunks whose blocks rise, all lie apart. -/
theorem apart_of_rise (R : List (Value × Nat)) (h : ((R.map Prod.fst).filterMap Value.ownBlock).Pairwise (· < ·)) : Apart R := by
  intro j k p q hp hq hjk
  cases hb : p.1.ownBlock with
  | none => exact .inl rfl
  | some b =>
    right
    intro e
    have key : ∀ (L : List (Value × Nat)) (j k : Nat) (p q : Value × Nat), ((L.map Prod.fst).filterMap Value.ownBlock).Pairwise (· < ·) → L[j]? = some p → L[k]? = some q → j < k → p.1.ownBlock = some b → q.1.ownBlock = some b → False := by
      intro L
      induction L with
      | nil => intro j k p q _ hp; simp at hp
      | cons x L ih =>
        intro j k p q hpw hp hq hjk h1 h2
        cases k with
        | zero => omega
        | succ k =>
          simp only [List.getElem?_cons_succ] at hq
          cases j with
          | zero =>
            simp only [List.getElem?_cons_zero, Option.some.injEq] at hp
            subst hp
            simp only [List.map_cons, List.filterMap_cons, h1, List.pairwise_cons] at hpw
            have := hpw.1 b (List.mem_filterMap.2 ⟨q.1, List.mem_map.2 ⟨q, List.mem_of_getElem? hq, rfl⟩, h2⟩)
            omega
          | succ j =>
            simp only [List.getElem?_cons_succ] at hp
            refine ih j k p q ?_ hp hq (by omega) h1 h2
            simp only [List.map_cons, List.filterMap_cons] at hpw
            split at hpw
            · exact hpw
            · exact (List.pairwise_cons.1 hpw).2
    rcases Nat.lt_or_gt_of_ne hjk with hlt | hlt
    · exact key R j k p q h hp hq hlt hb e.symm
    · exact key R k j q p h hq hp hlt e.symm hb

theorem filterMap_hv (xs : List HV) : ((hvRows xs).map Prod.fst).filterMap Value.ownBlock = bl xs := by rw [hvRows_fst]; rfl
/-- Two rows of hunks, the one behind the other: their lists lie apart. -/
theorem apart_two {A B : List HV} {va vb : Value} {W W' : World} {n : Nat} (hA : (bl A).Pairwise (· < ·)) (hB : (bl B).Pairwise (· < ·)) (okA : ∀ x ∈ A, HV.Ok n x W) (okB : ∀ x ∈ B, HV.Ok W.heap.size x W') : Apart (txtRows [(va, A), (vb, B)]) := by
  refine apart_of_rise _ ?_
  have e : (txtRows [(va, A), (vb, B)]).map Prod.fst = (hvRows A).map Prod.fst ++ (hvRows B).map Prod.fst := by simp [txtRows]
  rw [e, List.filterMap_append, filterMap_hv, filterMap_hv, List.pairwise_append]
  refine ⟨hA, hB, fun a ha b hb => ?_⟩
  have lA : a < W.heap.size := by
    obtain ⟨v, hv, hb⟩ := List.mem_filterMap.1 ha
    obtain ⟨x, hx, hm⟩ := List.mem_flatMap.1 hv
    simp only [List.mem_cons, List.not_mem_nil, or_false] at hm
    rcases hm with rfl | rfl
    · exact ((okA x hx).1.lt a hb).2
    · exact ((okA x hx).2.lt a hb).2
  have lB : W.heap.size ≤ b := by
    obtain ⟨v, hv, hb⟩ := List.mem_filterMap.1 hb
    obtain ⟨x, hx, hm⟩ := List.mem_flatMap.1 hv
    simp only [List.mem_cons, List.not_mem_nil, or_false] at hm
    rcases hm with rfl | rfl
    · exact ((okB x hx).1.lt b hb).1
    · exact ((okB x hx).2.lt b hb).1
  omega

theorem hks_part_len {α : Type} (a b : List α) : ∀ (ps : List (Nat × Nat)) (i j : Nat), ∀ h ∈ Df.hks a b i j ps, h.old.length ≤ a.length ∧ h.new.length ≤ b.length
  | [], _, _, h, hh => by simp [Df.hks] at hh
  | p :: ps, i, j, h, hh => by
    simp only [Df.hks, List.mem_append] at hh
    rcases hh with hh | hh
    · split at hh
      · simp at hh; subst hh
        simp [Df.part]; omega
      · simp at hh
    · exact hks_part_len a b ps _ _ h hh

theorem hks_len {α : Type} (a b : List α) : ∀ (ps : List (Nat × Nat)) (i j : Nat), (Df.hks a b i j ps).length ≤ ps.length
  | [], _, _ => by simp [Df.hks]
  | p :: ps, i, j => by
    have := hks_len a b ps (p.1 + 1) (p.2 + 1)
    simp only [Df.hks, List.length_append, List.length_cons]
    split <;> simp <;> omega

/-- A row above g stays, where g is written to. -/
theorem owns_over {W W' : World} {B n size g : Nat} {e : TypeId} {v : Value} {xs : List Value} (h : W.ownsRow B e size v n xs) (hg : W.grownBy W' (some g)) (hlt : g < B) : W'.ownsRow B e size v n xs := by
  refine h.kept hg ?_
  cases hb : v.ownBlock with
  | none => exact .inl rfl
  | some b => exact .inr (fun e => by have := (h.lt b hb).1; cases e; omega)
theorem below_over {W W' : World} {B g : Nat} (hg : W.grownBy W' (some g)) (hlt : B ≤ g) (hB : B ≤ W.heap.size) : Below B W W' := ⟨hg.os, hg.tape, hg.output, hg.size, fun j hj => hg.block j (by omega) (fun e => by cases e; omega)⟩
/-- The lent row, read. -/
theorem lent_low {W : World} {B g cap : Nat} {L : List (List UInt8)} (h : W.ownsRow B 9 1 (.slice (some ⟨g, 0, none⟩) (L.length + 12) cap) (L.length + 12) ((L ++ marks 12).map txtV)) : RowLow W.heap.size W (.slice (some ⟨g, 0, none⟩) L.length cap) L := by
  have h1 := owns_front h (show L.length ≤ L.length + 12 by omega)
  rw [Nat.mul_one, List.map_append, List.take_append_of_le_length (by simp), List.take_of_length_le (by simp)] at h1
  exact RowLow.of_owns h1

set_option maxRecDepth 100000 in
set_option maxHeartbeats 16000000 in
theorem law (A B : List (List UInt8)) (va vb : Value) (w : World) (ha : RowLow w.heap.size w va A) (hb : RowLow w.heap.size w vb B)
    (lA : A.length ≤ 9223372036854775807) (lB : B.length ≤ 9223372036854775807) (sA : ∀ x ∈ A, x.length ≤ 9223372036854775807) (sB : ∀ x ∈ B, x.length ≤ 9223372036854775807) :
    Calls Tryz.prog 3 #[va, vb] w fun e w' => e = .returned (.bool true) ∧ Below w.heap.size w w' := by
  refine (callsIn_wide (n := 3)).1 ?_
  refine callsIn_of_wp Tryz.func3 rfl trivial ?_ rfl
  simp only [Tryz.ntmps3, List.size_toArray, List.length_cons, List.length_nil, Nat.reduceAdd, Nat.reduceSub, Array.replicate_succ, Array.replicate_zero, List.push_toArray, List.append_toArray, List.nil_append, List.cons_append]
  have GR : Hid (_) := great_any A B va vb w.heap.size w ha hb lA lB sA sB
  have RA : Hid (RowLow w.heap.size w va A) := ha
  have RB : Hid (RowLow w.heap.size w vb B) := hb
  clear ha hb sA sB lA lB
  gi_wp2_with fail
  refine ⟨trivial, ?_⟩
  refine (callsIn_wide.2 GR.out).mono ?_
  rintro e w2 ⟨r, rfl, rfl, hr⟩
  clear GR
  cases r with
  | true =>
    gi_wp2_with fail
    refine ⟨trivial, ?_⟩
    refine (callsIn_wide.2 (awake_any w2)).mono ?_
    rintro e w1 ⟨rfl, b1⟩
    gi_wp2
    exact bodyPost_ret (results_tmp rfl _ _ _) rfl ⟨rfl, b1⟩
  | false =>
    obtain ⟨hA, hB, sA, sB⟩ := hr rfl
    have s1 : Hid (∀ x ∈ A, x.length ≤ 1000000) := fun x hx => Nat.le_trans (sA x hx) (by omega)
    have s2 : Hid (∀ x ∈ B, x.length ≤ 1000000) := fun x hx => Nat.le_trans (sB x hx) (by omega)
    have HA : Hid (A.length ≤ 300) := hA
    have HB : Hid (B.length ≤ 300) := hB
    have hcl : (Df.common A B).length ≤ 300 := by rw [Df.common_length A B (by omega) (by omega)]; exact Nat.le_trans (Df.lc_le_left A B) hA
    have HCL : Hid ((Df.common A B).length ≤ 300) := hcl
    have hxl : ∀ xs : List HV, xs.map HV.hk = Df.hunks A B → xs.length ≤ 301 ∧ ∀ x ∈ xs, x.old.length ≤ 300 ∧ x.new.length ≤ 300 := by
      intro xs hxs
      have h1 := congrArg List.length hxs
      rw [List.length_map] at h1
      have h2 : (Df.hunks A B).length ≤ (Df.common A B).length + 1 := by
        have := hks_len A B (Df.common A B ++ [(A.length, B.length)]) 0 0
        simpa [Df.hunks] using this
      refine ⟨by omega, fun x hx => ?_⟩
      have h9 := hks_part_len A B (Df.common A B ++ [(A.length, B.length)]) 0 0 x.hk (by have : x.hk ∈ xs.map HV.hk := List.mem_map_of_mem hx; rw [hxs] at this; exact this)
      have h8 : x.old.length ≤ A.length ∧ x.new.length ≤ B.length := h9
      omega
    have HXL : Hid (_) := hxl
    clear hr sA sB hA hB hcl hxl
    have L1 : Hid (_) := lent_any A va w2 RA.out (by have := HA.out; omega)
    gi_wp2_with fail
    refine ⟨trivial, ?_⟩
    refine (callsIn_wide.2 L1.out).mono ?_
    rintro e w3 ⟨gx, cx, rfl, ox, b3⟩
    clear L1
    have OX : Hid (w3.ownsRow w2.heap.size 9 1 (.slice (some ⟨gx, 0, none⟩) (A.length + 12) cx) (A.length + 12) ((A ++ marks 12).map txtV)) := ox
    have B3 : Hid (Below w2.heap.size w2 w3) := b3
    have OXlt : Hid (gx < w3.heap.size) := (ox.lt gx rfl).2
    have L2 : Hid (_) := lent_any B vb w3 ((RB.out.below b3 (Nat.le_refl _)).mono b3.size) (by have := HB.out; omega)
    clear ox b3
    gi_wp2_with fail
    refine ⟨trivial, ?_⟩
    refine (callsIn_wide.2 L2.out).mono ?_
    rintro e w4 ⟨gy, cy, rfl, oy, b4⟩
    clear L2
    have OY : Hid (w4.ownsRow w3.heap.size 9 1 (.slice (some ⟨gy, 0, none⟩) (B.length + 12) cy) (B.length + 12) ((B ++ marks 12).map txtV)) := oy
    have OX4 : Hid (w4.ownsRow w2.heap.size 9 1 (.slice (some ⟨gx, 0, none⟩) (A.length + 12) cx) (A.length + 12) ((A ++ marks 12).map txtV)) := owns_below OX.out b4
    have B4 : Hid (Below w2.heap.size w2 w4) := B3.out.trans (b4.mono B3.out.size)
    have GX : Hid (w2.heap.size ≤ gx ∧ gx < w4.heap.size) := ⟨(OX4.out.lt gx rfl).1, (OX4.out.lt gx rfl).2⟩
    have GY : Hid (w2.heap.size ≤ gy ∧ gy < w4.heap.size) := ⟨Nat.le_trans B3.out.size (OY.out.lt gy rfl).1, (OY.out.lt gy rfl).2⟩
    have RX4 : Hid (RowLow w4.heap.size w4 (.slice (some ⟨gx, 0, none⟩) A.length cx) A) := lent_low OX4.out
    have RY4 : Hid (RowLow w4.heap.size w4 (.slice (some ⟨gy, 0, none⟩) B.length cy) B) := lent_low OY.out
    clear oy b4 B3 OX
    have CM : Hid (_) := common_any A B _ _ w4 RX4.out RY4.out s1.out s2.out
    gi_wp2_with fail
    refine ⟨trivial, ?_⟩
    refine (callsIn_wide.2 CM.out).mono ?_
    rintro e w5 ⟨v5, rfl, o5, b5⟩
    clear CM
    have O5 : Hid (_) := o5
    have B5 : Hid (Below w4.heap.size w4 w5) := b5
    have H1 : Hid (_) := hunks_any A B _ _ w5 (RX4.out.at b5) (RY4.out.at b5) (by have := HA.out; omega) (by have := HB.out; omega) s1.out s2.out
    clear o5 b5
    gi_wp2_with fail
    refine ⟨trivial, ?_⟩
    refine (callsIn_wide.2 H1.out).mono ?_
    rintro e w6 ⟨vh, xs, rfl, hxs, px, o6, k6, b6⟩
    clear H1
    have B6 : Hid (Below w4.heap.size w4 w6) := below_then B5.out b6
    have H2 : Hid (_) := hunks_any A B _ _ w6 (RX4.out.at B6.out) (RY4.out.at B6.out) (by have := HA.out; omega) (by have := HB.out; omega) s1.out s2.out
    have XS : Hid (xs.map HV.hk = Df.hunks A B) := hxs
    have PX : Hid ((bl xs).Pairwise (· < ·)) := px
    have O6 : Hid (w6.ownsRow w5.heap.size 39 3 vh xs.length (hkCells xs)) := o6
    have K6 : Hid (∀ x ∈ xs, HV.Ok w5.heap.size x w6) := k6
    have BB6 : Hid (Below w5.heap.size w5 w6) := b6
    clear hxs px o6 k6 b6
    gi_wp2_with fail
    refine ⟨trivial, ?_⟩
    refine (callsIn_wide.2 H2.out).mono ?_
    rintro e w7 ⟨vg, ys, rfl, hys, py, o7, k7, b7⟩
    clear H2
    have YS : Hid (ys.map HV.hk = Df.hunks A B) := hys
    have PY : Hid ((bl ys).Pairwise (· < ·)) := py
    have O7 : Hid (w7.ownsRow w6.heap.size 39 3 vg ys.length (hkCells ys)) := o7
    have K7 : Hid (∀ x ∈ ys, HV.Ok w6.heap.size x w7) := k7
    have O67 : Hid (w7.ownsRow w5.heap.size 39 3 vh xs.length (hkCells xs)) := owns_below O6.out b7
    have K67 : Hid (∀ x ∈ xs, HV.Ok w5.heap.size x w7) := fun x hx => (K6.out x hx).below b7
    have B7 : Hid (Below w4.heap.size w4 w7) := below_then B6.out b7
    have S6 : Hid (w4.heap.size ≤ w5.heap.size ∧ w5.heap.size ≤ w6.heap.size ∧ w6.heap.size ≤ w7.heap.size) := ⟨B5.out.size, BB6.out.size, b7.size⟩
    have C7 : Hid (CellsLow w7.heap.size w7 v5 (Df.common A B).length (pairCells (Df.common A B))) := CellsLow.of_owns (owns_below (owns_below O5.out BB6.out) b7)
    have BW7 : Hid (Below w2.heap.size w2 w7) := B4.out.trans (B7.out.mono B4.out.size)
    have RC : Hid (_) := refCommon_any A B va vb w7 ((RA.out.below BW7.out (Nat.le_refl _)).mono BW7.out.size) ((RB.out.below BW7.out (Nat.le_refl _)).mono BW7.out.size)
    clear hys py o7 k7 b7 O5 B5 B6 BB6
    gi_wp2_with fail
    refine ⟨trivial, ?_⟩
    refine (callsIn_wide.2 RC.out).mono ?_
    rintro e w8 ⟨v8, rfl, o8, b8⟩
    clear RC
    have B78 : Hid (Below w7.heap.size w7 w8) := b8
    have SP : Hid (_) := samePairs_yes (Df.common A B) v5 v8 w8.heap.size w8 (C7.out.at b8 (fun h => by rw [List.eq_nil_of_length_eq_zero h]; rfl)) (CellsLow.of_owns o8) (by have := HCL.out; omega)
    clear o8 b8
    gi_wp2_with fail
    refine ⟨trivial, ?_⟩
    refine (callsIn_wide.2 SP.out).mono ?_
    rintro e w9 ⟨rfl, d9, hw9⟩
    clear SP
    have B79 : Hid (Below w7.heap.size w7 w9) := by rw [hw9]; exact below_drewN B78.out d9
    clear hw9 B78
    have BW9 : Hid (Below w2.heap.size w2 w9) := BW7.out.trans (B79.out.mono BW7.out.size)
    have RH : Hid (_) := refHunks_any A B va vb w9 ((RA.out.below BW9.out (Nat.le_refl _)).mono BW9.out.size) ((RB.out.below BW9.out (Nat.le_refl _)).mono BW9.out.size) (by have := HA.out; omega) (by have := HB.out; omega)
    gi_wp2_with fail
    refine ⟨trivial, ?_⟩
    refine (callsIn_wide.2 RH.out).mono ?_
    rintro e w10 ⟨v10, zs, rfl, hzs, o10, k10, b10⟩
    clear RH
    have B710 : Hid (Below w7.heap.size w7 w10) := below_then B79.out b10
    have SH : Hid (_) := sameHunks_yes xs zs vh v10 w10.heap.size w10 ((HkLow.of_owns O67.out K67.out).at B710.out) (HkLow.of_owns o10 k10) (Nat.le_refl _) (XS.out.trans hzs.symm) (fun x hx => by have := (HXL.out xs XS.out).2 x hx; omega) (by have := (HXL.out xs XS.out).1; omega)
    clear hzs o10 k10 b10 BW9 B79
    gi_wp2_with fail
    refine ⟨trivial, ?_⟩
    refine (callsIn_wide.2 SH.out).mono ?_
    rintro e w11 ⟨rfl, b11⟩
    clear SH
    have B711 : Hid (Below w7.heap.size w7 w11) := below_then B710.out b11
    clear b11 B710
    have B411 : Hid (Below w4.heap.size w4 w11) := below_then B7.out B711.out
    have BW11 : Hid (Below w2.heap.size w2 w11) := B4.out.trans (B411.out.mono B4.out.size)
    have KX : Hid (_) := kept_any A va gx cx w2.heap.size w11 ((RA.out.below BW11.out (Nat.le_refl _)).mono BW11.out.size) (owns_below OX4.out B411.out) (by have := HA.out; omega)
    gi_wp2_with fail
    refine ⟨trivial, ?_⟩
    refine (callsIn_wide.2 KX.out).mono ?_
    rintro e w12 ⟨rfl, b12⟩
    clear KX
    have B712 : Hid (Below w7.heap.size w7 w12) := below_then B711.out b12
    have B412 : Hid (Below w4.heap.size w4 w12) := below_then B7.out B712.out
    have BW12 : Hid (Below w2.heap.size w2 w12) := B4.out.trans (B412.out.mono B4.out.size)
    clear b12 B711 B411 BW11
    have KY : Hid (_) := kept_any B vb gy cy w3.heap.size w12 ((RB.out.below BW12.out (Nat.le_refl _)).mono BW12.out.size) (owns_below OY.out B412.out) (by have := HB.out; omega)
    gi_wp2_with fail
    refine ⟨trivial, ?_⟩
    refine (callsIn_wide.2 KY.out).mono ?_
    rintro e w13 ⟨rfl, b13⟩
    clear KY
    have B713 : Hid (Below w7.heap.size w7 w13) := below_then B712.out b13
    have B413 : Hid (Below w4.heap.size w4 w13) := below_then B7.out B713.out
    have BW13 : Hid (Below w2.heap.size w2 w13) := B4.out.trans (B413.out.mono B4.out.size)
    clear b13 B712 B412 BW12
    have OV : Hid (_) := over_any A.length gx cx w2.heap.size _ w13 (owns_below OX4.out B413.out) (by have := HA.out; omega)
    gi_wp2_with fail
    refine ⟨trivial, ?_⟩
    refine (callsIn_wide.2 OV.out).mono ?_
    rintro e w14 ⟨⟨v14, rfl⟩, g14⟩
    clear OV
    have OY14 : Hid (w14.ownsRow w3.heap.size 9 1 (.slice (some ⟨gy, 0, none⟩) (B.length + 12) cy) (B.length + 12) ((B ++ marks 12).map txtV)) := (owns_below OY.out B413.out).kept g14 (.inr (fun e => by
      have h1 := (OY.out.lt gy rfl).1
      have h2 := OXlt.out
      have e' : gy = gx := by simpa [Value.ownBlock] using e
      omega))
    have BW14 : Hid (Below w2.heap.size w2 w14) := BW13.out.trans (below_over g14 GX.out.1 BW13.out.size)
    have O14 : Hid (w14.ownsRow w5.heap.size 39 3 vh xs.length (hkCells xs)) := owns_over (owns_below O67.out B713.out) g14 (by have := GX.out.2; have := S6.out; omega)
    have K14 : Hid (∀ x ∈ xs, HV.Ok w5.heap.size x w14) := fun x hx => ⟨owns_over ((K67.out x hx).below B713.out).1 g14 (by have := GX.out.2; have := S6.out; omega), owns_over ((K67.out x hx).below B713.out).2 g14 (by have := GX.out.2; have := S6.out; omega)⟩
    have P14 : Hid (w14.ownsRow w6.heap.size 39 3 vg ys.length (hkCells ys)) := owns_over (owns_below O7.out B713.out) g14 (by have := GX.out.2; have := S6.out; omega)
    have Q14 : Hid (∀ x ∈ ys, HV.Ok w6.heap.size x w14) := fun x hx => ⟨owns_over ((K7.out x hx).below B713.out).1 g14 (by have := GX.out.2; have := S6.out; omega), owns_over ((K7.out x hx).below B713.out).2 g14 (by have := GX.out.2; have := S6.out; omega)⟩
    clear g14 B713 B413 BW13
    have OV : Hid (_) := over_any B.length gy cy w3.heap.size _ w14 OY14.out (by have := HB.out; omega)
    gi_wp2_with fail
    refine ⟨trivial, ?_⟩
    refine (callsIn_wide.2 OV.out).mono ?_
    rintro e w15 ⟨⟨v15, rfl⟩, g15⟩
    clear OV
    have BW15 : Hid (Below w2.heap.size w2 w15) := BW14.out.trans (below_over g15 GY.out.1 BW14.out.size)
    have O15 : Hid (w15.ownsRow w5.heap.size 39 3 vh xs.length (hkCells xs)) := owns_over O14.out g15 (by have := GY.out.2; have := S6.out; omega)
    have K15 : Hid (∀ x ∈ xs, HV.Ok w5.heap.size x w15) := fun x hx => ⟨owns_over (K14.out x hx).1 g15 (by have := GY.out.2; have := S6.out; omega), owns_over (K14.out x hx).2 g15 (by have := GY.out.2; have := S6.out; omega)⟩
    have P15 : Hid (w15.ownsRow w6.heap.size 39 3 vg ys.length (hkCells ys)) := owns_over P14.out g15 (by have := GY.out.2; have := S6.out; omega)
    have Q15 : Hid (∀ x ∈ ys, HV.Ok w6.heap.size x w15) := fun x hx => ⟨owns_over (Q14.out x hx).1 g15 (by have := GY.out.2; have := S6.out; omega), owns_over (Q14.out x hx).2 g15 (by have := GY.out.2; have := S6.out; omega)⟩
    clear g15 BW14 O14 K14 P14 Q14 OY14
    have RH : Hid (_) := refHunks_any A B va vb w15 ((RA.out.below BW15.out (Nat.le_refl _)).mono BW15.out.size) ((RB.out.below BW15.out (Nat.le_refl _)).mono BW15.out.size) (by have := HA.out; omega) (by have := HB.out; omega)
    gi_wp2_with fail
    refine ⟨trivial, ?_⟩
    refine (callsIn_wide.2 RH.out).mono ?_
    rintro e w16 ⟨v16, zs, rfl, hzs, o16, k16, b16⟩
    clear RH
    have SH : Hid (_) := sameHunks_yes xs zs vh v16 w16.heap.size w16 ((HkLow.of_owns O15.out K15.out).at b16) (HkLow.of_owns o16 k16) (Nat.le_refl _) (XS.out.trans hzs.symm) (fun x hx => by have := (HXL.out xs XS.out).2 x hx; omega) (by have := (HXL.out xs XS.out).1; omega)
    have B16 : Hid (Below w15.heap.size w15 w16) := b16
    clear hzs o16 k16 b16
    gi_wp2_with fail
    refine ⟨trivial, ?_⟩
    refine (callsIn_wide.2 SH.out).mono ?_
    rintro e w17 ⟨rfl, b17⟩
    clear SH
    have B17 : Hid (Below w15.heap.size w15 w17) := below_then B16.out b17
    clear b17 B16
    obtain ⟨ah, ch, rfl⟩ := slice_shape O15.out
    obtain ⟨ag, cg, rfl⟩ := slice_shape P15.out
    obtain ⟨X, hX⟩ : ∃ X, X = w17.alloc (.cells #[.slice ah xs.length ch, .slice ag ys.length cg] 28) := ⟨_, rfl⟩
    have bX : Below w15.heap.size w15 X := by rw [hX]; exact below_then B17.out (below_new w17 _)
    have hXh : X.heap[w17.heap.size]? = some (.cells #[.slice ah xs.length ch, .slice ag ys.length cg] 28 (0, 0)) := by rw [hX]; exact World.alloc_heap_new w17 _
    have BWX : Hid (Below w2.heap.size w2 X) := BW15.out.trans (bX.mono BW15.out.size)
    have AP : Hid (Calls Tryz.prog 15 #[.slice (some ⟨w17.heap.size, 0, none⟩) 2 2] X fun e w' => e = .returned (.bool true) ∧ Below w2.heap.size X w') := by
      have s2w : w2.heap.size ≤ w5.heap.size := Nat.le_trans B4.out.size S6.out.1
      have s6w : w2.heap.size ≤ w6.heap.size := Nat.le_trans s2w S6.out.2.1
      refine apartHunks_any w2.heap.size [(.slice ah xs.length ch, xs), (.slice ag ys.length cg, ys)] w17.heap.size 2 X ?_ ?_ ?_ ?_ BWX.out.size (by simp) ?_ ?_
      · intro k p hp
        rw [Lib.cell_of_heap hXh]
        match k, hp with
        | 0, hp => cases hp; rfl
        | 1, hp => cases hp; rfl
        | k + 2, hp => simp at hp
      · intro p hp
        simp only [List.mem_cons, List.not_mem_nil, or_false] at hp
        rcases hp with rfl | rfl
        · exact ⟨owns_base (owns_below O15.out bX) s2w, fun x hx => ⟨owns_base (owns_below (K15.out x hx).1 bX) s2w, owns_base (owns_below (K15.out x hx).2 bX) s2w⟩⟩
        · exact ⟨owns_base (owns_below P15.out bX) s6w, fun x hx => ⟨owns_base (owns_below (Q15.out x hx).1 bX) s6w, owns_base (owns_below (Q15.out x hx).2 bX) s6w⟩⟩
      · exact apart_two PX.out PY.out K6.out K7.out
      · intro j k p q hp hq hjk
        have l1 : ∀ b, (Value.slice ah xs.length ch).ownBlock = some b → b < w6.heap.size := fun b hb => (O6.out.lt b hb).2
        have l2 : ∀ b, (Value.slice ag ys.length cg).ownBlock = some b → w6.heap.size ≤ b := fun b hb => (O7.out.lt b hb).1
        have key : (Value.slice ah xs.length ch).ownBlock = none ∨ (Value.slice ah xs.length ch).ownBlock ≠ (Value.slice ag ys.length cg).ownBlock := by
          cases hb : (Value.slice ah xs.length ch).ownBlock with
          | none => exact .inl rfl
          | some b => exact .inr (fun e => by have := l1 b hb; have := l2 b e.symm; omega)
        have key2 : (Value.slice ag ys.length cg).ownBlock = none ∨ (Value.slice ag ys.length cg).ownBlock ≠ (Value.slice ah xs.length ch).ownBlock := by
          cases hb : (Value.slice ag ys.length cg).ownBlock with
          | none => exact .inl rfl
          | some b => exact .inr (fun e => by have := l2 b hb; have := l1 b e.symm; omega)
        match j, k, hp, hq with
        | 0, 0, _, _ => exact absurd rfl hjk
        | 1, 1, _, _ => exact absurd rfl hjk
        | 0, 1, hp, hq => cases hp; cases hq; exact key
        | 1, 0, hp, hq => cases hp; cases hq; exact key2
        | j + 2, _, hp, _ => simp [hkRows] at hp
        | _, k + 2, _, hq => simp [hkRows] at hq
      · intro p hp
        simp only [List.mem_cons, List.not_mem_nil, or_false] at hp
        rcases hp with rfl | rfl
        · have := (HXL.out xs XS.out).1; simp only; omega
        · have := (HXL.out ys YS.out).1; simp only; omega
      · intro p hp x hx
        simp only [List.mem_cons, List.not_mem_nil, or_false] at hp
        rcases hp with rfl | rfl
        · have := (HXL.out xs XS.out).2 x hx; omega
        · have := (HXL.out ys YS.out).2 x hx; omega
    clear hXh bX
    gi_wp2_with fail
    rw [← hX]
    refine ⟨trivial, ?_⟩
    refine (callsIn_wide.2 AP.out).mono ?_
    rintro e w18 ⟨rfl, b18⟩
    clear AP
    have B18 : Hid (Below w2.heap.size w2 w18) := BWX.out.trans b18
    clear b18 hX BWX
    gi_wp2_with fail
    refine ⟨trivial, ?_⟩
    refine (callsIn_wide.2 (awake_any w18)).mono ?_
    rintro e w19 ⟨rfl, b19⟩
    gi_wp2
    exact bodyPost_ret (results_tmp rfl _ _ _) rfl ⟨rfl, B18.out.trans (b19.mono B18.out.size)⟩

end Go.Proofs.YtpcinbfelikgpaaGreatDoor

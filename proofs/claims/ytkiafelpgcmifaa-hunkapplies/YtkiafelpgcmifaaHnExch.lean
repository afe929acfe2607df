/-
  The walk of (*text).exchange.
-/
import Derived.Test.YtkiafelpgcmifaaHnAsk
namespace Go.Proofs.Ytkiafelpgcmifaa
open Go.RowKit Go.Shelf

attribute [local go_sem] Oper.semAt_some

/-- What lay below B is as it was; and whatever holds no texts, but the text and where it was asked last. -/
def KeepX (B tb fb : Nat) (W W' : World) : Prop := Below B W W' ∧ ∀ (k : Nat) (c : Array Value) (t : TypeId) (fr : Nat × Nat), W.heap[k]? = some (.cells c t fr) → t ≠ 9 → k ≠ tb → k ≠ fb → W'.heap[k]? = some (.cells c t fr)
theorem KeepX.refl (B tb fb : Nat) (W : World) : KeepX B tb fb W W := ⟨Below.refl _ _, fun _ _ _ _ h _ _ _ => h⟩
theorem KeepX.trans {B tb fb : Nat} {W X Y : World} (h : KeepX B tb fb W X) (k : KeepX B tb fb X Y) : KeepX B tb fb W Y := ⟨h.1.trans k.1, fun j c t fr hj h1 h2 h3 => k.2 j c t fr (h.2 j c t fr hj h1 h2 h3) h1 h2 h3⟩
theorem KeepX.of_below {B tb fb : Nat} {W X : World} (h : Below W.heap.size W X) (hn : B ≤ W.heap.size) : KeepX B tb fb W X :=
  ⟨h.mono hn, fun j _ _ _ hj _ _ _ => (h.block j (Array.getElem?_eq_some_iff.1 hj).1).trans hj⟩
theorem KeepX.of_b {B tb fb : Nat} {W X : World} (h : KeepB B tb W X) : KeepX B tb fb W X := ⟨h.1, fun j c t fr hj h1 h2 _ => h.2 j c t fr hj h1 h2⟩
theorem KeepX.of_set {B tb fb : Nat} {W : World} (hB : B ≤ fb) (hW : B ≤ W.heap.size) (i : Nat) (u : Value) : KeepX B tb fb W (W.setCell ⟨fb, i, none⟩ u) := by
  have h := KeepB.of_set (b := fb) hB hW i u
  exact ⟨h.1, fun j c t fr hj h1 _ h3 => h.2 j c t fr hj h1 h3⟩

/-- A text that is made out of the lines v: what was put so far, and where it was asked last. -/
structure XSt (B tb lb fb : Nat) (v : Value) (O : List (List UInt8)) (k : Nat) (W : World) : Prop where
  text : ∃ tv, W.heap[tb]? = some (.cells #[tv, upTo lb fb] 85 (0, 0)) ∧ W.ownsRow B 9 1 tv O.length (O.map txtV)
  row : W.heap[lb]? = some (.cells #[v] 22 (0, 0))
  from_ : W.heap[fb]? = some (.cells #[.int .i64 k] 3 (0, 0))
  low : B ≤ tb ∧ B ≤ fb
  apart : tb ≠ fb ∧ tb ≠ lb ∧ lb ≠ fb
theorem XSt.below {B tb lb fb k : Nat} {v : Value} {O : List (List UInt8)} {W W' : World} (h : XSt B tb lb fb v O k W) (hb : Below W.heap.size W W') : XSt B tb lb fb v O k W' := by
  obtain ⟨tv, h1, h2⟩ := h.text
  exact ⟨⟨tv, (hb.block _ (Array.getElem?_eq_some_iff.1 h1).1).trans h1, owns_below h2 hb⟩, (hb.block _ (Array.getElem?_eq_some_iff.1 h.row).1).trans h.row, (hb.block _ (Array.getElem?_eq_some_iff.1 h.from_).1).trans h.from_, h.low, h.apart⟩
theorem XSt.asked {B tb lb fb k : Nat} {v : Value} {O : List (List UInt8)} {W : World} (h : XSt B tb lb fb v O k W) (at_ : Nat) : XSt B tb lb fb v O at_ (W.setCell ⟨fb, 0, none⟩ (.int .i64 at_)) := by
  obtain ⟨tv, h1, h2⟩ := h.text
  have hg := grown_set W fb 0 (.int .i64 at_)
  refine ⟨⟨tv, (hg.block _ (Array.getElem?_eq_some_iff.1 h1).1 (fun e => h.apart.1 (by cases e; rfl))).trans h1, owns_set h2 h.from_ (by decide) 0 _⟩, (hg.block _ (Array.getElem?_eq_some_iff.1 h.row).1 (fun e => h.apart.2.2 (by cases e; rfl))).trans h.row, ?_, h.low, h.apart⟩
  exact heap_setCell_same W fb 0 _ 3 _ h.from_
/-- put, at a text. -/
theorem XSt.put {B tb lb fb k m : Nat} {v u : Value} {O L : List (List UInt8)} {W : World} (h : XSt B tb lb fb v O k W) (hrow : RowLow m W u L) (hm : m ≤ B) (hl : O.length + L.length ≤ 100000000) (hs : ∀ x ∈ L, x.length ≤ 281474976710656) :
    Calls Try.prog 38 #[.pointer (some ⟨tb, 0, none⟩), u] W fun e w' => e = .returned (.tuple #[]) ∧ XSt B tb lb fb v (O ++ L) k w' ∧ KeepX B tb fb W w' := by
  obtain ⟨tv, h1, h2⟩ := h.text
  refine (put_any B tb m 85 _ tv u O L W h1 rfl (by decide) h.low.1 h2 hrow hm hl hs).mono ?_
  rintro e w' ⟨rfl, tv', q1, q2, q3⟩
  exact ⟨rfl, ⟨⟨tv', q1, q2⟩, q3.2 _ _ _ _ h.row (by decide) (Ne.symm h.apart.2.1), q3.2 _ _ _ _ h.from_ (by decide) (Ne.symm h.apart.1), h.low, h.apart⟩, KeepX.of_b q3⟩

/-- What exchange does: it panics, if the hunk does not fit; else all is put. -/
def ExchPost (B tb lb fb k p : Nat) (v : Value) (L O L1 L2 : List (List UInt8)) (e : Ending) (w' : World) : Prop :=
  if L.length < p + L1.length then e = .panicked [{ v := .iface 28 (.int .i64 6), recovered := false }]
  else if (L.drop p).take L1.length = L1 then e = .returned (.tuple #[]) ∧ XSt B tb lb fb v (O ++ (Df.part L k p ++ L2)) (p + L1.length) w'
  else e = .panicked [{ v := .iface 28 (.int .i64 121), recovered := false }]

set_option maxRecDepth 100000 in
set_option maxHeartbeats 8000000 in
theorem exchange_one (B tb lb fb k p m : Nat) (v vo vn : Value) (L O L1 L2 : List (List UInt8)) (w : World) (hst : XSt B tb lb fb v O k w) (hrow : RowLow m w v L) (ho : RowLow m w vo L1) (hn : RowLow m w vn L2) (hm : m ≤ B) (hkp : k ≤ p) (hp : p ≤ 1099511627776) (sL : L.length ≤ 1000000) (sO : O.length ≤ 10000000) (s1 : L1.length ≤ 1000000) (s2 : L2.length ≤ 1000000) (tL : ∀ x ∈ L, x.length ≤ 281474976710656) (t2 : ∀ x ∈ L2, x.length ≤ 281474976710656) :
    Calls Try.prog 37 #[.pointer (some ⟨tb, 0, none⟩), .agg #[.int .i64 p, vo, vn]] w fun e w' => KeepX B tb fb w w' ∧ ExchPost B tb lb fb k p v L O L1 L2 e w' := by
  obtain ⟨a1, c1, b1, o1, rfl, -, -, -⟩ := ho.parts
  obtain ⟨a2, c2, b2, o2, rfl, -, -, -⟩ := hn.parts
  obtain ⟨X, hX⟩ : ∃ X, X = w.alloc (.cells #[.int .i64 p, .slice a1 L1.length c1, .slice a2 L2.length c2] 40) := ⟨_, rfl⟩
  have hBw : B ≤ w.heap.size := by
    obtain ⟨tv, h1, -⟩ := hst.text
    have := (Array.getElem?_eq_some_iff.1 h1).1
    have := hst.low.1
    omega
  have bX : Below w.heap.size w X := by rw [hX]; exact below_nw w _
  have hXh : X.heap[w.heap.size]? = some (.cells #[.int .i64 p, .slice a1 L1.length c1, .slice a2 L2.length c2] 40 (0, 0)) := by rw [hX]; exact World.alloc_heap_new w _
  have SX : Hid (_) := hst.below bX
  have hst0 : Hid (XSt B tb lb fb v O k w) := hst
  have RX : Hid (RowLow m X v L) := hrow.below bX (by omega)
  have R1 : Hid (RowLow m X (.slice a1 L1.length c1) L1) := ho.below bX (by omega)
  have R2 : Hid (RowLow m X (.slice a2 L2.length c2) L2) := hn.below bX (by omega)
  have KX : Hid (KeepX B tb fb w X) := KeepX.of_below bX hBw
  clear hst hrow ho hn
  have HC : Hid (∀ (W : World) (O : List (List UInt8)) (k : Nat), XSt B tb lb fb v O k W → KeepX B tb fb X W → W.cell? ⟨tb, 1, none⟩ = some (.func (.func 64) #[] #[.pointer (some ⟨lb, 0, none⟩), .pointer (some ⟨fb, 0, none⟩)]) ∧ W.cell? ⟨w.heap.size, 0, none⟩ = some (.int .i64 p) ∧ W.cell? ⟨w.heap.size, 1, none⟩ = some (.slice a1 L1.length c1) ∧ W.cell? ⟨w.heap.size, 2, none⟩ = some (.slice a2 L2.length c2)) := fun W O k h1 h2 => by
    obtain ⟨tv, q1, -⟩ := h1.text
    obtain ⟨tv0, q0, -⟩ := hst0.out.text
    have n1 := (Array.getElem?_eq_some_iff.1 q0).1
    have n2 := (Array.getElem?_eq_some_iff.1 hst0.out.from_).1
    have h := h2.2 _ _ _ _ hXh (by decide) (by omega) (by omega)
    refine ⟨?_, ?_, ?_, ?_⟩
    · rw [Lib.cell_of_heap q1]; rfl
    · rw [Lib.cell_of_heap h]; rfl
    · rw [Lib.cell_of_heap h]; rfl
    · rw [Lib.cell_of_heap h]; rfl
  have HU : Hid (∀ (W : World) (O : List (List UInt8)) (k : Nat), XSt B tb lb fb v O k W → W.cell? ⟨lb, 0, none⟩ = some v ∧ W.cell? ⟨fb, 0, none⟩ = some (.int .i64 k) ∧ W.frozen? ⟨fb, 0, none⟩ = false) := fun W O k h => by
    refine ⟨?_, ?_, frozen_of_row W fb 0 _ _ h.from_⟩
    · rw [Lib.cell_of_heap h.row]; rfl
    · rw [Lib.cell_of_heap h.from_]; rfl
  have HX0 : Hid (B ≤ X.heap.size) := Nat.le_trans hBw bX.size
  clear hXh bX
  obtain ⟨va, vc, vb, vd, rfl, -, -, -⟩ := RX.out.parts
  have hadd : IntKind.i64.wrap ((p : Int) + (L1.length : Int)) = (p : Int) + (L1.length : Int) := by rw [IntKind.wrap_i64]; omega
  refine (callsIn_wide (n := 3)).1 ?_
  refine callsIn_of_wp Try.func37 rfl trivial ?_ rfl
  simp only [Try.ntmps37, List.size_toArray, List.length_cons, List.length_nil, Nat.reduceAdd, Nat.reduceSub, Array.replicate_succ, Array.replicate_zero, List.push_toArray, List.append_toArray, List.nil_append, List.cons_append]
  gi_wp2
  rw [← hX]
  clear hX
  have SX1 : Hid (XSt B tb lb fb (.slice va L.length vc) O k (X.drewN 1)) := SX.out.below (below_drewN (Below.refl _ X) 1)
  have KX1 : Hid (KeepX B tb fb X (X.drewN 1)) := KeepX.of_below (below_drewN (Below.refl _ X) 1) HX0.out
  refine region_lex (fun w' => w'.cell? ⟨tb, 1, none⟩ = some (.func (.func 64) #[] #[.pointer (some ⟨lb, 0, none⟩), .pointer (some ⟨fb, 0, none⟩)]) ∧ w'.cell? ⟨w.heap.size, 0, none⟩ = some (.int .i64 p) ∧ w'.cell? ⟨w.heap.size, 1, none⟩ = some (.slice a1 L1.length c1) ∧ w'.cell? ⟨w.heap.size, 2, none⟩ = some (.slice a2 L2.length c2)) 9 2 rfl (by kernel_rfl) (by kernel_rfl) (by kernel_rfl) (by kernel_rfl) (fun _ _ d _ _ h => by cases d <;> exact h) (HC.out _ _ _ SX1.out KX1.out) ?_
  simp only [List.take_succ_cons, List.take_zero]
  iterate 9 (first
    | (apply lexC_want
       · rfl
       · exact fun _ => rfl
       · (intro w' hw'; obtain ⟨q0, q1, q2, q3⟩ := hw'; go_simp; try rfl)
       simp only [Act.put, List.setIfInBounds_toArray, List.set_cons_zero, List.set_cons_succ])
    | (apply lexC_skip
       · rfl
       · exact fun _ => rfl
       simp only [Act.put, List.setIfInBounds_toArray, List.set_cons_zero, List.set_cons_succ]))
  refine lexC_nil ?_
  refine anyC_one (i := 9) (by kernel_rfl) rfl (by rfl) (fun K1 hK1 => ?_)
  go_simp
  refine ⟨trivial, ?_⟩
  by_cases h1 : L.length < p
  · refine (callsIn_wide.2 (up_more lb fb va L.length vc p _ (HU.out _ _ _ SX1.out).1 (by omega))).mono ?_
    rintro e w1 ⟨rfl, rfl⟩
    refine ⟨rfl, KX.out.trans KX1.out, ?_⟩
    unfold ExchPost
    rw [if_pos (by omega)]
  · have RX1 : RowLow m (X.drewN 1) (.slice va L.length vc) L := RX.out
    refine (callsIn_wide.2 (up_some lb fb L _ k p m _ RX1 (HU.out _ _ _ SX1.out).1 (HU.out _ _ _ SX1.out).2.1 (HU.out _ _ _ SX1.out).2.2 hkp (by omega))).mono ?_
    rintro e w1 ⟨u1, rfl, ru1, hw1⟩
    have S1 : Hid (XSt B tb lb fb (.slice va L.length vc) O p w1) := by rw [hw1]; exact SX1.out.asked p
    have K1x : Hid (KeepX B tb fb X w1) := by rw [hw1]; exact KX1.out.trans (KeepX.of_set (W := X.drewN 1) SX.out.low.2 HX0.out 0 _)
    have RU1 : Hid (RowLow m w1 u1 (Df.part L k p)) := by
      have hb : Below B (X.drewN 1) w1 := by rw [hw1]; exact (KeepX.of_set (W := X.drewN 1) (tb := tb) (fb := fb) SX.out.low.2 HX0.out 0 _).1
      exact ru1.below hb hm
    refine hK1 _ _ (HC.out _ _ _ S1.out K1x.out) ?_
    clear hK1 ru1 hw1 RX1 SX1 KX1
    have hpl : Hid ((Df.part L k p).length = p - k) := Df.part_length L k p (by omega)
    have hps : ∀ x ∈ Df.part L k p, x.length ≤ 281474976710656 := fun x hx => tL x (List.mem_of_mem_drop (List.mem_of_mem_take hx))
    have PU : Hid (_) := S1.out.put RU1.out hm (by have := hpl.out; omega) hps
    obtain ⟨ua, uc, ub, ud, rfl, -, -, -⟩ := RU1.out.parts
    refine anyC_one (i := 10) (by kernel_rfl) rfl (by rfl) (fun K2 hK2 => ?_)
    go_simp
    refine ⟨trivial, ?_⟩
    refine (callsIn_wide.2 PU.out).mono ?_
    rintro e w2 ⟨rfl, st2, kx2⟩
    have S2 : Hid (XSt B tb lb fb (.slice va L.length vc) (O ++ Df.part L k p) p w2) := st2
    have K2x : Hid (KeepX B tb fb X w2) := K1x.out.trans kx2
    have hB2 : B ≤ w2.heap.size := Nat.le_trans HX0.out K2x.out.1.size
    refine hK2 _ _ (HC.out _ _ _ S2.out K2x.out) ?_
    clear hK2 st2 kx2 PU S1 K1x RU1 hps
    refine anyC_done (by kernel_rfl) ?_
    gi_wp2
    have S3 : Hid (XSt B tb lb fb (.slice va L.length vc) (O ++ Df.part L k p) p (w2.drewN 1)) := S2.out.below (below_drewN (Below.refl _ w2) 1)
    have K3x : Hid (KeepX B tb fb X (w2.drewN 1)) := K2x.out.trans (KeepX.of_below (below_drewN (Below.refl _ w2) 1) hB2)
    refine region_lex (fun w' => w'.cell? ⟨tb, 1, none⟩ = some (.func (.func 64) #[] #[.pointer (some ⟨lb, 0, none⟩), .pointer (some ⟨fb, 0, none⟩)]) ∧ w'.cell? ⟨w.heap.size, 0, none⟩ = some (.int .i64 p) ∧ w'.cell? ⟨w.heap.size, 1, none⟩ = some (.slice a1 L1.length c1) ∧ w'.cell? ⟨w.heap.size, 2, none⟩ = some (.slice a2 L2.length c2)) 10 5 rfl (by kernel_rfl) (by kernel_rfl) (by kernel_rfl) (by kernel_rfl) (fun _ _ d _ _ h => by cases d <;> exact h) (HC.out _ _ _ S3.out K3x.out) ?_
    simp only [List.take_succ_cons, List.take_zero]
    iterate 10 (first
      | (apply lexC_want
         · rfl
         · exact fun _ => rfl
         · (intro w' hw'; obtain ⟨q0, q1, q2, q3⟩ := hw'; go_simp; try rfl)
         simp only [Act.put, List.setIfInBounds_toArray, List.set_cons_zero, List.set_cons_succ])
      | (apply lexC_skip
         · rfl
         · exact fun _ => rfl
         simp only [Act.put, List.setIfInBounds_toArray, List.set_cons_zero, List.set_cons_succ]))
    refine lexC_nil ?_
    refine anyC_take (i := 11) (v := .pointer (some ⟨w.heap.size, 1, none⟩)) rfl rfl (by kernel_rfl) (by kernel_rfl) (by kernel_rfl) (fun _ _ d _ _ h => by cases d <;> exact h) (HC.out _ _ _ S3.out K3x.out) (by rfl) (fun _ => rfl) (by intro w' _; go_simp; try rfl) ?_
    refine anyC_take (i := 12) (v := .slice a1 L1.length c1) rfl rfl (by kernel_rfl) (by kernel_rfl) (by kernel_rfl) (fun _ _ d _ _ h => by cases d <;> exact h) (HC.out _ _ _ S3.out K3x.out) (by rfl) (fun _ => rfl) (by intro w' hw'; obtain ⟨q0, q1, q2, q3⟩ := hw'; go_simp; try rfl) ?_
    refine anyC_one (i := 10) (by kernel_rfl) rfl (by rfl) (fun K1 hK1 => ?_)
    go_simp
    refine ⟨trivial, ?_⟩
    have R3 : RowLow m (w2.drewN 1) (.slice va L.length vc) L := RX.out.below K3x.out.1 hm
    by_cases h2 : L.length < p + L1.length
    · have UP := up_more lb fb va L.length vc ((p : Int) + (L1.length : Int)) (w2.drewN 1) (HU.out _ _ _ S3.out).1 (by omega)
      refine (callsIn_wide.2 UP).mono ?_
      rintro e w3 ⟨rfl, rfl⟩
      refine ⟨rfl, KX.out.trans K3x.out, ?_⟩
      unfold ExchPost
      rw [if_pos h2]
    · have UP := up_some lb fb L _ p (p + L1.length) m (w2.drewN 1) R3 (HU.out _ _ _ S3.out).1 (HU.out _ _ _ S3.out).2.1 (HU.out _ _ _ S3.out).2.2 (by omega) (by omega)
      rw [Int.natCast_add] at UP
      refine (callsIn_wide.2 UP).mono ?_
      rintro e w3 ⟨u3, rfl, ru3, hw3⟩
      have hw3' : w3 = (w2.drewN 1).setCell ⟨fb, 0, none⟩ (.int .i64 ((p + L1.length : Nat) : Int)) := by rw [hw3, Int.natCast_add]
      have S4 : Hid (XSt B tb lb fb (.slice va L.length vc) (O ++ Df.part L k p) (p + L1.length) w3) := by rw [hw3']; exact S3.out.asked _
      have K4x : Hid (KeepX B tb fb X w3) := by rw [hw3']; exact K3x.out.trans (KeepX.of_set (W := w2.drewN 1) SX.out.low.2 hB2 0 _)
      have hb3 : Below B (w2.drewN 1) w3 := by rw [hw3']; exact (KeepX.of_set (W := w2.drewN 1) (tb := tb) (fb := fb) SX.out.low.2 hB2 0 _).1
      have RU3 : RowLow m w3 u3 (Df.part L p (p + L1.length)) := ru3.below hb3 hm
      have RO3 : RowLow m w3 (.slice a1 L1.length c1) L1 := R1.out.below K4x.out.1 hm
      have hpart : Df.part L p (p + L1.length) = (L.drop p).take L1.length := by unfold Df.part; rw [Nat.add_sub_cancel_left]
      rw [hpart] at RU3
      have hpl3 : ((L.drop p).take L1.length).length ≤ 9223372036854775807 := by rw [List.length_take]; omega
      have EQ0 := equal_any w3 u3 (.slice a1 L1.length c1) _ L1 m m RU3 RO3 hpl3 (by omega)
      obtain ⟨bq, hbq⟩ : ∃ bq, bq = decide ((L.drop p).take L1.length = L1) := ⟨_, rfl⟩
      rw [← hbq] at EQ0
      have HBQ : Hid (bq = decide ((L.drop p).take L1.length = L1)) := hbq
      have EQ : Hid (_) := EQ0
      clear EQ0 hbq
      refine hK1 _ _ (HC.out _ _ _ S4.out K4x.out) ?_
      clear hK1 ru3 hw3 hw3' hb3 RO3 RU3 hpart UP hpl3 S3 K3x R3 S2 K2x
      refine anyC_one (i := 13) (by kernel_rfl) rfl (by rfl) (fun K2 hK2 => ?_)
      go_simp
      refine ⟨trivial, ?_⟩
      refine (callsIn_wide.2 EQ.out).mono ?_
      rintro e w4 ⟨rfl, d4, hw4⟩
      have b4 : Below w3.heap.size w3 w4 := by rw [hw4]; exact below_drewN (Below.refl _ w3) d4
      have hB3 : B ≤ w3.heap.size := Nat.le_trans HX0.out K4x.out.1.size
      have S5 : Hid (XSt B tb lb fb (.slice va L.length vc) (O ++ Df.part L k p) (p + L1.length) w4) := S4.out.below b4
      have K5x : Hid (KeepX B tb fb X w4) := K4x.out.trans (KeepX.of_below b4 hB3)
      refine hK2 _ _ (HC.out _ _ _ S5.out K5x.out) ?_
      have hB4 : B ≤ w4.heap.size := Nat.le_trans hB3 b4.size
      clear hK2 hw4 b4 EQ S4 K4x hB3
      refine anyC_one (i := 14) (by kernel_rfl) rfl (by rfl) (fun K3 hK3 => ?_)
      go_simp
      refine hK3 _ _ (HC.out _ _ _ S5.out K5x.out) ?_
      clear hK3
      refine anyC_done (by kernel_rfl) ?_
      cases bq with
      | true =>
        have HH3 : Hid ((L.drop p).take L1.length = L1) := by
          show (L.drop p).take L1.length = L1
          exact of_decide_eq_true HBQ.out.symm
        clear HBQ
        gi_wp2
        have S6 : Hid (XSt B tb lb fb (.slice va L.length vc) (O ++ Df.part L k p) (p + L1.length) (w4.drewN 1)) := S5.out.below (below_drewN (Below.refl _ w4) 1)
        have K6x : Hid (KeepX B tb fb X (w4.drewN 1)) := K5x.out.trans (KeepX.of_below (below_drewN (Below.refl _ w4) 1) hB4)
        refine region_lex (fun w' => w'.cell? ⟨tb, 1, none⟩ = some (.func (.func 64) #[] #[.pointer (some ⟨lb, 0, none⟩), .pointer (some ⟨fb, 0, none⟩)]) ∧ w'.cell? ⟨w.heap.size, 0, none⟩ = some (.int .i64 p) ∧ w'.cell? ⟨w.heap.size, 1, none⟩ = some (.slice a1 L1.length c1) ∧ w'.cell? ⟨w.heap.size, 2, none⟩ = some (.slice a2 L2.length c2)) 5 1 rfl (by kernel_rfl) (by kernel_rfl) (by kernel_rfl) (by kernel_rfl) (fun _ _ d _ _ h => by cases d <;> exact h) (HC.out _ _ _ S6.out K6x.out) ?_
        simp only [List.take_succ_cons, List.take_zero]
        iterate 5 (first
          | (apply lexC_want
             · rfl
             · exact fun _ => rfl
             · (intro w' hw'; obtain ⟨q0, q1, q2, q3⟩ := hw'; go_simp; try rfl)
             simp only [Act.put, List.setIfInBounds_toArray, List.set_cons_zero, List.set_cons_succ])
          | (apply lexC_skip
             · rfl
             · exact fun _ => rfl
             simp only [Act.put, List.setIfInBounds_toArray, List.set_cons_zero, List.set_cons_succ]))
        refine lexC_nil ?_
        have PU : Hid (_) := S6.out.put (R2.out.below K6x.out.1 hm) hm (by rw [List.length_append]; have := hpl.out; omega) t2
        refine anyC_one (i := 5) (by kernel_rfl) rfl (by rfl) (fun K4 hK4 => ?_)
        go_simp
        refine ⟨trivial, ?_⟩
        refine (callsIn_wide.2 PU.out).mono ?_
        rintro e w5 ⟨rfl, st5, kx5⟩
        have K7x : Hid (KeepX B tb fb X w5) := K6x.out.trans kx5
        refine hK4 _ _ (HC.out _ _ _ st5 K7x.out) ?_
        clear hK4
        refine anyC_done (by kernel_rfl) ?_
        go_end0
        refine ⟨KX.out.trans K7x.out, ?_⟩
        unfold ExchPost
        rw [if_neg h2, if_pos HH3.out]
        rw [List.append_assoc] at st5
        exact ⟨rfl, st5⟩
      | false =>
        have HH3 : Hid (¬ (L.drop p).take L1.length = L1) := by
          show ¬ (L.drop p).take L1.length = L1
          exact of_decide_eq_false HBQ.out.symm
        clear HBQ
        gi_wp2
        refine ⟨rfl, KX.out.trans K5x.out, ?_⟩
        unfold ExchPost
        rw [if_neg h2, if_neg HH3.out]

end Go.Proofs.Ytkiafelpgcmifaa

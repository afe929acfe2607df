/-
  The walk of the law's own function of (chapter 4): a hunk of lines of one byte each.
-/
import Derived.Test.YtflnakjffgobmaaShGreat
namespace Go.Proofs.Ytflnakjffgobmaa
open Go.RowKit Go.Shelf

attribute [local go_sem] Oper.semAt_some

/-- Lines of one byte each. -/
def ones (l : List UInt8) : List (List UInt8) := l.map fun c => [c, 10]
theorem ones_succ (l : List UInt8) (k : Nat) (c : UInt8) (h : l[k]? = some c) : (ones (l.take (k + 1))).map txtV = (ones (l.take k)).map txtV ++ [.string (Ln.bs [c, 10])] := by
  rw [List.take_add_one, h]; simp [ones, txtV]
theorem ones_take_len (l : List UInt8) (k : Nat) (h : k ≤ l.length) : ((ones (l.take k)).map txtV).length = k := by
  simp [ones]; omega
/-- The variable of the hunk so far. -/
def OfBox (w0 w : World) (B2 : Nat) (b : Nat) (p : Int) (vo vn : Value) (l t : List UInt8) (k j : Nat) : Prop :=
  w.heap[b]? = some (.cells #[.int .i64 p, vo, vn] 41 (0, 0)) ∧ w.ownsRow w0.heap.size 9 1 vo k ((ones (l.take k)).map txtV) ∧ w.ownsRow B2 9 1 vn j ((ones (t.take j)).map txtV) ∧ Below w0.heap.size w0 w ∧ w0.heap.size ≤ b
set_option maxRecDepth 100000 in
theorem slice_one (l : List UInt8) (k : Nat) (c : UInt8) (h : l[k]? = some c) (w : World) : (Instr.slice 9 (.string (Ln.bs l)) (some (.int .i64 k)) (some (.int .i64 ((k : Int) + 1))) none).run Try.prog w = .ok (.string (Ln.bs [c])) w := by
  have hk : k < l.length := (List.getElem?_eq_some_iff.1 h).1
  have q := run_slice_string (P := Try.prog) w 9 (Ln.bs l) .i64 .i64 (k : Int) ((k : Int) + 1) Try.underlying9 (by omega) (by omega) (by rw [Ln.bs_size]; omega)
  rw [q]
  congr 2
  have e : ((k : Int) + 1).toNat = k + 1 := by omega
  rw [Int.toNat_natCast, e]
  apply ByteArray.ext
  rw [ByteArray.data_extract]
  show ((l.toArray).extract k (k + 1)) = _
  apply Array.ext'
  rw [Array.toList_extract]
  simp only [List.extract_eq_take_drop, Nat.add_sub_cancel_left]
  show (l.drop k).take 1 = [c]
  rw [List.drop_eq_getElem_cons hk, (List.getElem?_eq_some_iff.1 h).2]
  rfl

set_option maxRecDepth 100000 in
set_option maxHeartbeats 8000000 in
theorem of_any (p : Int) (l t : List UInt8) (w : World) (hl : l.length ≤ 1000) (ht : t.length ≤ 1000) :
    Calls Try.prog 49 #[.int .i64 p, .string (Ln.bs l), .string (Ln.bs t)] w fun e w' => ∃ x : HA, e = .returned x.val ∧ x.h = ⟨p, ones l, ones t⟩ ∧ x.Low w'.heap.size w' ∧ Below w.heap.size w w' := by
  obtain ⟨i0, hi, hz0, hz1, hz2⟩ := info_parts info9
  have hsz1 : (Ln.bs l).size = l.length := rfl
  have hsz2 : (Ln.bs t).size = t.length := rfl
  have hs1 : (Ln.bs l).size ≤ 1000 := hl
  have hs2 : (Ln.bs t).size ≤ 1000 := ht
  obtain ⟨X, hX⟩ : ∃ X, X = (w.alloc (.cells #[.int .i64 0, .slice none 0 0, .slice none 0 0] 41)).alloc (.cells #[.int .i64 p, .slice none 0 0, .slice none 0 0] 41) := ⟨_, rfl⟩
  have bX : Below w.heap.size w X := by rw [hX]; exact below_then (below_nw w _) (below_nw _ _)
  have x0 : HBox X w.heap.size zeroHA := by rw [hX]; exact (HBox.new w zeroHA).below (below_nw _ _)
  have x1 : X.heap[w.heap.size + 1]? = some (.cells #[.int .i64 p, .slice none 0 0, .slice none 0 0] 41 (0, 0)) := by
    have h := World.alloc_heap_new (w.alloc (.cells #[.int .i64 0, .slice none 0 0, .slice none 0 0] 41)) (.cells #[.int .i64 p, .slice none 0 0, .slice none 0 0] 41)
    rw [World.size_alloc] at h
    rw [hX]; exact h
  have ST : Hid (OfBox w X 0 (w.heap.size + 1) p (.slice none 0 0) (.slice none 0 0) l t 0 0 ∧ HBox X w.heap.size zeroHA) := ⟨⟨x1, World.ownsRow_nil _ _ _ _, World.ownsRow_nil _ _ _ _, bX, by omega⟩, x0⟩
  clear x0 x1 bX
  refine (callsIn_wide (n := 3)).1 ?_
  refine callsIn_of_wp Try.func49 rfl trivial ?_ rfl
  simp only [Try.ntmps49, List.size_toArray, List.length_cons, List.length_nil, Nat.reduceAdd, Nat.reduceSub, Array.replicate_succ, Array.replicate_zero, List.push_toArray, List.append_toArray, List.nil_append, List.cons_append]
  gi_wp2
  rw [← hX]
  clear hX
  gi_loopw [8] (fun i wr => ∃ (k : Nat) (vo : Value), k ≤ l.length ∧ i = .int .i64 k ∧ OfBox w wr 0 (w.heap.size + 1) p vo (.slice none 0 0) l t k 0 ∧ HBox wr w.heap.size zeroHA) (fun i _ => l.length - (intOf i).toNat)
  case atStart => exact ⟨0, _, Nat.zero_le _, rfl, ST.out.1, ST.out.2⟩
  case round =>
    clear ST
    obtain ⟨k, vo, hk, rfl, hof, hz⟩ := hrel
    obtain ⟨ao1, cp1, rfl⟩ := slice_shape hof.2.1
    have HZ : Hid (HBox wr w.heap.size zeroHA) := hz
    by_cases hlt : k < l.length
    · obtain ⟨c, hc⟩ : ∃ c, l[k]? = some c := ⟨l[k], List.getElem?_eq_getElem hlt⟩
      have d1 : decide ((k : Int) < (l.length : Int)) = true := by simp; omega
      have d2 : decide (k < l.length) = true := by simp; omega
      have hsl := slice_one l k c hc
      have hwi : IntKind.i64.wrap ((k : Int) + 1) = (k : Int) + 1 := by rw [IntKind.wrap_i64]; omega
      have hnx := ones_succ l k c hc
      obtain ⟨q0, q1, q2, q3, q4⟩ := hof
      have bA : Below wr.heap.size wr (wr.drew.alloc (.cells #[.string (Ln.bs [c, 10])] 9)) := (below_drewN (Below.refl _ wr) 1).alloc (by simp [World.drewN]) _
      obtain ⟨v', W', hrun, hown, hgr, -⟩ := run_append_own (P := Try.prog) (wr.drew.alloc (.cells #[.string (Ln.bs [c, 10])] 9)) w.heap.size 22 22 9 i0 (.string ⟨#[]⟩) 1 16 Try.underlying22 hi hz0 hz1 hz2 rfl (by decide) (.slice ao1 k cp1) _ _ (owns_below q1 bA) ⟨wr.heap.size, 0, none⟩ 1 1 [.string (Ln.bs [c, 10])] rfl (cell_one_new wr.drew _ _) (by simp [Value.oneCell']) (by unfold maxLen; omega) (by omega) (by have := q3.size; simp; omega)
      obtain ⟨gv, cv, rfl⟩ := ownsRow_succ hown
      have hh1 := heap_grown (owns_below q1 bA) hgr ((bA.block _ (Array.getElem?_eq_some_iff.1 q0).1).trans q0) (by decide)
      have cB : wr.cell? ⟨w.heap.size + 1, 1, none⟩ = some (.slice ao1 k cp1) := by rw [Lib.cell_of_heap q0]; rfl
      have cB2 : W'.cell? ⟨w.heap.size + 1, 1, none⟩ = some (.slice ao1 k cp1) := by rw [Lib.cell_of_heap hh1]; rfl
      have fB2 : W'.frozen? ⟨w.heap.size + 1, 1, none⟩ = false := frozen_of_row W' _ _ _ _ hh1
      have cB3 : (wr.drew.alloc (.cells #[.string (Ln.bs [c, 10])] 9)).cell? ⟨w.heap.size + 1, 1, none⟩ = some (.slice ao1 k cp1) := (bA.cell (p := ⟨w.heap.size + 1, 1, none⟩) (Array.getElem?_eq_some_iff.1 q0).1).trans cB
      have cB4 : (wr.alloc (.cells #[.string (Ln.bs [c, 10])] 9)).cell? ⟨w.heap.size + 1, 1, none⟩ = some (.slice ao1 k cp1) := cB3
      have HFIN : Hid (OfBox w (W'.setCell ⟨w.heap.size + 1, 1, none⟩ (.slice (some ⟨gv, 0, none⟩) (k + 1) cv)) 0 (w.heap.size + 1) p (.slice (some ⟨gv, 0, none⟩) (k + 1) cv) (.slice none 0 0) l t (k + 1) 0 ∧ HBox (W'.setCell ⟨w.heap.size + 1, 1, none⟩ (.slice (some ⟨gv, 0, none⟩) (k + 1) cv)) w.heap.size zeroHA) := by
        have hZ := HBox.below HZ.out bA
        have hZ2 : HBox W' w.heap.size zeroHA := heap_grown (owns_below q1 bA) hgr hZ (by decide)
        refine ⟨⟨heap_setCell_same W' _ _ _ 41 _ hh1, ?_, ?_, ?_, q4⟩, ?_⟩
        · rw [hnx]; exact owns_set hown hh1 (by decide) _ _
        · exact World.ownsRow_nil _ _ _ _
        · have b1 : Below w.heap.size w W' := (below_then q3 bA).grown hgr (by have := (below_then q3 bA).size; omega) (fun q hq => by have := ((owns_below q1 bA).lt q hq).1; omega)
          exact below_grown b1 (grown_set W' _ _ _) (by omega) b1.size
        · exact hZ2.grown (grown_set W' (w.heap.size + 1) _ _) (by omega)
      clear hown hgr hh1 q0 q1 q2 q3 hz hnx bA
      gi_wp2
      refine region_lex (fun _ => True) 1 11 rfl (by kernel_rfl) (by kernel_rfl) (by kernel_rfl) (by kernel_rfl) (fun _ _ d _ _ h => by cases d <;> exact h) trivial ?_
      simp only [List.take_succ_cons, List.take_zero]
      apply lexC_want
      · rfl
      · exact fun _ => rfl
      · intro w' hw'; go_simp; try rfl
      simp only [Act.put, List.setIfInBounds_toArray, List.set_cons_zero, List.set_cons_succ]
      refine lexC_nil ?_
      refine anyC_take (i := 2) (v := .string (Ln.bs l)) rfl rfl (by kernel_rfl) (by kernel_rfl) (by kernel_rfl) (fun _ _ d _ _ h => by cases d <;> exact h) trivial (by rfl) (fun _ => rfl) (by intro w' _; go_simp; try rfl) ?_
      refine anyC_take (i := 3) (v := .int .i64 k) rfl rfl (by kernel_rfl) (by kernel_rfl) (by kernel_rfl) (fun _ _ d _ _ h => by cases d <;> exact h) trivial (by rfl) (fun _ => rfl) (by intro w' _; go_simp; try rfl) ?_
      refine anyC_take (i := 4) (v := .int .i64 k) rfl rfl (by kernel_rfl) (by kernel_rfl) (by kernel_rfl) (fun _ _ d _ _ h => by cases d <;> exact h) trivial (by rfl) (fun _ => rfl) (by intro w' _; go_simp; try rfl) ?_
      refine anyC_take (i := 5) (v := .int .i64 ((k : Int) + 1)) rfl rfl (by kernel_rfl) (by kernel_rfl) (by kernel_rfl) (fun _ _ d _ _ h => by cases d <;> exact h) trivial (by rfl) (fun _ => rfl) (by intro w' _; go_simp; try rfl) ?_
      refine anyC_take (i := 6) (v := .string (Ln.bs [c])) rfl rfl (by kernel_rfl) (by kernel_rfl) (by kernel_rfl) (fun _ _ d _ _ h => by cases d <;> exact h) trivial (by rfl) (fun _ => rfl) (by intro w' _; go_simp; try rfl) ?_
      refine anyC_take (i := 7) (v := .string (Ln.bs [c, 10])) rfl rfl (by kernel_rfl) (by kernel_rfl) (by kernel_rfl) (fun _ _ d _ _ h => by cases d <;> exact h) trivial (by rfl) (fun _ => rfl) (by intro w' _; go_simp; try rfl) ?_
      refine anyC_two (i := 1) (j := 8) (by kernel_rfl) rfl rfl (by rfl) (by rfl) (fun K1 hK1 => ?_) (fun K1 hK1 => ?_)
      · go_simp
        refine hK1 _ _ trivial ?_
        clear hK1
        refine anyC_one (i := 8) (by kernel_rfl) rfl (by rfl) (fun K2 hK2 => ?_)
        go_simp
        refine hK2 _ _ trivial ?_
        clear hK2
        refine anyC_one (i := 9) (by kernel_rfl) rfl (by rfl) (fun K4 hK4 => ?_)
        refine op_append _ _ 22 rfl _ _ _ _ rfl rfl hrun (hK4 _ _ trivial ?_)
        clear hK4
        refine anyC_one (i := 10) (by kernel_rfl) rfl (by rfl) (fun K5 hK5 => ?_)
        go_simp
        refine hK5 _ _ trivial ?_
        clear hK5
        refine anyC_one (i := 11) (by kernel_rfl) rfl (by rfl) (fun K6 hK6 => ?_)
        go_simp
        refine hK6 _ _ trivial ?_
        clear hK6
        refine anyC_done (by kernel_rfl) ?_
        gi_wp2
        go_roundw
        case rel => exact ⟨k + 1, _, by omega, by go_num, HFIN.out.1, HFIN.out.2⟩
        case measure => simp [intOf]; omega
      · go_simp
        refine hK1 _ _ trivial ?_
        clear hK1
        refine anyC_one (i := 1) (by kernel_rfl) rfl (by rfl) (fun K2 hK2 => ?_)
        go_simp
        refine hK2 _ _ trivial ?_
        clear hK2
        refine anyC_one (i := 9) (by kernel_rfl) rfl (by rfl) (fun K4 hK4 => ?_)
        refine op_append _ _ 22 rfl _ _ _ _ rfl rfl hrun (hK4 _ _ trivial ?_)
        clear hK4
        refine anyC_one (i := 10) (by kernel_rfl) rfl (by rfl) (fun K5 hK5 => ?_)
        go_simp
        refine hK5 _ _ trivial ?_
        clear hK5
        refine anyC_one (i := 11) (by kernel_rfl) rfl (by rfl) (fun K6 hK6 => ?_)
        go_simp
        refine hK6 _ _ trivial ?_
        clear hK6
        refine anyC_done (by kernel_rfl) ?_
        gi_wp2
        go_roundw
        case rel => exact ⟨k + 1, _, by omega, by go_num, HFIN.out.1, HFIN.out.2⟩
        case measure => simp [intOf]; omega
    · have hkl : k = l.length := by omega
      have HOF : Hid (OfBox w wr wr.heap.size (w.heap.size + 1) p (.slice ao1 k cp1) (.slice none 0 0) l t k 0) := ⟨hof.1, hof.2.1, World.ownsRow_nil _ _ _ _, hof.2.2.2⟩
      obtain ⟨B2, hB2⟩ : ∃ B2, B2 = wr.heap.size := ⟨_, rfl⟩
      have LB2 : Hid (∀ b, (Value.slice ao1 k cp1).ownBlock = some b → b < B2) := fun b hb => by rw [hB2]; exact (hof.2.1.lt b hb).2
      rw [← hB2] at HOF
      have HB2 : Hid (B2 = wr.heap.size) := hB2
      have LE2 : Hid (w.heap.size ≤ B2) := by rw [Hid, hB2]; exact hof.2.2.2.1.size
      clear hB2
      have d1 : decide ((k : Int) < (l.length : Int)) = false := by simp; omega
      have d2 : decide (k < l.length) = false := by simp; omega
      have HKL : Hid (k = l.length) := hkl
      clear hof hz hkl hlt
      gi_wp2
      gi_loopw [9] (fun i wr => ∃ (j : Nat) (vn : Value), j ≤ t.length ∧ i = .int .i64 j ∧ OfBox w wr B2 (w.heap.size + 1) p (.slice ao1 k cp1) vn l t k j ∧ B2 ≤ wr.heap.size ∧ HBox wr w.heap.size zeroHA) (fun i _ => t.length - (intOf i).toNat)
      case atStart => exact ⟨0, _, Nat.zero_le _, rfl, HOF.out, by rw [HB2.out]; exact Nat.le_refl _, HZ.out⟩
      case round =>
        clear HOF HZ d1 d2 HB2
        obtain ⟨j, vn, hj, rfl, hof, hle2, hz⟩ := hrel
        obtain ⟨ao2, cp2, rfl⟩ := slice_shape hof.2.2.1
        have HZ : Hid (HBox wr w.heap.size zeroHA) := hz
        by_cases hlt : j < t.length
        · obtain ⟨c, hc⟩ : ∃ c, t[j]? = some c := ⟨t[j], List.getElem?_eq_getElem hlt⟩
          have d1 : decide ((j : Int) < (t.length : Int)) = true := by simp; omega
          have d2 : decide (j < t.length) = true := by simp; omega
          have hsl := slice_one t j c hc
          have hwi : IntKind.i64.wrap ((j : Int) + 1) = (j : Int) + 1 := by rw [IntKind.wrap_i64]; omega
          have hnx := ones_succ t j c hc
          obtain ⟨q0, q1, q2, q3, q4⟩ := hof
          have bA : Below wr.heap.size wr (wr.drew.alloc (.cells #[.string (Ln.bs [c, 10])] 9)) := (below_drewN (Below.refl _ wr) 1).alloc (by simp [World.drewN]) _
          obtain ⟨v', W', hrun, hown, hgr, -⟩ := run_append_own (P := Try.prog) (wr.drew.alloc (.cells #[.string (Ln.bs [c, 10])] 9)) B2 22 22 9 i0 (.string ⟨#[]⟩) 1 16 Try.underlying22 hi hz0 hz1 hz2 rfl (by decide) (.slice ao2 j cp2) _ _ (owns_below q2 bA) ⟨wr.heap.size, 0, none⟩ 1 1 [.string (Ln.bs [c, 10])] rfl (cell_one_new wr.drew _ _) (by simp [Value.oneCell']) (by unfold maxLen; omega) (by omega) (by have := q3.size; have := LE2.out; simp; omega)
          obtain ⟨gv, cv, rfl⟩ := ownsRow_succ hown
          have hh1 := heap_grown (owns_below q2 bA) hgr ((bA.block _ (Array.getElem?_eq_some_iff.1 q0).1).trans q0) (by decide)
          have cB : wr.cell? ⟨w.heap.size + 1, 2, none⟩ = some (.slice ao2 j cp2) := by rw [Lib.cell_of_heap q0]; rfl
          have cB2 : W'.cell? ⟨w.heap.size + 1, 2, none⟩ = some (.slice ao2 j cp2) := by rw [Lib.cell_of_heap hh1]; rfl
          have fB2 : W'.frozen? ⟨w.heap.size + 1, 2, none⟩ = false := frozen_of_row W' _ _ _ _ hh1
          have cB3 : (wr.drew.alloc (.cells #[.string (Ln.bs [c, 10])] 9)).cell? ⟨w.heap.size + 1, 2, none⟩ = some (.slice ao2 j cp2) := (bA.cell (p := ⟨w.heap.size + 1, 2, none⟩) (Array.getElem?_eq_some_iff.1 q0).1).trans cB
          have cB4 : (wr.alloc (.cells #[.string (Ln.bs [c, 10])] 9)).cell? ⟨w.heap.size + 1, 2, none⟩ = some (.slice ao2 j cp2) := cB3
          have HFIN : Hid (OfBox w (W'.setCell ⟨w.heap.size + 1, 2, none⟩ (.slice (some ⟨gv, 0, none⟩) (j + 1) cv)) B2 (w.heap.size + 1) p (.slice ao1 k cp1) (.slice (some ⟨gv, 0, none⟩) (j + 1) cv) l t k (j + 1) ∧ B2 ≤ (W'.setCell ⟨w.heap.size + 1, 2, none⟩ (.slice (some ⟨gv, 0, none⟩) (j + 1) cv)).heap.size ∧ HBox (W'.setCell ⟨w.heap.size + 1, 2, none⟩ (.slice (some ⟨gv, 0, none⟩) (j + 1) cv)) w.heap.size zeroHA) := by
            have hZ := HBox.below HZ.out bA
            have hZ2 : HBox W' w.heap.size zeroHA := heap_grown (owns_below q2 bA) hgr hZ (by decide)
            refine ⟨⟨heap_setCell_same W' _ _ _ 41 _ hh1, ?_, ?_, ?_, q4⟩, ?_, ?_⟩
            · refine owns_set ((owns_below q1 bA).kept hgr ?_) hh1 (by decide) _ _
              cases hb : Value.ownBlock (.slice ao1 k cp1) with
              | none => exact .inl rfl
              | some b => exact .inr (fun e => by have h1 := LB2.out b hb; have h2 := (q2.lt b e.symm).1; omega)
            · rw [hnx]; exact owns_set hown hh1 (by decide) _ _
            · have b1 : Below w.heap.size w W' := (below_then q3 bA).grown hgr (by have := (below_then q3 bA).size; omega) (fun q hq => by have := ((owns_below q2 bA).lt q hq).1; have := LE2.out; omega)
              exact below_grown b1 (grown_set W' _ _ _) (by omega) b1.size
            · have h1 := hgr.size; have h2 := bA.size; have h3 := (grown_set W' (w.heap.size + 1) 2 (.slice (some ⟨gv, 0, none⟩) (j + 1) cv)).size; omega
            · exact hZ2.grown (grown_set W' (w.heap.size + 1) _ _) (by omega)
          clear hown hgr hh1 q0 q1 q2 q3 hz hnx bA
          gi_wp2
          refine region_lex (fun _ => True) 1 11 rfl (by kernel_rfl) (by kernel_rfl) (by kernel_rfl) (by kernel_rfl) (fun _ _ d _ _ h => by cases d <;> exact h) trivial ?_
          simp only [List.take_succ_cons, List.take_zero]
          apply lexC_want
          · rfl
          · exact fun _ => rfl
          · intro w' hw'; go_simp; try rfl
          simp only [Act.put, List.setIfInBounds_toArray, List.set_cons_zero, List.set_cons_succ]
          refine lexC_nil ?_
          refine anyC_take (i := 2) (v := .string (Ln.bs t)) rfl rfl (by kernel_rfl) (by kernel_rfl) (by kernel_rfl) (fun _ _ d _ _ h => by cases d <;> exact h) trivial (by rfl) (fun _ => rfl) (by intro w' _; go_simp; try rfl) ?_
          refine anyC_take (i := 3) (v := .int .i64 j) rfl rfl (by kernel_rfl) (by kernel_rfl) (by kernel_rfl) (fun _ _ d _ _ h => by cases d <;> exact h) trivial (by rfl) (fun _ => rfl) (by intro w' _; go_simp; try rfl) ?_
          refine anyC_take (i := 4) (v := .int .i64 j) rfl rfl (by kernel_rfl) (by kernel_rfl) (by kernel_rfl) (fun _ _ d _ _ h => by cases d <;> exact h) trivial (by rfl) (fun _ => rfl) (by intro w' _; go_simp; try rfl) ?_
          refine anyC_take (i := 5) (v := .int .i64 ((j : Int) + 1)) rfl rfl (by kernel_rfl) (by kernel_rfl) (by kernel_rfl) (fun _ _ d _ _ h => by cases d <;> exact h) trivial (by rfl) (fun _ => rfl) (by intro w' _; go_simp; try rfl) ?_
          refine anyC_take (i := 6) (v := .string (Ln.bs [c])) rfl rfl (by kernel_rfl) (by kernel_rfl) (by kernel_rfl) (fun _ _ d _ _ h => by cases d <;> exact h) trivial (by rfl) (fun _ => rfl) (by intro w' _; go_simp; try rfl) ?_
          refine anyC_take (i := 7) (v := .string (Ln.bs [c, 10])) rfl rfl (by kernel_rfl) (by kernel_rfl) (by kernel_rfl) (fun _ _ d _ _ h => by cases d <;> exact h) trivial (by rfl) (fun _ => rfl) (by intro w' _; go_simp; try rfl) ?_
          refine anyC_two (i := 1) (j := 8) (by kernel_rfl) rfl rfl (by rfl) (by rfl) (fun K1 hK1 => ?_) (fun K1 hK1 => ?_)
          · go_simp
            refine hK1 _ _ trivial ?_
            clear hK1
            refine anyC_one (i := 8) (by kernel_rfl) rfl (by rfl) (fun K2 hK2 => ?_)
            go_simp
            refine hK2 _ _ trivial ?_
            clear hK2
            refine anyC_one (i := 9) (by kernel_rfl) rfl (by rfl) (fun K4 hK4 => ?_)
            refine op_append _ _ 22 rfl _ _ _ _ rfl rfl hrun (hK4 _ _ trivial ?_)
            clear hK4
            refine anyC_one (i := 10) (by kernel_rfl) rfl (by rfl) (fun K5 hK5 => ?_)
            go_simp
            refine hK5 _ _ trivial ?_
            clear hK5
            refine anyC_one (i := 11) (by kernel_rfl) rfl (by rfl) (fun K6 hK6 => ?_)
            go_simp
            refine hK6 _ _ trivial ?_
            clear hK6
            refine anyC_done (by kernel_rfl) ?_
            gi_wp2
            go_roundw
            case rel => exact ⟨j + 1, _, by omega, by go_num, HFIN.out.1, HFIN.out.2.1, HFIN.out.2.2⟩
            case measure => simp [intOf]; omega
          · go_simp
            refine hK1 _ _ trivial ?_
            clear hK1
            refine anyC_one (i := 1) (by kernel_rfl) rfl (by rfl) (fun K2 hK2 => ?_)
            go_simp
            refine hK2 _ _ trivial ?_
            clear hK2
            refine anyC_one (i := 9) (by kernel_rfl) rfl (by rfl) (fun K4 hK4 => ?_)
            refine op_append _ _ 22 rfl _ _ _ _ rfl rfl hrun (hK4 _ _ trivial ?_)
            clear hK4
            refine anyC_one (i := 10) (by kernel_rfl) rfl (by rfl) (fun K5 hK5 => ?_)
            go_simp
            refine hK5 _ _ trivial ?_
            clear hK5
            refine anyC_one (i := 11) (by kernel_rfl) rfl (by rfl) (fun K6 hK6 => ?_)
            go_simp
            refine hK6 _ _ trivial ?_
            clear hK6
            refine anyC_done (by kernel_rfl) ?_
            gi_wp2
            go_roundw
            case rel => exact ⟨j + 1, _, by omega, by go_num, HFIN.out.1, HFIN.out.2.1, HFIN.out.2.2⟩
            case measure => simp [intOf]; omega
        · have hjl : j = t.length := by omega
          have d1 : decide ((j : Int) < (t.length : Int)) = false := by simp; omega
          have d2 : decide (j < t.length) = false := by simp; omega
          obtain ⟨y0, y1, y2⟩ := HBox.cells (x := ⟨p, .slice ao1 k cp1, .slice ao2 j cp2, ones l, ones t⟩) hof.1
          simp only at y0 y1 y2
          obtain ⟨f0, f1, f2, ff⟩ := hbox_facts hz (.int .i64 p) (.slice ao1 k cp1)
          obtain ⟨W8, hW8, h8, g8, o8⟩ := hbox_put hz ⟨p, .slice ao1 k cp1, .slice ao2 j cp2, ones l, ones t⟩
          simp only [zeroHA] at f0 f1 f2
          simp only at hW8
          obtain ⟨c0, c1, c2⟩ := h8.cells
          simp only at c0 c1 c2
          have HF : Hid (∃ x : HA, x.val = .agg #[.int .i64 p, .slice ao1 k cp1, .slice ao2 j cp2] ∧ x.h = ⟨p, ones l, ones t⟩ ∧ x.Low W8.heap.size W8 ∧ Below w.heap.size w W8) := by
            obtain ⟨-, q1, q2, q3, q4⟩ := hof
            rw [HKL.out, List.take_length] at q1
            rw [hjl, List.take_length] at q2
            have n1 : (ones l).length = l.length := by simp [ones]
            have n2 : (ones t).length = t.length := by simp [ones]
            refine ⟨⟨p, .slice ao1 k cp1, .slice ao2 j cp2, ones l, ones t⟩, rfl, rfl, ⟨?_, ?_⟩, below_grown q3 g8 (Nat.le_refl _) q3.size⟩
            · refine RowLow.of_owns (B := w.heap.size) ?_
              rw [n1, HKL.out]
              exact o8 _ _ _ _ q1
            · refine RowLow.of_owns (B := B2) ?_
              rw [n2, hjl]
              exact o8 _ _ _ _ q2
          clear hof hz h8 g8 o8 HZ hjl hlt
          gi_wp2
          rw [← hW8]
          refine bodyPost_ret (v := .agg #[.int .i64 p, .slice ao1 k cp1, .slice ao2 j cp2]) (by simp [results, Try.results49, go_sem, c0, c1, c2]) rfl ?_
          obtain ⟨x, h1, h2, h3, h4⟩ := HF.out
          exact ⟨x, by rw [h1], h2, h3, h4⟩

end Go.Proofs.Ytflnakjffgobmaa

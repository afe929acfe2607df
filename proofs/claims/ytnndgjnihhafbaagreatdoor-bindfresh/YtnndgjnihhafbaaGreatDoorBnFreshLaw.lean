/-
  The walk of BindFresh.
-/
import Derived.Test.YtnndgjnihhafbaaGreatDoorBnFresh
namespace Go.Proofs.YtnndgjnihhafbaaGreatDoor
open Go.RowKit Go.Shelf

attribute [local go_sem] Oper.semAt_some


set_option maxRecDepth 100000 in
set_option maxHeartbeats 8000000 in
theorem bfresh_law (t : Tr) (s : ByteArray) (val : Value) (hs : s.size ≤ maxLen) (w : World) (hn : NodeR (lowS w.heap.size) w val t) (hsg : SignsAt w.heap.size w) :
    Calls Tryz.prog 5 #[val, .string s] w fun e w' => e = .returned (.bool true) ∧ Below w.heap.size w w' := by
  obtain ⟨S, hSd⟩ : ∃ S : Nat → Prop, S = lowS w.heap.size := ⟨_, rfl⟩
  rw [← hSd] at hn
  have hS : ∀ b, S b → b < w.heap.size := fun b hb => by rw [hSd] at hb; exact hb
  obtain ⟨q, rfl⟩ : ∃ q, s = Ln.bs q := ⟨s.data.toList, by simp [Ln.bs]⟩
  rw [Ln.bs_size] at hs
  clear hSd
  have hn0 := hn
  obtain ⟨⟨k, tx, nn, kv, kids⟩, rfl, ht, hf, hrow⟩ := hn
  obtain ⟨ao, cap, hkv⟩ := hrow.slice
  simp only at hkv
  subst hkv
  simp only [N1.cells] at hn0 ⊢
  obtain ⟨N, hN⟩ : ∃ N, N = kids.length := ⟨_, rfl⟩
  rw [← hN] at hn0 ⊢
  obtain ⟨X, hX⟩ : ∃ X, X = w.alloc (.cells #[.int .u8 k, .string (Ln.bs tx), .int .i64 nn, .slice ao N cap] 25) := ⟨_, rfl⟩
  have sX : X.heap.size = w.heap.size + 1 := by rw [hX, World.size_alloc]
  have bX : Below w.heap.size w X := hX ▸ below_new w _
  have n0 : X.heap[w.heap.size]? = some (.cells #[.int .u8 k, .string (Ln.bs tx), .int .i64 nn, .slice ao N cap] 25 (0, 0)) := by rw [hX]; exact World.alloc_heap_new w _
  have hnX : NodeR S X (.agg #[.int .u8 k, .string (Ln.bs tx), .int .i64 nn, .slice ao N cap]) t := by
    obtain ⟨x, e1, e2, e3, e4⟩ := hn0
    exact ⟨x, e1, e2, e3, e4.keep (fun b hb => bX.block b (hS b hb)) (fun _ hb => hb)⟩
  have c0 : X.cell? ⟨w.heap.size, 0, none⟩ = some (.int .u8 k) := cells_at n0 rfl
  have c1 : X.cell? ⟨w.heap.size, 1, none⟩ = some (.string (Ln.bs tx)) := cells_at n0 rfl
  have c2 : X.cell? ⟨w.heap.size, 2, none⟩ = some (.int .i64 nn) := cells_at n0 rfl
  have c3 : X.cell? ⟨w.heap.size, 3, none⟩ = some (.slice ao N cap) := cells_at n0 rfl
  have HA : Hid (_) := bawake_any X ((hsg.keep bX).mono bX.size)
  have HX : Hid (Below w.heap.size w X ∧ X.heap.size = w.heap.size + 1 ∧ X.heap[w.heap.size]? = some (.cells #[.int .u8 k, .string (Ln.bs tx), .int .i64 nn, .slice ao N cap] 25 (0, 0)) ∧ NodeR S X (.agg #[.int .u8 k, .string (Ln.bs tx), .int .i64 nn, .slice ao N cap]) t ∧ (∀ b, S b → b < w.heap.size) ∧ q.length ≤ 9223372036854775807) := ⟨bX, sX, n0, hnX, hS, hs⟩
  clear hn0 ht hf hrow hN sX bX n0 hnX hS c0 c1 c2 c3 hsg hs
  refine (callsIn_wide (n := 3)).1 ?_
  refine callsIn_of_wp Tryz.func5 rfl trivial ?_ rfl
  simp only [Tryz.ntmps5, List.size_toArray, List.length_cons, List.length_nil, Nat.reduceAdd, Nat.reduceSub, Array.replicate_succ, Array.replicate_zero, List.push_toArray, List.append_toArray, List.nil_append, List.cons_append]
  gi_wp2
  rw [← hX]
  clear hX
  refine ⟨trivial, ?_⟩
  refine (callsIn_wide.2 HA.out).mono ?_
  rintro e w1 ⟨rfl, hb1⟩
  have hn1 := (hb1.block _ (by rw [HX.out.2.1]; omega)).trans HX.out.2.2.1
  have hs1 : w.heap.size < w1.heap.size := by have := hb1.size; have := HX.out.2.1; omega
  have hdr : ∀ {z : World}, Below w1.heap.size w1 z → NodeR S z (.agg #[.int .u8 k, .string (Ln.bs tx), .int .i64 nn, .slice ao N cap]) t := fun {z} hz => by
    obtain ⟨x, e1, e2, e3, e4⟩ := HX.out.2.2.2.1
    exact ⟨x, e1, e2, e3, e4.keep (fun b hb => (hz.block b (by have := HX.out.2.2.2.2.1 b hb; omega)).trans (hb1.block b (by have := HX.out.2.2.2.2.1 b hb; have := HX.out.2.1; omega))) (fun _ hb => hb)⟩
  have HND : Hid (∀ {z : World}, Below w1.heap.size w1 z → NodeR S z (.agg #[.int .u8 k, .string (Ln.bs tx), .int .i64 nn, .slice ao N cap]) t) := hdr
  have HSZ : Hid (∀ {z : World}, Below w1.heap.size w1 z → ∀ b, S b → b < z.heap.size) := fun {z} hz b hb => by have := HX.out.2.2.2.2.1 b hb; have := hz.size; omega
  have HB1 : Hid (Below w.heap.size w w1) := below_then HX.out.1 hb1
  have HD0 : Hid (Below w1.heap.size w1 w1.drew) := below_draw w1 1
  have HSM : Hid (_) := small_any S t _ w1.drew (HSZ.out HD0.out) (HND.out HD0.out)
  have HCF : Hid (∀ z, Below w1.heap.size w1 z → z.cell? ⟨w.heap.size, 0, none⟩ = some (.int .u8 k) ∧ z.cell? ⟨w.heap.size, 1, none⟩ = some (.string (Ln.bs tx)) ∧ z.cell? ⟨w.heap.size, 2, none⟩ = some (.int .i64 nn) ∧ z.cell? ⟨w.heap.size, 3, none⟩ = some (.slice ao N cap)) := fun z hz => by
    have h := (hz.block _ hs1).trans hn1
    exact ⟨cells_at h rfl, cells_at h rfl, cells_at h rfl, cells_at h rfl⟩
  clear hn1 hs1 hdr hb1
  gi_wp2
  refine region_lex (fun z => Below w1.heap.size w1 z) 1 17 rfl (by kernel_rfl) (by kernel_rfl) (by kernel_rfl) (by kernel_rfl) (fun _ _ d _ _ h => by cases d <;> exact h) HD0.out ?_
  simp only [List.take_succ_cons, List.take_zero]
  iterate 1 (first
    | (apply lexC_want
       · rfl
       · exact fun _ => rfl
       · (intro w' hw'; obtain ⟨f0, f1, f2, f3⟩ := HCF.out w' hw'; go_simp; try rfl)
       simp only [Act.put, List.setIfInBounds_toArray, List.set_cons_zero, List.set_cons_succ])
    | (apply lexC_skip
       · rfl
       · exact fun _ => rfl
       simp only [Act.put, List.setIfInBounds_toArray, List.set_cons_zero, List.set_cons_succ]))
  refine lexC_nil ?_
  refine anyC_one (i := 1) (by kernel_rfl) rfl (by rfl) (fun K1 hK1 => ?_)
  go_simp
  refine ⟨trivial, ?_⟩
  refine (callsIn_wide.2 HSM.out).mono ?_
  rintro e w2 ⟨b, rfl, hb2, hsm⟩
  have HB2 : Hid (Below w1.heap.size w1 w2) := below_then HD0.out hb2
  clear hb2 HSM
  cases b
  case false =>
    clear hsm
    refine hK1 _ _ HB2.out ?_
    clear hK1
    refine anyC_more 2 7 9 16 rfl (by kernel_rfl) rfl (by decide) (by kernel_rfl) (fun _ _ d _ _ h => by cases d <;> exact h) HB2.out ?_
    simp only [List.drop_succ_cons, List.drop_zero, List.take_succ_cons, List.take_zero]
    iterate 7 (first
      | (apply lexC_want
         · rfl
         · exact fun _ => rfl
         · (intro w' hw'; obtain ⟨f0, f1, f2, f3⟩ := HCF.out w' hw'; go_simp; try rfl)
         simp only [Act.put, List.setIfInBounds_toArray, List.set_cons_zero, List.set_cons_succ])
      | (apply lexC_skip
         · rfl
         · exact fun _ => rfl
         simp only [Act.put, List.setIfInBounds_toArray, List.set_cons_zero, List.set_cons_succ]))
    refine lexC_nil ?_
    refine anyC_more 9 2 7 9 rfl (by kernel_rfl) rfl (by decide) (by kernel_rfl) (fun _ _ d _ _ h => by cases d <;> exact h) HB2.out ?_
    simp only [List.drop_succ_cons, List.drop_zero, List.take_succ_cons, List.take_zero]
    iterate 2 (first
      | (apply lexC_want
         · rfl
         · exact fun _ => rfl
         · (intro w' hw'; obtain ⟨f0, f1, f2, f3⟩ := HCF.out w' hw'; go_simp; try rfl)
         simp only [Act.put, List.setIfInBounds_toArray, List.set_cons_zero, List.set_cons_succ])
      | (apply lexC_skip
         · rfl
         · exact fun _ => rfl
         simp only [Act.put, List.setIfInBounds_toArray, List.set_cons_zero, List.set_cons_succ]))
    refine lexC_nil ?_
    refine anyC_more 12 2 5 7 rfl (by kernel_rfl) rfl (by decide) (by kernel_rfl) (fun _ _ d _ _ h => by cases d <;> exact h) HB2.out ?_
    simp only [List.drop_succ_cons, List.drop_zero, List.take_succ_cons, List.take_zero]
    iterate 2 (first
      | (apply lexC_want
         · rfl
         · exact fun _ => rfl
         · (intro w' hw'; obtain ⟨f0, f1, f2, f3⟩ := HCF.out w' hw'; go_simp; try rfl)
         simp only [Act.put, List.setIfInBounds_toArray, List.set_cons_zero, List.set_cons_succ])
      | (apply lexC_skip
         · rfl
         · exact fun _ => rfl
         simp only [Act.put, List.setIfInBounds_toArray, List.set_cons_zero, List.set_cons_succ]))
    refine lexC_nil ?_
    refine anyC_pass (i := 11) (by kernel_rfl) rfl (by rfl) (fun _ => trivial) HB2.out ?_
    go_simp
    refine anyC_pass (i := 14) (by kernel_rfl) rfl (by rfl) (fun _ => trivial) HB2.out ?_
    go_simp
    refine anyC_more 15 3 0 3 rfl (by kernel_rfl) rfl (by decide) (by kernel_rfl) (fun _ _ d _ _ h => by cases d <;> exact h) HB2.out ?_
    simp only [List.drop_succ_cons, List.drop_zero, List.take_succ_cons, List.take_zero]
    iterate 3 (first
      | (apply lexC_want
         · rfl
         · exact fun _ => rfl
         · (intro w' hw'; obtain ⟨f0, f1, f2, f3⟩ := HCF.out w' hw'; go_simp; try rfl)
         simp only [Act.put, List.setIfInBounds_toArray, List.set_cons_zero, List.set_cons_succ])
      | (apply lexC_skip
         · rfl
         · exact fun _ => rfl
         simp only [Act.put, List.setIfInBounds_toArray, List.set_cons_zero, List.set_cons_succ]))
    refine lexC_nil ?_
    refine anyC_done (by kernel_rfl) ?_
    gi_wp2
    go_ret
    exact ⟨rfl, below_then HB1.out HB2.out⟩
  case true =>
    have HSM : Hid (t.size ≤ 120 ∧ Tr.Bd [t]) := hsm rfl
    clear hsm
    by_cases hq : 100 < q.length
    case pos =>
      have HQ : Hid (decide ((100 : Int) < ((Ln.bs q).size : Int)) = true) := decide_eq_true (by rw [Ln.bs_size]; omega)
      have d1 := HQ.out
      have d2 : decide (100 < (Ln.bs q).size) = true := decide_eq_true (by rw [Ln.bs_size]; omega)
      have d3 : decide (100 < q.length) = true := decide_eq_true hq
      have d4 : decide ((100 : Int) < (q.length : Int)) = true := decide_eq_true (by omega)
      have d5 : (Ln.bs q).size = q.length := Ln.bs_size q
      clear hq
      refine hK1 _ _ HB2.out ?_
      clear hK1
      refine anyC_more 2 7 9 16 rfl (by kernel_rfl) rfl (by decide) (by kernel_rfl) (fun _ _ d _ _ h => by cases d <;> exact h) HB2.out ?_
      simp only [List.drop_succ_cons, List.drop_zero, List.take_succ_cons, List.take_zero]
      iterate 7 (first
        | (apply lexC_want
           · rfl
           · exact fun _ => rfl
           · (intro w' hw'; obtain ⟨f0, f1, f2, f3⟩ := HCF.out w' hw'; go_simp; try rfl)
           simp only [Act.put, List.setIfInBounds_toArray, List.set_cons_zero, List.set_cons_succ])
        | (apply lexC_skip
           · rfl
           · exact fun _ => rfl
           simp only [Act.put, List.setIfInBounds_toArray, List.set_cons_zero, List.set_cons_succ]))
      refine lexC_nil ?_
      refine anyC_more 9 2 7 9 rfl (by kernel_rfl) rfl (by decide) (by kernel_rfl) (fun _ _ d _ _ h => by cases d <;> exact h) HB2.out ?_
      simp only [List.drop_succ_cons, List.drop_zero, List.take_succ_cons, List.take_zero]
      iterate 2 (first
        | (apply lexC_want
           · rfl
           · exact fun _ => rfl
           · (intro w' hw'; obtain ⟨f0, f1, f2, f3⟩ := HCF.out w' hw'; go_simp; try rfl)
           simp only [Act.put, List.setIfInBounds_toArray, List.set_cons_zero, List.set_cons_succ])
        | (apply lexC_skip
           · rfl
           · exact fun _ => rfl
           simp only [Act.put, List.setIfInBounds_toArray, List.set_cons_zero, List.set_cons_succ]))
      refine lexC_nil ?_
      refine anyC_more 12 2 5 7 rfl (by kernel_rfl) rfl (by decide) (by kernel_rfl) (fun _ _ d _ _ h => by cases d <;> exact h) HB2.out ?_
      simp only [List.drop_succ_cons, List.drop_zero, List.take_succ_cons, List.take_zero]
      iterate 2 (first
        | (apply lexC_want
           · rfl
           · exact fun _ => rfl
           · (intro w' hw'; obtain ⟨f0, f1, f2, f3⟩ := HCF.out w' hw'; go_simp; try rfl)
           simp only [Act.put, List.setIfInBounds_toArray, List.set_cons_zero, List.set_cons_succ])
        | (apply lexC_skip
           · rfl
           · exact fun _ => rfl
           simp only [Act.put, List.setIfInBounds_toArray, List.set_cons_zero, List.set_cons_succ]))
      refine lexC_nil ?_
      refine anyC_pass (i := 11) (by kernel_rfl) rfl (by rfl) (fun _ => trivial) HB2.out ?_
      go_simp
      refine anyC_pass (i := 14) (by kernel_rfl) rfl (by rfl) (fun _ => trivial) HB2.out ?_
      go_simp
      refine anyC_more 15 3 0 3 rfl (by kernel_rfl) rfl (by decide) (by kernel_rfl) (fun _ _ d _ _ h => by cases d <;> exact h) HB2.out ?_
      simp only [List.drop_succ_cons, List.drop_zero, List.take_succ_cons, List.take_zero]
      iterate 3 (first
        | (apply lexC_want
           · rfl
           · exact fun _ => rfl
           · (intro w' hw'; obtain ⟨f0, f1, f2, f3⟩ := HCF.out w' hw'; go_simp; try rfl)
           simp only [Act.put, List.setIfInBounds_toArray, List.set_cons_zero, List.set_cons_succ])
        | (apply lexC_skip
           · rfl
           · exact fun _ => rfl
           simp only [Act.put, List.setIfInBounds_toArray, List.set_cons_zero, List.set_cons_succ]))
      refine lexC_nil ?_
      refine anyC_done (by kernel_rfl) ?_
      gi_wp2
      go_ret
      exact ⟨rfl, below_then HB1.out HB2.out⟩
    case neg =>
      have d2 : decide (100 < (Ln.bs q).size) = false := decide_eq_false (by rw [Ln.bs_size]; omega)
      have d1 : decide ((100 : Int) < ((Ln.bs q).size : Int)) = false := decide_eq_false (by rw [Ln.bs_size]; omega)
      have d3 : decide (100 < q.length) = false := decide_eq_false hq
      have d4 : decide ((100 : Int) < (q.length : Int)) = false := decide_eq_false (by omega)
      have d5 : (Ln.bs q).size = q.length := Ln.bs_size q
      have hql : q.length ≤ 1000000 := by omega
      have hul : (Nm.uniq (Tr.namesL [t])).length ≤ 1000000 := by
        have h1 := Nm.uniq_len (Tr.namesL [t])
        have h2 := names_len [t]
        have h3 := HSM.out.2.1
        omega
      have HFR : Hid (_) := fresh_any S t _ q w2 (HSZ.out HB2.out) (HND.out HB2.out) HSM.out.2 hql hul
      have HUL : Hid (q.length ≤ 1000000 ∧ (Nm.uniq (Tr.namesL [t])).length ≤ 1000000) := ⟨hql, hul⟩
      clear hq hql hul
      refine hK1 _ _ HB2.out ?_
      clear hK1
      refine anyC_more 2 7 9 16 rfl (by kernel_rfl) rfl (by decide) (by kernel_rfl) (fun _ _ d _ _ h => by cases d <;> exact h) HB2.out ?_
      simp only [List.drop_succ_cons, List.drop_zero, List.take_succ_cons, List.take_zero]
      iterate 7 (first
        | (apply lexC_want
           · rfl
           · exact fun _ => rfl
           · (intro w' hw'; obtain ⟨f0, f1, f2, f3⟩ := HCF.out w' hw'; go_simp; try rfl)
           simp only [Act.put, List.setIfInBounds_toArray, List.set_cons_zero, List.set_cons_succ])
        | (apply lexC_skip
           · rfl
           · exact fun _ => rfl
           simp only [Act.put, List.setIfInBounds_toArray, List.set_cons_zero, List.set_cons_succ]))
      refine lexC_nil ?_
      refine anyC_more 9 2 7 9 rfl (by kernel_rfl) rfl (by decide) (by kernel_rfl) (fun _ _ d _ _ h => by cases d <;> exact h) HB2.out ?_
      simp only [List.drop_succ_cons, List.drop_zero, List.take_succ_cons, List.take_zero]
      iterate 2 (first
        | (apply lexC_want
           · rfl
           · exact fun _ => rfl
           · (intro w' hw'; obtain ⟨f0, f1, f2, f3⟩ := HCF.out w' hw'; go_simp; try rfl)
           simp only [Act.put, List.setIfInBounds_toArray, List.set_cons_zero, List.set_cons_succ])
        | (apply lexC_skip
           · rfl
           · exact fun _ => rfl
           simp only [Act.put, List.setIfInBounds_toArray, List.set_cons_zero, List.set_cons_succ]))
      refine lexC_nil ?_
      refine anyC_more 12 2 5 7 rfl (by kernel_rfl) rfl (by decide) (by kernel_rfl) (fun _ _ d _ _ h => by cases d <;> exact h) HB2.out ?_
      simp only [List.drop_succ_cons, List.drop_zero, List.take_succ_cons, List.take_zero]
      iterate 2 (first
        | (apply lexC_want
           · rfl
           · exact fun _ => rfl
           · (intro w' hw'; obtain ⟨f0, f1, f2, f3⟩ := HCF.out w' hw'; go_simp; try rfl)
           simp only [Act.put, List.setIfInBounds_toArray, List.set_cons_zero, List.set_cons_succ])
        | (apply lexC_skip
           · rfl
           · exact fun _ => rfl
           simp only [Act.put, List.setIfInBounds_toArray, List.set_cons_zero, List.set_cons_succ]))
      refine lexC_nil ?_
      clear d1 d2 d3 d4 d5
      refine anyC_one (i := 11) (by kernel_rfl) rfl (by rfl) (fun K2 hK2 => ?_)
      go_simp
      refine ⟨trivial, ?_⟩
      refine (callsIn_wide.2 HFR.out).mono ?_
      rintro e w3 ⟨rfl, hb3⟩
      have HB3 : Hid (Below w1.heap.size w1 w3) := below_then HB2.out hb3
      have HRF : Hid (_) := rfresh_any S t _ q w3 (HSZ.out HB3.out) (HND.out HB3.out) HSM.out.2 HUL.out.1 HUL.out.2
      clear hb3 HFR
      refine hK2 _ _ HB3.out ?_
      clear hK2
      refine anyC_one (i := 14) (by kernel_rfl) rfl (by rfl) (fun K3 hK3 => ?_)
      go_simp
      refine ⟨trivial, ?_⟩
      refine (callsIn_wide.2 HRF.out).mono ?_
      rintro e w4 ⟨rfl, hb4⟩
      have HB4 : Hid (Below w1.heap.size w1 w4) := below_then HB3.out hb4
      clear hb4 HRF
      obtain ⟨fr, hfr⟩ : ∃ b, b = Bn.fresh t q := ⟨_, rfl⟩
      rw [← hfr]
      clear hfr
      refine hK3 _ _ HB4.out ?_
      clear hK3
      refine anyC_more 15 3 0 3 rfl (by kernel_rfl) rfl (by decide) (by kernel_rfl) (fun _ _ d _ _ h => by cases d <;> exact h) HB4.out ?_
      simp only [List.drop_succ_cons, List.drop_zero, List.take_succ_cons, List.take_zero]
      iterate 3 (first
        | (apply lexC_want
           · rfl
           · exact fun _ => rfl
           · (intro w' hw'; obtain ⟨f0, f1, f2, f3⟩ := HCF.out w' hw'; go_simp; try rfl)
           simp only [Act.put, List.setIfInBounds_toArray, List.set_cons_zero, List.set_cons_succ])
        | (apply lexC_skip
           · rfl
           · exact fun _ => rfl
           simp only [Act.put, List.setIfInBounds_toArray, List.set_cons_zero, List.set_cons_succ]))
      refine lexC_nil ?_
      refine anyC_done (by kernel_rfl) ?_
      gi_wp2
      go_ret
      exact ⟨rfl, below_then HB1.out HB4.out⟩
end Go.Proofs.YtnndgjnihhafbaaGreatDoor

/-
  The walk of clerestorykit.ApartTexts: rows of texts, each in memory of its own, lie apart.
-/
import Derived.Test.YtkiafelpgcmifaaApartHunksA
namespace Go.Proofs.Ytkiafelpgcmifaa
open Go.RowKit Go.Shelf

attribute [local go_sem] Oper.semAt_some

set_option maxRecDepth 100000 in
set_option maxHeartbeats 8000000 in
theorem apartTexts_any (B : Nat) (R : List (Value × Nat)) (T capT : Nat) (w : World) (hcell : ∀ (k : Nat) (p : Value × Nat), R[k]? = some p → w.cell? ⟨T, k, none⟩ = some p.1) (hO : Own 9 1 B R w (fun _ _ => True)) (hA : Apart R) (hB : B ≤ w.heap.size) (hn : R.length ≤ 10) (hN : ∀ p ∈ R, p.2 ≤ 1000000) :
    Calls Try.prog 15 #[.slice (some ⟨T, 0, none⟩) R.length capT] w fun e w' => e = .returned (.bool true) ∧ Below B w w' := by
  obtain ⟨n, hnn⟩ : ∃ n, n = R.length := ⟨_, rfl⟩
  have HN : Hid (n = R.length) := hnn
  have HC : Hid (_) := hcell
  have HO : Hid (Own 9 1 B R w (fun _ _ => True)) := hO
  have HA : Hid (Apart R) := hA
  have HX : Hid (_) := hN
  rw [← hnn] at hn ⊢
  clear hcell hO hA hN hnn
  obtain ⟨X, hX⟩ : ∃ X, X = w.alloc (.cells (bagC (.slice none 0 0) (.slice none 0 0)) 73) := ⟨_, rfl⟩
  have bX : Below w.heap.size w X := by rw [hX]; exact below_nw w _
  have hXh : X.heap[w.heap.size]? = some (.cells (bagC (.slice none 0 0) (.slice none 0 0)) 73 (0, 0)) := by rw [hX]; exact World.alloc_heap_new w _
  have HBG : Hid (BagIs w.heap.size w.heap.size [] [] X) := ⟨_, _, hXh, Nat.le_refl _, World.ownsRow_nil _ _ _ _, World.ownsRow_nil _ _ _ _⟩
  have sX : w.heap.size < X.heap.size := by rw [hX]; simp
  have HBX : Hid (_) := bX
  clear bX hXh
  refine (callsIn_wide (n := 3)).1 ?_
  refine callsIn_of_wp Try.func15 rfl trivial ?_ rfl
  simp only [Try.ntmps15, List.size_toArray, List.length_cons, List.length_nil, Nat.reduceAdd, Nat.reduceSub, Array.replicate_succ, Array.replicate_zero, List.push_toArray, List.append_toArray, List.nil_append, List.cons_append]
  gi_wp2
  unfold bagC at hX
  rw [← hX]
  clear hX
  gi_loopw [4] (fun v wr => ∃ k : Nat, k ≤ n ∧ v = .int .i64 k ∧ BagIs w.heap.size w.heap.size ((R.take k).map Prod.fst) [] wr ∧ Below w.heap.size w wr ∧ w.heap.size < wr.heap.size) (fun v _ => n - (intOf v).toNat)
  case atStart => exact ⟨0, by omega, rfl, HBG.out, HBX.out, sX⟩
  case round =>
    clear HBG HBX
    obtain ⟨k, hk, rfl, hbag, hbw, hsw⟩ := hrel
    by_cases hlt : k < n
    · obtain ⟨p, hp⟩ : ∃ p, R[k]? = some p := ⟨R[k]'(by have := HN.out; omega), List.getElem?_eq_getElem (by have := HN.out; omega)⟩
      have cT0 := HC.out k p hp
      have cT : wr.cell? ⟨T, k, none⟩ = some p.1 := (hbw.cell (p := ⟨T, k, none⟩) (by simpa using World.block_lt_of_cell? _ _ cT0)).trans cT0
      obtain ⟨ys, r1, -⟩ := HO.out k p hp
      have HP : Hid (_) := hp
      obtain ⟨v, m⟩ := p
      simp only at cT HP r1
      obtain ⟨ao, cap, rfl⟩ := slice_shape r1
      have PH : Hid (_) := putTexts_any w.heap.size w.heap.size ((R.take k).map Prod.fst) [] ao m cap wr hbag (Nat.le_of_lt hsw) (by simp; omega)
      clear hbag cT0 r1 hp
      gi_wp2_with fail
      refine ⟨trivial, ?_⟩
      refine (callsIn_wide.2 PH.out).mono ?_
      rintro e w1 ⟨rfl, hb1, k1⟩
      gi_wp2
      go_roundw
      case rel =>
        refine ⟨k + 1, by omega, by go_num, ?_, hbw.trans k1.1, Nat.lt_of_lt_of_le hsw k1.1.size⟩
        rw [List.take_add_one, HP.out]
        simpa using hb1
      case measure => simp [intOf]; omega
    · have hkn : k = R.length := by have := HN.out; omega
      rw [hkn, List.take_length] at hbag
      have AP : Hid (_) := apart_any B w.heap.size R [] wr (hbag.mono hB) (by omega) HA.out (fun j k p q hp => by simp at hp) (Own.below HO.out hbw) (fun j p hp => by simp at hp) (by have := HN.out; omega) (by simp) HX.out (fun p hp => by simp at hp)
      clear hbag hkn
      gi_wp2_with fail
      refine ⟨trivial, ?_⟩
      refine (callsIn_wide.2 AP.out).mono ?_
      rintro e w1 ⟨rfl, hb1⟩
      gi_wp2
      exact bodyPost_ret (results_tmp rfl _ _ _) rfl ⟨rfl, (hbw.mono hB).trans hb1⟩

end Go.Proofs.Ytkiafelpgcmifaa

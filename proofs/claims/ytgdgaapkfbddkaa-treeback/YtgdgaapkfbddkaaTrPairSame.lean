/-
  The walk of Same.
-/
import Derived.Test.YtgdgaapkfbddkaaTrPairThrough
namespace Go.Proofs.Ytgdgaapkfbddkaa
open Go.RowKit Go.Shelf

attribute [local go_sem] Oper.semAt_some

set_option maxRecDepth 100000 in
set_option maxHeartbeats 4000000 in
theorem tsame_any (a b : Tr) (va vb : Value) (w : World) (hva : NodeR (lowS w.heap.size) w va a) (hvb : NodeR (lowS w.heap.size) w vb b) (ht : a.size ≤ 400000) :
    Calls Try.prog 16 #[va, vb] w fun e w' => e = .returned (.bool (Tr.eqb a b)) ∧ Below w.heap.size w w' := by
  obtain ⟨⟨k, tx, nm, kv, kids⟩, rfl, rfl, hf, hr⟩ := hva
  obtain ⟨⟨k', tx', nm', kv', kids'⟩, rfl, rfl, hf', hr'⟩ := hvb
  simp only [N1.cells] at *
  have ht2 : (Tr.mk k tx nm kids).size ≤ 400000 := ht
  obtain ⟨A1, h1⟩ : ∃ A, A = w.alloc (.cells #[.int .u8 k, .string (Ln.bs tx), .int .i64 nm, kv] 25) := ⟨_, rfl⟩
  obtain ⟨A2, h2⟩ : ∃ A, A = A1.alloc (.cells #[.int .u8 k', .string (Ln.bs tx'), .int .i64 nm', kv'] 25) := ⟨_, rfl⟩
  obtain ⟨A3, h3⟩ : ∃ A, A = A2.alloc (.cells #[.bool true] 4) := ⟨_, rfl⟩
  obtain ⟨A4, h4⟩ : ∃ A, A = A3.alloc (.cells #[.int .u8 k, .string (Ln.bs tx), .int .i64 nm, kv] 25) := ⟨_, rfl⟩
  obtain ⟨X, hX⟩ : ∃ A, A = A4.alloc (.cells #[.int .u8 k', .string (Ln.bs tx'), .int .i64 nm', kv'] 25) := ⟨_, rfl⟩
  have s1 : A1.heap.size = w.heap.size + 1 := by rw [h1, World.size_alloc]
  have s2 : A2.heap.size = w.heap.size + 1 + 1 := by rw [h2, World.size_alloc, s1]
  have s3 : A3.heap.size = w.heap.size + 1 + 1 + 1 := by rw [h3, World.size_alloc, s2]
  have s4 : A4.heap.size = w.heap.size + 1 + 1 + 1 + 1 := by rw [h4, World.size_alloc, s3]
  have s5 : X.heap.size = w.heap.size + 1 + 1 + 1 + 1 + 1 := by rw [hX, World.size_alloc, s4]
  have n3 := World.alloc_heap_new A2 (.cells #[.bool true] 4)
  have n4 := World.alloc_heap_new A3 (.cells #[.int .u8 k, .string (Ln.bs tx), .int .i64 nm, kv] 25)
  have n5 := World.alloc_heap_new A4 (.cells #[.int .u8 k', .string (Ln.bs tx'), .int .i64 nm', kv'] 25)
  rw [← h3, s2] at n3
  rw [← h4, s3] at n4
  rw [← hX, s4] at n5
  have b1 : Below w.heap.size w A1 := h1 ▸ below_new w _
  have b2 : Below A1.heap.size A1 A2 := h2 ▸ below_new A1 _
  have b3 : Below A2.heap.size A2 A3 := h3 ▸ below_new A2 _
  have b4 : Below A3.heap.size A3 A4 := h4 ▸ below_new A3 _
  have b5 : Below A4.heap.size A4 X := hX ▸ below_new A4 _
  have b45 := below_then b4 b5
  have b35 := below_then b3 b45
  have b25 := below_then b2 b35
  have bX : Below w.heap.size w X := below_then b1 b25
  have I0 : PInv (fun b => b < w.heap.size ∨ b = w.heap.size + 1 + 1 + 1 ∨ b = w.heap.size + 1 + 1 + 1 + 1) (w.heap.size + 1 + 1) X.heap.size (Tr.eqb (Tr.mk k tx nm kids) (Tr.mk k' tx' nm' kids')) true X [⟨.slice (some ⟨w.heap.size + 1 + 1 + 1, 0, none⟩) 1 1, .slice (some ⟨w.heap.size + 1 + 1 + 1 + 1, 0, none⟩) 1 1, [Tr.mk k tx nm kids], [Tr.mk k' tx' nm' kids']⟩] X := by
    refine ⟨KeepQ.refl _ _, fun j hj => ?_, ⟨true, (b45.block _ (by omega)).trans n3, by simp [allEq, Tr.eqbL]⟩, by omega, fun b hb => by omega, fun _ _ => rfl⟩
    rw [List.mem_singleton] at hj
    subst hj
    exact ⟨RowR.one (x := ⟨k, tx, nm, kv, kids⟩) ((b5.block _ (by omega)).trans n4) rfl (Nat.le_refl _) (.inr (.inl rfl)) hf (hr.keep (fun b hb => bX.block b hb) (fun b hb => .inl hb)), RowR.one (x := ⟨k', tx', nm', kv', kids'⟩) n5 rfl (Nat.le_refl _) (.inr (.inr rfl)) hf' (hr'.keep (fun b hb => bX.block b hb) (fun b hb => .inl hb))⟩
  have HE : Hid (_) := throughP _ _ _ _ _ _ _ _ _ X (Nat.le_refl _) I0 (by simp [Tr.sizes_cons, Tr.sizes_nil]; omega)
  have HB : Hid (Below w.heap.size w X) := bX
  have e0 : (N1.tr ⟨k, tx, nm, kv, kids⟩).eqb (N1.tr ⟨k', tx', nm', kv', kids'⟩) = Tr.eqb (Tr.mk k tx nm kids) (Tr.mk k' tx' nm' kids') := rfl
  rw [e0]
  obtain ⟨tt, htt⟩ : ∃ q, q = Tr.eqb (Tr.mk k tx nm kids) (Tr.mk k' tx' nm' kids') := ⟨_, rfl⟩
  rw [← htt] at HE ⊢
  clear I0 n3 n4 n5 b1 b2 b3 b4 b5 b45 b35 b25 s1 s2 s3 s4 s5 hr hf hr' hf' bX htt e0 ht ht2
  go_enter Try.func16, Try.ntmps16
  go_wp2_with fail
  rw [← h1, ← h2, ← h3, ← h4, ← hX]
  refine Calls.mono HE.out ?_
  rintro e w1 ⟨rfl, hp⟩
  obtain ⟨f, hfl, hft⟩ := hp.flag
  have hft' : f = tt := by simpa [allEq] using hft
  subst hft'
  have cS : w1.cell? ⟨w.heap.size + 1 + 1, 0, none⟩ = some (.bool f) := cells_at hfl rfl
  have bF : Below w.heap.size w w1 := by
    have b13 := HB.out
    refine ⟨hp.keep.os.trans b13.os, hp.keep.tape.trans b13.tape, hp.keep.output.trans b13.output, Nat.le_trans b13.size hp.keep.size, fun b hb => (hp.keep.old b (by omega)).trans (b13.block b hb)⟩
  clear hp hfl hft HE HB h1 h2 h3 h4 hX
  go_wp2
  go_ret
  exact ⟨rfl, bF⟩
end Go.Proofs.Ytgdgaapkfbddkaa

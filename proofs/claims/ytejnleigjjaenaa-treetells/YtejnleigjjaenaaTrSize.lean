/-
  The walk of tree.Size.
-/
import Derived.Test.YtejnleigjjaenaaTrThrough
namespace Go.Proofs.Ytejnleigjjaenaa
open Go.RowKit Go.Shelf

attribute [local go_sem] Oper.semAt_some

/-- A row that waits, readable in blocks of S. -/
def JobR (S : Nat → Prop) (w : World) (j : Job) : Prop := ∃ full, RowR S w j.v full ∧ full.drop j.i = j.ts ∧ j.i ≤ full.length
theorem JobR.keep {S : Nat → Prop} {w w' : World} {j : Job} (h : JobR S w j) (hb : ∀ b, S b → w'.heap[b]? = w.heap[b]?) : JobR S w' j := by
  obtain ⟨full, h1, h2, h3⟩ := h
  exact ⟨full, h1.keep hb (fun _ h => h), h2, h3⟩
theorem JobR.read {S : Nat → Prop} {w : World} {v : Value} {i : Nat} {ts : List Tr} (h : JobR S w ⟨v, i, ts⟩) : ∃ ao cap, v = .slice ao (i + ts.length) cap ∧ i + ts.length ≤ 1000000000000000 ∧ (0 < ts.length → ∃ b off, ao = some ⟨b, off, none⟩) := by
  obtain ⟨full, h1, h2, h3⟩ := h
  simp only at h1 h2 h3
  obtain ⟨xs, ao, cap, b, off, -, hv, -, ha, hl, -⟩ := h1.parts
  have hlen : i + ts.length = full.length := by rw [← h2, List.length_drop]; omega
  rw [hlen]
  exact ⟨ao, cap, hv, hl, fun h => ⟨b, off, (ha (by omega)).1⟩⟩
theorem JobR.step {S : Nat → Prop} {w : World} {b off n cap i : Nat} {t : Tr} {ts : List Tr} (h : JobR S w ⟨.slice (some ⟨b, off, none⟩) n cap, i, t :: ts⟩) :
    ∃ x : N1, x.tr = t ∧ x.Fit ∧ S b ∧ w.cell? ⟨b, off + i * 4, none⟩ = some (.int .u8 x.k) ∧ w.cell? ⟨b, off + i * 4 + 1, none⟩ = some (.string (Ln.bs x.t)) ∧ w.cell? ⟨b, off + i * 4 + 3, none⟩ = some x.v ∧ JobR S w ⟨x.v, 0, t.kids⟩ ∧ JobR S w ⟨.slice (some ⟨b, off, none⟩) n cap, i + 1, ts⟩ := by
  obtain ⟨full, h1, h2, h3⟩ := h
  simp only at h1 h2 h3
  obtain ⟨xs, ao, cap', b', off', e, hv, -, ha, hl, hx⟩ := h1.parts
  have hlt : i < full.length := by
    rcases Nat.lt_or_ge i full.length with h | h
    · exact h
    · rw [List.drop_eq_nil_of_le h] at h2; cases h2
  obtain ⟨rfl, hS⟩ := ha (by omega)
  cases hv
  have hi : full[i]? = some t := by
    rw [List.drop_eq_getElem_cons hlt] at h2
    cases h2
    exact List.getElem?_eq_getElem hlt
  have hr : full.drop (i + 1) = ts := by
    rw [List.drop_eq_getElem_cons hlt] at h2
    cases h2; rfl
  rw [e, List.getElem?_map] at hi
  obtain ⟨x, hxi, rfl⟩ := Option.map_eq_some_iff.1 hi
  obtain ⟨f1, f2, f3, f4, -, f6⟩ := hx i x hxi
  exact ⟨x, rfl, f1, hS, f3, f4, f6, ⟨x.kids, f2, rfl, Nat.zero_le _⟩, ⟨full, h1, hr, hlt⟩⟩

/-- How many nodes still wait. -/
def left : List Job → Nat
  | [] => 0
  | j :: r => Tr.sizes j.ts + left r
theorem left_perm {P Q : List Job} (h : P.Perm Q) : left P = left Q := by
  induction h with
  | nil => rfl
  | cons x _ ih => simp [left, ih]
  | swap x y l => simp [left]; omega
  | trans _ _ h1 h2 => rw [h1, h2]

def SizeInv (S : Nat → Prop) (sb total : Nat) (w0 : World) (P : List Job) (w : World) : Prop :=
  (∀ b, S b → w.heap[b]? = w0.heap[b]?) ∧ w0.heap.size ≤ w.heap.size ∧ (w.os = w0.os ∧ w.tape = w0.tape ∧ w.output = w0.output) ∧ (∀ j ∈ P, JobR S w j) ∧ ∃ s : Nat, w.heap[sb]? = some (.cells #[.int .i64 s] 3 (0, 0)) ∧ s + left P = total

set_option maxRecDepth 100000 in
set_option maxHeartbeats 4000000 in
theorem size_doing (S : Nat → Prop) (sb total n : Nat) (w0 : World) (hS : ∀ b, S b → b < n ∧ b ≠ sb) (hsb : sb < n) (ht : total ≤ 1000000) : Doing n 29 #[.pointer (some ⟨sb, 0, none⟩)] (SizeInv S sb total w0) where
  perm := fun hp ⟨h1, h2, h3, h4, s, h5, h6⟩ => ⟨h1, h2, h3, fun j hj => h4 j (hp.mem_iff.2 hj), s, h5, by rw [← left_perm hp]; exact h6⟩
  stab := fun ⟨h1, h2, h3, h4, s, h5, h6⟩ k => ⟨fun b hb => (k.old b (hS b hb).1).trans (h1 b hb), Nat.le_trans h2 k.size, ⟨k.os.trans h3.1, k.tape.trans h3.2.1, k.output.trans h3.2.2⟩, fun j hj => (h4 j hj).keep (fun b hb => k.old b (hS b hb).1), s, (k.old sb hsb).trans h5, h6⟩
  nil := fun ⟨h1, h2, h3, h4, s, h5, h6⟩ => ⟨h1, h2, h3, fun j hj => h4 j (by simp [hj]), s, h5, by simpa [left, Tr.sizes_nil] using h6⟩
  read := fun ⟨_, _, _, h4, _⟩ => (h4 _ List.mem_cons_self).read
  step := by
    intro b off m cap i t ts P w ⟨h1, h2, h3, h4, s, h5, h6⟩
    obtain ⟨x, hxt, hxf, hSb, -, -, c3, j1, j2⟩ := (h4 _ List.mem_cons_self).step
    have hlt : s < 1000000 := by
      simp only [left, Tr.sizes_cons, Tr.size_eq] at h6
      omega
    have cS : w.cell? ⟨sb, 0, none⟩ = some (.int .i64 s) := by rw [Lib.cell_of_heap h5]; rfl
    have fS : w.frozen? ⟨sb, 0, none⟩ = false := frozen_of_row w sb 0 _ _ h5
    have hk : ∀ b, b ≠ sb → (w.setCell ⟨sb, 0, none⟩ (.int .i64 ((s : Int) + 1))).heap[b]? = w.heap[b]? := fun b hb => by
      rcases Nat.lt_or_ge b w.heap.size with h | h
      · exact (grown_set w sb 0 _).block b h (fun e => hb (by cases e; rfl))
      · have := (grown_set w sb 0 (.int .i64 ((s : Int) + 1))).size
        rw [Array.getElem?_eq_none h, Array.getElem?_eq_none (by simpa [World.setCell, World.size_setCell] using h)]
    have HF : Hid (KeepD n w (w.setCell ⟨sb, 0, none⟩ (.int .i64 ((s : Int) + 1))) ∧ ∃ v', (w.setCell ⟨sb, 0, none⟩ (.int .i64 ((s : Int) + 1))).cell? ⟨b, off + i * 4 + 3, none⟩ = some v' ∧ SizeInv S sb total w0 (⟨v', 0, t.kids⟩ :: ⟨.slice (some ⟨b, off, none⟩) m cap, i + 1, ts⟩ :: P) (w.setCell ⟨sb, 0, none⟩ (.int .i64 ((s : Int) + 1)))) := by
      have hg := grown_set w sb 0 (.int .i64 ((s : Int) + 1))
      refine ⟨⟨hg.size, fun k c ty fr hk' hc _ => (hk k (by omega)).trans hc⟩, x.v, ?_, fun k hk' => (hk k (hS k hk').2).trans (h1 k hk'), Nat.le_trans h2 hg.size, ⟨hg.os.trans h3.1, hg.tape.trans h3.2.1, hg.output.trans h3.2.2⟩, fun j hj => ?_, s + 1, ?_, ?_⟩
      · exact (World.cell?_of_block (w := w) (a := ⟨b, off + i * 4 + 3, none⟩) (hk b (hS b hSb).2)).trans c3
      · have hj' : JobR S w j := by
          simp only [List.mem_cons] at hj
          rcases hj with rfl | rfl | hj
          · exact j1
          · exact j2
          · exact h4 j (by simp [hj])
        exact hj'.keep (fun k hk' => hk k (hS k hk').2)
      · have := heap_setCell_same w sb 0 _ 3 (.int .i64 ((s : Int) + 1)) h5
        simpa using this
      · simp only [left, Tr.sizes_cons, Tr.size_eq] at h6 ⊢
        omega
    clear h1 h2 h3 h4 h5 h6 j1 j2 c3 hk
    go_enter Try.func29, Try.ntmps29
    go_wp2
    go_end0
    exact ⟨rfl, HF.out⟩

set_option maxRecDepth 100000 in
set_option maxHeartbeats 4000000 in
theorem size_any (t : Tr) (v : Value) (w : World) (hv : NodeR (lowS w.heap.size) w v t) (ht : t.size ≤ 400000) :
    Calls Try.prog 9 #[v] w fun e w' => e = .returned (.int .i64 t.size) ∧ Below w.heap.size w w' := by
  obtain ⟨x, rfl, rfl, hf, hr⟩ := hv
  obtain ⟨k, tx, nm, kv, kids⟩ := x
  simp only [N1.cells] at *
  obtain ⟨A1, h1⟩ : ∃ A, A = w.alloc (.cells #[.int .u8 k, .string (Ln.bs tx), .int .i64 nm, kv] 25) := ⟨_, rfl⟩
  obtain ⟨A2, h2⟩ : ∃ A, A = A1.alloc (.cells #[.int .i64 0] 3) := ⟨_, rfl⟩
  obtain ⟨A3, h3⟩ : ∃ A, A = A2.alloc (.cells #[.int .u8 k, .string (Ln.bs tx), .int .i64 nm, kv] 25) := ⟨_, rfl⟩
  have s1 : A1.heap.size = w.heap.size + 1 := by rw [h1, World.size_alloc]
  have s2 : A2.heap.size = w.heap.size + 1 + 1 := by rw [h2, World.size_alloc, s1]
  have s3 : A3.heap.size = w.heap.size + 1 + 1 + 1 := by rw [h3, World.size_alloc, s2]
  have n2 := World.alloc_heap_new A1 (.cells #[.int .i64 0] 3)
  have n3 := World.alloc_heap_new A2 (.cells #[.int .u8 k, .string (Ln.bs tx), .int .i64 nm, kv] 25)
  rw [← h2, s1] at n2
  rw [← h3, s2] at n3
  have b1 : Below w.heap.size w A1 := h1 ▸ below_new w _
  have b2 : Below A1.heap.size A1 A2 := h2 ▸ below_new A1 _
  have b3 : Below A2.heap.size A2 A3 := h3 ▸ below_new A2 _
  have b23 := below_then b2 b3
  have b13 : Below w.heap.size w A3 := below_then b1 b23
  have D := size_doing (fun b => b < w.heap.size ∨ b = w.heap.size + 1 + 1) (w.heap.size + 1) (Tr.mk k tx nm kids).size A3.heap.size A3 (fun b hb => by omega) (by omega) (by have : (Tr.mk k tx nm kids).size ≤ 400000 := ht; omega)
  have I0 : SizeInv (fun b => b < w.heap.size ∨ b = w.heap.size + 1 + 1) (w.heap.size + 1) (Tr.mk k tx nm kids).size A3 [⟨.slice (some ⟨w.heap.size + 1 + 1, 0, none⟩) 1 1, 0, [Tr.mk k tx nm kids]⟩] A3 := by
    refine ⟨fun _ _ => rfl, Nat.le_refl _, ⟨rfl, rfl, rfl⟩, fun j hj => ?_, 0, (b3.block _ (by omega)).trans n2, by simp [left, Tr.sizes_cons, Tr.sizes_nil]⟩
    rw [List.mem_singleton] at hj
    subst hj
    exact ⟨_, RowR.one (x := ⟨k, tx, nm, kv, kids⟩) n3 rfl (Nat.le_refl _) (.inr rfl) hf (hr.keep (fun b hb => b13.block b hb) (fun b hb => .inl hb)), rfl, by simp⟩
  have HE : Hid (_) := each_any _ _ A3 D (fun _ _ => rfl) I0 (by simp [Tr.sizes_cons, Tr.sizes_nil]; have : (Tr.mk k tx nm kids).size ≤ 400000 := ht; omega)
  clear D I0 n2 n3 b1 b2 b3 b23 s1 s2 s3 hr hf
  go_enter Try.func9, Try.ntmps9
  go_wp2_with fail
  rw [← h1, ← h2, ← h3]
  refine Calls.mono HE.out ?_
  rintro e w1 ⟨rfl, q1, q2, q3, -, s, q5, q6⟩
  have cS : w1.cell? ⟨w.heap.size + 1, 0, none⟩ = some (.int .i64 s) := by rw [Lib.cell_of_heap q5]; rfl
  have bF : Below w.heap.size w w1 := by
    refine ⟨q3.1.trans b13.os, q3.2.1.trans b13.tape, q3.2.2.trans b13.output, Nat.le_trans b13.size q2, fun b hb => (q1 b (.inl hb)).trans (b13.block b hb)⟩
  have hs : s = (Tr.mk k tx nm kids).size := by simpa [left] using q6
  subst hs
  clear q1 q2 q3 q5 q6 HE
  go_wp2
  go_ret
  exact ⟨rfl, bF⟩
end Go.Proofs.Ytejnleigjjaenaa

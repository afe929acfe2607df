/-
  The document's reader in memory; the walks of its steps.
-/
import Derived.Test.YtfegodofbdlbeaaGreatDoorRsMath
import Derived.Test.YtfegodofbdlbeaaGreatDoorOpenAll
namespace Go.Proofs.YtfegodofbdlbeaaGreatDoor
open Go.RowKit Go.Shelf
open Rs (St)

attribute [local go_sem] Oper.semAt_some

/-- Words and signs are of their kinds. -/
def Known (L : List Lx.Tok) : Prop := ∀ t ∈ L, (t.text.length ≤ 1000000 ∧ t.kind ≤ 255 ∧ (t.kind = 3 → Lx.isInt t.text = true)) ∧ (t.text ∈ Lx.words ++ Lx.signs → t.kind = 2 ∨ t.kind = 4)
/-- The reader at block b. -/
def RAt (b : Nat) (L : List Lx.Tok) (s : St) (W : World) : Prop := ∃ tb c, tb ≠ b ∧ (∃ tc fr, W.heap[tb]? = some (.cells tc 49 fr)) ∧ W.heap[b]? = some (.cells #[.slice (some ⟨tb, 0, none⟩) L.length c, .int .i64 s.k, .int .i64 s.o, .int .i64 s.E, .int .i64 s.i] 46 (0, 0)) ∧ L.length ≤ c ∧ L.length ≤ 100000000 ∧ ∀ (j : Nat) (u : Value), (tokCells L)[j]? = some u → W.cell? ⟨tb, j, none⟩ = some u
theorem RAt.lt {b : Nat} {L : List Lx.Tok} {s : St} {W : World} (h : RAt b L s W) : b < W.heap.size := by
  obtain ⟨tb, c, -, -, h, -⟩ := h
  exact (Array.getElem?_eq_some_iff.1 h).1
theorem RAt.keep {b : Nat} {L : List Lx.Tok} {s : St} {W W' : World} (h : RAt b L s W) (hk : ∀ k, k < W.heap.size → W'.heap[k]? = W.heap[k]?) : RAt b L s W' := by
  have hlt := h.lt
  obtain ⟨tb, c, h1, ⟨tc, fr, h2⟩, h3, h4, h5, h6⟩ := h
  have h2l := (Array.getElem?_eq_some_iff.1 h2).1
  exact ⟨tb, c, h1, ⟨tc, fr, (hk tb h2l).trans h2⟩, (hk b hlt).trans h3, h4, h5, fun j u hu => (World.cell?_of_block (w := W) (a := ⟨tb, j, none⟩) (hk tb h2l)).trans (h6 j u hu)⟩
theorem RAt.below {b : Nat} {L : List Lx.Tok} {s : St} {W W' : World} (h : RAt b L s W) (hb : Below W.heap.size W W') : RAt b L s W' := h.keep (fun k hk => hb.block k hk)
/-- A block that is no reader's, no tokens'. -/
theorem RAt.beside {b q : Nat} {L : List Lx.Tok} {s : St} {W Z : World} (h : RAt b L s W) (hz : W.grownBy Z (some q)) {c : Array Value} {fr : Nat × Nat} (hq : W.heap[q]? = some (.cells c 26 fr)) : RAt b L s Z := by
  have hlt := h.lt
  obtain ⟨tb, cc, h1, ⟨tc, fr2, h2⟩, h3, h4, h5, h6⟩ := h
  have h2l := (Array.getElem?_eq_some_iff.1 h2).1
  have n1 : tb ≠ q := fun e => by
    subst e
    rw [h2] at hq
    simp at hq
  have n2 : b ≠ q := fun e => by
    subst e
    rw [h3] at hq
    simp at hq
  exact ⟨tb, cc, h1, ⟨tc, fr2, (hz.block tb h2l (by simpa using n1)).trans h2⟩, (hz.block b hlt (by simpa using n2)).trans h3, h4, h5, fun j u hu => (World.cell?_of_block (w := W) (a := ⟨tb, j, none⟩) (hz.block tb h2l (by simpa using n1))).trans (h6 j u hu)⟩
theorem tok_cells_at (ts : List Lx.Tok) : ∀ (k : Nat) (t : Lx.Tok), ts[k]? = some t → (tokCells ts)[k * 3]? = some (.int .u8 t.kind) ∧ (tokCells ts)[k * 3 + 1]? = some (.string (Ln.bs t.text)) ∧ (tokCells ts)[k * 3 + 2]? = some (.int .i64 t.at_) := by
  induction ts with
  | nil => intro k t h; simp at h
  | cons y r ih =>
    intro k t h
    have e : tokCells (y :: r) = tokC y ++ tokCells r := rfl
    have e3 : (tokC y).length = 3 := rfl
    cases k with
    | zero => simp at h; subst h; exact ⟨rfl, rfl, rfl⟩
    | succ k =>
      have := ih k t (by simpa using h)
      rw [e, List.getElem?_append_right (by rw [e3]; omega), List.getElem?_append_right (by rw [e3]; omega), List.getElem?_append_right (by rw [e3]; omega), e3, show (k + 1) * 3 - 3 = k * 3 by omega, show (k + 1) * 3 + 1 - 3 = k * 3 + 1 by omega, show (k + 1) * 3 + 2 - 3 = k * 3 + 2 by omega]
      exact this
/-- All that is read of it. -/
theorem RAt.cells {b : Nat} {L : List Lx.Tok} {s : St} {W : World} (h : RAt b L s W) (hg : Rs.Good L s) : ∃ tb c, W.cell? ⟨b, 0, none⟩ = some (.slice (some ⟨tb, 0, none⟩) L.length c) ∧ W.cell? ⟨b, 1, none⟩ = some (.int .i64 s.k) ∧ W.cell? ⟨b, 2, none⟩ = some (.int .i64 s.o) ∧ W.cell? ⟨b, 3, none⟩ = some (.int .i64 s.E) ∧ W.cell? ⟨b, 4, none⟩ = some (.int .i64 s.i) ∧ (∀ j, W.frozen? ⟨b, j, none⟩ = false) ∧ (s.k < L.length ∧ L.length ≤ c ∧ L.length ≤ 100000000 ∧ tb < W.heap.size ∧ b < W.heap.size) ∧
    W.cell? ⟨tb, s.k * 3, none⟩ = some (.int .u8 (Ps.hd (Rs.rest L s)).kind) ∧ W.cell? ⟨tb, s.k * 3 + 1, none⟩ = some (.string (Ln.bs (Ps.hd (Rs.rest L s)).text)) ∧ W.cell? ⟨tb, s.k * 3 + 2, none⟩ = some (.int .i64 (Ps.hd (Rs.rest L s)).at_) ∧
    W.heap[b]? = some (.cells #[.slice (some ⟨tb, 0, none⟩) L.length c, .int .i64 s.k, .int .i64 s.o, .int .i64 s.E, .int .i64 s.i] 46 (0, 0)) ∧
    ∀ (s' : St) (W' : World), W.grownBy W' (some b) → W'.heap[b]? = some (.cells #[.slice (some ⟨tb, 0, none⟩) L.length c, .int .i64 s'.k, .int .i64 s'.o, .int .i64 s'.E, .int .i64 s'.i] 46 (0, 0)) → RAt b L s' W' := by
  obtain ⟨tb, c, h1, ⟨tc, fr, h2⟩, h3, h4, h5, h6⟩ := h
  have h2l := (Array.getElem?_eq_some_iff.1 h2).1
  have hk : s.k < L.length := by
    have := hg.ends.ne
    unfold Rs.rest at this
    rw [Ne, List.drop_eq_nil_iff] at this
    omega
  have ht : L[s.k]? = some (Ps.hd (Rs.rest L s)) := by
    unfold Rs.rest Ps.hd
    rw [List.drop_eq_getElem_cons hk]
    exact List.getElem?_eq_getElem hk
  obtain ⟨t0, t1, t2⟩ := tok_cells_at L s.k _ ht
  exact ⟨tb, c, cells_at h3 rfl, cells_at h3 rfl, cells_at h3 rfl, cells_at h3 rfl, cells_at h3 rfl, fun j => frozen_of_row W b j _ _ h3, ⟨hk, h4, h5, h2l, (Array.getElem?_eq_some_iff.1 h3).1⟩, h6 _ _ t0, h6 _ _ t1, h6 _ _ t2, h3, fun s' W' hg hb => ⟨tb, c, h1, ⟨tc, fr, (hg.block tb h2l (by simpa using h1)).trans h2⟩, hb, h4, h5, fun j u hu => (World.cell?_of_block (w := W) (a := ⟨tb, j, none⟩) (hg.block tb h2l (by simpa using h1))).trans (h6 j u hu)⟩⟩
theorem hd_mem {L : List Lx.Tok} {s : St} (hg : Rs.Good L s) : Ps.hd (Rs.rest L s) ∈ L := by
  have hk := hg.ends.ne
  have : Ps.hd (Rs.rest L s) ∈ Rs.rest L s := by
    cases h : Rs.rest L s with
    | nil => exact absurd h hk
    | cons t r => exact List.mem_cons_self
  exact List.mem_of_mem_drop this

set_option maxRecDepth 100000 in
set_option maxHeartbeats 4000000 in
theorem ris_any (b : Nat) (L : List Lx.Tok) (s : St) (t : List UInt8) (w : World) (h : RAt b L s w) (hg : Rs.Good L s) (hK : Known L) (ht : t ∈ Lx.words ++ Lx.signs) : Calls Tryz.prog 40 #[.pointer (some ⟨b, 0, none⟩), .string (Ln.bs t)] w fun e w' => e = .returned (.bool (Rs.isB L s t)) ∧ Below w.heap.size w w' := by
  obtain ⟨tb, c, c0, c1, -, c3, -, -, ⟨hl0, hl1, hl2, htb, hb⟩, t0, t1, t2, -, -⟩ := h.cells hg
  obtain ⟨⟨hkt, hkk, -⟩, hkn⟩ := hK _ (hd_mem hg)
  have hIB : Rs.isB L s t = (decide (s.E = 0) && ((decide ((Ps.hd (Rs.rest L s)).kind = 2) || decide ((Ps.hd (Rs.rest L s)).kind = 4)) && decide ((Ps.hd (Rs.rest L s)).text = t))) := by
    unfold Rs.isB Ps.sees
    by_cases he : (Ps.hd (Rs.rest L s)).text = t
    · have := hkn (by rw [he]; exact ht)
      rw [he]
      rcases this with h1 | h1 <;> simp [h1]
    · have e1 : ([t].contains (Ps.hd (Rs.rest L s)).text) = false := by
        rw [Bool.eq_false_iff]
        intro e
        rw [List.contains_iff_mem, List.mem_singleton] at e
        exact he e
      rw [e1]
      simp [he]
  obtain ⟨K, hK1⟩ : ∃ K, K = (Ps.hd (Rs.rest L s)).kind := ⟨_, rfl⟩
  obtain ⟨T, hT1⟩ : ∃ T, T = (Ps.hd (Rs.rest L s)).text := ⟨_, rfl⟩
  obtain ⟨A, hA1⟩ : ∃ A, A = (Ps.hd (Rs.rest L s)).at_ := ⟨_, rfl⟩
  rw [← hK1] at t0 hIB
  rw [← hT1] at t1 hIB
  rw [← hA1] at t2
  rw [hIB]
  have hbt : ((Ln.bs T).toList == (Ln.bs t).toList) = decide (T = t) := bs_beq T t
  obtain ⟨N, hN⟩ : ∃ N, N = L.length := ⟨_, rfl⟩
  rw [← hN] at c0 hl0 hl1 hl2
  have hlI : (s.k : Int) < N := by omega
  obtain ⟨k0, hk0⟩ : ∃ k, k = s.k := ⟨_, rfl⟩
  obtain ⟨E0, hE0⟩ : ∃ k, k = s.E := ⟨_, rfl⟩
  rw [← hk0] at c1 hl0 hlI t0 t1 t2
  rw [← hE0] at c3 ⊢
  have e0 : ((E0 : Int) == 0) = decide (E0 = 0) := by by_cases he : E0 = 0 <;> simp [he]
  have e2 : ((K : Int) == 2) = decide (K = 2) := by by_cases he : K = 2 <;> simp [he] <;> omega
  have e4 : ((K : Int) == 4) = decide (K = 4) := by by_cases he : K = 4 <;> simp [he] <;> omega
  clear h hg hK ht hkn hIB hK1 hT1 hA1 hN hk0 hE0
  obtain ⟨d1, hd1⟩ : ∃ d, d = decide (E0 = 0) := ⟨_, rfl⟩
  obtain ⟨d2, hd2⟩ : ∃ d, d = decide (K = 2) := ⟨_, rfl⟩
  obtain ⟨d4, hd4⟩ : ∃ d, d = decide (K = 4) := ⟨_, rfl⟩
  obtain ⟨d5, hd5⟩ : ∃ d, d = decide (T = t) := ⟨_, rfl⟩
  rw [← hd1] at e0 ⊢
  rw [← hd2] at e2 ⊢
  rw [← hd4] at e4 ⊢
  rw [← hd5] at hbt ⊢
  clear hd1 hd2 hd4 hd5
  have bX : Below w.heap.size w (w.alloc (.cells #[.int .u8 K, .string (Ln.bs T), .int .i64 A] 49)) := below_new w _
  go_enter Tryz.func40, Tryz.ntmps40
  go_wp2
  go_region
  have HB : Hid (_) := below_drewN bX 1
  clear bX
  cases d1
  · go_wp2
    go_ret
    exact ⟨rfl, HB.out⟩
  cases d2
  · cases d4
    · go_wp2
      go_ret
      exact ⟨rfl, HB.out⟩
    · go_wp2
      go_ret
      exact ⟨by cases d5 <;> rfl, HB.out⟩
  · go_wp2
    go_ret
    exact ⟨by cases d5 <;> rfl, HB.out⟩
end Go.Proofs.YtfegodofbdlbeaaGreatDoor

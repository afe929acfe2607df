/-
  The walk of tree.Names.
-/
import Derived.Test.YtnndgjnihhafbaaGreatDoorTrPuts
import Derived.Test.YtnndgjnihhafbaaGreatDoorTrShelf
namespace Go.Proofs.YtnndgjnihhafbaaGreatDoor
open Go.RowKit Go.Shelf

attribute [local go_sem] Oper.semAt_some

namespace Nm
theorem rises_ext : ∀ (a b : List (List UInt8)), a.Pairwise (fun x y => x < y) → b.Pairwise (fun x y => x < y) → (∀ s, s ∈ a ↔ s ∈ b) → a = b
  | [], [], _, _, _ => rfl
  | [], y :: b, _, _, h => by have := (h y).2 List.mem_cons_self; cases this
  | x :: a, [], _, _, h => by have := (h x).1 List.mem_cons_self; cases this
  | x :: a, y :: b, ha, hb, h => by
    have ha' := List.pairwise_cons.1 ha
    have hb' := List.pairwise_cons.1 hb
    have hxy : x = y := by
      rcases List.mem_cons.1 ((h x).1 List.mem_cons_self) with e | hx
      · exact e
      · rcases List.mem_cons.1 ((h y).2 List.mem_cons_self) with e | hy
        · exact e.symm
        · exact absurd (List.lt_trans (hb'.1 x hx) (ha'.1 y hy)) (List.lt_irrefl _)
    subst hxy
    congr 1
    refine rises_ext a b ha'.2 hb'.2 (fun s => ⟨fun hs => ?_, fun hs => ?_⟩)
    · rcases List.mem_cons.1 ((h s).1 (List.mem_cons_of_mem _ hs)) with e | h1
      · subst e; exact absurd (ha'.1 s hs) (List.lt_irrefl _)
      · exact h1
    · rcases List.mem_cons.1 ((h s).2 (List.mem_cons_of_mem _ hs)) with e | h1
      · subst e; exact absurd (hb'.1 s hs) (List.lt_irrefl _)
      · exact h1
theorem uniq_ext {a b : List (List UInt8)} (h : ∀ s, s ∈ a ↔ s ∈ b) : uniq a = uniq b := rises_ext _ _ (uniq_rises a) (uniq_rises b) (fun s => by rw [uniq_mem, uniq_mem]; exact h s)
end Nm

def namesJ : List Job → List (List UInt8)
  | [] => []
  | j :: r => Tr.namesL j.ts ++ namesJ r
theorem namesJ_perm {P Q : List Job} (h : P.Perm Q) (s : List UInt8) : s ∈ namesJ P ↔ s ∈ namesJ Q := by
  induction h with
  | nil => exact Iff.rfl
  | cons x _ ih => simp [namesJ, ih]
  | swap x y l => simp only [namesJ, List.mem_append]; exact or_left_comm
  | trans _ _ h1 h2 => exact h1.trans h2

structure NamesInv (S : Nat → Prop) (nb n0 total : Nat) (all : List (List UInt8)) (w0 : World) (P : List Job) (w : World) : Prop where
  same : ∀ b, S b → w.heap[b]? = w0.heap[b]?
  size : w0.heap.size ≤ w.heap.size
  rest : w.os = w0.os ∧ w.tape = w0.tape ∧ w.output = w0.output
  jobs : ∀ j ∈ P, JobR S w j
  row : ∃ (v : Value) (L : List (List UInt8)), w.heap[nb]? = some (.cells #[v] 54 (0, 0)) ∧ w.ownsRow n0 9 1 v L.length (L.map txtV) ∧ (∀ s, (s ∈ L ∨ s ∈ namesJ P) ↔ s ∈ all) ∧ L.length + left P ≤ total ∧ ∀ s ∈ L, s.length ≤ 1000000
  txt : ∀ s ∈ namesJ P, s.length ≤ 1000000

theorem owns_type_keep {w w' : World} {B n : Nat} {v : Value} {xs : List Value} (h : w.ownsRow B 9 1 v n xs) (hk : ∀ (b : Nat) (c : Array Value) (fr : Nat × Nat), w.heap[b]? = some (.cells c 9 fr) → w'.heap[b]? = some (.cells c 9 fr)) : w'.ownsRow B 9 1 v n xs := by
  refine ⟨h.1, ?_⟩
  rcases h.2 with h0 | ⟨g, cap, cur, hv, h1, hg, h2⟩
  · exact .inl h0
  · exact .inr ⟨g, cap, cur, hv, h1, hk _ _ _ hg, h2⟩

set_option maxRecDepth 100000 in
set_option maxHeartbeats 4000000 in
theorem names_step (S : Nat → Prop) (nb n0 total n : Nat) (all : List (List UInt8)) (w0 : World) (hS : ∀ b, S b → b < n0 ∧ b ≠ nb) (hnb : nb < n) (hn0 : n0 ≤ n) (hnw : n ≤ w0.heap.size) (ht : total ≤ 1000000) {b off m cap i : Nat} {t : Tr} {ts : List Tr} {P : List Job} {w : World} (h : NamesInv S nb n0 total all w0 (⟨.slice (some ⟨b, off, none⟩) m cap, i, t :: ts⟩ :: P) w) :
    Calls Tryz.prog 50 (#[.pointer (some ⟨b, off + i * 4, none⟩)] ++ #[.pointer (some ⟨nb, 0, none⟩)]) w fun e w' => e = .returned (.tuple #[]) ∧ KeepD n w w' ∧ ∃ v', w'.cell? ⟨b, off + i * 4 + 3, none⟩ = some v' ∧ NamesInv S nb n0 total all w0 (⟨v', 0, t.kids⟩ :: ⟨.slice (some ⟨b, off, none⟩) m cap, i + 1, ts⟩ :: P) w' := by
  obtain ⟨h1, h2, h3, h4, ⟨v, L, h5, h6, h7, h8, h10⟩, h9⟩ := h
  obtain ⟨x, hxt, hxf, hSb, c0, c1, c3, j1, j2⟩ := (h4 _ List.mem_cons_self).step
  have hk : t.k = x.k := by rw [← hxt]; rfl
  have htt : t.t = x.t := by rw [← hxt]; rfl
  have cN : w.cell? ⟨nb, 0, none⟩ = some v := cells_at h5 rfl
  have fN : w.frozen? ⟨nb, 0, none⟩ = false := frozen_of_row w nb 0 _ _ h5
  have hjobs : ∀ j ∈ (⟨x.v, 0, t.kids⟩ :: ⟨.slice (some ⟨b, off, none⟩) m cap, i + 1, ts⟩ :: P : List Job), JobR S w j := fun j hj => by
    simp only [List.mem_cons] at hj
    rcases hj with rfl | rfl | hj
    · exact j1
    · exact j2
    · exact h4 j (by simp [hj])
  have hnames : ∀ s, s ∈ namesJ (⟨.slice (some ⟨b, off, none⟩) m cap, i, t :: ts⟩ :: P) ↔ s ∈ t.own ∨ s ∈ namesJ (⟨x.v, 0, t.kids⟩ :: ⟨.slice (some ⟨b, off, none⟩) m cap, i + 1, ts⟩ :: P) := fun s => by
    simp only [namesJ, Tr.namesL_cons, Tr.names_eq, List.mem_append]
    constructor
    · rintro (((h | h) | h) | h)
      · exact .inl h
      · exact .inr (.inl h)
      · exact .inr (.inr (.inl h))
      · exact .inr (.inr (.inr h))
    · rintro (h | h | h | h)
      · exact .inl (.inl (.inl h))
      · exact .inl (.inl (.inr h))
      · exact .inl (.inr h)
      · exact .inr h
  have hleft : left (⟨.slice (some ⟨b, off, none⟩) m cap, i, t :: ts⟩ :: P) = 1 + left (⟨x.v, 0, t.kids⟩ :: ⟨.slice (some ⟨b, off, none⟩) m cap, i + 1, ts⟩ :: P) := by
    simp only [left, Tr.sizes_cons, Tr.size_eq]; omega
  cases hbe : Tr.bears x.k
  · have hown : t.own = [] := by unfold Tr.own; rw [hk, hbe]; rfl
    have HB : Hid (∀ w, Calls Tryz.prog 51 #[.int .u8 x.k] w fun e w' => e = .returned (.bool false) ∧ w' = w) := fun w => by have := bears_any x.k w; rwa [hbe] at this
    have HF : Hid (KeepD n w w ∧ ∃ v', w.cell? ⟨b, off + i * 4 + 3, none⟩ = some v' ∧ NamesInv S nb n0 total all w0 (⟨v', 0, t.kids⟩ :: ⟨.slice (some ⟨b, off, none⟩) m cap, i + 1, ts⟩ :: P) w) := by
      refine ⟨⟨Nat.le_refl _, fun _ _ _ _ _ h _ => h⟩, x.v, c3, h1, h2, h3, hjobs, ⟨v, L, h5, h6, fun s => ?_, by omega, h10⟩, fun s hs => h9 s ((hnames s).2 (.inr hs))⟩
      rw [← h7 s, hnames s, hown]
      simp
    clear h1 h2 h3 h4 h5 h6 h7 h8 h9 h10 hjobs hnames hleft j1 j2 c1 c3 hown cN fN
    go_enter Tryz.func50, Tryz.ntmps50
    go_wp2_with fail
    refine (HB.out w).mono ?_
    rintro e w1 ⟨rfl, rfl⟩
    go_wp2
    go_end0
    exact ⟨rfl, HF.out⟩
  · have hown : t.own = [x.t] := by unfold Tr.own; rw [hk, hbe, htt]; rfl
    have HB : Hid (∀ w, Calls Tryz.prog 51 #[.int .u8 x.k] w fun e w' => e = .returned (.bool true) ∧ w' = w) := fun w => by have := bears_any x.k w; rwa [hbe] at this
    obtain ⟨a7, c7, rfl⟩ := slice_shape h6
    obtain ⟨i0, hi0, hz0, hz1, hz2⟩ := info_parts info9
    have hblt : b < w.heap.size := by simpa using World.block_lt_of_cell? _ _ c1
    have hnblt : nb < w.heap.size := (Array.getElem?_eq_some_iff.1 h5).1
    have bX : Below w.heap.size w (w.drew.alloc (.cells #[.string (Ln.bs x.t)] 9)) := (below_draw w 1).trans (below_new w.drew _)
    have hn0w : n0 ≤ w.heap.size := by omega
    obtain ⟨v', W', hrun, hown', hgr, -⟩ := run_append_own (P := Tryz.prog) (w.drew.alloc (.cells #[.string (Ln.bs x.t)] 9)) n0 54 54 9 i0 (.string ⟨#[]⟩) 1 16 Tryz.underlying54 hi0 hz0 hz1 hz2 rfl (by decide) (.slice a7 L.length c7) _ _ (owns_below h6 bX) ⟨w.heap.size, 0, none⟩ 1 1 [.string (Ln.bs x.t)] rfl (cell_one_new w.drew _ _) (by simp [Value.oneCell']) (by unfold maxLen; omega) (by omega) (by have := bX.size; omega)
    obtain ⟨gv, cv, rfl⟩ := ownsRow_succ hown'
    have hX : ∀ {k : Nat} {o : Obj}, w.heap[k]? = some o → (w.drew.alloc (.cells #[.string (Ln.bs x.t)] 9)).heap[k]? = some o := fun h => (bX.block _ (Array.getElem?_eq_some_iff.1 h).1).trans h
    have hnbW : W'.heap[nb]? = some (.cells #[.slice a7 L.length c7] 54 (0, 0)) := heap_grown (owns_below h6 bX) hgr (hX h5) (by decide)
    have cW : W'.cell? ⟨nb, 0, none⟩ = some (.slice a7 L.length c7) := cells_at hnbW rfl
    have fW : W'.frozen? ⟨nb, 0, none⟩ = false := frozen_of_row W' nb 0 _ _ hnbW
    have cX : (w.drew.alloc (.cells #[.string (Ln.bs x.t)] 9)).cell? ⟨nb, 0, none⟩ = some (.slice a7 L.length c7) := cells_at (hX h5) rfl
    have hlowW : ∀ k, k < n0 → W'.heap[k]? = w.heap[k]? := fun k hk => by
      refine (hgr.block k (by have := bX.size; omega) (fun e => ?_)).trans (bX.block k (by omega))
      rcases h6.2 with ⟨e0, _⟩ | ⟨g, cp, cur, e0, hb0, _⟩
      · rw [e0] at e; cases e
      · rw [e0] at e
        have : k = g := by cases e; rfl
        omega
    obtain ⟨F, hF⟩ : ∃ F, F = W'.setCell ⟨nb, 0, none⟩ (.slice (some ⟨gv, 0, none⟩) (L.length + 1) cv) := ⟨_, rfl⟩
    have hFo : ∀ k, k ≠ nb → F.heap[k]? = W'.heap[k]? := fun k hk => by rw [hF]; exact set_other hk
    have hFS : ∀ k, S k → F.heap[k]? = w.heap[k]? := fun k hk => (hFo k (hS k hk).2).trans (hlowW k (hS k hk).1)
    have hsF : F.heap.size = W'.heap.size := by rw [hF, setCell_size]
    have hszF : w.heap.size ≤ F.heap.size := by rw [hsF]; have := hgr.size; have := bX.size; omega
    have hlt8 : L.length + 1 ≤ 1000000 := by omega
    have HF : Hid (KeepD n w F ∧ ∃ v', F.cell? ⟨b, off + i * 4 + 3, none⟩ = some v' ∧ NamesInv S nb n0 total all w0 (⟨v', 0, t.kids⟩ :: ⟨.slice (some ⟨b, off, none⟩) m cap, i + 1, ts⟩ :: P) F) := by
      refine ⟨⟨hszF, fun k c ty fr hk hc hty => ?_⟩, x.v, (World.cell?_of_block (w := w) (a := ⟨b, off + i * 4 + 3, none⟩) (hFS b hSb)).trans c3, fun k hk => (hFS k hk).trans (h1 k hk), Nat.le_trans h2 hszF, ?_, fun j hj => (hjobs j hj).keep hFS, ⟨.slice (some ⟨gv, 0, none⟩) (L.length + 1) cv, L ++ [x.t], ?_, ?_, fun s => ?_, ?_, fun s hs => ?_⟩, fun s hs => h9 s ((hnames s).2 (.inr hs))⟩
      · rw [hFo k (by omega)]
        refine (hgr.block k (Array.getElem?_eq_some_iff.1 (hX hc)).1 (fun e => ?_)).trans (hX hc)
        rcases h6.2 with ⟨e0, _⟩ | ⟨g, cp, cur, e0, _, hg9, _⟩
        · rw [e0] at e; cases e
        · rw [e0] at e
          have : k = g := by cases e; rfl
          subst this
          rw [hc] at hg9
          cases hg9
          exact absurd hty (by decide)
      · have hg := grown_set W' nb 0 (.slice (some ⟨gv, 0, none⟩) (L.length + 1) cv)
        rw [← hF] at hg
        exact ⟨hg.os.trans (hgr.os.trans (bX.os.trans h3.1)), hg.tape.trans (hgr.tape.trans (bX.tape.trans h3.2.1)), hg.output.trans (hgr.output.trans (bX.output.trans h3.2.2))⟩
      · rw [hF]; exact heap_setCell_same W' nb 0 _ _ _ hnbW
      · have := owns_set hown' hnbW (by decide) 0 (.slice (some ⟨gv, 0, none⟩) (L.length + 1) cv)
        rw [← hF] at this
        rw [List.length_append, List.map_append]
        exact this
      · rw [← h7 s, hnames s, hown, List.mem_append]
        simp only [List.mem_singleton]
        constructor
        · rintro ((h | h) | h)
          · exact .inl h
          · exact .inr (.inl h)
          · exact .inr (.inr h)
        · rintro (h | h | h)
          · exact .inl (.inl h)
          · exact .inl (.inr h)
          · exact .inr h
      · rw [List.length_append, List.length_singleton]; omega
      · rcases List.mem_append.1 hs with hs | hs
        · exact h10 s hs
        · rw [List.mem_singleton] at hs
          subst hs
          exact h9 _ ((hnames _).2 (.inl (by rw [hown]; exact List.mem_cons_self)))
    have c1d : w.drew.cell? ⟨b, off + i * 4 + 1, none⟩ = some (.string (Ln.bs x.t)) := c1
    have cNd : w.drew.cell? ⟨nb, 0, none⟩ = some (.slice a7 L.length c7) := cN
    have c1X : (w.drew.alloc (.cells #[.string (Ln.bs x.t)] 9)).cell? ⟨b, off + i * 4 + 1, none⟩ = some (.string (Ln.bs x.t)) := (World.cell?_of_block (w := w) (a := ⟨b, off + i * 4 + 1, none⟩) (bX.block b hblt)).trans c1
    have c1W : W'.cell? ⟨b, off + i * 4 + 1, none⟩ = some (.string (Ln.bs x.t)) := (World.cell?_of_block (w := w) (a := ⟨b, off + i * 4 + 1, none⟩) (hlowW b (hS b hSb).1)).trans c1
    have c1F : F.cell? ⟨b, off + i * 4 + 1, none⟩ = some (.string (Ln.bs x.t)) := (World.cell?_of_block (w := w) (a := ⟨b, off + i * 4 + 1, none⟩) (hFS b hSb)).trans c1
    obtain ⟨M, hM⟩ : ∃ M, M = L.length := ⟨_, rfl⟩
    rw [← hM] at hF cW cX cN cNd hrun hlt8
    clear h1 h2 h3 h4 h5 h6 h7 h8 h9 h10 hjobs hnames hleft j1 j2 c3 hown hown' hgr hX hnbW hlowW hFo hFS hsF hszF hi0 hz0 hz1 hz2 bX hM hbe
    refine (callsIn_wide (n := 3)).1 ?_
    refine callsIn_of_wp Tryz.func50 rfl trivial ?_ rfl
    simp only [Tryz.ntmps50, List.size_toArray, List.length_cons, List.length_nil, Nat.reduceAdd, Nat.reduceSub, Array.replicate_succ, Array.replicate_zero, List.push_toArray, List.append_toArray, List.nil_append, List.cons_append]
    gi_wp2
    refine ⟨trivial, ?_⟩
    refine (callsIn_wide.2 (HB.out w)).mono ?_
    rintro e w1 ⟨rfl, rfl⟩
    gi_wp2
    refine region_lex (fun z => z.cell? ⟨b, off + i * 4 + 1, none⟩ = some (.string (Ln.bs x.t))) 0 8 rfl (by kernel_rfl) (by kernel_rfl) (by kernel_rfl) (by kernel_rfl) (fun _ _ d _ _ h => by cases d <;> exact h) c1d ?_
    simp only [List.take_zero]
    refine lexC_nil ?_
    refine anyC_take (i := 1) (v := .pointer (some ⟨b, off + i * 4, none⟩)) rfl rfl (by kernel_rfl) (by kernel_rfl) (by kernel_rfl) (fun _ _ d _ _ h => by cases d <;> exact h) c1d (by rfl) (fun _ => rfl) (by intro w' hw'; go_simp; try rfl) ?_
    simp only [Act.put, List.setIfInBounds_toArray]
    refine anyC_take (i := 2) (v := .pointer (some ⟨b, off + i * 4, none⟩)) rfl rfl (by kernel_rfl) (by kernel_rfl) (by kernel_rfl) (fun _ _ d _ _ h => by cases d <;> exact h) c1d (by rfl) (fun _ => rfl) (by intro w' hw'; go_simp; try rfl) ?_
    simp only [Act.put]
    refine anyC_take (i := 3) (v := .pointer (some ⟨b, off + i * 4 + 1, none⟩)) rfl rfl (by kernel_rfl) (by kernel_rfl) (by kernel_rfl) (fun _ _ d _ _ h => by cases d <;> exact h) c1d (by rfl) (fun _ => rfl) (by intro w' hw'; go_simp; try rfl) ?_
    simp only [Act.put]
    refine anyC_take (i := 4) (v := .string (Ln.bs x.t)) rfl rfl (by kernel_rfl) (by kernel_rfl) (by kernel_rfl) (fun _ _ d _ _ h => by cases d <;> exact h) c1d (by rfl) (fun _ => rfl) (by intro w' hw'; go_simp; try rfl) ?_
    simp only [Act.put]
    refine anyC_two (i := 0) (j := 5) (by kernel_rfl) rfl rfl (by rfl) (by rfl) (fun K1 hK1 => ?_) (fun K1 hK1 => ?_)
    · go_simp
      refine hK1 _ _ c1d ?_
      clear hK1
      refine anyC_one (i := 5) (by kernel_rfl) rfl (by rfl) (fun K2 hK2 => ?_)
      go_simp
      refine hK2 _ _ c1X ?_
      clear hK2
      refine anyC_one (i := 6) (by kernel_rfl) rfl (by rfl) (fun K3 hK3 => ?_)
      refine op_append _ _ 54 rfl _ _ _ _ rfl rfl hrun (hK3 _ _ c1W ?_)
      clear hK3
      refine anyC_one (i := 7) (by kernel_rfl) rfl (by rfl) (fun K4 hK4 => ?_)
      go_simp
      rw [← hF]
      refine hK4 _ _ c1F ?_
      clear hK4
      refine anyC_done (by kernel_rfl) ?_
      gi_wp2
      go_end0
      exact ⟨rfl, HF.out⟩
    · go_simp
      refine hK1 _ _ c1X ?_
      clear hK1
      refine anyC_one (i := 0) (by kernel_rfl) rfl (by rfl) (fun K2 hK2 => ?_)
      go_simp
      refine hK2 _ _ c1X ?_
      clear hK2
      refine anyC_one (i := 6) (by kernel_rfl) rfl (by rfl) (fun K3 hK3 => ?_)
      refine op_append _ _ 54 rfl _ _ _ _ rfl rfl hrun (hK3 _ _ c1W ?_)
      clear hK3
      refine anyC_one (i := 7) (by kernel_rfl) rfl (by rfl) (fun K4 hK4 => ?_)
      go_simp
      rw [← hF]
      refine hK4 _ _ c1F ?_
      clear hK4
      refine anyC_done (by kernel_rfl) ?_
      gi_wp2
      go_end0
      exact ⟨rfl, HF.out⟩

theorem names_doing (S : Nat → Prop) (nb n0 total n : Nat) (all : List (List UInt8)) (w0 : World) (hS : ∀ b, S b → b < n0 ∧ b ≠ nb) (hnb : nb < n) (hn0 : n0 ≤ n) (hnw : n ≤ w0.heap.size) (ht : total ≤ 1000000) : Doing n 50 #[.pointer (some ⟨nb, 0, none⟩)] (NamesInv S nb n0 total all w0) where
  perm := fun hp ⟨h1, h2, h3, h4, ⟨v, L, h5, h6, h7, h8, h10⟩, h9⟩ => ⟨h1, h2, h3, fun j hj => h4 j (hp.mem_iff.2 hj), ⟨v, L, h5, h6, fun s => by rw [← namesJ_perm hp s]; exact h7 s, by rw [← left_perm hp]; exact h8, h10⟩, fun s hs => h9 s ((namesJ_perm hp s).2 hs)⟩
  stab := fun ⟨h1, h2, h3, h4, ⟨v, L, h5, h6, h7, h8, h10⟩, h9⟩ k => ⟨fun b hb => (k.old b (by have := (hS b hb).1; omega)).trans (h1 b hb), Nat.le_trans h2 k.size, ⟨k.os.trans h3.1, k.tape.trans h3.2.1, k.output.trans h3.2.2⟩, fun j hj => (h4 j hj).keep (fun b hb => k.old b (by have := (hS b hb).1; omega)), ⟨v, L, (k.old nb hnb).trans h5, owns_type_keep h6 (fun b c fr hb => k.other b c 9 fr hb (by decide)), h7, h8, h10⟩, h9⟩
  nil := fun ⟨h1, h2, h3, h4, ⟨v, L, h5, h6, h7, h8, h10⟩, h9⟩ => ⟨h1, h2, h3, fun j hj => h4 j (by simp [hj]), ⟨v, L, h5, h6, fun s => by rw [← h7 s]; simp [namesJ, Tr.namesL_nil], by simpa [left, Tr.sizes_nil] using h8, h10⟩, fun s hs => h9 s (by simpa [namesJ, Tr.namesL_nil] using hs)⟩
  read := fun h => (h.jobs _ List.mem_cons_self).read
  step := fun h => names_step S nb n0 total n all w0 hS hnb hn0 hnw ht h

theorem put_other {w : World} {g k q : Nat} {d : Array (List UInt8)} (h : k ≠ g) : (Go.Sort.putRow encStr (Go.Sort.ahead w q) g 0 d).heap[k]? = w.heap[k]? := by
  simp [Go.Sort.putRow, Go.Sort.mapBlock, Go.Sort.ahead, Array.getElem?_modify, Ne.symm h]
theorem put_size {w : World} {g q : Nat} {d : Array (List UInt8)} : (Go.Sort.putRow encStr (Go.Sort.ahead w q) g 0 d).heap.size = w.heap.size := by
  simp [Go.Sort.putRow, Go.Sort.mapBlock, Go.Sort.ahead]

/-- Sorted, and each once: two calls. -/
theorem sorted_two (g cap n0 : Nat) (L : List (List UInt8)) (w : World) (hL : L.length ≤ 1000000) (ho : w.ownsRow n0 9 1 (.slice (some ⟨g, 0, none⟩) L.length cap) L.length (L.map txtV)) :
    Calls Tryz.prog 52 #[.slice (some ⟨g, 0, none⟩) L.length cap] w fun e w1 => e = .returned (.tuple #[]) ∧ (∀ k, k ≠ g → k < w.heap.size → w1.heap[k]? = w.heap[k]?) ∧ (w.heap.size ≤ w1.heap.size ∧ w1.os = w.os ∧ w1.tape = w.tape ∧ w1.output = w.output) ∧
      Calls Tryz.prog 53 #[.slice (some ⟨g, 0, none⟩) L.length cap] w1 fun e w2 => e = .returned (.slice (some ⟨g, 0, none⟩) (Nm.uniq L).length cap) ∧ (∀ k, k ≠ g → k < w.heap.size → w2.heap[k]? = w.heap[k]?) ∧ (w.heap.size ≤ w2.heap.size ∧ w2.os = w.os ∧ w2.tape = w.tape ∧ w2.output = w.output) ∧
        w2.ownsRow n0 9 1 (.slice (some ⟨g, 0, none⟩) (Nm.uniq L).length cap) (Nm.uniq L).length ((Nm.uniq L).map txtV) := by
  obtain ⟨g', cap', hv, hbg, hgl, hncap, hcm, hlen, hH⟩ := Lib.holds_of_ownsRow (enc := encStr) (zs := L) ho (by simp)
  cases hv
  refine (sort_str g 0 cap L w hH hgl (by omega)).mono ?_
  rintro e w1 ⟨rfl, n, os, rfl⟩
  rcases ho.2 with ⟨h0, _⟩ | ⟨g', cap', cur, hv, hbase, hb, m1, m2, m3, m4⟩
  · cases h0
  cases hv
  have hg := grownBy_sorted (w := w) (g := g) (n := n) (os := os) (Nm.srt L).toArray
  have hl2 : (Nm.srt L).length = L.length := (Nm.srt_perm L).length_eq
  have hs := ownsRow_sorted (base := n0) (n := n) (os := os) (ts := Nm.srt L) hl2 hbase hb m1 m2 m3
  refine ⟨rfl, fun k hk hkl => hg.block k hkl (fun e => hk (by cases e; rfl)), ⟨hg.size, hg.os, hg.tape, hg.output⟩, ?_⟩
  obtain ⟨W, hW⟩ : ∃ W, W = Go.Sort.grow (Go.Sort.putRow encStr (Go.Sort.ahead w n) g 0 (Nm.srt L).toArray) os := ⟨_, rfl⟩
  have hW' : Go.Sort.grow (Go.Sort.putRow encStr (Go.Sort.ahead w n) g 0 (L.mergeSort fun x y => decide (x ≤ y)).toArray) os = W := hW.symm
  rw [hW']
  rw [← hW] at hg hs
  obtain ⟨g2, cap2, hv2, -, hgl2, hncap2, -, hlen2, hH2⟩ := Lib.holds_of_ownsRow (enc := encStr) (zs := Nm.srt L) hs (by simp)
  cases hv2
  have hc := compact_str g 0 cap (Nm.srt L) W hH2 (by omega) (by omega)
  rw [hl2] at hc
  refine hc.mono ?_
  rintro e w2 ⟨rfl, q, rfl⟩
  have hle := Nm.uniq_len L
  have hu : (Lib.compact (Nm.srt L)) = Nm.uniq L := rfl
  rw [hu]
  have hys : (Nm.uniq L ++ List.replicate (L.length - (Nm.uniq L).length) []).length = L.length := by simp; omega
  have hown := Lib.ownsRow_putRow (q := q) (k := (Nm.uniq L).length) (ys := Nm.uniq L ++ List.replicate (L.length - (Nm.uniq L).length) []) hs hys hle
  rw [List.take_left] at hown
  refine ⟨rfl, fun k hk hkl => (put_other hk).trans (hg.block k hkl (fun e => hk (by cases e; rfl))), ⟨by rw [put_size]; exact hg.size, hg.os, hg.tape, hg.output⟩, hown⟩

end Go.Proofs.YtnndgjnihhafbaaGreatDoor

/-
  The walks of hunk.exchanged and hunk.Apply.
-/
import Derived.Test.YtflnakjffgobmabHnCatch
namespace Go.Proofs.Ytflnakjffgobmab
open Go.RowKit Go.Shelf

attribute [local go_sem] Oper.semAt_some

/-- What Apply tells: an error's number, and no lines; or lines in memory of their own. -/
def ApplyPost (r : Except Nat (List (List UInt8))) (w : World) (e : Ending) (w' : World) : Prop :=
  Below w.heap.size w w' ∧ match r with
  | .error c => e = .returned (.tuple #[.slice none 0 0, .int .i64 (c : Int)])
  | .ok o => ∃ tv, e = .returned (.tuple #[tv, .int .i64 0]) ∧ w'.ownsRow w.heap.size 9 1 tv o.length (o.map txtV)
/-- The end of Apply: an open line may have come amid others. -/
def ended (r : Except Nat (List (List UInt8))) : Except Nat (List (List UInt8)) :=
  match r with
  | .error e => .error e
  | .ok o => if Hn.lines o then .ok o else .error 4
theorem go_at (L : List (List UInt8)) (xs : List HA) (k f p : Nat) (O : List (List UInt8)) (x : HA) (hx : xs[k]? = some x) (hp : x.at_ = p) : Hn.go L f O ((xs.drop k).map HA.h) =
    if L.length < p + x.old.length then .error 6 else if (L.drop p).take x.old.length = x.old then Hn.go L (p + x.old.length) (O ++ (Df.part L f p ++ x.new)) ((xs.drop (k + 1)).map HA.h) else .error 121 := by
  have hk : k < xs.length := (List.getElem?_eq_some_iff.1 hx).1
  have e : xs.drop k = x :: xs.drop (k + 1) := by rw [List.drop_eq_getElem_cons hk, (List.getElem?_eq_some_iff.1 hx).2]
  rw [e, List.map_cons]
  simp only [Hn.go, HA.h, hp, Int.toNat_natCast]
  have e2 : (L.take p).drop f = Df.part L f p := by unfold Df.part; rw [List.drop_take]
  rw [e2]
def newSum (xs : List HA) : Nat := (xs.map fun x => x.new.length).sum
theorem newSum_at (xs : List HA) (k : Nat) (x : HA) (hx : xs[k]? = some x) : newSum (xs.drop k) = x.new.length + newSum (xs.drop (k + 1)) := by
  have hk : k < xs.length := (List.getElem?_eq_some_iff.1 hx).1
  have e : xs.drop k = x :: xs.drop (k + 1) := by rw [List.drop_eq_getElem_cons hk, (List.getElem?_eq_some_iff.1 hx).2]
  rw [e]; simp [newSum]

/-- Five new blocks. -/
theorem five_new (w : World) (a b c d e : Obj) : ∃ W, W = ((((w.alloc a).alloc b).alloc c).alloc d).alloc e ∧ Below w.heap.size w W ∧ W.heap[w.heap.size]? = some a ∧ W.heap[w.heap.size + 1]? = some b ∧ W.heap[w.heap.size + 2]? = some c ∧ W.heap[w.heap.size + 3]? = some d ∧ W.heap[w.heap.size + 4]? = some e := by
  have h1 := World.alloc_heap_new w a
  have h2 := World.alloc_heap_new (w.alloc a) b
  have h3 := World.alloc_heap_new ((w.alloc a).alloc b) c
  have h4 := World.alloc_heap_new (((w.alloc a).alloc b).alloc c) d
  have h5 := World.alloc_heap_new ((((w.alloc a).alloc b).alloc c).alloc d) e
  simp only [World.size_alloc] at h1 h2 h3 h4 h5
  have k2 := below_nw (w.alloc a) b
  have k3 := below_nw ((w.alloc a).alloc b) c
  have k4 := below_nw (((w.alloc a).alloc b).alloc c) d
  have k5 := below_nw ((((w.alloc a).alloc b).alloc c).alloc d) e
  have s1 := World.size_alloc w a
  have s2 := World.size_alloc (w.alloc a) b
  have s3 := World.size_alloc ((w.alloc a).alloc b) c
  have s4 := World.size_alloc (((w.alloc a).alloc b).alloc c) d
  refine ⟨_, rfl, ((((below_nw w a).alloc (by omega) b).alloc (by omega) c).alloc (by omega) d).alloc (by omega) e, ?_, ?_, ?_, ?_, h5⟩
  · exact (k5.block _ (by omega)).trans ((k4.block _ (by omega)).trans ((k3.block _ (by omega)).trans ((k2.block _ (by omega)).trans h1)))
  · exact (k5.block _ (by omega)).trans ((k4.block _ (by omega)).trans ((k3.block _ (by omega)).trans h2))
  · exact (k5.block _ (by omega)).trans ((k4.block _ (by omega)).trans h3)
  · exact (k5.block _ (by omega)).trans h4

/-- The two results' variables, written by the deferred closure. -/
theorem door_facts {W : World} {n : Nat} (d0 : W.heap[n]? = some (.cells #[.slice none 0 0] 22 (0, 0))) (d1 : W.heap[n + 1]? = some (.cells #[.int .i64 0] 27 (0, 0))) (c : Int) :
    W.cell? ⟨n, 0, none⟩ = some (.slice none 0 0) ∧ W.frozen? ⟨n, 0, none⟩ = false ∧ (W.setCell ⟨n, 0, none⟩ (.slice none 0 0)).cell? ⟨n + 1, 0, none⟩ = some (.int .i64 0) ∧ W.frozen? ⟨n + 1, 0, none⟩ = false ∧
    ((W.setCell ⟨n, 0, none⟩ (.slice none 0 0)).setCell ⟨n + 1, 0, none⟩ (.int .i64 c)).cell? ⟨n, 0, none⟩ = some (.slice none 0 0) ∧ ((W.setCell ⟨n, 0, none⟩ (.slice none 0 0)).setCell ⟨n + 1, 0, none⟩ (.int .i64 c)).cell? ⟨n + 1, 0, none⟩ = some (.int .i64 c) ∧
    Below n W ((W.setCell ⟨n, 0, none⟩ (.slice none 0 0)).setCell ⟨n + 1, 0, none⟩ (.int .i64 c)) := by
  have a0 := heap_setCell_same W n 0 _ _ (.slice none 0 0) d0
  have g1 := grown_set W n 0 (.slice none 0 0)
  have l1 := (Array.getElem?_eq_some_iff.1 d1).1
  have a1 : (W.setCell ⟨n, 0, none⟩ (.slice none 0 0)).heap[n + 1]? = some (.cells #[.int .i64 0] 27 (0, 0)) := (g1.block (n + 1) l1 (by simp)).trans d1
  have g2 := grown_set (W.setCell ⟨n, 0, none⟩ (.slice none 0 0)) (n + 1) 0 (.int .i64 c)
  have a2 := heap_setCell_same _ (n + 1) 0 _ _ (.int .i64 c) a1
  have a3 : ((W.setCell ⟨n, 0, none⟩ (.slice none 0 0)).setCell ⟨n + 1, 0, none⟩ (.int .i64 c)).heap[n]? = _ := (g2.block n (by have := g1.size; omega) (by simp)).trans a0
  refine ⟨?_, frozen_of_row _ _ 0 _ _ d0, ?_, frozen_of_row _ _ 0 _ _ d1, ?_, ?_, ?_⟩
  · rw [Lib.cell_of_heap d0]; rfl
  · rw [Lib.cell_of_heap a1]; rfl
  · rw [Lib.cell_of_heap a3]; rfl
  · rw [Lib.cell_of_heap a2]; rfl
  · refine ⟨g2.os.trans g1.os, g2.tape.trans g1.tape, g2.output.trans g1.output, Nat.le_trans g1.size g2.size, fun j hj => (g2.block j (by have := g1.size; omega) (fun e => by cases e; omega)).trans (g1.block j (by omega) (fun e => by cases e; omega))⟩

/-- The two results' variables, written at the end. -/
theorem door_told {W : World} {n : Nat} (d0 : W.heap[n]? = some (.cells #[.slice none 0 0] 22 (0, 0))) (d1 : W.heap[n + 1]? = some (.cells #[.int .i64 0] 27 (0, 0))) (t : Value) (c : Int) :
    W.cell? ⟨n, 0, none⟩ = some (.slice none 0 0) ∧ W.frozen? ⟨n, 0, none⟩ = false ∧ (W.setCell ⟨n, 0, none⟩ t).cell? ⟨n + 1, 0, none⟩ = some (.int .i64 0) ∧ W.frozen? ⟨n + 1, 0, none⟩ = false ∧
    ((W.setCell ⟨n, 0, none⟩ t).setCell ⟨n + 1, 0, none⟩ (.int .i64 c)).cell? ⟨n, 0, none⟩ = some t ∧ ((W.setCell ⟨n, 0, none⟩ t).setCell ⟨n + 1, 0, none⟩ (.int .i64 c)).cell? ⟨n + 1, 0, none⟩ = some (.int .i64 c) ∧
    Below n W ((W.setCell ⟨n, 0, none⟩ t).setCell ⟨n + 1, 0, none⟩ (.int .i64 c)) ∧ ∀ (B k : Nat) (v : Value) (xs : List Value), W.ownsRow B 9 1 v k xs → ((W.setCell ⟨n, 0, none⟩ t).setCell ⟨n + 1, 0, none⟩ (.int .i64 c)).ownsRow B 9 1 v k xs := by
  have a0 := heap_setCell_same W n 0 _ _ t d0
  have g1 := grown_set W n 0 t
  have l1 := (Array.getElem?_eq_some_iff.1 d1).1
  have a1 : (W.setCell ⟨n, 0, none⟩ t).heap[n + 1]? = some (.cells #[.int .i64 0] 27 (0, 0)) := (g1.block (n + 1) l1 (by simp)).trans d1
  have g2 := grown_set (W.setCell ⟨n, 0, none⟩ t) (n + 1) 0 (.int .i64 c)
  have a2 := heap_setCell_same _ (n + 1) 0 _ _ (.int .i64 c) a1
  have a3 : ((W.setCell ⟨n, 0, none⟩ t).setCell ⟨n + 1, 0, none⟩ (.int .i64 c)).heap[n]? = _ := (g2.block n (by have := g1.size; omega) (by simp)).trans a0
  refine ⟨?_, frozen_of_row _ _ 0 _ _ d0, ?_, frozen_of_row _ _ 0 _ _ d1, ?_, ?_, ?_, fun B k v xs h => owns_set (owns_set h d0 (by decide) 0 _) a1 (by decide) 0 _⟩
  · rw [Lib.cell_of_heap d0]; rfl
  · rw [Lib.cell_of_heap a1]; rfl
  · rw [Lib.cell_of_heap a3]; rfl
  · rw [Lib.cell_of_heap a2]; rfl
  · refine ⟨g2.os.trans g1.os, g2.tape.trans g1.tape, g2.output.trans g1.output, Nat.le_trans g1.size g2.size, fun j hj => (g2.block j (by have := g1.size; omega) (fun e => by cases e; omega)).trans (g1.block j (by omega) (fun e => by cases e; omega))⟩

/-- What is told, whatever it is: two values. -/
theorem ApplyPost.two {r : Except Nat (List (List UInt8))} {w w' : World} {e : Ending} (h : ApplyPost r w e w') : ∃ ta ao n cap c, e = .returned (.tuple #[ta, .int .i64 c]) ∧ ta = .slice ao n cap := by
  obtain ⟨-, h⟩ := h
  cases r with
  | error c => exact ⟨_, none, 0, 0, _, h, rfl⟩
  | ok o =>
    obtain ⟨tv, h1, h2⟩ := h
    obtain ⟨a, c, e⟩ := slice_shape h2
    exact ⟨tv, a, _, c, _, h1, e⟩
theorem ApplyPost.pre {r : Except Nat (List (List UInt8))} {w X w' : World} {e : Ending} (h : ApplyPost r X e w') (hb : Below w.heap.size w X) : ApplyPost r w e w' := by
  obtain ⟨h0, h⟩ := h
  refine ⟨hb.trans (h0.mono hb.size), ?_⟩
  cases r with
  | error c => exact h
  | ok o =>
    obtain ⟨tv, h1, h2⟩ := h
    exact ⟨tv, h1, owns_base h2 hb.size⟩

end Go.Proofs.Ytflnakjffgobmab

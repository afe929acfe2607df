/-
  What a rule of the reader does; how much it leaves; nodes that it makes.
-/
import Derived.Test.YtfegodofbdlbeaaGreatDoorRsStep
import Derived.Test.YtfegodofbdlbeaaGreatDoorPsShelf
namespace Go.Proofs.YtfegodofbdlbeaaGreatDoor
namespace Rs
open Ps (R Eats sees hd go)
section
variable {L : List Lx.Tok} {s s' s0 s1 s2 : St} {t : List UInt8} {J : Ps.Job} {x : Tr}
/-- No longer, if no fault is there. -/
def Sh (L : List Lx.Tok) (s s' : St) (d : Nat) : Prop := s'.E = 0 → s.E = 0 ∧ (rest L s').length + d ≤ (rest L s).length
theorem Sh.trans {a b : Nat} (h : Sh L s s1 a) (k : Sh L s1 s2 b) : Sh L s s2 (a + b) := fun h0 => by
  obtain ⟨e1, l1⟩ := k h0
  obtain ⟨e2, l2⟩ := h e1
  exact ⟨e2, by omega⟩
theorem Sh.less {a b : Nat} (h : Sh L s s1 a) (hb : b ≤ a) : Sh L s s1 b := fun h0 => ⟨(h h0).1, by have := (h h0).2; omega⟩
theorem Sh.refl (s : St) : Sh L s s 0 := fun h => ⟨h, Nat.le_refl _⟩
theorem tail_one {l : List Lx.Tok} (h : l ≠ []) : l.tail.length + 1 = l.length := by
  cases l with
  | nil => exact absurd rfl h
  | cons t r => simp
theorem want_sh (h : Good L s) : Sh L s (want L s t) 1 := fun h0 => by
  by_cases he : s.E = 0
  · rcases want_ways (L := L) (t := t) he with ⟨e1, -⟩ | ⟨-, -, -, e4⟩
    · omega
    · exact ⟨he, by rw [e4]; have := tail_one h.ends.ne; omega⟩
  · exact absurd h0 (want_kept.dead he)
theorem begin_sh (h : Good L s) : Sh L s (begin L s t) 1 := fun h0 => by
  by_cases he : s.E = 0
  · rcases begin_ways (t := t) h he with ⟨e1, -⟩ | ⟨e1, -⟩ | ⟨-, -, -, -, e4⟩
    · omega
    · omega
    · exact ⟨he, by rw [e4]; have := tail_one h.ends.ne; omega⟩
  · exact absurd h0 (begin_kept.dead he)
theorem adv_sh (h : Good L s) : Sh L s (adv s) 1 := fun h0 => ⟨h0, by rw [rest_adv]; have := tail_one h.ends.ne; omega⟩
theorem less_sh : Sh L s (less s) 0 := fun h0 => ⟨h0, Nat.le_refl _⟩
theorem endd_sh (h : Good L s) : Sh L s (endd L s t) 1 := (want_sh h).trans less_sh
theorem rel_sh (hF : Ps.Fit J) (h : Rel L J s x s') : Sh L s s' 0 := fun h0 => by
  by_cases he : s.E = 0
  · rcases h.live he with ⟨e1, -⟩ | ⟨-, -, n, hn⟩
    · exact absurd h0 e1
    · exact ⟨he, (Ps.go_len n J _ _ hF).1 _ _ hn⟩
  · exact absurd h0 (h.kept.dead he)
theorem rel_shs (hF : Ps.Fit J) (hC : Ps.Costs J) (h : Rel L J s x s') : Sh L s s' 1 := fun h0 => by
  by_cases he : s.E = 0
  · rcases h.live he with ⟨e1, -⟩ | ⟨-, -, n, hn⟩
    · exact absurd h0 e1
    · exact ⟨he, (Ps.go_len n J _ _ hF).2 hC _ _ hn⟩
  · exact absurd h0 (h.kept.dead he)
theorem live_pos (h : Good L s) : 1 ≤ (rest L s).length := List.length_pos_iff.2 h.ends.ne
theorem isB_good (h : Good L s) (hs : isB L s t = true) (ht : t ≠ []) : Good L (adv s) := seen_good h (isB_true hs).2 ht
end
end Rs
open Go.RowKit Go.Shelf
open Rs (St)

attribute [local go_sem] Oper.semAt_some

/-- What a rule ends with. -/
def REnd (L : List Lx.Tok) (J : Ps.Job) (b : Nat) (s : St) (w : World) (e : Ending) (w' : World) : Prop :=
  ∃ t v s', e = .returned v ∧ RAt b L s' w' ∧ Rs.Rel L J s t s' ∧ NodeR (newS w.heap.size w'.heap.size) w' v t
/-- What a rule's function does, where at most m tokens are left, or a fault is there. -/
def RDo (f : Nat) (J : Ps.Job) (more : List Value) (m : Nat) : Prop := ∀ (b : Nat) (L : List Lx.Tok) (s : St) (w : World), Known L → Rs.Good L s → RAt b L s w → (s.E = 0 → (Rs.rest L s).length ≤ m) →
  Calls Tryz.prog f (Value.pointer (some ⟨b, 0, none⟩) :: more).toArray w fun e w' => w.grownBy w' (some b) ∧ REnd L J b s w e w'
theorem RDo.less {f : Nat} {J : Ps.Job} {more : List Value} {m n : Nat} (h : RDo f J more m) (hn : n ≤ m) : RDo f J more n := fun b L s w hK hG hR hm => h b L s w hK hG hR (fun h0 => Nat.le_trans (hm h0) hn)

theorem RFrm.new {w : World} {b : Nat} {L : List Lx.Tok} {s : St} (h : RAt b L s w) : Frm w b (w.alloc (.cells #[.int .u8 0, .string ⟨#[]⟩, .int .i64 0, .slice none 0 0] 26)) :=
  ⟨h.lt, grown_low (below_new w _), World.alloc_heap_new w _⟩
/-- The result, stored in its box. -/
theorem Frm.finR {w W : World} {b : Nat} {L : List Lx.Tok} {s : St} {X : List Nat} {k : Int} {tx : List UInt8} {n : Int} {sa : Option Addr} {sL sc : Nat} {kids : List Tr} (h : Frm w b W) (hP : RAt b L s W) (hx : NF w W ⟨k, tx, n, .slice sa sL sc, kids⟩ X) :
    W.cell? ⟨w.heap.size, 0, none⟩ = some (.int .u8 0) ∧ (W.setCell ⟨w.heap.size, 0, none⟩ (.int .u8 k)).cell? ⟨w.heap.size, 1, none⟩ = some (.string ⟨#[]⟩) ∧ ((W.setCell ⟨w.heap.size, 0, none⟩ (.int .u8 k)).setCell ⟨w.heap.size, 1, none⟩ (.string (Ln.bs tx))).cell? ⟨w.heap.size, 2, none⟩ = some (.int .i64 0) ∧ (((W.setCell ⟨w.heap.size, 0, none⟩ (.int .u8 k)).setCell ⟨w.heap.size, 1, none⟩ (.string (Ln.bs tx))).setCell ⟨w.heap.size, 2, none⟩ (.int .i64 n)).cell? ⟨w.heap.size, 3, none⟩ = some (.slice none 0 0) ∧ (∀ j, W.frozen? ⟨w.heap.size, j, none⟩ = false) ∧
      ∃ Z, Z = (((W.setCell ⟨w.heap.size, 0, none⟩ (.int .u8 k)).setCell ⟨w.heap.size, 1, none⟩ (.string (Ln.bs tx))).setCell ⟨w.heap.size, 2, none⟩ (.int .i64 n)).setCell ⟨w.heap.size, 3, none⟩ (.slice sa sL sc) ∧ (Z.cell? ⟨w.heap.size, 0, none⟩ = some (.int .u8 k) ∧ Z.cell? ⟨w.heap.size, 1, none⟩ = some (.string (Ln.bs tx)) ∧ Z.cell? ⟨w.heap.size, 2, none⟩ = some (.int .i64 n) ∧ Z.cell? ⟨w.heap.size, 3, none⟩ = some (.slice sa sL sc)) ∧
        w.grownBy Z (some b) ∧ RAt b L s Z ∧ NodeR (newS w.heap.size Z.heap.size) Z (.agg #[.int .u8 k, .string (Ln.bs tx), .int .i64 n, .slice sa sL sc]) (.mk k tx n kids) := by
  obtain ⟨p0, p1, p2, p3, pf, Z, hZ, hZr, gz⟩ := box_put h.box (.int .u8 k) (.string (Ln.bs tx)) (.int .i64 n) (.slice sa sL sc)
  refine ⟨p0, p1, p2, p3, pf, Z, hZ, ⟨cells_at hZr rfl, cells_at hZr rfl, cells_at hZr rfl, cells_at hZr rfl⟩, grown_new h.grown gz (Nat.le_refl _), hP.beside gz h.box, ⟨k, tx, n, .slice sa sL sc, kids⟩, rfl, rfl, hx.fit, hx.row.keep (fun k hk => gz.block k hk.2.1 (by have := hk.1; simp; omega)) (fun k hk => ⟨by have := hk.1; omega, Nat.lt_of_lt_of_le hk.2.1 gz.size⟩)⟩

set_option maxRecDepth 100000 in
set_option maxHeartbeats 4000000 in
theorem rof_any (k : Int) (a : Option Addr) (n c : Nat) (w : World) : Calls Tryz.prog 91 #[.int .u8 k, .slice a n c] w fun e w' => e = .returned (.agg #[.int .u8 k, .string ⟨#[]⟩, .int .i64 0, .slice a n c]) ∧ Below w.heap.size w w' := by
  go_enter Tryz.func91, Tryz.ntmps91
  go_wp2
  refine bodyPost_ret (v := .agg #[.int .u8 k, .string ⟨#[]⟩, .int .i64 0, .slice a n c]) (by simp [results, Tryz.results91, go_sem]) rfl ⟨rfl, below_new w _⟩

theorem kindT_len {L : List Lx.Tok} {s : St} {q : Nat} (hg : Rs.Good L s) (hK : Known L) : (Rs.kindT L s q).length ≤ 1000000 := by
  unfold Rs.kindT
  split
  · exact (hK _ (hd_mem hg)).1.1
  · simp
set_option maxRecDepth 100000 in
set_option maxHeartbeats 4000000 in
theorem rnamed_any (k : Int) (b : Nat) (L : List Lx.Tok) (s : St) (w : World) (h : RAt b L s w) (hg : Rs.Good L s) (hK : Known L) (hk : 0 ≤ k ∧ k ≤ 255) : Calls Tryz.prog 38 #[.pointer (some ⟨b, 0, none⟩), .int .u8 k] w fun e w' => e = .returned (.agg #[.int .u8 k, .string (Ln.bs (Rs.kindT L s 1)), .int .i64 0, .slice none 0 0]) ∧ RStep b L (Rs.kindS L s 1) w w' := by
  obtain ⟨A, hA⟩ : ∃ A, A = w.alloc (.cells #[.int .u8 0, .string ⟨#[]⟩, .int .i64 0, .slice none 0 0] 26) := ⟨_, rfl⟩
  have FR : Hid (Frm w b A) := hA ▸ RFrm.new h
  have bA : Below w.heap.size w A := hA ▸ below_new w _
  have HK : Hid (_) := rkind_any b L s 1 A (h.below bA) hg
  have HL : Hid (Below w.heap.size w A) := bA
  have HT : Hid ((Rs.kindT L s 1).length ≤ 1000000) := kindT_len hg hK
  clear h hg bA
  go_enter Tryz.func38, Tryz.ntmps38
  go_wp2_with fail
  rw [← hA]
  clear hA
  refine Calls.mono HK.out ?_
  rintro e w1 ⟨rfl, h1⟩
  replace FR : Hid (Frm w b w1) := FR.out.go h1.1
  have N1 : NF w w1 ⟨k, Rs.kindT L s 1, 0, .slice none 0 0, []⟩ [] := NF.leaf w w1 [] k _ 0 hk HT.out (by omega)
  obtain ⟨p0, p1, p2, p3, pf, Z, hZ, ⟨r0, r1, r2, r3⟩, z1, z2, z3⟩ := FR.out.finR h1.2 N1
  have HF : Hid (RStep b L (Rs.kindS L s 1) w Z) := ⟨z1, z2⟩
  clear h1 z1 z2 z3 HK N1
  go_wp2
  rw [← hZ]
  refine bodyPost_ret (v := .agg #[.int .u8 k, .string (Ln.bs (Rs.kindT L s 1)), .int .i64 0, .slice none 0 0]) (by simp [results, Tryz.results38, go_sem, r0, r1, r2, r3]) rfl ⟨rfl, HF.out⟩
end Go.Proofs.YtfegodofbdlbeaaGreatDoor

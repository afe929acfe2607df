/-
  The walk of the function that yields the hunks (diff.between, and the function that it makes).
-/
import Derived.Test.YtpcinbfelikgpaaHeld
import Derived.Test.YtpcinbfelikgpaaCopied
import Derived.Test.YtpcinbfelikgpaaCommon
namespace Go.Proofs.Ytpcinbfelikgpaa
open Go.RowKit Go.Shelf

attribute [local go_sem] Oper.semAt_some

/-- A hunk that is yielded: its values, and the lines that they read as. -/
structure HV where
  at_ : Nat
  vo : Value
  vn : Value
  old : List (List UInt8)
  new : List (List UInt8)
def HV.hk (x : HV) : Df.Hk (List UInt8) := ⟨x.at_, x.old, x.new⟩
def HV.val (x : HV) : Value := hkV x.at_ x.vo x.vn
/-- The blocks in which lines of hunks lie. -/
def bl (xs : List HV) : List Nat := (xs.flatMap fun x => [x.vo, x.vn]).filterMap Value.ownBlock
theorem bl_append (xs ys : List HV) : bl (xs ++ ys) = bl xs ++ bl ys := by simp [bl]
/-- Its lines lie in memory of its own. -/
def HV.Ok (B : Nat) (x : HV) (W : World) : Prop := W.ownsRow B 9 1 x.vo x.old.length (x.old.map txtV) ∧ W.ownsRow B 9 1 x.vn x.new.length (x.new.map txtV)

/-- What lay below n is as it was; and whatever holds neither hunks nor rows of them. -/
def Keep (n : Nat) (W W' : World) : Prop := Below n W W' ∧ ∀ (k : Nat) (c : Array Value) (t : TypeId) (fr : Nat × Nat), W.heap[k]? = some (.cells c t fr) → t ≠ 23 → t ≠ 41 → W'.heap[k]? = some (.cells c t fr)
theorem Keep.trans {n : Nat} {A B C : World} (h : Keep n A B) (k : Keep n B C) : Keep n A C := ⟨h.1.trans k.1, fun j c t fr hj h1 h2 => k.2 j c t fr (h.2 j c t fr hj h1 h2) h1 h2⟩
theorem Keep.of_below {n : Nat} {A B : World} (h : Below A.heap.size A B) (hn : n ≤ A.heap.size) : Keep n A B :=
  ⟨h.mono hn, fun j _ _ _ hj _ _ => (h.block j (Array.getElem?_eq_some_iff.1 hj).1).trans hj⟩
theorem Keep.boxed {n : Nat} {A B : World} (h : Keep n A B) {b : Nat} {t : TypeId} {v : Value} (hb : Boxed A b t v) (h1 : t ≠ 23) (h2 : t ≠ 41) : Boxed B b t v := h.2 b _ t _ hb h1 h2
theorem Keep.owns {n B k size : Nat} {A C : World} (h : Keep n A C) {e : TypeId} {v : Value} {xs : List Value} (ho : A.ownsRow B e size v k xs) (h1 : e ≠ 23) (h2 : e ≠ 41) : C.ownsRow B e size v k xs := by
  refine ⟨ho.1, ?_⟩
  rcases ho.2 with h0 | ⟨g, cap, cur, hv, hb, hg, h3⟩
  · exact .inl h0
  · exact .inr ⟨g, cap, cur, hv, hb, h.2 g _ _ _ hg h1 h2, h3⟩

set_option maxRecDepth 100000 in
/-- A part of a row of texts. -/
theorem slice_row {m : Nat} {W : World} {v : Value} {A : List (List UInt8)} {i k : Nat} (h : RowLow m W v A) (hi : i ≤ k) (hk : k ≤ A.length) :
    ∃ v', (∀ w, (Instr.slice 22 v (some (.int .i64 i)) (some (.int .i64 k)) none).run Try.prog w = .ok v' w) ∧ RowLow m W v' (Df.part A i k) := by
  obtain ⟨ao, cap, b, off, rfl, ⟨hcap, hnone⟩, ha, hc⟩ := h
  have hr : ∀ w, (Instr.slice 22 (.slice ao A.length cap) (some (.int .i64 i)) (some (.int .i64 k)) none).run Try.prog w = .ok (.slice (if cap = i then ao else ao.map (·.add (i * 1))) (k - i) (cap - i)) w := by
    intro w
    have h1 := run_slice_lh (P := Try.prog) w 22 ao A.length cap Try.underlying22 .i64 .i64 i k (by omega) (by omega) (by omega)
    have h2 : (sizeOf (Try.prog.elem 22)).run Try.prog w = .ok 1 w := by rfl
    rw [h1, h2]
    simp [Result.andThen, sliced]
  refine ⟨_, hr, ?_⟩
  have hl : (Df.part A i k).length = k - i := Df.part_length A i k hk
  refine ⟨_, cap - i, b, off + i, by rw [hl], ⟨by omega, fun e => ?_⟩, fun h0 => ?_, fun j x hj => ?_⟩
  · have e0 : ao = none := by
      by_cases h9 : cap = i
      · rw [if_pos h9] at e; exact e
      · rw [if_neg h9] at e; simpa using e
    have := hnone e0; omega
  · obtain ⟨e1, e2⟩ := ha (by omega)
    rw [if_neg (by omega), e1]
    refine ⟨?_, e2⟩
    cases i <;> simp [Addr.add]
  · rw [Nat.add_assoc]
    refine hc (i + j) x ?_
    rw [List.getElem?_map] at hj ⊢
    unfold Df.part at hj
    rw [List.getElem?_take] at hj
    split at hj
    · rw [List.getElem?_drop] at hj; exact hj
    · simp at hj

/-- Pairs between which there are parts of both rows. -/
def Steps (a b : Nat) : Nat → Nat → List (Nat × Nat) → Prop
  | _, _, [] => True
  | i, j, p :: ps => i ≤ p.1 ∧ p.1 ≤ a ∧ j ≤ p.2 ∧ p.2 ≤ b ∧ Steps a b (p.1 + 1) (p.2 + 1) ps
theorem steps_of_good {α : Type} {A B : List α} : ∀ (ps : List (Nat × Nat)) (i j : Nat), i ≤ A.length → j ≤ B.length → Df.Good A B i j ps → Steps A.length B.length i j (ps ++ [(A.length, B.length)])
  | [], i, j, hi, hj, _ => ⟨hi, Nat.le_refl _, hj, Nat.le_refl _, trivial⟩
  | p :: ps, i, j, hi, hj, hg => by
    have hge := hg.ge p List.mem_cons_self
    have hlt := hg.lt p List.mem_cons_self
    have hr := List.pairwise_cons.1 hg.rise
    exact ⟨hge.1, by omega, hge.2, by omega, steps_of_good ps (p.1 + 1) (p.2 + 1) (by omega) (by omega)
      ⟨fun q hq => by have := hr.1 q hq; omega, fun q hq => hg.lt q (List.mem_cons_of_mem _ hq), fun q hq => hg.same q (List.mem_cons_of_mem _ hq), hr.2⟩⟩

theorem pair_cells {w : World} {B g cap : Nat} {ps : List (Nat × Nat)} (h : w.ownsRow B 115 2 (.slice (some ⟨g, 0, none⟩) ps.length cap) ps.length (pairCells ps)) (k : Nat) (p : Nat × Nat) (hp : ps[k]? = some p) :
    w.cell? ⟨g, k * 2, none⟩ = some (.int .i64 p.1) ∧ w.cell? ⟨g, k * 2 + 1, none⟩ = some (.int .i64 p.2) := by
  have hk : k < ps.length := (List.getElem?_eq_some_iff.1 hp).1
  have hget : ∀ (qs : List (Nat × Nat)) (k : Nat), qs[k]? = some p → (pairCells qs)[k * 2]? = some (numV p.1) ∧ (pairCells qs)[k * 2 + 1]? = some (numV p.2) := by
    intro qs
    induction qs with
    | nil => intro k hk; simp at hk
    | cons q qs ih =>
      intro k hk
      have e : pairCells (q :: qs) = numV q.1 :: numV q.2 :: pairCells qs := rfl
      rw [e]
      cases k with
      | zero => simp at hk; subst hk; simp
      | succ k =>
        have e1 : (k + 1) * 2 = k * 2 + 1 + 1 := by omega
        rw [e1]
        simpa using ih k (by simpa using hk)
  obtain ⟨h1, h2⟩ := hget ps k hp
  rw [h.cellAt (k * 2) (by omega), h.cellAt (k * 2 + 1) (by omega)]
  exact ⟨h1, h2⟩

theorem bl_one {w : World} {q n2 : Nat} {x : HV} {L2 : List Value} (hq : ∀ b, x.vo.ownBlock = some b → b < q) (h2 : w.ownsRow q 9 1 x.vn n2 L2) : (bl [x]).Pairwise (· < ·) := by
  have e : bl [x] = [x.vo, x.vn].filterMap Value.ownBlock := by simp [bl]
  rw [e]
  cases h3 : x.vo.ownBlock with
  | none => cases h4 : x.vn.ownBlock <;> simp [h3, h4]
  | some b =>
    cases h4 : x.vn.ownBlock with
    | none => simp [h3, h4]
    | some c =>
      have := hq b h3
      have := (h2.lt c h4).1
      simp [h3, h4]; omega
theorem bl_bounds {w : World} {B q n1 n2 : Nat} {x : HV} {L1 L2 : List Value} (h1 : w.ownsRow B 9 1 x.vo n1 L1) (h2 : w.ownsRow q 9 1 x.vn n2 L2) (hB : B ≤ q) : ∀ b ∈ bl [x], B ≤ b ∧ b < w.heap.size := by
  intro b hb
  have e : bl [x] = [x.vo, x.vn].filterMap Value.ownBlock := by simp [bl]
  rw [e, List.mem_filterMap] at hb
  obtain ⟨v, hv, hvb⟩ := hb
  simp at hv
  rcases hv with rfl | rfl
  · exact h1.lt b hvb
  · have := h2.lt b hvb; omega

set_option maxRecDepth 100000 in
set_option maxHeartbeats 8000000 in
theorem between1_in (n : Nat) (hn : 1 ≤ n) (l n₀ Be Ba Bb ge cap : Nat) (va vb : Value) (A B : List (List UInt8)) (ends : List (Nat × Nat)) (hst : Steps A.length B.length 0 0 ends) (hlen : ends.length ≤ 100000)
    (hA : A.length ≤ 1000000) (hB : B.length ≤ 1000000) (sA : ∀ x ∈ A, x.length ≤ 1000000) (sB : ∀ x ∈ B, x.length ≤ 1000000)
    (J : List HV → World → Prop) (hJ : ∀ s W W', J s W → Below W.heap.size W W' → J s W')
    (hY : ∀ pre x W, J pre W → HV.Ok n₀ x W → pre.length < ends.length → YieldAt Fence.wide (n - 1) Try.prog l #[x.val] W fun e W' => e = .returned (.bool true) ∧ J (pre ++ [x]) W' ∧ Keep n₀ W W')
    (W : World) (be : Boxed W Be 80 (.slice (some ⟨ge, 0, none⟩) ends.length cap)) (ba : Boxed W Ba 22 va) (bb : Boxed W Bb 22 vb) (oe : W.ownsRow n₀ 115 2 (.slice (some ⟨ge, 0, none⟩) ends.length cap) ends.length (pairCells ends))
    (ra : RowLow n₀ W va A) (rb : RowLow n₀ W vb B) (hn0 : n₀ ≤ W.heap.size) (h0 : J [] W) :
    CallsIn Fence.wide n Try.prog 76 #[.func (.yield l) #[] #[], .pointer (some ⟨Be, 0, none⟩), .pointer (some ⟨Ba, 0, none⟩), .pointer (some ⟨Bb, 0, none⟩)] W fun e W' => (∃ v, e = .returned v) ∧
      ∃ xs, (xs.map HV.hk = Df.hks A B 0 0 ends ∧ (bl xs).Pairwise (· < ·)) ∧ J xs W' := by
  have ce := be.cell
  refine callsIn_of_wp Try.func76 rfl trivial ?_ rfl
  simp only [Try.ntmps76, List.size_toArray, List.length_cons, List.length_nil, Nat.reduceAdd, Nat.reduceSub, Array.replicate_succ, Array.replicate_zero, List.push_toArray, List.append_toArray, List.nil_append, List.cons_append]
  gi_wp2
  gi_loopw [5, 6, 11] (fun u v t wr => ∃ (k i j : Nat) (pre : List HV), k ≤ ends.length ∧ i ≤ 1000001 ∧ j ≤ 1000001 ∧ u = .int .i64 i ∧ v = .int .i64 j ∧ t = .int .i64 k ∧ J pre wr ∧ pre.length ≤ k ∧ pre.map HV.hk ++ Df.hks A B i j (ends.drop k) = Df.hks A B 0 0 ends ∧
    (bl pre).Pairwise (· < ·) ∧ (∀ b ∈ bl pre, b < wr.heap.size) ∧ Steps A.length B.length i j (ends.drop k) ∧ Keep n₀ W wr) (fun _ _ t _ => ends.length - (intOf t).toNat)
  case atStart =>
    exact ⟨0, 0, 0, [], Nat.zero_le _, by omega, by omega, rfl, rfl, rfl, h0, Nat.le_refl _, rfl, List.Pairwise.nil, fun b hb => by simp [bl] at hb, hst, Below.refl _ _, fun _ _ _ _ h _ _ => h⟩
  case round =>
    obtain ⟨k, i, j, pre, hk, hi, hj, rfl, rfl, rfl, hJs, hpl, hps, hri, hbb, hsp, hkp⟩ := hrel
    have HP : Hid (pre.map HV.hk ++ Df.hks A B i j (ends.drop k) = Df.hks A B 0 0 ends) := hps
    clear hps ce
    by_cases hlt : k < ends.length
    · obtain ⟨p, hp⟩ : ∃ p, ends[k]? = some p := ⟨ends[k], List.getElem?_eq_getElem hlt⟩
      have hdr := Df.drop_at hp
      rw [hdr] at hsp
      obtain ⟨hx1, hx2, hy1, hy2, hsp'⟩ := hsp
      have HP2 : Hid (pre.map HV.hk ++ ((if i < p.1 ∨ j < p.2 then [⟨i, Df.part A i p.1, Df.part B j p.2⟩] else []) ++ Df.hks A B (p.1 + 1) (p.2 + 1) (ends.drop (k + 1))) = Df.hks A B 0 0 ends) := by
        have := HP.out
        rw [hdr] at this
        exact this
      have oe1 := hkp.owns oe (by decide) (by decide)
      obtain ⟨c0, c1⟩ := pair_cells oe1 k p hp
      obtain ⟨x, y⟩ := p
      simp only at c0 c1 hx1 hx2 hy1 hy2
      have ca := (hkp.boxed ba (by decide) (by decide)).cell
      have cb := (hkp.boxed bb (by decide) (by decide)).cell
      have SP : Hid (Steps A.length B.length (x + 1) (y + 1) (ends.drop (k + 1))) := hsp'
      obtain ⟨va', ha1, ha2⟩ := slice_row (ra.below hkp.1 (Nat.le_refl _)) hx1 hx2
      obtain ⟨vb', hb1, hb2⟩ := slice_row (rb.below hkp.1 (Nat.le_refl _)) hy1 hy2
      clear hdr hsp' HP hp hst
      gi_wp2
      obtain ⟨V, hV⟩ : ∃ V, V = wr.alloc (.cells #[.int .i64 x, .int .i64 y] 115) := ⟨_, rfl⟩
      have hbV : Below wr.heap.size wr V := by rw [hV]; exact (Below.refl _ wr).alloc (Nat.le_refl _) _
      have hhV : V.heap[wr.heap.size]? = some (.cells #[.int .i64 x, .int .i64 y] 115 (0, 0)) := by rw [hV]; exact World.alloc_heap_new wr _
      have hsV : V.heap.size = wr.heap.size + 1 := by rw [hV]; simp
      rw [← hV]
      clear hV
      have p0 : V.cell? ⟨wr.heap.size, 0, none⟩ = some (.int .i64 x) := by rw [Lib.cell_of_heap hhV]; rfl
      have p1 : V.cell? ⟨wr.heap.size, 1, none⟩ = some (.int .i64 y) := by rw [Lib.cell_of_heap hhV]; rfl
      have hn0r : n₀ ≤ wr.heap.size := Nat.le_trans hn0 hkp.1.size
      have hkpV : Keep n₀ W V := hkp.trans (Keep.of_below hbV hn0r)
      have ca' : V.cell? ⟨Ba, 0, none⟩ = some va := (hkpV.boxed ba (by decide) (by decide)).cell
      have cb' : V.cell? ⟨Bb, 0, none⟩ = some vb := (hkpV.boxed bb (by decide) (by decide)).cell
      have rV1 : RowLow n₀ V.drew va' (Df.part A i x) := ha2.below (below_drewN hbV 1) hn0r
      have rV2 : RowLow n₀ V.drew vb' (Df.part B j y) := hb2.below (below_drewN hbV 1) hn0r
      have jV : J pre V.drew := hJ _ _ _ (hJ _ _ _ hJs hbV) (below_drewN (Below.refl _ _) 1)
      have l1 : (Df.part A i x).length ≤ 1000000 := by rw [Df.part_length _ _ _ hx2]; omega
      have l2 : (Df.part B j y).length ≤ 1000000 := by rw [Df.part_length _ _ _ hy2]; omega
      have m1 : ∀ z ∈ Df.part A i x, z.length ≤ 1000000 := fun z hz => sA z (List.mem_of_mem_drop (List.mem_of_mem_take hz))
      have m2 : ∀ z ∈ Df.part B j y, z.length ≤ 1000000 := fun z hz => sB z (List.mem_of_mem_drop (List.mem_of_mem_take hz))
      have hsz : n₀ ≤ V.drew.heap.size := by show n₀ ≤ V.heap.size; omega
      have EX : Hid (CallsIn Fence.wide (n - 1) Try.prog 77 #[.int .i64 i, va', vb'] V.drew _) := callsIn_wide.2 (exchange_any i _ _ va' vb' V.drew n₀ rV1 rV2 hsz l1 l2 m1 m2)
      have bA : Hid (Boxed V Ba 22 va) := hkpV.boxed ba (by decide) (by decide)
      have bB : Hid (Boxed V Bb 22 vb) := hkpV.boxed bb (by decide) (by decide)
      have HV0 : Hid (V.heap[wr.heap.size]? = some (.cells #[.int .i64 x, .int .i64 y] 115 (0, 0))) := hhV
      have lba : Ba < V.heap.size := bA.out.lt
      have lbb : Bb < V.heap.size := bB.out.lt
      clear ha2 hb2 rV1 rV2 l1 l2 m1 m2 ca cb c0 c1 ra rb sA sB be ba bb hJs
      by_cases hix : i < x
      · have d1 : decide ((i : Int) < (x : Int)) = true := by simp; omega
        have d2 : decide (i < x) = true := by simp; omega
        refine region_lex (fun w' => w'.cell? ⟨wr.heap.size, 0, none⟩ = some (.int .i64 x) ∧ w'.cell? ⟨wr.heap.size, 1, none⟩ = some (.int .i64 y) ∧ w'.cell? ⟨Ba, 0, none⟩ = some va ∧ w'.cell? ⟨Bb, 0, none⟩ = some vb) 23 4 rfl (by kernel_rfl) (by kernel_rfl) (by kernel_rfl) (by kernel_rfl) (fun _ _ d _ _ h => by cases d <;> exact h) ⟨p0, p1, ca', cb'⟩ ?_
        simp only [List.take_succ_cons, List.take_zero]
        iterate 23 (first
          | (apply lexC_want
             · rfl
             · exact fun _ => rfl
             · (intro w' hw'; obtain ⟨q0, q1, q2, q3⟩ := hw'; go_simp; try rfl)
             simp only [Act.put, List.setIfInBounds_toArray, List.set_cons_zero, List.set_cons_succ])
          | (apply lexC_skip
             · rfl
             · exact fun _ => rfl
             simp only [Act.put, List.setIfInBounds_toArray, List.set_cons_zero, List.set_cons_succ]))
        refine lexC_nil ?_
        refine anyC_one (i := 23) (by kernel_rfl) rfl (by rfl) (fun K1 hK1 => ?_)
        go_simp
        refine ⟨trivial, ?_⟩
        refine EX.out.mono ?_
        rintro e w1 ⟨r1, r2, q, rfl, ho1, hq1, hq, ho2, hbx⟩
        have hbx' : Below V.heap.size V w1 := (below_drewN (Below.refl _ V) 1).trans hbx
        obtain ⟨fn, tm, asg, bdy, hy, hR⟩ := hY pre ⟨i, r1, r2, Df.part A i x, Df.part B j y⟩ w1 (hJ _ _ _ jV hbx) ⟨owns_base ho1 hsz, owns_base ho2 (Nat.le_trans hsz hq)⟩ (by omega)
        simp only [HV.val, hkV] at hy
        refine hK1 _ _ ⟨(hbx'.cell (p := ⟨wr.heap.size, 0, none⟩) (by show wr.heap.size < V.heap.size; omega)).trans p0, (hbx'.cell (p := ⟨wr.heap.size, 1, none⟩) (by show wr.heap.size < V.heap.size; omega)).trans p1, (hbx'.cell (p := ⟨Ba, 0, none⟩) lba).trans ca', (hbx'.cell (p := ⟨Bb, 0, none⟩) lbb).trans cb'⟩ ?_
        refine anyC_one (i := 24) (by kernel_rfl) rfl (by rfl) (fun K2 hK2 => ?_)
        simp only [hkV]
        go_simp
        refine hR.mono ?_
        rintro e W3 ⟨rfl, hJ3, hk3⟩
        have hh3 : W3.heap[wr.heap.size]? = some (.cells #[.int .i64 x, .int .i64 y] 115 (0, 0)) := hk3.2 _ _ _ _ ((hbx'.block _ (by omega)).trans HV0.out) (by decide) (by decide)
        have t0 : W3.cell? ⟨wr.heap.size, 0, none⟩ = some (.int .i64 x) := by rw [Lib.cell_of_heap hh3]; rfl
        have t1 : W3.cell? ⟨wr.heap.size, 1, none⟩ = some (.int .i64 y) := by rw [Lib.cell_of_heap hh3]; rfl
        have bA3 : Boxed W3 Ba 22 va := hk3.boxed (show Boxed w1 Ba _ va from (hbx'.block _ lba).trans bA.out) (by decide) (by decide)
        have bB3 : Boxed W3 Bb 22 vb := hk3.boxed (show Boxed w1 Bb _ vb from (hbx'.block _ lbb).trans bB.out) (by decide) (by decide)
        have HK3 : Hid (Keep n₀ W W3) := (hkpV.trans (Keep.of_below hbx' (by omega))).trans hk3
        have s1 := hbx'.size
        have s3 := hk3.1.size
        refine hK2 _ _ ⟨t0, t1, bA3.cell, bB3.cell⟩ ?_
        refine anyC_one (i := 25) (by kernel_rfl) rfl (by rfl) (fun K3 hK3 => ?_)
        go_simp
        refine hK3 _ _ ⟨t0, t1, bA3.cell, bB3.cell⟩ ?_
        refine anyC_one (i := 26) (by kernel_rfl) rfl (by rfl) (fun K4 hK4 => ?_)
        go_simp
        refine hK4 _ _ ⟨t0, t1, bA3.cell, bB3.cell⟩ ?_
        refine anyC_done (by kernel_rfl) ?_
        have ho1' := owns_below ho1 (Below.refl _ _)
        clear hK1 hK2 hK3 hK4 hR hy bA3 bB3 hh3
        gi_wp2
        gi_region
        all_goals gi_wp2
        go_roundw
        case rel =>
          refine ⟨k + 1, x + 1, y + 1, pre ++ [⟨i, r1, r2, Df.part A i x, Df.part B j y⟩], by omega, by omega, by omega, by go_num, by go_num, by go_num, hJ _ _ _ hJ3 (below_drewN (Below.refl _ _) 1), by simp; omega, ?_, ?_, ?_, SP.out, HK3.out.trans (Keep.of_below (below_drewN (Below.refl _ _) 1) (by omega))⟩
          · rw [← HP2.out, if_pos (by show i < x ∨ j < y; omega), List.map_append, List.append_assoc]; rfl
          · rw [bl_append, List.pairwise_append]
            refine ⟨hri, bl_one hq1 ho2, fun b hb c hc => ?_⟩
            have h8 := hbb b hb
            have h9 := (bl_bounds ho1 ho2 hq c hc).1
            have h7 : V.drew.heap.size = V.heap.size := rfl
            omega
          · intro b hb
            rw [bl_append, List.mem_append] at hb
            show b < W3.heap.size
            rcases hb with hb | hb
            · have := hbb b hb; omega
            · have := (bl_bounds ho1 ho2 hq b hb).2; omega
        case measure => simp [intOf]; omega
      · have d1 : decide ((i : Int) < (x : Int)) = false := by simp; omega
        have d2 : decide (i < x) = false := by simp; omega
        by_cases hjy : j < y
        · have d3 : decide ((j : Int) < (y : Int)) = true := by simp; omega
          have d4 : decide (j < y) = true := by simp; omega
          refine region_lex (fun w' => w'.cell? ⟨wr.heap.size, 0, none⟩ = some (.int .i64 x) ∧ w'.cell? ⟨wr.heap.size, 1, none⟩ = some (.int .i64 y) ∧ w'.cell? ⟨Ba, 0, none⟩ = some va ∧ w'.cell? ⟨Bb, 0, none⟩ = some vb) 23 4 rfl (by kernel_rfl) (by kernel_rfl) (by kernel_rfl) (by kernel_rfl) (fun _ _ d _ _ h => by cases d <;> exact h) ⟨p0, p1, ca', cb'⟩ ?_
          simp only [List.take_succ_cons, List.take_zero]
          iterate 23 (first
            | (apply lexC_want
               · rfl
               · exact fun _ => rfl
               · (intro w' hw'; obtain ⟨q0, q1, q2, q3⟩ := hw'; go_simp; try rfl)
               simp only [Act.put, List.setIfInBounds_toArray, List.set_cons_zero, List.set_cons_succ])
            | (apply lexC_skip
               · rfl
               · exact fun _ => rfl
               simp only [Act.put, List.setIfInBounds_toArray, List.set_cons_zero, List.set_cons_succ]))
          refine lexC_nil ?_
          refine anyC_one (i := 23) (by kernel_rfl) rfl (by rfl) (fun K1 hK1 => ?_)
          go_simp
          refine ⟨trivial, ?_⟩
          refine EX.out.mono ?_
          rintro e w1 ⟨r1, r2, q, rfl, ho1, hq1, hq, ho2, hbx⟩
          have hbx' : Below V.heap.size V w1 := (below_drewN (Below.refl _ V) 1).trans hbx
          obtain ⟨fn, tm, asg, bdy, hy, hR⟩ := hY pre ⟨i, r1, r2, Df.part A i x, Df.part B j y⟩ w1 (hJ _ _ _ jV hbx) ⟨owns_base ho1 hsz, owns_base ho2 (Nat.le_trans hsz hq)⟩ (by omega)
          simp only [HV.val, hkV] at hy
          refine hK1 _ _ ⟨(hbx'.cell (p := ⟨wr.heap.size, 0, none⟩) (by show wr.heap.size < V.heap.size; omega)).trans p0, (hbx'.cell (p := ⟨wr.heap.size, 1, none⟩) (by show wr.heap.size < V.heap.size; omega)).trans p1, (hbx'.cell (p := ⟨Ba, 0, none⟩) lba).trans ca', (hbx'.cell (p := ⟨Bb, 0, none⟩) lbb).trans cb'⟩ ?_
          refine anyC_one (i := 24) (by kernel_rfl) rfl (by rfl) (fun K2 hK2 => ?_)
          simp only [hkV]
          go_simp
          refine hR.mono ?_
          rintro e W3 ⟨rfl, hJ3, hk3⟩
          have hh3 : W3.heap[wr.heap.size]? = some (.cells #[.int .i64 x, .int .i64 y] 115 (0, 0)) := hk3.2 _ _ _ _ ((hbx'.block _ (by omega)).trans HV0.out) (by decide) (by decide)
          have t0 : W3.cell? ⟨wr.heap.size, 0, none⟩ = some (.int .i64 x) := by rw [Lib.cell_of_heap hh3]; rfl
          have t1 : W3.cell? ⟨wr.heap.size, 1, none⟩ = some (.int .i64 y) := by rw [Lib.cell_of_heap hh3]; rfl
          have bA3 : Boxed W3 Ba 22 va := hk3.boxed (show Boxed w1 Ba _ va from (hbx'.block _ lba).trans bA.out) (by decide) (by decide)
          have bB3 : Boxed W3 Bb 22 vb := hk3.boxed (show Boxed w1 Bb _ vb from (hbx'.block _ lbb).trans bB.out) (by decide) (by decide)
          have HK3 : Hid (Keep n₀ W W3) := (hkpV.trans (Keep.of_below hbx' (by omega))).trans hk3
          have s1 := hbx'.size
          have s3 := hk3.1.size
          refine hK2 _ _ ⟨t0, t1, bA3.cell, bB3.cell⟩ ?_
          refine anyC_one (i := 25) (by kernel_rfl) rfl (by rfl) (fun K3 hK3 => ?_)
          go_simp
          refine hK3 _ _ ⟨t0, t1, bA3.cell, bB3.cell⟩ ?_
          refine anyC_one (i := 26) (by kernel_rfl) rfl (by rfl) (fun K4 hK4 => ?_)
          go_simp
          refine hK4 _ _ ⟨t0, t1, bA3.cell, bB3.cell⟩ ?_
          refine anyC_done (by kernel_rfl) ?_
          have ho1' := owns_below ho1 (Below.refl _ _)
          clear hK1 hK2 hK3 hK4 hR hy bA3 bB3 hh3
          gi_wp2
          gi_region
          all_goals gi_wp2
          go_roundw
          case rel =>
            refine ⟨k + 1, x + 1, y + 1, pre ++ [⟨i, r1, r2, Df.part A i x, Df.part B j y⟩], by omega, by omega, by omega, by go_num, by go_num, by go_num, hJ _ _ _ hJ3 (below_drewN (Below.refl _ _) 1), by simp; omega, ?_, ?_, ?_, SP.out, HK3.out.trans (Keep.of_below (below_drewN (Below.refl _ _) 1) (by omega))⟩
            · rw [← HP2.out, if_pos (by show i < x ∨ j < y; omega), List.map_append, List.append_assoc]; rfl
            · rw [bl_append, List.pairwise_append]
              refine ⟨hri, bl_one hq1 ho2, fun b hb c hc => ?_⟩
              have h8 := hbb b hb
              have h9 := (bl_bounds ho1 ho2 hq c hc).1
              have h7 : V.drew.heap.size = V.heap.size := rfl
              omega
            · intro b hb
              rw [bl_append, List.mem_append] at hb
              show b < W3.heap.size
              rcases hb with hb | hb
              · have := hbb b hb; omega
              · have := (bl_bounds ho1 ho2 hq b hb).2; omega
          case measure => simp [intOf]; omega
        · have d3 : decide ((j : Int) < (y : Int)) = false := by simp; omega
          have d4 : decide (j < y) = false := by simp; omega
          refine region_lex (fun w' => w'.cell? ⟨wr.heap.size, 0, none⟩ = some (.int .i64 x) ∧ w'.cell? ⟨wr.heap.size, 1, none⟩ = some (.int .i64 y) ∧ w'.cell? ⟨Ba, 0, none⟩ = some va ∧ w'.cell? ⟨Bb, 0, none⟩ = some vb) 23 4 rfl (by kernel_rfl) (by kernel_rfl) (by kernel_rfl) (by kernel_rfl) (fun _ _ d _ _ h => by cases d <;> exact h) ⟨p0, p1, ca', cb'⟩ ?_
          simp only [List.take_succ_cons, List.take_zero]
          iterate 23 (first
            | (apply lexC_want
               · rfl
               · exact fun _ => rfl
               · (intro w' hw'; obtain ⟨q0, q1, q2, q3⟩ := hw'; go_simp; try rfl)
               simp only [Act.put, List.setIfInBounds_toArray, List.set_cons_zero, List.set_cons_succ])
            | (apply lexC_skip
               · rfl
               · exact fun _ => rfl
               simp only [Act.put, List.setIfInBounds_toArray, List.set_cons_zero, List.set_cons_succ]))
          refine lexC_nil ?_
          refine anyC_pass (i := 23) (by kernel_rfl) rfl (by rfl) (fun _ => trivial) ⟨p0, p1, ca', cb'⟩ ?_
          refine anyC_pass (i := 24) (by kernel_rfl) rfl (by rfl) (fun _ => trivial) ⟨p0, p1, ca', cb'⟩ ?_
          refine anyC_pass (i := 25) (by kernel_rfl) rfl (by rfl) (fun _ => trivial) ⟨p0, p1, ca', cb'⟩ ?_
          refine anyC_one (i := 26) (by kernel_rfl) rfl (by rfl) (fun K4 hK4 => ?_)
          go_simp
          refine hK4 _ _ ⟨p0, p1, ca', cb'⟩ ?_
          clear hK4
          refine anyC_done (by kernel_rfl) ?_
          gi_wp2
          gi_region
          all_goals gi_wp2
          go_roundw
          case rel =>
            refine ⟨k + 1, x + 1, y + 1, pre, by omega, by omega, by omega, by go_num, by go_num, by go_num, hJ _ _ _ jV (below_drewN (Below.refl _ _) 1), by omega, ?_, hri, fun b hb => ?_, SP.out, hkpV.trans (Keep.of_below (below_drewN (Below.refl _ _) 2) (by omega))⟩
            · rw [← HP2.out, if_neg (by show ¬ (i < x ∨ j < y); omega), List.nil_append]
            · have := hbb b hb
              show b < V.heap.size
              omega
          case measure => simp [intOf]; omega
    · have hke : ends.drop k = [] := List.drop_eq_nil_of_le (by omega)
      have HR : Hid (pre.map HV.hk = Df.hks A B 0 0 ends) := by
        show pre.map HV.hk = Df.hks A B 0 0 ends
        rw [← HP.out, hke]; simp [Df.hks]
      clear hke hst
      gi_wp2
      go_end0
      exact ⟨⟨_, rfl⟩, pre, ⟨HR.out, hri⟩, hJs⟩

end Go.Proofs.Ytpcinbfelikgpaa

/-
  The walk of the law's 'changed': hunks exchanged from the last one on.
-/
import Derived.Test.YtdjfbbecgalkpaaDoorSameHunks
import Derived.BigQuiet
namespace Go.Proofs.YtdjfbbecgalkpaaDoor
open Go.RowKit Go.Shelf

attribute [local go_sem] Oper.semAt_some

/-- append(d, row...): the longer row, in memory of its own. -/
theorem app_run (base : Nat) (W : World) (d : Value) (n : Nat) (xs : List Value) (hown : W.ownsRow base 9 1 d n xs) (v : Value) (L : List (List UInt8)) (m : Nat) (hrow : RowLow m W v L) (hb : base ≤ W.heap.size) (hn : n + L.length ≤ 1000000000) :
    ∃ v' W', (Builtin.append_ #[24, 24] 24 #[d, v]).run Tryd.prog W = .ok v' W' ∧ W'.ownsRow base 9 1 v' (n + L.length) (xs ++ L.map txtV) ∧ W.grownBy W' d.ownBlock := by
  obtain ⟨i0, hi, hz0, hz1, hz2⟩ := info_parts info9
  obtain ⟨ao, cap, b, off, rfl, ⟨-, hnone⟩, ha, hc⟩ := hrow
  cases ao with
  | none =>
    have hL : L = [] := by
      cases L with
      | nil => rfl
      | cons x L => exact absurd (ha (by simp)).1 (by simp)
    subst hL
    have hc0 := hnone rfl
    subst hc0
    refine ⟨d, W, run_append_owned_none W base 24 24 9 i0 1 Tryd.underlying24 hi d n xs hown, by simpa using hown, ⟨rfl, rfl, rfl, Nat.le_refl _, fun _ _ _ => rfl⟩⟩
  | some a =>
    obtain ⟨v', W', h1, h2, h3, -⟩ := run_append_own (P := Tryd.prog) W base 24 24 9 i0 (.string ⟨#[]⟩) 1 16 Tryd.underlying24 hi hz0 hz1 hz2 rfl (by decide) d n xs hown a L.length cap (L.map txtV) (by simp)
      (fun j u hu => by
        have hj : j < L.length := by have := (List.getElem?_eq_some_iff.1 hu).1; simpa using this
        obtain ⟨e1, -⟩ := ha (by omega)
        cases e1
        have hadd : (⟨b, off, none⟩ : Addr).add j = ⟨b, off + j, none⟩ := by cases j <;> simp [Addr.add]
        rw [hadd]
        exact hc j u hu) (txt_one L) (by unfold maxLen; omega) (by omega) hb
    exact ⟨v', W', h1, h2, h3⟩

/-- The first k of a row that is owned. -/
theorem owns_prefix {W : World} {base e g n cap k : Nat} {xs : List Value} (h : W.ownsRow base e 1 (.slice (some ⟨g, 0, none⟩) n cap) n xs) (hk : k ≤ n) : W.ownsRow base e 1 (.slice (some ⟨g, 0, none⟩) k cap) k (xs.take k) := by
  have hl := h.1
  rcases h.2 with ⟨e1, _⟩ | ⟨g', cap', cur, e1, hb, hg, hnc, hcm, hcs, ht⟩
  · cases e1
  · injection e1 with e1 _ e3
    injection e1 with e1
    injection e1 with e1 _ _
    subst e1 e3
    refine ⟨by simp; omega, .inr ⟨g, cap, cur, rfl, hb, hg, by omega, hcm, hcs, ?_⟩⟩
    rw [← ht, List.take_take]
    congr 1
    omega

/-- A row's rest, from i on. -/
theorem slice_rest {m : Nat} {W : World} {v : Value} {A : List (List UInt8)} {i : Nat} (h : RowLow m W v A) (hi : i ≤ A.length) :
    ∃ v', (∀ w, (Instr.slice 24 v (some (.int .i64 i)) none none).run Tryd.prog w = .ok v' w) ∧ RowLow m W v' (A.drop i) := by
  obtain ⟨v', h1, h2⟩ := slice_row h hi (Nat.le_refl _)
  obtain ⟨ao, cap, b, off, rfl, ⟨hcap, -⟩, -, -⟩ := h
  refine ⟨v', fun w => ?_, ?_⟩
  · have q1 := run_slice_l (P := Tryd.prog) w 24 ao A.length cap Tryd.underlying24 .i64 i (by omega) (by omega)
    have q2 := run_slice_lh (P := Tryd.prog) w 24 ao A.length cap Tryd.underlying24 .i64 .i64 i A.length (by omega) (by omega) (by omega)
    rw [q1]
    have q3 := h1 w
    rw [q2] at q3
    simpa using q3
  · have e : Df.part A i A.length = A.drop i := by
      unfold Df.part
      exact List.take_of_length_le (by simp)
    rwa [e] at h2
/-- A row's first k. -/
theorem slice_front (g cap n k : Nat) (hk : k ≤ cap) (w : World) : (Instr.slice 24 (.slice (some ⟨g, 0, none⟩) n cap) none (some (.int .i64 k)) none).run Tryd.prog w = .ok (.slice (some ⟨g, 0, none⟩) k cap) w := by
  have q1 := run_slice_h (P := Tryd.prog) w 24 (some ⟨g, 0, none⟩) n cap Tryd.underlying24 .i64 k (by omega) (by omega)
  have h2 : (sizeOf (Tryd.prog.elem 24)).run Tryd.prog w = .ok 1 w := by rfl
  rw [q1, h2]
  simp [Result.andThen, sliced, Addr.add]

theorem front_run {W : World} {base n k : Nat} {v : Value} {xs : List Value} (h : W.ownsRow base 9 1 v n xs) (hk : k ≤ n) : ∃ v', (∀ w, (Instr.slice 24 v none (some (.int .i64 k)) none).run Tryd.prog w = .ok v' w) ∧ W.ownsRow base 9 1 v' k (xs.take k) ∧ v'.ownBlock = v.ownBlock := by
  have h0 := h
  rcases h.2 with ⟨rfl, rfl⟩ | ⟨g, cap, cur, rfl, hb, hg, hnc, hcm, hcs, ht⟩
  · have hk0 : k = 0 := by omega
    subst hk0
    refine ⟨.slice none 0 0, fun w => ?_, by rw [List.take_zero]; exact World.ownsRow_nil _ _ _ _, rfl⟩
    have q1 := run_slice_h (P := Tryd.prog) w 24 none 0 0 Tryd.underlying24 .i64 ((0 : Nat) : Int) (by omega) (by omega)
    have h2 : (sizeOf (Tryd.prog.elem 24)).run Tryd.prog w = .ok 1 w := by rfl
    rw [q1, h2]
    simp [Result.andThen, sliced]
  · exact ⟨_, slice_front g cap n k (by omega), owns_prefix h0 hk, rfl⟩

theorem len_run {W : World} {base n : Nat} {v : Value} {xs : List Value} (h : W.ownsRow base 9 1 v n xs) (ty : TypeId) (w : World) : (Builtin.len_ #[24] ty #[v]).run Tryd.prog w = .ok (.int .i64 n) w := by
  obtain ⟨ao, cap, rfl⟩ := slice_shape h
  go_simp

/-- The rows of one hunk's exchange: the rest kept, the front, what is put in, the rest behind it. -/
theorem step_rows {w wr Z : World} {u6 vo vn : Value} {O Lo Ln' : List (List UInt8)} {xa : Nat} (hown : wr.ownsRow w.heap.size 9 1 u6 O.length (O.map txtV)) (hbl : Below w.heap.size w wr) (hbZ : Below wr.heap.size wr Z) (hsZ : Z.heap.size = wr.heap.size + 1)
    (hhZ : Z.heap[wr.heap.size]? = some (.cells #[.int .i64 xa, vo, vn] 49 (0, 0))) (rn1 : RowLow w.heap.size wr vn Ln') (f1' : xa + Lo.length ≤ O.length) (hOl : O.length ≤ 10000000) (hs2 : Ln'.length ≤ 1000000) :
    ∃ v2 v3 Z2 v4 v5 Z3 v6 Z4, (∀ w, (Instr.slice 24 u6 (some (.int .i64 ((xa : Int) + (Lo.length : Int)))) none none).run Tryd.prog w = .ok v2 w) ∧
      (Builtin.append_ #[24, 24] 24 #[.slice (some ⟨wr.heap.size + 1, 0, none⟩) 0 0, v2]).run Tryd.prog (Z.alloc (.cells #[] 9)) = .ok v3 Z2 ∧
      (∀ w, (Instr.slice 24 u6 none (some (.int .i64 xa)) none).run Tryd.prog w = .ok v4 w) ∧
      (Builtin.append_ #[24, 24] 24 #[v4, vn]).run Tryd.prog Z2.drew = .ok v5 Z3 ∧ (Builtin.append_ #[24, 24] 24 #[v5, v3]).run Tryd.prog Z3 = .ok v6 Z4 ∧
      (∀ Y, Y = Z2 ∨ Y = Z3 ∨ Y = Z4 → Y.cell? ⟨wr.heap.size, 0, none⟩ = some (.int .i64 xa) ∧ Y.cell? ⟨wr.heap.size, 2, none⟩ = some vn) ∧
      Z4.ownsRow w.heap.size 9 1 v6 (O.take xa ++ Ln' ++ O.drop (xa + Lo.length)).length ((O.take xa ++ Ln' ++ O.drop (xa + Lo.length)).map txtV) ∧ Below w.heap.size w Z4 := by
  have lowO : RowLow wr.heap.size wr u6 O := RowLow.of_owns hown
  obtain ⟨v2, sr, lw2⟩ := slice_rest lowO f1'
  have sr' : ∀ w, (Instr.slice 24 u6 (some (.int .i64 ((xa : Int) + (Lo.length : Int)))) none none).run Tryd.prog w = .ok v2 w := fun w => by have := sr w; rwa [Int.natCast_add] at this
  have hbZ1 : Below wr.heap.size wr (Z.alloc (.cells #[] 9)) := hbZ.alloc (by omega) _
  have hd0 : (Z.alloc (.cells #[] 9)).ownsRow Z.heap.size 9 1 (.slice (some ⟨wr.heap.size + 1, 0, none⟩) 0 0) 0 [] := by
    rw [← hsZ]; exact World.ownsRow_lit Z #[] 0 (Nat.le_refl _) (Nat.zero_le _) rfl
  obtain ⟨v3, Z2, hrun3, ow3, hg3⟩ := app_run Z.heap.size _ _ 0 [] hd0 v2 (O.drop (xa + Lo.length)) wr.heap.size (lw2.below hbZ1 (Nat.le_refl _)) (by simp) (by simp; omega)
  have hg3' : (Z.alloc (.cells #[] 9)).grownBy Z2 (some (wr.heap.size + 1)) := hg3
  have hlow2 : ∀ k, k ≤ wr.heap.size → Z2.heap[k]? = Z.heap[k]? := fun k hk => (hg3'.block k (by simp; omega) (fun e => by have h9 : k = wr.heap.size + 1 := Option.some.inj e; omega)).trans (Below.heap_alloc _ _ _ (by omega))
  have hs2z : Z.heap.size < Z2.heap.size := by have := hg3'.size; simp at this; omega
  have hb2 : Below wr.heap.size wr Z2 := ⟨hg3'.os.trans hbZ1.os, hg3'.tape.trans hbZ1.tape, hg3'.output.trans hbZ1.output, Nat.le_trans (by omega) (Nat.le_of_lt hs2z), fun k hk => (hlow2 k (by omega)).trans (hbZ.block k hk)⟩
  have hh2 : Z2.heap[wr.heap.size]? = some (.cells #[.int .i64 xa, vo, vn] 49 (0, 0)) := (hlow2 _ (Nat.le_refl _)).trans hhZ
  have ow2 : Z2.drew.ownsRow w.heap.size 9 1 u6 O.length (O.map txtV) := owns_below hown (below_drewN hb2 1)
  have hbw : w.heap.size ≤ wr.heap.size := hbl.size
  obtain ⟨v4, sf, ow4, hob⟩ := front_run ow2 (show xa ≤ O.length by omega)
  have rn2 : RowLow w.heap.size Z2.drew vn Ln' := (rn1.below (below_drewN hb2 1) hbw)
  obtain ⟨v5, Z3, hrun5, ow5, hg5⟩ := app_run w.heap.size Z2.drew v4 xa _ ow4 _ Ln' w.heap.size rn2 (by show w.heap.size ≤ Z2.heap.size; omega) (by omega)
  have hlt4 : ∀ q, v4.ownBlock = some q → w.heap.size ≤ q ∧ q < wr.heap.size := fun q hq => hown.lt q (by rw [← hob]; exact hq)
  have ow3' : Z3.ownsRow Z.heap.size 9 1 v3 (0 + (O.drop (xa + Lo.length)).length) ([] ++ (O.drop (xa + Lo.length)).map txtV) := (show Z2.drew.ownsRow _ _ _ _ _ _ from ow3).kept hg5 (by
    rcases ow3.2 with ⟨e, _⟩ | ⟨g', cap', cur', e, hg', _⟩
    · exact .inl (by rw [e]; rfl)
    · refine .inr (fun h => ?_)
      rw [e] at h
      have := (hlt4 g' h.symm).2
      omega)
  have ow3'' : Z3.ownsRow Z.heap.size 9 1 v3 (O.drop (xa + Lo.length)).length ((O.drop (xa + Lo.length)).map txtV) := by simpa using ow3'
  have hs3 : Z2.heap.size ≤ Z3.heap.size := hg5.size
  obtain ⟨v6, Z4, hrun6, ow6, hg6⟩ := app_run w.heap.size Z3 v5 (xa + Ln'.length) _ ow5 v3 (O.drop (xa + Lo.length)) Z3.heap.size (RowLow.of_owns ow3'') (by omega) (by simp; omega)
  have hh3 : Z3.heap[wr.heap.size]? = some (.cells #[.int .i64 xa, vo, vn] 49 (0, 0)) := (hg5.block _ (by show wr.heap.size < Z2.heap.size; omega) (fun e => by have := (hlt4 _ e.symm).2; omega)).trans hh2
  have hne5 : some wr.heap.size ≠ v5.ownBlock := by
    intro e
    rcases ow5.2 with ⟨e1, _⟩ | ⟨g', cap', cur', e1, _, hg', _⟩
    · rw [e1] at e; cases e
    · rw [e1] at e
      have h9 : wr.heap.size = g' := Option.some.inj e
      rw [← h9, hh3] at hg'
      injection hg' with hg'
      injection hg' with _ e3 _
      exact absurd e3 (by decide)
  have hh4 : Z4.heap[wr.heap.size]? = some (.cells #[.int .i64 xa, vo, vn] 49 (0, 0)) := (hg6.block _ (by omega) hne5).trans hh3
  have hblk5 : ∀ q, v5.ownBlock = some q → w.heap.size ≤ q := fun q hq => (ow5.lt q hq).1
  have hb3 : Below w.heap.size w Z3 := ((hbl.trans (hb2.mono hbw)).trans (below_drewN (Below.refl _ Z2) 1)).trans ⟨hg5.os, hg5.tape, hg5.output, hg5.size, fun k hk => hg5.block k (by show k < Z2.heap.size; omega) (fun e => by have := (hlt4 _ e.symm).1; omega)⟩
  have hb4 : Below w.heap.size w Z4 := hb3.trans ⟨hg6.os, hg6.tape, hg6.output, hg6.size, fun k hk => hg6.block k (by omega) (fun e => by have := hblk5 _ e.symm; omega)⟩
  refine ⟨v2, v3, Z2, v4, v5, Z3, v6, Z4, sr', hrun3, sf, hrun5, hrun6, ?_, ?_, hb4⟩
  · rintro Y (rfl | rfl | rfl)
    · exact ⟨by rw [Lib.cell_of_heap hh2]; rfl, by rw [Lib.cell_of_heap hh2]; rfl⟩
    · exact ⟨by rw [Lib.cell_of_heap hh3]; rfl, by rw [Lib.cell_of_heap hh3]; rfl⟩
    · exact ⟨by rw [Lib.cell_of_heap hh4]; rfl, by rw [Lib.cell_of_heap hh4]; rfl⟩
  · have e1 : (O.take xa ++ Ln' ++ O.drop (xa + Lo.length)).length = xa + Ln'.length + (O.drop (xa + Lo.length)).length := by simp; omega
    rw [e1, List.map_append, List.map_append, List.map_take]
    exact ow6

set_option maxRecDepth 100000 in
set_option maxHeartbeats 8000000 in
theorem changed_any (A : List (List UInt8)) (va vl : Value) (xs : List HV) (w : World) (ha : RowLow w.heap.size w va A) (hl : HkLow w.heap.size w vl xs) (hf : Df.fits A none (xs.map HV.hk)) (hn : xs.length ≤ 100000)
    (hlen : ∀ k, (Df.app A ((xs.map HV.hk).drop k)).length ≤ 10000000) (ho : ∀ x ∈ xs, x.old.length ≤ 1000000 ∧ x.new.length ≤ 1000000) :
    Calls Tryd.prog 13 #[va, vl] w fun e w' => ∃ v, e = .returned (.tuple #[v, .bool true]) ∧ w'.ownsRow w.heap.size 9 1 v (Df.app A (xs.map HV.hk)).length ((Df.app A (xs.map HV.hk)).map txtV) ∧ Below w.heap.size w w' := by
  obtain ⟨⟨ao1, cap1, b1, o1, rfl, -, ha1, hc1⟩, hx1⟩ := hl
  have hbX : Below w.heap.size w (w.alloc (.cells #[] 9)) := (Below.refl _ w).alloc (Nat.le_refl _) _
  have hA := hlen xs.length
  have e0 : (xs.map HV.hk).drop xs.length = [] := List.drop_eq_nil_of_le (by simp)
  rw [e0, Df.app] at hA
  have hown0 : (w.alloc (.cells #[] 9)).ownsRow w.heap.size 9 1 (.slice (some ⟨w.heap.size, 0, none⟩) 0 0) 0 [] := World.ownsRow_lit w #[] 0 (Nat.le_refl _) (Nat.zero_le _) rfl
  obtain ⟨v0, W0, hrun0, hw0, hg0⟩ := app_run w.heap.size _ _ 0 [] hown0 va A w.heap.size (ha.below hbX (Nat.le_refl _)) (by simp) (by omega)
  have hb0 : Below w.heap.size w W0 := hbX.trans ⟨hg0.os, hg0.tape, hg0.output, hg0.size, fun k hk => hg0.block k (by simp; omega) (fun e => by have h9 : k = w.heap.size := Option.some.inj e; omega)⟩
  have hs0 : w.heap.size < W0.heap.size := by have := hg0.size; simp at this; omega
  have hw0' : W0.ownsRow w.heap.size 9 1 v0 (Df.app A ((xs.map HV.hk).drop xs.length)).length ((Df.app A ((xs.map HV.hk).drop xs.length)).map txtV) := by
    rw [e0, Df.app]; simpa using hw0
  have HL : Hid (∀ k, (Df.app A ((xs.map HV.hk).drop k)).length ≤ 10000000) := hlen
  have HF : Hid (Df.fits A none (xs.map HV.hk)) := hf
  clear hlen hf e0 hw0 hg0 hown0 ha
  refine (callsIn_wide (n := 3)).1 ?_
  refine callsIn_of_wp Tryd.func13 rfl trivial ?_ rfl
  simp only [Tryd.ntmps13, List.size_toArray, List.length_cons, List.length_nil, Nat.reduceAdd, Nat.reduceSub, Array.replicate_succ, Array.replicate_zero, List.push_toArray, List.append_toArray, List.nil_append, List.cons_append]
  gi_wp2_with (gi_at_builtin; refine list_append rfl _ _ 24 rfl _ _ _ _ rfl rfl hrun0 ?_)
  gi_loopw [6, 7] (fun t v wr => ∃ k : Nat, k ≤ xs.length ∧ v = .int .i64 ((k : Int) - 1) ∧ wr.ownsRow w.heap.size 9 1 t (Df.app A ((xs.map HV.hk).drop k)).length ((Df.app A ((xs.map HV.hk).drop k)).map txtV) ∧ Below w.heap.size w wr) (fun _ v _ => (intOf v + 1).toNat)
  case atStart => exact ⟨xs.length, Nat.le_refl _, rfl, hw0', hb0⟩
  case round =>
    obtain ⟨k, hk, rfl, hown, hbl⟩ := hrel
    clear hrun0 hw0' hb0 hs0
    by_cases h0 : k = 0
    · subst h0
      have hq := hown
      rw [List.drop_zero] at hq
      have HQ : Hid (_) := hq
      clear hq ha1 hc1 hx1
      gi_wp2
      refine bodyPost_ret (results_tmp2 rfl _ _ _) rfl ⟨_, rfl, HQ.out, hbl⟩
    · obtain ⟨i, rfl⟩ : ∃ i, k = i + 1 := ⟨k - 1, by omega⟩
      clear h0
      obtain ⟨x, hx⟩ : ∃ x, xs[i]? = some x := ⟨xs[i]'(by omega), List.getElem?_eq_getElem (by omega)⟩
      have hxh : (xs.map HV.hk)[i]? = some x.hk := by rw [List.getElem?_map, hx]; rfl
      obtain ⟨f1, f2, f3, f4, f5⟩ := Df.fits_at A _ none i x.hk HF.out hxh
      obtain ⟨O, hO⟩ : ∃ O, O = Df.app A ((xs.map HV.hk).drop (i + 1)) := ⟨_, rfl⟩
      have hOl := HL.out (i + 1)
      rw [← hO] at f1 f2 f5 hown hOl
      have F5 : Hid (Df.app A ((xs.map HV.hk).drop i) = O.take x.at_ ++ x.new ++ O.drop (x.at_ + x.old.length)) := f5
      have F4 : Hid (∀ g, 0 < i → (xs.map HV.hk)[i - 1]? = some g → g.at_ + g.old.length < x.at_) := f4
      have F2 : Hid (Df.part O x.at_ (x.at_ + x.old.length) = x.old) := f2
      have f1' : x.at_ + x.old.length ≤ O.length := f1
      have f3' : 0 < x.old.length + x.new.length := f3
      have hxo := ho x (List.mem_of_getElem? hx)
      have hxl := hx1 x (List.mem_of_getElem? hx)
      obtain ⟨rfl, hb1⟩ := ha1 (by omega)
      obtain ⟨g0, g1, g2⟩ := hkCells_get xs i x hx
      have c0 : wr.cell? ⟨b1, o1 + i * 3, none⟩ = some (.int .i64 x.at_) := (hbl.cell (p := ⟨b1, o1 + i * 3, none⟩) hb1).trans (hc1 _ _ g0)
      have c1 : wr.cell? ⟨b1, o1 + i * 3 + 1, none⟩ = some x.vo := (hbl.cell (p := ⟨b1, o1 + i * 3 + 1, none⟩) hb1).trans (hc1 _ _ g1)
      have c2 : wr.cell? ⟨b1, o1 + i * 3 + 2, none⟩ = some x.vn := (hbl.cell (p := ⟨b1, o1 + i * 3 + 2, none⟩) hb1).trans (hc1 _ _ g2)
      clear f1 f2 f3 f4 f5 hO g0 g1 g2 hxh
      have HX : Hid (xs[i]? = some x) := hx
      obtain ⟨xa, xo, xn, Lo, Ln'⟩ := x
      simp only at F5 F4 F2 f1' f3' hxo c0 c1 c2
      obtain ⟨ro, rn⟩ := hxl
      simp only at ro rn
      have ro1 : RowLow w.heap.size wr xo Lo := ro.below hbl (Nat.le_refl _)
      have rn1 : RowLow w.heap.size wr xn Ln' := rn.below hbl (Nat.le_refl _)
      obtain ⟨ao2, cap2, b2, o2, rfl, -, -, -⟩ := ro.parts
      obtain ⟨ao3, cap3, b3, o3, rfl, -, -, -⟩ := rn.parts
      clear ro rn hx
      have h01 : ((i + 1 : Nat) : Int) - 1 = (i : Int) := by omega
      rw [h01]
      have hln := len_run hown
      gi_wp2
      have lowO : RowLow wr.heap.size wr u6 O := RowLow.of_owns hown
      obtain ⟨v1, sl1, lw1⟩ := slice_row lowO (Nat.le_add_right xa Lo.length) f1'
      rw [F2.out] at lw1
      have sl1' : ∀ w, (Instr.slice 24 u6 (some (.int .i64 xa)) (some (.int .i64 ((xa : Int) + (Lo.length : Int)))) none).run Tryd.prog w = .ok v1 w := fun w => by have := sl1 w; rwa [Int.natCast_add] at this
      clear sl1
      obtain ⟨V, hV⟩ : ∃ V, V = wr.alloc (.cells #[.int .i64 xa, .slice ao2 Lo.length cap2, .slice ao3 Ln'.length cap3] 49) := ⟨_, rfl⟩
      have hbV : Below wr.heap.size wr V := by rw [hV]; exact (Below.refl _ wr).alloc (Nat.le_refl _) _
      have hhV : V.heap[wr.heap.size]? = some (.cells #[.int .i64 xa, .slice ao2 Lo.length cap2, .slice ao3 Ln'.length cap3] 49 (0, 0)) := by rw [hV]; exact World.alloc_heap_new wr _
      have hsV : V.heap.size = wr.heap.size + 1 := by rw [hV]; simp
      rw [← hV]
      clear hV
      have p0 : V.cell? ⟨wr.heap.size, 0, none⟩ = some (.int .i64 xa) := by rw [Lib.cell_of_heap hhV]; rfl
      have p1 : V.cell? ⟨wr.heap.size, 1, none⟩ = some (.slice ao2 Lo.length cap2) := by rw [Lib.cell_of_heap hhV]; rfl
      have p2 : V.cell? ⟨wr.heap.size, 2, none⟩ = some (.slice ao3 Ln'.length cap3) := by rw [Lib.cell_of_heap hhV]; rfl
      have e1 : decide ((xa : Int) < 0) = false := by simp
      have e2 : decide ((O.length : Int) < (xa : Int) + (Lo.length : Int)) = false := by simp; omega
      have e3 : ((Lo.length : Int) + (Ln'.length : Int) == 0) = false := by rw [beq_eq_false_iff_ne]; omega
      have e4 : decide ((Lo.length : Int) + (Ln'.length : Int) = 0) = false := by simp; omega
      have hs1 : Lo.length ≤ 1000000 := hxo.1
      have hs2 : Ln'.length ≤ 1000000 := hxo.2
      have hw1 : IntKind.i64.wrap ((Lo.length : Int) + (Ln'.length : Int)) = (Lo.length : Int) + (Ln'.length : Int) := by rw [IntKind.wrap_i64]; omega
      have SM : Hid (CallsIn Fence.wide (3 - 1) Tryd.prog 14 #[v1, .slice ao2 Lo.length cap2] V.drew _) := callsIn_wide.2 (same_yes V.drew v1 _ Lo wr.heap.size (lw1.below (below_drewN hbV 1) (Nat.le_refl _)) ((ro1.below (below_drewN hbV 1) (by have := hbl.size; omega)).mono (by have := hbl.size; omega)) hs1)
      have hC : ∀ d, (fun w' : World => w'.cell? ⟨wr.heap.size, 0, none⟩ = some (.int .i64 xa) ∧ w'.cell? ⟨wr.heap.size, 1, none⟩ = some (.slice ao2 Lo.length cap2) ∧ w'.cell? ⟨wr.heap.size, 2, none⟩ = some (.slice ao3 Ln'.length cap3)) (V.drewN d) := fun d => ⟨p0, p1, p2⟩
      refine region_lex (fun w' => w'.cell? ⟨wr.heap.size, 0, none⟩ = some (.int .i64 xa) ∧ w'.cell? ⟨wr.heap.size, 1, none⟩ = some (.slice ao2 Lo.length cap2) ∧ w'.cell? ⟨wr.heap.size, 2, none⟩ = some (.slice ao3 Ln'.length cap3)) 17 13 rfl (by kernel_rfl) (by kernel_rfl) (by kernel_rfl) (by kernel_rfl) (fun _ _ d _ _ h => by cases d <;> exact h) ⟨p0, p1, p2⟩ ?_
      simp only [List.take_succ_cons, List.take_zero]
      iterate 17 (first
        | (apply lexC_want
           · rfl
           · exact fun _ => rfl
           · (intro w' hw'; obtain ⟨q0, q1, q2⟩ := hw'; go_simp; try rfl)
           simp only [Act.put, List.setIfInBounds_toArray, List.set_cons_zero, List.set_cons_succ])
        | (apply lexC_skip
           · rfl
           · exact fun _ => rfl
           simp only [Act.put, List.setIfInBounds_toArray, List.set_cons_zero, List.set_cons_succ]))
      refine lexC_nil ?_
      refine anyC_one (i := 17) (by kernel_rfl) rfl (by rfl) (fun K1 hK1 => ?_)
      go_simp
      refine ⟨trivial, ?_⟩
      refine SM.out.mono ?_
      rintro e w1 ⟨rfl, d, rfl⟩
      refine hK1 _ _ ⟨p0, p1, p2⟩ ?_
      clear hK1
      refine anyC_more 18 12 0 12 rfl (by kernel_rfl) rfl (by decide) (by kernel_rfl) (fun _ _ d _ _ h => by cases d <;> exact h) ⟨p0, p1, p2⟩ ?_
      simp only [List.drop_succ_cons, List.drop_zero, List.take_succ_cons, List.take_zero]
      iterate 12 (first
        | (apply lexC_want
           · rfl
           · exact fun _ => rfl
           · (intro w' hw'; obtain ⟨q0, q1, q2⟩ := hw'; go_simp; try rfl)
           simp only [Act.put, List.setIfInBounds_toArray, List.set_cons_zero, List.set_cons_succ])
        | (apply lexC_skip
           · rfl
           · exact fun _ => rfl
           simp only [Act.put, List.setIfInBounds_toArray, List.set_cons_zero, List.set_cons_succ]))
      refine lexC_nil ?_
      refine anyC_done (by kernel_rfl) ?_
      gi_wp2
      obtain ⟨v2, v3, Z2, v4, v5, Z3, v6, Z4, sr, hrun3, sf, hrun5, hrun6, hcz, ow6, hb4⟩ := step_rows (Z := V.drewN (1 + d + 1)) (Lo := Lo) hown hbl (below_drewN hbV _) hsV hhV rn1 f1' hOl hs2
      have H6 : Hid (Z4.ownsRow w.heap.size 9 1 v6 (Df.app A ((xs.map HV.hk).drop i)).length ((Df.app A ((xs.map HV.hk).drop i)).map txtV)) := by
        show Z4.ownsRow w.heap.size 9 1 v6 (Df.app A ((xs.map HV.hk).drop i)).length ((Df.app A ((xs.map HV.hk).drop i)).map txtV)
        rw [F5.out]; exact ow6
      obtain ⟨c20, c22⟩ := hcz Z2 (.inl rfl)
      obtain ⟨c30, c32⟩ := hcz Z3 (.inr (.inl rfl))
      obtain ⟨c40, c42⟩ := hcz Z4 (.inr (.inr rfl))
      clear hcz ow6 lowO sl1' lw1 hC SM hln hown hw1
      by_cases hi0 : i = 0
      · subst hi0
        refine region_lex (fun w' => w'.cell? ⟨wr.heap.size, 0, none⟩ = some (.int .i64 xa)) 21 0 rfl (by kernel_rfl) (by kernel_rfl) (by kernel_rfl) (by kernel_rfl) (fun _ _ d _ _ h => by cases d <;> exact h) p0 ?_
        simp only [List.take_succ_cons, List.take_zero]
        iterate 21 (first
          | (apply lexC_want
             · rfl
             · exact fun _ => rfl
             · (intro w' hw'; skip; go_simp; try rfl)
             simp only [Act.put, List.setIfInBounds_toArray, List.set_cons_zero, List.set_cons_succ])
          | (apply lexC_skip
             · rfl
             · exact fun _ => rfl
             simp only [Act.put, List.setIfInBounds_toArray, List.set_cons_zero, List.set_cons_succ]))
        refine lexC_nil ?_
        refine anyC_done (by kernel_rfl) ?_
        gi_wp2_with (gi_at_builtin; refine list_append rfl _ _ 24 rfl _ _ _ _ rfl rfl hrun3 ?_)
        refine region_lex (fun w' => w'.cell? ⟨wr.heap.size, 0, none⟩ = some (.int .i64 xa) ∧ w'.cell? ⟨wr.heap.size, 2, none⟩ = some (.slice ao3 Ln'.length cap3)) 6 4 rfl (by kernel_rfl) (by kernel_rfl) (by kernel_rfl) (by kernel_rfl) (fun _ _ d _ _ h => by cases d <;> exact h) ⟨c20, c22⟩ ?_
        simp only [List.take_succ_cons, List.take_zero]
        iterate 6 (first
          | (apply lexC_want
             · rfl
             · exact fun _ => rfl
             · (intro w' hw'; obtain ⟨q0, q2⟩ := hw'; go_simp; try rfl)
             simp only [Act.put, List.setIfInBounds_toArray, List.set_cons_zero, List.set_cons_succ])
          | (apply lexC_skip
             · rfl
             · exact fun _ => rfl
             simp only [Act.put, List.setIfInBounds_toArray, List.set_cons_zero, List.set_cons_succ]))
        refine lexC_nil ?_
        refine anyC_take (i := 7) rfl rfl (by kernel_rfl) (by kernel_rfl) (by kernel_rfl) (fun _ _ d _ _ h => by cases d <;> exact h) ⟨c20, c22⟩ (by rfl) (fun _ => rfl) (fun _ _ => rfl) ?_
        refine anyC_one (i := 6) (by kernel_rfl) rfl (by rfl) (fun K1 hK1 => ?_)
        refine op_append _ _ 24 rfl _ _ _ _ rfl rfl hrun5 (hK1 _ _ ⟨c30, c32⟩ ?_)
        refine anyC_one (i := 8) (by kernel_rfl) rfl (by rfl) (fun K2 hK2 => ?_)
        refine op_append _ _ 24 rfl _ _ _ _ rfl rfl hrun6 (hK2 _ _ ⟨c40, c42⟩ ?_)
        refine anyC_one (i := 9) (by kernel_rfl) rfl (by rfl) (fun K3 hK3 => ?_)
        go_simp
        refine hK3 _ _ ⟨c40, c42⟩ ?_
        refine anyC_done (by kernel_rfl) ?_
        clear hK1 hK2 hK3
        gi_wp2
        go_roundw
        case rel => exact ⟨0, by omega, by go_num, H6.out, hb4⟩
        case measure => simp [intOf]; try omega
      · obtain ⟨j, rfl⟩ : ∃ j, i = j + 1 := ⟨i - 1, by omega⟩
        obtain ⟨y, hy⟩ : ∃ y, xs[j]? = some y := ⟨xs[j]'(by omega), List.getElem?_eq_getElem (by omega)⟩
        have hyg := F4.out y.hk (by omega) (by show (xs.map HV.hk)[j + 1 - 1]? = some y.hk; rw [Nat.add_sub_cancel, List.getElem?_map, hy]; rfl)
        have hyo := (ho y (List.mem_of_getElem? hy)).1
        have hyl := (hx1 y (List.mem_of_getElem? hy)).1
        obtain ⟨g0, g1, -⟩ := hkCells_get xs j y hy
        have y0 : wr.cell? ⟨b1, o1 + j * 3, none⟩ = some (.int .i64 y.at_) := (hbl.cell (p := ⟨b1, o1 + j * 3, none⟩) hb1).trans (hc1 _ _ g0)
        have y1 : wr.cell? ⟨b1, o1 + j * 3 + 1, none⟩ = some y.vo := (hbl.cell (p := ⟨b1, o1 + j * 3 + 1, none⟩) hb1).trans (hc1 _ _ g1)
        have hbw : b1 < wr.heap.size := by have := hbl.size; omega
        have y0V : V.cell? ⟨b1, o1 + j * 3, none⟩ = some (.int .i64 y.at_) := (hbV.cell (p := ⟨b1, o1 + j * 3, none⟩) hbw).trans y0
        have y1V : V.cell? ⟨b1, o1 + j * 3 + 1, none⟩ = some y.vo := (hbV.cell (p := ⟨b1, o1 + j * 3 + 1, none⟩) hbw).trans y1
        obtain ⟨ya, yo, yn, Lyo, Lyn⟩ := y
        simp only at y0V y1V hyo hyl
        have hyg' : ya + Lyo.length < xa := hyg
        obtain ⟨ao5, cap5, b5, o5, rfl, -, -, -⟩ := hyl.parts
        have k1 : decide ((0 : Int) < ((j + 1 : Nat) : Int)) = true := decide_eq_true (by omega)
        have k2 : decide ((0 : Int) < (j : Int) + 1) = true := decide_eq_true (by omega)
        have hw2 : IntKind.i64.wrap ((ya : Int) + (Lyo.length : Int)) = (ya : Int) + (Lyo.length : Int) := by rw [IntKind.wrap_i64]; omega
        have k3 : decide ((xa : Int) ≤ (ya : Int) + (Lyo.length : Int)) = false := by simp; omega
        have hj1 : ((j + 1 : Nat) : Int) - 1 = (j : Int) := by omega
        have hw3 : IntKind.i64.wrap (((j + 1 : Nat) : Int) - 1) = (j : Int) := by rw [IntKind.wrap_i64]; omega
        have hw4 : IntKind.i64.wrap ((j : Int) + 1 - 1) = (j : Int) := by rw [IntKind.wrap_i64]; omega
        have hjl : (j : Int) < (xs.length : Int) := by omega
        have hjn : j < xs.length := by omega
        have hw5 : IntKind.i64.wrap (j : Int) = (j : Int) := by rw [IntKind.wrap_i64]; omega
        clear hyg hy g0 g1 y0 y1 hyl hc1 hx1 HF HL ho
        refine region_lex (fun w' => w'.cell? ⟨wr.heap.size, 0, none⟩ = some (.int .i64 xa) ∧ w'.cell? ⟨b1, o1 + j * 3, none⟩ = some (.int .i64 ya) ∧ w'.cell? ⟨b1, o1 + j * 3 + 1, none⟩ = some (.slice ao5 Lyo.length cap5)) 21 0 rfl (by kernel_rfl) (by kernel_rfl) (by kernel_rfl) (by kernel_rfl) (fun _ _ d _ _ h => by cases d <;> exact h) ⟨p0, y0V, y1V⟩ ?_
        simp only [List.take_succ_cons, List.take_zero]
        iterate 21 (first
          | (apply lexC_want
             · rfl
             · exact fun _ => rfl
             · (intro w' hw'; obtain ⟨q0, q1, q2⟩ := hw'; go_simp; try rfl)
             simp only [Act.put, List.setIfInBounds_toArray, List.set_cons_zero, List.set_cons_succ])
          | (apply lexC_skip
             · rfl
             · exact fun _ => rfl
             simp only [Act.put, List.setIfInBounds_toArray, List.set_cons_zero, List.set_cons_succ]))
        refine lexC_nil ?_
        refine anyC_done (by kernel_rfl) ?_
        gi_wp2_with (gi_at_builtin; refine list_append rfl _ _ 24 rfl _ _ _ _ rfl rfl hrun3 ?_)
        refine region_lex (fun w' => w'.cell? ⟨wr.heap.size, 0, none⟩ = some (.int .i64 xa) ∧ w'.cell? ⟨wr.heap.size, 2, none⟩ = some (.slice ao3 Ln'.length cap3)) 6 4 rfl (by kernel_rfl) (by kernel_rfl) (by kernel_rfl) (by kernel_rfl) (fun _ _ d _ _ h => by cases d <;> exact h) ⟨c20, c22⟩ ?_
        simp only [List.take_succ_cons, List.take_zero]
        iterate 6 (first
          | (apply lexC_want
             · rfl
             · exact fun _ => rfl
             · (intro w' hw'; obtain ⟨q0, q2⟩ := hw'; go_simp; try rfl)
             simp only [Act.put, List.setIfInBounds_toArray, List.set_cons_zero, List.set_cons_succ])
          | (apply lexC_skip
             · rfl
             · exact fun _ => rfl
             simp only [Act.put, List.setIfInBounds_toArray, List.set_cons_zero, List.set_cons_succ]))
        refine lexC_nil ?_
        refine anyC_take (i := 7) rfl rfl (by kernel_rfl) (by kernel_rfl) (by kernel_rfl) (fun _ _ d _ _ h => by cases d <;> exact h) ⟨c20, c22⟩ (by rfl) (fun _ => rfl) (fun _ _ => rfl) ?_
        refine anyC_one (i := 6) (by kernel_rfl) rfl (by rfl) (fun K1 hK1 => ?_)
        refine op_append _ _ 24 rfl _ _ _ _ rfl rfl hrun5 (hK1 _ _ ⟨c30, c32⟩ ?_)
        refine anyC_one (i := 8) (by kernel_rfl) rfl (by rfl) (fun K2 hK2 => ?_)
        refine op_append _ _ 24 rfl _ _ _ _ rfl rfl hrun6 (hK2 _ _ ⟨c40, c42⟩ ?_)
        refine anyC_one (i := 9) (by kernel_rfl) rfl (by rfl) (fun K3 hK3 => ?_)
        go_simp
        refine hK3 _ _ ⟨c40, c42⟩ ?_
        refine anyC_done (by kernel_rfl) ?_
        clear hK1 hK2 hK3
        gi_wp2
        go_roundw
        case rel => exact ⟨j + 1, by omega, by go_num, H6.out, hb4⟩
        case measure => simp [intOf]; try omega

end Go.Proofs.YtdjfbbecgalkpaaDoor

/-
  The walk of the law DiffMakes.
-/
import Derived.Test.YtdjfbbecgalkpaaDoorAwake
import Derived.Test.YtdjfbbecgalkpaaDoorGreat
import Derived.Test.YtdjfbbecgalkpaaDoorPick
import Derived.Test.YtdjfbbecgalkpaaDoorChanged
namespace Go.Proofs.YtdjfbbecgalkpaaDoor
open Go.RowKit Go.Shelf

attribute [local go_sem] Oper.semAt_some

/-- The line that is put in. -/
def putL : List UInt8 := [112, 117, 116, 32, 105, 110, 10]
theorem sub_put {α : Type} {A M : List α} (h : A.Sublist M) (k : Nat) (p : α) : A.Sublist (M.take k ++ [p] ++ M.drop k) := by
  refine h.trans ?_
  conv => lhs; rw [← List.take_append_drop k M]
  rw [List.append_assoc]
  exact List.Sublist.append (List.Sublist.refl _) (List.sublist_cons_self p _)

/-- The rows of one line put in: the rest kept, the front, the line, the rest behind it. -/
theorem put_rows {w wr : World} {u : Value} {O : List (List UInt8)} {k : Nat} (hown : wr.ownsRow w.heap.size 9 1 u O.length (O.map txtV)) (hbl : Below w.heap.size w wr) (hk : k ≤ O.length) (hO : O.length ≤ 10000000) :
    ∃ v2 v3 Z2 v4 v5 Z3 v6 Z4, (∀ w, (Instr.slice 24 u (some (.int .i64 (k : Int))) none none).run Tryd.prog w = .ok v2 w) ∧
      (Builtin.append_ #[24, 24] 24 #[.slice (some ⟨wr.heap.size, 0, none⟩) 0 0, v2]).run Tryd.prog (wr.alloc (.cells #[] 9)) = .ok v3 Z2 ∧
      (∀ w, (Instr.slice 24 u none (some (.int .i64 (k : Int))) none).run Tryd.prog w = .ok v4 w) ∧
      (Builtin.append_ #[24, 24] 24 #[v4, .slice (some ⟨Z2.heap.size, 0, none⟩) 1 1]).run Tryd.prog (Z2.alloc (.cells #[.string ⟨#[112, 117, 116, 32, 105, 110, 10]⟩] 9)) = .ok v5 Z3 ∧
      (Builtin.append_ #[24, 24] 24 #[v5, v3]).run Tryd.prog Z3 = .ok v6 Z4 ∧
      Z4.ownsRow w.heap.size 9 1 v6 (O.take k ++ [putL] ++ O.drop k).length ((O.take k ++ [putL] ++ O.drop k).map txtV) ∧ Below w.heap.size wr Z4 := by
  have lowO : RowLow wr.heap.size wr u O := RowLow.of_owns hown
  obtain ⟨v2, sr, lw2⟩ := slice_rest lowO hk
  have hbw : w.heap.size ≤ wr.heap.size := hbl.size
  have hb1 : Below wr.heap.size wr (wr.alloc (.cells #[] 9)) := below_new wr _
  have hd0 : (wr.alloc (.cells #[] 9)).ownsRow wr.heap.size 9 1 (.slice (some ⟨wr.heap.size, 0, none⟩) 0 0) 0 [] := World.ownsRow_lit wr #[] 0 (Nat.le_refl _) (Nat.zero_le _) rfl
  obtain ⟨v3, Z2, hrun3, ow3, hg3⟩ := app_run wr.heap.size _ _ 0 [] hd0 v2 (O.drop k) wr.heap.size (lw2.below hb1 (Nat.le_refl _)) (by simp) (by simp; omega)
  have hg3' : (wr.alloc (.cells #[] 9)).grownBy Z2 (some wr.heap.size) := hg3
  have hs2z : wr.heap.size < Z2.heap.size := by have := hg3'.size; simp at this; omega
  have hb2 : Below wr.heap.size wr Z2 := hb1.trans (below_of_grown hg3' (Nat.le_refl _) (by simp))
  have ow2 : (Z2.alloc (.cells #[.string ⟨#[112, 117, 116, 32, 105, 110, 10]⟩] 9)).ownsRow w.heap.size 9 1 u O.length (O.map txtV) := (owns_below hown hb2).alloc _
  obtain ⟨v4, sf, ow4, hob⟩ := front_run ow2 hk
  have rp : RowLow (Z2.alloc (.cells #[.string ⟨#[112, 117, 116, 32, 105, 110, 10]⟩] 9)).heap.size (Z2.alloc (.cells #[.string ⟨#[112, 117, 116, 32, 105, 110, 10]⟩] 9)) (.slice (some ⟨Z2.heap.size, 0, none⟩) 1 1) [putL] := CellsLow.lit Z2 [.string ⟨#[112, 117, 116, 32, 105, 110, 10]⟩] 9 1
  obtain ⟨v5, Z3, hrun5, ow5, hg5⟩ := app_run w.heap.size _ v4 k _ ow4 _ [putL] _ rp (by simp; omega) (by simp; omega)
  have hlt4 : ∀ q, v4.ownBlock = some q → w.heap.size ≤ q ∧ q < wr.heap.size := fun q hq => hown.lt q (by rw [← hob]; exact hq)
  have ow3' := (ow3.alloc (.cells #[.string ⟨#[112, 117, 116, 32, 105, 110, 10]⟩] 9)).kept hg5 (by
    rcases ow3.2 with ⟨e, _⟩ | ⟨g', cap', cur', e, hg', _⟩
    · exact .inl (by rw [e]; rfl)
    · refine .inr (fun h => ?_)
      rw [e] at h
      have := (hlt4 g' h.symm).2
      omega)
  have ow3'' : Z3.ownsRow wr.heap.size 9 1 v3 (O.drop k).length ((O.drop k).map txtV) := by simpa using ow3'
  have hs3 : Z2.heap.size ≤ Z3.heap.size := by have := hg5.size; simp at this; omega
  obtain ⟨v6, Z4, hrun6, ow6, hg6⟩ := app_run w.heap.size Z3 v5 (k + [putL].length) _ ow5 v3 (O.drop k) Z3.heap.size (RowLow.of_owns ow3'') (by omega) (by simp; omega)
  have hblk5 : ∀ q, v5.ownBlock = some q → w.heap.size ≤ q := fun q hq => (ow5.lt q hq).1
  have hb3 : Below w.heap.size wr Z3 := ((hb2.alloc (Nat.le_of_lt hs2z) _).mono hbw).trans ⟨hg5.os, hg5.tape, hg5.output, hg5.size, fun j hj => hg5.block j (by simp; omega) (fun e => by have := (hlt4 _ e.symm).1; omega)⟩
  have hb4 : Below w.heap.size wr Z4 := hb3.trans ⟨hg6.os, hg6.tape, hg6.output, hg6.size, fun j hj => hg6.block j (by omega) (fun e => by have := hblk5 _ e.symm; omega)⟩
  refine ⟨v2, v3, Z2, v4, v5, Z3, v6, Z4, sr, hrun3, sf, hrun5, hrun6, ?_, hb4⟩
  have e1 : (O.take k ++ [putL] ++ O.drop k).length = k + [putL].length + (O.drop k).length := by simp; omega
  rw [e1, List.map_append, List.map_append, List.map_take]
  exact ow6

theorem hunks_len (A B : List (List UInt8)) (hA : A.length ≤ 300) (hB : B.length ≤ 300) : ∀ k, (Df.app A ((Df.hunks A B).drop k)).length ≤ 10000000 := by
  intro k
  have h1 := Df.app_len A ((Df.hunks A B).drop k)
  have h2 := Df.sum_drop ((Df.hunks A B).map fun h => h.new.length) k
  have hc : (Df.common A B).length ≤ 300 := by rw [Df.common_length A B (by omega) (by omega)]; exact Nat.le_trans (Df.lc_le_left A B) hA
  have h3 := Df.hks_sum A B (Df.common A B ++ [(A.length, B.length)]) 0 0 (by omega) (fun p hp => by
    rw [List.mem_append] at hp
    rcases hp with hp | hp
    · exact Nat.le_of_lt ((Df.common_ok A B).lt p hp).2
    · simp at hp; subst hp; exact Nat.le_refl _)
  have h4 : ((Df.common A B ++ [(A.length, B.length)]).length + 1) * B.length ≤ 302 * 300 := Nat.mul_le_mul (by simp; omega) hB
  have e1 : ((Df.hunks A B).drop k).map (fun h => h.new.length) = ((Df.hunks A B).map fun h => h.new.length).drop k := by rw [List.map_drop]
  rw [e1] at h1
  unfold Df.hunks at h1 h2 ⊢
  omega

theorem hks_part_len {α : Type} (a b : List α) : ∀ (ps : List (Nat × Nat)) (i j : Nat), ∀ h ∈ Df.hks a b i j ps, h.old.length ≤ a.length ∧ h.new.length ≤ b.length
  | [], _, _, h, hh => by simp [Df.hks] at hh
  | p :: ps, i, j, h, hh => by
    simp only [Df.hks, List.mem_append] at hh
    rcases hh with hh | hh
    · split at hh
      · simp at hh; subst hh
        simp [Df.part]; omega
      · simp at hh
    · exact hks_part_len a b ps _ _ h hh

theorem hks_len {α : Type} (a b : List α) : ∀ (ps : List (Nat × Nat)) (i j : Nat), (Df.hks a b i j ps).length ≤ ps.length
  | [], _, _ => by simp [Df.hks]
  | p :: ps, i, j => by
    have := hks_len a b ps (p.1 + 1) (p.2 + 1)
    simp only [Df.hks, List.length_append, List.length_cons]
    split <;> simp <;> omega

set_option maxRecDepth 100000 in
set_option maxHeartbeats 16000000 in
theorem law (A B : List (List UInt8)) (T : List Int) (va vb vt : Value) (w : World) (ha : RowLow w.heap.size w va A) (hb : RowLow w.heap.size w vb B) (ht : CellsLow w.heap.size w vt T.length (T.map (Value.int .i64)))
    (lA : A.length ≤ 9223372036854775807) (lB : B.length ≤ 9223372036854775807) (lT : T.length ≤ 9223372036854775807) (sA : ∀ x ∈ A, x.length ≤ 9223372036854775807) (sB : ∀ x ∈ B, x.length ≤ 9223372036854775807) :
    Calls Tryd.prog 4 #[va, vb, vt] w fun e w' => e = .returned (.bool true) ∧ Below w.heap.size w w' := by
  obtain ⟨at0, ct, bt, ot, rfl, -, hat, hct⟩ := ht
  refine (callsIn_wide (n := 3)).1 ?_
  refine callsIn_of_wp Tryd.func4 rfl trivial ?_ rfl
  simp only [Tryd.ntmps4, List.size_toArray, List.length_cons, List.length_nil, Nat.reduceAdd, Nat.reduceSub, Array.replicate_succ, Array.replicate_zero, List.push_toArray, List.append_toArray, List.nil_append, List.cons_append]
  gi_wp2_with fail
  refine ⟨trivial, ?_⟩
  refine (callsIn_wide.2 (awake_any w)).mono ?_
  rintro e w1 ⟨rfl, b1⟩
  have ra1 := ha.below b1 (Nat.le_refl _)
  have rb1 := hb.below b1 (Nat.le_refl _)
  have GR := great_any A B va vb w.heap.size w1 ra1 rb1 lA lB sA sB
  clear ha hb sA sB
  gi_wp2_with fail
  refine ⟨trivial, ?_⟩
  refine (callsIn_wide.2 GR).mono ?_
  rintro e w2 ⟨r, rfl, rfl, hr⟩
  clear GR
  cases r with
  | true =>
    gi_wp2
    go_ret
    exact ⟨rfl, b1⟩
  | false =>
    obtain ⟨hA, hB, sA, sB⟩ := hr rfl
    clear hr lA lB
    by_cases hT : T.length ≤ 300
    · have q1 : decide ((300 : Int) < (T.length : Int)) = false := by simp; omega
      have q2 : decide (300 < T.length) = false := by simp; omega
      have s1 : ∀ x ∈ A, x.length ≤ 1000000 := fun x hx => Nat.le_trans (sA x hx) (by omega)
      have s2 : ∀ x ∈ B, x.length ≤ 1000000 := fun x hx => Nat.le_trans (sB x hx) (by omega)
      have HU := hunks_any A B va vb w2 (ra1.mono b1.size) (rb1.mono b1.size) (by omega) (by omega) s1 s2
      gi_wp2_with fail
      refine ⟨trivial, ?_⟩
      refine (callsIn_wide.2 HU).mono ?_
      rintro e w3 ⟨v3, xs, rfl, hxs, -, ho3, hk3, b3⟩
      clear HU
      have lh3 := HkLow.of_owns ho3 hk3
      have hcl : (Df.common A B).length ≤ 300 := by rw [Df.common_length A B (by omega) (by omega)]; exact Nat.le_trans (Df.lc_le_left A B) hA
      have hxl : xs.length ≤ 100000 := by
        have h1 := congrArg List.length hxs
        rw [List.length_map] at h1
        have h2 : (Df.hunks A B).length ≤ (Df.common A B).length + 1 := by
          have := hks_len A B (Df.common A B ++ [(A.length, B.length)]) 0 0
          simpa [Df.hunks] using this
        omega
      have B3 : Below w.heap.size w w3 := b1.trans (b3.mono b1.size)
      have ra3 := ra1.below (b3.mono b1.size) (Nat.le_refl _)
      have rb3 := rb1.below (b3.mono b1.size) (Nat.le_refl _)
      have CH := changed_any A va v3 xs w3 (ra3.mono B3.size) lh3 (by rw [hxs]; exact Df.fits_hunks A B) hxl (by rw [hxs]; exact hunks_len A B hA hB) (fun x hx => by
        have h9 := hks_part_len A B (Df.common A B ++ [(A.length, B.length)]) 0 0 x.hk (by have : x.hk ∈ xs.map HV.hk := List.mem_map_of_mem hx; rw [hxs] at this; exact this)
        have h8 : x.old.length ≤ A.length ∧ x.new.length ≤ B.length := h9
        omega)
      rw [hxs, Df.app_hunks A B] at CH
      clear hxs ho3 hk3 lh3 hxl ra1 rb1 b1 b3
      gi_wp2_with fail
      refine ⟨trivial, ?_⟩
      refine (callsIn_wide.2 CH).mono ?_
      rintro e w4 ⟨v4, rfl, ho4, b4⟩
      clear CH
      have B4 : Below w.heap.size w w4 := B3.trans (b4.mono B3.size)
      have ra4 := ra3.below (b4.mono B3.size) (Nat.le_refl _)
      have rb4 := rb3.below (b4.mono B3.size) (Nat.le_refl _)
      have SM := same_yes w4 vb v4 B w4.heap.size (rb4.mono B4.size) (RowLow.of_owns ho4) (by omega)
      clear ho4 b4 ra3 rb3 B3
      gi_wp2_with fail
      refine ⟨trivial, ?_⟩
      refine (callsIn_wide.2 SM).mono ?_
      rintro e w5 ⟨rfl, d5, rfl⟩
      clear SM
      have B5 : Below w.heap.size w (w4.drewN d5) := below_drewN B4 d5
      have ra5 : RowLow w.heap.size (w4.drewN d5) va A := ra4
      have rb5 : RowLow w.heap.size (w4.drewN d5) vb B := rb4
      obtain ⟨X5, hX5⟩ : ∃ X, X = w4.drewN d5 := ⟨_, rfl⟩
      rw [← hX5] at B5 ra5 rb5
      simp only [← hX5]
      clear hX5 ra4 rb4 B4
      have HS := hunks_any A A va va X5 (ra5.mono B5.size) (ra5.mono B5.size) (by omega) (by omega) s1 s1
      gi_wp2_with fail
      refine ⟨trivial, ?_⟩
      refine (callsIn_wide.2 HS).mono ?_
      rintro e w6 ⟨v6, ys, rfl, hys, -, ho6, -, b6⟩
      clear HS
      rw [Df.hunks_self A (by omega)] at hys
      have hy0 : ys = [] := List.map_eq_nil_iff.1 hys
      subst hy0
      obtain ⟨a6, c6, rfl⟩ := slice_shape ho6
      have B6 : Below w.heap.size w w6 := B5.trans (b6.mono B5.size)
      have ra6 := ra5.below (b6.mono B5.size) (Nat.le_refl _)
      have rb6 := rb5.below (b6.mono B5.size) (Nat.le_refl _)
      have CM := common_any A B va vb w6 (ra6.mono B6.size) (rb6.mono B6.size) s1 s2
      clear hys ho6 b6 ra5 rb5 B5
      gi_wp2_with fail
      refine ⟨trivial, ?_⟩
      refine (callsIn_wide.2 CM).mono ?_
      rintro e w7 ⟨v7, rfl, ho7, b7⟩
      clear CM
      have B7 : Below w.heap.size w w7 := B6.trans (b7.mono B6.size)
      have ra7 := ra6.below (b7.mono B6.size) (Nat.le_refl _)
      have rb7 := rb6.below (b7.mono B6.size) (Nat.le_refl _)
      have hgood := Df.common_ok A B
      have hplen := Df.common_length A B (by omega) (by omega)
      obtain ⟨ps, hps⟩ : ∃ ps, ps = Df.common A B := ⟨_, rfl⟩
      rw [← hps] at ho7 hgood hplen hcl
      obtain ⟨ap, cp, bp, op, rfl, -, hap, hcp⟩ := CellsLow.of_owns ho7
      have HPL : Hid (ps.length = Df.lc A B) := hplen
      have HG : Hid (Df.Good A B 0 0 ps) := hgood
      clear hps ho7 b7 ra6 rb6 B6 hplen hgood
      obtain ⟨oa, ca, ba, fa, rfl, -, haa, hca⟩ := ra7.parts
      obtain ⟨ob, cb, bb, fb, rfl, -, hbb, hcb⟩ := rb7.parts
      gi_wp2
      gi_loopw [11] (fun v wr => ∃ (k d : Nat), k ≤ ps.length ∧ v = .int .i64 k ∧ wr = w7.drewN d) (fun v _ => ps.length - (intOf v).toNat)
      case atStart => exact ⟨0, 0, Nat.zero_le _, rfl, rfl⟩
      case round =>
        obtain ⟨k, d, hk, rfl, rfl⟩ := hrel
        by_cases hlt : k < ps.length
        · obtain ⟨p, hp⟩ : ∃ p, ps[k]? = some p := ⟨ps[k], List.getElem?_eq_getElem hlt⟩
          obtain ⟨rfl, -⟩ := hap (by omega)
          obtain ⟨g0, g1⟩ := pairCells_get ps k p hp
          have hpm := List.mem_of_getElem? hp
          have plt := HG.out.lt p hpm
          have psm := HG.out.same p hpm
          have PR : Hid (∀ j q, j < k → ps[j]? = some q → q.1 < p.1 ∧ q.2 < p.2) := fun j q hj hq => by
            have h1 := List.pairwise_iff_getElem.1 HG.out.rise j k (by omega) hlt hj
            rw [(List.getElem?_eq_some_iff.1 hq).2, (List.getElem?_eq_some_iff.1 hp).2] at h1
            exact h1
          obtain ⟨x, y⟩ := p
          simp only at plt psm PR
          obtain ⟨hx, hy⟩ := plt
          have c0 : w7.cell? ⟨bp, op + k * 2, none⟩ = some (.int .i64 x) := hcp _ _ g0
          have c1 : w7.cell? ⟨bp, op + k * 2 + 1, none⟩ = some (.int .i64 y) := hcp _ _ g1
          obtain ⟨l, hl⟩ : ∃ l, A[x]? = some l := ⟨A[x], List.getElem?_eq_getElem hx⟩
          obtain ⟨rfl, -⟩ := haa (by omega)
          obtain ⟨rfl, -⟩ := hbb (by omega)
          have cA : w7.cell? ⟨ba, fa + x, none⟩ = some (.string (Ln.bs l)) := hca x l hl
          have cB : w7.cell? ⟨bb, fb + y, none⟩ = some (.string (Ln.bs l)) := hcb y l (by rw [← psm]; exact hl)
          have n1 : decide ((x : Int) < 0) = false := by simp
          have n2 : decide ((y : Int) < 0) = false := by simp
          have n3 : decide ((A.length : Int) ≤ (x : Int)) = false := by simp; omega
          have n4 : decide ((B.length : Int) ≤ (y : Int)) = false := by simp; omega
          have n5 : decide (A.length ≤ x) = false := by simp; omega
          have n6 : decide (B.length ≤ y) = false := by simp; omega
          have n7 : ((Ln.bs l).toList != (Ln.bs l).toList) = false := by simp
          have HCP : Hid (∀ (j : Nat) (u : Value), (pairCells ps)[j]? = some u → w7.cell? ⟨bp, op + j, none⟩ = some u) := hcp
          clear hcp hca hcb hap haa hbb hp g0 g1 hpm psm hl hat hct s1 s2 sA sB
          gi_wp2
          refine region_lex (fun w' => w'.cell? ⟨bp, op + k * 2, none⟩ = some (.int .i64 x) ∧ w'.cell? ⟨bp, op + k * 2 + 1, none⟩ = some (.int .i64 y)) 12 0 rfl (by kernel_rfl) (by kernel_rfl) (by kernel_rfl) (by kernel_rfl) (fun _ _ d _ _ h => by cases d <;> exact h) ⟨c0, c1⟩ ?_
          simp only [List.take_succ_cons, List.take_zero]
          iterate 12 (first
            | (apply lexC_want
               · rfl
               · exact fun _ => rfl
               · (intro w' hw'; obtain ⟨q0, q1⟩ := hw'; go_simp; try rfl)
               simp only [Act.put, List.setIfInBounds_toArray, List.set_cons_zero, List.set_cons_succ])
            | (apply lexC_skip
               · rfl
               · exact fun _ => rfl
               simp only [Act.put, List.setIfInBounds_toArray, List.set_cons_zero, List.set_cons_succ]))
          refine lexC_nil ?_
          refine anyC_done (by kernel_rfl) ?_
          gi_wp2
          by_cases hk0 : k = 0
          · subst hk0
            refine region_lex (fun w' => w'.cell? ⟨ba, fa + x, none⟩ = some (.string (Ln.bs l)) ∧ w'.cell? ⟨bb, fb + y, none⟩ = some (.string (Ln.bs l))) 53 0 rfl (by kernel_rfl) (by kernel_rfl) (by kernel_rfl) (by kernel_rfl) (fun _ _ d _ _ h => by cases d <;> exact h) ⟨cA, cB⟩ ?_
            simp only [List.take_succ_cons, List.take_zero]
            iterate 53 (first
              | (apply lexC_want
                 · rfl
                 · exact fun _ => rfl
                 · (intro w' hw'; obtain ⟨q0, q1⟩ := hw'; go_simp; try rfl)
                 simp only [Act.put, List.setIfInBounds_toArray, List.set_cons_zero, List.set_cons_succ])
              | (apply lexC_skip
                 · rfl
                 · exact fun _ => rfl
                 simp only [Act.put, List.setIfInBounds_toArray, List.set_cons_zero, List.set_cons_succ]))
            refine lexC_nil ?_
            refine anyC_done (by kernel_rfl) ?_
            gi_wp2
            go_roundw
            case rel => exact ⟨1, d + 2, by omega, by go_num, rfl⟩
            case measure => simp [intOf]; omega
          · obtain ⟨j, rfl⟩ : ∃ j, k = j + 1 := ⟨k - 1, by omega⟩
            obtain ⟨q, hq⟩ : ∃ q, ps[j]? = some q := ⟨ps[j]'(by omega), List.getElem?_eq_getElem (by omega)⟩
            obtain ⟨g0, g1⟩ := pairCells_get ps j q hq
            have hpq := PR.out j q (by omega) hq
            obtain ⟨qx, qy⟩ := q
            simp only at hpq
            have e0 : w7.cell? ⟨bp, op + j * 2, none⟩ = some (.int .i64 qx) := HCP.out _ _ g0
            have e1 : w7.cell? ⟨bp, op + j * 2 + 1, none⟩ = some (.int .i64 qy) := HCP.out _ _ g1
            have k1 : decide ((0 : Int) < ((j + 1 : Nat) : Int)) = true := decide_eq_true (by omega)
            have k2 : decide ((0 : Int) < (j : Int) + 1) = true := decide_eq_true (by omega)
            have hw3 : IntKind.i64.wrap (((j + 1 : Nat) : Int) - 1) = (j : Int) := by rw [IntKind.wrap_i64]; omega
            have hw4 : IntKind.i64.wrap ((j : Int) + 1 - 1) = (j : Int) := by rw [IntKind.wrap_i64]; omega
            have hw5 : IntKind.i64.wrap (j : Int) = (j : Int) := by rw [IntKind.wrap_i64]; omega
            have hjn : j < ps.length := by omega
            have k3 : decide ((x : Int) ≤ (qx : Int)) = false := by simp; omega
            have k4 : decide ((y : Int) ≤ (qy : Int)) = false := by simp; omega
            have k5 : decide (x ≤ qx) = false := by simp; omega
            have k6 : decide (y ≤ qy) = false := by simp; omega
            clear g0 g1 hq
            refine region_lex (fun w' => (w'.cell? ⟨ba, fa + x, none⟩ = some (.string (Ln.bs l)) ∧ w'.cell? ⟨bb, fb + y, none⟩ = some (.string (Ln.bs l))) ∧ w'.cell? ⟨bp, op + j * 2, none⟩ = some (.int .i64 qx) ∧ w'.cell? ⟨bp, op + j * 2 + 1, none⟩ = some (.int .i64 qy)) 53 0 rfl (by kernel_rfl) (by kernel_rfl) (by kernel_rfl) (by kernel_rfl) (fun _ _ d _ _ h => by cases d <;> exact h) ⟨⟨cA, cB⟩, e0, e1⟩ ?_
            simp only [List.take_succ_cons, List.take_zero]
            iterate 53 (first
              | (apply lexC_want
                 · rfl
                 · exact fun _ => rfl
                 · (intro w' hw'; obtain ⟨⟨q0, q1⟩, q2, q3⟩ := hw'; go_simp; try rfl)
                 simp only [Act.put, List.setIfInBounds_toArray, List.set_cons_zero, List.set_cons_succ])
              | (apply lexC_skip
                 · rfl
                 · exact fun _ => rfl
                 simp only [Act.put, List.setIfInBounds_toArray, List.set_cons_zero, List.set_cons_succ]))
            refine lexC_nil ?_
            refine anyC_done (by kernel_rfl) ?_
            gi_wp2
            go_roundw
            case rel => exact ⟨j + 1 + 1, d + 2, by omega, by go_num, rfl⟩
            case measure => simp [intOf]; omega
        · have X1 : Below w.heap.size w (w7.drewN d) := below_drewN B7 d
          have hs7 := B7.size
          have hd0 : ((w7.drewN d).alloc (.cells #[] 9)).ownsRow w.heap.size 9 1 (.slice (some ⟨w7.heap.size, 0, none⟩) 0 0) 0 [] := World.ownsRow_lit (w7.drewN d) #[] 0 hs7 (Nat.zero_le _) rfl
          obtain ⟨vm, W8, hrun8, ow8, hg8⟩ := app_run w.heap.size _ _ 0 [] hd0 (.slice oa A.length ca) A w.heap.size (ra7.below ((below_drewN (Below.refl _ w7) d).alloc (by show w.heap.size ≤ w7.heap.size; omega) _) (Nat.le_refl _)) (by simp; omega) (by omega)
          have hg8' : ((w7.drewN d).alloc (.cells #[] 9)).grownBy W8 (some w7.heap.size) := hg8
          have B8 : Below w.heap.size w W8 := (X1.alloc (by show w.heap.size ≤ w7.heap.size; omega) _).trans (below_of_grown hg8' hs7 (by simp; omega))
          have ow8' : W8.ownsRow w.heap.size 9 1 vm A.length (A.map txtV) := by simpa using ow8
          have RA : Hid (RowLow w.heap.size w7 (.slice oa A.length ca) A) := ra7
          have RB : Hid (RowLow w.heap.size w7 (.slice ob B.length cb) B) := rb7
          have B78 : Below w.heap.size w7 W8 := ((below_drewN (Below.refl _ w7) d).alloc (by show w.heap.size ≤ w7.heap.size; omega) _).trans (below_of_grown hg8' hs7 (by simp; omega))
          clear hcp hca hcb hap haa hbb hd0 hg8 hg8' ow8 ra7 rb7 X1
          gi_wp2_with (gi_at_builtin; refine list_append rfl _ _ 24 rfl _ _ _ _ rfl rfl hrun8 ?_)
          clear hrun8
          gi_loopw [14, 15] (fun t v wr => ∃ (k : Nat) (M : List (List UInt8)), k ≤ T.length ∧ v = .int .i64 k ∧ A.Sublist M ∧ M.length = A.length + k ∧ (∀ x ∈ M, x.length ≤ 1000000) ∧ wr.ownsRow w.heap.size 9 1 t M.length (M.map txtV) ∧ Below w.heap.size w7 wr ∧ Below w.heap.size w wr) (fun _ v _ => T.length - (intOf v).toNat)
          case atStart => exact ⟨0, A, Nat.zero_le _, rfl, List.Sublist.refl _, rfl, s1, ow8', B78, B8⟩
          case round =>
            obtain ⟨j, M, hj, rfl, hsub, hML, hMs, hown, h7r, hbl⟩ := hrel
            have HS : Hid (A.Sublist M) := hsub
            have HML : Hid (M.length = A.length + j) := hML
            have hM600 : M.length ≤ 600 := by omega
            clear hsub hML ow8' B8 B78
            have hln := len_run hown
            by_cases hjt : j < T.length
            · obtain ⟨z, hz⟩ : ∃ z, T[j]? = some z := ⟨T[j], List.getElem?_eq_getElem hjt⟩
              obtain ⟨rfl, hbt⟩ := hat (by omega)
              have cT : wr.cell? ⟨bt, ot + j, none⟩ = some (.int .i64 z) := (hbl.cell (p := ⟨bt, ot + j, none⟩) hbt).trans (hct j _ (by rw [List.getElem?_map, hz]; rfl))
              clear hct hat hz
              gi_wp2_with fail
              refine ⟨trivial, ?_⟩
              refine (callsIn_wide.2 (pick_any z ((M.length : Int) + 1) wr (by omega) (by omega))).mono ?_
              rintro e w9 ⟨⟨r, rfl, hr0, hr1⟩, rfl⟩
              obtain ⟨q, rfl⟩ := Int.eq_ofNat_of_zero_le hr0
              have hqM : q ≤ M.length := by omega
              obtain ⟨v2, v3, Z2, v4, v5, Z3, v6, Z4, sr, hrun3, sf, hrun5, hrun6, ow6, hb4⟩ := put_rows hown hbl hqM (by omega)
              clear hown hln
              gi_wp2_with (first
                | (gi_at_builtin; refine list_append (w := w9.alloc (.cells #[] 9)) rfl _ _ 24 rfl _ _ _ _ rfl rfl hrun3 ?_)
                | (gi_at_builtin; refine list_append (w := Z2.alloc (.cells #[.string ⟨#[112, 117, 116, 32, 105, 110, 10]⟩] 9)) rfl _ _ 24 rfl _ _ _ _ rfl rfl hrun5 ?_)
                | (gi_at_builtin; refine list_append (w := Z3) rfl _ _ 24 rfl _ _ _ _ rfl rfl hrun6 ?_))
              go_roundw
              case rel =>
                refine ⟨j + 1, M.take q ++ [putL] ++ M.drop q, by omega, by go_num, sub_put HS.out q putL, ?_, ?_, ow6, h7r.trans hb4, hbl.trans hb4⟩
                · have := HML.out
                  simp; omega
                · intro x hx
                  rw [List.mem_append, List.mem_append] at hx
                  rcases hx with (hx | hx) | hx
                  · exact hMs x (List.mem_of_mem_take hx)
                  · simp at hx; subst hx; simp [putL]
                  · exact hMs x (List.mem_of_mem_drop hx)
              case measure => simp [intOf]; omega
            · have hje : j = T.length := by omega
              by_cases hM3 : M.length ≤ 300
              · have m1 : decide ((300 : Int) < (M.length : Int)) = false := by simp; omega
                have m2 : decide (300 < M.length) = false := by simp; omega
                have raR : RowLow w.heap.size wr (.slice oa A.length ca) A := RA.out.below h7r (Nat.le_refl _)
                have rbR : RowLow w.heap.size wr (.slice ob B.length cb) B := RB.out.below h7r (Nat.le_refl _)
                have C1 := common_any A M (.slice oa A.length ca) u14 wr (raR.mono hbl.size) (RowLow.of_owns hown) s1 hMs
                clear hct hat
                have l1 : (Df.common A M).length = A.length := by rw [Df.common_length A M (by omega) (by omega)]; exact Df.lc_sub A M HS.out
                have l2 : (Df.common M A).length = A.length := by rw [Df.common_length M A (by omega) (by omega), Df.lc_comm]; exact Df.lc_sub A M HS.out
                have l3 : (Df.common B A).length = ps.length := by rw [Df.common_length B A (by omega) (by omega), Df.lc_comm, HPL.out]
                rw [l1] at C1
                gi_wp2_with fail
                refine ⟨trivial, ?_⟩
                refine (callsIn_wide.2 C1).mono ?_
                rintro e w10 ⟨v10, rfl, ho10, b10⟩
                obtain ⟨a10, c10, rfl⟩ := slice_shape ho10
                have B10 : Below w.heap.size w w10 := hbl.trans (b10.mono hbl.size)
                have ra10 := raR.below (b10.mono hbl.size) (Nat.le_refl _)
                have rb10 := rbR.below (b10.mono hbl.size) (Nat.le_refl _)
                have om10 := owns_below hown b10
                have C2 := common_any M A u14 (.slice oa A.length ca) w10 (RowLow.of_owns om10) (ra10.mono B10.size) hMs s1
                rw [l2] at C2
                clear C1 l1 l2 ho10 raR rbR b10 om10 hown hln
                gi_wp2_with fail
                refine ⟨trivial, ?_⟩
                refine (callsIn_wide.2 C2).mono ?_
                rintro e w11 ⟨v11, rfl, ho11, b11⟩
                obtain ⟨a11, c11, rfl⟩ := slice_shape ho11
                have B11 : Below w.heap.size w w11 := B10.trans (b11.mono B10.size)
                have ra11 := ra10.below (b11.mono B10.size) (Nat.le_refl _)
                have rb11 := rb10.below (b11.mono B10.size) (Nat.le_refl _)
                have C3 := common_any B A (.slice ob B.length cb) (.slice oa A.length ca) w11 (rb11.mono B11.size) (ra11.mono B11.size) s2 s1
                rw [l3] at C3
                clear C2 l3 ho11 ra10 rb10 b11 B10
                gi_wp2_with fail
                refine ⟨trivial, ?_⟩
                refine (callsIn_wide.2 C3).mono ?_
                rintro e w12 ⟨v12, rfl, ho12, b12⟩
                obtain ⟨a12, c12, rfl⟩ := slice_shape ho12
                have B12 : Below w.heap.size w w12 := B11.trans (b12.mono B11.size)
                clear C3 ho12 ra11 rb11 b12
                gi_wp2
                go_ret
                exact ⟨rfl, B12⟩
              · have m1 : decide ((300 : Int) < (M.length : Int)) = true := by simp; omega
                have m2 : decide (300 < M.length) = true := by simp; omega
                clear hct hat
                gi_wp2
                go_ret
                exact ⟨rfl, hbl⟩
    · have q1 : decide ((300 : Int) < (T.length : Int)) = true := by simp; omega
      have q2 : decide (300 < T.length) = true := by simp; omega
      gi_wp2
      go_ret
      exact ⟨rfl, b1⟩

end Go.Proofs.YtdjfbbecgalkpaaDoor

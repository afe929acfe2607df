/-
  The walk of the law DiffNumbers: all rows of up to four lines of two sorts; rows as long as may be, and one line longer.
-/
import Derived.Test.YtdjfbbecgalkpaaDoorMakes
import Derived.Test.YtdjfbbecgalkpaaDoorRefHunks
namespace Go.Proofs.YtdjfbbecgalkpaaDoor
open Go.RowKit Go.Shelf

attribute [local go_sem] Oper.semAt_some

theorem info24s : (Tryd.prog.info? 24).map (fun i => (i.zero, i.size, i.bytes)) = some (some (.slice none 0 0), 1, 24) := by kernel_rfl

/-- A row of few short lines. -/
def Few (L : List (List UInt8)) : Prop := L.length ≤ 1000 ∧ ∀ x ∈ L, x.length ≤ 1000
/-- Rows of rows, all of few short lines, each in memory of its own. -/
def Rows2 (B : Nat) (W : World) (R : List (Value × List (List UInt8))) : Prop := ∀ p ∈ R, W.ownsRow B 9 1 p.1 p.2.length (p.2.map txtV) ∧ Few p.2
theorem Rows2.below {B : Nat} {W W' : World} {R : List (Value × List (List UInt8))} (h : Rows2 B W R) (hb : Below W.heap.size W W') : Rows2 B W' R := fun p hp => ⟨owns_below (h p hp).1 hb, (h p hp).2⟩

theorem owns_apart {W W' : World} {B B' s s' n m : Nat} {e e' : TypeId} {v u : Value} {xs ys : List Value} (h : W.ownsRow B e s v n xs) (hu : W.ownsRow B' e' s' u m ys) (hg : W.grownBy W' u.ownBlock) (hne : e ≠ e') : W'.ownsRow B e s v n xs := by
  refine ⟨h.1, ?_⟩
  rcases h.2 with h0 | ⟨g, cap, cur, hv, hb, hgb, h3⟩
  · exact .inl h0
  · refine .inr ⟨g, cap, cur, hv, hb, (hg.block g (Array.getElem?_eq_some_iff.1 hgb).1 (fun e0 => ?_)).trans hgb, h3⟩
    rcases hu.2 with ⟨rfl, _⟩ | ⟨g', cap', cur', rfl, _, hgb', _⟩
    · cases e0
    · obtain rfl : g = g' := by simpa [Value.ownBlock] using e0
      rw [hgb] at hgb'
      injection hgb' with q
      injection q with _ q _
      exact hne q

theorem shl_small (n : Nat) (hn : n ≤ 4) : ∃ M : Nat, wrap64 (2 ^ n) = (M : Int) ∧ M ≤ 16 := by
  have : n = 0 ∨ n = 1 ∨ n = 2 ∨ n = 3 ∨ n = 4 := by omega
  rcases this with rfl | rfl | rfl | rfl | rfl
  · exact ⟨1, by simp [wrap64], by omega⟩
  · exact ⟨2, by simp [wrap64], by omega⟩
  · exact ⟨4, by simp [wrap64], by omega⟩
  · exact ⟨8, by simp [wrap64], by omega⟩
  · exact ⟨16, by simp [wrap64], by omega⟩

theorem bit_small (k i : Nat) (hk : k ≤ 16) : bits BinOp.and IntKind.i64 ((k : Int) / 2 ^ i) 1 = 0 ∨ bits BinOp.and IntKind.i64 ((k : Int) / 2 ^ i) 1 = 1 := by
  obtain ⟨q, hq⟩ : ∃ q : Int, q = (k : Int) / 2 ^ i := ⟨_, rfl⟩
  rw [← hq]
  have h0 : 0 ≤ q := by rw [hq]; exact Int.ediv_nonneg (by omega) (Int.le_of_lt (Int.pow_pos (by omega)))
  have h1 : q ≤ 16 := by
    rw [hq]
    exact Int.le_trans (Int.ediv_le_self _ (by omega)) (by omega)
  clear hq
  have h : q = 0 ∨ q = 1 ∨ q = 2 ∨ q = 3 ∨ q = 4 ∨ q = 5 ∨ q = 6 ∨ q = 7 ∨ q = 8 ∨ q = 9 ∨ q = 10 ∨ q = 11 ∨ q = 12 ∨ q = 13 ∨ q = 14 ∨ q = 15 ∨ q = 16 := by omega
  rcases h with rfl | rfl | rfl | rfl | rfl | rfl | rfl | rfl | rfl | rfl | rfl | rfl | rfl | rfl | rfl | rfl | rfl <;> first | (left; rfl) | (right; rfl)

theorem common_count (A B : List (List UInt8)) : (Df.common A B).length ≤ 4096 := by
  unfold Df.common
  split
  · rename_i h; rw [Df.cm_length]; exact Nat.le_trans (Df.lc_le_left A B) h.1
  · simp
theorem hunk_count (A B : List (List UInt8)) : (Df.hunks A B).length ≤ 4097 := by
  have h1 := hks_len A B (Df.common A B ++ [(A.length, B.length)]) 0 0
  have h2 := common_count A B
  unfold Df.hunks
  simp at h1
  omega
theorem hunk_parts (A B : List (List UInt8)) (hA : A.length ≤ 1000000) (hB : B.length ≤ 1000000) : ∀ k ∈ Df.hunks A B, k.old.length ≤ 1000000 ∧ k.new.length ≤ 1000000 := by
  intro k hk
  have := hks_part_len A B _ 0 0 k hk
  omega

/-- The long row's cells, k of them filled. -/
def longVals (k N : Nat) : List Value := List.replicate k (.string ⟨#[120]⟩) ++ List.replicate (N - k) (.string ⟨#[]⟩)
theorem longVals_set (k N : Nat) (h : k < N) : (longVals k N).set k (.string ⟨#[120]⟩) = longVals (k + 1) N := by
  apply List.ext_getElem?
  intro j
  unfold longVals
  rw [List.getElem?_set]
  by_cases e : k = j
  · subst e
    rw [if_pos rfl, if_pos (by simp; omega), List.getElem?_append_left (by simp), List.getElem?_replicate, if_pos (by omega)]
  · rw [if_neg e]
    by_cases h1 : j < k
    · rw [List.getElem?_append_left (by simpa using h1), List.getElem?_append_left (by simp; omega), List.getElem?_replicate, List.getElem?_replicate, if_pos h1, if_pos (by omega)]
    · rw [List.getElem?_append_right (by simp; omega), List.getElem?_append_right (by simp; omega), List.getElem?_replicate, List.getElem?_replicate]
      simp only [List.length_replicate]
      by_cases h2 : j < N
      · rw [if_pos (by omega), if_pos (by omega)]
      · rw [if_neg (by omega), if_neg (by omega)]
theorem longVals_all (N : Nat) : longVals N N = (List.replicate N ([120] : List UInt8)).map txtV := by
  unfold longVals
  rw [Nat.sub_self, List.map_replicate]
  simp [txtV, Ln.bs]

theorem common_len (A B : List (List UInt8)) (n : Nat) (he : (Df.common A B).length = n) (va vb : Value) (w : World) (ha : RowLow w.heap.size w va A) (hb : RowLow w.heap.size w vb B) (sA : ∀ x ∈ A, x.length ≤ 1000000) (sB : ∀ x ∈ B, x.length ≤ 1000000) :
    Calls Tryd.prog 6 #[va, vb] w fun e w' => ∃ ao cap, e = .returned (.slice ao n cap) ∧ Below w.heap.size w w' := by
  subst he
  refine (common_any A B va vb w ha hb sA sB).mono ?_
  rintro e w' ⟨v, rfl, h1, h2⟩
  obtain ⟨a, c, rfl⟩ := slice_shape h1
  exact ⟨a, c, rfl, h2⟩
theorem hunks_len1 (A B : List (List UInt8)) (n : Nat) (he : (Df.hunks A B).length = n) (va vb : Value) (w : World) (ha : RowLow w.heap.size w va A) (hb : RowLow w.heap.size w vb B) (hA : A.length ≤ 1000000) (hB : B.length ≤ 1000000) (sA : ∀ x ∈ A, x.length ≤ 1000000) (sB : ∀ x ∈ B, x.length ≤ 1000000) :
    Calls Tryd.prog 9 #[va, vb] w fun e w' => ∃ ao cap, e = .returned (.slice ao n cap) ∧ Below w.heap.size w w' := by
  subst he
  refine (hunks_any A B va vb w ha hb hA hB sA sB).mono ?_
  rintro e w' ⟨v, xs, rfl, h1, -, h2, h3, h4⟩
  rw [← hk_len h1]
  obtain ⟨a, c, rfl⟩ := slice_shape h2
  exact ⟨a, c, rfl, h4⟩
theorem long_one (N : Nat) (h1 : N ≤ 4097) (h2 : 4097 ≤ N) : (Df.common ((List.replicate N ([120] : List UInt8)).drop 1) [[120]]).length = 1 := by
  rw [Df.common_length _ _ (by simp; omega) (by simp)]
  obtain ⟨M, rfl⟩ : ∃ M, N = M + 1 + 1 := ⟨N - 2, by omega⟩
  rw [List.replicate_succ, List.drop_succ_cons, List.drop_zero, List.replicate_succ, Df.lc_cons_eq, Df.lc_nil_right]
theorem long_none (N : Nat) (h2 : 4097 ≤ N) : Df.common (List.replicate N ([120] : List UInt8)) [[120]] = [] ∧ Df.common [[120]] (List.replicate N ([120] : List UInt8)) = [] :=
  ⟨if_neg (by simp; omega), if_neg (by simp; omega)⟩
theorem long_hunk (N : Nat) (h2 : 4097 ≤ N) : (Df.hunks (List.replicate N ([120] : List UInt8)) [[120]]).length = 1 := by
  unfold Df.hunks
  rw [(long_none N h2).1]
  simp [Df.hks]
theorem long_small (N : Nat) : ∀ x ∈ List.replicate N ([120] : List UInt8), x.length ≤ 1000000 := by
  intro x hx
  rw [List.eq_of_mem_replicate hx]
  simp

set_option maxRecDepth 100000 in
set_option maxHeartbeats 4000000 in
theorem numbers_any (w : World) : Calls Tryd.prog 3 #[] w fun e w' => e = .returned (.bool true) ∧ Below w.heap.size w w' := by
  obtain ⟨i0, hi, hz0, hz1, hz2⟩ := info_parts info9
  obtain ⟨i1, gi, gz0, gz1, gz2⟩ := info_parts info24s
  refine (callsIn_wide (n := 3)).1 ?_
  refine callsIn_of_wp Tryd.func3 rfl trivial ?_ rfl
  simp only [Tryd.ntmps3, List.size_toArray, List.length_nil, Nat.reduceSub, Array.replicate_succ, Array.replicate_zero, List.push_toArray, List.append_toArray, List.nil_append, List.cons_append]
  gi_wp2
  gi_loopw [1, 2] (fun t v wr => ∃ (n : Nat) (R : List (Value × List (List UInt8))), n ≤ 5 ∧ v = .int .i64 n ∧ wr.ownsRow w.heap.size 24 1 t R.length (R.map Prod.fst) ∧ R.length ≤ 16 * n ∧ Rows2 w.heap.size wr R ∧ Below w.heap.size w wr) (fun _ v _ => 5 - (intOf v).toNat)
  case atStart => exact ⟨0, [], by omega, rfl, World.ownsRow_nil _ _ _ _, by simp, fun p hp => by simp at hp, Below.refl _ _⟩
  case round =>
    obtain ⟨n, R, hn, rfl, hrow, hR, hrs, hbl⟩ := hrel
    by_cases h4 : n ≤ 4
    · obtain ⟨M, hM, hM16⟩ := shl_small n h4
      have h4d : decide ((n : Int) ≤ 4) = true := by simp; omega
      gi_wp2
      gi_loopw [1, 3] (fun t v wr => ∃ (k : Nat) (R : List (Value × List (List UInt8))), k ≤ 16 ∧ v = .int .i64 k ∧ wr.ownsRow w.heap.size 24 1 t R.length (R.map Prod.fst) ∧ R.length ≤ 16 * n + k ∧ Rows2 w.heap.size wr R ∧ Below w.heap.size w wr) (fun _ v _ => 16 - (intOf v).toNat)
      case atStart => exact ⟨0, R, by omega, rfl, hrow, by omega, hrs, hbl⟩
      case round =>
        obtain ⟨k, R, hk, rfl, hrow, hR, hrs, hbl⟩ := hrel
        by_cases hkM : k < M
        · have e1 : decide ((k : Int) < (M : Int)) = true := by simp; omega
          have e2 : decide (k < M) = true := by simp; omega
          gi_wp2
          obtain ⟨V, hV⟩ : ∃ V, V = wr := ⟨_, rfl⟩
          rw [← hV]
          rw [← hV] at hrow hrs hbl
          clear hV
          rw [hM]
          gi_loopw [4, 5] (fun t v wr => ∃ (i : Nat) (L : List (List UInt8)), i ≤ n ∧ v = .int .i64 i ∧ wr.ownsRow V.heap.size 9 1 t L.length (L.map txtV) ∧ L.length ≤ i ∧ (∀ x ∈ L, x.length ≤ 1000) ∧ Below V.heap.size V wr) (fun _ v _ => n - (intOf v).toNat)
          case atStart => exact ⟨0, [], by omega, rfl, World.ownsRow_nil _ _ _ _, by simp, fun x hx => by simp at hx, Below.refl _ _⟩
          case round =>
            obtain ⟨i, L, hin, rfl, hl, hL, hsm, hbV⟩ := hrel
            by_cases hlt : i < n
            · rcases bit_small k i (by omega) with hbit | hbit
              · gi_wp2_with (gi_at_builtin; refine wpListIn_append_own _ rfl _ _ 24 rfl V.heap.size 9 i0 (.string ⟨#[]⟩) 1 16 Tryd.underlying24 hi hz0 hz1 hz2 rfl (by decide) _ _ _ rfl ((hl.alloc _).alloc _) ⟨wr.heap.size + 1, 0, none⟩ 1 1 [.string ⟨#[97, 10]⟩] rfl rfl (by have h := cells_new (wr.alloc (.cells #[.string ⟨#[97, 10]⟩, .string ⟨#[98, 10]⟩] 9)) [.string ⟨#[97, 10]⟩] 9; rw [World.size_alloc] at h; exact h) (by simp [Value.oneCell']) (by unfold maxLen; omega) (by omega) (by have := hbV.size; simp; omega) ?_; intro v' w3 hown' hgrow _)
                have hb3 : Below V.heap.size V w3 := ((hbV.alloc hbV.size _).alloc (by have := hbV.size; simp; omega) _).grown hgrow (by have := hbV.size; simp; omega) (fun q hq => (hl.lt q hq).1)
                go_roundw
                case rel => exact ⟨i + 1, L ++ [[97, 10]], by omega, by go_num, by rw [List.length_append, List.map_append]; exact hown', by simp; omega, fun x hx => by
                    rw [List.mem_append] at hx
                    rcases hx with hx | hx
                    · exact hsm x hx
                    · simp at hx; subst hx; simp, hb3⟩
                case measure => simp [intOf]; omega
              · gi_wp2_with (gi_at_builtin; refine wpListIn_append_own _ rfl _ _ 24 rfl V.heap.size 9 i0 (.string ⟨#[]⟩) 1 16 Tryd.underlying24 hi hz0 hz1 hz2 rfl (by decide) _ _ _ rfl ((hl.alloc _).alloc _) ⟨wr.heap.size + 1, 0, none⟩ 1 1 [.string ⟨#[98, 10]⟩] rfl rfl (by have h := cells_new (wr.alloc (.cells #[.string ⟨#[97, 10]⟩, .string ⟨#[98, 10]⟩] 9)) [.string ⟨#[98, 10]⟩] 9; rw [World.size_alloc] at h; exact h) (by simp [Value.oneCell']) (by unfold maxLen; omega) (by omega) (by have := hbV.size; simp; omega) ?_; intro v' w3 hown' hgrow _)
                have hb3 : Below V.heap.size V w3 := ((hbV.alloc hbV.size _).alloc (by have := hbV.size; simp; omega) _).grown hgrow (by have := hbV.size; simp; omega) (fun q hq => (hl.lt q hq).1)
                go_roundw
                case rel => exact ⟨i + 1, L ++ [[98, 10]], by omega, by go_num, by rw [List.length_append, List.map_append]; exact hown', by simp; omega, fun x hx => by
                    rw [List.mem_append] at hx
                    rcases hx with hx | hx
                    · exact hsm x hx
                    · simp at hx; subst hx; simp, hb3⟩
                case measure => simp [intOf]; omega
            · have hq : V.heap.size ≤ wr.heap.size := hbV.size
              have hbw : w.heap.size ≤ V.heap.size := hbl.size
              obtain ⟨al, cl, rfl⟩ := slice_shape hl
              gi_wp2_with (gi_at_builtin; refine wpListIn_append_own _ rfl _ _ 22 rfl w.heap.size 24 i1 (.slice none 0 0) 1 24 Tryd.underlying22 gi gz0 gz1 gz2 rfl (by decide) _ _ _ rfl ((owns_below hrow hbV).alloc _) ⟨wr.heap.size, 0, none⟩ 1 1 [.slice al L.length cl] rfl rfl (cells_new wr [.slice al L.length cl] 24) (by simp [Value.oneCell']) (by unfold maxLen; omega) (by omega) (by simp; omega) ?_; intro v' w3 hown' hgrow _)
              have hu : (wr.alloc (.cells #[.slice al L.length cl] 24)).ownsRow w.heap.size 24 1 u1 R.length (R.map Prod.fst) := (owns_below hrow hbV).alloc _
              have hrs3 : Rows2 w.heap.size w3 (R ++ [(.slice al L.length cl, L)]) := fun p hp => by
                rw [List.mem_append] at hp
                rcases hp with hp | hp
                · exact ⟨owns_apart (owns_below (hrs p hp).1 (hbV.trans (below_new wr _ |>.mono hq))) hu hgrow (by decide), (hrs p hp).2⟩
                · simp at hp; subst hp
                  exact ⟨owns_apart (owns_base (hl.alloc _) hbw) hu hgrow (by decide), by show L.length ≤ 1000; omega, hsm⟩
              have hb3 : Below w.heap.size w w3 := ((hbl.trans (hbV.mono hbw)).alloc (by omega) _).grown hgrow (by simp; omega) (fun q hq => (hrow.lt q hq).1)
              go_roundw
              case rel => exact ⟨k + 1, R ++ [(.slice al L.length cl, L)], by omega, by go_num, by rw [List.length_append, List.map_append]; exact hown', by simp; omega, hrs3, hb3⟩
              case measure => simp [intOf]; omega
        · have e1 : decide ((k : Int) < (M : Int)) = false := by simp; omega
          have e2 : decide (k < M) = false := by simp; omega
          gi_wp2
          go_roundw
          case rel => exact ⟨n + 1, R, by omega, by go_num, hrow, by omega, hrs, hbl⟩
          case measure => simp [intOf]; omega
    · have h4d : decide ((n : Int) ≤ 4) = false := by simp; omega
      obtain ⟨ao, cap, b, off, rfl, -, haT, hcT⟩ := CellsLow.of_owns hrow
      obtain ⟨WA, hWA⟩ : ∃ WA, WA = wr := ⟨_, rfl⟩
      rw [← hWA] at hrow hrs hbl haT hcT ⊢
      clear hWA
      gi_wp2
      gi_loopw [6] (fun v wr => ∃ i : Nat, i ≤ R.length ∧ v = .int .i64 i ∧ Below WA.heap.size WA wr) (fun v _ => R.length - (intOf v).toNat)
      case atStart => exact ⟨0, by omega, rfl, Below.refl _ _⟩
      case round =>
        obtain ⟨i, hil, rfl, hbi⟩ := hrel
        by_cases hi' : i < R.length
        · obtain ⟨rfl, hbT⟩ := haT (by omega)
          gi_wp2
          gi_loopw [7] (fun v wr => ∃ k : Nat, k ≤ R.length ∧ v = .int .i64 k ∧ Below WA.heap.size WA wr) (fun v _ => R.length - (intOf v).toNat)
          case atStart => exact ⟨0, by omega, rfl, hbi⟩
          case round =>
            obtain ⟨k, hkl, rfl, hbk⟩ := hrel
            by_cases hk' : k < R.length
            · obtain ⟨p, hp⟩ : ∃ p, R[i]? = some p := ⟨R[i], List.getElem?_eq_getElem hi'⟩
              obtain ⟨q, hq⟩ : ∃ q, R[k]? = some q := ⟨R[k], List.getElem?_eq_getElem hk'⟩
              have hP := hrs p (List.mem_of_getElem? hp)
              have hQ := hrs q (List.mem_of_getElem? hq)
              have gp : (R.map Prod.fst)[i]? = some p.1 := by rw [List.getElem?_map, hp]; rfl
              have gq : (R.map Prod.fst)[k]? = some q.1 := by rw [List.getElem?_map, hq]; rfl
              have ci : wr.cell? ⟨b, off + i, none⟩ = some p.1 := (hbk.cell (p := ⟨b, off + i, none⟩) hbT).trans (hcT i _ gp)
              have ck : wr.cell? ⟨b, off + k, none⟩ = some q.1 := (hbk.cell (p := ⟨b, off + k, none⟩) hbT).trans (hcT k _ gq)
              have rA := (RowLow.of_owns hP.1).at hbk
              have rB := (RowLow.of_owns hQ.1).at hbk
              obtain ⟨va, A⟩ := p
              obtain ⟨vb, B⟩ := q
              simp only at ci ck rA rB
              have fA : Few A := hP.2
              have fB : Few B := hQ.2
              have lA : A.length ≤ 1000000 := by have := fA.1; omega
              have lB : B.length ≤ 1000000 := by have := fB.1; omega
              have sA : ∀ x ∈ A, x.length ≤ 1000000 := fun x hx => by have := fA.2 x hx; omega
              have sB : ∀ x ∈ B, x.length ≤ 1000000 := fun x hx => by have := fB.2 x hx; omega
              have hcl := common_count A B
              have hbs := hbk.size
              clear hP hQ gp gq hp hq fA fB
              gi_wp2
              refine region_lex (fun w' => w'.cell? ⟨b, off + i, none⟩ = some va ∧ w'.cell? ⟨b, off + k, none⟩ = some vb) 8 34 rfl (by kernel_rfl) (by kernel_rfl) (by kernel_rfl) (by kernel_rfl) (fun _ _ d _ _ h => by cases d <;> exact h) ⟨ci, ck⟩ ?_
              simp only [List.take_succ_cons, List.take_zero]
              iterate 8 (first
                | (apply lexC_want
                   · rfl
                   · exact fun _ => rfl
                   · (intro w' hw'; obtain ⟨q0, q1⟩ := hw'; go_simp; try rfl)
                   simp only [Act.put, List.setIfInBounds_toArray, List.set_cons_zero, List.set_cons_succ])
                | (apply lexC_skip
                   · rfl
                   · exact fun _ => rfl
                   simp only [Act.put, List.setIfInBounds_toArray, List.set_cons_zero, List.set_cons_succ]))
              refine lexC_nil ?_
              refine anyC_more 9 8 26 34 rfl (by kernel_rfl) rfl (by decide) (by kernel_rfl) (fun _ _ d _ _ h => by cases d <;> exact h) (⟨ci, ck⟩) ?_
              simp only [List.drop_succ_cons, List.drop_zero, List.take_succ_cons, List.take_zero]
              iterate 8 (first
                | (apply lexC_want
                   · rfl
                   · exact fun _ => rfl
                   · (intro w' hw'; obtain ⟨q0, q1⟩ := hw'; go_simp; try rfl)
                   simp only [Act.put, List.setIfInBounds_toArray, List.set_cons_zero, List.set_cons_succ])
                | (apply lexC_skip
                   · rfl
                   · exact fun _ => rfl
                   simp only [Act.put, List.setIfInBounds_toArray, List.set_cons_zero, List.set_cons_succ]))
              refine lexC_nil ?_
              obtain ⟨X, hX⟩ : ∃ X, X = wr.drew := ⟨_, rfl⟩
              have bX : Below wr.heap.size wr X := by rw [hX]; exact below_draw wr 1
              rw [← hX]
              clear hX
              have ra := rA.at bX
              have rb := rB.at bX
              have HCl : Hid (∀ W, Below X.heap.size X W → W.cell? ⟨b, off + i, none⟩ = some va ∧ W.cell? ⟨b, off + k, none⟩ = some vb) := fun W hW => ⟨(hW.cell (p := ⟨b, off + i, none⟩) (by have := bX.size; show b < X.heap.size; omega)).trans ((bX.cell (p := ⟨b, off + i, none⟩) (by show b < wr.heap.size; omega)).trans ci), (hW.cell (p := ⟨b, off + k, none⟩) (by have := bX.size; show b < X.heap.size; omega)).trans ((bX.cell (p := ⟨b, off + k, none⟩) (by show b < wr.heap.size; omega)).trans ck)⟩
              clear ci ck
              refine anyC_one (i := 8) (by kernel_rfl) rfl (by rfl) (fun K1 hK1 => ?_)
              go_simp
              refine ⟨trivial, ?_⟩
              refine (callsIn_wide.2 (common_any A B va vb X ra rb sA sB)).mono ?_
              rintro e w1 ⟨v1, rfl, o1, b1⟩
              refine hK1 _ _ (HCl.out _ b1) ?_
              refine anyC_one (i := 17) (by kernel_rfl) rfl (by rfl) (fun K2 hK2 => ?_)
              go_simp
              refine ⟨trivial, ?_⟩
              refine (callsIn_wide.2 (refCommon_any A B va vb w1 (ra.at b1) (rb.at b1))).mono ?_
              rintro e w2 ⟨v2, rfl, o2, b2⟩
              have B2 := below_then b1 b2
              refine hK2 _ _ (HCl.out _ B2) ?_
              refine anyC_one (i := 18) (by kernel_rfl) rfl (by rfl) (fun K3 hK3 => ?_)
              go_simp
              refine ⟨trivial, ?_⟩
              refine (callsIn_wide.2 (samePairs_yes (Df.common A B) v1 v2 _ w2 (CellsLow.of_owns (owns_below o1 b2)) (CellsLow.of_owns o2) (by omega))).mono ?_
              rintro e w3 ⟨rfl, d, rfl⟩
              have B3 := below_drewN B2 d
              obtain ⟨Y, hY⟩ : ∃ Y, Y = w2.drewN d := ⟨_, rfl⟩
              rw [← hY] at B3 ⊢
              clear hY
              refine hK3 _ _ (HCl.out _ B3) ?_
              refine anyC_one (i := 19) (by kernel_rfl) rfl (by rfl) (fun K4 hK4 => ?_)
              go_simp
              refine hK4 _ _ (HCl.out _ B3) ?_
              refine anyC_one (i := 20) (by kernel_rfl) rfl (by rfl) (fun K5 hK5 => ?_)
              go_simp
              refine hK5 _ _ (HCl.out _ B3) ?_
              clear hK1 hK2 hK3 hK4 hK5
              refine anyC_more 21 8 13 21 rfl (by kernel_rfl) rfl (by decide) (by kernel_rfl) (fun _ _ d _ _ h => by cases d <;> exact h) (HCl.out _ B3) ?_
              simp only [List.drop_succ_cons, List.drop_zero, List.take_succ_cons, List.take_zero]
              iterate 8 (first
                | (apply lexC_want
                   · rfl
                   · exact fun _ => rfl
                   · (intro w' hw'; obtain ⟨q0, q1⟩ := hw'; go_simp; try rfl)
                   simp only [Act.put, List.setIfInBounds_toArray, List.set_cons_zero, List.set_cons_succ])
                | (apply lexC_skip
                   · rfl
                   · exact fun _ => rfl
                   simp only [Act.put, List.setIfInBounds_toArray, List.set_cons_zero, List.set_cons_succ]))
              refine lexC_nil ?_
              refine anyC_more 30 8 5 13 rfl (by kernel_rfl) rfl (by decide) (by kernel_rfl) (fun _ _ d _ _ h => by cases d <;> exact h) (HCl.out _ B3) ?_
              simp only [List.drop_succ_cons, List.drop_zero, List.take_succ_cons, List.take_zero]
              iterate 8 (first
                | (apply lexC_want
                   · rfl
                   · exact fun _ => rfl
                   · (intro w' hw'; obtain ⟨q0, q1⟩ := hw'; go_simp; try rfl)
                   simp only [Act.put, List.setIfInBounds_toArray, List.set_cons_zero, List.set_cons_succ])
                | (apply lexC_skip
                   · rfl
                   · exact fun _ => rfl
                   simp only [Act.put, List.setIfInBounds_toArray, List.set_cons_zero, List.set_cons_succ]))
              refine lexC_nil ?_
              refine anyC_one (i := 29) (by kernel_rfl) rfl (by rfl) (fun K1 hK1 => ?_)
              go_simp
              refine ⟨trivial, ?_⟩
              refine (callsIn_wide.2 (hunks_any A B va vb Y (ra.at B3) (rb.at B3) lA lB sA sB)).mono ?_
              rintro e w4 ⟨v4, xs, rfl, e4, -, o4, k4, b4⟩
              have B4 := below_then B3 b4
              refine hK1 _ _ (HCl.out _ B4) ?_
              refine anyC_one (i := 38) (by kernel_rfl) rfl (by rfl) (fun K2 hK2 => ?_)
              go_simp
              refine ⟨trivial, ?_⟩
              refine (callsIn_wide.2 (refHunks_any A B va vb w4 (ra.at B4) (rb.at B4) lA lB)).mono ?_
              rintro e w5 ⟨v5, ys, rfl, e5, o5, k5, b5⟩
              have B5 := below_then B4 b5
              refine hK2 _ _ (HCl.out _ B5) ?_
              refine anyC_one (i := 39) (by kernel_rfl) rfl (by rfl) (fun K3 hK3 => ?_)
              go_simp
              refine ⟨trivial, ?_⟩
              refine (callsIn_wide.2 (sameHunks_yes xs ys v4 v5 _ w5 ((HkLow.of_owns o4 k4).at b5) (HkLow.of_owns o5 k5) (Nat.le_refl _) (e4.trans e5.symm) (hk_small e4 (hunk_parts A B lA lB)) (by rw [hk_len e4]; have := hunk_count A B; omega))).mono ?_
              rintro e w6 ⟨rfl, b6⟩
              have B6 := below_then B5 b6
              refine hK3 _ _ (HCl.out _ B6) ?_
              refine anyC_one (i := 40) (by kernel_rfl) rfl (by rfl) (fun K4 hK4 => ?_)
              go_simp
              refine hK4 _ _ (HCl.out _ B6) ?_
              refine anyC_one (i := 41) (by kernel_rfl) rfl (by rfl) (fun K5 hK5 => ?_)
              go_simp
              refine hK5 _ _ (HCl.out _ B6) ?_
              refine anyC_done (by kernel_rfl) ?_
              clear hK1 hK2 hK3 hK4 hK5 HCl ra rb rA rB
              gi_wp2
              go_roundw
              case rel => exact ⟨k + 1, by omega, by go_num, hbk.trans ((bX.trans (B6.mono bX.size)).mono hbk.size)⟩
              case measure => simp [intOf]; omega
            · gi_wp2
              go_roundw
              case rel => exact ⟨i + 1, by omega, by go_num, hbk⟩
              case measure => simp [intOf]; omega
        · have hbW : Below w.heap.size w wr := hbl.trans (hbi.mono hbl.size)
          clear haT hcT hrow hrs hbi hbl
          obtain ⟨N, hN⟩ : ∃ N : Nat, N = 4097 := ⟨_, rfl⟩
          have hmk : ∀ w : World, (Instr.makeSlice 24 (.int .i64 4097) (.int .i64 4097)).run Tryd.prog w = .ok (.slice (some ⟨w.heap.size, 0, none⟩) N N) (w.alloc (.cells (madeCells #[.string ⟨#[]⟩] N) 9)) := by
            rw [hN]
            exact fun w => run_make_row' (P := Tryd.prog) 24 9 (.string ⟨#[]⟩) 16 Tryd.underlying24 info9 rfl .i64 .i64 4097 (by omega) (by omega) w
          have n1 : N ≤ 4097 := by omega
          have n2 : 4097 ≤ N := by omega
          clear hN
          obtain ⟨WB, hWB⟩ : ∃ WB, WB = wr := ⟨_, rfl⟩
          rw [← hWB] at hbW ⊢
          clear hWB
          have o0 : (WB.alloc (.cells (madeCells #[.string ⟨#[]⟩] N) 9)).ownsRow WB.heap.size 9 1 (.slice (some ⟨WB.heap.size, 0, none⟩) N N) N (longVals 0 N) := by
            have h := World.ownsRow_lit (e := 9) (size := 1) WB (madeCells #[.string ⟨#[]⟩] N) N (Nat.le_refl _) (by unfold maxLen; omega) (by rw [size_madeCells, Nat.mul_one])
            rw [toList_madeCells_one] at h
            exact h
          have b0 : Below WB.heap.size WB (WB.alloc (.cells (madeCells #[.string ⟨#[]⟩] N) 9)) := below_new WB _
          gi_wp2
          gi_loopw [9] (fun v wr => ∃ k : Nat, k ≤ N ∧ v = .int .i64 k ∧ wr.ownsRow WB.heap.size 9 1 (.slice (some ⟨WB.heap.size, 0, none⟩) N N) N (longVals k N) ∧ Below WB.heap.size WB wr) (fun v _ => N - (intOf v).toNat)
          case atStart => exact ⟨0, by omega, rfl, o0, b0⟩
          case round =>
            obtain ⟨k, hkN, rfl, hown, hbk⟩ := hrel
            clear o0 b0 hmk
            by_cases hk' : k < N
            · obtain ⟨u0, cT⟩ := owns_cell hown k hk'
              have fT := hown.frozenAt k
              have hst := hown.stored k (.string ⟨#[120]⟩)
              rw [longVals_set k N hk'] at hst
              have HS : Hid (_) := hst
              have hbs := hbk.size
              clear hst
              gi_wp2
              go_roundw
              case rel => exact ⟨k + 1, by omega, by go_num, HS.out.1, hbk.trans (below_of_grown HS.out.2 (Nat.le_refl _) hbs)⟩
              case measure => simp [intOf]; omega
            · have hkE : k = N := by omega
              subst hkE
              rw [longVals_all] at hown
              have hll : (List.replicate k ([120] : List UInt8)).length = k := by simp
              have rl0 : RowLow wr.heap.size wr (.slice (some ⟨WB.heap.size, 0, none⟩) k k) (List.replicate k [120]) := by
                have h := hown
                rw [← hll] at h
                simp only [hll] at h
                exact RowLow.of_owns (by rw [hll]; exact h)
              obtain ⟨v', sr, rl1⟩ := slice_rest rl0 (i := 1) (by rw [hll]; omega)
              have sr' : ∀ w, (Instr.slice 24 (.slice (some ⟨WB.heap.size, 0, none⟩) k k) (some (.int .i64 1)) none none).run Tryd.prog w = .ok v' w := sr
              have bZ : Below wr.heap.size wr (wr.alloc (.cells #[.string ⟨#[120]⟩] 9)) := below_new wr _
              have r1 : RowLow (wr.alloc (.cells #[.string ⟨#[120]⟩] 9)).heap.size (wr.alloc (.cells #[.string ⟨#[120]⟩] 9)) (.slice (some ⟨wr.heap.size, 0, none⟩) 1 1) [[120]] := CellsLow.lit wr [.string ⟨#[120]⟩] 9 1
              have s1 : ∀ x ∈ [([120] : List UInt8)], x.length ≤ 1000000 := by simp
              have sD : ∀ x ∈ (List.replicate k ([120] : List UInt8)).drop 1, x.length ≤ 1000000 := fun x hx => long_small k x (List.mem_of_mem_drop hx)
              have rl0 := rl0.at bZ
              have rl1 := rl1.at bZ
              clear sr hown
              gi_wp2_with fail
              obtain ⟨Z, hZ⟩ : ∃ Z, Z = wr.alloc (.cells #[.string ⟨#[120]⟩] 9) := ⟨_, rfl⟩
              rw [← hZ] at bZ r1 rl0 rl1 ⊢
              clear hZ
              refine ⟨trivial, ?_⟩
              refine (callsIn_wide.2 (common_len _ _ 1 (long_one k n1 n2) v' _ Z rl1 r1 sD s1)).mono ?_
              rintro e w1 ⟨a1, c1, rfl, b1⟩
              have B1 := b1
              gi_wp2_with fail
              refine ⟨trivial, ?_⟩
              refine (callsIn_wide.2 (common_len _ _ 0 (by rw [(long_none k n2).1]; rfl) _ _ w1 (rl0.at B1) (r1.at B1) (long_small k) s1)).mono ?_
              rintro e w2 ⟨a2, c2, rfl, b2⟩
              have B2 := below_then B1 b2
              gi_wp2_with fail
              refine ⟨trivial, ?_⟩
              refine (callsIn_wide.2 (common_len _ _ 0 (by rw [(long_none k n2).2]; rfl) _ _ w2 (r1.at B2) (rl0.at B2) s1 (long_small k))).mono ?_
              rintro e w3 ⟨a3, c3, rfl, b3⟩
              have B3 := below_then B2 b3
              gi_wp2_with fail
              refine ⟨trivial, ?_⟩
              refine (callsIn_wide.2 (hunks_len1 _ _ 1 (long_hunk k n2) _ _ w3 (rl0.at B3) (r1.at B3) (by rw [hll]; omega) (by simp) (long_small k) s1)).mono ?_
              rintro e w4 ⟨a4, c4, rfl, b4⟩
              have B4 := below_then B3 b4
              gi_wp2_with fail
              refine ⟨trivial, ?_⟩
              refine (callsIn_wide.2 (awake_any w4)).mono ?_
              rintro e w5 ⟨rfl, b5⟩
              have B5 := below_then B4 b5
              gi_wp2
              exact bodyPost_ret (results_tmp rfl _ _ _) rfl ⟨rfl, hbW.trans ((hbk.trans ((bZ.trans (B5.mono bZ.size)).mono hbk.size)).mono hbW.size)⟩

end Go.Proofs.YtdjfbbecgalkpaaDoor

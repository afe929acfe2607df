/-
  The walk of the law ShiftTells.
-/
import Derived.Test.YtflnakjffgobmaaGreatShAll
import Derived.Test.YtflnakjffgobmaaGreatApartAll
namespace Go.Proofs.YtflnakjffgobmaaGreat
open Go.RowKit Go.Shelf

attribute [local go_sem] Oper.semAt_some

theorem fine_short {x : HA} (h1 : x.old.length + x.new.length ≤ 2000) (h2 : x.Short) (h3 : x.Fits) : x.Fine :=
  ⟨⟨by omega, by omega⟩, ⟨fun s hs => by have := h2.1 s hs; omega, fun s hs => by have := h2.2 s hs; omega⟩, h3⟩
theorem cut_in {F : Fence} {n : Nat} {P : Program} {c : Code} {K : Act → World → Prop} {Q : Exit → Act → World → Prop} {a : Act} {w : World} (R : Act → World → Prop) (h1 : c.wpIn F n P (Exit.then R Q) a w) (h2 : ∀ a' w', R a' w' → K a' w') : c.wpIn F n P (Exit.then K Q) a w :=
  Code.wpIn_mono (fun e a w h => by
    cases e with
    | normal => exact h2 _ _ h
    | _ => exact h) h1
section
variable {F : Fence} {n : Nat} {P : Program} {ops : Array Oper} {Q : Exit → Act → World → Prop} {md : Region.Mode} {C : World → Prop}
/-- One of three operations comes up. -/
theorem anyC_three {i j k : Nat} {o o' o'' : Oper} {fuel : Nat} {listed : Array Bool} {a : Act} {w : World} (hr : Region.ready md ops listed = [i, j, k]) (ho : ops[i]? = some o) (ho' : ops[j]? = some o') (ho'' : ops[k]? = some o'') (hw : Region.wanted o (yielded ops a.tmps) = true) (hw' : Region.wanted o' (yielded ops a.tmps) = true) (hw'' : Region.wanted o'' (yielded ops a.tmps) = true)
    (h : ∀ K : Act → World → Prop, (∀ a' w', C w' → anyC F n P md ops C Q fuel (listed.setIfInBounds i true) a' w' → K a' w') → o.wpIn F n P a w K Q)
    (h' : ∀ K : Act → World → Prop, (∀ a' w', C w' → anyC F n P md ops C Q fuel (listed.setIfInBounds j true) a' w' → K a' w') → o'.wpIn F n P a w K Q)
    (h'' : ∀ K : Act → World → Prop, (∀ a' w', C w' → anyC F n P md ops C Q fuel (listed.setIfInBounds k true) a' w' → K a' w') → o''.wpIn F n P a w K Q) : anyC F n P md ops C Q (fuel + 1) listed a w := by
  refine ⟨fun h0 => absurd h0 (by rw [hr]; simp), fun m hk => ?_⟩
  rw [hr] at hk
  simp at hk
  rcases hk with rfl | rfl | rfl
  · unfold wpOpIn
    simp only [ho, hw, if_true]
    exact h _ (fun a' w' h1 h2 => ⟨h1, h2⟩)
  · unfold wpOpIn
    simp only [ho', hw', if_true]
    exact h' _ (fun a' w' h1 h2 => ⟨h1, h2⟩)
  · unfold wpOpIn
    simp only [ho'', hw'', if_true]
    exact h'' _ (fun a' w' h1 h2 => ⟨h1, h2⟩)
end
theorem lent_shape {B : Nat} {W : World} {x y : HA} (h : LentOf B W x y) : ∃ g1 c1 g2 c2, y = ⟨x.at_, .slice (some ⟨g1, 0, none⟩) x.old.length c1, .slice (some ⟨g2, 0, none⟩) x.new.length c2, x.old, x.new⟩ := by
  obtain ⟨h0, ⟨g1, c1, e1, -⟩, ⟨g2, c2, e2, -⟩⟩ := h
  obtain ⟨p, vo, vn, L1, L2⟩ := x
  obtain ⟨q, uo, un, M1, M2⟩ := y
  simp only [HA.h, Hn.H.mk.injEq] at h0
  obtain ⟨rfl, rfl, rfl⟩ := h0
  simp only at e1 e2
  subst e1 e2
  exact ⟨g1, c1, g2, c2, rfl⟩
theorem LentOf.put {B : Nat} {W Z : World} {x y : HA} (h : LentOf B W x y) (ho : ∀ (B n : Nat) (v : Value) (xs : List Value), W.ownsRow B 9 1 v n xs → Z.ownsRow B 9 1 v n xs) : LentOf B Z x y := by
  obtain ⟨h0, ⟨g1, c1, e1, h1⟩, ⟨g2, c2, e2, h2⟩⟩ := h
  exact ⟨h0, ⟨g1, c1, e1, ho _ _ _ _ h1⟩, ⟨g2, c2, e2, ho _ _ _ _ h2⟩⟩
/-- A new variable. -/
theorem new_zero (W : World) : ∃ V, V = W.alloc (.cells #[.int .i64 0, .slice none 0 0, .slice none 0 0] 25) ∧ Below W.heap.size W V ∧ HBox V W.heap.size zeroHA := ⟨_, rfl, below_nw W _, HBox.new W zeroHA⟩
/-- Of lists whose blocks are all distinct, all lie apart. -/
theorem apart_of_nodup (R : List (Value × Nat)) (h : ((R.map Prod.fst).filterMap Value.ownBlock).Nodup) : Apart R := by
  intro j k p q hp hq hjk
  cases hb : p.1.ownBlock with
  | none => exact .inl rfl
  | some b =>
    right
    intro e
    have key : ∀ (L : List (Value × Nat)) (j k : Nat) (p q : Value × Nat), ((L.map Prod.fst).filterMap Value.ownBlock).Nodup → L[j]? = some p → L[k]? = some q → j < k → p.1.ownBlock = some b → q.1.ownBlock = some b → False := by
      intro L
      induction L with
      | nil => intro j k p q _ hp; simp at hp
      | cons x L ih =>
        intro j k p q hpw hp hq hjk h1 h2
        cases k with
        | zero => omega
        | succ k =>
          simp only [List.getElem?_cons_succ] at hq
          cases j with
          | zero =>
            simp only [List.getElem?_cons_zero, Option.some.injEq] at hp
            subst hp
            simp only [List.map_cons, List.filterMap_cons, h1, List.nodup_cons] at hpw
            exact hpw.1 (List.mem_filterMap.2 ⟨q.1, List.mem_map.2 ⟨q, List.mem_of_getElem? hq, rfl⟩, h2⟩)
          | succ j =>
            simp only [List.getElem?_cons_succ] at hp
            refine ih j k p q ?_ hp hq (by omega) h1 h2
            simp only [List.map_cons, List.filterMap_cons] at hpw
            split at hpw
            · exact hpw
            · exact (List.nodup_cons.1 hpw).2
    rcases Nat.lt_or_gt_of_ne hjk with hlt | hlt
    · exact key R j k p q h hp hq hlt hb e.symm
    · exact key R k j q p h hq hp hlt e.symm hb
theorem filterMap_ha (xs : List HA) : ((haRows xs).map Prod.fst).filterMap Value.ownBlock = bla xs := by rw [haRows_fst]; rfl
/-- Hunks whose lines lie in memory of their own. -/
def Oks (B : Nat) (W : World) (l : List HA) : Prop := ∀ q ∈ l, HA.Ok B q W
theorem Oks.below {B : Nat} {W W' : World} {l : List HA} (h : Oks B W l) (hb : Below W.heap.size W W') : Oks B W' l := fun q hq => (h q hq).below hb

set_option maxRecDepth 100000 in
set_option maxHeartbeats 32000000 in
theorem stells_law (x y : HA) (w : World) (hx : x.Low w.heap.size w) (hy : y.Low w.heap.size w) (fx : x.Fits) (fy : y.Fits) (mx : x.Mach) (my : y.Mach) :
    Calls Tryz.prog 4 #[x.val, y.val] w fun e w' => e = .returned (.bool true) ∧ Below w.heap.size w w' := by
  obtain ⟨X, hX⟩ : ∃ X, X = (w.alloc (.cells #[.int .i64 x.at_, x.vo, x.vn] 25)).alloc (.cells #[.int .i64 y.at_, y.vo, y.vn] 25) := ⟨_, rfl⟩
  have bX : Below w.heap.size w X := by rw [hX]; exact below_then (below_nw w _) (below_nw _ _)
  have x0 : HBox X w.heap.size x := by rw [hX]; exact (HBox.new w x).below (below_nw _ _)
  have x1 : HBox X (w.heap.size + 1) y := by
    have h := HBox.new (w.alloc (.cells #[.int .i64 x.at_, x.vo, x.vn] 25)) y
    rw [World.size_alloc] at h
    rw [hX]; exact h
  have G1 : Hid (_) := sgreat_any x y X.heap.size X (hx.at bX) (hy.at bX) (Nat.le_refl _) fx fy mx my
  have CB : Hid (∀ W, Below X.heap.size X W → HBox W w.heap.size x ∧ HBox W (w.heap.size + 1) y) := fun W hW => ⟨x0.below hW, x1.below hW⟩
  have LXY : Hid (∀ W, Below X.heap.size X W → x.Low W.heap.size W ∧ y.Low W.heap.size W) := fun W hW => ⟨(hx.at bX).at hW, (hy.at bX).at hW⟩
  have FXY : Hid (x.Fits ∧ y.Fits) := ⟨fx, fy⟩
  have BX : Hid (Below w.heap.size w X) := bX
  obtain ⟨c0, c1, c2⟩ := x0.cells
  obtain ⟨c3, c4, c5⟩ := x1.cells
  obtain ⟨⟨xa1, xk1, e1⟩, ⟨xa2, xk2, e2⟩⟩ := hx.shape
  obtain ⟨⟨ya1, yk1, e3⟩, ⟨ya2, yk2, e4⟩⟩ := hy.shape
  obtain ⟨xp, xo, xn, X1, X2⟩ := x
  obtain ⟨yp, yo, yn, Y1, Y2⟩ := y
  simp only at e1 e2 e3 e4
  subst e1 e2 e3 e4
  clear hx hy x0 x1 bX fx fy mx my
  simp only [HA.val] at hX G1 c0 c1 c2 c3 c4 c5 ⊢
  refine (callsIn_wide (n := 3)).1 ?_
  refine callsIn_of_wp Tryz.func4 rfl trivial ?_ rfl
  simp only [Tryz.ntmps4, List.size_toArray, List.length_cons, List.length_nil, Nat.reduceAdd, Nat.reduceSub, Array.replicate_succ, Array.replicate_zero, List.push_toArray, List.append_toArray, List.nil_append, List.cons_append]
  gi_wp2_with fail
  rw [← hX]
  clear hX c0 c1 c2 c3 c4 c5
  refine ⟨trivial, ?_⟩
  refine (callsIn_wide.2 G1.out).mono ?_
  rintro e w1 ⟨r1, rfl, b1, hr1⟩
  have B1 : Hid (Below X.heap.size X w1) := b1
  have HR1 : Hid (_) := hr1
  clear G1 b1 hr1
  cases r1 with
  | true =>
    gi_wp2_with fail
    refine ⟨trivial, ?_⟩
    refine (callsIn_wide.2 (sawake_any w1)).mono ?_
    rintro e w2 ⟨rfl, b2⟩
    have BF : Hid (Below w.heap.size w w2) := below_then BX.out (below_then B1.out b2)
    clear b2
    gi_wp2
    exact bodyPost_ret (results_tmp rfl _ _ _) rfl ⟨rfl, BF.out⟩
  | false =>
    obtain ⟨s1', s2, s3⟩ := HR1.out (by first | exact rfl | trivial)
    have s1 : X1.length + X2.length + Y1.length + Y2.length ≤ 2000 := s1'
    have FIN : Hid (HA.Fine ⟨xp, .slice xa1 X1.length xk1, .slice xa2 X2.length xk2, X1, X2⟩ ∧ HA.Fine ⟨yp, .slice ya1 Y1.length yk1, .slice ya2 Y2.length yk2, Y1, Y2⟩) := ⟨fine_short (by show X1.length + X2.length ≤ 2000; omega) s2 FXY.out.1, fine_short (by show Y1.length + Y2.length ≤ 2000; omega) s3 FXY.out.2⟩
    have LEN : Hid (X1.length + X2.length + Y1.length + Y2.length ≤ 2000) := s1
    have LTX : Hid (∀ W, Below X.heap.size X W → _) := fun W hW => lentHunk_any ⟨xp, .slice xa1 X1.length xk1, .slice xa2 X2.length xk2, X1, X2⟩ W (LXY.out W hW).1 (by show X1.length ≤ 5000; omega) (by show X2.length ≤ 5000; omega)
    have LTY : Hid (∀ W, Below X.heap.size X W → _) := fun W hW => lentHunk_any ⟨yp, .slice ya1 Y1.length yk1, .slice ya2 Y2.length yk2, Y1, Y2⟩ W (LXY.out W hW).2 (by show Y1.length ≤ 5000; omega) (by show Y2.length ≤ 5000; omega)
    simp only [HA.val] at LTX LTY
    clear s1 s1' s2 s3 HR1 FXY
    gi_wp2_with fail
    refine cut_in (fun a' Z => ∃ (bx bz g1 h1 g2 h2 g3 h3 g4 h4 : Nat), a' = (⟨#[.agg #[.int .i64 xp, .slice xa1 X1.length xk1, .slice xa2 X2.length xk2], .agg #[.int .i64 yp, .slice ya1 Y1.length yk1, .slice ya2 Y2.length yk2], .pointer (some ⟨w.heap.size, 0, none⟩), .pointer (some ⟨w.heap.size + 1, 0, none⟩), .bool false, .pointer (some ⟨bx, 0, none⟩), .pointer (some ⟨bz, 0, none⟩), undef, undef, undef, undef, undef, undef, undef, undef, undef, undef, undef, undef, .agg #[.int .i64 xp, .slice xa1 X1.length xk1, .slice xa2 X2.length xk2], .agg #[.int .i64 yp, .slice ya1 Y1.length yk1, .slice ya2 Y2.length yk2], .bool false, undef, .agg #[.int .i64 xp, .slice xa1 X1.length xk1, .slice xa2 X2.length xk2], .agg #[.int .i64 xp, .slice (some ⟨g1, 0, none⟩) X1.length h1, .slice (some ⟨g2, 0, none⟩) X2.length h2], .agg #[.int .i64 yp, .slice ya1 Y1.length yk1, .slice ya2 Y2.length yk2], .agg #[.int .i64 yp, .slice (some ⟨g3, 0, none⟩) Y1.length h3, .slice (some ⟨g4, 0, none⟩) Y2.length h4], undef, undef, undef, undef, undef, undef, undef, undef, undef, undef, undef, undef, undef, undef, undef, undef, undef, undef, undef, undef, undef, undef, undef, undef, undef, undef, undef, undef, undef, undef, undef, undef, undef, undef, undef, undef, undef, undef, undef, undef, undef, undef, undef, undef, undef, undef, undef, undef, undef, undef, undef, undef, undef, undef, undef, undef, undef, undef, undef, undef, undef, undef, undef, undef, undef, undef, undef, undef, undef, undef, undef, undef, undef, undef, undef, undef, undef, undef, undef, undef, undef, undef, undef, undef, undef, undef, undef, undef, undef, undef], []⟩ : Act) ∧ HBox Z bx ⟨xp, .slice (some ⟨g1, 0, none⟩) X1.length h1, .slice (some ⟨g2, 0, none⟩) X2.length h2, X1, X2⟩ ∧ HBox Z bz ⟨yp, .slice (some ⟨g3, 0, none⟩) Y1.length h3, .slice (some ⟨g4, 0, none⟩) Y2.length h4, Y1, Y2⟩ ∧ LentOf w1.heap.size Z ⟨xp, .slice xa1 X1.length xk1, .slice xa2 X2.length xk2, X1, X2⟩ ⟨xp, .slice (some ⟨g1, 0, none⟩) X1.length h1, .slice (some ⟨g2, 0, none⟩) X2.length h2, X1, X2⟩ ∧ LentOf w1.heap.size Z ⟨yp, .slice ya1 Y1.length yk1, .slice ya2 Y2.length yk2, Y1, Y2⟩ ⟨yp, .slice (some ⟨g3, 0, none⟩) Y1.length h3, .slice (some ⟨g4, 0, none⟩) Y2.length h4, Y1, Y2⟩ ∧ Below w1.heap.size w1 Z) ?_ ?_
    · have BD : Below X.heap.size X w1.drew := below_drewN B1.out 1
      have WD : Below w1.heap.size w1 w1.drew := below_drewN (Below.refl _ w1) 1
      obtain ⟨V0, hV0⟩ : ∃ V, V = w1.drew := ⟨_, rfl⟩
      refine region_lex (fun W => HBox W w.heap.size ⟨xp, .slice xa1 X1.length xk1, .slice xa2 X2.length xk2, X1, X2⟩ ∧ HBox W (w.heap.size + 1) ⟨yp, .slice ya1 Y1.length yk1, .slice ya2 Y2.length yk2, Y1, Y2⟩) 1 7 rfl (by kernel_rfl) (by kernel_rfl) (by kernel_rfl) (by kernel_rfl) (fun _ _ d _ _ h => by cases d <;> exact h) (CB.out _ BD) ?_
      rw [← hV0] at BD WD ⊢
      clear hV0
      simp only [List.take_succ_cons, List.take_zero]
      apply lexC_want
      · rfl
      · exact fun _ => rfl
      · intro w' hw'; obtain ⟨q0, q1, q2⟩ := HBox.cells hw'.1; simp only at q0 q1 q2; go_simp; try rfl
      simp only [Act.put, List.setIfInBounds_toArray, List.set_cons_zero, List.set_cons_succ]
      refine lexC_nil ?_
      refine anyC_take (i := 2) (v := .agg #[.int .i64 yp, .slice ya1 Y1.length yk1, .slice ya2 Y2.length yk2]) rfl rfl (by kernel_rfl) (by kernel_rfl) (by kernel_rfl) (fun _ _ d _ _ h => by cases d <;> exact h) (CB.out _ BD) (by rfl) (fun _ => rfl) (by intro w' hw'; obtain ⟨q0, q1, q2⟩ := HBox.cells hw'.2; simp only at q0 q1 q2; go_simp; try rfl) ?_
      refine anyC_three (i := 1) (j := 4) (k := 5) (by kernel_rfl) rfl rfl rfl (by rfl) (by rfl) (by rfl) (fun K hK => ?_) (fun K hK => ?_) (fun K hK => ?_) 
      · go_simp
        refine ⟨trivial, ?_⟩
        refine (callsIn_wide.2 (LTX.out V0 BD)).mono ?_
        rintro e v1 ⟨z1, rfl, lo1, bb1⟩
        obtain ⟨g1, h1, g2, h2, rfl⟩ := lent_shape lo1
        dsimp only
        have le1 := LentOf.base lo1 (show w1.heap.size ≤ V0.heap.size from WD.size)
        have bw1 : Below X.heap.size X v1 := below_then BD bb1
        have wl1 : Below w1.heap.size w1 v1 := below_then WD bb1
        refine hK _ _ (CB.out _ bw1) ?_
        clear hK
        refine anyC_three (i := 3) (j := 4) (k := 5) (by kernel_rfl) rfl rfl rfl (by rfl) (by rfl) (by rfl) (fun K hK => ?_) (fun K hK => ?_) (fun K hK => ?_) 
        · go_simp
          refine ⟨trivial, ?_⟩
          refine (callsIn_wide.2 (LTY.out v1 bw1)).mono ?_
          rintro e v2 ⟨z2, rfl, lo2, bb2⟩
          obtain ⟨g3, h3, g4, h4, rfl⟩ := lent_shape lo2
          dsimp only
          have le2 := LentOf.base lo2 (show w1.heap.size ≤ v1.heap.size from wl1.size)
          have bw2 : Below X.heap.size X v2 := below_then bw1 bb2
          have lentX2 := LentOf.below le1 bb2
          have wl2 : Below w1.heap.size w1 v2 := below_then wl1 bb2
          refine hK _ _ (CB.out _ bw2) ?_
          clear hK
          refine anyC_two (i := 4) (j := 5) (by kernel_rfl) rfl rfl (by rfl) (by rfl) (fun K hK => ?_) (fun K hK => ?_) 
          · go_simp
            obtain ⟨v3, hv3, bb3, hz3⟩ := new_zero v2
            try rw [← hv3]
            clear hv3
            have na3 : w1.heap.size ≤ v2.heap.size := wl2.size
            have bw3 : Below X.heap.size X v3 := below_then bw2 bb3
            have lentX3 := LentOf.below lentX2 bb3
            have lentY3 := LentOf.below le2 bb3
            have wl3 : Below w1.heap.size w1 v3 := below_then wl2 bb3
            refine hK _ _ (CB.out _ bw3) ?_
            clear hK
            refine anyC_one (i := 5) (by kernel_rfl) rfl (by rfl) (fun K hK => ?_)
            go_simp
            obtain ⟨v4, hv4, bb4, hz4⟩ := new_zero v3
            try rw [← hv4]
            clear hv4
            have na4 : w1.heap.size ≤ v3.heap.size := wl3.size
            have ne4 := HBox.lt hz3
            have bw4 : Below X.heap.size X v4 := below_then bw3 bb4
            have lentX4 := LentOf.below lentX3 bb4
            have lentY4 := LentOf.below lentY3 bb4
            have boxx4 := HBox.below hz3 bb4
            have wl4 : Below w1.heap.size w1 v4 := below_then wl3 bb4
            refine hK _ _ (CB.out _ bw4) ?_
            clear hK
            obtain ⟨f0, f1, f2, ff⟩ := hbox_facts boxx4 (.int .i64 xp) (.slice (some ⟨g1, 0, none⟩) X1.length h1)
            obtain ⟨W8, hW8, h8, g8, o8⟩ := hbox_put boxx4 ⟨xp, .slice (some ⟨g1, 0, none⟩) X1.length h1, .slice (some ⟨g2, 0, none⟩) X2.length h2, X1, X2⟩
            have hne : v3.heap.size ≠ v2.heap.size := by have := HBox.lt boxx4; have := HBox.lt hz4; omega
            have X8 := HBox.grown hz4 g8 hne
            have n1 : w.heap.size + 1 < X.heap.size := (CB.out X (Below.refl _ X)).2.lt
            have nb1 : w1.heap.size ≤ v2.heap.size := by first | exact Nat.le_refl _ | omega
            have nb2 : w1.heap.size ≤ v3.heap.size := by first | exact Nat.le_refl _ | omega
            have nx1 : X.heap.size ≤ w1.heap.size := B1.out.size
            have P8 : HBox W8 w.heap.size ⟨xp, .slice xa1 X1.length xk1, .slice xa2 X2.length xk2, X1, X2⟩ ∧ HBox W8 (w.heap.size + 1) ⟨yp, .slice ya1 Y1.length yk1, .slice ya2 Y2.length yk2, Y1, Y2⟩ := ⟨(CB.out _ bw4).1.grown g8 (by omega), (CB.out _ bw4).2.grown g8 (by omega)⟩
            simp only [zeroHA] at f0 f1 f2
            simp only at hW8
            refine anyC_one (i := 6) (by kernel_rfl) rfl (by rfl) (fun K5 hK5 => ?_)
            go_simp
            try rw [← hW8]
            refine hK5 _ _ P8 ?_
            clear hK5 f0 f1 f2 ff hW8
            obtain ⟨f0, f1, f2, ff⟩ := hbox_facts X8 (.int .i64 yp) (.slice (some ⟨g3, 0, none⟩) Y1.length h3)
            obtain ⟨W9, hW9, h9, g9, o9⟩ := hbox_put X8 ⟨yp, .slice (some ⟨g3, 0, none⟩) Y1.length h3, .slice (some ⟨g4, 0, none⟩) Y2.length h4, Y1, Y2⟩
            have X9 := h8.grown g9 (Ne.symm hne)
            have P9 : HBox W9 w.heap.size ⟨xp, .slice xa1 X1.length xk1, .slice xa2 X2.length xk2, X1, X2⟩ ∧ HBox W9 (w.heap.size + 1) ⟨yp, .slice ya1 Y1.length yk1, .slice ya2 Y2.length yk2, Y1, Y2⟩ := ⟨P8.1.grown g9 (by omega), P8.2.grown g9 (by omega)⟩
            simp only [zeroHA] at f0 f1 f2
            simp only at hW9
            refine anyC_one (i := 7) (by kernel_rfl) rfl (by rfl) (fun K6 hK6 => ?_)
            go_simp
            try rw [← hW9]
            refine hK6 _ _ P9 ?_
            clear hK6 f0 f1 f2 ff hW9
            refine anyC_done (by kernel_rfl) ?_
            have w8 : Below w1.heap.size w1 W8 := below_grown wl4 g8 nb1 wl4.size
            have w9 : Below w1.heap.size w1 W9 := below_grown w8 g9 nb2 w8.size
            exact ⟨v2.heap.size, v3.heap.size, g1, h1, g2, h2, g3, h3, g4, h4, rfl, X9, h9, (LentOf.put (LentOf.put lentX4 o8) o9), (LentOf.put (LentOf.put lentY4 o8) o9), w9⟩
          · go_simp
            obtain ⟨v5, hv5, bb5, hz5⟩ := new_zero v2
            try rw [← hv5]
            clear hv5
            have na5 : w1.heap.size ≤ v2.heap.size := wl2.size
            have bw5 : Below X.heap.size X v5 := below_then bw2 bb5
            have lentX5 := LentOf.below lentX2 bb5
            have lentY5 := LentOf.below le2 bb5
            have wl5 : Below w1.heap.size w1 v5 := below_then wl2 bb5
            refine hK _ _ (CB.out _ bw5) ?_
            clear hK
            refine anyC_one (i := 4) (by kernel_rfl) rfl (by rfl) (fun K hK => ?_)
            go_simp
            obtain ⟨v6, hv6, bb6, hz6⟩ := new_zero v5
            try rw [← hv6]
            clear hv6
            have na6 : w1.heap.size ≤ v5.heap.size := wl5.size
            have ne6 := HBox.lt hz5
            have bw6 : Below X.heap.size X v6 := below_then bw5 bb6
            have lentX6 := LentOf.below lentX5 bb6
            have lentY6 := LentOf.below lentY5 bb6
            have boxz6 := HBox.below hz5 bb6
            have wl6 : Below w1.heap.size w1 v6 := below_then wl5 bb6
            refine hK _ _ (CB.out _ bw6) ?_
            clear hK
            obtain ⟨f0, f1, f2, ff⟩ := hbox_facts hz6 (.int .i64 xp) (.slice (some ⟨g1, 0, none⟩) X1.length h1)
            obtain ⟨W8, hW8, h8, g8, o8⟩ := hbox_put hz6 ⟨xp, .slice (some ⟨g1, 0, none⟩) X1.length h1, .slice (some ⟨g2, 0, none⟩) X2.length h2, X1, X2⟩
            have hne : v2.heap.size ≠ v5.heap.size := by have := HBox.lt hz6; have := HBox.lt boxz6; omega
            have X8 := HBox.grown boxz6 g8 hne
            have n1 : w.heap.size + 1 < X.heap.size := (CB.out X (Below.refl _ X)).2.lt
            have nb1 : w1.heap.size ≤ v5.heap.size := by first | exact Nat.le_refl _ | omega
            have nb2 : w1.heap.size ≤ v2.heap.size := by first | exact Nat.le_refl _ | omega
            have nx1 : X.heap.size ≤ w1.heap.size := B1.out.size
            have P8 : HBox W8 w.heap.size ⟨xp, .slice xa1 X1.length xk1, .slice xa2 X2.length xk2, X1, X2⟩ ∧ HBox W8 (w.heap.size + 1) ⟨yp, .slice ya1 Y1.length yk1, .slice ya2 Y2.length yk2, Y1, Y2⟩ := ⟨(CB.out _ bw6).1.grown g8 (by omega), (CB.out _ bw6).2.grown g8 (by omega)⟩
            simp only [zeroHA] at f0 f1 f2
            simp only at hW8
            refine anyC_one (i := 6) (by kernel_rfl) rfl (by rfl) (fun K5 hK5 => ?_)
            go_simp
            try rw [← hW8]
            refine hK5 _ _ P8 ?_
            clear hK5 f0 f1 f2 ff hW8
            obtain ⟨f0, f1, f2, ff⟩ := hbox_facts X8 (.int .i64 yp) (.slice (some ⟨g3, 0, none⟩) Y1.length h3)
            obtain ⟨W9, hW9, h9, g9, o9⟩ := hbox_put X8 ⟨yp, .slice (some ⟨g3, 0, none⟩) Y1.length h3, .slice (some ⟨g4, 0, none⟩) Y2.length h4, Y1, Y2⟩
            have X9 := h8.grown g9 (Ne.symm hne)
            have P9 : HBox W9 w.heap.size ⟨xp, .slice xa1 X1.length xk1, .slice xa2 X2.length xk2, X1, X2⟩ ∧ HBox W9 (w.heap.size + 1) ⟨yp, .slice ya1 Y1.length yk1, .slice ya2 Y2.length yk2, Y1, Y2⟩ := ⟨P8.1.grown g9 (by omega), P8.2.grown g9 (by omega)⟩
            simp only [zeroHA] at f0 f1 f2
            simp only at hW9
            refine anyC_one (i := 7) (by kernel_rfl) rfl (by rfl) (fun K6 hK6 => ?_)
            go_simp
            try rw [← hW9]
            refine hK6 _ _ P9 ?_
            clear hK6 f0 f1 f2 ff hW9
            refine anyC_done (by kernel_rfl) ?_
            have w8 : Below w1.heap.size w1 W8 := below_grown wl6 g8 nb1 wl6.size
            have w9 : Below w1.heap.size w1 W9 := below_grown w8 g9 nb2 w8.size
            exact ⟨v5.heap.size, v2.heap.size, g1, h1, g2, h2, g3, h3, g4, h4, rfl, X9, h9, (LentOf.put (LentOf.put lentX6 o8) o9), (LentOf.put (LentOf.put lentY6 o8) o9), w9⟩
        · go_simp
          obtain ⟨v7, hv7, bb7, hz7⟩ := new_zero v1
          try rw [← hv7]
          clear hv7
          have na7 : w1.heap.size ≤ v1.heap.size := wl1.size
          have bw7 : Below X.heap.size X v7 := below_then bw1 bb7
          have lentX7 := LentOf.below le1 bb7
          have wl7 : Below w1.heap.size w1 v7 := below_then wl1 bb7
          refine hK _ _ (CB.out _ bw7) ?_
          clear hK
          refine anyC_two (i := 3) (j := 5) (by kernel_rfl) rfl rfl (by rfl) (by rfl) (fun K hK => ?_) (fun K hK => ?_) 
          · go_simp
            refine ⟨trivial, ?_⟩
            refine (callsIn_wide.2 (LTY.out v7 bw7)).mono ?_
            rintro e v8 ⟨z8, rfl, lo8, bb8⟩
            obtain ⟨g3, h3, g4, h4, rfl⟩ := lent_shape lo8
            dsimp only
            have le8 := LentOf.base lo8 (show w1.heap.size ≤ v7.heap.size from wl7.size)
            have bw8 : Below X.heap.size X v8 := below_then bw7 bb8
            have lentX8 := LentOf.below lentX7 bb8
            have boxx8 := HBox.below hz7 bb8
            have wl8 : Below w1.heap.size w1 v8 := below_then wl7 bb8
            refine hK _ _ (CB.out _ bw8) ?_
            clear hK
            refine anyC_one (i := 5) (by kernel_rfl) rfl (by rfl) (fun K hK => ?_)
            go_simp
            obtain ⟨v9, hv9, bb9, hz9⟩ := new_zero v8
            try rw [← hv9]
            clear hv9
            have na9 : w1.heap.size ≤ v8.heap.size := wl8.size
            have ne9 := HBox.lt boxx8
            have bw9 : Below X.heap.size X v9 := below_then bw8 bb9
            have lentX9 := LentOf.below lentX8 bb9
            have lentY9 := LentOf.below le8 bb9
            have boxx9 := HBox.below boxx8 bb9
            have wl9 : Below w1.heap.size w1 v9 := below_then wl8 bb9
            refine hK _ _ (CB.out _ bw9) ?_
            clear hK
            obtain ⟨f0, f1, f2, ff⟩ := hbox_facts boxx9 (.int .i64 xp) (.slice (some ⟨g1, 0, none⟩) X1.length h1)
            obtain ⟨W8, hW8, h8, g8, o8⟩ := hbox_put boxx9 ⟨xp, .slice (some ⟨g1, 0, none⟩) X1.length h1, .slice (some ⟨g2, 0, none⟩) X2.length h2, X1, X2⟩
            have hne : v8.heap.size ≠ v1.heap.size := by have := HBox.lt boxx9; have := HBox.lt hz9; omega
            have X8 := HBox.grown hz9 g8 hne
            have n1 : w.heap.size + 1 < X.heap.size := (CB.out X (Below.refl _ X)).2.lt
            have nb1 : w1.heap.size ≤ v1.heap.size := by first | exact Nat.le_refl _ | omega
            have nb2 : w1.heap.size ≤ v8.heap.size := by first | exact Nat.le_refl _ | omega
            have nx1 : X.heap.size ≤ w1.heap.size := B1.out.size
            have P8 : HBox W8 w.heap.size ⟨xp, .slice xa1 X1.length xk1, .slice xa2 X2.length xk2, X1, X2⟩ ∧ HBox W8 (w.heap.size + 1) ⟨yp, .slice ya1 Y1.length yk1, .slice ya2 Y2.length yk2, Y1, Y2⟩ := ⟨(CB.out _ bw9).1.grown g8 (by omega), (CB.out _ bw9).2.grown g8 (by omega)⟩
            simp only [zeroHA] at f0 f1 f2
            simp only at hW8
            refine anyC_one (i := 6) (by kernel_rfl) rfl (by rfl) (fun K5 hK5 => ?_)
            go_simp
            try rw [← hW8]
            refine hK5 _ _ P8 ?_
            clear hK5 f0 f1 f2 ff hW8
            obtain ⟨f0, f1, f2, ff⟩ := hbox_facts X8 (.int .i64 yp) (.slice (some ⟨g3, 0, none⟩) Y1.length h3)
            obtain ⟨W9, hW9, h9, g9, o9⟩ := hbox_put X8 ⟨yp, .slice (some ⟨g3, 0, none⟩) Y1.length h3, .slice (some ⟨g4, 0, none⟩) Y2.length h4, Y1, Y2⟩
            have X9 := h8.grown g9 (Ne.symm hne)
            have P9 : HBox W9 w.heap.size ⟨xp, .slice xa1 X1.length xk1, .slice xa2 X2.length xk2, X1, X2⟩ ∧ HBox W9 (w.heap.size + 1) ⟨yp, .slice ya1 Y1.length yk1, .slice ya2 Y2.length yk2, Y1, Y2⟩ := ⟨P8.1.grown g9 (by omega), P8.2.grown g9 (by omega)⟩
            simp only [zeroHA] at f0 f1 f2
            simp only at hW9
            refine anyC_one (i := 7) (by kernel_rfl) rfl (by rfl) (fun K6 hK6 => ?_)
            go_simp
            try rw [← hW9]
            refine hK6 _ _ P9 ?_
            clear hK6 f0 f1 f2 ff hW9
            refine anyC_done (by kernel_rfl) ?_
            have w8 : Below w1.heap.size w1 W8 := below_grown wl9 g8 nb1 wl9.size
            have w9 : Below w1.heap.size w1 W9 := below_grown w8 g9 nb2 w8.size
            exact ⟨v1.heap.size, v8.heap.size, g1, h1, g2, h2, g3, h3, g4, h4, rfl, X9, h9, (LentOf.put (LentOf.put lentX9 o8) o9), (LentOf.put (LentOf.put lentY9 o8) o9), w9⟩
          · go_simp
            obtain ⟨v10, hv10, bb10, hz10⟩ := new_zero v7
            try rw [← hv10]
            clear hv10
            have na10 : w1.heap.size ≤ v7.heap.size := wl7.size
            have ne10 := HBox.lt hz7
            have bw10 : Below X.heap.size X v10 := below_then bw7 bb10
            have lentX10 := LentOf.below lentX7 bb10
            have boxx10 := HBox.below hz7 bb10
            have wl10 : Below w1.heap.size w1 v10 := below_then wl7 bb10
            refine hK _ _ (CB.out _ bw10) ?_
            clear hK
            refine anyC_one (i := 3) (by kernel_rfl) rfl (by rfl) (fun K hK => ?_)
            go_simp
            refine ⟨trivial, ?_⟩
            refine (callsIn_wide.2 (LTY.out v10 bw10)).mono ?_
            rintro e v11 ⟨z11, rfl, lo11, bb11⟩
            obtain ⟨g3, h3, g4, h4, rfl⟩ := lent_shape lo11
            dsimp only
            have le11 := LentOf.base lo11 (show w1.heap.size ≤ v10.heap.size from wl10.size)
            have bw11 : Below X.heap.size X v11 := below_then bw10 bb11
            have lentX11 := LentOf.below lentX10 bb11
            have boxx11 := HBox.below boxx10 bb11
            have boxz11 := HBox.below hz10 bb11
            have wl11 : Below w1.heap.size w1 v11 := below_then wl10 bb11
            refine hK _ _ (CB.out _ bw11) ?_
            clear hK
            obtain ⟨f0, f1, f2, ff⟩ := hbox_facts boxx11 (.int .i64 xp) (.slice (some ⟨g1, 0, none⟩) X1.length h1)
            obtain ⟨W8, hW8, h8, g8, o8⟩ := hbox_put boxx11 ⟨xp, .slice (some ⟨g1, 0, none⟩) X1.length h1, .slice (some ⟨g2, 0, none⟩) X2.length h2, X1, X2⟩
            have hne : v7.heap.size ≠ v1.heap.size := by have := HBox.lt boxx11; have := HBox.lt boxz11; omega
            have X8 := HBox.grown boxz11 g8 hne
            have n1 : w.heap.size + 1 < X.heap.size := (CB.out X (Below.refl _ X)).2.lt
            have nb1 : w1.heap.size ≤ v1.heap.size := by first | exact Nat.le_refl _ | omega
            have nb2 : w1.heap.size ≤ v7.heap.size := by first | exact Nat.le_refl _ | omega
            have nx1 : X.heap.size ≤ w1.heap.size := B1.out.size
            have P8 : HBox W8 w.heap.size ⟨xp, .slice xa1 X1.length xk1, .slice xa2 X2.length xk2, X1, X2⟩ ∧ HBox W8 (w.heap.size + 1) ⟨yp, .slice ya1 Y1.length yk1, .slice ya2 Y2.length yk2, Y1, Y2⟩ := ⟨(CB.out _ bw11).1.grown g8 (by omega), (CB.out _ bw11).2.grown g8 (by omega)⟩
            simp only [zeroHA] at f0 f1 f2
            simp only at hW8
            refine anyC_one (i := 6) (by kernel_rfl) rfl (by rfl) (fun K5 hK5 => ?_)
            go_simp
            try rw [← hW8]
            refine hK5 _ _ P8 ?_
            clear hK5 f0 f1 f2 ff hW8
            obtain ⟨f0, f1, f2, ff⟩ := hbox_facts X8 (.int .i64 yp) (.slice (some ⟨g3, 0, none⟩) Y1.length h3)
            obtain ⟨W9, hW9, h9, g9, o9⟩ := hbox_put X8 ⟨yp, .slice (some ⟨g3, 0, none⟩) Y1.length h3, .slice (some ⟨g4, 0, none⟩) Y2.length h4, Y1, Y2⟩
            have X9 := h8.grown g9 (Ne.symm hne)
            have P9 : HBox W9 w.heap.size ⟨xp, .slice xa1 X1.length xk1, .slice xa2 X2.length xk2, X1, X2⟩ ∧ HBox W9 (w.heap.size + 1) ⟨yp, .slice ya1 Y1.length yk1, .slice ya2 Y2.length yk2, Y1, Y2⟩ := ⟨P8.1.grown g9 (by omega), P8.2.grown g9 (by omega)⟩
            simp only [zeroHA] at f0 f1 f2
            simp only at hW9
            refine anyC_one (i := 7) (by kernel_rfl) rfl (by rfl) (fun K6 hK6 => ?_)
            go_simp
            try rw [← hW9]
            refine hK6 _ _ P9 ?_
            clear hK6 f0 f1 f2 ff hW9
            refine anyC_done (by kernel_rfl) ?_
            have w8 : Below w1.heap.size w1 W8 := below_grown wl11 g8 nb1 wl11.size
            have w9 : Below w1.heap.size w1 W9 := below_grown w8 g9 nb2 w8.size
            exact ⟨v1.heap.size, v7.heap.size, g1, h1, g2, h2, g3, h3, g4, h4, rfl, X9, h9, (LentOf.put (LentOf.put lentX11 o8) o9), (LentOf.put (LentOf.put le11 o8) o9), w9⟩
        · go_simp
          obtain ⟨v12, hv12, bb12, hz12⟩ := new_zero v1
          try rw [← hv12]
          clear hv12
          have na12 : w1.heap.size ≤ v1.heap.size := wl1.size
          have bw12 : Below X.heap.size X v12 := below_then bw1 bb12
          have lentX12 := LentOf.below le1 bb12
          have wl12 : Below w1.heap.size w1 v12 := below_then wl1 bb12
          refine hK _ _ (CB.out _ bw12) ?_
          clear hK
          refine anyC_two (i := 3) (j := 4) (by kernel_rfl) rfl rfl (by rfl) (by rfl) (fun K hK => ?_) (fun K hK => ?_) 
          · go_simp
            refine ⟨trivial, ?_⟩
            refine (callsIn_wide.2 (LTY.out v12 bw12)).mono ?_
            rintro e v13 ⟨z13, rfl, lo13, bb13⟩
            obtain ⟨g3, h3, g4, h4, rfl⟩ := lent_shape lo13
            dsimp only
            have le13 := LentOf.base lo13 (show w1.heap.size ≤ v12.heap.size from wl12.size)
            have bw13 : Below X.heap.size X v13 := below_then bw12 bb13
            have lentX13 := LentOf.below lentX12 bb13
            have boxz13 := HBox.below hz12 bb13
            have wl13 : Below w1.heap.size w1 v13 := below_then wl12 bb13
            refine hK _ _ (CB.out _ bw13) ?_
            clear hK
            refine anyC_one (i := 4) (by kernel_rfl) rfl (by rfl) (fun K hK => ?_)
            go_simp
            obtain ⟨v14, hv14, bb14, hz14⟩ := new_zero v13
            try rw [← hv14]
            clear hv14
            have na14 : w1.heap.size ≤ v13.heap.size := wl13.size
            have ne14 := HBox.lt boxz13
            have bw14 : Below X.heap.size X v14 := below_then bw13 bb14
            have lentX14 := LentOf.below lentX13 bb14
            have lentY14 := LentOf.below le13 bb14
            have boxz14 := HBox.below boxz13 bb14
            have wl14 : Below w1.heap.size w1 v14 := below_then wl13 bb14
            refine hK _ _ (CB.out _ bw14) ?_
            clear hK
            obtain ⟨f0, f1, f2, ff⟩ := hbox_facts hz14 (.int .i64 xp) (.slice (some ⟨g1, 0, none⟩) X1.length h1)
            obtain ⟨W8, hW8, h8, g8, o8⟩ := hbox_put hz14 ⟨xp, .slice (some ⟨g1, 0, none⟩) X1.length h1, .slice (some ⟨g2, 0, none⟩) X2.length h2, X1, X2⟩
            have hne : v1.heap.size ≠ v13.heap.size := by have := HBox.lt hz14; have := HBox.lt boxz14; omega
            have X8 := HBox.grown boxz14 g8 hne
            have n1 : w.heap.size + 1 < X.heap.size := (CB.out X (Below.refl _ X)).2.lt
            have nb1 : w1.heap.size ≤ v13.heap.size := by first | exact Nat.le_refl _ | omega
            have nb2 : w1.heap.size ≤ v1.heap.size := by first | exact Nat.le_refl _ | omega
            have nx1 : X.heap.size ≤ w1.heap.size := B1.out.size
            have P8 : HBox W8 w.heap.size ⟨xp, .slice xa1 X1.length xk1, .slice xa2 X2.length xk2, X1, X2⟩ ∧ HBox W8 (w.heap.size + 1) ⟨yp, .slice ya1 Y1.length yk1, .slice ya2 Y2.length yk2, Y1, Y2⟩ := ⟨(CB.out _ bw14).1.grown g8 (by omega), (CB.out _ bw14).2.grown g8 (by omega)⟩
            simp only [zeroHA] at f0 f1 f2
            simp only at hW8
            refine anyC_one (i := 6) (by kernel_rfl) rfl (by rfl) (fun K5 hK5 => ?_)
            go_simp
            try rw [← hW8]
            refine hK5 _ _ P8 ?_
            clear hK5 f0 f1 f2 ff hW8
            obtain ⟨f0, f1, f2, ff⟩ := hbox_facts X8 (.int .i64 yp) (.slice (some ⟨g3, 0, none⟩) Y1.length h3)
            obtain ⟨W9, hW9, h9, g9, o9⟩ := hbox_put X8 ⟨yp, .slice (some ⟨g3, 0, none⟩) Y1.length h3, .slice (some ⟨g4, 0, none⟩) Y2.length h4, Y1, Y2⟩
            have X9 := h8.grown g9 (Ne.symm hne)
            have P9 : HBox W9 w.heap.size ⟨xp, .slice xa1 X1.length xk1, .slice xa2 X2.length xk2, X1, X2⟩ ∧ HBox W9 (w.heap.size + 1) ⟨yp, .slice ya1 Y1.length yk1, .slice ya2 Y2.length yk2, Y1, Y2⟩ := ⟨P8.1.grown g9 (by omega), P8.2.grown g9 (by omega)⟩
            simp only [zeroHA] at f0 f1 f2
            simp only at hW9
            refine anyC_one (i := 7) (by kernel_rfl) rfl (by rfl) (fun K6 hK6 => ?_)
            go_simp
            try rw [← hW9]
            refine hK6 _ _ P9 ?_
            clear hK6 f0 f1 f2 ff hW9
            refine anyC_done (by kernel_rfl) ?_
            have w8 : Below w1.heap.size w1 W8 := below_grown wl14 g8 nb1 wl14.size
            have w9 : Below w1.heap.size w1 W9 := below_grown w8 g9 nb2 w8.size
            exact ⟨v13.heap.size, v1.heap.size, g1, h1, g2, h2, g3, h3, g4, h4, rfl, X9, h9, (LentOf.put (LentOf.put lentX14 o8) o9), (LentOf.put (LentOf.put lentY14 o8) o9), w9⟩
          · go_simp
            obtain ⟨v15, hv15, bb15, hz15⟩ := new_zero v12
            try rw [← hv15]
            clear hv15
            have na15 : w1.heap.size ≤ v12.heap.size := wl12.size
            have ne15 := HBox.lt hz12
            have bw15 : Below X.heap.size X v15 := below_then bw12 bb15
            have lentX15 := LentOf.below lentX12 bb15
            have boxz15 := HBox.below hz12 bb15
            have wl15 : Below w1.heap.size w1 v15 := below_then wl12 bb15
            refine hK _ _ (CB.out _ bw15) ?_
            clear hK
            refine anyC_one (i := 3) (by kernel_rfl) rfl (by rfl) (fun K hK => ?_)
            go_simp
            refine ⟨trivial, ?_⟩
            refine (callsIn_wide.2 (LTY.out v15 bw15)).mono ?_
            rintro e v16 ⟨z16, rfl, lo16, bb16⟩
            obtain ⟨g3, h3, g4, h4, rfl⟩ := lent_shape lo16
            dsimp only
            have le16 := LentOf.base lo16 (show w1.heap.size ≤ v15.heap.size from wl15.size)
            have bw16 : Below X.heap.size X v16 := below_then bw15 bb16
            have lentX16 := LentOf.below lentX15 bb16
            have boxx16 := HBox.below hz15 bb16
            have boxz16 := HBox.below boxz15 bb16
            have wl16 : Below w1.heap.size w1 v16 := below_then wl15 bb16
            refine hK _ _ (CB.out _ bw16) ?_
            clear hK
            obtain ⟨f0, f1, f2, ff⟩ := hbox_facts boxx16 (.int .i64 xp) (.slice (some ⟨g1, 0, none⟩) X1.length h1)
            obtain ⟨W8, hW8, h8, g8, o8⟩ := hbox_put boxx16 ⟨xp, .slice (some ⟨g1, 0, none⟩) X1.length h1, .slice (some ⟨g2, 0, none⟩) X2.length h2, X1, X2⟩
            have hne : v1.heap.size ≠ v12.heap.size := by have := HBox.lt boxx16; have := HBox.lt boxz16; omega
            have X8 := HBox.grown boxz16 g8 hne
            have n1 : w.heap.size + 1 < X.heap.size := (CB.out X (Below.refl _ X)).2.lt
            have nb1 : w1.heap.size ≤ v12.heap.size := by first | exact Nat.le_refl _ | omega
            have nb2 : w1.heap.size ≤ v1.heap.size := by first | exact Nat.le_refl _ | omega
            have nx1 : X.heap.size ≤ w1.heap.size := B1.out.size
            have P8 : HBox W8 w.heap.size ⟨xp, .slice xa1 X1.length xk1, .slice xa2 X2.length xk2, X1, X2⟩ ∧ HBox W8 (w.heap.size + 1) ⟨yp, .slice ya1 Y1.length yk1, .slice ya2 Y2.length yk2, Y1, Y2⟩ := ⟨(CB.out _ bw16).1.grown g8 (by omega), (CB.out _ bw16).2.grown g8 (by omega)⟩
            simp only [zeroHA] at f0 f1 f2
            simp only at hW8
            refine anyC_one (i := 6) (by kernel_rfl) rfl (by rfl) (fun K5 hK5 => ?_)
            go_simp
            try rw [← hW8]
            refine hK5 _ _ P8 ?_
            clear hK5 f0 f1 f2 ff hW8
            obtain ⟨f0, f1, f2, ff⟩ := hbox_facts X8 (.int .i64 yp) (.slice (some ⟨g3, 0, none⟩) Y1.length h3)
            obtain ⟨W9, hW9, h9, g9, o9⟩ := hbox_put X8 ⟨yp, .slice (some ⟨g3, 0, none⟩) Y1.length h3, .slice (some ⟨g4, 0, none⟩) Y2.length h4, Y1, Y2⟩
            have X9 := h8.grown g9 (Ne.symm hne)
            have P9 : HBox W9 w.heap.size ⟨xp, .slice xa1 X1.length xk1, .slice xa2 X2.length xk2, X1, X2⟩ ∧ HBox W9 (w.heap.size + 1) ⟨yp, .slice ya1 Y1.length yk1, .slice ya2 Y2.length yk2, Y1, Y2⟩ := ⟨P8.1.grown g9 (by omega), P8.2.grown g9 (by omega)⟩
            simp only [zeroHA] at f0 f1 f2
            simp only at hW9
            refine anyC_one (i := 7) (by kernel_rfl) rfl (by rfl) (fun K6 hK6 => ?_)
            go_simp
            try rw [← hW9]
            refine hK6 _ _ P9 ?_
            clear hK6 f0 f1 f2 ff hW9
            refine anyC_done (by kernel_rfl) ?_
            have w8 : Below w1.heap.size w1 W8 := below_grown wl16 g8 nb1 wl16.size
            have w9 : Below w1.heap.size w1 W9 := below_grown w8 g9 nb2 w8.size
            exact ⟨v12.heap.size, v1.heap.size, g1, h1, g2, h2, g3, h3, g4, h4, rfl, X9, h9, (LentOf.put (LentOf.put lentX16 o8) o9), (LentOf.put (LentOf.put le16 o8) o9), w9⟩
      · go_simp
        obtain ⟨v17, hv17, bb17, hz17⟩ := new_zero V0
        try rw [← hv17]
        clear hv17
        have na17 : w1.heap.size ≤ V0.heap.size := WD.size
        have bw17 : Below X.heap.size X v17 := below_then BD bb17
        have wl17 : Below w1.heap.size w1 v17 := below_then WD bb17
        refine hK _ _ (CB.out _ bw17) ?_
        clear hK
        refine anyC_two (i := 1) (j := 5) (by kernel_rfl) rfl rfl (by rfl) (by rfl) (fun K hK => ?_) (fun K hK => ?_) 
        · go_simp
          refine ⟨trivial, ?_⟩
          refine (callsIn_wide.2 (LTX.out v17 bw17)).mono ?_
          rintro e v18 ⟨z18, rfl, lo18, bb18⟩
          obtain ⟨g1, h1, g2, h2, rfl⟩ := lent_shape lo18
          dsimp only
          have le18 := LentOf.base lo18 (show w1.heap.size ≤ v17.heap.size from wl17.size)
          have bw18 : Below X.heap.size X v18 := below_then bw17 bb18
          have boxx18 := HBox.below hz17 bb18
          have wl18 : Below w1.heap.size w1 v18 := below_then wl17 bb18
          refine hK _ _ (CB.out _ bw18) ?_
          clear hK
          refine anyC_two (i := 3) (j := 5) (by kernel_rfl) rfl rfl (by rfl) (by rfl) (fun K hK => ?_) (fun K hK => ?_) 
          · go_simp
            refine ⟨trivial, ?_⟩
            refine (callsIn_wide.2 (LTY.out v18 bw18)).mono ?_
            rintro e v19 ⟨z19, rfl, lo19, bb19⟩
            obtain ⟨g3, h3, g4, h4, rfl⟩ := lent_shape lo19
            dsimp only
            have le19 := LentOf.base lo19 (show w1.heap.size ≤ v18.heap.size from wl18.size)
            have bw19 : Below X.heap.size X v19 := below_then bw18 bb19
            have lentX19 := LentOf.below le18 bb19
            have boxx19 := HBox.below boxx18 bb19
            have wl19 : Below w1.heap.size w1 v19 := below_then wl18 bb19
            refine hK _ _ (CB.out _ bw19) ?_
            clear hK
            refine anyC_one (i := 5) (by kernel_rfl) rfl (by rfl) (fun K hK => ?_)
            go_simp
            obtain ⟨v20, hv20, bb20, hz20⟩ := new_zero v19
            try rw [← hv20]
            clear hv20
            have na20 : w1.heap.size ≤ v19.heap.size := wl19.size
            have ne20 := HBox.lt boxx19
            have bw20 : Below X.heap.size X v20 := below_then bw19 bb20
            have lentX20 := LentOf.below lentX19 bb20
            have lentY20 := LentOf.below le19 bb20
            have boxx20 := HBox.below boxx19 bb20
            have wl20 : Below w1.heap.size w1 v20 := below_then wl19 bb20
            refine hK _ _ (CB.out _ bw20) ?_
            clear hK
            obtain ⟨f0, f1, f2, ff⟩ := hbox_facts boxx20 (.int .i64 xp) (.slice (some ⟨g1, 0, none⟩) X1.length h1)
            obtain ⟨W8, hW8, h8, g8, o8⟩ := hbox_put boxx20 ⟨xp, .slice (some ⟨g1, 0, none⟩) X1.length h1, .slice (some ⟨g2, 0, none⟩) X2.length h2, X1, X2⟩
            have hne : v19.heap.size ≠ V0.heap.size := by have := HBox.lt boxx20; have := HBox.lt hz20; omega
            have X8 := HBox.grown hz20 g8 hne
            have n1 : w.heap.size + 1 < X.heap.size := (CB.out X (Below.refl _ X)).2.lt
            have nb1 : w1.heap.size ≤ V0.heap.size := by first | exact Nat.le_refl _ | omega
            have nb2 : w1.heap.size ≤ v19.heap.size := by first | exact Nat.le_refl _ | omega
            have nx1 : X.heap.size ≤ w1.heap.size := B1.out.size
            have P8 : HBox W8 w.heap.size ⟨xp, .slice xa1 X1.length xk1, .slice xa2 X2.length xk2, X1, X2⟩ ∧ HBox W8 (w.heap.size + 1) ⟨yp, .slice ya1 Y1.length yk1, .slice ya2 Y2.length yk2, Y1, Y2⟩ := ⟨(CB.out _ bw20).1.grown g8 (by omega), (CB.out _ bw20).2.grown g8 (by omega)⟩
            simp only [zeroHA] at f0 f1 f2
            simp only at hW8
            refine anyC_one (i := 6) (by kernel_rfl) rfl (by rfl) (fun K5 hK5 => ?_)
            go_simp
            try rw [← hW8]
            refine hK5 _ _ P8 ?_
            clear hK5 f0 f1 f2 ff hW8
            obtain ⟨f0, f1, f2, ff⟩ := hbox_facts X8 (.int .i64 yp) (.slice (some ⟨g3, 0, none⟩) Y1.length h3)
            obtain ⟨W9, hW9, h9, g9, o9⟩ := hbox_put X8 ⟨yp, .slice (some ⟨g3, 0, none⟩) Y1.length h3, .slice (some ⟨g4, 0, none⟩) Y2.length h4, Y1, Y2⟩
            have X9 := h8.grown g9 (Ne.symm hne)
            have P9 : HBox W9 w.heap.size ⟨xp, .slice xa1 X1.length xk1, .slice xa2 X2.length xk2, X1, X2⟩ ∧ HBox W9 (w.heap.size + 1) ⟨yp, .slice ya1 Y1.length yk1, .slice ya2 Y2.length yk2, Y1, Y2⟩ := ⟨P8.1.grown g9 (by omega), P8.2.grown g9 (by omega)⟩
            simp only [zeroHA] at f0 f1 f2
            simp only at hW9
            refine anyC_one (i := 7) (by kernel_rfl) rfl (by rfl) (fun K6 hK6 => ?_)
            go_simp
            try rw [← hW9]
            refine hK6 _ _ P9 ?_
            clear hK6 f0 f1 f2 ff hW9
            refine anyC_done (by kernel_rfl) ?_
            have w8 : Below w1.heap.size w1 W8 := below_grown wl20 g8 nb1 wl20.size
            have w9 : Below w1.heap.size w1 W9 := below_grown w8 g9 nb2 w8.size
            exact ⟨V0.heap.size, v19.heap.size, g1, h1, g2, h2, g3, h3, g4, h4, rfl, X9, h9, (LentOf.put (LentOf.put lentX20 o8) o9), (LentOf.put (LentOf.put lentY20 o8) o9), w9⟩
          · go_simp
            obtain ⟨v21, hv21, bb21, hz21⟩ := new_zero v18
            try rw [← hv21]
            clear hv21
            have na21 : w1.heap.size ≤ v18.heap.size := wl18.size
            have ne21 := HBox.lt boxx18
            have bw21 : Below X.heap.size X v21 := below_then bw18 bb21
            have lentX21 := LentOf.below le18 bb21
            have boxx21 := HBox.below boxx18 bb21
            have wl21 : Below w1.heap.size w1 v21 := below_then wl18 bb21
            refine hK _ _ (CB.out _ bw21) ?_
            clear hK
            refine anyC_one (i := 3) (by kernel_rfl) rfl (by rfl) (fun K hK => ?_)
            go_simp
            refine ⟨trivial, ?_⟩
            refine (callsIn_wide.2 (LTY.out v21 bw21)).mono ?_
            rintro e v22 ⟨z22, rfl, lo22, bb22⟩
            obtain ⟨g3, h3, g4, h4, rfl⟩ := lent_shape lo22
            dsimp only
            have le22 := LentOf.base lo22 (show w1.heap.size ≤ v21.heap.size from wl21.size)
            have bw22 : Below X.heap.size X v22 := below_then bw21 bb22
            have lentX22 := LentOf.below lentX21 bb22
            have boxx22 := HBox.below boxx21 bb22
            have boxz22 := HBox.below hz21 bb22
            have wl22 : Below w1.heap.size w1 v22 := below_then wl21 bb22
            refine hK _ _ (CB.out _ bw22) ?_
            clear hK
            obtain ⟨f0, f1, f2, ff⟩ := hbox_facts boxx22 (.int .i64 xp) (.slice (some ⟨g1, 0, none⟩) X1.length h1)
            obtain ⟨W8, hW8, h8, g8, o8⟩ := hbox_put boxx22 ⟨xp, .slice (some ⟨g1, 0, none⟩) X1.length h1, .slice (some ⟨g2, 0, none⟩) X2.length h2, X1, X2⟩
            have hne : v18.heap.size ≠ V0.heap.size := by have := HBox.lt boxx22; have := HBox.lt boxz22; omega
            have X8 := HBox.grown boxz22 g8 hne
            have n1 : w.heap.size + 1 < X.heap.size := (CB.out X (Below.refl _ X)).2.lt
            have nb1 : w1.heap.size ≤ V0.heap.size := by first | exact Nat.le_refl _ | omega
            have nb2 : w1.heap.size ≤ v18.heap.size := by first | exact Nat.le_refl _ | omega
            have nx1 : X.heap.size ≤ w1.heap.size := B1.out.size
            have P8 : HBox W8 w.heap.size ⟨xp, .slice xa1 X1.length xk1, .slice xa2 X2.length xk2, X1, X2⟩ ∧ HBox W8 (w.heap.size + 1) ⟨yp, .slice ya1 Y1.length yk1, .slice ya2 Y2.length yk2, Y1, Y2⟩ := ⟨(CB.out _ bw22).1.grown g8 (by omega), (CB.out _ bw22).2.grown g8 (by omega)⟩
            simp only [zeroHA] at f0 f1 f2
            simp only at hW8
            refine anyC_one (i := 6) (by kernel_rfl) rfl (by rfl) (fun K5 hK5 => ?_)
            go_simp
            try rw [← hW8]
            refine hK5 _ _ P8 ?_
            clear hK5 f0 f1 f2 ff hW8
            obtain ⟨f0, f1, f2, ff⟩ := hbox_facts X8 (.int .i64 yp) (.slice (some ⟨g3, 0, none⟩) Y1.length h3)
            obtain ⟨W9, hW9, h9, g9, o9⟩ := hbox_put X8 ⟨yp, .slice (some ⟨g3, 0, none⟩) Y1.length h3, .slice (some ⟨g4, 0, none⟩) Y2.length h4, Y1, Y2⟩
            have X9 := h8.grown g9 (Ne.symm hne)
            have P9 : HBox W9 w.heap.size ⟨xp, .slice xa1 X1.length xk1, .slice xa2 X2.length xk2, X1, X2⟩ ∧ HBox W9 (w.heap.size + 1) ⟨yp, .slice ya1 Y1.length yk1, .slice ya2 Y2.length yk2, Y1, Y2⟩ := ⟨P8.1.grown g9 (by omega), P8.2.grown g9 (by omega)⟩
            simp only [zeroHA] at f0 f1 f2
            simp only at hW9
            refine anyC_one (i := 7) (by kernel_rfl) rfl (by rfl) (fun K6 hK6 => ?_)
            go_simp
            try rw [← hW9]
            refine hK6 _ _ P9 ?_
            clear hK6 f0 f1 f2 ff hW9
            refine anyC_done (by kernel_rfl) ?_
            have w8 : Below w1.heap.size w1 W8 := below_grown wl22 g8 nb1 wl22.size
            have w9 : Below w1.heap.size w1 W9 := below_grown w8 g9 nb2 w8.size
            exact ⟨V0.heap.size, v18.heap.size, g1, h1, g2, h2, g3, h3, g4, h4, rfl, X9, h9, (LentOf.put (LentOf.put lentX22 o8) o9), (LentOf.put (LentOf.put le22 o8) o9), w9⟩
        · go_simp
          obtain ⟨v23, hv23, bb23, hz23⟩ := new_zero v17
          try rw [← hv23]
          clear hv23
          have na23 : w1.heap.size ≤ v17.heap.size := wl17.size
          have ne23 := HBox.lt hz17
          have bw23 : Below X.heap.size X v23 := below_then bw17 bb23
          have boxx23 := HBox.below hz17 bb23
          have wl23 : Below w1.heap.size w1 v23 := below_then wl17 bb23
          refine hK _ _ (CB.out _ bw23) ?_
          clear hK
          refine anyC_one (i := 1) (by kernel_rfl) rfl (by rfl) (fun K hK => ?_)
          go_simp
          refine ⟨trivial, ?_⟩
          refine (callsIn_wide.2 (LTX.out v23 bw23)).mono ?_
          rintro e v24 ⟨z24, rfl, lo24, bb24⟩
          obtain ⟨g1, h1, g2, h2, rfl⟩ := lent_shape lo24
          dsimp only
          have le24 := LentOf.base lo24 (show w1.heap.size ≤ v23.heap.size from wl23.size)
          have bw24 : Below X.heap.size X v24 := below_then bw23 bb24
          have boxx24 := HBox.below boxx23 bb24
          have boxz24 := HBox.below hz23 bb24
          have wl24 : Below w1.heap.size w1 v24 := below_then wl23 bb24
          refine hK _ _ (CB.out _ bw24) ?_
          clear hK
          refine anyC_one (i := 3) (by kernel_rfl) rfl (by rfl) (fun K hK => ?_)
          go_simp
          refine ⟨trivial, ?_⟩
          refine (callsIn_wide.2 (LTY.out v24 bw24)).mono ?_
          rintro e v25 ⟨z25, rfl, lo25, bb25⟩
          obtain ⟨g3, h3, g4, h4, rfl⟩ := lent_shape lo25
          dsimp only
          have le25 := LentOf.base lo25 (show w1.heap.size ≤ v24.heap.size from wl24.size)
          have bw25 : Below X.heap.size X v25 := below_then bw24 bb25
          have lentX25 := LentOf.below le24 bb25
          have boxx25 := HBox.below boxx24 bb25
          have boxz25 := HBox.below boxz24 bb25
          have wl25 : Below w1.heap.size w1 v25 := below_then wl24 bb25
          refine hK _ _ (CB.out _ bw25) ?_
          clear hK
          obtain ⟨f0, f1, f2, ff⟩ := hbox_facts boxx25 (.int .i64 xp) (.slice (some ⟨g1, 0, none⟩) X1.length h1)
          obtain ⟨W8, hW8, h8, g8, o8⟩ := hbox_put boxx25 ⟨xp, .slice (some ⟨g1, 0, none⟩) X1.length h1, .slice (some ⟨g2, 0, none⟩) X2.length h2, X1, X2⟩
          have hne : v17.heap.size ≠ V0.heap.size := by have := HBox.lt boxx25; have := HBox.lt boxz25; omega
          have X8 := HBox.grown boxz25 g8 hne
          have n1 : w.heap.size + 1 < X.heap.size := (CB.out X (Below.refl _ X)).2.lt
          have nb1 : w1.heap.size ≤ V0.heap.size := by first | exact Nat.le_refl _ | omega
          have nb2 : w1.heap.size ≤ v17.heap.size := by first | exact Nat.le_refl _ | omega
          have nx1 : X.heap.size ≤ w1.heap.size := B1.out.size
          have P8 : HBox W8 w.heap.size ⟨xp, .slice xa1 X1.length xk1, .slice xa2 X2.length xk2, X1, X2⟩ ∧ HBox W8 (w.heap.size + 1) ⟨yp, .slice ya1 Y1.length yk1, .slice ya2 Y2.length yk2, Y1, Y2⟩ := ⟨(CB.out _ bw25).1.grown g8 (by omega), (CB.out _ bw25).2.grown g8 (by omega)⟩
          simp only [zeroHA] at f0 f1 f2
          simp only at hW8
          refine anyC_one (i := 6) (by kernel_rfl) rfl (by rfl) (fun K5 hK5 => ?_)
          go_simp
          try rw [← hW8]
          refine hK5 _ _ P8 ?_
          clear hK5 f0 f1 f2 ff hW8
          obtain ⟨f0, f1, f2, ff⟩ := hbox_facts X8 (.int .i64 yp) (.slice (some ⟨g3, 0, none⟩) Y1.length h3)
          obtain ⟨W9, hW9, h9, g9, o9⟩ := hbox_put X8 ⟨yp, .slice (some ⟨g3, 0, none⟩) Y1.length h3, .slice (some ⟨g4, 0, none⟩) Y2.length h4, Y1, Y2⟩
          have X9 := h8.grown g9 (Ne.symm hne)
          have P9 : HBox W9 w.heap.size ⟨xp, .slice xa1 X1.length xk1, .slice xa2 X2.length xk2, X1, X2⟩ ∧ HBox W9 (w.heap.size + 1) ⟨yp, .slice ya1 Y1.length yk1, .slice ya2 Y2.length yk2, Y1, Y2⟩ := ⟨P8.1.grown g9 (by omega), P8.2.grown g9 (by omega)⟩
          simp only [zeroHA] at f0 f1 f2
          simp only at hW9
          refine anyC_one (i := 7) (by kernel_rfl) rfl (by rfl) (fun K6 hK6 => ?_)
          go_simp
          try rw [← hW9]
          refine hK6 _ _ P9 ?_
          clear hK6 f0 f1 f2 ff hW9
          refine anyC_done (by kernel_rfl) ?_
          have w8 : Below w1.heap.size w1 W8 := below_grown wl25 g8 nb1 wl25.size
          have w9 : Below w1.heap.size w1 W9 := below_grown w8 g9 nb2 w8.size
          exact ⟨V0.heap.size, v17.heap.size, g1, h1, g2, h2, g3, h3, g4, h4, rfl, X9, h9, (LentOf.put (LentOf.put lentX25 o8) o9), (LentOf.put (LentOf.put le25 o8) o9), w9⟩
      · go_simp
        obtain ⟨v26, hv26, bb26, hz26⟩ := new_zero V0
        try rw [← hv26]
        clear hv26
        have na26 : w1.heap.size ≤ V0.heap.size := WD.size
        have bw26 : Below X.heap.size X v26 := below_then BD bb26
        have wl26 : Below w1.heap.size w1 v26 := below_then WD bb26
        refine hK _ _ (CB.out _ bw26) ?_
        clear hK
        refine anyC_two (i := 1) (j := 4) (by kernel_rfl) rfl rfl (by rfl) (by rfl) (fun K hK => ?_) (fun K hK => ?_) 
        · go_simp
          refine ⟨trivial, ?_⟩
          refine (callsIn_wide.2 (LTX.out v26 bw26)).mono ?_
          rintro e v27 ⟨z27, rfl, lo27, bb27⟩
          obtain ⟨g1, h1, g2, h2, rfl⟩ := lent_shape lo27
          dsimp only
          have le27 := LentOf.base lo27 (show w1.heap.size ≤ v26.heap.size from wl26.size)
          have bw27 : Below X.heap.size X v27 := below_then bw26 bb27
          have boxz27 := HBox.below hz26 bb27
          have wl27 : Below w1.heap.size w1 v27 := below_then wl26 bb27
          refine hK _ _ (CB.out _ bw27) ?_
          clear hK
          refine anyC_two (i := 3) (j := 4) (by kernel_rfl) rfl rfl (by rfl) (by rfl) (fun K hK => ?_) (fun K hK => ?_) 
          · go_simp
            refine ⟨trivial, ?_⟩
            refine (callsIn_wide.2 (LTY.out v27 bw27)).mono ?_
            rintro e v28 ⟨z28, rfl, lo28, bb28⟩
            obtain ⟨g3, h3, g4, h4, rfl⟩ := lent_shape lo28
            dsimp only
            have le28 := LentOf.base lo28 (show w1.heap.size ≤ v27.heap.size from wl27.size)
            have bw28 : Below X.heap.size X v28 := below_then bw27 bb28
            have lentX28 := LentOf.below le27 bb28
            have boxz28 := HBox.below boxz27 bb28
            have wl28 : Below w1.heap.size w1 v28 := below_then wl27 bb28
            refine hK _ _ (CB.out _ bw28) ?_
            clear hK
            refine anyC_one (i := 4) (by kernel_rfl) rfl (by rfl) (fun K hK => ?_)
            go_simp
            obtain ⟨v29, hv29, bb29, hz29⟩ := new_zero v28
            try rw [← hv29]
            clear hv29
            have na29 : w1.heap.size ≤ v28.heap.size := wl28.size
            have ne29 := HBox.lt boxz28
            have bw29 : Below X.heap.size X v29 := below_then bw28 bb29
            have lentX29 := LentOf.below lentX28 bb29
            have lentY29 := LentOf.below le28 bb29
            have boxz29 := HBox.below boxz28 bb29
            have wl29 : Below w1.heap.size w1 v29 := below_then wl28 bb29
            refine hK _ _ (CB.out _ bw29) ?_
            clear hK
            obtain ⟨f0, f1, f2, ff⟩ := hbox_facts hz29 (.int .i64 xp) (.slice (some ⟨g1, 0, none⟩) X1.length h1)
            obtain ⟨W8, hW8, h8, g8, o8⟩ := hbox_put hz29 ⟨xp, .slice (some ⟨g1, 0, none⟩) X1.length h1, .slice (some ⟨g2, 0, none⟩) X2.length h2, X1, X2⟩
            have hne : V0.heap.size ≠ v28.heap.size := by have := HBox.lt hz29; have := HBox.lt boxz29; omega
            have X8 := HBox.grown boxz29 g8 hne
            have n1 : w.heap.size + 1 < X.heap.size := (CB.out X (Below.refl _ X)).2.lt
            have nb1 : w1.heap.size ≤ v28.heap.size := by first | exact Nat.le_refl _ | omega
            have nb2 : w1.heap.size ≤ V0.heap.size := by first | exact Nat.le_refl _ | omega
            have nx1 : X.heap.size ≤ w1.heap.size := B1.out.size
            have P8 : HBox W8 w.heap.size ⟨xp, .slice xa1 X1.length xk1, .slice xa2 X2.length xk2, X1, X2⟩ ∧ HBox W8 (w.heap.size + 1) ⟨yp, .slice ya1 Y1.length yk1, .slice ya2 Y2.length yk2, Y1, Y2⟩ := ⟨(CB.out _ bw29).1.grown g8 (by omega), (CB.out _ bw29).2.grown g8 (by omega)⟩
            simp only [zeroHA] at f0 f1 f2
            simp only at hW8
            refine anyC_one (i := 6) (by kernel_rfl) rfl (by rfl) (fun K5 hK5 => ?_)
            go_simp
            try rw [← hW8]
            refine hK5 _ _ P8 ?_
            clear hK5 f0 f1 f2 ff hW8
            obtain ⟨f0, f1, f2, ff⟩ := hbox_facts X8 (.int .i64 yp) (.slice (some ⟨g3, 0, none⟩) Y1.length h3)
            obtain ⟨W9, hW9, h9, g9, o9⟩ := hbox_put X8 ⟨yp, .slice (some ⟨g3, 0, none⟩) Y1.length h3, .slice (some ⟨g4, 0, none⟩) Y2.length h4, Y1, Y2⟩
            have X9 := h8.grown g9 (Ne.symm hne)
            have P9 : HBox W9 w.heap.size ⟨xp, .slice xa1 X1.length xk1, .slice xa2 X2.length xk2, X1, X2⟩ ∧ HBox W9 (w.heap.size + 1) ⟨yp, .slice ya1 Y1.length yk1, .slice ya2 Y2.length yk2, Y1, Y2⟩ := ⟨P8.1.grown g9 (by omega), P8.2.grown g9 (by omega)⟩
            simp only [zeroHA] at f0 f1 f2
            simp only at hW9
            refine anyC_one (i := 7) (by kernel_rfl) rfl (by rfl) (fun K6 hK6 => ?_)
            go_simp
            try rw [← hW9]
            refine hK6 _ _ P9 ?_
            clear hK6 f0 f1 f2 ff hW9
            refine anyC_done (by kernel_rfl) ?_
            have w8 : Below w1.heap.size w1 W8 := below_grown wl29 g8 nb1 wl29.size
            have w9 : Below w1.heap.size w1 W9 := below_grown w8 g9 nb2 w8.size
            exact ⟨v28.heap.size, V0.heap.size, g1, h1, g2, h2, g3, h3, g4, h4, rfl, X9, h9, (LentOf.put (LentOf.put lentX29 o8) o9), (LentOf.put (LentOf.put lentY29 o8) o9), w9⟩
          · go_simp
            obtain ⟨v30, hv30, bb30, hz30⟩ := new_zero v27
            try rw [← hv30]
            clear hv30
            have na30 : w1.heap.size ≤ v27.heap.size := wl27.size
            have ne30 := HBox.lt boxz27
            have bw30 : Below X.heap.size X v30 := below_then bw27 bb30
            have lentX30 := LentOf.below le27 bb30
            have boxz30 := HBox.below boxz27 bb30
            have wl30 : Below w1.heap.size w1 v30 := below_then wl27 bb30
            refine hK _ _ (CB.out _ bw30) ?_
            clear hK
            refine anyC_one (i := 3) (by kernel_rfl) rfl (by rfl) (fun K hK => ?_)
            go_simp
            refine ⟨trivial, ?_⟩
            refine (callsIn_wide.2 (LTY.out v30 bw30)).mono ?_
            rintro e v31 ⟨z31, rfl, lo31, bb31⟩
            obtain ⟨g3, h3, g4, h4, rfl⟩ := lent_shape lo31
            dsimp only
            have le31 := LentOf.base lo31 (show w1.heap.size ≤ v30.heap.size from wl30.size)
            have bw31 : Below X.heap.size X v31 := below_then bw30 bb31
            have lentX31 := LentOf.below lentX30 bb31
            have boxx31 := HBox.below hz30 bb31
            have boxz31 := HBox.below boxz30 bb31
            have wl31 : Below w1.heap.size w1 v31 := below_then wl30 bb31
            refine hK _ _ (CB.out _ bw31) ?_
            clear hK
            obtain ⟨f0, f1, f2, ff⟩ := hbox_facts boxx31 (.int .i64 xp) (.slice (some ⟨g1, 0, none⟩) X1.length h1)
            obtain ⟨W8, hW8, h8, g8, o8⟩ := hbox_put boxx31 ⟨xp, .slice (some ⟨g1, 0, none⟩) X1.length h1, .slice (some ⟨g2, 0, none⟩) X2.length h2, X1, X2⟩
            have hne : V0.heap.size ≠ v27.heap.size := by have := HBox.lt boxx31; have := HBox.lt boxz31; omega
            have X8 := HBox.grown boxz31 g8 hne
            have n1 : w.heap.size + 1 < X.heap.size := (CB.out X (Below.refl _ X)).2.lt
            have nb1 : w1.heap.size ≤ v27.heap.size := by first | exact Nat.le_refl _ | omega
            have nb2 : w1.heap.size ≤ V0.heap.size := by first | exact Nat.le_refl _ | omega
            have nx1 : X.heap.size ≤ w1.heap.size := B1.out.size
            have P8 : HBox W8 w.heap.size ⟨xp, .slice xa1 X1.length xk1, .slice xa2 X2.length xk2, X1, X2⟩ ∧ HBox W8 (w.heap.size + 1) ⟨yp, .slice ya1 Y1.length yk1, .slice ya2 Y2.length yk2, Y1, Y2⟩ := ⟨(CB.out _ bw31).1.grown g8 (by omega), (CB.out _ bw31).2.grown g8 (by omega)⟩
            simp only [zeroHA] at f0 f1 f2
            simp only at hW8
            refine anyC_one (i := 6) (by kernel_rfl) rfl (by rfl) (fun K5 hK5 => ?_)
            go_simp
            try rw [← hW8]
            refine hK5 _ _ P8 ?_
            clear hK5 f0 f1 f2 ff hW8
            obtain ⟨f0, f1, f2, ff⟩ := hbox_facts X8 (.int .i64 yp) (.slice (some ⟨g3, 0, none⟩) Y1.length h3)
            obtain ⟨W9, hW9, h9, g9, o9⟩ := hbox_put X8 ⟨yp, .slice (some ⟨g3, 0, none⟩) Y1.length h3, .slice (some ⟨g4, 0, none⟩) Y2.length h4, Y1, Y2⟩
            have X9 := h8.grown g9 (Ne.symm hne)
            have P9 : HBox W9 w.heap.size ⟨xp, .slice xa1 X1.length xk1, .slice xa2 X2.length xk2, X1, X2⟩ ∧ HBox W9 (w.heap.size + 1) ⟨yp, .slice ya1 Y1.length yk1, .slice ya2 Y2.length yk2, Y1, Y2⟩ := ⟨P8.1.grown g9 (by omega), P8.2.grown g9 (by omega)⟩
            simp only [zeroHA] at f0 f1 f2
            simp only at hW9
            refine anyC_one (i := 7) (by kernel_rfl) rfl (by rfl) (fun K6 hK6 => ?_)
            go_simp
            try rw [← hW9]
            refine hK6 _ _ P9 ?_
            clear hK6 f0 f1 f2 ff hW9
            refine anyC_done (by kernel_rfl) ?_
            have w8 : Below w1.heap.size w1 W8 := below_grown wl31 g8 nb1 wl31.size
            have w9 : Below w1.heap.size w1 W9 := below_grown w8 g9 nb2 w8.size
            exact ⟨v27.heap.size, V0.heap.size, g1, h1, g2, h2, g3, h3, g4, h4, rfl, X9, h9, (LentOf.put (LentOf.put lentX31 o8) o9), (LentOf.put (LentOf.put le31 o8) o9), w9⟩
        · go_simp
          obtain ⟨v32, hv32, bb32, hz32⟩ := new_zero v26
          try rw [← hv32]
          clear hv32
          have na32 : w1.heap.size ≤ v26.heap.size := wl26.size
          have ne32 := HBox.lt hz26
          have bw32 : Below X.heap.size X v32 := below_then bw26 bb32
          have boxz32 := HBox.below hz26 bb32
          have wl32 : Below w1.heap.size w1 v32 := below_then wl26 bb32
          refine hK _ _ (CB.out _ bw32) ?_
          clear hK
          refine anyC_one (i := 1) (by kernel_rfl) rfl (by rfl) (fun K hK => ?_)
          go_simp
          refine ⟨trivial, ?_⟩
          refine (callsIn_wide.2 (LTX.out v32 bw32)).mono ?_
          rintro e v33 ⟨z33, rfl, lo33, bb33⟩
          obtain ⟨g1, h1, g2, h2, rfl⟩ := lent_shape lo33
          dsimp only
          have le33 := LentOf.base lo33 (show w1.heap.size ≤ v32.heap.size from wl32.size)
          have bw33 : Below X.heap.size X v33 := below_then bw32 bb33
          have boxx33 := HBox.below hz32 bb33
          have boxz33 := HBox.below boxz32 bb33
          have wl33 : Below w1.heap.size w1 v33 := below_then wl32 bb33
          refine hK _ _ (CB.out _ bw33) ?_
          clear hK
          refine anyC_one (i := 3) (by kernel_rfl) rfl (by rfl) (fun K hK => ?_)
          go_simp
          refine ⟨trivial, ?_⟩
          refine (callsIn_wide.2 (LTY.out v33 bw33)).mono ?_
          rintro e v34 ⟨z34, rfl, lo34, bb34⟩
          obtain ⟨g3, h3, g4, h4, rfl⟩ := lent_shape lo34
          dsimp only
          have le34 := LentOf.base lo34 (show w1.heap.size ≤ v33.heap.size from wl33.size)
          have bw34 : Below X.heap.size X v34 := below_then bw33 bb34
          have lentX34 := LentOf.below le33 bb34
          have boxx34 := HBox.below boxx33 bb34
          have boxz34 := HBox.below boxz33 bb34
          have wl34 : Below w1.heap.size w1 v34 := below_then wl33 bb34
          refine hK _ _ (CB.out _ bw34) ?_
          clear hK
          obtain ⟨f0, f1, f2, ff⟩ := hbox_facts boxx34 (.int .i64 xp) (.slice (some ⟨g1, 0, none⟩) X1.length h1)
          obtain ⟨W8, hW8, h8, g8, o8⟩ := hbox_put boxx34 ⟨xp, .slice (some ⟨g1, 0, none⟩) X1.length h1, .slice (some ⟨g2, 0, none⟩) X2.length h2, X1, X2⟩
          have hne : V0.heap.size ≠ v26.heap.size := by have := HBox.lt boxx34; have := HBox.lt boxz34; omega
          have X8 := HBox.grown boxz34 g8 hne
          have n1 : w.heap.size + 1 < X.heap.size := (CB.out X (Below.refl _ X)).2.lt
          have nb1 : w1.heap.size ≤ v26.heap.size := by first | exact Nat.le_refl _ | omega
          have nb2 : w1.heap.size ≤ V0.heap.size := by first | exact Nat.le_refl _ | omega
          have nx1 : X.heap.size ≤ w1.heap.size := B1.out.size
          have P8 : HBox W8 w.heap.size ⟨xp, .slice xa1 X1.length xk1, .slice xa2 X2.length xk2, X1, X2⟩ ∧ HBox W8 (w.heap.size + 1) ⟨yp, .slice ya1 Y1.length yk1, .slice ya2 Y2.length yk2, Y1, Y2⟩ := ⟨(CB.out _ bw34).1.grown g8 (by omega), (CB.out _ bw34).2.grown g8 (by omega)⟩
          simp only [zeroHA] at f0 f1 f2
          simp only at hW8
          refine anyC_one (i := 6) (by kernel_rfl) rfl (by rfl) (fun K5 hK5 => ?_)
          go_simp
          try rw [← hW8]
          refine hK5 _ _ P8 ?_
          clear hK5 f0 f1 f2 ff hW8
          obtain ⟨f0, f1, f2, ff⟩ := hbox_facts X8 (.int .i64 yp) (.slice (some ⟨g3, 0, none⟩) Y1.length h3)
          obtain ⟨W9, hW9, h9, g9, o9⟩ := hbox_put X8 ⟨yp, .slice (some ⟨g3, 0, none⟩) Y1.length h3, .slice (some ⟨g4, 0, none⟩) Y2.length h4, Y1, Y2⟩
          have X9 := h8.grown g9 (Ne.symm hne)
          have P9 : HBox W9 w.heap.size ⟨xp, .slice xa1 X1.length xk1, .slice xa2 X2.length xk2, X1, X2⟩ ∧ HBox W9 (w.heap.size + 1) ⟨yp, .slice ya1 Y1.length yk1, .slice ya2 Y2.length yk2, Y1, Y2⟩ := ⟨P8.1.grown g9 (by omega), P8.2.grown g9 (by omega)⟩
          simp only [zeroHA] at f0 f1 f2
          simp only at hW9
          refine anyC_one (i := 7) (by kernel_rfl) rfl (by rfl) (fun K6 hK6 => ?_)
          go_simp
          try rw [← hW9]
          refine hK6 _ _ P9 ?_
          clear hK6 f0 f1 f2 ff hW9
          refine anyC_done (by kernel_rfl) ?_
          have w8 : Below w1.heap.size w1 W8 := below_grown wl34 g8 nb1 wl34.size
          have w9 : Below w1.heap.size w1 W9 := below_grown w8 g9 nb2 w8.size
          exact ⟨v26.heap.size, V0.heap.size, g1, h1, g2, h2, g3, h3, g4, h4, rfl, X9, h9, (LentOf.put (LentOf.put lentX34 o8) o9), (LentOf.put (LentOf.put le34 o8) o9), w9⟩
    · rintro _ Z ⟨bx, bz, g1, h1, g2, h2, g3, h3, g4, h4, rfl, z1, z2, lz1, lz2, bz0⟩
      have BXZ : Below X.heap.size X Z := below_then B1.out bz0
      have BOX : Hid (Boxes Z [(w.heap.size, ⟨xp, .slice xa1 X1.length xk1, .slice xa2 X2.length xk2, X1, X2⟩), (w.heap.size + 1, ⟨yp, .slice ya1 Y1.length yk1, .slice ya2 Y2.length yk2, Y1, Y2⟩), (bx, ⟨xp, .slice (some ⟨g1, 0, none⟩) X1.length h1, .slice (some ⟨g2, 0, none⟩) X2.length h2, X1, X2⟩), (bz, ⟨yp, .slice (some ⟨g3, 0, none⟩) Y1.length h3, .slice (some ⟨g4, 0, none⟩) Y2.length h4, Y1, Y2⟩)]) := .cons (CB.out Z BXZ).1 (LXY.out Z BXZ).1 FIN.out.1 (.cons (CB.out Z BXZ).2 (LXY.out Z BXZ).2 FIN.out.2 (.cons z1 lz1.low (lz1.fine FIN.out.1) (.cons z2 lz2.low (lz2.fine FIN.out.2) (.nil Z))))
      have LNT : Hid (∀ W, Below Z.heap.size Z W → LentOf w1.heap.size W ⟨xp, .slice xa1 X1.length xk1, .slice xa2 X2.length xk2, X1, X2⟩ ⟨xp, .slice (some ⟨g1, 0, none⟩) X1.length h1, .slice (some ⟨g2, 0, none⟩) X2.length h2, X1, X2⟩ ∧ LentOf w1.heap.size W ⟨yp, .slice ya1 Y1.length yk1, .slice ya2 Y2.length yk2, Y1, Y2⟩ ⟨yp, .slice (some ⟨g3, 0, none⟩) Y1.length h3, .slice (some ⟨g4, 0, none⟩) Y2.length h4, Y1, Y2⟩) := fun W hW => ⟨lz1.below hW, lz2.below hW⟩
      have BW : Hid (Below w.heap.size w Z) := below_then BX.out BXZ
      have BZZ : Hid (Below Z.heap.size Z Z) := Below.refl _ Z
      have BOXZ : Hid (Boxes Z _) := BOX.out
      have BWZ : Hid (Below w.heap.size w Z) := BW.out
      clear z1 z2 lz1 lz2 bz0 BXZ CB LXY LTX LTY B1 BX
      obtain ⟨fxx0, fxx1, fxx2⟩ := HBox.cells (BOX.out (bx, ⟨xp, .slice (some ⟨g1, 0, none⟩) X1.length h1, .slice (some ⟨g2, 0, none⟩) X2.length h2, X1, X2⟩) (by simp)).1
      have fxxl := HBox.lt (BOX.out (bx, ⟨xp, .slice (some ⟨g1, 0, none⟩) X1.length h1, .slice (some ⟨g2, 0, none⟩) X2.length h2, X1, X2⟩) (by simp)).1
      simp only at fxx0 fxx1 fxx2 fxxl
      obtain ⟨fyy0, fyy1, fyy2⟩ := HBox.cells (BOX.out (bz, ⟨yp, .slice (some ⟨g3, 0, none⟩) Y1.length h3, .slice (some ⟨g4, 0, none⟩) Y2.length h4, Y1, Y2⟩) (by simp)).1
      have fyyl := HBox.lt (BOX.out (bz, ⟨yp, .slice (some ⟨g3, 0, none⟩) Y1.length h3, .slice (some ⟨g4, 0, none⟩) Y2.length h4, Y1, Y2⟩) (by simp)).1
      simp only at fyy0 fyy1 fyy2 fyyl
      have CM : Hid (_) := commute_any ⟨xp, .slice (some ⟨g1, 0, none⟩) X1.length h1, .slice (some ⟨g2, 0, none⟩) X2.length h2, X1, X2⟩ ⟨yp, .slice (some ⟨g3, 0, none⟩) Y1.length h3, .slice (some ⟨g4, 0, none⟩) Y2.length h4, Y1, Y2⟩ Z.heap.size Z (BOX.out (bx, ⟨xp, .slice (some ⟨g1, 0, none⟩) X1.length h1, .slice (some ⟨g2, 0, none⟩) X2.length h2, X1, X2⟩) (by simp)).2.1 (BOX.out (bz, ⟨yp, .slice (some ⟨g3, 0, none⟩) Y1.length h3, .slice (some ⟨g4, 0, none⟩) Y2.length h4, Y1, Y2⟩) (by simp)).2.1 (Nat.le_refl _) (BOX.out (bx, ⟨xp, .slice (some ⟨g1, 0, none⟩) X1.length h1, .slice (some ⟨g2, 0, none⟩) X2.length h2, X1, X2⟩) (by simp)).2.2 (BOX.out (bz, ⟨yp, .slice (some ⟨g3, 0, none⟩) Y1.length h3, .slice (some ⟨g4, 0, none⟩) Y2.length h4, Y1, Y2⟩) (by simp)).2.2
      simp only [HA.val] at CM
      gi_wp2_with fail
      refine ⟨trivial, ?_⟩
      refine (callsIn_wide.2 CM.out).mono ?_
      intro e t1 hp
      obtain ⟨A0, B0, n1, a11, a12, a13, a14, c11, c12, c13, c14, e1, e2, e3, e4, rfl, hres, okA, okB, nd, bt⟩ := hp.three
      obtain ⟨p11, o1, o2, L11, L12⟩ := A0
      obtain ⟨p12, o3, o4, L13, L14⟩ := B0
      simp only at e1 e2 e3 e4
      subst e1 e2 e3 e4
      have lA := HA.Ok.low okA
      have lB := HA.Ok.low okB
      simp only [HA.val]
      have HR1 : Hid (_) := hres
      obtain ⟨fA, fB⟩ := commute_fine hres (BOX.out (bx, ⟨xp, .slice (some ⟨g1, 0, none⟩) X1.length h1, .slice (some ⟨g2, 0, none⟩) X2.length h2, X1, X2⟩) (by simp)).2.2 (BOX.out (bz, ⟨yp, .slice (some ⟨g3, 0, none⟩) Y1.length h3, .slice (some ⟨g4, 0, none⟩) Y2.length h4, Y1, Y2⟩) (by simp)).2.2
      have BOXt : Hid (Boxes t1 _) := Boxes.below BOX.out bt
      obtain ⟨V1, hV1, bV, BOX2⟩ := Boxes.two BOXt.out ⟨p11, .slice a11 L11.length c11, .slice a12 L12.length c12, L11, L12⟩ ⟨p12, .slice a13 L13.length c13, .slice a14 L14.length c14, L13, L14⟩ lA lB fA fB
      simp only at hV1
      have btV := below_then bt bV
      have BW2 : Hid (Below w.heap.size w V1) := below_then BW.out btV
      have BZ2 : Hid (Below Z.heap.size Z V1) := below_then BZZ.out btV
      have OK2 : Hid (Oks Z.heap.size V1 [⟨p11, .slice a11 L11.length c11, .slice a12 L12.length c12, L11, L12⟩, ⟨p12, .slice a13 L13.length c13, .slice a14 L14.length c14, L13, L14⟩] ∧ (bla [⟨p11, .slice a11 L11.length c11, .slice a12 L12.length c12, L11, L12⟩, ⟨p12, .slice a13 L13.length c13, .slice a14 L14.length c14, L13, L14⟩]).Nodup ∧ ∀ b ∈ bla [⟨p11, .slice a11 L11.length c11, .slice a12 L12.length c12, L11, L12⟩, ⟨p12, .slice a13 L13.length c13, .slice a14 L14.length c14, L13, L14⟩], b < V1.heap.size) := ⟨fun r hr => by
        simp only [List.mem_cons, List.not_mem_nil, or_false] at hr
        rcases hr with rfl | rfl
        · exact HA.Ok.below okA bV
        · exact HA.Ok.below okB bV, nd, fun b hb => by
        rw [bla_two, List.mem_append] at hb
        rcases hb with hb | hb
        · exact (bla_ok (HA.Ok.below okA bV) b hb).2
        · exact (bla_ok (HA.Ok.below okB bV) b hb).2⟩
      clear okA okB nd
      clear fxx0 fxx1 fxx2 fxxl fyy0 fyy1 fyy2 fyyl
      clear BOX BW BZZ CM hp hres lA lB bt bV btV fA fB
      have BOX : Hid (Boxes V1 _) := BOX2
      have BW : Hid (Below w.heap.size w V1) := BW2.out
      have BZZ : Hid (Below Z.heap.size Z V1) := BZ2.out
      have OKS : Hid (_ ∧ _ ∧ _) := OK2.out
      obtain ⟨fxx0, fxx1, fxx2⟩ := HBox.cells (BOXt.out (bx, ⟨xp, .slice (some ⟨g1, 0, none⟩) X1.length h1, .slice (some ⟨g2, 0, none⟩) X2.length h2, X1, X2⟩) (by simp)).1
      have fxxl := HBox.lt (BOXt.out (bx, ⟨xp, .slice (some ⟨g1, 0, none⟩) X1.length h1, .slice (some ⟨g2, 0, none⟩) X2.length h2, X1, X2⟩) (by simp)).1
      simp only at fxx0 fxx1 fxx2 fxxl
      obtain ⟨fyy0, fyy1, fyy2⟩ := HBox.cells (BOXt.out (bz, ⟨yp, .slice (some ⟨g3, 0, none⟩) Y1.length h3, .slice (some ⟨g4, 0, none⟩) Y2.length h4, Y1, Y2⟩) (by simp)).1
      have fyyl := HBox.lt (BOXt.out (bz, ⟨yp, .slice (some ⟨g3, 0, none⟩) Y1.length h3, .slice (some ⟨g4, 0, none⟩) Y2.length h4, Y1, Y2⟩) (by simp)).1
      simp only at fyy0 fyy1 fyy2 fyyl
      clear BOX2 BW2 BZ2 BOXt OK2
      have CM : Hid (_) := merge_any ⟨xp, .slice (some ⟨g1, 0, none⟩) X1.length h1, .slice (some ⟨g2, 0, none⟩) X2.length h2, X1, X2⟩ ⟨yp, .slice (some ⟨g3, 0, none⟩) Y1.length h3, .slice (some ⟨g4, 0, none⟩) Y2.length h4, Y1, Y2⟩ V1.heap.size V1 (BOX.out (bx, ⟨xp, .slice (some ⟨g1, 0, none⟩) X1.length h1, .slice (some ⟨g2, 0, none⟩) X2.length h2, X1, X2⟩) (by simp)).2.1 (BOX.out (bz, ⟨yp, .slice (some ⟨g3, 0, none⟩) Y1.length h3, .slice (some ⟨g4, 0, none⟩) Y2.length h4, Y1, Y2⟩) (by simp)).2.1 (Nat.le_refl _) (BOX.out (bx, ⟨xp, .slice (some ⟨g1, 0, none⟩) X1.length h1, .slice (some ⟨g2, 0, none⟩) X2.length h2, X1, X2⟩) (by simp)).2.2 (BOX.out (bz, ⟨yp, .slice (some ⟨g3, 0, none⟩) Y1.length h3, .slice (some ⟨g4, 0, none⟩) Y2.length h4, Y1, Y2⟩) (by simp)).2.2
      simp only [HA.val] at CM
      gi_wp2_with fail
      rw [← hV1]
      clear hV1
      refine ⟨trivial, ?_⟩
      refine (callsIn_wide.2 CM.out).mono ?_
      intro e t2 hp
      obtain ⟨A0, B0, n2, a21, a22, a23, a24, c21, c22, c23, c24, e1, e2, e3, e4, rfl, hres, okA, okB, nd, bt⟩ := hp.three
      obtain ⟨p21, o1, o2, L21, L22⟩ := A0
      obtain ⟨p22, o3, o4, L23, L24⟩ := B0
      simp only at e1 e2 e3 e4
      subst e1 e2 e3 e4
      have lA := HA.Ok.low okA
      have lB := HA.Ok.low okB
      simp only [HA.val]
      have HR2 : Hid (_) := hres
      obtain ⟨fA, fB⟩ := merge_fine hres (BOX.out (bx, ⟨xp, .slice (some ⟨g1, 0, none⟩) X1.length h1, .slice (some ⟨g2, 0, none⟩) X2.length h2, X1, X2⟩) (by simp)).2.2 (BOX.out (bz, ⟨yp, .slice (some ⟨g3, 0, none⟩) Y1.length h3, .slice (some ⟨g4, 0, none⟩) Y2.length h4, Y1, Y2⟩) (by simp)).2.2
      have BOXt : Hid (Boxes t2 _) := Boxes.below BOX.out bt
      obtain ⟨V2, hV2, bV, BOX2⟩ := Boxes.two BOXt.out ⟨p21, .slice a21 L21.length c21, .slice a22 L22.length c22, L21, L22⟩ ⟨p22, .slice a23 L23.length c23, .slice a24 L24.length c24, L23, L24⟩ lA lB fA fB
      simp only at hV2
      have btV := below_then bt bV
      have BW2 : Hid (Below w.heap.size w V2) := below_then BW.out btV
      have BZ2 : Hid (Below Z.heap.size Z V2) := below_then BZZ.out btV
      have OK2 : Hid (Oks Z.heap.size V2 [⟨p11, .slice a11 L11.length c11, .slice a12 L12.length c12, L11, L12⟩, ⟨p12, .slice a13 L13.length c13, .slice a14 L14.length c14, L13, L14⟩, ⟨p21, .slice a21 L21.length c21, .slice a22 L22.length c22, L21, L22⟩, ⟨p22, .slice a23 L23.length c23, .slice a24 L24.length c24, L23, L24⟩] ∧ (bla [⟨p11, .slice a11 L11.length c11, .slice a12 L12.length c12, L11, L12⟩, ⟨p12, .slice a13 L13.length c13, .slice a14 L14.length c14, L13, L14⟩, ⟨p21, .slice a21 L21.length c21, .slice a22 L22.length c22, L21, L22⟩, ⟨p22, .slice a23 L23.length c23, .slice a24 L24.length c24, L23, L24⟩]).Nodup) := by
        have hz : Z.heap.size ≤ V1.heap.size := BZZ.out.size
        refine ⟨fun r hr => ?_, ?_⟩
        · simp only [List.mem_cons, List.not_mem_nil, or_false] at hr
          rcases hr with rfl | rfl | rfl | rfl
          · exact HA.Ok.below (OKS.out.1 _ (by simp)) btV
          · exact HA.Ok.below (OKS.out.1 _ (by simp)) btV
          · exact ⟨owns_base (HA.Ok.below okA bV).1 hz, owns_base (HA.Ok.below okA bV).2 hz⟩
          · exact ⟨owns_base (HA.Ok.below okB bV).1 hz, owns_base (HA.Ok.below okB bV).2 hz⟩
        · have e : bla [⟨p11, .slice a11 L11.length c11, .slice a12 L12.length c12, L11, L12⟩, ⟨p12, .slice a13 L13.length c13, .slice a14 L14.length c14, L13, L14⟩, ⟨p21, .slice a21 L21.length c21, .slice a22 L22.length c22, L21, L22⟩, ⟨p22, .slice a23 L23.length c23, .slice a24 L24.length c24, L23, L24⟩] = bla [⟨p11, .slice a11 L11.length c11, .slice a12 L12.length c12, L11, L12⟩, ⟨p12, .slice a13 L13.length c13, .slice a14 L14.length c14, L13, L14⟩] ++ bla [⟨p21, .slice a21 L21.length c21, .slice a22 L22.length c22, L21, L22⟩, ⟨p22, .slice a23 L23.length c23, .slice a24 L24.length c24, L23, L24⟩] := by
            unfold bla; rw [← List.filterMap_append]; rfl
          rw [e, List.nodup_append]
          refine ⟨OKS.out.2.1, nd, fun u hu v hv euv => ?_⟩
          have h1 := OKS.out.2.2 u hu
          rw [bla_two, List.mem_append] at hv
          have h2 : V1.heap.size ≤ v := by
            rcases hv with hv | hv
            · exact (bla_ok okA v hv).1
            · exact (bla_ok okB v hv).1
          omega
      clear okA okB nd OKS
      clear fxx0 fxx1 fxx2 fxxl fyy0 fyy1 fyy2 fyyl
      clear BOX BW BZZ CM hp hres lA lB bt bV btV fA fB
      have BOX : Hid (Boxes V2 _) := BOX2
      have BW : Hid (Below w.heap.size w V2) := BW2.out
      have BZZ : Hid (Below Z.heap.size Z V2) := BZ2.out
      have OKS : Hid (_ ∧ _) := OK2.out
      obtain ⟨fp0, fp1, fp2⟩ := HBox.cells (BOXt.out (w.heap.size, ⟨xp, .slice xa1 X1.length xk1, .slice xa2 X2.length xk2, X1, X2⟩) (by simp)).1
      have fpl := HBox.lt (BOXt.out (w.heap.size, ⟨xp, .slice xa1 X1.length xk1, .slice xa2 X2.length xk2, X1, X2⟩) (by simp)).1
      simp only at fp0 fp1 fp2 fpl
      obtain ⟨fq0, fq1, fq2⟩ := HBox.cells (BOXt.out (w.heap.size + 1, ⟨yp, .slice ya1 Y1.length yk1, .slice ya2 Y2.length yk2, Y1, Y2⟩) (by simp)).1
      have fql := HBox.lt (BOXt.out (w.heap.size + 1, ⟨yp, .slice ya1 Y1.length yk1, .slice ya2 Y2.length yk2, Y1, Y2⟩) (by simp)).1
      simp only at fq0 fq1 fq2 fql
      have fqm0 := Nat.lt_of_le_of_lt (show w.heap.size ≤ w.heap.size + 1 by omega) fql
      clear BOX2 BW2 BZ2 BOXt OK2
      have CM : Hid (_) := refCommute_any ⟨xp, .slice xa1 X1.length xk1, .slice xa2 X2.length xk2, X1, X2⟩ ⟨yp, .slice ya1 Y1.length yk1, .slice ya2 Y2.length yk2, Y1, Y2⟩ V2 (BOX.out (w.heap.size, ⟨xp, .slice xa1 X1.length xk1, .slice xa2 X2.length xk2, X1, X2⟩) (by simp)).2.1 (BOX.out (w.heap.size + 1, ⟨yp, .slice ya1 Y1.length yk1, .slice ya2 Y2.length yk2, Y1, Y2⟩) (by simp)).2.1 (BOX.out (w.heap.size, ⟨xp, .slice xa1 X1.length xk1, .slice xa2 X2.length xk2, X1, X2⟩) (by simp)).2.2 (BOX.out (w.heap.size + 1, ⟨yp, .slice ya1 Y1.length yk1, .slice ya2 Y2.length yk2, Y1, Y2⟩) (by simp)).2.2
      simp only [HA.val] at CM
      gi_wp2_with fail
      rw [← hV2]
      clear hV2
      refine ⟨trivial, ?_⟩
      refine (callsIn_wide.2 CM.out).mono ?_
      intro e t3 hp
      obtain ⟨p31, a31, c31, a32, c32, L31, L32, p32, a33, c33, a34, c34, L33, L34, n3, rfl, hres, lA, lB, bt⟩ := hp.parts
      have HR3 : Hid (_) := hres
      obtain ⟨fA, fB⟩ := commute_fine hres (BOX.out (w.heap.size, ⟨xp, .slice xa1 X1.length xk1, .slice xa2 X2.length xk2, X1, X2⟩) (by simp)).2.2 (BOX.out (w.heap.size + 1, ⟨yp, .slice ya1 Y1.length yk1, .slice ya2 Y2.length yk2, Y1, Y2⟩) (by simp)).2.2
      have BOXt : Hid (Boxes t3 _) := Boxes.below BOX.out bt
      obtain ⟨V3, hV3, bV, BOX2⟩ := Boxes.two BOXt.out ⟨p31, .slice a31 L31.length c31, .slice a32 L32.length c32, L31, L32⟩ ⟨p32, .slice a33 L33.length c33, .slice a34 L34.length c34, L33, L34⟩ lA lB fA fB
      simp only at hV3
      have btV := below_then bt bV
      have BW2 : Hid (Below w.heap.size w V3) := below_then BW.out btV
      have BZ2 : Hid (Below Z.heap.size Z V3) := below_then BZZ.out btV
      have OK2 : Hid (Oks Z.heap.size V3 _ ∧ _) := ⟨Oks.below OKS.out.1 btV, OKS.out.2⟩
      clear OKS
      clear fp0 fp1 fp2 fpl fq0 fq1 fq2 fql fqm0
      clear BOX BW BZZ CM hp hres lA lB bt bV btV fA fB
      have BOX : Hid (Boxes V3 _) := BOX2
      have BW : Hid (Below w.heap.size w V3) := BW2.out
      have BZZ : Hid (Below Z.heap.size Z V3) := BZ2.out
      have OKS : Hid (_ ∧ _) := OK2.out
      obtain ⟨fp0, fp1, fp2⟩ := HBox.cells (BOXt.out (w.heap.size, ⟨xp, .slice xa1 X1.length xk1, .slice xa2 X2.length xk2, X1, X2⟩) (by simp)).1
      have fpl := HBox.lt (BOXt.out (w.heap.size, ⟨xp, .slice xa1 X1.length xk1, .slice xa2 X2.length xk2, X1, X2⟩) (by simp)).1
      simp only at fp0 fp1 fp2 fpl
      obtain ⟨fq0, fq1, fq2⟩ := HBox.cells (BOXt.out (w.heap.size + 1, ⟨yp, .slice ya1 Y1.length yk1, .slice ya2 Y2.length yk2, Y1, Y2⟩) (by simp)).1
      have fql := HBox.lt (BOXt.out (w.heap.size + 1, ⟨yp, .slice ya1 Y1.length yk1, .slice ya2 Y2.length yk2, Y1, Y2⟩) (by simp)).1
      simp only at fq0 fq1 fq2 fql
      have fqm0 := Nat.lt_of_le_of_lt (show w.heap.size ≤ w.heap.size + 1 by omega) fql
      clear BOX2 BW2 BZ2 BOXt OK2
      have CM : Hid (_) := refMerge_any ⟨xp, .slice xa1 X1.length xk1, .slice xa2 X2.length xk2, X1, X2⟩ ⟨yp, .slice ya1 Y1.length yk1, .slice ya2 Y2.length yk2, Y1, Y2⟩ V3 (BOX.out (w.heap.size, ⟨xp, .slice xa1 X1.length xk1, .slice xa2 X2.length xk2, X1, X2⟩) (by simp)).2.1 (BOX.out (w.heap.size + 1, ⟨yp, .slice ya1 Y1.length yk1, .slice ya2 Y2.length yk2, Y1, Y2⟩) (by simp)).2.1 (BOX.out (w.heap.size, ⟨xp, .slice xa1 X1.length xk1, .slice xa2 X2.length xk2, X1, X2⟩) (by simp)).2.2 (BOX.out (w.heap.size + 1, ⟨yp, .slice ya1 Y1.length yk1, .slice ya2 Y2.length yk2, Y1, Y2⟩) (by simp)).2.2
      simp only [HA.val] at CM
      gi_wp2_with fail
      rw [← hV3]
      clear hV3
      refine ⟨trivial, ?_⟩
      refine (callsIn_wide.2 CM.out).mono ?_
      intro e t4 hp
      obtain ⟨p41, a41, c41, a42, c42, L41, L42, p42, a43, c43, a44, c44, L43, L44, n4, rfl, hres, lA, lB, bt⟩ := hp.parts
      have HR4 : Hid (_) := hres
      obtain ⟨fA, fB⟩ := merge_fine hres (BOX.out (w.heap.size, ⟨xp, .slice xa1 X1.length xk1, .slice xa2 X2.length xk2, X1, X2⟩) (by simp)).2.2 (BOX.out (w.heap.size + 1, ⟨yp, .slice ya1 Y1.length yk1, .slice ya2 Y2.length yk2, Y1, Y2⟩) (by simp)).2.2
      have BOXt : Hid (Boxes t4 _) := Boxes.below BOX.out bt
      obtain ⟨V4, hV4, bV, BOX2⟩ := Boxes.two BOXt.out ⟨p41, .slice a41 L41.length c41, .slice a42 L42.length c42, L41, L42⟩ ⟨p42, .slice a43 L43.length c43, .slice a44 L44.length c44, L43, L44⟩ lA lB fA fB
      simp only at hV4
      have btV := below_then bt bV
      have BW2 : Hid (Below w.heap.size w V4) := below_then BW.out btV
      have BZ2 : Hid (Below Z.heap.size Z V4) := below_then BZZ.out btV
      have OK2 : Hid (Oks Z.heap.size V4 _ ∧ _) := ⟨Oks.below OKS.out.1 btV, OKS.out.2⟩
      clear OKS
      clear fp0 fp1 fp2 fpl fq0 fq1 fq2 fql fqm0
      clear BOX BW BZZ CM hp hres lA lB bt bV btV fA fB
      have BOX : Hid (Boxes V4 _) := BOX2
      have BW : Hid (Below w.heap.size w V4) := BW2.out
      have BZZ : Hid (Below Z.heap.size Z V4) := BZ2.out
      have OKS : Hid (_ ∧ _) := OK2.out
      obtain ⟨fa0, fa1, fa2⟩ := HBox.cells (BOXt.out (t1.heap.size, ⟨p11, .slice a11 L11.length c11, .slice a12 L12.length c12, L11, L12⟩) (by simp)).1
      have fal := HBox.lt (BOXt.out (t1.heap.size, ⟨p11, .slice a11 L11.length c11, .slice a12 L12.length c12, L11, L12⟩) (by simp)).1
      simp only at fa0 fa1 fa2 fal
      obtain ⟨fs0, fs1, fs2⟩ := HBox.cells (BOXt.out (t3.heap.size, ⟨p31, .slice a31 L31.length c31, .slice a32 L32.length c32, L31, L32⟩) (by simp)).1
      have fsl := HBox.lt (BOXt.out (t3.heap.size, ⟨p31, .slice a31 L31.length c31, .slice a32 L32.length c32, L31, L32⟩) (by simp)).1
      simp only at fs0 fs1 fs2 fsl
      obtain ⟨fb0, fb1, fb2⟩ := HBox.cells (BOXt.out (t1.heap.size + 1, ⟨p12, .slice a13 L13.length c13, .slice a14 L14.length c14, L13, L14⟩) (by simp)).1
      have fbl := HBox.lt (BOXt.out (t1.heap.size + 1, ⟨p12, .slice a13 L13.length c13, .slice a14 L14.length c14, L13, L14⟩) (by simp)).1
      simp only at fb0 fb1 fb2 fbl
      have fbm0 := Nat.lt_of_le_of_lt (show t1.heap.size ≤ t1.heap.size + 1 by omega) fbl
      obtain ⟨ft0, ft1, ft2⟩ := HBox.cells (BOXt.out (t3.heap.size + 1, ⟨p32, .slice a33 L33.length c33, .slice a34 L34.length c34, L33, L34⟩) (by simp)).1
      have ftl := HBox.lt (BOXt.out (t3.heap.size + 1, ⟨p32, .slice a33 L33.length c33, .slice a34 L34.length c34, L33, L34⟩) (by simp)).1
      simp only at ft0 ft1 ft2 ftl
      have ftm0 := Nat.lt_of_le_of_lt (show t3.heap.size ≤ t3.heap.size + 1 by omega) ftl
      obtain ⟨fc0, fc1, fc2⟩ := HBox.cells (BOXt.out (t2.heap.size, ⟨p21, .slice a21 L21.length c21, .slice a22 L22.length c22, L21, L22⟩) (by simp)).1
      have fcl := HBox.lt (BOXt.out (t2.heap.size, ⟨p21, .slice a21 L21.length c21, .slice a22 L22.length c22, L21, L22⟩) (by simp)).1
      simp only at fc0 fc1 fc2 fcl
      obtain ⟨fd0, fd1, fd2⟩ := HBox.cells (BOXt.out (t2.heap.size + 1, ⟨p22, .slice a23 L23.length c23, .slice a24 L24.length c24, L23, L24⟩) (by simp)).1
      have fdl := HBox.lt (BOXt.out (t2.heap.size + 1, ⟨p22, .slice a23 L23.length c23, .slice a24 L24.length c24, L23, L24⟩) (by simp)).1
      simp only at fd0 fd1 fd2 fdl
      have fdm0 := Nat.lt_of_le_of_lt (show t2.heap.size ≤ t2.heap.size + 1 by omega) fdl
      obtain ⟨fxx0, fxx1, fxx2⟩ := HBox.cells (BOXt.out (bx, ⟨xp, .slice (some ⟨g1, 0, none⟩) X1.length h1, .slice (some ⟨g2, 0, none⟩) X2.length h2, X1, X2⟩) (by simp)).1
      have fxxl := HBox.lt (BOXt.out (bx, ⟨xp, .slice (some ⟨g1, 0, none⟩) X1.length h1, .slice (some ⟨g2, 0, none⟩) X2.length h2, X1, X2⟩) (by simp)).1
      simp only at fxx0 fxx1 fxx2 fxxl
      obtain ⟨fp0, fp1, fp2⟩ := HBox.cells (BOXt.out (w.heap.size, ⟨xp, .slice xa1 X1.length xk1, .slice xa2 X2.length xk2, X1, X2⟩) (by simp)).1
      have fpl := HBox.lt (BOXt.out (w.heap.size, ⟨xp, .slice xa1 X1.length xk1, .slice xa2 X2.length xk2, X1, X2⟩) (by simp)).1
      simp only at fp0 fp1 fp2 fpl
      obtain ⟨fyy0, fyy1, fyy2⟩ := HBox.cells (BOXt.out (bz, ⟨yp, .slice (some ⟨g3, 0, none⟩) Y1.length h3, .slice (some ⟨g4, 0, none⟩) Y2.length h4, Y1, Y2⟩) (by simp)).1
      have fyyl := HBox.lt (BOXt.out (bz, ⟨yp, .slice (some ⟨g3, 0, none⟩) Y1.length h3, .slice (some ⟨g4, 0, none⟩) Y2.length h4, Y1, Y2⟩) (by simp)).1
      simp only at fyy0 fyy1 fyy2 fyyl
      obtain ⟨fq0, fq1, fq2⟩ := HBox.cells (BOXt.out (w.heap.size + 1, ⟨yp, .slice ya1 Y1.length yk1, .slice ya2 Y2.length yk2, Y1, Y2⟩) (by simp)).1
      have fql := HBox.lt (BOXt.out (w.heap.size + 1, ⟨yp, .slice ya1 Y1.length yk1, .slice ya2 Y2.length yk2, Y1, Y2⟩) (by simp)).1
      simp only at fq0 fq1 fq2 fql
      have fqm0 := Nat.lt_of_le_of_lt (show w.heap.size ≤ w.heap.size + 1 by omega) fql
      clear BOX2 BW2 BZ2 BOXt OK2
      have e13 := HR1.out.trans HR3.out.symm
      have e24 := HR2.out.trans HR4.out.symm
      simp only [Prod.mk.injEq] at e13 e24
      obtain ⟨eas, ebt, en13⟩ := e13
      obtain ⟨ecu, edv, en24⟩ := e24
      subst en13 en24
      have EQS : Hid ((HA.h ⟨p11, .slice a11 L11.length c11, .slice a12 L12.length c12, L11, L12⟩ = HA.h ⟨p31, .slice a31 L31.length c31, .slice a32 L32.length c32, L31, L32⟩ ∧ HA.h ⟨p12, .slice a13 L13.length c13, .slice a14 L14.length c14, L13, L14⟩ = HA.h ⟨p32, .slice a33 L33.length c33, .slice a34 L34.length c34, L33, L34⟩) ∧ HA.h ⟨p21, .slice a21 L21.length c21, .slice a22 L22.length c22, L21, L22⟩ = HA.h ⟨p41, .slice a41 L41.length c41, .slice a42 L42.length c42, L41, L42⟩ ∧ HA.h ⟨p22, .slice a23 L23.length c23, .slice a24 L24.length c24, L23, L24⟩ = HA.h ⟨p42, .slice a43 L43.length c43, .slice a44 L44.length c44, L43, L44⟩) := ⟨⟨eas, ebt⟩, ecu, edv⟩
      clear eas ebt ecu edv HR1 HR2 HR3 HR4
      have hs1 : (((n1 : Nat) : Int) != (n1 : Int)) = false := by simp
      have hs2 : (((n2 : Nat) : Int) != (n2 : Int)) = false := by simp
      have SH : Hid (_) := sameHunkA_yes ⟨p11, .slice a11 L11.length c11, .slice a12 L12.length c12, L11, L12⟩ ⟨p31, .slice a31 L31.length c31, .slice a32 L32.length c32, L31, L32⟩ V4.heap.size V4 (BOX.out (t1.heap.size, ⟨p11, .slice a11 L11.length c11, .slice a12 L12.length c12, L11, L12⟩) (by simp)).2.1 (BOX.out (t3.heap.size, ⟨p31, .slice a31 L31.length c31, .slice a32 L32.length c32, L31, L32⟩) (by simp)).2.1 (Nat.le_refl _) EQS.out.1.1 (BOX.out (t1.heap.size, ⟨p11, .slice a11 L11.length c11, .slice a12 L12.length c12, L11, L12⟩) (by simp)).2.2.1.1 (BOX.out (t1.heap.size, ⟨p11, .slice a11 L11.length c11, .slice a12 L12.length c12, L11, L12⟩) (by simp)).2.2.1.2
      simp only [HA.val] at SH
      gi_wp2_with fail
      rw [← hV4]
      clear hV4
      refine ⟨trivial, ?_⟩
      refine (callsIn_wide.2 SH.out).mono ?_
      rintro e s1 ⟨rfl, bb⟩
      clear SH
      have BOX2 : Hid (Boxes s1 _) := Boxes.below BOX.out bb
      have BW2 : Hid (Below w.heap.size w s1) := below_then BW.out bb
      have BZ2 : Hid (Below Z.heap.size Z s1) := below_then BZZ.out bb
      have OK2 : Hid (Oks Z.heap.size s1 _ ∧ _) := ⟨Oks.below OKS.out.1 bb, OKS.out.2⟩
      clear OKS
      have OKS : Hid (_ ∧ _) := OK2.out
      clear OK2
      clear fa0 fa1 fa2 fal fs0 fs1 fs2 fsl fb0 fb1 fb2 fbl fbm0 ft0 ft1 ft2 ftl ftm0 fc0 fc1 fc2 fcl fd0 fd1 fd2 fdl fdm0 fxx0 fxx1 fxx2 fxxl fp0 fp1 fp2 fpl fyy0 fyy1 fyy2 fyyl fq0 fq1 fq2 fql fqm0
      clear BOX BW BZZ bb
      have BOX : Hid (Boxes s1 _) := BOX2
      have BW : Hid (Below w.heap.size w s1) := BW2.out
      have BZZ : Hid (Below Z.heap.size Z s1) := BZ2.out
      obtain ⟨fb0, fb1, fb2⟩ := HBox.cells (BOX.out (t1.heap.size + 1, ⟨p12, .slice a13 L13.length c13, .slice a14 L14.length c14, L13, L14⟩) (by simp)).1
      have fbl := HBox.lt (BOX.out (t1.heap.size + 1, ⟨p12, .slice a13 L13.length c13, .slice a14 L14.length c14, L13, L14⟩) (by simp)).1
      simp only at fb0 fb1 fb2 fbl
      have fbm0 := Nat.lt_of_le_of_lt (show t1.heap.size ≤ t1.heap.size + 1 by omega) fbl
      obtain ⟨ft0, ft1, ft2⟩ := HBox.cells (BOX.out (t3.heap.size + 1, ⟨p32, .slice a33 L33.length c33, .slice a34 L34.length c34, L33, L34⟩) (by simp)).1
      have ftl := HBox.lt (BOX.out (t3.heap.size + 1, ⟨p32, .slice a33 L33.length c33, .slice a34 L34.length c34, L33, L34⟩) (by simp)).1
      simp only at ft0 ft1 ft2 ftl
      have ftm0 := Nat.lt_of_le_of_lt (show t3.heap.size ≤ t3.heap.size + 1 by omega) ftl
      obtain ⟨fc0, fc1, fc2⟩ := HBox.cells (BOX.out (t2.heap.size, ⟨p21, .slice a21 L21.length c21, .slice a22 L22.length c22, L21, L22⟩) (by simp)).1
      have fcl := HBox.lt (BOX.out (t2.heap.size, ⟨p21, .slice a21 L21.length c21, .slice a22 L22.length c22, L21, L22⟩) (by simp)).1
      simp only at fc0 fc1 fc2 fcl
      obtain ⟨fu0, fu1, fu2⟩ := HBox.cells (BOX.out (t4.heap.size, ⟨p41, .slice a41 L41.length c41, .slice a42 L42.length c42, L41, L42⟩) (by simp)).1
      have ful := HBox.lt (BOX.out (t4.heap.size, ⟨p41, .slice a41 L41.length c41, .slice a42 L42.length c42, L41, L42⟩) (by simp)).1
      simp only at fu0 fu1 fu2 ful
      obtain ⟨fd0, fd1, fd2⟩ := HBox.cells (BOX.out (t2.heap.size + 1, ⟨p22, .slice a23 L23.length c23, .slice a24 L24.length c24, L23, L24⟩) (by simp)).1
      have fdl := HBox.lt (BOX.out (t2.heap.size + 1, ⟨p22, .slice a23 L23.length c23, .slice a24 L24.length c24, L23, L24⟩) (by simp)).1
      simp only at fd0 fd1 fd2 fdl
      have fdm0 := Nat.lt_of_le_of_lt (show t2.heap.size ≤ t2.heap.size + 1 by omega) fdl
      obtain ⟨fv0, fv1, fv2⟩ := HBox.cells (BOX.out (t4.heap.size + 1, ⟨p42, .slice a43 L43.length c43, .slice a44 L44.length c44, L43, L44⟩) (by simp)).1
      have fvl := HBox.lt (BOX.out (t4.heap.size + 1, ⟨p42, .slice a43 L43.length c43, .slice a44 L44.length c44, L43, L44⟩) (by simp)).1
      simp only at fv0 fv1 fv2 fvl
      have fvm0 := Nat.lt_of_le_of_lt (show t4.heap.size ≤ t4.heap.size + 1 by omega) fvl
      obtain ⟨fxx0, fxx1, fxx2⟩ := HBox.cells (BOX.out (bx, ⟨xp, .slice (some ⟨g1, 0, none⟩) X1.length h1, .slice (some ⟨g2, 0, none⟩) X2.length h2, X1, X2⟩) (by simp)).1
      have fxxl := HBox.lt (BOX.out (bx, ⟨xp, .slice (some ⟨g1, 0, none⟩) X1.length h1, .slice (some ⟨g2, 0, none⟩) X2.length h2, X1, X2⟩) (by simp)).1
      simp only at fxx0 fxx1 fxx2 fxxl
      obtain ⟨fp0, fp1, fp2⟩ := HBox.cells (BOX.out (w.heap.size, ⟨xp, .slice xa1 X1.length xk1, .slice xa2 X2.length xk2, X1, X2⟩) (by simp)).1
      have fpl := HBox.lt (BOX.out (w.heap.size, ⟨xp, .slice xa1 X1.length xk1, .slice xa2 X2.length xk2, X1, X2⟩) (by simp)).1
      simp only at fp0 fp1 fp2 fpl
      obtain ⟨fyy0, fyy1, fyy2⟩ := HBox.cells (BOX.out (bz, ⟨yp, .slice (some ⟨g3, 0, none⟩) Y1.length h3, .slice (some ⟨g4, 0, none⟩) Y2.length h4, Y1, Y2⟩) (by simp)).1
      have fyyl := HBox.lt (BOX.out (bz, ⟨yp, .slice (some ⟨g3, 0, none⟩) Y1.length h3, .slice (some ⟨g4, 0, none⟩) Y2.length h4, Y1, Y2⟩) (by simp)).1
      simp only at fyy0 fyy1 fyy2 fyyl
      obtain ⟨fq0, fq1, fq2⟩ := HBox.cells (BOX.out (w.heap.size + 1, ⟨yp, .slice ya1 Y1.length yk1, .slice ya2 Y2.length yk2, Y1, Y2⟩) (by simp)).1
      have fql := HBox.lt (BOX.out (w.heap.size + 1, ⟨yp, .slice ya1 Y1.length yk1, .slice ya2 Y2.length yk2, Y1, Y2⟩) (by simp)).1
      simp only at fq0 fq1 fq2 fql
      have fqm0 := Nat.lt_of_le_of_lt (show w.heap.size ≤ w.heap.size + 1 by omega) fql
      clear BOX2 BW2 BZ2
      have SH : Hid (_) := sameHunkA_yes ⟨p12, .slice a13 L13.length c13, .slice a14 L14.length c14, L13, L14⟩ ⟨p32, .slice a33 L33.length c33, .slice a34 L34.length c34, L33, L34⟩ s1.heap.size s1 (BOX.out (t1.heap.size + 1, ⟨p12, .slice a13 L13.length c13, .slice a14 L14.length c14, L13, L14⟩) (by simp)).2.1 (BOX.out (t3.heap.size + 1, ⟨p32, .slice a33 L33.length c33, .slice a34 L34.length c34, L33, L34⟩) (by simp)).2.1 (Nat.le_refl _) EQS.out.1.2 (BOX.out (t1.heap.size + 1, ⟨p12, .slice a13 L13.length c13, .slice a14 L14.length c14, L13, L14⟩) (by simp)).2.2.1.1 (BOX.out (t1.heap.size + 1, ⟨p12, .slice a13 L13.length c13, .slice a14 L14.length c14, L13, L14⟩) (by simp)).2.2.1.2
      simp only [HA.val] at SH
      gi_wp2_with fail
      refine ⟨trivial, ?_⟩
      refine (callsIn_wide.2 SH.out).mono ?_
      rintro e s2 ⟨rfl, bb⟩
      clear SH
      have BOX2 : Hid (Boxes s2 _) := Boxes.below BOX.out bb
      have BW2 : Hid (Below w.heap.size w s2) := below_then BW.out bb
      have BZ2 : Hid (Below Z.heap.size Z s2) := below_then BZZ.out bb
      have OK2 : Hid (Oks Z.heap.size s2 _ ∧ _) := ⟨Oks.below OKS.out.1 bb, OKS.out.2⟩
      clear OKS
      have OKS : Hid (_ ∧ _) := OK2.out
      clear OK2
      clear fb0 fb1 fb2 fbl fbm0 ft0 ft1 ft2 ftl ftm0 fc0 fc1 fc2 fcl fu0 fu1 fu2 ful fd0 fd1 fd2 fdl fdm0 fv0 fv1 fv2 fvl fvm0 fxx0 fxx1 fxx2 fxxl fp0 fp1 fp2 fpl fyy0 fyy1 fyy2 fyyl fq0 fq1 fq2 fql fqm0
      clear BOX BW BZZ bb
      have BOX : Hid (Boxes s2 _) := BOX2
      have BW : Hid (Below w.heap.size w s2) := BW2.out
      have BZZ : Hid (Below Z.heap.size Z s2) := BZ2.out
      obtain ⟨fc0, fc1, fc2⟩ := HBox.cells (BOX.out (t2.heap.size, ⟨p21, .slice a21 L21.length c21, .slice a22 L22.length c22, L21, L22⟩) (by simp)).1
      have fcl := HBox.lt (BOX.out (t2.heap.size, ⟨p21, .slice a21 L21.length c21, .slice a22 L22.length c22, L21, L22⟩) (by simp)).1
      simp only at fc0 fc1 fc2 fcl
      obtain ⟨fu0, fu1, fu2⟩ := HBox.cells (BOX.out (t4.heap.size, ⟨p41, .slice a41 L41.length c41, .slice a42 L42.length c42, L41, L42⟩) (by simp)).1
      have ful := HBox.lt (BOX.out (t4.heap.size, ⟨p41, .slice a41 L41.length c41, .slice a42 L42.length c42, L41, L42⟩) (by simp)).1
      simp only at fu0 fu1 fu2 ful
      obtain ⟨fd0, fd1, fd2⟩ := HBox.cells (BOX.out (t2.heap.size + 1, ⟨p22, .slice a23 L23.length c23, .slice a24 L24.length c24, L23, L24⟩) (by simp)).1
      have fdl := HBox.lt (BOX.out (t2.heap.size + 1, ⟨p22, .slice a23 L23.length c23, .slice a24 L24.length c24, L23, L24⟩) (by simp)).1
      simp only at fd0 fd1 fd2 fdl
      have fdm0 := Nat.lt_of_le_of_lt (show t2.heap.size ≤ t2.heap.size + 1 by omega) fdl
      obtain ⟨fv0, fv1, fv2⟩ := HBox.cells (BOX.out (t4.heap.size + 1, ⟨p42, .slice a43 L43.length c43, .slice a44 L44.length c44, L43, L44⟩) (by simp)).1
      have fvl := HBox.lt (BOX.out (t4.heap.size + 1, ⟨p42, .slice a43 L43.length c43, .slice a44 L44.length c44, L43, L44⟩) (by simp)).1
      simp only at fv0 fv1 fv2 fvl
      have fvm0 := Nat.lt_of_le_of_lt (show t4.heap.size ≤ t4.heap.size + 1 by omega) fvl
      obtain ⟨fxx0, fxx1, fxx2⟩ := HBox.cells (BOX.out (bx, ⟨xp, .slice (some ⟨g1, 0, none⟩) X1.length h1, .slice (some ⟨g2, 0, none⟩) X2.length h2, X1, X2⟩) (by simp)).1
      have fxxl := HBox.lt (BOX.out (bx, ⟨xp, .slice (some ⟨g1, 0, none⟩) X1.length h1, .slice (some ⟨g2, 0, none⟩) X2.length h2, X1, X2⟩) (by simp)).1
      simp only at fxx0 fxx1 fxx2 fxxl
      obtain ⟨fp0, fp1, fp2⟩ := HBox.cells (BOX.out (w.heap.size, ⟨xp, .slice xa1 X1.length xk1, .slice xa2 X2.length xk2, X1, X2⟩) (by simp)).1
      have fpl := HBox.lt (BOX.out (w.heap.size, ⟨xp, .slice xa1 X1.length xk1, .slice xa2 X2.length xk2, X1, X2⟩) (by simp)).1
      simp only at fp0 fp1 fp2 fpl
      obtain ⟨fyy0, fyy1, fyy2⟩ := HBox.cells (BOX.out (bz, ⟨yp, .slice (some ⟨g3, 0, none⟩) Y1.length h3, .slice (some ⟨g4, 0, none⟩) Y2.length h4, Y1, Y2⟩) (by simp)).1
      have fyyl := HBox.lt (BOX.out (bz, ⟨yp, .slice (some ⟨g3, 0, none⟩) Y1.length h3, .slice (some ⟨g4, 0, none⟩) Y2.length h4, Y1, Y2⟩) (by simp)).1
      simp only at fyy0 fyy1 fyy2 fyyl
      obtain ⟨fq0, fq1, fq2⟩ := HBox.cells (BOX.out (w.heap.size + 1, ⟨yp, .slice ya1 Y1.length yk1, .slice ya2 Y2.length yk2, Y1, Y2⟩) (by simp)).1
      have fql := HBox.lt (BOX.out (w.heap.size + 1, ⟨yp, .slice ya1 Y1.length yk1, .slice ya2 Y2.length yk2, Y1, Y2⟩) (by simp)).1
      simp only at fq0 fq1 fq2 fql
      have fqm0 := Nat.lt_of_le_of_lt (show w.heap.size ≤ w.heap.size + 1 by omega) fql
      clear BOX2 BW2 BZ2
      have SH : Hid (_) := sameHunkA_yes ⟨p21, .slice a21 L21.length c21, .slice a22 L22.length c22, L21, L22⟩ ⟨p41, .slice a41 L41.length c41, .slice a42 L42.length c42, L41, L42⟩ s2.heap.size s2 (BOX.out (t2.heap.size, ⟨p21, .slice a21 L21.length c21, .slice a22 L22.length c22, L21, L22⟩) (by simp)).2.1 (BOX.out (t4.heap.size, ⟨p41, .slice a41 L41.length c41, .slice a42 L42.length c42, L41, L42⟩) (by simp)).2.1 (Nat.le_refl _) EQS.out.2.1 (BOX.out (t2.heap.size, ⟨p21, .slice a21 L21.length c21, .slice a22 L22.length c22, L21, L22⟩) (by simp)).2.2.1.1 (BOX.out (t2.heap.size, ⟨p21, .slice a21 L21.length c21, .slice a22 L22.length c22, L21, L22⟩) (by simp)).2.2.1.2
      simp only [HA.val] at SH
      gi_wp2_with fail
      refine ⟨trivial, ?_⟩
      refine (callsIn_wide.2 SH.out).mono ?_
      rintro e s3 ⟨rfl, bb⟩
      clear SH
      have BOX2 : Hid (Boxes s3 _) := Boxes.below BOX.out bb
      have BW2 : Hid (Below w.heap.size w s3) := below_then BW.out bb
      have BZ2 : Hid (Below Z.heap.size Z s3) := below_then BZZ.out bb
      have OK2 : Hid (Oks Z.heap.size s3 _ ∧ _) := ⟨Oks.below OKS.out.1 bb, OKS.out.2⟩
      clear OKS
      have OKS : Hid (_ ∧ _) := OK2.out
      clear OK2
      clear fc0 fc1 fc2 fcl fu0 fu1 fu2 ful fd0 fd1 fd2 fdl fdm0 fv0 fv1 fv2 fvl fvm0 fxx0 fxx1 fxx2 fxxl fp0 fp1 fp2 fpl fyy0 fyy1 fyy2 fyyl fq0 fq1 fq2 fql fqm0
      clear BOX BW BZZ bb
      have BOX : Hid (Boxes s3 _) := BOX2
      have BW : Hid (Below w.heap.size w s3) := BW2.out
      have BZZ : Hid (Below Z.heap.size Z s3) := BZ2.out
      obtain ⟨fd0, fd1, fd2⟩ := HBox.cells (BOX.out (t2.heap.size + 1, ⟨p22, .slice a23 L23.length c23, .slice a24 L24.length c24, L23, L24⟩) (by simp)).1
      have fdl := HBox.lt (BOX.out (t2.heap.size + 1, ⟨p22, .slice a23 L23.length c23, .slice a24 L24.length c24, L23, L24⟩) (by simp)).1
      simp only at fd0 fd1 fd2 fdl
      have fdm0 := Nat.lt_of_le_of_lt (show t2.heap.size ≤ t2.heap.size + 1 by omega) fdl
      obtain ⟨fv0, fv1, fv2⟩ := HBox.cells (BOX.out (t4.heap.size + 1, ⟨p42, .slice a43 L43.length c43, .slice a44 L44.length c44, L43, L44⟩) (by simp)).1
      have fvl := HBox.lt (BOX.out (t4.heap.size + 1, ⟨p42, .slice a43 L43.length c43, .slice a44 L44.length c44, L43, L44⟩) (by simp)).1
      simp only at fv0 fv1 fv2 fvl
      have fvm0 := Nat.lt_of_le_of_lt (show t4.heap.size ≤ t4.heap.size + 1 by omega) fvl
      obtain ⟨fxx0, fxx1, fxx2⟩ := HBox.cells (BOX.out (bx, ⟨xp, .slice (some ⟨g1, 0, none⟩) X1.length h1, .slice (some ⟨g2, 0, none⟩) X2.length h2, X1, X2⟩) (by simp)).1
      have fxxl := HBox.lt (BOX.out (bx, ⟨xp, .slice (some ⟨g1, 0, none⟩) X1.length h1, .slice (some ⟨g2, 0, none⟩) X2.length h2, X1, X2⟩) (by simp)).1
      simp only at fxx0 fxx1 fxx2 fxxl
      obtain ⟨fp0, fp1, fp2⟩ := HBox.cells (BOX.out (w.heap.size, ⟨xp, .slice xa1 X1.length xk1, .slice xa2 X2.length xk2, X1, X2⟩) (by simp)).1
      have fpl := HBox.lt (BOX.out (w.heap.size, ⟨xp, .slice xa1 X1.length xk1, .slice xa2 X2.length xk2, X1, X2⟩) (by simp)).1
      simp only at fp0 fp1 fp2 fpl
      obtain ⟨fyy0, fyy1, fyy2⟩ := HBox.cells (BOX.out (bz, ⟨yp, .slice (some ⟨g3, 0, none⟩) Y1.length h3, .slice (some ⟨g4, 0, none⟩) Y2.length h4, Y1, Y2⟩) (by simp)).1
      have fyyl := HBox.lt (BOX.out (bz, ⟨yp, .slice (some ⟨g3, 0, none⟩) Y1.length h3, .slice (some ⟨g4, 0, none⟩) Y2.length h4, Y1, Y2⟩) (by simp)).1
      simp only at fyy0 fyy1 fyy2 fyyl
      obtain ⟨fq0, fq1, fq2⟩ := HBox.cells (BOX.out (w.heap.size + 1, ⟨yp, .slice ya1 Y1.length yk1, .slice ya2 Y2.length yk2, Y1, Y2⟩) (by simp)).1
      have fql := HBox.lt (BOX.out (w.heap.size + 1, ⟨yp, .slice ya1 Y1.length yk1, .slice ya2 Y2.length yk2, Y1, Y2⟩) (by simp)).1
      simp only at fq0 fq1 fq2 fql
      have fqm0 := Nat.lt_of_le_of_lt (show w.heap.size ≤ w.heap.size + 1 by omega) fql
      clear BOX2 BW2 BZ2
      have SH : Hid (_) := sameHunkA_yes ⟨p22, .slice a23 L23.length c23, .slice a24 L24.length c24, L23, L24⟩ ⟨p42, .slice a43 L43.length c43, .slice a44 L44.length c44, L43, L44⟩ s3.heap.size s3 (BOX.out (t2.heap.size + 1, ⟨p22, .slice a23 L23.length c23, .slice a24 L24.length c24, L23, L24⟩) (by simp)).2.1 (BOX.out (t4.heap.size + 1, ⟨p42, .slice a43 L43.length c43, .slice a44 L44.length c44, L43, L44⟩) (by simp)).2.1 (Nat.le_refl _) EQS.out.2.2 (BOX.out (t2.heap.size + 1, ⟨p22, .slice a23 L23.length c23, .slice a24 L24.length c24, L23, L24⟩) (by simp)).2.2.1.1 (BOX.out (t2.heap.size + 1, ⟨p22, .slice a23 L23.length c23, .slice a24 L24.length c24, L23, L24⟩) (by simp)).2.2.1.2
      simp only [HA.val] at SH
      gi_wp2_with fail
      refine ⟨trivial, ?_⟩
      refine (callsIn_wide.2 SH.out).mono ?_
      rintro e s4 ⟨rfl, bb⟩
      clear SH
      have BOX2 : Hid (Boxes s4 _) := Boxes.below BOX.out bb
      have BW2 : Hid (Below w.heap.size w s4) := below_then BW.out bb
      have BZ2 : Hid (Below Z.heap.size Z s4) := below_then BZZ.out bb
      have OK2 : Hid (Oks Z.heap.size s4 _ ∧ _) := ⟨Oks.below OKS.out.1 bb, OKS.out.2⟩
      clear OKS
      have OKS : Hid (_ ∧ _) := OK2.out
      clear OK2
      clear fd0 fd1 fd2 fdl fdm0 fv0 fv1 fv2 fvl fvm0 fxx0 fxx1 fxx2 fxxl fp0 fp1 fp2 fpl fyy0 fyy1 fyy2 fyyl fq0 fq1 fq2 fql fqm0
      clear BOX BW BZZ bb
      have BOX : Hid (Boxes s4 _) := BOX2
      have BW : Hid (Below w.heap.size w s4) := BW2.out
      have BZZ : Hid (Below Z.heap.size Z s4) := BZ2.out
      obtain ⟨fxx0, fxx1, fxx2⟩ := HBox.cells (BOX.out (bx, ⟨xp, .slice (some ⟨g1, 0, none⟩) X1.length h1, .slice (some ⟨g2, 0, none⟩) X2.length h2, X1, X2⟩) (by simp)).1
      have fxxl := HBox.lt (BOX.out (bx, ⟨xp, .slice (some ⟨g1, 0, none⟩) X1.length h1, .slice (some ⟨g2, 0, none⟩) X2.length h2, X1, X2⟩) (by simp)).1
      simp only at fxx0 fxx1 fxx2 fxxl
      obtain ⟨fp0, fp1, fp2⟩ := HBox.cells (BOX.out (w.heap.size, ⟨xp, .slice xa1 X1.length xk1, .slice xa2 X2.length xk2, X1, X2⟩) (by simp)).1
      have fpl := HBox.lt (BOX.out (w.heap.size, ⟨xp, .slice xa1 X1.length xk1, .slice xa2 X2.length xk2, X1, X2⟩) (by simp)).1
      simp only at fp0 fp1 fp2 fpl
      obtain ⟨fyy0, fyy1, fyy2⟩ := HBox.cells (BOX.out (bz, ⟨yp, .slice (some ⟨g3, 0, none⟩) Y1.length h3, .slice (some ⟨g4, 0, none⟩) Y2.length h4, Y1, Y2⟩) (by simp)).1
      have fyyl := HBox.lt (BOX.out (bz, ⟨yp, .slice (some ⟨g3, 0, none⟩) Y1.length h3, .slice (some ⟨g4, 0, none⟩) Y2.length h4, Y1, Y2⟩) (by simp)).1
      simp only at fyy0 fyy1 fyy2 fyyl
      obtain ⟨fq0, fq1, fq2⟩ := HBox.cells (BOX.out (w.heap.size + 1, ⟨yp, .slice ya1 Y1.length yk1, .slice ya2 Y2.length yk2, Y1, Y2⟩) (by simp)).1
      have fql := HBox.lt (BOX.out (w.heap.size + 1, ⟨yp, .slice ya1 Y1.length yk1, .slice ya2 Y2.length yk2, Y1, Y2⟩) (by simp)).1
      simp only at fq0 fq1 fq2 fql
      have fqm0 := Nat.lt_of_le_of_lt (show w.heap.size ≤ w.heap.size + 1 by omega) fql
      clear BOX2 BW2 BZ2
      have KH : Hid (_) := keptHunk_any ⟨xp, .slice xa1 X1.length xk1, .slice xa2 X2.length xk2, X1, X2⟩ ⟨xp, .slice (some ⟨g1, 0, none⟩) X1.length h1, .slice (some ⟨g2, 0, none⟩) X2.length h2, X1, X2⟩ w1.heap.size s4 (BOX.out (w.heap.size, ⟨xp, .slice xa1 X1.length xk1, .slice xa2 X2.length xk2, X1, X2⟩) (by simp)).2.1 (LNT.out _ BZZ.out).1 (by show X1.length ≤ 5000; have := LEN.out; omega) (by show X2.length ≤ 5000; have := LEN.out; omega)
      simp only [HA.val] at KH
      gi_wp2_with fail
      refine ⟨trivial, ?_⟩
      refine (callsIn_wide.2 KH.out).mono ?_
      rintro e s5 ⟨rfl, bb⟩
      clear KH
      have BOX2 : Hid (Boxes s5 _) := Boxes.below BOX.out bb
      have BW2 : Hid (Below w.heap.size w s5) := below_then BW.out bb
      have BZ2 : Hid (Below Z.heap.size Z s5) := below_then BZZ.out bb
      have OK2 : Hid (Oks Z.heap.size s5 _ ∧ _) := ⟨Oks.below OKS.out.1 bb, OKS.out.2⟩
      clear OKS
      have OKS : Hid (_ ∧ _) := OK2.out
      clear OK2
      clear fxx0 fxx1 fxx2 fxxl fp0 fp1 fp2 fpl fyy0 fyy1 fyy2 fyyl fq0 fq1 fq2 fql fqm0
      clear BOX BW BZZ bb
      have BOX : Hid (Boxes s5 _) := BOX2
      have BW : Hid (Below w.heap.size w s5) := BW2.out
      have BZZ : Hid (Below Z.heap.size Z s5) := BZ2.out
      obtain ⟨fyy0, fyy1, fyy2⟩ := HBox.cells (BOX.out (bz, ⟨yp, .slice (some ⟨g3, 0, none⟩) Y1.length h3, .slice (some ⟨g4, 0, none⟩) Y2.length h4, Y1, Y2⟩) (by simp)).1
      have fyyl := HBox.lt (BOX.out (bz, ⟨yp, .slice (some ⟨g3, 0, none⟩) Y1.length h3, .slice (some ⟨g4, 0, none⟩) Y2.length h4, Y1, Y2⟩) (by simp)).1
      simp only at fyy0 fyy1 fyy2 fyyl
      obtain ⟨fq0, fq1, fq2⟩ := HBox.cells (BOX.out (w.heap.size + 1, ⟨yp, .slice ya1 Y1.length yk1, .slice ya2 Y2.length yk2, Y1, Y2⟩) (by simp)).1
      have fql := HBox.lt (BOX.out (w.heap.size + 1, ⟨yp, .slice ya1 Y1.length yk1, .slice ya2 Y2.length yk2, Y1, Y2⟩) (by simp)).1
      simp only at fq0 fq1 fq2 fql
      have fqm0 := Nat.lt_of_le_of_lt (show w.heap.size ≤ w.heap.size + 1 by omega) fql
      clear BOX2 BW2 BZ2
      have KH : Hid (_) := keptHunk_any ⟨yp, .slice ya1 Y1.length yk1, .slice ya2 Y2.length yk2, Y1, Y2⟩ ⟨yp, .slice (some ⟨g3, 0, none⟩) Y1.length h3, .slice (some ⟨g4, 0, none⟩) Y2.length h4, Y1, Y2⟩ w1.heap.size s5 (BOX.out (w.heap.size + 1, ⟨yp, .slice ya1 Y1.length yk1, .slice ya2 Y2.length yk2, Y1, Y2⟩) (by simp)).2.1 (LNT.out _ BZZ.out).2 (by show Y1.length ≤ 5000; have := LEN.out; omega) (by show Y2.length ≤ 5000; have := LEN.out; omega)
      simp only [HA.val] at KH
      gi_wp2_with fail
      refine ⟨trivial, ?_⟩
      refine (callsIn_wide.2 KH.out).mono ?_
      rintro e s6 ⟨rfl, bb⟩
      clear KH
      have BOX2 : Hid (Boxes s6 _) := Boxes.below BOX.out bb
      have BW2 : Hid (Below w.heap.size w s6) := below_then BW.out bb
      have BZ2 : Hid (Below Z.heap.size Z s6) := below_then BZZ.out bb
      have OK2 : Hid (Oks Z.heap.size s6 _ ∧ _) := ⟨Oks.below OKS.out.1 bb, OKS.out.2⟩
      clear OKS
      have OKS : Hid (_ ∧ _) := OK2.out
      clear OK2
      clear fyy0 fyy1 fyy2 fyyl fq0 fq1 fq2 fql fqm0
      clear BOX BW BZZ bb
      have BOX : Hid (Boxes s6 _) := BOX2
      have BW : Hid (Below w.heap.size w s6) := BW2.out
      have BZZ : Hid (Below Z.heap.size Z s6) := BZ2.out
      obtain ⟨fa0, fa1, fa2⟩ := HBox.cells (BOX.out (t1.heap.size, ⟨p11, .slice a11 L11.length c11, .slice a12 L12.length c12, L11, L12⟩) (by simp)).1
      have fal := HBox.lt (BOX.out (t1.heap.size, ⟨p11, .slice a11 L11.length c11, .slice a12 L12.length c12, L11, L12⟩) (by simp)).1
      simp only at fa0 fa1 fa2 fal
      obtain ⟨fb0, fb1, fb2⟩ := HBox.cells (BOX.out (t1.heap.size + 1, ⟨p12, .slice a13 L13.length c13, .slice a14 L14.length c14, L13, L14⟩) (by simp)).1
      have fbl := HBox.lt (BOX.out (t1.heap.size + 1, ⟨p12, .slice a13 L13.length c13, .slice a14 L14.length c14, L13, L14⟩) (by simp)).1
      simp only at fb0 fb1 fb2 fbl
      have fbm0 := Nat.lt_of_le_of_lt (show t1.heap.size ≤ t1.heap.size + 1 by omega) fbl
      obtain ⟨fc0, fc1, fc2⟩ := HBox.cells (BOX.out (t2.heap.size, ⟨p21, .slice a21 L21.length c21, .slice a22 L22.length c22, L21, L22⟩) (by simp)).1
      have fcl := HBox.lt (BOX.out (t2.heap.size, ⟨p21, .slice a21 L21.length c21, .slice a22 L22.length c22, L21, L22⟩) (by simp)).1
      simp only at fc0 fc1 fc2 fcl
      obtain ⟨fd0, fd1, fd2⟩ := HBox.cells (BOX.out (t2.heap.size + 1, ⟨p22, .slice a23 L23.length c23, .slice a24 L24.length c24, L23, L24⟩) (by simp)).1
      have fdl := HBox.lt (BOX.out (t2.heap.size + 1, ⟨p22, .slice a23 L23.length c23, .slice a24 L24.length c24, L23, L24⟩) (by simp)).1
      simp only at fd0 fd1 fd2 fdl
      have fdm0 := Nat.lt_of_le_of_lt (show t2.heap.size ≤ t2.heap.size + 1 by omega) fdl
      clear BOX2 BW2 BZ2
      obtain ⟨U, hU⟩ : ∃ U, U = (s6.alloc (.cells #[.int .i64 p11, .slice a11 L11.length c11, .slice a12 L12.length c12, .int .i64 p12, .slice a13 L13.length c13, .slice a14 L14.length c14, .int .i64 p21, .slice a21 L21.length c21, .slice a22 L22.length c22, .int .i64 p22, .slice a23 L23.length c23, .slice a24 L24.length c24] 25)).alloc (.cells #[.slice (some ⟨s6.heap.size, 0, none⟩) 4 4] 27) := ⟨_, rfl⟩
      have bU : Below s6.heap.size s6 U := by rw [hU]; exact below_then (below_nw _ _) (below_nw _ _)
      have u0 : U.heap[s6.heap.size]? = some (.cells #[.int .i64 p11, .slice a11 L11.length c11, .slice a12 L12.length c12, .int .i64 p12, .slice a13 L13.length c13, .slice a14 L14.length c14, .int .i64 p21, .slice a21 L21.length c21, .slice a22 L22.length c22, .int .i64 p22, .slice a23 L23.length c23, .slice a24 L24.length c24] 25 (0, 0)) := by rw [hU]; exact ((below_nw _ _).block _ (by simp)).trans (World.alloc_heap_new s6 _)
      have u1 : U.heap[s6.heap.size + 1]? = some (.cells #[.slice (some ⟨s6.heap.size, 0, none⟩) 4 4] 27 (0, 0)) := by
        have h := World.alloc_heap_new (s6.alloc (.cells #[.int .i64 p11, .slice a11 L11.length c11, .slice a12 L12.length c12, .int .i64 p12, .slice a13 L13.length c13, .slice a14 L14.length c14, .int .i64 p21, .slice a21 L21.length c21, .slice a22 L22.length c22, .int .i64 p22, .slice a23 L23.length c23, .slice a24 L24.length c24] 25)) (.cells #[.slice (some ⟨s6.heap.size, 0, none⟩) 4 4] 27)
        rw [World.size_alloc] at h
        rw [hU]; exact h
      have zs : Z.heap.size ≤ s6.heap.size := BZZ.out.size
      have own : U.ownsRow Z.heap.size 25 3 (.slice (some ⟨s6.heap.size, 0, none⟩) 4 4) 4 (haCells [⟨p11, .slice a11 L11.length c11, .slice a12 L12.length c12, L11, L12⟩, ⟨p12, .slice a13 L13.length c13, .slice a14 L14.length c14, L13, L14⟩, ⟨p21, .slice a21 L21.length c21, .slice a22 L22.length c22, L21, L22⟩, ⟨p22, .slice a23 L23.length c23, .slice a24 L24.length c24, L23, L24⟩]) := ⟨rfl, .inr ⟨s6.heap.size, 4, #[.int .i64 p11, .slice a11 L11.length c11, .slice a12 L12.length c12, .int .i64 p12, .slice a13 L13.length c13, .slice a14 L14.length c14, .int .i64 p21, .slice a21 L21.length c21, .slice a22 L22.length c22, .int .i64 p22, .slice a23 L23.length c23, .slice a24 L24.length c24], rfl, zs, u0, by omega, by unfold maxLen; omega, rfl, rfl⟩⟩
      have OKU := Oks.below OKS.out.1 bU
      have AH : Hid (_) := apartHunks_any Z.heap.size [(.slice (some ⟨s6.heap.size, 0, none⟩) 4 4, [⟨p11, .slice a11 L11.length c11, .slice a12 L12.length c12, L11, L12⟩, ⟨p12, .slice a13 L13.length c13, .slice a14 L14.length c14, L13, L14⟩, ⟨p21, .slice a21 L21.length c21, .slice a22 L22.length c22, L21, L22⟩, ⟨p22, .slice a23 L23.length c23, .slice a24 L24.length c24, L23, L24⟩])] (s6.heap.size + 1) 1 U (fun k p hp => by
          match k, hp with
          | 0, hp =>
            simp only [List.getElem?_cons_zero, Option.some.injEq] at hp
            subst hp
            rw [Lib.cell_of_heap u1]; rfl
          | k + 1, hp => simp at hp) (fun p hp => by
          rw [List.mem_singleton] at hp
          subst hp
          exact ⟨own, fun x hx => OKU x hx⟩) (apart_of_nodup _ (by
          have e : txtRows [(Value.slice (some ⟨s6.heap.size, 0, none⟩) 4 4, [⟨p11, .slice a11 L11.length c11, .slice a12 L12.length c12, L11, L12⟩, ⟨p12, .slice a13 L13.length c13, .slice a14 L14.length c14, L13, L14⟩, ⟨p21, .slice a21 L21.length c21, .slice a22 L22.length c22, L21, L22⟩, ⟨p22, .slice a23 L23.length c23, .slice a24 L24.length c24, L23, L24⟩])] = haRows [⟨p11, .slice a11 L11.length c11, .slice a12 L12.length c12, L11, L12⟩, ⟨p12, .slice a13 L13.length c13, .slice a14 L14.length c14, L13, L14⟩, ⟨p21, .slice a21 L21.length c21, .slice a22 L22.length c22, L21, L22⟩, ⟨p22, .slice a23 L23.length c23, .slice a24 L24.length c24, L23, L24⟩] := by simp [txtRows]
          rw [e, filterMap_ha]
          exact OKS.out.2)) (apart_of_nodup _ (by simp [hkRows, Value.ownBlock])) (Nat.le_trans zs bU.size) (by simp) (fun p hp => by
          rw [List.mem_singleton] at hp
          subst hp
          simp) (fun p hp x hx => by
          rw [List.mem_singleton] at hp
          subst hp
          simp only [List.mem_cons, List.not_mem_nil, or_false] at hx
          rcases hx with rfl | rfl | rfl | rfl
          · exact (BOX.out (t1.heap.size, ⟨p11, .slice a11 L11.length c11, .slice a12 L12.length c12, L11, L12⟩) (by simp)).2.2.1
          · exact (BOX.out (t1.heap.size + 1, ⟨p12, .slice a13 L13.length c13, .slice a14 L14.length c14, L13, L14⟩) (by simp)).2.2.1
          · exact (BOX.out (t2.heap.size, ⟨p21, .slice a21 L21.length c21, .slice a22 L22.length c22, L21, L22⟩) (by simp)).2.2.1
          · exact (BOX.out (t2.heap.size + 1, ⟨p22, .slice a23 L23.length c23, .slice a24 L24.length c24, L23, L24⟩) (by simp)).2.2.1)
      have SU : Hid (Below Z.heap.size Z U) := below_then BZZ.out bU
      have AH2 : Hid (Calls Tryz.prog 20 #[.slice (some ⟨s6.heap.size + 1, 0, none⟩) 1 1] U fun e w' => e = .returned (.bool true) ∧ Below Z.heap.size U w') := AH.out
      have HBZ : Hid (Boxes Z [(w.heap.size, ⟨xp, .slice xa1 X1.length xk1, .slice xa2 X2.length xk2, X1, X2⟩), (w.heap.size + 1, ⟨yp, .slice ya1 Y1.length yk1, .slice ya2 Y2.length yk2, Y1, Y2⟩), (bx, ⟨xp, .slice (some ⟨g1, 0, none⟩) X1.length h1, .slice (some ⟨g2, 0, none⟩) X2.length h2, X1, X2⟩), (bz, ⟨yp, .slice (some ⟨g3, 0, none⟩) Y1.length h3, .slice (some ⟨g4, 0, none⟩) Y2.length h4, Y1, Y2⟩)]) := BOXZ.out
      clear u0 u1 own OKU AH zs bU
      gi_wp2_with fail
      rw [← hU]
      clear hU
      refine ⟨trivial, ?_⟩
      refine (callsIn_wide.2 AH2.out).mono ?_
      rintro e s7 ⟨rfl, b7⟩
      have Bz7 : Below Z.heap.size Z s7 := SU.out.trans b7
      clear fa0 fa1 fa2 fal fb0 fb1 fb2 fbl fbm0 fc0 fc1 fc2 fcl fd0 fd1 fd2 fdl fdm0
      clear BOX BW BZZ OKS AH2 SU b7
      have BOX : Hid (Boxes s7 _) := Boxes.below HBZ.out Bz7
      have BW : Hid (Below w.heap.size w s7) := below_then BWZ.out Bz7
      have BZZ : Hid (Below Z.heap.size Z s7) := Bz7
      clear Bz7
      obtain ⟨fxx0, fxx1, fxx2⟩ := HBox.cells (BOX.out (bx, ⟨xp, .slice (some ⟨g1, 0, none⟩) X1.length h1, .slice (some ⟨g2, 0, none⟩) X2.length h2, X1, X2⟩) (by simp)).1
      have fxxl := HBox.lt (BOX.out (bx, ⟨xp, .slice (some ⟨g1, 0, none⟩) X1.length h1, .slice (some ⟨g2, 0, none⟩) X2.length h2, X1, X2⟩) (by simp)).1
      simp only at fxx0 fxx1 fxx2 fxxl
      obtain ⟨fp0, fp1, fp2⟩ := HBox.cells (BOX.out (w.heap.size, ⟨xp, .slice xa1 X1.length xk1, .slice xa2 X2.length xk2, X1, X2⟩) (by simp)).1
      have fpl := HBox.lt (BOX.out (w.heap.size, ⟨xp, .slice xa1 X1.length xk1, .slice xa2 X2.length xk2, X1, X2⟩) (by simp)).1
      simp only at fp0 fp1 fp2 fpl
      obtain ⟨fyy0, fyy1, fyy2⟩ := HBox.cells (BOX.out (bz, ⟨yp, .slice (some ⟨g3, 0, none⟩) Y1.length h3, .slice (some ⟨g4, 0, none⟩) Y2.length h4, Y1, Y2⟩) (by simp)).1
      have fyyl := HBox.lt (BOX.out (bz, ⟨yp, .slice (some ⟨g3, 0, none⟩) Y1.length h3, .slice (some ⟨g4, 0, none⟩) Y2.length h4, Y1, Y2⟩) (by simp)).1
      simp only at fyy0 fyy1 fyy2 fyyl
      obtain ⟨fq0, fq1, fq2⟩ := HBox.cells (BOX.out (w.heap.size + 1, ⟨yp, .slice ya1 Y1.length yk1, .slice ya2 Y2.length yk2, Y1, Y2⟩) (by simp)).1
      have fql := HBox.lt (BOX.out (w.heap.size + 1, ⟨yp, .slice ya1 Y1.length yk1, .slice ya2 Y2.length yk2, Y1, Y2⟩) (by simp)).1
      simp only at fq0 fq1 fq2 fql
      have fqm0 := Nat.lt_of_le_of_lt (show w.heap.size ≤ w.heap.size + 1 by omega) fql
      have KH : Hid (_) := keptHunk_any ⟨xp, .slice xa1 X1.length xk1, .slice xa2 X2.length xk2, X1, X2⟩ ⟨xp, .slice (some ⟨g1, 0, none⟩) X1.length h1, .slice (some ⟨g2, 0, none⟩) X2.length h2, X1, X2⟩ w1.heap.size s7 (BOX.out (w.heap.size, ⟨xp, .slice xa1 X1.length xk1, .slice xa2 X2.length xk2, X1, X2⟩) (by simp)).2.1 (LNT.out _ BZZ.out).1 (by show X1.length ≤ 5000; have := LEN.out; omega) (by show X2.length ≤ 5000; have := LEN.out; omega)
      simp only [HA.val] at KH
      gi_wp2_with fail
      refine ⟨trivial, ?_⟩
      refine (callsIn_wide.2 KH.out).mono ?_
      rintro e s8 ⟨rfl, bb⟩
      clear KH
      have BOX2 : Hid (Boxes s8 _) := Boxes.below BOX.out bb
      have BW2 : Hid (Below w.heap.size w s8) := below_then BW.out bb
      have BZ2 : Hid (Below Z.heap.size Z s8) := below_then BZZ.out bb
      clear fxx0 fxx1 fxx2 fxxl fp0 fp1 fp2 fpl fyy0 fyy1 fyy2 fyyl fq0 fq1 fq2 fql fqm0
      clear BOX BW BZZ bb
      have BOX : Hid (Boxes s8 _) := BOX2
      have BW : Hid (Below w.heap.size w s8) := BW2.out
      have BZZ : Hid (Below Z.heap.size Z s8) := BZ2.out
      obtain ⟨fyy0, fyy1, fyy2⟩ := HBox.cells (BOX.out (bz, ⟨yp, .slice (some ⟨g3, 0, none⟩) Y1.length h3, .slice (some ⟨g4, 0, none⟩) Y2.length h4, Y1, Y2⟩) (by simp)).1
      have fyyl := HBox.lt (BOX.out (bz, ⟨yp, .slice (some ⟨g3, 0, none⟩) Y1.length h3, .slice (some ⟨g4, 0, none⟩) Y2.length h4, Y1, Y2⟩) (by simp)).1
      simp only at fyy0 fyy1 fyy2 fyyl
      obtain ⟨fq0, fq1, fq2⟩ := HBox.cells (BOX.out (w.heap.size + 1, ⟨yp, .slice ya1 Y1.length yk1, .slice ya2 Y2.length yk2, Y1, Y2⟩) (by simp)).1
      have fql := HBox.lt (BOX.out (w.heap.size + 1, ⟨yp, .slice ya1 Y1.length yk1, .slice ya2 Y2.length yk2, Y1, Y2⟩) (by simp)).1
      simp only at fq0 fq1 fq2 fql
      have fqm0 := Nat.lt_of_le_of_lt (show w.heap.size ≤ w.heap.size + 1 by omega) fql
      clear BOX2 BW2 BZ2
      have KH : Hid (_) := keptHunk_any ⟨yp, .slice ya1 Y1.length yk1, .slice ya2 Y2.length yk2, Y1, Y2⟩ ⟨yp, .slice (some ⟨g3, 0, none⟩) Y1.length h3, .slice (some ⟨g4, 0, none⟩) Y2.length h4, Y1, Y2⟩ w1.heap.size s8 (BOX.out (w.heap.size + 1, ⟨yp, .slice ya1 Y1.length yk1, .slice ya2 Y2.length yk2, Y1, Y2⟩) (by simp)).2.1 (LNT.out _ BZZ.out).2 (by show Y1.length ≤ 5000; have := LEN.out; omega) (by show Y2.length ≤ 5000; have := LEN.out; omega)
      simp only [HA.val] at KH
      gi_wp2_with fail
      refine ⟨trivial, ?_⟩
      refine (callsIn_wide.2 KH.out).mono ?_
      rintro e s9 ⟨rfl, bb⟩
      clear KH
      have BOX2 : Hid (Boxes s9 _) := Boxes.below BOX.out bb
      have BW2 : Hid (Below w.heap.size w s9) := below_then BW.out bb
      have BZ2 : Hid (Below Z.heap.size Z s9) := below_then BZZ.out bb
      clear fyy0 fyy1 fyy2 fyyl fq0 fq1 fq2 fql fqm0
      clear BOX BW BZZ bb
      have BOX : Hid (Boxes s9 _) := BOX2
      have BW : Hid (Below w.heap.size w s9) := BW2.out
      have BZZ : Hid (Below Z.heap.size Z s9) := BZ2.out
      obtain ⟨fp0, fp1, fp2⟩ := HBox.cells (BOX.out (w.heap.size, ⟨xp, .slice xa1 X1.length xk1, .slice xa2 X2.length xk2, X1, X2⟩) (by simp)).1
      have fpl := HBox.lt (BOX.out (w.heap.size, ⟨xp, .slice xa1 X1.length xk1, .slice xa2 X2.length xk2, X1, X2⟩) (by simp)).1
      simp only at fp0 fp1 fp2 fpl
      clear BOX2 BW2 BZ2
      have AW : Hid (_) := sawake_any s9
      gi_wp2_with fail
      refine ⟨trivial, ?_⟩
      refine (callsIn_wide.2 AW.out).mono ?_
      rintro e s10 ⟨rfl, b10⟩
      have BF : Hid (Below w.heap.size w s10) := below_then BW.out b10
      clear fp0 fp1 fp2 fpl
      clear AW b10 BOX BW BZZ
      gi_wp2
      exact bodyPost_ret (results_tmp rfl _ _ _) rfl ⟨rfl, BF.out⟩

end Go.Proofs.YtflnakjffgobmaaGreat

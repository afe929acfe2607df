/-
  The walk of the law HunkBack.
-/
import Derived.Test.YtpcinbfelikgpaaHunkArg
import Derived.Test.YtpcinbfelikgpaaHnMore
namespace Go.Proofs.Ytpcinbfelikgpaa
open Go.RowKit Go.Shelf

attribute [local go_sem] Oper.semAt_some

set_option maxRecDepth 100000 in
set_option maxHeartbeats 1000000 in
theorem copy_any (L : List (List UInt8)) (v : Value) (m : Nat) (w : World) (hrow : RowLow m w v L) (hL : L.length ≤ 1000000) :
    Calls Try.prog 27 #[v] w fun e w' => ∃ r, e = .returned r ∧ w'.ownsRow w.heap.size 9 1 r L.length (L.map txtV) ∧ Below w.heap.size w w' := by
  obtain ⟨v', W', hrun, ho, hg⟩ := app_run w.heap.size w (.slice none 0 0) 0 [] (World.ownsRow_nil _ _ _ _) v L m hrow (Nat.le_refl _) (by omega)
  rw [Nat.zero_add, List.nil_append] at ho
  have HF : Hid (W'.ownsRow w.heap.size 9 1 v' L.length (L.map txtV) ∧ Below w.heap.size w W') := ⟨ho, ⟨hg.os, hg.tape, hg.output, hg.size, fun j hj => hg.block j hj (by simp [Value.ownBlock])⟩⟩
  obtain ⟨a, c, rfl⟩ := slice_shape ho
  obtain ⟨a1, c1, b1, o1, rfl, -, -, -⟩ := hrow.parts
  clear hrow ho hg
  refine (callsIn_wide (n := 3)).1 ?_
  refine callsIn_of_wp Try.func27 rfl trivial ?_ rfl
  simp only [Try.ntmps27, List.size_toArray, List.length_cons, List.length_nil, Nat.reduceAdd, Nat.reduceSub, Array.replicate_succ, Array.replicate_zero, List.push_toArray, List.append_toArray, List.nil_append, List.cons_append]
  gi_wp2_with (gi_at_builtin; refine list_append rfl _ _ 22 rfl _ _ _ _ rfl rfl hrun ?_)
  refine bodyPost_ret (results_tmp rfl _ _ _) rfl ⟨_, rfl, ?_⟩
  exact HF.out

/-- An inverse that was made: its lines in memory of its own. -/
def HA.Ok (B : Nat) (x : HA) (W : World) : Prop := W.ownsRow B 9 1 x.vo x.old.length (x.old.map txtV) ∧ W.ownsRow B 9 1 x.vn x.new.length (x.new.map txtV)
theorem HA.Ok.below {B : Nat} {x : HA} {W W' : World} (h : x.Ok B W) (hb : Below W.heap.size W W') : x.Ok B W' := ⟨owns_below h.1 hb, owns_below h.2 hb⟩
theorem low_of_ok {B : Nat} {v : Value} {xs : List HA} {W : World} (h : W.ownsRow B 41 3 v xs.length (haCells xs)) (hx : ∀ x ∈ xs, x.Ok B W) : HaLow W.heap.size W v xs :=
  ⟨CellsLow.of_owns h, fun x hxm => ⟨RowLow.of_owns (hx x hxm).1, RowLow.of_owns (hx x hxm).2⟩⟩
theorem allSum_mem (xs : List HA) : ∀ x ∈ xs, x.old.length + x.new.length ≤ allSum xs := by
  induction xs with
  | nil => intro x hx; cases hx
  | cons y r ih =>
    intro x hx
    have e : allSum (y :: r) = (y.old.length + y.new.length) + allSum r := by simp [allSum]
    rcases List.mem_cons.1 hx with rfl | hx
    · omega
    · have := ih x hx; omega
theorem newSum_all (xs : List HA) : newSum xs ≤ allSum xs := by
  induction xs with
  | nil => simp [newSum, allSum]
  | cons y r ih => simp [newSum, allSum] at ih ⊢; omega
theorem more_all (xs : List HA) (k : Nat) : -(allSum xs : Int) ≤ Hn.moreOf ((xs.map HA.h).take k) ∧ Hn.moreOf ((xs.map HA.h).take k) ≤ allSum xs := by
  refine Hn.moreOf_bound _ _ ?_
  rw [← List.map_take, List.map_map]
  have key : ∀ (xs : List HA) (k : Nat), (((xs.take k).map ((fun x : Hn.H => x.old.length + x.new.length) ∘ HA.h))).sum ≤ allSum xs := by
    intro xs
    induction xs with
    | nil => intro k; simp [allSum]
    | cons y r ih =>
      intro k
      cases k with
      | zero => simp
      | succ k =>
        have := ih k
        simp only [List.take_succ_cons, List.map_cons, List.sum_cons, allSum] at this ⊢
        have e : ((fun x : Hn.H => x.old.length + x.new.length) ∘ HA.h) y = y.old.length + y.new.length := rfl
        omega
  exact key xs k

set_option maxRecDepth 100000 in
set_option maxHeartbeats 16000000 in
theorem back_law (L : List (List UInt8)) (xs : List HA) (v hv : Value) (w : World) (hrow : RowLow w.heap.size w v L) (hx : HaLow w.heap.size w hv xs) (hL : L.length ≤ 1000000000000000) (hs : ∀ x ∈ L, x.length ≤ 9223372036854775807) (hl : xs.length ≤ 1000000000000000) (hf : ∀ x ∈ xs, x.Fits) (hM : ∀ x ∈ xs, x.Mach) :
    Calls Try.prog 5 #[v, hv] w fun e w' => e = .returned (.bool true) ∧ Below w.heap.size w w' := by
  have HROW : Hid (RowLow w.heap.size w v L) := hrow
  have HX : Hid (HaLow w.heap.size w hv xs) := hx
  have HF : Hid (∀ x ∈ xs, x.Fits) := hf
  have G : Hid (∀ W, Below w.heap.size w W → _) := fun W hW => hgreat_any L xs v hv w.heap.size W (hrow.below hW (Nat.le_refl _)) (hx.below hW (Nat.le_refl _)) hL hs hl hf hM
  obtain ⟨va, vc, vb, vd, rfl, -, -, -⟩ := hrow.parts
  obtain ⟨⟨ao, cap, b, off, rfl, -, hao, hc⟩, hlow⟩ := hx
  have HC : Hid (_) := hc
  have HLOW : Hid (∀ x ∈ xs, x.Low w.heap.size w) := hlow
  clear hrow hc hlow hs hf hM
  obtain ⟨i0, gi, gz0, gz1, gz2⟩ := info_parts info41s
  refine (callsIn_wide (n := 3)).1 ?_
  refine callsIn_of_wp Try.func5 rfl trivial ?_ rfl
  simp only [Try.ntmps5, List.size_toArray, List.length_cons, List.length_nil, Nat.reduceAdd, Nat.reduceSub, Array.replicate_succ, Array.replicate_zero, List.push_toArray, List.append_toArray, List.nil_append, List.cons_append]
  gi_wp2_with fail
  refine ⟨trivial, ?_⟩
  refine (callsIn_wide.2 (hawake_any w)).mono ?_
  rintro e w1 ⟨rfl, bw1⟩
  have B1 : Hid (Below w.heap.size w w1) := bw1
  gi_wp2_with fail
  refine ⟨trivial, ?_⟩
  refine (callsIn_wide.2 (G.out w1 bw1)).mono ?_
  rintro e w2 ⟨r, rfl, ⟨d2, hw2⟩, hr⟩
  have B2 : Hid (Below w.heap.size w w2) := by rw [hw2]; exact below_drewN B1.out d2
  clear G hw2 B1 bw1
  cases r with
  | true =>
    clear hr
    gi_wp2
    exact bodyPost_ret (results_tmp rfl _ _ _) rfl ⟨rfl, B2.out⟩
  | false =>
    obtain ⟨hsum, hsh, hshx⟩ := hr rfl
    have HSUM : Hid (xs.length + L.length + allSum xs ≤ 2000) := hsum
    have HSH : Hid (∀ s ∈ L, s.length ≤ 16007) := hsh
    have HSX : Hid (∀ x ∈ xs, x.Short) := hshx
    have hLs : L.length ≤ 2000 := by omega
    have hxs : xs.length ≤ 2000 := by omega
    have HSM : Hid (∀ x ∈ xs, x.Small) := fun x hxm => by
      have := allSum_mem xs x hxm
      exact ⟨by omega, by omega⟩
    have hns := newSum_all xs
    have AP : Hid (_) := apply_any L xs _ _ w.heap.size w2 (HROW.out.below B2.out (Nat.le_refl _)) (HX.out.below B2.out (Nat.le_refl _)) B2.out.size HF.out HSM.out (by omega) (by omega) (fun x hxm => by have := HSH.out x hxm; omega) (fun x hxm s hsm => by have := (HSX.out x hxm).2 s hsm; omega)
    clear hr hsum hsh hshx hns hL hl
    gi_wp2_with fail
    refine ⟨trivial, ?_⟩
    refine (callsIn_wide.2 AP.out).mono ?_
    rintro e w3 ⟨bw3, hp⟩
    clear AP
    have B3 : Hid (Below w.heap.size w w3) := Below.trans B2.out (bw3.mono B2.out.size)
    cases happ : Hn.apply L (xs.map HA.h) with
    | error c =>
      rw [happ] at hp
      simp only at hp
      subst hp
      have hc0 : (c : Int) ≠ 0 := by rcases Hn.apply_err happ with rfl | rfl | rfl <;> decide
      have hcb : ((c : Int) != 0) = true := by rw [bne_iff_ne]; exact hc0
      clear happ bw3
      gi_wp2
      exact bodyPost_ret (results_tmp rfl _ _ _) rfl ⟨rfl, B3.out⟩
    | ok A =>
      rw [happ] at hp
      simp only at hp
      obtain ⟨tv, rfl, otv⟩ := hp
      have HAPP : Hid (Hn.apply L (xs.map HA.h) = .ok A) := happ
      have OA : Hid (w3.ownsRow w2.heap.size 9 1 tv A.length (A.map txtV)) := otv
      obtain ⟨ta, tc, rfl⟩ := slice_shape otv
      clear happ otv bw3 B2
      gi_wp2
      gi_loopw [7, 8, 9] (fun nn u i wr => ∃ (k : Nat) (n : Int) (ys : List HA), k ≤ xs.length ∧ nn = .int .i64 n ∧ i = .int .i64 k ∧ n = L.length + Hn.moreOf ((xs.map HA.h).take k) ∧ ys.length = k ∧ ys.map HA.h = (Hn.backs 0 (xs.map HA.h)).take k ∧ wr.ownsRow w3.heap.size 41 3 u ys.length (haCells ys) ∧ (∀ y ∈ ys, y.Ok w3.heap.size wr) ∧ Below w3.heap.size w3 wr) (fun _ _ i _ => xs.length - (intOf i).toNat)
      case atStart =>
        refine ⟨0, L.length, [], Nat.zero_le _, rfl, rfl, by simp [Hn.moreOf], rfl, rfl, ?_, ?_, Below.refl _ _⟩
        · exact World.ownsRow_nil _ _ _ _
        · intro y hy
          simp at hy
      case round =>
        obtain ⟨k, n, ys, hk, rfl, rfl, hn, hyl, hym, hrow, hyo, hbw⟩ := hrel
        by_cases hlt : k < xs.length
        · obtain ⟨x, hxk⟩ : ∃ x, xs[k]? = some x := ⟨xs[k], List.getElem?_eq_getElem hlt⟩
          obtain ⟨rfl, hbm⟩ := hao (by omega)
          obtain ⟨g0, g1, g2⟩ := haCells_get xs k x hxk
          have hbb : Below w.heap.size w wr := Below.trans B3.out (hbw.mono B3.out.size)
          have c0 : wr.cell? ⟨b, off + k * 3, none⟩ = some (.int .i64 x.at_) := (hbb.cell (p := ⟨b, off + k * 3, none⟩) (by show b < _; omega)).trans (HC.out _ _ g0)
          have c1 : wr.cell? ⟨b, off + k * 3 + 1, none⟩ = some x.vo := (hbb.cell (p := ⟨b, off + k * 3 + 1, none⟩) (by show b < _; omega)).trans (HC.out _ _ g1)
          have c2 : wr.cell? ⟨b, off + k * 3 + 2, none⟩ = some x.vn := (hbb.cell (p := ⟨b, off + k * 3 + 2, none⟩) (by show b < _; omega)).trans (HC.out _ _ g2)
          have hm2 := List.mem_of_getElem? hxk
          have IN := invert_any x w.heap.size wr ((HLOW.out x hm2).below hbb (Nat.le_refl _)) hbb.size (HSM.out x hm2) (fun s hs => by have := (HSX.out x hm2).1 s hs; omega) (fun s hs => by have := (HSX.out x hm2).2 s hs; omega)
          obtain ⟨-, -, -, -, -, -, -, -, hso⟩ := Hn.apply_segs HAPP.out
          have hxh : (xs.map HA.h)[k]? = some x.h := by rw [List.getElem?_map, hxk]; rfl
          have hr := Hn.sorted_pos _ _ hso x.h (List.mem_of_getElem? hxh)
          obtain ⟨r1, r2⟩ := right_bound hr
          have hat0 : x.h.at_ = x.at_ := rfl
          rw [hat0] at r1 r2
          have hmo := more_all xs k
          have hsl := allSum_mem xs x hm2
          have hbk := Hn.backs_get (xs.map HA.h) 0 k x.h hxh
          have hmt := Hn.moreOf_take (xs.map HA.h) k x.h hxh
          have HS := HSUM.out
          obtain ⟨a1, cp1, bb1, oo1, e1, -, -, -⟩ := (HLOW.out x hm2).1.parts
          obtain ⟨a2, cp2, bb2, oo2, e2, -, -, -⟩ := (HLOW.out x hm2).2.parts
          obtain ⟨p, vo, vn, L1, L2⟩ := x
          simp only [HA.val, HA.h] at c0 c1 c2 e1 e2 IN hbk hmt r1 r2 hsl
          subst e1 e2
          obtain ⟨q, hq⟩ : ∃ q, q = p + n - (L.length : Int) := ⟨_, rfl⟩
          obtain ⟨n', hn'⟩ : ∃ n', n' = n + (L2.length : Int) - (L1.length : Int) := ⟨_, rfl⟩
          have q1 : IntKind.i64.wrap (p + n) = p + n := by rw [IntKind.wrap_i64]; omega
          have q2 : IntKind.i64.wrap (p + n - (L.length : Int)) = q := by rw [IntKind.wrap_i64, hq]; omega
          have q3 : IntKind.i64.wrap (n + (L2.length : Int)) = n + (L2.length : Int) := by rw [IntKind.wrap_i64]; omega
          have q4 : IntKind.i64.wrap (n + (L2.length : Int) - (L1.length : Int)) = n' := by rw [IntKind.wrap_i64, hn']; omega
          have HQ : Hid (q = p + (0 + Hn.moreOf ((xs.map HA.h).take k))) := by show q = _; omega
          have HN' : Hid (n' = L.length + Hn.moreOf ((xs.map HA.h).take (k + 1))) := by show n' = _; rw [hmt]; omega
          have HBK : Hid (_) := hbk
          have HYL : Hid (ys.length = k) := hyl
          have HYM : Hid (_) := hym
          have HRW : Hid (wr.ownsRow w3.heap.size 41 3 u8 ys.length (haCells ys)) := hrow
          have HYO : Hid (∀ y ∈ ys, y.Ok w3.heap.size wr) := hyo
          have HBW : Hid (Below w3.heap.size w3 wr) := hbw
          have IN2 : Hid (_) := IN
          have hs3 : w3.heap.size ≤ wr.heap.size := hbw.size
          have hyk : ys.length < 2001 := by omega
          clear hyl hym hrow hyo hbw IN hbk hmt hmo hsl hr r1 r2 hat0 hxh hso hbb g0 g1 g2 hq hn' hn hxk hm2 HS
          gi_wp2_with fail
          refine ⟨trivial, ?_⟩
          refine (callsIn_wide.2 IN2.out).mono ?_
          rintro e w4 ⟨jo, jn, n1, rfl, ojo, ojn, hn1, -, bw4⟩
          obtain ⟨ja, jc, rfl⟩ := slice_shape ojo
          obtain ⟨ka, kc, rfl⟩ := slice_shape ojn
          obtain ⟨v', W', hrun, hown, hgr, -⟩ := run_append_own (P := Try.prog) ((w4.alloc (.cells #[.int .i64 q, .slice ja L2.length jc, .slice ka L1.length kc] 41)).alloc (.cells #[.int .i64 q, .slice ja L2.length jc, .slice ka L1.length kc] 41)) w3.heap.size 23 23 41 i0 _ 3 56 Try.underlying23 gi gz0 gz1 gz2 rfl (by decide) u8 ys.length (haCells ys) (owns_below (owns_below HRW.out bw4) (((below_nw w4 _).alloc (by simp) _))) ⟨w4.heap.size + 1, 0, none⟩ 1 1 [.int .i64 q, .slice ja L2.length jc, .slice ka L1.length kc] rfl (by
              have h9 := cells_new (w4.alloc (.cells #[.int .i64 q, .slice ja L2.length jc, .slice ka L1.length kc] 41)) [.int .i64 q, .slice ja L2.length jc, .slice ka L1.length kc] 41
              rw [World.size_alloc] at h9
              exact h9) (by simp [Value.oneCell']) (by unfold maxLen; omega) (by omega) (by have := bw4.size; simp; omega)
          obtain ⟨gv, cv, rfl⟩ := ownsRow_succ hown
          have bZ : Below w4.heap.size w4 ((w4.alloc (.cells #[.int .i64 q, .slice ja L2.length jc, .slice ka L1.length kc] 41)).alloc (.cells #[.int .i64 q, .slice ja L2.length jc, .slice ka L1.length kc] 41)) := (below_nw w4 _).alloc (by simp) _
          have hub : ∀ bq, u8.ownBlock = some bq → w3.heap.size ≤ bq ∧ bq < wr.heap.size := fun bq hbq => HRW.out.lt bq hbq
          have hs4 := bw4.size
          have hbox : W'.heap[w4.heap.size]? = some (.cells #[.int .i64 q, .slice ja L2.length jc, .slice ka L1.length kc] 41 (0, 0)) := by
            refine (hgr.block _ (by simp; omega) (fun e => ?_)).trans ?_
            · have := (hub _ e.symm).2; omega
            · exact ((below_nw (w4.alloc (.cells #[.int .i64 q, .slice ja L2.length jc, .slice ka L1.length kc] 41)) _).block _ (by simp)).trans (World.alloc_heap_new w4 _)
          have z1 : W'.cell? ⟨w4.heap.size, 1, none⟩ = some (.slice ja L2.length jc) := by rw [Lib.cell_of_heap hbox]; rfl
          have z2 : W'.cell? ⟨w4.heap.size, 2, none⟩ = some (.slice ka L1.length kc) := by rw [Lib.cell_of_heap hbox]; rfl
          have keep : ∀ {B' nn : Nat} {vv : Value} {zs : List Value}, w4.ownsRow B' 9 1 vv nn zs → W'.ownsRow B' 9 1 vv nn zs := fun h => by
            have h1 := owns_below h bZ
            exact owns_two h1 (owns_below (owns_below HRW.out bw4) bZ) hgr (by decide)
          have HFIN : Hid (W'.ownsRow w3.heap.size 41 3 (.slice (some ⟨gv, 0, none⟩) (ys.length + 1) cv) (ys ++ [(⟨q, .slice ja L2.length jc, .slice ka L1.length kc, L2, L1⟩ : HA)]).length (haCells (ys ++ [(⟨q, .slice ja L2.length jc, .slice ka L1.length kc, L2, L1⟩ : HA)])) ∧ (∀ y ∈ ys ++ [(⟨q, .slice ja L2.length jc, .slice ka L1.length kc, L2, L1⟩ : HA)], y.Ok w3.heap.size W') ∧ Below w3.heap.size w3 W') := by
            refine ⟨?_, fun y hy => ?_, ?_⟩
            · have e9 : haCells (ys ++ [(⟨q, .slice ja L2.length jc, .slice ka L1.length kc, L2, L1⟩ : HA)]) = haCells ys ++ [.int .i64 q, .slice ja L2.length jc, .slice ka L1.length kc] := by simp [haCells]
              rw [e9, List.length_append]
              exact hown
            · rcases List.mem_append.1 hy with hy | hy
              · have h9 := (HYO.out y hy).below bw4
                exact ⟨keep h9.1, keep h9.2⟩
              · rw [List.mem_singleton] at hy
                subst hy
                exact ⟨keep (owns_base ojo hs3), keep (owns_base ojn (by omega))⟩
            · refine (HBW.out.trans (bw4.mono hs3)).trans ((bZ.mono (by omega)).trans ⟨hgr.os, hgr.tape, hgr.output, hgr.size, fun j hj => hgr.block j (by have := bZ.size; omega) (fun e => by have := (hub _ e.symm).1; omega)⟩)
          clear keep hbox hub hown hgr bZ ojo ojn bw4 hn1 IN2 HYO HBW HRW
          gi_wp2_with (gi_at_builtin; refine list_append rfl _ _ 23 rfl _ _ _ _ rfl rfl hrun ?_)
          go_roundw
          case rel =>
            refine ⟨k + 1, n', ys ++ [⟨q, .slice ja L2.length jc, .slice ka L1.length kc, L2, L1⟩], by omega, by go_num, by go_num, HN'.out, by simp [HYL.out], ?_, HFIN.out.1, HFIN.out.2.1, HFIN.out.2.2⟩
            rw [List.map_append, HYM.out, List.take_add_one, HBK.out, ← HQ.out]
            rfl
          case measure => simp [intOf]; omega
        · have hkl : k = xs.length := by omega
          subst hkl
          have HNN : Hid (n = A.length) := by
            have h9 := Hn.apply_len HAPP.out
            rw [List.take_of_length_le (by simp)] at hn
            show n = A.length
            omega
          have HYM : Hid (ys.map HA.h = Hn.backs 0 (xs.map HA.h)) := by
            rw [List.take_of_length_le (by rw [Hn.backs_len]; simp)] at hym
            exact hym
          have hs3 : w3.heap.size ≤ wr.heap.size := hbw.size
          have OA2 : Hid (wr.ownsRow w2.heap.size 9 1 (.slice ta A.length tc) A.length (A.map txtV)) := owns_below OA.out hbw
          have BWR : Hid (Below w.heap.size w wr) := Below.trans B3.out (hbw.mono B3.out.size)
          have HS := HSUM.out
          have hAl : A.length ≤ 4000 := by
            have h9 := Hn.apply_len HAPP.out
            have h8 := more_all xs xs.length
            rw [List.take_of_length_le (by simp)] at h8
            omega
          have HAS : Hid (∀ s ∈ A, s.length ≤ 16007) := fun s hsA => by
            rcases Hn.apply_mem HAPP.out s hsA with h1 | ⟨x, hxm, h1⟩
            · exact HSH.out s h1
            · obtain ⟨y, hy, rfl⟩ := List.mem_map.1 hxm
              exact (HSX.out y hy).2 s h1
          -- each inverse is one of a hunk
          have hback : ∀ y ∈ ys, ∃ x ∈ xs, y.old = x.new ∧ y.new = x.old ∧ -4000 ≤ y.at_ ∧ y.at_ ≤ 1099511631776 := fun y hy => by
            obtain ⟨j, hj⟩ := List.getElem?_of_mem hy
            have h1 : (ys.map HA.h)[j]? = some y.h := by rw [List.getElem?_map, hj]; rfl
            have hjl : j < xs.length := by have := (List.getElem?_eq_some_iff.1 hj).1; omega
            obtain ⟨x, hxj⟩ : ∃ x, xs[j]? = some x := ⟨xs[j], List.getElem?_eq_getElem hjl⟩
            have hxh : (xs.map HA.h)[j]? = some x.h := by rw [List.getElem?_map, hxj]; rfl
            rw [HYM.out, Hn.backs_get (xs.map HA.h) 0 j x.h hxh] at h1
            have h2 := Option.some.inj h1
            obtain ⟨-, -, -, -, -, -, -, -, hso⟩ := Hn.apply_segs HAPP.out
            obtain ⟨r1, r2⟩ := right_bound (Hn.sorted_pos _ _ hso x.h (List.mem_of_getElem? hxh))
            have hmo := more_all xs j
            have e1 : y.at_ = x.h.at_ + (0 + Hn.moreOf ((xs.map HA.h).take j)) := (congrArg Hn.H.at_ h2).symm
            exact ⟨x, List.mem_of_getElem? hxj, (congrArg Hn.H.old h2).symm, (congrArg Hn.H.new h2).symm, by omega, by omega⟩
          have hyfit : ∀ y ∈ ys, y.Fits ∧ y.Small ∧ ∀ s ∈ y.new, s.length ≤ 281474976710656 := fun y hy => by
            obtain ⟨x, hxm, e1, e2, e3, e4⟩ := hback y hy
            have h9 := allSum_mem xs x hxm
            have h8 := HSX.out x hxm
            refine ⟨⟨⟨by omega, by omega⟩, ⟨by rw [e1]; omega, by rw [e2]; omega⟩, fun s hs => ?_, fun s hs => ?_⟩, ⟨by rw [e1]; omega, by rw [e2]; omega⟩, fun s hs => ?_⟩
            · rw [e1] at hs; have := h8.2 s hs; omega
            · rw [e2] at hs; have := h8.1 s hs; omega
            · rw [e2] at hs; have := h8.1 s hs; omega
          have hyns : newSum ys ≤ 2000 := by
            have h1 := Hn.backs_new (xs.map HA.h) 0
            rw [← HYM.out, List.map_map, List.map_map] at h1
            have e1 : newSum ys = (ys.map ((fun x : Hn.H => x.new.length) ∘ HA.h)).sum := rfl
            have e2 : allSum xs = (xs.map ((fun x : Hn.H => x.old.length + x.new.length) ∘ HA.h)).sum := rfl
            omega
          obtain ⟨hab, -⟩ := Hn.apply_back HAPP.out (by omega)
          obtain ⟨C, hC0, hC1, hCs⟩ := Hn.apply_last HAPP.out
          rw [List.length_map] at hC0
          have AP0 := apply_any A ys _ u8 wr.heap.size wr (RowLow.of_owns OA2.out) (low_of_ok hrow hyo) (Nat.le_refl _) (fun y hy => (hyfit y hy).1) (fun y hy => (hyfit y hy).2.1) (by omega) (by omega) (fun s hs => by have := HAS.out s hs; omega) (fun y hy s hs => (hyfit y hy).2.2 s hs)
          rw [HYM.out, hab] at AP0
          have AP : Hid (_) := AP0
          have HCL : Hid (∀ t j, j + t = xs.length → (C j).length ≤ L.length + newSum (xs.drop j) ∧ ∀ s ∈ C j, s.length ≤ 16007) := by
            intro t
            induction t with
            | zero =>
              intro j hj
              have : j = xs.length := by omega
              subst this
              rw [hC0]
              exact ⟨by omega, HSH.out⟩
            | succ t ih =>
              intro j hj
              obtain ⟨h1, h2⟩ := ih (j + 1) (by omega)
              obtain ⟨x, hxj⟩ : ∃ x, xs[j]? = some x := ⟨xs[j]'(by omega), List.getElem?_eq_getElem (by omega)⟩
              have h3 := hCs j x.h (by rw [List.getElem?_map, hxj]; rfl)
              have h4 := Hn.apply_len h3
              have h5 := newSum_at xs j x hxj
              have h6 : Hn.moreOf [x.h] = (x.new.length : Int) - x.old.length := by simp [Hn.moreOf, HA.h]
              rw [h6] at h4
              refine ⟨by omega, fun s hs => ?_⟩
              rcases Hn.apply_mem h3 s hs with h7 | ⟨y, hy, h7⟩
              · exact h2 s h7
              · rw [List.mem_singleton] at hy; subst hy
                exact (HSX.out x (List.mem_of_getElem? hxj)).2 s h7
          have HCS : Hid (∀ (j : Nat) (x : HA), xs[j]? = some x → Hn.apply (C (j + 1)) [x.h] = .ok (C j)) := fun j x hxj => hCs j x.h (by rw [List.getElem?_map, hxj]; rfl)
          have HC0 : Hid (C xs.length = L) := hC0
          have HC1 : Hid (C 0 = A) := hC1
          have hxl : xs.length ≤ 2000 := hxs
          have hsub : wrap64 ((xs.length : Int) - 1) = (xs.length : Int) - 1 := wrap_pred _ (by omega)
          have hnn := HNN.out
          subst hnn
          have hbne : ((A.length : Int) != (A.length : Int)) = false := by simp
          have hL2 : L.length ≤ 2000 := hLs
          have HNSX : Hid (newSum xs ≤ 2000) := by have := newSum_all xs; show newSum xs ≤ 2000; omega
          obtain ⟨ua, uc, rfl⟩ := slice_shape hrow
          clear AP0 hab hyns hyfit hback hC0 hC1 hCs hym hrow hyo hbw hn hyl HNN OA hs3 HS
          gi_wp2_with fail
          refine ⟨trivial, ?_⟩
          refine (callsIn_wide.2 AP.out).mono ?_
          rintro e w5 ⟨bw5, t5, rfl, o5⟩
          have B5 : Hid (Below w.heap.size w w5) := Below.trans BWR.out (bw5.mono BWR.out.size)
          have RA5 : Hid (RowLow w5.heap.size w5 (.slice ta A.length tc) A) := RowLow.of_owns (owns_below OA2.out bw5)
          have RL5 : Hid (RowLow w5.heap.size w5 (.slice va L.length vc) L) := RowLow.mono (HROW.out.below B5.out (Nat.le_refl _)) B5.out.size
          have SM : Hid (_) := same_yes w5 t5 _ L w5.heap.size (RowLow.of_owns o5) RL5.out (by omega)
          obtain ⟨xa, xc, rfl⟩ := slice_shape o5
          clear AP bw5 o5 OA2 BWR
          gi_wp2_with fail
          refine ⟨trivial, ?_⟩
          refine (callsIn_wide.2 SM.out).mono ?_
          rintro e w6 ⟨rfl, d6, hw6⟩
          have b56 : Below w5.heap.size w5 w6 := by rw [hw6]; exact below_drewN (Below.refl _ w5) d6
          have B6 : Hid (Below w.heap.size w w6) := Below.trans B5.out (b56.mono B5.out.size)
          have RA6 : Hid (_) := RowLow.at RA5.out b56
          have CP : Hid (_) := copy_any L _ w6.heap.size w6 (RowLow.at RL5.out b56) (by omega)
          clear SM hw6 b56 B5 RA5 RL5
          gi_wp2_with fail
          refine ⟨trivial, ?_⟩
          refine (callsIn_wide.2 CP.out).mono ?_
          rintro e w7 ⟨c7, rfl, o7, bw7⟩
          have O7 : Hid (w7.ownsRow w6.heap.size 9 1 c7 L.length (L.map txtV)) := o7
          have RA7 : Hid (RowLow w7.heap.size w7 (.slice ta A.length tc) A) := RowLow.at RA6.out bw7
          have B7 : Hid (Below w.heap.size w w7) := Below.trans B6.out (bw7.mono B6.out.size)
          clear CP o7 bw7 RA6 B6
          gi_wp2
          gi_loopw [13, 14] (fun c i wq => ∃ (j : Nat), j ≤ xs.length ∧ i = .int .i64 ((j : Int) - 1) ∧ (∃ Bc, wq.ownsRow Bc 9 1 c (C j).length ((C j).map txtV)) ∧ Below w7.heap.size w7 wq) (fun _ i _ => (intOf i + 1).toNat)
          case atStart => exact ⟨xs.length, Nat.le_refl _, by go_num, ⟨_, by rw [HC0.out]; exact O7.out⟩, Below.refl _ _⟩
          case round =>
            clear O7
            obtain ⟨j, hj, rfl, ⟨Bc, hoc⟩, hbq⟩ := hrel
            have RAq : Hid (RowLow wr.heap.size wr (.slice ta A.length tc) A) := RowLow.at RA7.out hbq
            cases j with
            | zero =>
              have q1 : decide ((0 : Int) ≤ (((0 : Nat) : Int) - 1)) = false := by simp
              have RC : Hid (RowLow wr.heap.size wr u13 A) := by
                have h9 := RowLow.of_owns hoc
                rw [HC1.out] at h9
                exact h9
              have SM : Hid (_) := same_yes wr _ _ A wr.heap.size RAq.out RC.out (by omega)
              have BQ : Hid (Below w.heap.size w wr) := Below.trans B7.out (hbq.mono B7.out.size)
              clear hoc hbq
              gi_wp2_with fail
              refine ⟨trivial, ?_⟩
              refine (callsIn_wide.2 SM.out).mono ?_
              rintro e w8 ⟨rfl, d8, hw8⟩
              have B8 : Hid (Below w.heap.size w w8) := by rw [hw8]; exact below_drewN BQ.out d8
              clear SM hw8
              gi_wp2
              exact bodyPost_ret (results_tmp rfl _ _ _) rfl ⟨rfl, B8.out⟩
            | succ j =>
              have hji : (((j + 1 : Nat) : Int) - 1) = (j : Int) := by omega
              rw [hji]
              have q1 : decide ((0 : Int) ≤ (j : Int)) = true := by simp
              obtain ⟨x, hxj⟩ : ∃ x, xs[j]? = some x := ⟨xs[j]'(by omega), List.getElem?_eq_getElem (by omega)⟩
              obtain ⟨rfl, hbm⟩ := hao (by omega)
              obtain ⟨g0, g1, g2⟩ := haCells_get xs j x hxj
              have hbb : Below w.heap.size w wr := Below.trans B7.out (hbq.mono B7.out.size)
              have c0 : wr.cell? ⟨b, off + j * 3, none⟩ = some (.int .i64 x.at_) := (hbb.cell (p := ⟨b, off + j * 3, none⟩) (by show b < _; omega)).trans (HC.out _ _ g0)
              have c1 : wr.cell? ⟨b, off + j * 3 + 1, none⟩ = some x.vo := (hbb.cell (p := ⟨b, off + j * 3 + 1, none⟩) (by show b < _; omega)).trans (HC.out _ _ g1)
              have c2 : wr.cell? ⟨b, off + j * 3 + 2, none⟩ = some x.vn := (hbb.cell (p := ⟨b, off + j * 3 + 2, none⟩) (by show b < _; omega)).trans (HC.out _ _ g2)
              have hm2 := List.mem_of_getElem? hxj
              obtain ⟨l1, l2⟩ := (HLOW.out x hm2).below hbb (Nat.le_refl _)
              have k1 := l1.mono hbb.size
              have k2 := l2.mono hbb.size
              obtain ⟨m1, m2⟩ := HCL.out (xs.length - (j + 1)) (j + 1) (by omega)
              have m3 : newSum (xs.drop (j + 1)) ≤ newSum xs := by
                have key : ∀ (zs : List HA) (t : Nat), newSum (zs.drop t) ≤ newSum zs := by
                  intro zs
                  induction zs with
                  | nil => intro t; simp
                  | cons z r ih =>
                    intro t
                    cases t with
                    | zero => simp
                    | succ t =>
                      have := ih t
                      simp only [List.drop_succ_cons, newSum, List.map_cons, List.sum_cons] at this ⊢
                      omega
                exact key xs (j + 1)
              have m4 := HNSX.out
              have hsx := HSM.out x hm2
              have hfx := HF.out x hm2
              have hsh := HSX.out x hm2
              have happ := HCS.out j x hxj
              have m5 := newSum_at xs j x hxj
              obtain ⟨a1, cp1, bb1, oo1, e1, -, -, -⟩ := l1.parts
              obtain ⟨a2, cp2, bb2, oo2, e2, -, -, -⟩ := l2.parts
              obtain ⟨p, vo, vn, L1, L2⟩ := x
              simp only [HA.h] at c0 c1 c2 e1 e2 k1 k2 happ m5
              subst e1 e2
              have AP0 := apply_any (C (j + 1)) [⟨p, .slice a1 L1.length cp1, .slice a2 L2.length cp2, L1, L2⟩] u13 (.slice (some ⟨wr.heap.size, 0, none⟩) 1 1) _ (wr.alloc (.cells #[.int .i64 p, .slice a1 L1.length cp1, .slice a2 L2.length cp2] 41)) (RowLow.at (RowLow.of_owns hoc) (below_nw wr _)) (haLow_lit wr p _ _ L1 L2 k1 k2) (Nat.le_refl _) (fun y hy => by rw [List.mem_singleton] at hy; subst hy; exact hfx) (fun y hy => by rw [List.mem_singleton] at hy; subst hy; exact hsx) (by simp) (by
                  have e9 : newSum [(⟨p, .slice a1 L1.length cp1, .slice a2 L2.length cp2, L1, L2⟩ : HA)] = L2.length := by simp [newSum]
                  have e8 : L2.length ≤ 1000000 := hsx.2
                  have e7 : L2.length ≤ 2000 := by
                    have h1 := newSum_at xs j _ hxj
                    have h2 : newSum (xs.drop j) ≤ newSum xs := by
                      have key : ∀ (zs : List HA) (t : Nat), newSum (zs.drop t) ≤ newSum zs := by
                        intro zs
                        induction zs with
                        | nil => intro t; simp
                        | cons z r ih =>
                          intro t
                          cases t with
                          | zero => simp
                          | succ t =>
                            have := ih t
                            simp only [List.drop_succ_cons, newSum, List.map_cons, List.sum_cons] at this ⊢
                            omega
                      exact key xs j
                    simp only at h1
                    omega
                  rw [e9]; omega) (fun s hs => by have := m2 s hs; omega) (fun y hy s hs => by rw [List.mem_singleton] at hy; subst hy; have := hsh.2 s hs; omega)
              rw [List.map_cons, List.map_nil, show HA.h ⟨p, .slice a1 L1.length cp1, .slice a2 L2.length cp2, L1, L2⟩ = ⟨p, L1, L2⟩ from rfl, happ] at AP0
              have AP : Hid (_) := AP0
              have HBQ : Hid (Below w7.heap.size w7 wr) := hbq
              have hdec : wrap64 ((j : Int) - 1) = (j : Int) - 1 := wrap_pred _ (by omega)
              clear AP0 g0 g1 g2 hbb hm2 l1 l2 k1 k2 m1 m2 m3 m4 m5 hsx hfx hsh happ hxj hoc hbq hji RAq
              gi_wp2_with fail
              refine ⟨trivial, ?_⟩
              refine (callsIn_wide.2 AP.out).mono ?_
              rintro e w8 ⟨bw8, t8, rfl, o8⟩
              have O8 : Hid (w8.ownsRow _ 9 1 t8 (C j).length ((C j).map txtV)) := o8
              have B8 : Hid (Below w7.heap.size w7 w8) := Below.trans HBQ.out ((below_then (below_nw wr _) bw8).mono HBQ.out.size)
              obtain ⟨ya, yc, rfl⟩ := slice_shape o8
              clear AP bw8 o8 c0 c1 c2
              gi_wp2
              go_roundw
              case rel => exact ⟨j, by omega, by go_num, ⟨_, O8.out⟩, B8.out⟩
              case measure => simp [intOf]

end Go.Proofs.Ytpcinbfelikgpaa

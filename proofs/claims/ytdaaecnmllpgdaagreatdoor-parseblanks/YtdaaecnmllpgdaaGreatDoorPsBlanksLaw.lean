/-
  The walk of ParseBlanks.
-/
import Derived.Test.YtdaaecnmllpgdaaGreatDoorPsBlankMath
import Derived.Test.YtdaaecnmllpgdaaGreatDoorEndAll
import Derived.Test.YtdaaecnmllpgdaaGreatDoorPairAll
import Derived.Test.YtdaaecnmllpgdaaGreatDoorTrAll
namespace Go.Proofs.YtdaaecnmllpgdaaGreatDoor
open Go.RowKit Go.Shelf

attribute [local go_sem] Oper.semAt_some

theorem info_int : (Tryz.prog.info? 3).map (fun i => (i.zero, i.size, i.bytes)) = some (some (.int .i64 0), 1, 8) := by kernel_rfl
theorem bs_cat (a b : List UInt8) : Ln.bs a ++ Ln.bs b = Ln.bs (a ++ b) := by
  apply ByteArray.ext
  rw [ByteArray.data_append]
  show a.toArray ++ b.toArray = (a ++ b).toArray
  simp
theorem tokCells_two (ts : List Lx.Tok) : ∀ (k : Nat) (t : Lx.Tok), ts[k]? = some t → (tokCells ts)[k * 3 + 1]? = some (.string (Ln.bs t.text)) ∧ (tokCells ts)[k * 3 + 2]? = some (.int .i64 t.at_) := by
  induction ts with
  | nil => intro k t h; simp at h
  | cons y r ih =>
    intro k t h
    have e : tokCells (y :: r) = tokC y ++ tokCells r := rfl
    have e3 : (tokC y).length = 3 := rfl
    cases k with
    | zero => simp at h; subst h; exact ⟨rfl, rfl⟩
    | succ k =>
      have := ih k t (by simpa using h)
      rw [e, List.getElem?_append_right (by rw [e3]; omega), List.getElem?_append_right (by rw [e3]; omega), e3, show (k + 1) * 3 + 1 - 3 = k * 3 + 1 by omega, show (k + 1) * 3 + 2 - 3 = k * 3 + 2 by omega]
      exact this
/-- One place more. -/
theorem place_append {B q : Nat} {W : World} {p : Value} {xs : List Value} {x : Int} {g : Nat} (own : W.ownsRow B 3 1 p q xs) (hg : W.cell? ⟨g, 0, none⟩ = some (.int .i64 x)) (hB : B ≤ W.heap.size) (hq : q ≤ 3000) :
    ∃ v' W', (Builtin.append_ #[35, 35] 35 #[p, .slice (some ⟨g, 0, none⟩) 1 1]).run Tryz.prog W = .ok v' W' ∧ W'.ownsRow B 3 1 v' (q + 1) (xs ++ [.int .i64 x]) ∧ W.grownBy W' p.ownBlock := by
  obtain ⟨i0, hi, hz0, hz1, hz2⟩ := info_parts info_int
  obtain ⟨v', W', h1, h2, h3, -⟩ := run_append_own (P := Tryz.prog) W B 35 35 3 i0 (.int .i64 0) 1 8 Tryz.underlying35 hi hz0 hz1 hz2 rfl (by decide) p q xs own ⟨g, 0, none⟩ 1 1 [.int .i64 x] rfl (fun j u hu => by
    cases j with
    | zero => simp at hu; subst hu; exact hg
    | succ j => simp at hu) (by simp [Value.oneCell']) (by unfold maxLen; omega) (by omega) hB
  exact ⟨v', W', h1, h2, h3⟩
/-- What File tells of both texts. -/
theorem blanks_told {s o : ByteArray} {us : List Lx.Tok} (hs : Lx.lex s.data.toList = .ok us) (bl : List Int) (L : List Lx.Tok) (hL : L = us ++ [⟨5, [], s.size⟩]) (ho : o = Ln.bs (Lx.sp (zipped bl L))) :
    (∀ ts, FileOk s.data.toList ts → FileOk o.data.toList ts) ∧ ∀ E i, FileBad s.data.toList E i → ∃ j, FileBad o.data.toList E j ∧ (E = 102 → Beside L (Lx.pl 0 (zipped bl L)) i j) := by
  have e1 : s.data.toList.length = s.size := rfl
  have hL2 : L = us ++ [⟨5, [], s.data.toList.length⟩] := hL
  have ed : o.data.toList = Lx.sp (zipped bl L) := by rw [ho]; exact List.toList_toArray
  obtain ⟨vs, h1, h2, h3⟩ := blanks_all hs bl L hL2
  rw [← ed] at h1 h3
  exact ⟨fun ts h => h.two hs h1 h3, fun E i h => h.two hs h1 h3⟩

set_option maxRecDepth 100000 in
set_option maxHeartbeats 8000000 in
theorem pblanks_law (s : ByteArray) (hs : s.size ≤ maxLen) (bl : List Int) (bv : Value) (w : World) (hb : PathLow w.heap.size w bv bl) (hbl : bl.length ≤ 9223372036854775807) (hsg : SignsAt w.heap.size w) :
    Calls Tryz.prog 4 #[.string s, bv] w fun r w' => r = .returned (.bool true) ∧ Below w.heap.size w w' := by
  have HSG : Hid (SignsAt w.heap.size w) := hsg
  have HA : Hid (_) := pawake_any w hsg
  have hs1 : s.size ≤ 9223372036854775807 := hs
  have HPL : Hid (PathLow w.heap.size w bv bl) := hb
  obtain ⟨ba, bc, bb, bo, rfl, hba, hbx⟩ := hb.parts
  obtain ⟨BN, hBN⟩ : ∃ n, n = bl.length := ⟨_, rfl⟩
  have HBN : Hid (BN = bl.length) := hBN
  rw [← hBN] at hbl hba ⊢
  have HBX : Hid (∀ (j : Nat) (x : Int), bl[j]? = some x → w.cell? ⟨bb, bo + j, none⟩ = some (.int .i64 x)) := hbx
  clear hsg hs hbx hBN hb
  refine (callsIn_wide (n := 3)).1 ?_
  refine callsIn_of_wp Tryz.func4 rfl trivial ?_ rfl
  simp only [Tryz.ntmps4, List.size_toArray, List.length_cons, List.length_nil, Nat.reduceAdd, Nat.reduceSub, Array.replicate_succ, Array.replicate_zero, List.push_toArray, List.append_toArray, List.nil_append, List.cons_append]
  gi_wp2_with fail
  refine ⟨trivial, ?_⟩
  refine (callsIn_wide.2 HA.out).mono ?_
  rintro r w1 ⟨rfl, b1⟩
  have HB1 : Hid (Below w.heap.size w w1) := b1
  clear b1 HA
  by_cases h2 : 2000 < s.size
  · have d1 : decide ((2000 : Int) < s.size) = true := decide_eq_true (by omega)
    gi_wp2
    exact bodyPost_ret (results_tmp rfl _ _ _) rfl ⟨rfl, HB1.out⟩
  have d1 : decide ((2000 : Int) < s.size) = false := decide_eq_false (by omega)
  by_cases h3 : 2000 < BN
  · have d2 : decide ((2000 : Int) < BN) = true := decide_eq_true (by omega)
    gi_wp2
    exact bodyPost_ret (results_tmp rfl _ _ _) rfl ⟨rfl, HB1.out⟩
  have d2 : decide ((2000 : Int) < BN) = false := decide_eq_false (by omega)
  have HT : Hid (_) := tokens_any s w1 ((HSG.out.keep HB1.out).mono HB1.out.size) (by omega)
  gi_wp2_with fail
  refine ⟨trivial, ?_⟩
  refine (callsIn_wide.2 HT.out).mono ?_
  rintro r w2 ⟨hp, hb2⟩
  clear HT
  cases hres : Lx.lex s.data.toList with
  | fault E i =>
    rw [hres] at hp
    obtain rfl := hp
    have he : E ≠ 0 := by rcases (Lx.lex_fault hres).2 with rfl | rfl <;> decide
    have hz : ((E : Int) != 0) = true := by simpa using he
    have HE : Hid (Below w.heap.size w (w2.alloc (.cells #[.int .i64 E, .int .i64 i] 29))) := below_then (below_then HB1.out hb2) (below_nw w2 _)
    clear hres he hb2
    gi_wp2
    exact bodyPost_ret (results_tmp rfl _ _ _) rfl ⟨rfl, HE.out⟩
  | ok us =>
    rw [hres] at hp
    obtain ⟨v, rfl, ho, hn⟩ := hp
    have hcount := Lx.lex_count hres
    have hsl : s.data.toList.length = s.size := rfl
    obtain ⟨X, hX⟩ : ∃ X, X = w2.alloc (.cells #[.int .i64 0, .int .i64 0] 29) := ⟨_, rfl⟩
    have bX : Below w2.heap.size w2 X := hX ▸ below_new w2 _
    obtain ⟨L, hL⟩ : ∃ L, L = us ++ [(⟨5, [], s.size⟩ : Lx.Tok)] := ⟨_, rfl⟩
    rw [← hL] at ho
    have hLn : L.length = us.length + 1 := by rw [hL]; simp
    have hne : L ≠ [] := by rw [hL]; simp
    obtain ⟨g, o, c, rfl, ⟨tc, fr, hgb⟩, hc, -, hcell⟩ := tat_of_owns (owns_below ho bX) hne (by omega)
    have HG : Hid (g < X.heap.size) := (Array.getElem?_eq_some_iff.1 hgb).1
    have HB : Hid (Below w.heap.size w X) := below_then (below_then HB1.out hb2) bX
    have HC : Hid (∀ W, Below X.heap.size X W → ∀ (q : Nat) (t : Lx.Tok), L[q]? = some t → W.cell? ⟨g, o + q * 3 + 1, none⟩ = some (.string (Ln.bs t.text)) ∧ W.cell? ⟨g, o + q * 3 + 2, none⟩ = some (.int .i64 t.at_)) := fun W hW q t ht => by
      have h8 := tokCells_two L q t ht
      have h1 := hcell _ _ h8.1
      have h2 := hcell _ _ h8.2
      rw [← Nat.add_assoc] at h1 h2
      exact ⟨(World.cell?_of_block (w := X) (a := ⟨g, o + q * 3 + 1, none⟩) (hW.block g HG.out)).trans h1, (World.cell?_of_block (w := X) (a := ⟨g, o + q * 3 + 2, none⟩) (hW.block g HG.out)).trans h2⟩
    have HTL : Hid (∀ t ∈ L, t.text.length ≤ 2000 ∧ t.at_ ≤ 2000) := fun t ht => by
      rw [hL] at ht
      rcases List.mem_append.1 ht with ht | ht
      · have := ((Lx.lex_told hres).there t ht).1
        omega
      · rw [List.mem_singleton.1 ht]; exact ⟨by simp, by show s.size ≤ 2000; omega⟩
    have HL : Hid (L = us ++ [(⟨5, [], s.size⟩ : Lx.Tok)]) := hL
    have HR : Hid (Lx.lex s.data.toList = .ok us) := hres
    obtain ⟨N, hN⟩ : ∃ N, N = L.length := ⟨_, rfl⟩
    have HN : Hid (N = L.length) := hN
    rw [← hN] at hc hLn ⊢
    have hNb : N ≤ 2001 := by omega
    have hNc : (N : Int) ≤ c := by omega
    obtain ⟨R, hRw⟩ : ∃ R, R = X.alloc (.cells #[] 3) := ⟨_, rfl⟩
    have bR : Below X.heap.size X R := by rw [hRw]; exact below_nw X _
    have oR : R.ownsRow X.heap.size 3 1 (.slice (some ⟨X.heap.size, 0, none⟩) 0 0) 0 [] := by
      refine ⟨rfl, .inr ⟨X.heap.size, 0, #[], rfl, Nat.le_refl _, ?_, Nat.le_refl _, by unfold maxLen; omega, rfl, rfl⟩⟩
      rw [hRw]; exact World.alloc_heap_new X _
    have hXs : X.heap.size = w2.heap.size + 1 := by rw [hX, World.size_alloc]
    have HXF : Hid (X.heap[w2.heap.size]? = some (.cells #[.int .i64 0, .int .i64 0] 29 (0, 0)) ∧ X.heap.size = w2.heap.size + 1) := ⟨by rw [hX]; exact World.alloc_heap_new w2 _, hXs⟩
    have HRR : Hid (Below X.heap.size X R ∧ R.ownsRow X.heap.size 3 1 (.slice (some ⟨X.heap.size, 0, none⟩) 0 0) 0 []) := ⟨bR, oR⟩
    clear hcell bX hgb hb2 ho hL hres hN hcount hsl hne hLn HB1 bR oR
    obtain ⟨XS, hXS⟩ : ∃ n, n = X.heap.size := ⟨_, rfl⟩
    gi_wp2
    rw [hX] at hRw hXS
    rw [← hRw]
    gi_loopw [7, 8, 9] (fun ov p i wr => ∃ q : Nat, q ≤ N ∧ ov = .string (Ln.bs (Lx.sp ((zipped bl L).take q))) ∧ i = .int .i64 q ∧ wr.ownsRow X.heap.size 3 1 p q ((Lx.pl 0 ((zipped bl L).take q)).map fun t => .int .i64 t.at_) ∧ Below X.heap.size X wr) (fun _ _ i _ => N - (intOf i).toNat)
    case atStart =>
      have h8 := HRR.out.2
      rw [HXF.out.2] at h8
      refine ⟨0, Nat.zero_le _, rfl, rfl, ?_, HRR.out.1⟩
      rw [HXF.out.2]
      exact h8
    case round =>
      clear hX hRw hXS hXs
      obtain ⟨q, hq, rfl, rfl, hown, hbw⟩ := hrel
      have HOW : Hid (_) := hown
      have HBW : Hid (_) := hbw
      obtain ⟨pa, pc, hpv⟩ := slice_shape hown
      subst hpv
      clear hown hbw
      by_cases hlt : q < N
      · obtain ⟨t, ht⟩ : ∃ t, L[q]? = some t := ⟨L[q]'(by have := HN.out; omega), List.getElem?_eq_getElem _⟩
        have i1 : decide ((q : Int) < N) = true := decide_eq_true (by omega)
        have hz : (zipped bl L)[q]? = some (sepOf bl q, t) := by rw [zipped_get, ht]; rfl
        obtain ⟨O, hO⟩ : ∃ O, O = Lx.sp ((zipped bl L).take q) := ⟨_, rfl⟩
        obtain ⟨O1, hO1⟩ : ∃ O1, O1 = O ++ sepOf bl q := ⟨_, rfl⟩
        obtain ⟨n1, hn1⟩ : ∃ n, n = O1.length := ⟨_, rfl⟩
        have bsz : ∀ l : List UInt8, (Ln.bs l).size = l.length := fun l => by
          show l.toArray.size = l.length
          simp
        have hsz : (Ln.bs O1).size = n1 := by rw [hn1]; exact bsz O1
        have hOb : O.length ≤ 2006 * 2001 := by
          have h8 := sp_len ((zipped bl L).take q) (fun z hz => by
            obtain ⟨i, hi, he⟩ := List.mem_iff_getElem.1 (List.mem_of_mem_take hz)
            have h9 := zipped_get bl L i
            rw [List.getElem?_eq_getElem hi, he] at h9
            cases hLi : L[i]? with
            | none => rw [hLi] at h9; cases h9
            | some t' =>
              rw [hLi] at h9
              have h10 := Option.some.inj h9
              rw [h10]
              exact ⟨sepOf_len bl i, (HTL.out t' (List.mem_of_getElem? hLi)).1⟩)
          rw [← hO, List.length_take] at h8
          have : 2006 * min q (zipped bl L).length ≤ 2006 * 2001 := Nat.mul_le_mul_left _ (by omega)
          omega
        obtain ⟨nO, hnO⟩ : ∃ n, n = O.length := ⟨_, rfl⟩
        have hszO : (Ln.bs O).size = nO := by rw [hnO]; exact bsz O
        obtain ⟨nt, hnt⟩ : ∃ n, n = t.text.length := ⟨_, rfl⟩
        have hszt : (Ln.bs t.text).size = nt := by rw [hnt]; exact bsz t.text
        have hntb : nt ≤ 2000 := by rw [hnt]; exact (HTL.out t (List.mem_of_getElem? ht)).1
        have hn1b : n1 ≤ nO + 6 := by
          have := sepOf_len bl q
          rw [hn1, hO1, List.length_append]; omega
        have hnOb : nO ≤ 4014006 := by omega
        have q1 : nO + 6 ≤ 9223372036854775807 := by omega
        have q2 : n1 + nt ≤ 9223372036854775807 := by omega
        clear bsz hOb
        have lg : g < wr.heap.size := Nat.lt_of_lt_of_le HG.out HBW.out.size
        rw [← hO]
        by_cases hqb : q < BN
        · obtain ⟨x, hx⟩ : ∃ x, bl[q]? = some x := ⟨bl[q]'(by have := HBN.out; omega), List.getElem?_eq_getElem _⟩
          have hxb := tmod_bounds x
          obtain ⟨e1, hlw⟩ := hba (by omega)
          have bww : Below w.heap.size w wr := below_then HB.out HBW.out
          have hbc : wr.cell? ⟨bb, bo + q, none⟩ = some (.int .i64 x) := (World.cell?_of_block (w := w) (a := ⟨bb, bo + q, none⟩) (bww.block bb hlw)).trans (HBX.out q x hx)
          have hlb : bb < wr.heap.size := Nat.lt_of_lt_of_le hlw bww.size
          clear bww hlw
          subst e1
          obtain ⟨r, hr4, hr⟩ : ∃ r : Nat, r ≤ 4 ∧ (max (x.tmod 5) 0).toNat = r := ⟨_, by omega, rfl⟩
          have hm : max (x.tmod 5) 0 = (r : Int) := by omega
          have hw5 : IntKind.i64.wrap (x.tmod 5) = x.tmod 5 := by rw [IntKind.wrap_i64]; omega
          obtain rfl | rfl | rfl | rfl | rfl : r = 0 ∨ r = 1 ∨ r = 2 ∨ r = 3 ∨ r = 4 := by omega
          · have hsep : sepOf bl q = [32] := by
              unfold sepOf
              rw [hx]
              show Lx.seps.getD (max (x.tmod 5) 0).toNat [32] = [32]
              rw [hr]; rfl
            have i2 : decide ((q : Int) < BN) = true := decide_eq_true (by omega)
            obtain ⟨W1, hW1⟩ : ∃ W, W = wr.alloc (.cells #[.string ⟨#[32]⟩, .string ⟨#[10]⟩, .string ⟨#[9, 32]⟩, .string ⟨#[32, 47, 47, 32, 99, 10]⟩, .string ⟨#[13, 10, 13, 10]⟩] 9) := ⟨_, rfl⟩
            obtain ⟨W2, hW2⟩ : ∃ W, W = W1.alloc (.cells #[.int .i64 n1] 3) := ⟨_, rfl⟩
            have sW1 : W1.heap.size = wr.heap.size + 1 := by rw [hW1, World.size_alloc]
            have b01 : Below wr.heap.size wr W1 := by rw [hW1]; exact below_nw wr _
            have b12 : Below wr.heap.size wr W2 := below_then b01 (by rw [hW2]; exact below_nw W1 _)
            have cg : W2.cell? ⟨wr.heap.size + 1, 0, none⟩ = some (.int .i64 n1) := by
              have : W2.heap[wr.heap.size + 1]? = some (.cells #[.int .i64 n1] 3 (0, 0)) := by rw [hW2, ← sW1]; exact World.alloc_heap_new W1 _
              rw [Lib.cell_of_heap this]; rfl
            have oW2 := owns_below HOW.out b12
            obtain ⟨v', W3, hrun, hown3, hgr3⟩ := place_append oW2 cg (by have := HBW.out.size; have := b12.size; omega) (by omega)
            have bW3 : Below X.heap.size X W3 := Below.grown (below_then HBW.out b12) hgr3 (below_then HBW.out b12).size (fun k hk => (World.ownsRow.lt oW2 k hk).1)
            have ct := (HC.out W3 bW3 q t ht).1
            have cat1 : Ln.bs O ++ (⟨#[32]⟩ : ByteArray) = Ln.bs O1 := by rw [hO1, hsep]; exact bs_cat O [32]
            have cat2 : Ln.bs O1 ++ Ln.bs t.text = Ln.bs (O1 ++ t.text) := bs_cat O1 t.text
            obtain ⟨va, vk, hv'⟩ := slice_shape hown3
            subst hv'
            have HEND : Hid (W3.ownsRow X.heap.size 3 1 (.slice va (q + 1) vk) (q + 1) ((Lx.pl 0 ((zipped bl L).take (q + 1))).map fun t => .int .i64 t.at_) ∧ Below X.heap.size X W3 ∧ Lx.sp ((zipped bl L).take (q + 1)) = O1 ++ t.text) := by
              refine ⟨?_, bW3, ?_⟩
              · rw [pl_take_succ _ q _ hz, List.map_append]
                have e8 : (n1 : Int) = (((Lx.sp ((zipped bl L).take q)).length + (sepOf bl q).length : Nat) : Int) := by rw [hn1, hO1, hO, List.length_append]
                rw [e8] at hown3
                exact hown3
              · rw [sp_take_succ _ q _ hz, hO1, hO]
            rw [hW2, hW1] at hrun
            clear hsep oW2 cg b12 bW3 hown3 hgr3 hW2 hz hO hO1 hn1 ht hnO hnt b01 hW1 sW1 hx
            gi_wp2_with (gi_at_builtin; refine list_append rfl _ _ 35 rfl _ _ _ _ rfl rfl hrun ?_)
            go_roundw
            case rel => exact ⟨q + 1, by omega, by rw [HEND.out.2.2], by go_num, HEND.out.1, HEND.out.2.1⟩
            case measure => simp [intOf]; omega
          · have hsep : sepOf bl q = [10] := by
              unfold sepOf
              rw [hx]
              show Lx.seps.getD (max (x.tmod 5) 0).toNat [32] = [10]
              rw [hr]; rfl
            have i2 : decide ((q : Int) < BN) = true := decide_eq_true (by omega)
            obtain ⟨W1, hW1⟩ : ∃ W, W = wr.alloc (.cells #[.string ⟨#[32]⟩, .string ⟨#[10]⟩, .string ⟨#[9, 32]⟩, .string ⟨#[32, 47, 47, 32, 99, 10]⟩, .string ⟨#[13, 10, 13, 10]⟩] 9) := ⟨_, rfl⟩
            obtain ⟨W2, hW2⟩ : ∃ W, W = W1.alloc (.cells #[.int .i64 n1] 3) := ⟨_, rfl⟩
            have sW1 : W1.heap.size = wr.heap.size + 1 := by rw [hW1, World.size_alloc]
            have b01 : Below wr.heap.size wr W1 := by rw [hW1]; exact below_nw wr _
            have b12 : Below wr.heap.size wr W2 := below_then b01 (by rw [hW2]; exact below_nw W1 _)
            have cg : W2.cell? ⟨wr.heap.size + 1, 0, none⟩ = some (.int .i64 n1) := by
              have : W2.heap[wr.heap.size + 1]? = some (.cells #[.int .i64 n1] 3 (0, 0)) := by rw [hW2, ← sW1]; exact World.alloc_heap_new W1 _
              rw [Lib.cell_of_heap this]; rfl
            have oW2 := owns_below HOW.out b12
            obtain ⟨v', W3, hrun, hown3, hgr3⟩ := place_append oW2 cg (by have := HBW.out.size; have := b12.size; omega) (by omega)
            have bW3 : Below X.heap.size X W3 := Below.grown (below_then HBW.out b12) hgr3 (below_then HBW.out b12).size (fun k hk => (World.ownsRow.lt oW2 k hk).1)
            have ct := (HC.out W3 bW3 q t ht).1
            have cat1 : Ln.bs O ++ (⟨#[10]⟩ : ByteArray) = Ln.bs O1 := by rw [hO1, hsep]; exact bs_cat O [10]
            have cat2 : Ln.bs O1 ++ Ln.bs t.text = Ln.bs (O1 ++ t.text) := bs_cat O1 t.text
            obtain ⟨va, vk, hv'⟩ := slice_shape hown3
            subst hv'
            have HEND : Hid (W3.ownsRow X.heap.size 3 1 (.slice va (q + 1) vk) (q + 1) ((Lx.pl 0 ((zipped bl L).take (q + 1))).map fun t => .int .i64 t.at_) ∧ Below X.heap.size X W3 ∧ Lx.sp ((zipped bl L).take (q + 1)) = O1 ++ t.text) := by
              refine ⟨?_, bW3, ?_⟩
              · rw [pl_take_succ _ q _ hz, List.map_append]
                have e8 : (n1 : Int) = (((Lx.sp ((zipped bl L).take q)).length + (sepOf bl q).length : Nat) : Int) := by rw [hn1, hO1, hO, List.length_append]
                rw [e8] at hown3
                exact hown3
              · rw [sp_take_succ _ q _ hz, hO1, hO]
            rw [hW2, hW1] at hrun
            clear hsep oW2 cg b12 bW3 hown3 hgr3 hW2 hz hO hO1 hn1 ht hnO hnt b01 hW1 sW1 hx
            gi_wp2_with (gi_at_builtin; refine list_append rfl _ _ 35 rfl _ _ _ _ rfl rfl hrun ?_)
            go_roundw
            case rel => exact ⟨q + 1, by omega, by rw [HEND.out.2.2], by go_num, HEND.out.1, HEND.out.2.1⟩
            case measure => simp [intOf]; omega
          · have hsep : sepOf bl q = [9, 32] := by
              unfold sepOf
              rw [hx]
              show Lx.seps.getD (max (x.tmod 5) 0).toNat [32] = [9, 32]
              rw [hr]; rfl
            have i2 : decide ((q : Int) < BN) = true := decide_eq_true (by omega)
            obtain ⟨W1, hW1⟩ : ∃ W, W = wr.alloc (.cells #[.string ⟨#[32]⟩, .string ⟨#[10]⟩, .string ⟨#[9, 32]⟩, .string ⟨#[32, 47, 47, 32, 99, 10]⟩, .string ⟨#[13, 10, 13, 10]⟩] 9) := ⟨_, rfl⟩
            obtain ⟨W2, hW2⟩ : ∃ W, W = W1.alloc (.cells #[.int .i64 n1] 3) := ⟨_, rfl⟩
            have sW1 : W1.heap.size = wr.heap.size + 1 := by rw [hW1, World.size_alloc]
            have b01 : Below wr.heap.size wr W1 := by rw [hW1]; exact below_nw wr _
            have b12 : Below wr.heap.size wr W2 := below_then b01 (by rw [hW2]; exact below_nw W1 _)
            have cg : W2.cell? ⟨wr.heap.size + 1, 0, none⟩ = some (.int .i64 n1) := by
              have : W2.heap[wr.heap.size + 1]? = some (.cells #[.int .i64 n1] 3 (0, 0)) := by rw [hW2, ← sW1]; exact World.alloc_heap_new W1 _
              rw [Lib.cell_of_heap this]; rfl
            have oW2 := owns_below HOW.out b12
            obtain ⟨v', W3, hrun, hown3, hgr3⟩ := place_append oW2 cg (by have := HBW.out.size; have := b12.size; omega) (by omega)
            have bW3 : Below X.heap.size X W3 := Below.grown (below_then HBW.out b12) hgr3 (below_then HBW.out b12).size (fun k hk => (World.ownsRow.lt oW2 k hk).1)
            have ct := (HC.out W3 bW3 q t ht).1
            have cat1 : Ln.bs O ++ (⟨#[9, 32]⟩ : ByteArray) = Ln.bs O1 := by rw [hO1, hsep]; exact bs_cat O [9, 32]
            have cat2 : Ln.bs O1 ++ Ln.bs t.text = Ln.bs (O1 ++ t.text) := bs_cat O1 t.text
            obtain ⟨va, vk, hv'⟩ := slice_shape hown3
            subst hv'
            have HEND : Hid (W3.ownsRow X.heap.size 3 1 (.slice va (q + 1) vk) (q + 1) ((Lx.pl 0 ((zipped bl L).take (q + 1))).map fun t => .int .i64 t.at_) ∧ Below X.heap.size X W3 ∧ Lx.sp ((zipped bl L).take (q + 1)) = O1 ++ t.text) := by
              refine ⟨?_, bW3, ?_⟩
              · rw [pl_take_succ _ q _ hz, List.map_append]
                have e8 : (n1 : Int) = (((Lx.sp ((zipped bl L).take q)).length + (sepOf bl q).length : Nat) : Int) := by rw [hn1, hO1, hO, List.length_append]
                rw [e8] at hown3
                exact hown3
              · rw [sp_take_succ _ q _ hz, hO1, hO]
            rw [hW2, hW1] at hrun
            clear hsep oW2 cg b12 bW3 hown3 hgr3 hW2 hz hO hO1 hn1 ht hnO hnt b01 hW1 sW1 hx
            gi_wp2_with (gi_at_builtin; refine list_append rfl _ _ 35 rfl _ _ _ _ rfl rfl hrun ?_)
            go_roundw
            case rel => exact ⟨q + 1, by omega, by rw [HEND.out.2.2], by go_num, HEND.out.1, HEND.out.2.1⟩
            case measure => simp [intOf]; omega
          · have hsep : sepOf bl q = [32, 47, 47, 32, 99, 10] := by
              unfold sepOf
              rw [hx]
              show Lx.seps.getD (max (x.tmod 5) 0).toNat [32] = [32, 47, 47, 32, 99, 10]
              rw [hr]; rfl
            have i2 : decide ((q : Int) < BN) = true := decide_eq_true (by omega)
            obtain ⟨W1, hW1⟩ : ∃ W, W = wr.alloc (.cells #[.string ⟨#[32]⟩, .string ⟨#[10]⟩, .string ⟨#[9, 32]⟩, .string ⟨#[32, 47, 47, 32, 99, 10]⟩, .string ⟨#[13, 10, 13, 10]⟩] 9) := ⟨_, rfl⟩
            obtain ⟨W2, hW2⟩ : ∃ W, W = W1.alloc (.cells #[.int .i64 n1] 3) := ⟨_, rfl⟩
            have sW1 : W1.heap.size = wr.heap.size + 1 := by rw [hW1, World.size_alloc]
            have b01 : Below wr.heap.size wr W1 := by rw [hW1]; exact below_nw wr _
            have b12 : Below wr.heap.size wr W2 := below_then b01 (by rw [hW2]; exact below_nw W1 _)
            have cg : W2.cell? ⟨wr.heap.size + 1, 0, none⟩ = some (.int .i64 n1) := by
              have : W2.heap[wr.heap.size + 1]? = some (.cells #[.int .i64 n1] 3 (0, 0)) := by rw [hW2, ← sW1]; exact World.alloc_heap_new W1 _
              rw [Lib.cell_of_heap this]; rfl
            have oW2 := owns_below HOW.out b12
            obtain ⟨v', W3, hrun, hown3, hgr3⟩ := place_append oW2 cg (by have := HBW.out.size; have := b12.size; omega) (by omega)
            have bW3 : Below X.heap.size X W3 := Below.grown (below_then HBW.out b12) hgr3 (below_then HBW.out b12).size (fun k hk => (World.ownsRow.lt oW2 k hk).1)
            have ct := (HC.out W3 bW3 q t ht).1
            have cat1 : Ln.bs O ++ (⟨#[32, 47, 47, 32, 99, 10]⟩ : ByteArray) = Ln.bs O1 := by rw [hO1, hsep]; exact bs_cat O [32, 47, 47, 32, 99, 10]
            have cat2 : Ln.bs O1 ++ Ln.bs t.text = Ln.bs (O1 ++ t.text) := bs_cat O1 t.text
            obtain ⟨va, vk, hv'⟩ := slice_shape hown3
            subst hv'
            have HEND : Hid (W3.ownsRow X.heap.size 3 1 (.slice va (q + 1) vk) (q + 1) ((Lx.pl 0 ((zipped bl L).take (q + 1))).map fun t => .int .i64 t.at_) ∧ Below X.heap.size X W3 ∧ Lx.sp ((zipped bl L).take (q + 1)) = O1 ++ t.text) := by
              refine ⟨?_, bW3, ?_⟩
              · rw [pl_take_succ _ q _ hz, List.map_append]
                have e8 : (n1 : Int) = (((Lx.sp ((zipped bl L).take q)).length + (sepOf bl q).length : Nat) : Int) := by rw [hn1, hO1, hO, List.length_append]
                rw [e8] at hown3
                exact hown3
              · rw [sp_take_succ _ q _ hz, hO1, hO]
            rw [hW2, hW1] at hrun
            clear hsep oW2 cg b12 bW3 hown3 hgr3 hW2 hz hO hO1 hn1 ht hnO hnt b01 hW1 sW1 hx
            gi_wp2_with (gi_at_builtin; refine list_append rfl _ _ 35 rfl _ _ _ _ rfl rfl hrun ?_)
            go_roundw
            case rel => exact ⟨q + 1, by omega, by rw [HEND.out.2.2], by go_num, HEND.out.1, HEND.out.2.1⟩
            case measure => simp [intOf]; omega
          · have hsep : sepOf bl q = [13, 10, 13, 10] := by
              unfold sepOf
              rw [hx]
              show Lx.seps.getD (max (x.tmod 5) 0).toNat [32] = [13, 10, 13, 10]
              rw [hr]; rfl
            have i2 : decide ((q : Int) < BN) = true := decide_eq_true (by omega)
            obtain ⟨W1, hW1⟩ : ∃ W, W = wr.alloc (.cells #[.string ⟨#[32]⟩, .string ⟨#[10]⟩, .string ⟨#[9, 32]⟩, .string ⟨#[32, 47, 47, 32, 99, 10]⟩, .string ⟨#[13, 10, 13, 10]⟩] 9) := ⟨_, rfl⟩
            obtain ⟨W2, hW2⟩ : ∃ W, W = W1.alloc (.cells #[.int .i64 n1] 3) := ⟨_, rfl⟩
            have sW1 : W1.heap.size = wr.heap.size + 1 := by rw [hW1, World.size_alloc]
            have b01 : Below wr.heap.size wr W1 := by rw [hW1]; exact below_nw wr _
            have b12 : Below wr.heap.size wr W2 := below_then b01 (by rw [hW2]; exact below_nw W1 _)
            have cg : W2.cell? ⟨wr.heap.size + 1, 0, none⟩ = some (.int .i64 n1) := by
              have : W2.heap[wr.heap.size + 1]? = some (.cells #[.int .i64 n1] 3 (0, 0)) := by rw [hW2, ← sW1]; exact World.alloc_heap_new W1 _
              rw [Lib.cell_of_heap this]; rfl
            have oW2 := owns_below HOW.out b12
            obtain ⟨v', W3, hrun, hown3, hgr3⟩ := place_append oW2 cg (by have := HBW.out.size; have := b12.size; omega) (by omega)
            have bW3 : Below X.heap.size X W3 := Below.grown (below_then HBW.out b12) hgr3 (below_then HBW.out b12).size (fun k hk => (World.ownsRow.lt oW2 k hk).1)
            have ct := (HC.out W3 bW3 q t ht).1
            have cat1 : Ln.bs O ++ (⟨#[13, 10, 13, 10]⟩ : ByteArray) = Ln.bs O1 := by rw [hO1, hsep]; exact bs_cat O [13, 10, 13, 10]
            have cat2 : Ln.bs O1 ++ Ln.bs t.text = Ln.bs (O1 ++ t.text) := bs_cat O1 t.text
            obtain ⟨va, vk, hv'⟩ := slice_shape hown3
            subst hv'
            have HEND : Hid (W3.ownsRow X.heap.size 3 1 (.slice va (q + 1) vk) (q + 1) ((Lx.pl 0 ((zipped bl L).take (q + 1))).map fun t => .int .i64 t.at_) ∧ Below X.heap.size X W3 ∧ Lx.sp ((zipped bl L).take (q + 1)) = O1 ++ t.text) := by
              refine ⟨?_, bW3, ?_⟩
              · rw [pl_take_succ _ q _ hz, List.map_append]
                have e8 : (n1 : Int) = (((Lx.sp ((zipped bl L).take q)).length + (sepOf bl q).length : Nat) : Int) := by rw [hn1, hO1, hO, List.length_append]
                rw [e8] at hown3
                exact hown3
              · rw [sp_take_succ _ q _ hz, hO1, hO]
            rw [hW2, hW1] at hrun
            clear hsep oW2 cg b12 bW3 hown3 hgr3 hW2 hz hO hO1 hn1 ht hnO hnt b01 hW1 sW1 hx
            gi_wp2_with (gi_at_builtin; refine list_append rfl _ _ 35 rfl _ _ _ _ rfl rfl hrun ?_)
            go_roundw
            case rel => exact ⟨q + 1, by omega, by rw [HEND.out.2.2], by go_num, HEND.out.1, HEND.out.2.1⟩
            case measure => simp [intOf]; omega
        · have hsep : sepOf bl q = [32] := by
            unfold sepOf
            rw [List.getElem?_eq_none (by have := HBN.out; omega)]
          have i2 : decide ((q : Int) < BN) = false := decide_eq_false (by omega)
          obtain ⟨W2, hW2⟩ : ∃ W, W = wr.alloc (.cells #[.int .i64 n1] 3) := ⟨_, rfl⟩
          have b12 : Below wr.heap.size wr W2 := by rw [hW2]; exact below_nw wr _
          have cg : W2.cell? ⟨wr.heap.size, 0, none⟩ = some (.int .i64 n1) := by
            have : W2.heap[wr.heap.size]? = some (.cells #[.int .i64 n1] 3 (0, 0)) := by rw [hW2]; exact World.alloc_heap_new wr _
            rw [Lib.cell_of_heap this]; rfl
          have oW2 := owns_below HOW.out b12
          obtain ⟨v', W3, hrun, hown3, hgr3⟩ := place_append oW2 cg (by have := HBW.out.size; have := b12.size; omega) (by omega)
          have bW3 : Below X.heap.size X W3 := Below.grown (below_then HBW.out b12) hgr3 (below_then HBW.out b12).size (fun k hk => (World.ownsRow.lt oW2 k hk).1)
          have ct := (HC.out W3 bW3 q t ht).1
          have cat1 : Ln.bs O ++ (⟨#[32]⟩ : ByteArray) = Ln.bs O1 := by rw [hO1, hsep]; exact bs_cat O [32]
          have cat2 : Ln.bs O1 ++ Ln.bs t.text = Ln.bs (O1 ++ t.text) := bs_cat O1 t.text
          obtain ⟨va, vk, hv'⟩ := slice_shape hown3
          subst hv'
          have HEND : Hid (W3.ownsRow X.heap.size 3 1 (.slice va (q + 1) vk) (q + 1) ((Lx.pl 0 ((zipped bl L).take (q + 1))).map fun t => .int .i64 t.at_) ∧ Below X.heap.size X W3 ∧ Lx.sp ((zipped bl L).take (q + 1)) = O1 ++ t.text) := by
            refine ⟨?_, bW3, ?_⟩
            · rw [pl_take_succ _ q _ hz, List.map_append]
              have e8 : (n1 : Int) = (((Lx.sp ((zipped bl L).take q)).length + (sepOf bl q).length : Nat) : Int) := by rw [hn1, hO1, hO, List.length_append]
              rw [e8] at hown3
              exact hown3
            · rw [sp_take_succ _ q _ hz, hO1, hO]
          rw [hW2] at hrun
          clear hsep oW2 cg b12 bW3 hown3 hgr3 hW2 hz hO hO1 hn1 ht hnO hnt
          gi_wp2_with (gi_at_builtin; refine list_append rfl _ _ 35 rfl _ _ _ _ rfl rfl hrun ?_)
          go_roundw
          case rel => exact ⟨q + 1, by omega, by rw [HEND.out.2.2], by go_num, HEND.out.1, HEND.out.2.1⟩
          case measure => simp [intOf]; omega
      · have hqN : q = N := by omega
        subst hqN
        have i1 : decide ((q : Int) < q) = false := decide_eq_false (by omega)
        have hall : (zipped bl L).take q = zipped bl L := List.take_of_length_le (by rw [zipped_len]; have := HN.out; omega)
        obtain ⟨ob, hob⟩ : ∃ b, b = Ln.bs (Lx.sp ((zipped bl L).take q)) := ⟨_, rfl⟩
        have HPA : Hid (∀ W, Below wr.heap.size wr W → ∀ (k : Nat) (u : Lx.Tok), (Lx.pl 0 (zipped bl L))[k]? = some u → ∃ pb, pa = some ⟨pb, 0, none⟩ ∧ pb < W.heap.size ∧ W.cell? ⟨pb, k, none⟩ = some (.int .i64 u.at_)) := fun W hW k u hu => by
          have ow := owns_below HOW.out hW
          rcases ow.2 with ⟨h8, h9⟩ | ⟨pb, pcap, cur, h8, h9, h10, -⟩
          · have := (List.getElem?_eq_some_iff.1 hu).1
            rw [Lx.pl_len, zipped_len, ← HN.out] at this
            omega
          · refine ⟨pb, by cases h8; rfl, (Array.getElem?_eq_some_iff.1 h10).1, ?_⟩
            cases h8
            have hk : k < q := by
              have := (List.getElem?_eq_some_iff.1 hu).1
              rw [Lx.pl_len, zipped_len, ← HN.out] at this
              exact this
            have h11 := ow.cellAt k (by omega)
            rw [h11, hall, List.getElem?_map, hu]
            rfl
        have HBT : Hid ((∀ ts, FileOk s.data.toList ts → FileOk ob.data.toList ts) ∧ ∀ E i, FileBad s.data.toList E i → ∃ j, FileBad ob.data.toList E j ∧ (E = 102 → Beside L (Lx.pl 0 (zipped bl L)) i j)) := blanks_told HR.out bl L HL.out (by rw [hob, hall])
        have hosz : ob.size ≤ 14006 := by
          have h8 := blanks_size HR.out bl L HL.out
          have h9 : (Ln.bs (Lx.sp (zipped bl L))).size = (Lx.sp (zipped bl L)).length := by
            show (Lx.sp (zipped bl L)).toArray.size = _
            simp
          have h10 : s.data.toList.length = s.size := rfl
          rw [hob, hall]
          omega
        have HSM : Hid (∀ ks, FileOk s.data.toList ks → (Tr.mk 1 [] 0 ks).size ≤ 400000) := fun ks hk => by
          have h1 := hk.small
          have h3 : s.data.toList.length = s.size := rfl
          omega
        have HF : Hid (_) := pfileAll_any s wr ((HSG.out.keep (below_then HB.out HBW.out)).mono (below_then HB.out HBW.out).size) (by omega)
        rw [← hob]
        clear hob hall
        gi_wp2_with fail
        refine ⟨trivial, ?_⟩
        refine (callsIn_wide.2 HF.out).mono ?_
        rintro e w3 ⟨b3, g3⟩
        clear HF
        obtain ⟨k, tx, n, a, L1, cc, E, i, rfl, t3⟩ := g3.gen
        obtain ⟨y1, y2, y3, y4⟩ := two_boxes w3 #[.int .u8 k, .string tx, .int .i64 n, .slice a L1 cc] #[.int .i64 E, .int .i64 i]
        obtain ⟨Y, hY⟩ : ∃ Y, Y = (w3.alloc (.cells #[.int .u8 k, .string tx, .int .i64 n, .slice a L1 cc] 26)).alloc (.cells #[.int .i64 E, .int .i64 i] 29) := ⟨_, rfl⟩
        rw [← hY] at y1 y2 y3 y4
        have HY : Hid (Below w3.heap.size w3 Y ∧ Below wr.heap.size wr Y ∧ Y.heap[w3.heap.size]? = some (.cells #[.int .u8 k, .string tx, .int .i64 n, .slice a L1 cc] 26 (0, 0)) ∧ Y.heap[w3.heap.size + 1]? = some (.cells #[.int .i64 E, .int .i64 i] 29 (0, 0))) := ⟨y1, below_then b3 y1, y3, y4⟩
        have HT3 : Hid (GTold s wr w3 (.agg #[.int .u8 k, .string tx, .int .i64 n, .slice a L1 cc]) E i) := t3
        have HF : Hid (_) := pfileAll_any ob Y ((HSG.out.keep (below_then (below_then HB.out HBW.out) HY.out.2.1)).mono (below_then (below_then HB.out HBW.out) HY.out.2.1).size) (by omega)
        clear y1 y2 y3 y4 t3 g3 b3
        gi_wp2_with fail
        rw [← hY]
        clear hY
        refine ⟨trivial, ?_⟩
        refine (callsIn_wide.2 HF.out).mono ?_
        rintro e w4 ⟨b4, g4⟩
        clear HF
        obtain ⟨k', tx', n', a', L2, cc', E', i', rfl, t4⟩ := g4.gen
        obtain ⟨y1, y2, y3, y4⟩ := two_boxes w4 #[.int .u8 k', .string tx', .int .i64 n', .slice a' L2 cc'] #[.int .i64 E', .int .i64 i']
        obtain ⟨Z, hZ⟩ : ∃ Z, Z = (w4.alloc (.cells #[.int .u8 k', .string tx', .int .i64 n', .slice a' L2 cc'] 26)).alloc (.cells #[.int .i64 E', .int .i64 i'] 29) := ⟨_, rfl⟩
        rw [← hZ] at y1 y2 y3 y4
        obtain ⟨x1, x2, x3, x4⟩ := HY.out
        have bYZ : Below Y.heap.size Y Z := below_then b4 y1
        have bwZ : Below wr.heap.size wr Z := below_then x2 bYZ
        have u3 := (b4.block _ (Array.getElem?_eq_some_iff.1 x3).1).trans x3
        have u4 := (b4.block _ (Array.getElem?_eq_some_iff.1 x4).1).trans x4
        have lt1 : w3.heap.size < w4.heap.size := (Array.getElem?_eq_some_iff.1 u3).1
        have lt2 : w3.heap.size + 1 < w4.heap.size := (Array.getElem?_eq_some_iff.1 u4).1
        have v4 := (y1.block _ lt2).trans u4
        have HZ : Hid (Below wr.heap.size wr Z ∧ Z.heap[w3.heap.size + 1]? = some (.cells #[.int .i64 E, .int .i64 i] 29 (0, 0)) ∧ Z.heap[w4.heap.size + 1]? = some (.cells #[.int .i64 E', .int .i64 i'] 29 (0, 0))) := ⟨bwZ, v4, y4⟩
        have f0 : w4.cell? ⟨w3.heap.size + 1, 0, none⟩ = some (.int .i64 E) := cells_at u4 rfl
        have m0 : w4.cell? ⟨w3.heap.size, 0, none⟩ = some (.int .u8 k) := cells_at u3 rfl
        have m1 : w4.cell? ⟨w3.heap.size, 1, none⟩ = some (.string tx) := cells_at u3 rfl
        have m2 : w4.cell? ⟨w3.heap.size, 2, none⟩ = some (.int .i64 n) := cells_at u3 rfl
        have m3 : w4.cell? ⟨w3.heap.size, 3, none⟩ = some (.slice a L1 cc) := cells_at u3 rfl
        obtain ⟨tt, nd1, nd2, hts, hEE, hbs⟩ : ∃ tt, NodeR (lowS Z.heap.size) Z (.agg #[.int .u8 k, .string tx, .int .i64 n, .slice a L1 cc]) tt ∧ NodeR (lowS Z.heap.size) Z (.agg #[.int .u8 k', .string tx', .int .i64 n', .slice a' L2 cc']) tt ∧ tt.size ≤ 400000 ∧ E' = E ∧ (E = 102 → Beside L (Lx.pl 0 (zipped bl L)) i i') := by
          rcases HT3.out.node (below_then x1 bYZ) with ⟨rfl, rfl, ks, ok1, nd1⟩ | ⟨hE, bad1, nd1⟩
          · have ok2 := HBT.out.1 ks ok1
            rcases t4.node y1 with ⟨rfl, rfl, ks', ok3, nd2⟩ | ⟨-, bad2, -⟩
            · obtain rfl : ks = ks' := ok2.one ok3
              exact ⟨_, nd1, nd2, HSM.out ks ok1, rfl, fun e => by omega⟩
            · exact (ok2.not bad2).elim
          · obtain ⟨j, bj, hj⟩ := HBT.out.2 E i bad1
            rcases t4.node y1 with ⟨rfl, rfl, ks', ok3, nd2⟩ | ⟨-, bad2, nd2⟩
            · exact (ok3.not bj).elim
            · obtain ⟨rfl, rfl⟩ := bj.one bad2
              exact ⟨_, nd1, nd2, by decide, rfl, hj⟩
        subst hEE
        have HT : Hid (_) := tsame_any tt tt _ _ Z nd1 nd2 hts
        rw [Tr.eqb_refl] at HT
        have HBS : Hid (E' = 102 → Beside L (Lx.pl 0 (zipped bl L)) i i') := hbs
        have hee : ((E' : Int) != (E' : Int)) = false := by simp
        clear y1 y2 y3 y4 x1 x2 x3 x4 bYZ bwZ u3 u4 v4 t4 g4 b4 nd1 nd2 hts hbs HT3 HY HBT HSM hosz
        gi_wp2_with fail
        rw [← hZ]
        clear hZ f0 m0 m1 m2 m3 lt1 lt2
        refine ⟨trivial, ?_⟩
        refine (callsIn_wide.2 HT.out).mono ?_
        rintro e w5 ⟨rfl, b5⟩
        clear HT
        obtain ⟨z1, z2, z3⟩ := HZ.out
        have o2 := (b5.block _ (Array.getElem?_eq_some_iff.1 z2).1).trans z2
        have o3 := (b5.block _ (Array.getElem?_eq_some_iff.1 z3).1).trans z3
        have bw5 : Below wr.heap.size wr w5 := below_then z1 b5
        have f0 : w5.cell? ⟨w3.heap.size + 1, 0, none⟩ = some (.int .i64 E') := cells_at o2 rfl
        have f1 : w5.cell? ⟨w3.heap.size + 1, 1, none⟩ = some (.int .i64 i) := cells_at o2 rfl
        have f2 : w5.cell? ⟨w4.heap.size + 1, 1, none⟩ = some (.int .i64 i') := cells_at o3 rfl
        have HE : Hid (Below w.heap.size w w5) := below_then (below_then HB.out HBW.out) bw5
        have HW5 : Hid (Below wr.heap.size wr w5) := bw5
        clear b5 HZ z1 z2 z3 o2 o3 bw5
        by_cases h102 : E' = 102
        · have hz : ((E' : Int) != 102) = false := by rw [h102]; rfl
          have HBE : Hid (Beside L (Lx.pl 0 (zipped bl L)) i i') := HBS.out h102
          clear h102 HBS
          gi_wp2_with fail
          gi_loopw [15] (fun I wq => ∃ p d : Nat, p ≤ q ∧ I = .int .i64 p ∧ wq = w5.drewN d ∧ ∀ (j : Nat) (t : Lx.Tok), j < p → L[j]? = some t → t.at_ ≠ i) (fun I _ => q - (intOf I).toNat)
          case atStart => exact ⟨0, 0, Nat.zero_le _, rfl, rfl, fun j t h => by omega⟩
          case round =>
            obtain ⟨p, d, hp, rfl, rfl, hno⟩ := hrel
            by_cases hlt : p < q
            · obtain ⟨t, ht⟩ : ∃ t, L[p]? = some t := ⟨L[p]'(by have := HN.out; omega), List.getElem?_eq_getElem _⟩
              obtain ⟨u, hu⟩ : ∃ u, (Lx.pl 0 (zipped bl L))[p]? = some u := ⟨(Lx.pl 0 (zipped bl L))[p]'(by rw [Lx.pl_len, zipped_len]; have := HN.out; omega), List.getElem?_eq_getElem _⟩
              have i1 : decide ((p : Int) < q) = true := decide_eq_true (by omega)
              have ct := (HC.out w5 (below_then HBW.out HW5.out) p t ht).2
              have lg : g < w5.heap.size := Nat.lt_of_lt_of_le HG.out (below_then HBW.out HW5.out).size
              obtain ⟨pb, hpa, hpl, cu⟩ := HPA.out w5 HW5.out p u hu
              subst hpa
              have HNO : Hid (∀ (j : Nat) (t : Lx.Tok), j < p → L[j]? = some t → t.at_ ≠ i) := hno
              have HED : Hid (∀ d, Below w.heap.size w (w5.drewN d)) := fun d => below_drewN HE.out d
              clear hno
              by_cases ha : t.at_ = i
              · have eq1 : ((t.at_ : Int) == (i : Int)) = true := by rw [ha]; simp
                have hua : u.at_ = i' := beside_one HR.out HL.out HBE.out ht hu ha
                have eq2 : ((u.at_ : Int) == (i' : Int)) = true := by rw [hua]; simp
                clear ha hua ht hu
                gi_wp2
                gi_region
                gi_wp2
                gi_region
                gi_wp2
                exact bodyPost_ret (results_tmp rfl _ _ _) rfl ⟨rfl, HED.out (d + 2)⟩
              · have eq1 : ((t.at_ : Int) == (i : Int)) = false := by rw [beq_eq_false_iff_ne]; omega
                have HNX : Hid (∀ (j : Nat) (t : Lx.Tok), j < p + 1 → L[j]? = some t → t.at_ ≠ i) := fun j t' hj hj2 => by
                  by_cases hjp : j = p
                  · subst hjp
                    rw [ht] at hj2
                    cases hj2
                    exact ha
                  · exact HNO.out j t' (by omega) hj2
                clear ha ht hu
                gi_wp2
                gi_region
                gi_wp2
                go_roundw
                case rel => exact ⟨p + 1, d + 1, by omega, by go_num, rfl, HNX.out⟩
                case measure => simp [intOf]; omega
            · exfalso
              obtain ⟨p0, t0, h8, h9⟩ := beside_some HBE.out
              have := (List.getElem?_eq_some_iff.1 h8).1
              exact hno p0 t0 (by have := HN.out; omega) h8 h9
        · have hz : ((E' : Int) != 102) = true := by simpa using (by omega : ¬ (E' : Int) = 102)
          clear h102
          gi_wp2
          exact bodyPost_ret (results_tmp rfl _ _ _) rfl ⟨rfl, HE.out⟩
end Go.Proofs.YtdaaecnmllpgdaaGreatDoor

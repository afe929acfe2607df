/-
  The walks of diff.numbered and of its closure: the same number for the same line, in both rows.
-/
import Derived.Test.YtpcinbfelikgpaaBase
import Derived.Maps.OwnSet
import Derived.Maps.Views
import Derived.OneCell
import Derived.Deep.OwnRows
namespace Go.Proofs.Ytpcinbfelikgpaa
open Go.RowKit Go.WideMaps

set_option maxRecDepth 100000 in
theorem Try.zero3 (w : World) : (zeroValue 3).run Try.prog w = .ok (.int .i64 0) w := by rfl

theorem grown_trans {W A B : World} {m : Nat} {r : Option Nat} (h : W.grownBy A (some m)) (k : A.grownBy B r) (hr : ∀ j, r = some j → j = m ∨ W.heap.size ≤ j) : W.grownBy B (some m) :=
  ⟨k.os.trans h.os, k.tape.trans h.tape, k.output.trans h.output, Nat.le_trans h.size k.size, fun j hj hne =>
    (k.block j (Nat.lt_of_lt_of_le hj h.size) (fun e => by
      rcases hr j e.symm with e1 | e1
      · exact hne (by rw [e1])
      · omega)).trans (h.block j hj hne)⟩
theorem grown_of_none {W A : World} (h : W.grownBy A none) (m : Option Nat) : W.grownBy A m := ⟨h.os, h.tape, h.output, h.size, fun j hj _ => h.block j hj (by simp)⟩
theorem grown_of_below {W A : World} (h : Below W.heap.size W A) (m : Option Nat) : W.grownBy A m := ⟨h.os, h.tape, h.output, h.size, fun j hj _ => h.block j hj⟩
theorem below_of_grown {W A : World} {n m : Nat} (h : W.grownBy A (some m)) (hnm : n ≤ m) (hn : n ≤ W.heap.size) : Below n W A := ⟨h.os, h.tape, h.output, h.size, fun j hj => h.block j (by omega) (fun e => by have := Option.some.inj e; omega)⟩

theorem owns_cell {w : World} {base e g n cap : Nat} {xs : List Value} (h : w.ownsRow base e 1 (.slice (some ⟨g, 0, none⟩) n cap) n xs) (j : Nat) (hj : j < n) : ∃ u, w.cell? ⟨g, j, none⟩ = some u := by
  have h1 := h.1
  have h2 := h.cellAt j (by omega)
  rw [List.getElem?_eq_getElem (by omega)] at h2
  exact ⟨_, h2⟩
theorem wf_nat {N : Nat} (h : N ≤ 1000000000000) : (Lit.int .i64 (N : Int)).wf = true := by
  have h1 : IntKind.i64.min = -9223372036854775808 := by decide
  have h2 : IntKind.i64.max = 9223372036854775807 := by decide
  simp only [Lit.wf, h1, h2, Bool.and_eq_true, decide_eq_true_eq]
  omega

/-- What the map of numbers holds: a number below N for each of its keys, no number twice. -/
structure NumOk (D : DataW Unit) (f : List UInt8 → Nat) (N : Nat) : Prop where
  size : Maps.size D = N
  at_ : ∀ x, Maps.has D (.string x) = true → D.atKey (.string x) (.lit (.int .i64 0)) = .lit (.int .i64 (f x))
  lt : ∀ x, Maps.has D (.string x) = true → f x < N
  inj : ∀ x y, Maps.has D (.string x) = true → Maps.has D (.string y) = true → f x = f y → x = y
/-- The later map holds what the one ahead held. -/
def NumExt (D : DataW Unit) (f : List UInt8 → Nat) (D' : DataW Unit) (f' : List UInt8 → Nat) : Prop :=
  ∀ x, Maps.has D (.string x) = true → Maps.has D' (.string x) = true ∧ f' x = f x

theorem NumExt.refl (D : DataW Unit) (f : List UInt8 → Nat) : NumExt D f D f := fun _ h => ⟨h, rfl⟩
theorem NumExt.trans {D D' D'' : DataW Unit} {f f' f'' : List UInt8 → Nat} (h : NumExt D f D' f') (k : NumExt D' f' D'' f'') : NumExt D f D'' f'' :=
  fun x hx => ⟨(k x (h x hx).1).1, ((k x (h x hx).1).2).trans (h x hx).2⟩

def putF (f : List UInt8 → Nat) (x : List UInt8) (N : Nat) : List UInt8 → Nat := fun y => if y = x then N else f y

theorem str_ne {x y : List UInt8} (h : x ≠ y) : (Lit.string x) ≠ (Lit.string y) := fun e => h (by injection e)

theorem NumOk.put {D : DataW Unit} {f : List UInt8 → Nat} {N : Nat} (h : NumOk D f N) (hm : Maps.IsMap D) (ht : Maps.Tidy D) {x : List UInt8} (hk : WideAt.IsKeyLit (.string x)) (hx : Maps.has D (.string x) = false) :
    NumOk (D.put (.string x) (.lit (.int .i64 N))) (putF f x N) (N + 1) ∧ NumExt D f (D.put (.string x) (.lit (.int .i64 N))) (putF f x N) ∧ Maps.has (D.put (.string x) (.lit (.int .i64 N))) (.string x) = true ∧ putF f x N x = N := by
  have hsame := Maps.has_put_same hm hk (.lit (.int .i64 N))
  have hoth : ∀ y, y ≠ x → Maps.has (D.put (.string x) (.lit (.int .i64 N))) (.string y) = Maps.has D (.string y) := fun y hy => Maps.has_put_other (str_ne hy) _
  have hp : putF f x N x = N := by simp [putF]
  have hpo : ∀ y, y ≠ x → putF f x N y = f y := fun y hy => by simp [putF, hy]
  refine ⟨⟨?_, ?_, ?_, ?_⟩, ?_, hsame, hp⟩
  · rw [Maps.size_put ht, hx, h.size]; rfl
  · intro y hy
    by_cases e : y = x
    · subst e; rw [hp]; exact Maps.atKey_put_same hm hk _ _
    · rw [hpo y e, Maps.atKey_put_other (str_ne e)]; rw [hoth y e] at hy; exact h.at_ y hy
  · intro y hy
    by_cases e : y = x
    · subst e; rw [hp]; omega
    · rw [hpo y e]; rw [hoth y e] at hy; have := h.lt y hy; omega
  · intro y z hy hz e
    by_cases e1 : y = x
    · by_cases e2 : z = x
      · rw [e1, e2]
      · rw [hoth z e2] at hz; have := h.lt z hz; rw [e1, hp, hpo z e2] at e; omega
    · by_cases e2 : z = x
      · rw [hoth y e1] at hy; have := h.lt y hy; rw [e2, hp, hpo y e1] at e; omega
      · rw [hoth y e1] at hy; rw [hoth z e2] at hz; rw [hpo y e1, hpo z e2] at e; exact h.inj y z hy hz e
  · intro y hy
    have e : y ≠ x := fun e => by rw [e, hx] at hy; cases hy
    exact ⟨by rw [hoth y e]; exact hy, hpo y e⟩

/-- The row of numbers when k lines have one. -/
def rowVals (f : List UInt8 → Nat) (L : List (List UInt8)) (k : Nat) : List Value := (L.take k).map (fun x => numV (f x)) ++ List.replicate (L.length - k) (.int .i64 0)

theorem rowVals_set (f : List UInt8 → Nat) (L : List (List UInt8)) (k : Nat) (x : List UInt8) (hx : L[k]? = some x) : (rowVals f L k).set k (numV (f x)) = rowVals f L (k + 1) := by
  obtain ⟨hk, hx⟩ := List.getElem?_eq_some_iff.1 hx
  unfold rowVals
  have hl : ((L.take k).map (fun x => numV (f x))).length = k := by simp; omega
  rw [List.set_append_right _ _ (by omega), hl, Nat.sub_self]
  have e : L.length - k = (L.length - (k + 1)) + 1 := by omega
  rw [e, List.replicate_succ, List.set_cons_zero, List.take_succ_eq_append_getElem hk, hx]
  simp
theorem rowVals_congr {f f' : List UInt8 → Nat} {L : List (List UInt8)} {k : Nat} (h : ∀ x ∈ L.take k, f' x = f x) : rowVals f' L k = rowVals f L k := by
  unfold rowVals
  congr 1
  exact List.map_congr_left (fun x hx => by rw [h x hx])
theorem rowVals_zero (f : List UInt8 → Nat) (L : List (List UInt8)) : rowVals f L 0 = List.replicate L.length (.int .i64 0) := by simp [rowVals]
theorem rowVals_full (f : List UInt8 → Nat) (L : List (List UInt8)) : rowVals f L L.length = L.map (fun x => numV (f x)) := by simp [rowVals]

set_option maxRecDepth 100000 in
set_option maxHeartbeats 4000000 in
theorem number_any (Bm Bx n m : Nat) (D : DataW Unit) (f : List UInt8 → Nat) (N : Nat) (L : List (List UInt8)) (v : Value) (w : World)
    (hrow : RowLow m w v L) (hm : m ≤ Bm) (hL : L.length ≤ 4096) (hs : ∀ x ∈ L, x.length ≤ 1000000) (hn : n + L.length ≤ 100000)
    (hbx : w.heap[Bx]? = some (.cells #[.map (some Bm)] 201 (0, 0))) (hmap : w.ownsMap Try.prog 9 (plainElem Try.prog 3) Bm n D) (hok : NumOk D f N) :
    Calls Try.prog 107 #[v, .pointer (some ⟨Bx, 0, none⟩)] w fun e w' => ∃ (g : Nat) (D' : DataW Unit) (f' : List UInt8 → Nat) (N' : Nat), e = .returned (.slice (some ⟨g, 0, none⟩) L.length L.length) ∧
      w'.ownsRow w.heap.size 3 1 (.slice (some ⟨g, 0, none⟩) L.length L.length) L.length (L.map (fun x => numV (f' x))) ∧
      w'.ownsMap Try.prog 9 (plainElem Try.prog 3) Bm (n + L.length) D' ∧ NumOk D' f' N' ∧ NumExt D f D' f' ∧ (∀ x ∈ L, Maps.has D' (.string x) = true) ∧ w.grownBy w' (some Bm) := by
  obtain ⟨ao, cap, b, off, rfl, hcap, ha, hc⟩ := hrow.parts
  clear hrow
  obtain ⟨i0, hi, hz0, hz1, hz2⟩ := info_parts info3
  have hBx : Bx < w.heap.size := (Array.getElem?_eq_some_iff.1 hbx).1
  have hBm : Bm < w.heap.size := hmap.lt
  have hne : Bx ≠ Bm := by
    rintro rfl
    obtain ⟨es, clock, hb, _⟩ := hmap
    rw [hb] at hbx; cases hbx
  go_enter Try.func107, Try.ntmps107
  have hmk : ∀ w : World, (Instr.makeSlice 117 (.int .i64 (L.length : Int)) (.int .i64 (L.length : Int))).run Try.prog w = .ok (.slice (some ⟨w.heap.size, 0, none⟩) L.length L.length) (w.alloc (.cells (madeCells #[.int .i64 0] L.length) 3)) :=
    fun w => run_make_row' (P := Try.prog) 117 3 (.int .i64 0) 8 Try.underlying117 info3 rfl .i64 .i64 L.length (by omega) (by omega) w
  have hown0 : (w.alloc (.cells (madeCells #[.int .i64 0] L.length) 3)).ownsRow w.heap.size 3 1 (.slice (some ⟨w.heap.size, 0, none⟩) L.length L.length) L.length (rowVals f L 0) := by
    have h := World.ownsRow_lit (e := 3) (size := 1) (base := w.heap.size) w (madeCells #[.int .i64 0] L.length) L.length (Nat.le_refl _) (by unfold maxLen; omega) (by rw [size_madeCells, Nat.mul_one])
    rwa [toList_madeCells_one, ← rowVals_zero f L] at h
  go_wp2
  go_loopw [14] (fun i wr => ∃ (k : Nat) (D' : DataW Unit) (f' : List UInt8 → Nat) (N' : Nat), k ≤ L.length ∧ i = .int .i64 k ∧ wr.ownsRow w.heap.size 3 1 (.slice (some ⟨w.heap.size, 0, none⟩) L.length L.length) L.length (rowVals f' L k) ∧ wr.ownsMap Try.prog 9 (plainElem Try.prog 3) Bm (n + k) D' ∧ NumOk D' f' N' ∧ NumExt D f D' f' ∧ (∀ x ∈ L.take k, Maps.has D' (.string x) = true) ∧ w.grownBy wr (some Bm)) (fun i _ => L.length - (intOf i).toNat)
  case atStart => exact ⟨0, D, f, N, Nat.zero_le _, rfl, hown0, hmap.alloc _, hok, NumExt.refl _ _, fun x hx => by simp at hx, grown_of_none (World.grownBy_alloc w _ none) _⟩
  case round =>
    obtain ⟨k, D', f', N', hk, rfl, hown, hmp, hnk, hex, hhas, hgr⟩ := hrel
    have hbx1 : wr.heap[Bx]? = some (.cells #[.map (some Bm)] 201 (0, 0)) := (hgr.block Bx hBx (fun e => hne (Option.some.inj e))).trans hbx
    have cB := cell_of_one hbx1
    by_cases hlt : k < L.length
    · obtain ⟨x, hx⟩ : ∃ x, L[k]? = some x := ⟨L[k], List.getElem?_eq_getElem hlt⟩
      obtain ⟨rfl, hbm⟩ := ha (by omega)
      have hxs : x.length ≤ 1000000 := hs x (List.mem_of_getElem? hx)
      have g1 : wr.cell? ⟨b, off + k, none⟩ = some (.string (Ln.bs x)) := ((World.cell?_of_block (hgr.block b (by omega) (fun e => by have := Option.some.inj e; omega)))).trans (hc k x hx)
      have hkey : keyOf Try.prog 9 (.string (Ln.bs x)) = some (.string x) := by
        have h := keyOf_string_mk (P := Try.prog) Try.underlying9 (s := Ln.bs x) (by rw [Ln.bs_size]; unfold maxLen; omega)
        rwa [Ln.bs_toList] at h
      have hkl : WideAt.IsKeyLit (.string x) := by trivial
      have hkn : ((k : Int) + 1).toNat = k + 1 := by omega
      have HX : Hid (L[k]? = some x) := hx
      have HT : Hid (L.take (k + 1) = L.take k ++ [x]) := by
        show L.take (k + 1) = L.take k ++ [x]
        rw [List.take_add_one, hx]; rfl
      have hlen := hown.1
      obtain ⟨u0, cS⟩ := owns_cell hown k (by omega)
      have fS := hown.frozenAt k
      clear hc ha hx hmk hown0 hkn
      obtain ⟨v, ps, hlk, hv⟩ := hmp.look_ok (Maps.string_keyed Try.underlying9) Try.underlying201 (Try.zero3 _) (plainElem_int Try.underlying3 (by decide)) hkey
      obtain ⟨c, rfl, hcc, -⟩ := plainElem_int_inv Try.underlying3 hv
      clear hv
      by_cases hh : Maps.has D' (.string x) = true
      · have hce : c = (f' x : Int) := by
          have h1 := hnk.at_ x hh
          have h2 := congrArg Prod.fst hcc
          simp only at h2
          rw [h1] at h2
          injection h2 with h2; injection h2 with _ h2; exact h2.symm
        subst hce
        rw [hh] at hlk
        go_wp2
        go_roundw
        case rel =>
          have hst := hown.stored k (numV (f' x))
          rw [rowVals_set f' L k x HX.out] at hst
          refine ⟨k + 1, D', f', N', by omega, by go_num, hst.1, ?_, hnk, hex, ?_, grown_trans hgr hst.2 (fun j hj => .inr (by cases hj; exact Nat.le_refl _))⟩
          · exact (hmp.mono (by omega)).kept hst.2 (fun e => by have := Option.some.inj e; omega)
          · intro y hy
            rw [HT.out, List.mem_append] at hy
            rcases hy with hy | hy
            · exact hhas y hy
            · simp at hy; subst hy; exact hh
        case measure => simp [intOf]; omega
      · have hh' : Maps.has D' (.string x) = false := by simpa using hh
        rw [hh'] at hlk
        have hln := fun ty => hmp.len Try.underlying201 ty
        have hsz := hmp.size_le
        have hN := hnk.size
        obtain ⟨q1, q2, q3, q4⟩ := hnk.put hmp.isMap (hmp.tidy (Maps.string_keyed Try.underlying9)) hkl hh'
        have Q1 : Hid (NumOk (D'.put (.string x) (.lit (.int .i64 N'))) (putF f' x N') (N' + 1)) := q1
        have Q4 : Hid (putF f' x N' x = N') := q4
        have HN : Hid (Maps.size D' = N') := hN
        have hN2 : N' ≤ n + k := by omega
        have hrm : n + k < maxLen := by unfold maxLen; omega
        clear hcc hh q1 q4 hsz
        rw [hN] at hln
        clear hN
        obtain ⟨w1, hup, hmap1, hgrow1⟩ := hmp.update (Maps.string_keyed Try.underlying9) Try.underlying201 hrm hkey (val := .int .i64 N') (plainElem_int Try.underlying3 (wf_nat (by omega)))
        have hown1 := hown.kept hgrow1 (.inr (fun e => by have h9 : w.heap.size = Bm := Option.some.inj e; omega))
        obtain ⟨u1, cS1⟩ := owns_cell hown1 k (by omega)
        have fS1 := hown1.frozenAt k
        go_wp2
        go_roundw
        case rel =>
          have hst := hown1.stored k (numV N')
          have e1 : rowVals f' L k = rowVals (putF f' x N') L k := by
            refine (rowVals_congr (fun y hy => ?_)).symm
            exact (q2 y (hhas y hy)).2
          rw [e1] at hst
          have e2 := rowVals_set (putF f' x N') L k x HX.out
          rw [Q4.out] at e2
          rw [e2] at hst
          refine ⟨k + 1, _, putF f' x N', N' + 1, by omega, by go_num, hst.1, ?_, Q1.out, hex.trans q2, ?_, grown_trans (grown_trans hgr hgrow1 (fun j hj => .inl (by cases hj; rfl))) hst.2 (fun j hj => .inr (by cases hj; exact Nat.le_refl _))⟩
          · exact hmap1.kept hst.2 (fun e => by have := Option.some.inj e; omega)
          · intro y hy
            rw [HT.out, List.mem_append] at hy
            rcases hy with hy | hy
            · exact (q2 y (hhas y hy)).1
            · simp at hy; subst hy; exact q3
        case measure => simp [intOf]; omega
    · clear hc ha hmk hown0
      go_wp2
      go_ret
      have hke : k = L.length := by omega
      subst hke
      rw [rowVals_full] at hown
      rw [List.take_length] at hhas
      exact ⟨w.heap.size, D', f', N', rfl, hown, hmp, hnk, hex, hhas, hgr⟩

/-- numbered: the same number for the same line. -/
theorem numbered_any (A B : List (List UInt8)) (va vb : Value) (w : World) (ha : RowLow w.heap.size w va A) (hb : RowLow w.heap.size w vb B) (hA : A.length ≤ 4096) (hB : B.length ≤ 4096)
    (sA : ∀ x ∈ A, x.length ≤ 1000000) (sB : ∀ x ∈ B, x.length ≤ 1000000) :
    Calls Try.prog 78 #[va, vb] w fun e w' => ∃ (gx gy : Nat) (f : List UInt8 → Nat), e = .returned (.tuple #[.slice (some ⟨gx, 0, none⟩) A.length A.length, .slice (some ⟨gy, 0, none⟩) B.length B.length]) ∧
      w'.ownsRow w.heap.size 3 1 (.slice (some ⟨gx, 0, none⟩) A.length A.length) A.length (A.map (fun x => numV (f x))) ∧
      w'.ownsRow w.heap.size 3 1 (.slice (some ⟨gy, 0, none⟩) B.length B.length) B.length (B.map (fun x => numV (f x))) ∧
      (∀ x ∈ A, ∀ y ∈ B, f x = f y → x = y) ∧ (∀ x ∈ A, f x ≤ 100000) ∧ (∀ x ∈ B, f x ≤ 100000) ∧ Below w.heap.size w w' := by
  have hmm := @run_makeMap Try.prog
  obtain ⟨X, hX⟩ : ∃ X, X = (w.alloc (.map #[] 0)).alloc (.cells #[.map (some w.heap.size)] 201) := ⟨_, rfl⟩
  have hbX : Below w.heap.size w X := by rw [hX]; exact ((Below.refl _ w).alloc (Nat.le_refl _) _).alloc (by simp) _
  have hbx : X.heap[w.heap.size + 1]? = some (.cells #[.map (some w.heap.size)] 201 (0, 0)) := by
    rw [hX]; have := World.alloc_heap_new (w.alloc (.map #[] 0)) (.cells #[.map (some w.heap.size)] 201); rwa [World.size_alloc] at this
  have hmp : X.ownsMap Try.prog 9 (plainElem Try.prog 3) w.heap.size 0 (.map [] : DataW Unit) := by
    rw [hX]; exact (World.ownsMap_made w Try.prog 9 _).alloc _
  have hsX : X.heap.size = w.heap.size + 2 := by rw [hX]; simp
  have hok : NumOk (.map []) (fun _ => 0) 0 := ⟨rfl, (fun x hx => by cases hx), (fun x hx => by cases hx), (fun x y hx => by cases hx)⟩
  have rA : RowLow w.heap.size X va A := ha.below hbX (Nat.le_refl _)
  have rB : RowLow w.heap.size X vb B := hb.below hbX (Nat.le_refl _)
  go_enter Try.func78, Try.ntmps78
  go_wp2_with fail
  rw [← hX]
  clear ha hb
  refine (number_any w.heap.size (w.heap.size + 1) 0 w.heap.size (.map []) (fun _ => 0) 0 A va X rA (Nat.le_refl _) hA sA (by omega) hbx hmp hok).mono ?_
  rintro e w1 ⟨gx, D1, f1, N1, rfl, hown1, hmap1, hok1, -, hhas1, hgr1⟩
  have hbx1 : w1.heap[w.heap.size + 1]? = some (.cells #[.map (some w.heap.size)] 201 (0, 0)) := (hgr1.block _ (by omega) (fun e => by have h9 : w.heap.size + 1 = w.heap.size := Option.some.inj e; omega)).trans hbx
  have rB1 : RowLow w.heap.size w1 vb B := rB.below (below_of_grown hgr1 (Nat.le_refl _) (by omega)) (Nat.le_refl _)
  go_wp2_with fail
  refine (number_any w.heap.size (w.heap.size + 1) (0 + A.length) w.heap.size D1 f1 N1 B vb w1 rB1 (Nat.le_refl _) hB sB (by omega) hbx1 hmap1 hok1).mono ?_
  rintro e w2 ⟨gy, D2, f2, N2, rfl, hown2, hmap2, hok2, hext, hhas2, hgr2⟩
  go_wp2
  refine bodyPost_ret (results_tmp2 rfl _ _ _) rfl ?_
  have hN2 : N2 ≤ 100000 := by have h1 := hmap2.size_le; rw [hok2.size] at h1; omega
  have hlow1 := hown1.lt gx rfl
  refine ⟨gx, gy, f2, rfl, ?_, owns_base hown2 (Nat.le_trans (by omega) hgr1.size), ?_, ?_, ?_, ?_⟩
  · have h1 := hown1.kept hgr2 (.inr (fun e => by have h9 : gx = w.heap.size := Option.some.inj e; omega))
    have e1 : A.map (fun x => numV (f2 x)) = A.map (fun x => numV (f1 x)) := List.map_congr_left (fun x hx => by rw [(hext x (hhas1 x hx)).2])
    rw [e1]
    exact owns_base h1 (by omega)
  · exact fun x hx y hy e => hok2.inj x y (hext x (hhas1 x hx)).1 (hhas2 y hy) e
  · exact fun x hx => by have := hok2.lt x (hext x (hhas1 x hx)).1; omega
  · exact fun x hx => by have := hok2.lt x (hhas2 x hx); omega
  · exact (hbX.trans (below_of_grown hgr1 (Nat.le_refl _) (by omega))).trans (below_of_grown hgr2 (Nat.le_refl _) (Nat.le_trans (by omega) hgr1.size))

end Go.Proofs.Ytpcinbfelikgpaa

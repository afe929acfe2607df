/-
  The walks of placeRight and kidsRight.
-/
import Derived.Test.YtejnleigjjaenaaTrRight
namespace Go.Proofs.Ytejnleigjjaenaa
open Go.RowKit Go.Shelf

attribute [local go_sem] Oper.semAt_some

/-- The table in memory. -/
def TabAt (w : World) (r : Nat) : Prop := ∃ es clock, w.heap[r]? = some (.map es clock) ∧ TabEs w es.toList Tr.rowsL
theorem TabAt.at {A B : World} {r : Nat} (h : TabAt A r) (hb : Below A.heap.size A B) : TabAt B r := by
  obtain ⟨es, clock, h1, h2⟩ := h
  exact ⟨es, clock, (hb.block r (Array.getElem?_eq_some_iff.1 h1).1).trans h1, h2.at hb⟩
theorem TabW.tab {w0 w : World} (h : TabW w0 Tr.rowsL w) : TabAt w w0.heap.size := h.2

theorem tab_find {w : World} (k : Int) : ∀ (es : List MapEntry) (ps : List (Int × List Int)) (i : Nat), TabEs w es ps → ∃ o, Instr.findNow (.int .u8) (.int .u8 k) es i = some o ∧
    ((ps.find? (fun p => p.1 == k) = none ∧ o = none) ∨ ∃ p j v, ps.find? (fun p => p.1 == k) = some p ∧ o = some (j, v) ∧ KindsLow w v p.2)
  | [], [], _, _ => ⟨none, rfl, .inl ⟨rfl, rfl⟩⟩
  | e :: es, p :: ps, i, h => by
    by_cases hk : p.1 = k
    · refine ⟨some (i, e.val), ?_, .inr ⟨p, i, e.val, ?_, rfl, h.2.1⟩⟩
      · simp [Instr.findNow, h.1, Instr.sameNow, hk]
      · simp [hk]
    · obtain ⟨o, h1, h2⟩ := tab_find k es ps (i + 1) h.2.2
      have hk2 : (k == p.1) = false := by simp; omega
      have hk3 : (p.1 == k) = false := by simp; omega
      refine ⟨o, ?_, ?_⟩
      · simp only [Instr.findNow, h.1, Instr.sameNow, if_true, hk2]; exact h1
      · rw [List.find?_cons, hk3]; exact h2
  | [], _ :: _, _, h => h.elim
  | _ :: _, [], _, h => h.elim

theorem table_eq (k : Int) : Tr.table k = (Tr.rowsL.find? (fun p => p.1 == k)).map (·.2) := by
  unfold Tr.table
  split <;> first | rfl | skip
  rename_i h1 h2 h3 h4 h5 h6 h7 h8 h9 h10 h11 h12 h13 h14 h15 h16 h17 h18 h19 h20 h21 h22
  have e : ∀ (a : Int) (f : k = a → False), (a == k) = false := fun a f => by
    rw [Bool.eq_false_iff]; intro h; exact f (by simpa using (beq_iff_eq.1 h).symm)
  simp only [Tr.rowsL, List.find?_cons, e _ h1, e _ h2, e _ h3, e _ h4, e _ h5, e _ h6, e _ h7, e _ h8, e _ h9, e _ h10, e _ h11, e _ h12, e _ h13, e _ h14, e _ h15, e _ h16, e _ h17, e _ h18, e _ h19, e _ h20, e _ h21, e _ h22, List.find?_nil, Option.map_none]

theorem rows_ok : ∀ p ∈ Tr.rowsL, p.2.length ≤ 3 ∧ (Tr.endless p.2 = true → p.2.length = 2) := by decide

theorem tab_look {w : World} {r : Nat} (h : TabAt w r) (k : Int) : ∃ (v : Value) (ok : Bool), (Instr.lookup 45 (.map (some r)) (.int .u8 k) true).run Try.prog w = .ok (.tuple #[v, .bool ok]) w ∧ (Instr.lookup 45 (.map (some r)) (.int .u8 k) false).run Try.prog w = .ok v w ∧
    ((Tr.table k = none ∧ v = .slice none 0 0 ∧ ok = false) ∨ ∃ l, Tr.table k = some l ∧ ok = true ∧ KindsLow w v l ∧ Tr.okRow l) := by
  obtain ⟨es, clock, hb, ht⟩ := h
  obtain ⟨o, h1, h2⟩ := tab_find k es.toList Tr.rowsL 0 ht
  have hl := lookup_run hb h1
  rcases h2 with ⟨h2, rfl⟩ | ⟨p, j, v, h2, rfl, h3⟩
  · exact ⟨_, _, hl.1, hl.2, .inl ⟨by rw [table_eq, h2]; rfl, rfl, rfl⟩⟩
  · exact ⟨_, _, hl.1, hl.2, .inr ⟨p.2, by rw [table_eq, h2]; rfl, rfl, h3, rows_ok p (List.mem_of_find?_eq_some h2)⟩⟩

def Tr.firstName (l : List Tr) : Bool := match l with | [] => false | y :: _ => y.k == 22
def Tr.firstPlace (l : List Tr) : Bool := match l with | [] => false | y :: _ => Tr.placeOk y
theorem placeOk_mk (x : N1) : Tr.placeOk x.tr = (x.k == 22 || Tr.firstName x.kids) := by
  obtain ⟨k, t, n, v, kids⟩ := x
  cases kids <;> rfl
theorem kidsOk_mk (x : N1) : Tr.kidsOk x.tr = match Tr.table x.k with | none => false | some r => Tr.holdsRow r x.kids.length && Tr.kidsFit r 0 x.kids && (x.k != 7 || Tr.firstPlace x.kids) := by
  obtain ⟨k, t, n, v, kids⟩ := x
  show Tr.kidsOk (.mk k t n kids) = _
  unfold Tr.kidsOk
  cases kids <;> rfl

set_option maxRecDepth 100000 in
set_option maxHeartbeats 4000000 in
theorem place_any (S : Nat → Prop) (t : Tr) (v : Value) (w : World) (hS : ∀ b, S b → b < w.heap.size) (hv : NodeR S w v t) : Calls Try.prog 47 #[v] w fun e w' => e = .returned (.bool (Tr.placeOk t)) ∧ Below w.heap.size w w' := by
  obtain ⟨⟨k, tx, n, kv, kids⟩, rfl, rfl, hf, hr⟩ := hv
  obtain ⟨ka, kc, hkv⟩ := hr.slice
  simp only at hkv
  subst hkv
  simp only [N1.cells]
  rw [placeOk_mk]
  simp only
  obtain ⟨X, hX⟩ : ∃ X, X = w.alloc (.cells #[.int .u8 k, .string (Ln.bs tx), .int .i64 n, .slice ka kids.length kc] 25) := ⟨_, rfl⟩
  have hB : Below w.heap.size w X := hX ▸ below_new w _
  by_cases h22 : k = 22
  · subst h22
    have HB : Hid (Below w.heap.size w X) := hB
    rw [hX] at HB
    clear hB hr hf hX
    go_enter Try.func47, Try.ntmps47
    go_wp2
    go_ret
    exact ⟨rfl, HB.out⟩
  · have d0 : (k == 22) = false := by simpa using h22
    rw [d0, Bool.false_or]
    cases kids with
    | nil =>
      have HB : Hid (Below w.heap.size w X) := hB
      rw [hX] at HB
      clear hB hr hf hX
      simp only [List.length_nil] at HB ⊢
      go_enter Try.func47, Try.ntmps47
      go_wp2
      go_ret
      exact ⟨rfl, HB.out⟩
    | cons y ys =>
      obtain ⟨xs, ao, cp, b, off, e, hv, -, ha, -, hx⟩ := hr.parts
      simp only at e hv ha
      cases hv
      obtain ⟨rfl, hSb⟩ := ha (by simp)
      obtain ⟨x, xs, rfl⟩ : ∃ x r, xs = x :: r := by
        cases xs with
        | nil => cases e
        | cons x r => exact ⟨x, r, rfl⟩
      rw [List.map_cons, List.cons.injEq] at e
      obtain ⟨rfl, rfl⟩ := e
      obtain ⟨-, -, c0, -⟩ := hx 0 x rfl
      simp only [Nat.zero_mul, Nat.add_zero] at c0
      have c0X : X.cell? ⟨b, off, none⟩ = some (.int .u8 x.k) := (hB.cell (p := ⟨b, off, none⟩) (hS b hSb)).trans c0
      show Calls _ _ _ _ fun e w' => e = .returned (.bool (x.k == 22)) ∧ Below w.heap.size w w'
      have HB : Hid (Below w.heap.size w X) := hB
      have hlen : (x.tr :: xs.map N1.tr).length = xs.length + 1 := by simp
      rw [hlen] at hX ⊢
      rw [hX] at HB c0X
      clear hB hr hf hX hx ha c0 hlen
      go_enter Try.func47, Try.ntmps47
      go_wp2
      go_ret
      exact ⟨rfl, HB.out⟩

/-- All kids ahead fit. -/
theorem kidsFit_drop (r : List Int) : ∀ (l : List Tr) (i j : Nat) (x : Tr), l[j]? = some x → Tr.kidsFit r i (l.drop j) = (Tr.fitsRow r x.k i && Tr.kidsFit r (i + 1) (l.drop (j + 1))) := by
  intro l i j x hj
  have hl := (List.getElem?_eq_some_iff.1 hj).1
  have e : l.drop j = x :: l.drop (j + 1) := by
    rw [List.drop_eq_getElem_cons hl]
    rw [List.getElem?_eq_getElem hl] at hj
    cases hj; rfl
  rw [e]
  rfl

set_option maxRecDepth 100000 in
set_option maxHeartbeats 4000000 in
theorem kids_any (S : Nat → Prop) (t : Tr) (v : Value) (r : Nat) (w : World) (hS : ∀ b, S b → b < w.heap.size) (hv : NodeR S w v t) (ht : TabAt w r) : Calls Try.prog 26 #[.map (some r), v] w fun e w' => e = .returned (.bool (Tr.kidsOk t)) ∧ Below w.heap.size w w' := by
  obtain ⟨⟨k, tx, n, kv, kids⟩, rfl, rfl, hf, hr⟩ := hv
  obtain ⟨ka, kc, hkv⟩ := hr.slice
  simp only at hkv
  subst hkv
  rw [kidsOk_mk]
  simp only [N1.cells]
  obtain ⟨X, hX⟩ : ∃ X, X = w.alloc (.cells #[.int .u8 k, .string (Ln.bs tx), .int .i64 n, .slice ka kids.length kc] 25) := ⟨_, rfl⟩
  have hB : Below w.heap.size w X := hX ▸ below_new w _
  have hXn : X.heap[w.heap.size]? = some (.cells #[.int .u8 k, .string (Ln.bs tx), .int .i64 n, .slice ka kids.length kc] 25 (0, 0)) := by rw [hX]; exact World.alloc_heap_new w _
  obtain ⟨rv, ok, l1, -, hcase⟩ := tab_look (ht.at hB) k
  rcases hcase with ⟨htn, rfl, rfl⟩ | ⟨l, htl, rfl, hkl, hok⟩
  · rw [htn]
    have HB : Hid (Below w.heap.size w X) := hB
    rw [hX] at l1 HB
    clear hB hXn hr hf htn hX ht
    go_enter Try.func26, Try.ntmps26
    go_wp2
    go_ret
    exact ⟨rfl, HB.out⟩
  · rw [htl]
    simp only
    have HH : Hid (_) := holds_any l rv kids.length X hkl hok.1
    obtain ⟨ra, rc, rb, ro, hrv, -⟩ := hkl.parts
    cases hho : Tr.holdsRow l kids.length
    · rw [hho] at HH
      have HB : Hid (Below w.heap.size w X) := hB
      subst hrv
      rw [hX] at l1 HB HH
      clear hB hXn hr hf htl hX ht hkl hok hho
      go_enter Try.func26, Try.ntmps26
      go_wp2_with fail
      refine Calls.mono HH.out ?_
      rintro e w1 ⟨rfl, rfl⟩
      go_wp2
      go_ret
      exact ⟨rfl, HB.out⟩
    · rw [hho] at HH
      obtain ⟨xs, xa, xc, xb, xo, ex, hxv, -, hxa, hxl, hx⟩ := hr.parts
      simp only at ex hxv hxa hxl
      cases hxv
      have HX : Hid (_) := hx
      have hSl : Hid (∀ b, S b → b < w.heap.size) := hS
      have HKL : Hid (KindsLow X rv l) := hkl
      have HOK : Hid (Tr.okRow l) := hok
      have HBX : Hid (Below w.heap.size w X) := hB
      have hkinds : Hid (k = 7 → kids ≠ []) := by
        intro h7 h0
        subst h7
        subst h0
        have hl7 : l = [202, 200] := by
          have : Tr.table 7 = some [202, 200] := rfl
          rw [this] at htl
          exact (Option.some.inj htl).symm
        subst hl7
        exact absurd hho (by decide)
      have HST : Hid (Tr.kidsFit l 0 kids = Tr.kidsFit l 0 (kids.drop 0)) := rfl
      have HP : Hid (∀ (x : N1), xs[0]? = some x → x.Fit ∧ RowR S w x.v x.kids) := fun x h => ⟨(hx 0 x h).1, (hx 0 x h).2.1⟩
      have HEX : Hid (kids = xs.map N1.tr) := ex
      subst hrv
      obtain ⟨N, hN⟩ : ∃ N, N = kids.length := ⟨_, rfl⟩
      have HN : Hid (N = kids.length) := hN
      have c0 : X.cell? ⟨w.heap.size, 0, none⟩ = some (.int .u8 k) := cells_at hXn rfl
      have c3 : X.cell? ⟨w.heap.size, 3, none⟩ = some (.slice ka N kc) := by rw [hN]; exact cells_at hXn rfl
      rw [← hN] at hX HH hxa hxl ⊢
      have hsX : X.heap.size = w.heap.size + 1 := by rw [hX, World.size_alloc]
      have HSX : Hid (X.heap.size = w.heap.size + 1) := hsX
      clear hB hXn hr hf htl ht hkl hok hho hx ex hN hS hsX
      refine (callsIn_wide (n := 3)).1 ?_
      refine callsIn_of_wp Try.func26 rfl trivial ?_ rfl
      simp only [Try.ntmps26, List.size_toArray, List.length_cons, List.length_nil, Nat.reduceAdd, Nat.reduceSub, Array.replicate_succ, Array.replicate_zero, List.push_toArray, List.append_toArray, List.nil_append, List.cons_append]
      rw [hX] at l1 HH c0 c3
      gi_wp2
      rw [← hX] at l1 HH c0 c3 ⊢
      clear hX
      refine ⟨trivial, ?_⟩
      refine (callsIn_wide.2 HH.out).mono ?_
      rintro e w1 ⟨rfl, rfl⟩
      clear l1 HH
      gi_wp2
      gi_loopw [29] (fun i wr => ∃ q : Nat, q ≤ N ∧ i = .int .i64 q ∧ Below w1.heap.size w1 wr ∧ Tr.kidsFit l 0 kids = Tr.kidsFit l q (kids.drop q)) (fun i _ => N - (intOf i).toNat)
      case atStart => exact ⟨0, Nat.zero_le _, rfl, Below.refl _ _, HST.out⟩
      case round =>
        obtain ⟨q, hq, rfl, hbr, hfit⟩ := hrel
        by_cases hlt : q < N
        · obtain ⟨rfl, hSb⟩ := hxa (by omega)
          have hql : q < xs.length := by have := HN.out; rw [HEX.out, List.length_map] at this; omega
          obtain ⟨⟨zk, zt, zn, zv, zkids⟩, hzq⟩ : ∃ z, xs[q]? = some z := ⟨xs[q], List.getElem?_eq_getElem hql⟩
          obtain ⟨-, zr, z0, z1, z2, z3⟩ := HX.out q _ hzq
          simp only at z0 z1 z2 z3 zr
          have hbw : Below w.heap.size w wr := below_then HBX.out hbr
          have hxb : xb < w.heap.size := hSl.out xb hSb
          have tr : ∀ j u, w.cell? ⟨xb, j, none⟩ = some u → wr.cell? ⟨xb, j, none⟩ = some u := fun j u h => (hbw.cell (p := ⟨xb, j, none⟩) hxb).trans h
          replace z0 := tr _ _ z0
          replace z1 := tr _ _ z1
          replace z2 := tr _ _ z2
          replace z3 := tr _ _ z3
          obtain ⟨za, zc, hzv⟩ := zr.slice
          subst hzv
          have hkq : kids[q]? = some (N1.tr ⟨zk, zt, zn, .slice za zkids.length zc, zkids⟩) := by rw [HEX.out, List.getElem?_map, hzq]; rfl
          have hstep := kidsFit_drop l kids q q _ hkq
          have hk9 : (N1.tr ⟨zk, zt, zn, .slice za zkids.length zc, zkids⟩).k = zk := rfl
          rw [hk9] at hstep
          have HFIT : Hid (Tr.kidsFit l 0 kids = (Tr.fitsRow l zk q && Tr.kidsFit l (q + 1) (kids.drop (q + 1)))) := hfit.trans hstep
          obtain ⟨Y, hY⟩ : ∃ Y, Y = wr.alloc (.cells #[.int .u8 zk, .string (Ln.bs zt), .int .i64 zn, .slice za zkids.length zc] 25) := ⟨_, rfl⟩
          have hbY : Below w1.heap.size w1 Y := below_then hbr (hY ▸ below_new wr _)
          have HFI : Hid (_) := fits_any l _ zk q Y (CellsLow.at HKL.out hbY (fun h0 => by rw [List.length_eq_zero_iff.1 h0]; rfl)) HOK.out
          have HBY : Hid (Below w1.heap.size w1 Y) := hbY
          have HBR : Hid (Below w1.heap.size w1 wr) := hbr
          cases hfi : Tr.fitsRow l zk q
          · rw [hfi] at HFI HFIT
            rw [hY] at HFI HBY
            clear hfit hstep hkq hzq hbw tr zr hbY hbr hY hfi hk9
            gi_wp2
            refine ⟨trivial, ?_⟩
            refine (callsIn_wide.2 HFI.out).mono ?_
            rintro e w2 ⟨rfl, rfl⟩
            gi_wp2
            go_ret
            refine ⟨congrArg (fun b => Ending.returned (.bool b)) ?_, below_then HBX.out HBY.out⟩
            rw [HFIT.out]
            simp
          · rw [hfi] at HFI HFIT
            rw [hY] at HFI HBY
            have HEND : Hid (Tr.kidsFit l 0 kids = Tr.kidsFit l (q + 1) (kids.drop (q + 1))) := by rw [HFIT.out]; rfl
            clear hfit hstep hkq hzq hbw tr zr hbY hbr hY hfi hk9 HFIT
            gi_wp2
            refine ⟨trivial, ?_⟩
            refine (callsIn_wide.2 HFI.out).mono ?_
            rintro e w2 ⟨rfl, rfl⟩
            gi_wp2
            refine ⟨⟨q + 1, by omega, by simp, HBY.out, HEND.out⟩, by simp [intOf]; omega⟩
        · have hqN : q = N := by omega
          subst hqN
          have hall : Tr.kidsFit l 0 kids = true := by rw [hfit, HN.out, List.drop_length]; rfl
          have e0 : wr.cell? ⟨w.heap.size, 0, none⟩ = some (.int .u8 k) := (hbr.cell (p := ⟨w.heap.size, 0, none⟩) (by have := HSX.out; show w.heap.size < w1.heap.size; omega)).trans c0
          have e3 : wr.cell? ⟨w.heap.size, 3, none⟩ = some (.slice ka q kc) := (hbr.cell (p := ⟨w.heap.size, 3, none⟩) (by have := HSX.out; show w.heap.size < w1.heap.size; omega)).trans c3
          have HBW : Hid (Below w.heap.size w wr) := below_then HBX.out hbr
          have HR : Hid (Tr.kidsFit l 0 kids = true) := hall
          by_cases h7 : k = 7
          · have hkn := hkinds.out h7
            subst h7
            obtain ⟨z, zs, hz⟩ : ∃ z zs, xs = z :: zs := by
              cases hxs : xs with
              | nil => exact absurd (by rw [HEX.out, hxs]; rfl) hkn
              | cons z zs => exact ⟨z, zs, rfl⟩
            have hq0 : 0 < q := by have := HN.out; rw [HEX.out, hz] at this; simp at this; omega
            obtain ⟨rfl, hSb⟩ := hxa hq0
            have hz0 : xs[0]? = some z := by rw [hz]; rfl
            obtain ⟨zk, zt, zn, zv, zkids⟩ := z
            obtain ⟨zf, zr, z0, z1, z2, z3⟩ := HX.out 0 _ hz0
            simp only [Nat.zero_mul, Nat.add_zero] at z0 z1 z2 z3 zr
            have hxb : xb < w.heap.size := hSl.out xb hSb
            have tr : ∀ j u, w.cell? ⟨xb, j, none⟩ = some u → wr.cell? ⟨xb, j, none⟩ = some u := fun j u h => (HBW.out.cell (p := ⟨xb, j, none⟩) hxb).trans h
            replace z0 := tr _ _ z0
            replace z1 := tr _ _ z1
            replace z2 := tr _ _ z2
            replace z3 := tr _ _ z3
            obtain ⟨za, zc, hzv⟩ := zr.slice
            subst hzv
            have HPL : Hid (_) := place_any S (N1.tr ⟨zk, zt, zn, .slice za zkids.length zc, zkids⟩) (.agg #[.int .u8 zk, .string (Ln.bs zt), .int .i64 zn, .slice za zkids.length zc]) wr (fun b hb => Nat.lt_of_lt_of_le (hSl.out b hb) HBW.out.size) ⟨⟨zk, zt, zn, .slice za zkids.length zc, zkids⟩, rfl, rfl, zf, zr.keep (fun b hb => HBW.out.block b (hSl.out b hb)) (fun _ h => h)⟩
            have HFP : Hid (Tr.firstPlace kids = Tr.placeOk (N1.tr ⟨zk, zt, zn, .slice za zkids.length zc, zkids⟩)) := by
              show Tr.firstPlace kids = _
              rw [HEX.out, hz]; rfl
            clear hfit hall hbr hkn hz hz0 tr zr zf
            gi_wp2
            refine ⟨trivial, ?_⟩
            refine (callsIn_wide.2 HPL.out).mono ?_
            rintro e w2 ⟨rfl, hb2⟩
            have HB2 : Hid (Below w.heap.size w w2) := below_then HBW.out hb2
            clear hb2
            gi_wp2
            go_ret
            refine ⟨congrArg (fun b => Ending.returned (.bool b)) ?_, HB2.out⟩
            rw [HR.out, HFP.out]
            rfl
          · have d7 : (k == 7) = false := by simpa using h7
            have n7 : (k != 7) = true := by simpa using h7
            clear hfit hall hbr
            gi_wp2
            refine ⟨trivial, ?_⟩
            gi_wp2
            go_ret
            refine ⟨congrArg (fun b => Ending.returned (.bool b)) ?_, HBW.out⟩
            rw [HR.out]
            simp [h7]
end Go.Proofs.Ytejnleigjjaenaa

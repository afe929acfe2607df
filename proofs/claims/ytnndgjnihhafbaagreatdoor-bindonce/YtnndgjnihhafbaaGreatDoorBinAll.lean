/-
  Several texts in one, as they are: PsBin, PsExprAll.
-/
import Derived.Test.YtnndgjnihhafbaaGreatDoorPrimeAll

/-
  The walks of binary and expression.
-/
namespace Go.Proofs.YtnndgjnihhafbaaGreatDoor
open Go.RowKit Go.Shelf

attribute [local go_sem] Oper.semAt_some
attribute [local simp] Ps.go Ps.opn Ps.want Ps.name Ps.bnd Ps.bad N1.tr Ps.ops

/-- The levels of operators, as expression lays them, from block e on. -/
structure Lev (e : Nat) (W : World) : Prop where
  r0 : W.heap[e + 0]? = some (.cells #[.string ⟨#[124, 124]⟩] 9 (0, 0))
  r1 : W.heap[e + 1]? = some (.cells #[.string ⟨#[38, 38]⟩] 9 (0, 0))
  r2 : W.heap[e + 2]? = some (.cells #[.string ⟨#[61, 61]⟩, .string ⟨#[33, 61]⟩, .string ⟨#[60]⟩, .string ⟨#[60, 61]⟩, .string ⟨#[62]⟩, .string ⟨#[62, 61]⟩] 9 (0, 0))
  r3 : W.heap[e + 3]? = some (.cells #[.string ⟨#[43]⟩, .string ⟨#[45]⟩] 9 (0, 0))
  r4 : W.heap[e + 4]? = some (.cells #[.string ⟨#[42]⟩, .string ⟨#[47]⟩, .string ⟨#[37]⟩] 9 (0, 0))
  all : W.heap[e + 5]? = some (.cells #[.slice (some ⟨e + 0, 0, none⟩) 1 1, .slice (some ⟨e + 1, 0, none⟩) 1 1, .slice (some ⟨e + 2, 0, none⟩) 6 6, .slice (some ⟨e + 3, 0, none⟩) 2 2, .slice (some ⟨e + 4, 0, none⟩) 3 3] 54 (0, 0))
theorem Lev.go {e b : Nat} {W W' : World} (h : Lev e W) (hg : W.grownBy W' (some b)) (hb : b < e) : Lev e W' :=
  ⟨(hg.block _ (Array.getElem?_eq_some_iff.1 h.r0).1 (by simp; omega)).trans h.r0, (hg.block _ (Array.getElem?_eq_some_iff.1 h.r1).1 (by simp; omega)).trans h.r1, (hg.block _ (Array.getElem?_eq_some_iff.1 h.r2).1 (by simp; omega)).trans h.r2, (hg.block _ (Array.getElem?_eq_some_iff.1 h.r3).1 (by simp; omega)).trans h.r3, (hg.block _ (Array.getElem?_eq_some_iff.1 h.r4).1 (by simp; omega)).trans h.r4, (hg.block _ (Array.getElem?_eq_some_iff.1 h.all).1 (by simp; omega)).trans h.all⟩
theorem Lev.set {e q : Nat} {W W' : World} (h : Lev e W) (hg : W.grownBy W' (some q)) (hq : e + 5 < q) : Lev e W' :=
  ⟨(hg.block _ (Array.getElem?_eq_some_iff.1 h.r0).1 (by simp; omega)).trans h.r0, (hg.block _ (Array.getElem?_eq_some_iff.1 h.r1).1 (by simp; omega)).trans h.r1, (hg.block _ (Array.getElem?_eq_some_iff.1 h.r2).1 (by simp; omega)).trans h.r2, (hg.block _ (Array.getElem?_eq_some_iff.1 h.r3).1 (by simp; omega)).trans h.r3, (hg.block _ (Array.getElem?_eq_some_iff.1 h.r4).1 (by simp; omega)).trans h.r4, (hg.block _ (Array.getElem?_eq_some_iff.1 h.all).1 (by simp; omega)).trans h.all⟩
theorem Lev.lt {e : Nat} {W : World} (h : Lev e W) : e + 5 < W.heap.size := (Array.getElem?_eq_some_iff.1 h.all).1
def lvS (e : Nat) : Nat → Value
  | 0 => .slice (some ⟨e + 5, 0, none⟩) 5 5
  | 1 => .slice (some ⟨e + 5, 1, none⟩) 4 4
  | 2 => .slice (some ⟨e + 5, 2, none⟩) 3 3
  | 3 => .slice (some ⟨e + 5, 3, none⟩) 2 2
  | 4 => .slice (some ⟨e + 5, 4, none⟩) 1 1
  | _ => .slice (some ⟨e + 5, 4, none⟩) 0 0
theorem rowLow_at {W : World} {r : Nat} {S : List (List UInt8)} {n : Nat} (h : W.heap[r]? = some (.cells (S.map txtV).toArray 9 (0, 0))) (hn : S.length = n) (h0 : 0 < n) : RowLow W.heap.size W (.slice (some ⟨r, 0, none⟩) n n) S := by
  subst hn
  refine ⟨some ⟨r, 0, none⟩, S.length, r, 0, rfl, ⟨Nat.le_refl _, fun e => by cases e⟩, fun _ => ⟨rfl, (Array.getElem?_eq_some_iff.1 h).1⟩, fun j u hu => ?_⟩
  rw [Lib.cell_of_heap h, Nat.zero_add, List.getElem?_toArray]
  exact hu
/-- binary does the level k. -/
def BinAt (k m : Nat) : Prop := ∀ (b lv e0 : Nat) (l : List Lx.Tok) (w : World), OkL l → l.length ≤ m → lv ≤ 120 → PAt b l lv w → Lev e0 w → b < e0 →
  Calls Tryz.prog 176 #[.pointer (some ⟨b, 0, none⟩), lvS e0 k] w fun e w' => w.grownBy w' (some b) ∧ PEnd b lv (.bin k) l w e w'

set_option maxRecDepth 100000 in
set_option maxHeartbeats 4000000 in
theorem pbin5_of (m : Nat) (hU : PDoes 179 .unary [] m) : BinAt 5 m := by
  intro b lv e0 l w hl hm hlv hP hL hbe
  show Calls Tryz.prog 176 #[.pointer (some ⟨b, 0, none⟩), .slice (some ⟨e0 + 5, 4, none⟩) 0 0] w _
  obtain ⟨A, hA⟩ : ∃ A, A = w.alloc (.cells #[.int .u8 0, .string ⟨#[]⟩, .int .i64 0, .slice none 0 0] 25) := ⟨_, rfl⟩
  have FR : Hid (Frm w b A) := hA ▸ Frm.new hP
  have PA : Hid (PAt b l lv A) := hA ▸ hP.below (below_new w _)
  have HC : Hid (_) := hU b lv l A hl hm hlv PA.out
  clear hP hU hL
  go_enter Tryz.func176, Tryz.ntmps176
  go_wp2_with fail
  rw [← hA]
  clear hA
  refine Calls.mono HC.out ?_
  rintro e w1 ⟨hg1, ⟨E, i, ⟨n1, hn1⟩, rfl⟩ | ⟨t, l1, v, ⟨n1, hn1⟩, ol1, ln1, hp1, rfl, nd1⟩⟩
  · exact ⟨rfl, FR.out.grown.trans hg1, .inl ⟨_, _, ⟨n1 + 1, by simp [hn1]⟩, rfl⟩⟩
  obtain ⟨xk, xt, xn, xa, xL, xc, xkids, rfl, rfl, nf⟩ := NF.of_end (X := []) nd1 FR.out (by simp)
  obtain ⟨p0, p1, p2, p3, pf, Z, hZ, ⟨r0, r1, r2, r3⟩, z1, z2, z3⟩ := (FR.out.go hg1).fin hp1 nf
  have HF : Hid (w.grownBy Z (some b) ∧ PEnd b lv (.bin 5) l w (.returned (.agg #[.int .u8 xk, .string (Ln.bs xt), .int .i64 xn, .slice xa xL xc])) Z) := ⟨z1, .inr ⟨_, _, _, ⟨n1 + 1, by simp [hn1]⟩, ol1, ln1, z2, rfl, z3⟩⟩
  clear z1 z2 z3 HC hg1 hp1 nd1 nf FR PA
  go_wp2
  rw [← hZ]
  refine bodyPost_ret (v := .agg #[.int .u8 xk, .string (Ln.bs xt), .int .i64 xn, .slice xa xL xc]) (by simp [results, Tryz.results176, go_sem, r0, r1, r2, r3]) rfl HF.out

set_option maxRecDepth 100000 in
set_option maxHeartbeats 8000000 in
theorem pbin0_of (m : Nat) (hB : BinAt 1 m) : BinAt 0 m := by
  intro b lv e0 l w hl hm hlv hP hL hbe
  show Calls Tryz.prog 176 #[.pointer (some ⟨b, 0, none⟩), .slice (some ⟨e0 + 5, 0, none⟩) 5 5] w _
  obtain ⟨A, hA⟩ : ∃ A, A = w.alloc (.cells #[.int .u8 0, .string ⟨#[]⟩, .int .i64 0, .slice none 0 0] 25) := ⟨_, rfl⟩
  have FR : Hid (Frm w b A) := hA ▸ Frm.new hP
  have PA : Hid (PAt b l lv A) := hA ▸ hP.below (below_new w _)
  have LV : Hid (Lev e0 A) := hA ▸ hL.go (b := b) (grown_low (below_new w _)) hbe
  have hlow := hP.lt
  have hew := hL.lt
  have HC : Hid (Calls Tryz.prog 176 #[.pointer (some ⟨b, 0, none⟩), .slice (some ⟨e0 + 5, 1, none⟩) 4 4] A fun e w' => A.grownBy w' (some b) ∧ PEnd b lv (.bin 1) l A e w') := hB b lv e0 l A hl hm hlv PA.out LV.out hbe
  have HB : Hid (∀ (l : List Lx.Tok) (w : World), OkL l → l.length ≤ m → PAt b l lv w → Lev e0 w → Calls Tryz.prog 176 #[.pointer (some ⟨b, 0, none⟩), .slice (some ⟨e0 + 5, 1, none⟩) 4 4] w fun e w' => w.grownBy w' (some b) ∧ PEnd b lv (.bin 1) l w e w') := fun l w h1 h2 h3 h4 => hB b lv e0 l w h1 h2 hlv h3 h4 hbe
  clear hP hB hL
  refine (callsIn_wide (n := 3)).1 ?_
  refine callsIn_of_wp Tryz.func176 rfl trivial ?_ rfl
  simp only [Tryz.ntmps176, List.size_toArray, List.length_cons, List.length_nil, Nat.reduceAdd, Nat.reduceSub, Array.replicate_succ, Array.replicate_zero, List.push_toArray, List.append_toArray, List.nil_append, List.cons_append]
  gi_wp2
  rw [← hA]
  clear hA
  refine ⟨trivial, ?_⟩
  refine (callsIn_wide.2 HC.out).mono ?_
  rintro e w1 ⟨hg1, ⟨E, i, ⟨n1, hn1⟩, rfl⟩ | ⟨t, l1, v, ⟨n1, hn1⟩, ol1, ln1, hp1, rfl, nd1⟩⟩
  · exact ⟨rfl, FR.out.grown.trans hg1, .inl ⟨_, _, ⟨n1 + 1, by simp [hn1]⟩, rfl⟩⟩
  obtain ⟨xk, xt, xn, xa, xL, xc, xkids, rfl, rfl, nf⟩ := NF.of_end (X := []) nd1 FR.out (by simp)
  have F1 : Frm w b w1 := FR.out.go hg1
  obtain ⟨Y, hY⟩ : ∃ Y, Y = w1.alloc (.cells #[.int .u8 xk, .string (Ln.bs xt), .int .i64 xn, .slice xa xL xc] 25) := ⟨_, rfl⟩
  have bY : Below w1.heap.size w1 Y := hY ▸ below_new w1 _
  have ST : Hid (Frm w b Y ∧ PAt b l1 lv Y ∧ BX w Y w1.heap.size ⟨xk, xt, xn, .slice xa xL xc, xkids⟩ ∧ NF w Y ⟨xk, xt, xn, .slice xa xL xc, xkids⟩ [w1.heap.size] ∧ Lev e0 Y ∧ ∀ r, Ps.Eats (.more 0 [.mk xk xt xn xkids]) l1 lv r → Ps.Eats (.bin 0) l lv r) := by
    refine ⟨F1.below bY, hp1.below bY, by rw [hY]; exact BX.new F1 ⟨xk, xt, xn, .slice xa xL xc, xkids⟩, (nf.ex (Nat.le_refl _)).go (b := b) (grown_low bY) hlow, (LV.out.go hg1 hbe).go (b := b) (grown_low bY) hbe, fun r hr => ?_⟩
    obtain ⟨n2, hn2⟩ := hr
    exact ⟨n1 + n2 + 1, by have e0 := Ps.go_le (show n1 ≤ n1 + n2 by omega) hn1; have e1 := Ps.go_le (show n2 ≤ n1 + n2 by omega) hn2; simp [e0, e1]⟩
  obtain ⟨q, hq⟩ : ∃ q, q = w1.heap.size := ⟨_, rfl⟩
  have hqe : e0 + 5 < q := by have := F1.lt; omega
  rw [← hq] at ST
  clear HC hg1 hp1 nd1 nf F1 bY FR PA LV hew
  gi_wp2
  rw [← hY, ← hq]
  clear hY hq
  gi_loopg [] (l1.length) (fun g wr => ∃ (k : Int) (tx : List UInt8) (n : Int) (a : Option Addr) (L c : Nat) (kids : List Tr) (l2 : List Lx.Tok), g = l2.length ∧ OkL l2 ∧ l2.length ≤ l1.length ∧ Frm w b wr ∧ PAt b l2 lv wr ∧ BX w wr q ⟨k, tx, n, .slice a L c, kids⟩ ∧ NF w wr ⟨k, tx, n, .slice a L c, kids⟩ [q] ∧ Lev e0 wr ∧ ∀ r, Ps.Eats (.more 0 [.mk k tx n kids]) l2 lv r → Ps.Eats (.bin 0) l lv r)
  case atStart => exact ⟨_, _, _, _, _, _, _, l1, rfl, ol1, Nat.le_refl _, ST.out.1, ST.out.2.1, ST.out.2.2.1, ST.out.2.2.2.1, ST.out.2.2.2.2.1, ST.out.2.2.2.2.2⟩
  case round =>
    clear ST
    obtain ⟨k, tx, n, a, L, c, kids, l2, hgk, ol2, ln2, hF, hP, hBx, hN, hLv, hE⟩ := hrel
    have bd : Below wr.heap.size wr wr.drew := below_draw wr 1
    have HS : Hid (_) := psees_any b lv _ l2 [[124, 124]] (.slice (some ⟨e0 + 0, 0, none⟩) 1 1) wr.drew (hP.below bd) ol2 (rowLow_at (S := [[124, 124]]) (hLv.go (b := b) (grown_low bd) hbe).r0 rfl (by decide)) (Nat.le_refl _) (by simp)
    have lc : wr.drew.cell? ⟨e0 + 5, 0, none⟩ = some (.slice (some ⟨e0 + 0, 0, none⟩) 1 1) := cells_at hLv.all rfl
    have FR : Hid (Frm w b wr.drew) := hF.below bd
    have PA : Hid (PAt b l2 lv wr.drew) := hP.below bd
    have BQ : Hid (BX w wr.drew q ⟨k, tx, n, .slice a L c, kids⟩) := hBx.go (b := b) (grown_low bd) hlow
    have NX : Hid (NF w wr.drew ⟨k, tx, n, .slice a L c, kids⟩ [q]) := hN.go (b := b) (grown_low bd) hlow
    have LV : Hid (Lev e0 wr.drew) := hLv.go (b := b) (grown_low bd) hbe
    have HE : Hid (∀ r, Ps.Eats (.more 0 [.mk k tx n kids]) l2 lv r → Ps.Eats (.bin 0) l lv r) := hE
    clear hF hP hBx hN hE hLv bd
    gi_wp2
    refine region_lex (fun z => z.cell? ⟨e0 + 5, 0, none⟩ = some (.slice (some ⟨e0 + 0, 0, none⟩) 1 1)) 6 1 rfl (by kernel_rfl) (by kernel_rfl) (by kernel_rfl) (by kernel_rfl) (fun _ _ d _ _ h => by cases d <;> exact h) lc ?_
    simp only [List.take_succ_cons, List.take_zero]
    iterate 6 (first
      | (apply lexC_want
         · rfl
         · exact fun _ => rfl
         · (intro w' hw'; go_simp; try rfl)
         simp only [Act.put, List.setIfInBounds_toArray, List.set_cons_zero, List.set_cons_succ]))
    refine lexC_nil ?_
    refine anyC_one (i := 6) (by kernel_rfl) rfl (by rfl) (fun K1 hK1 => ?_)
    go_simp
    refine ⟨trivial, ?_⟩
    refine (callsIn_wide.2 HS.out).mono ?_
    rintro e w3 ⟨rfl, hb3⟩
    have lc3 : w3.cell? ⟨e0 + 5, 0, none⟩ = some (.slice (some ⟨e0 + 0, 0, none⟩) 1 1) := cells_at (LV.out.go (b := b) (grown_low hb3) hbe).all rfl
    refine hK1 _ _ lc3 ?_
    clear hK1 lc lc3
    refine anyC_done (by kernel_rfl) ?_
    replace FR : Hid (Frm w b w3) := FR.out.below hb3
    replace PA : Hid (PAt b l2 lv w3) := PA.out.below hb3
    replace BQ : Hid (BX w w3 q ⟨k, tx, n, .slice a L c, kids⟩) := BQ.out.go (b := b) (grown_low hb3) hlow
    replace NX : Hid (NF w w3 ⟨k, tx, n, .slice a L c, kids⟩ [q]) := NX.out.go (b := b) (grown_low hb3) hlow
    replace LV : Hid (Lev e0 w3) := LV.out.go (b := b) (grown_low hb3) hbe
    clear HS hb3
    obtain ⟨f0, f1, f2, f3⟩ := BQ.out.cs
    cases hs : Ps.sees l2 [[124, 124]]
    case false =>
      have hs' : Ps.sees l2 (Ps.ops 0) = false := hs
      simp only [Ps.ops] at hs'
      obtain ⟨p0, p1, p2, p3, pf, Z, hZ, ⟨r0, r1, r2, r3⟩, z1, z2, z3⟩ := FR.out.fin PA.out NX.out
      have HF : Hid (w.grownBy Z (some b) ∧ PEnd b lv (.bin 0) l w (.returned (.agg #[.int .u8 k, .string (Ln.bs tx), .int .i64 n, .slice a L c])) Z) := ⟨z1, .inr ⟨_, _, _, HE.out _ ⟨1, by simp [hs']⟩, ol2, by omega, z2, rfl, z3⟩⟩
      clear z1 z2 z3
      gi_wp2
      rw [← hZ]
      refine bodyPost_ret (v := .agg #[.int .u8 k, .string (Ln.bs tx), .int .i64 n, .slice a L c]) (by simp [results, Tryz.results176, go_sem, r0, r1, r2, r3]) rfl HF.out
    case true =>
    have hs' : Ps.sees l2 (Ps.ops 0) = true := hs
    simp only [Ps.ops] at hs'
    obtain ⟨ol4, ln4⟩ := ol2.sees hs (by decide)
    have HT : Hid (_) := ptake_any b lv l2 w3 PA.out ol2 ol4
    clear f0 f1 f2 f3
    gi_wp2
    refine ⟨trivial, ?_⟩
    refine (callsIn_wide.2 HT.out).mono ?_
    rintro e w4 ⟨rfl, hg4, hp4⟩
    have FR4 : Hid (Frm w b w4) := FR.out.go hg4
    have BQ4 : Hid (BX w w4 q ⟨k, tx, n, .slice a L c, kids⟩) := BQ.out.go hg4 hlow
    have NX4 : Hid (NF w w4 ⟨k, tx, n, .slice a L c, kids⟩ [q]) := NX.out.go hg4 hlow
    have LV4 : Hid (Lev e0 w4) := LV.out.go hg4 hbe
    have HB4 : Hid (_) := HB.out l2.tail w4.drew ol4 (by omega) (hp4.below (below_draw w4 1)) (LV4.out.go (b := b) (grown_low (below_draw w4 1)) hbe)
    obtain ⟨f0, f1, f2, f3⟩ := BQ4.out.cs
    have g0 : w4.drew.cell? ⟨q, 0, none⟩ = some (.int .u8 k) := f0
    have g1 : w4.drew.cell? ⟨q, 1, none⟩ = some (.string (Ln.bs tx)) := f1
    have g2 : w4.drew.cell? ⟨q, 2, none⟩ = some (.int .i64 n) := f2
    have g3 : w4.drew.cell? ⟨q, 3, none⟩ = some (.slice a L c) := f3
    clear HT hg4 hp4 FR PA BQ NX LV f0 f1 f2 f3
    gi_wp2
    refine region_lex (fun _ => True) 1 8 rfl (by kernel_rfl) (by kernel_rfl) (by kernel_rfl) (by kernel_rfl) (fun _ _ d _ _ h => by cases d <;> exact h) trivial ?_
    simp only [List.take_succ_cons, List.take_zero]
    iterate 1 (first
      | (apply lexC_want
         · rfl
         · exact fun _ => rfl
         · (intro w' hw'; go_simp; try rfl)
         simp only [Act.put, List.setIfInBounds_toArray, List.set_cons_zero, List.set_cons_succ]))
    refine lexC_nil ?_
    refine anyC_take (i := 2) (v := .pointer (some ⟨b, 0, none⟩)) rfl rfl (by kernel_rfl) (by kernel_rfl) (by kernel_rfl) (fun _ _ d _ _ h => by cases d <;> exact h) trivial (by rfl) (fun _ => rfl) (by intro w' _; go_simp; try rfl) ?_
    simp only [Act.put, List.getElem_toArray, List.getElem_cons_succ, List.getElem_cons_zero, List.setIfInBounds_toArray, List.set_cons_zero, List.set_cons_succ]
    refine anyC_take (i := 3) (v := .slice (some ⟨e0 + 5, 0, none⟩) 5 5) rfl rfl (by kernel_rfl) (by kernel_rfl) (by kernel_rfl) (fun _ _ d _ _ h => by cases d <;> exact h) trivial (by rfl) (fun _ => rfl) (by intro w' _; go_simp; try rfl) ?_
    simp only [Act.put, List.getElem_toArray, List.getElem_cons_succ, List.getElem_cons_zero, List.setIfInBounds_toArray, List.set_cons_zero, List.set_cons_succ]
    refine anyC_take (i := 4) (v := .slice (some ⟨e0 + 5, 1, none⟩) 4 4) rfl rfl (by kernel_rfl) (by kernel_rfl) (by kernel_rfl) (fun _ _ d _ _ h => by cases d <;> exact h) trivial (by rfl) (fun _ => rfl) (by intro w' _; go_simp; try rfl) ?_
    simp only [Act.put, List.getElem_toArray, List.getElem_cons_succ, List.getElem_cons_zero, List.setIfInBounds_toArray, List.set_cons_zero, List.set_cons_succ]
    refine anyC_two (i := 1) (j := 5) (by kernel_rfl) rfl rfl (by rfl) (by rfl) (fun K1 hK1 => ?_) (fun K1 hK1 => ?_)
    · go_simp
      refine hK1 _ _ trivial ?_
      clear hK1 g0 g1 g2 g3
      refine anyC_one (i := 5) (by kernel_rfl) rfl (by rfl) (fun K2 hK2 => ?_)
      go_simp
      refine ⟨trivial, ?_⟩
      refine (callsIn_wide.2 HB4.out).mono ?_
      rintro e w5 ⟨hg5, ⟨E, i, ⟨n2, hn2⟩, rfl⟩ | ⟨t, l3, v, ⟨n2, hn2⟩, ol5, ln5, hp5, rfl, nd5⟩⟩
      · exact ⟨rfl, FR4.out.grown.trans ((grown_low (below_draw w4 1)).trans hg5), .inl ⟨_, _, HE.out _ ⟨n2 + 1, by simp [hs', hn2]⟩, rfl⟩⟩
      have FD : Frm w b w4.drew := FR4.out.below (below_draw w4 1)
      have BD : BX w w4.drew q ⟨k, tx, n, .slice a L c, kids⟩ := BQ4.out.go (b := b) (grown_low (below_draw w4 1)) hlow
      obtain ⟨yk, yt, yn, ya, yL, yc, ykids, rfl, rfl, nf5⟩ := NF.of_end (X := [q]) nd5 FD (fun j hj => by simp only [List.mem_singleton] at hj; subst hj; exact BD.lt)
      have FR5 : Hid (Frm w b w5) := FD.go hg5
      have PA5 : Hid (PAt b l3 lv w5) := hp5
      have BQ5 : Hid (BX w w5 q ⟨k, tx, n, .slice a L c, kids⟩) := BD.go hg5 hlow
      have NX5 : Hid (NF w w5 ⟨k, tx, n, .slice a L c, kids⟩ [q]) := (NX4.out.go (b := b) (grown_low (below_draw w4 1)) hlow).go hg5 hlow
      have NY5 : Hid (NF w w5 ⟨yk, yt, yn, .slice ya yL yc, ykids⟩ [q]) := nf5
      have LV5 : Hid (Lev e0 w5) := (LV4.out.go (b := b) (grown_low (below_draw w4 1)) hbe).go hg5 hbe
      have f50 := BQ5.out.cs
      clear nf5 nd5 hp5 hg5 FD BD HB
      refine hK2 _ _ trivial ?_
      clear hK2 f50
      refine anyC_one (i := 6) (by kernel_rfl) rfl (by rfl) (fun K3 hK3 => ?_)
      go_simp
      have F5 : Frm w b w5 := FR5.out
      have hlt5 := F5.lt
      obtain ⟨R, hR⟩ : ∃ R, R = w5.alloc (.cells #[.int .u8 k, .string (Ln.bs tx), .int .i64 n, .slice a L c, .int .u8 yk, .string (Ln.bs yt), .int .i64 yn, .slice ya yL yc] 25) := ⟨_, rfl⟩
      have bR : Below w5.heap.size w5 R := hR ▸ below_new w5 _
      have nk : NF w R ⟨24, (Ps.hd l2).text, 0, .slice (some ⟨w5.heap.size, 0, none⟩) 2 2, [N1.tr ⟨k, tx, n, .slice a L c, kids⟩, N1.tr ⟨yk, yt, yn, .slice ya yL yc, ykids⟩]⟩ [q] := by
        rw [hR]
        refine NF.kids F5 [⟨k, tx, n, .slice a L c, kids⟩, ⟨yk, yt, yn, .slice ya yL yc, ykids⟩] (fun z hz => ?_) (fun j hj => by simp only [List.mem_singleton] at hj; subst hj; exact BQ5.out.lt) (by simp) 24 (Ps.hd l2).text 0 (by omega) ol2.hd.1 (by omega)
        simp only [List.mem_cons, List.not_mem_nil, or_false] at hz
        rcases hz with rfl | rfl
        · exact NX5.out
        · exact NY5.out
      rw [← hR]
      refine hK3 _ _ trivial ?_
      clear hK3 hR
      refine anyC_one (i := 7) (by kernel_rfl) rfl (by rfl) (fun K4 hK4 => ?_)
      go_simp
      refine ⟨trivial, ?_⟩
      refine (callsIn_wide.2 (pnode_any 24 (Ln.bs (Ps.hd l2).text) (some ⟨w5.heap.size, 0, none⟩) 2 2 R)).mono ?_
      rintro e w6 ⟨rfl, hb6⟩
      refine hK4 _ _ trivial ?_
      clear hK4
      have b56 : Below w5.heap.size w5 w6 := below_then bR hb6
      have B6 := BQ5.out.go (b := b) (grown_low b56) hlow
      obtain ⟨⟨c0, p0⟩, ⟨c1, p1⟩, ⟨c2, p2⟩, ⟨c3, p3⟩, pf, Z, hZ, gz, FZ, PZ, BZ, NZ⟩ := B6.put (F5.below b56) (PA5.out.below b56) (nk.go (b := b) (grown_low hb6) hlow) (by simp)
      have HZ : Hid (Frm w b Z ∧ PAt b l3 lv Z ∧ BX w Z q ⟨24, (Ps.hd l2).text, 0, .slice (some ⟨w5.heap.size, 0, none⟩) 2 2, [N1.tr ⟨k, tx, n, .slice a L c, kids⟩, N1.tr ⟨yk, yt, yn, .slice ya yL yc, ykids⟩]⟩ ∧ NF w Z ⟨24, (Ps.hd l2).text, 0, .slice (some ⟨w5.heap.size, 0, none⟩) 2 2, [N1.tr ⟨k, tx, n, .slice a L c, kids⟩, N1.tr ⟨yk, yt, yn, .slice ya yL yc, ykids⟩]⟩ [q] ∧ Lev e0 Z) := ⟨FZ, PZ, BZ, NZ, (LV5.out.go (b := b) (grown_low b56) hbe).set gz hqe⟩
      obtain ⟨G, hG⟩ : ∃ G, G = w5.heap.size := ⟨_, rfl⟩
      rw [← hG] at hZ HZ ⊢
      clear hG nk bR hb6 b56 B6 FZ PZ BZ NZ gz F5 hlt5
      refine anyC_one (i := 8) (by kernel_rfl) rfl (by rfl) (fun K5 hK5 => ?_)
      go_simp
      rw [← hZ]
      refine hK5 _ _ trivial ?_
      clear hK5 hZ p0 p1 p2 p3 pf
      refine anyC_done (by kernel_rfl) ?_
      gi_wp2
      gi_roundg l3.length
      case measure => omega
      case rel =>
        refine ⟨24, (Ps.hd l2).text, 0, some ⟨G, 0, none⟩, 2, 2, [N1.tr ⟨k, tx, n, .slice a L c, kids⟩, N1.tr ⟨yk, yt, yn, .slice ya yL yc, ykids⟩], l3, rfl, ol5, by omega, HZ.out.1, HZ.out.2.1, HZ.out.2.2.1, HZ.out.2.2.2.1, HZ.out.2.2.2.2, fun r hr => HE.out r ?_⟩
        obtain ⟨n3, hn3⟩ := hr
        exact ⟨n2 + n3 + 1, by have e0 := Ps.go_le (show n2 ≤ n2 + n3 by omega) hn2; have e1 := Ps.go_le (show n3 ≤ n2 + n3 by omega) hn3; simp at e1; simp [hs', e0, e1]⟩
    · go_simp
      refine ⟨trivial, ?_⟩
      refine (callsIn_wide.2 HB4.out).mono ?_
      rintro e w5 ⟨hg5, ⟨E, i, ⟨n2, hn2⟩, rfl⟩ | ⟨t, l3, v, ⟨n2, hn2⟩, ol5, ln5, hp5, rfl, nd5⟩⟩
      · exact ⟨rfl, FR4.out.grown.trans ((grown_low (below_draw w4 1)).trans hg5), .inl ⟨_, _, HE.out _ ⟨n2 + 1, by simp [hs', hn2]⟩, rfl⟩⟩
      have FD : Frm w b w4.drew := FR4.out.below (below_draw w4 1)
      have BD : BX w w4.drew q ⟨k, tx, n, .slice a L c, kids⟩ := BQ4.out.go (b := b) (grown_low (below_draw w4 1)) hlow
      obtain ⟨yk, yt, yn, ya, yL, yc, ykids, rfl, rfl, nf5⟩ := NF.of_end (X := [q]) nd5 FD (fun j hj => by simp only [List.mem_singleton] at hj; subst hj; exact BD.lt)
      have FR5 : Hid (Frm w b w5) := FD.go hg5
      have PA5 : Hid (PAt b l3 lv w5) := hp5
      have BQ5 : Hid (BX w w5 q ⟨k, tx, n, .slice a L c, kids⟩) := BD.go hg5 hlow
      have NX5 : Hid (NF w w5 ⟨k, tx, n, .slice a L c, kids⟩ [q]) := (NX4.out.go (b := b) (grown_low (below_draw w4 1)) hlow).go hg5 hlow
      have NY5 : Hid (NF w w5 ⟨yk, yt, yn, .slice ya yL yc, ykids⟩ [q]) := nf5
      have LV5 : Hid (Lev e0 w5) := (LV4.out.go (b := b) (grown_low (below_draw w4 1)) hbe).go hg5 hbe
      have f50 := BQ5.out.cs
      clear nf5 nd5 hp5 hg5 FD BD HB
      refine hK1 _ _ trivial ?_
      clear hK1 g0 g1 g2 g3
      obtain ⟨g0, g1, g2, g3⟩ := f50
      refine anyC_one (i := 1) (by kernel_rfl) rfl (by rfl) (fun K2 hK2 => ?_)
      go_simp
      refine hK2 _ _ trivial ?_
      clear hK2 g0 g1 g2 g3
      refine anyC_one (i := 6) (by kernel_rfl) rfl (by rfl) (fun K3 hK3 => ?_)
      go_simp
      have F5 : Frm w b w5 := FR5.out
      have hlt5 := F5.lt
      obtain ⟨R, hR⟩ : ∃ R, R = w5.alloc (.cells #[.int .u8 k, .string (Ln.bs tx), .int .i64 n, .slice a L c, .int .u8 yk, .string (Ln.bs yt), .int .i64 yn, .slice ya yL yc] 25) := ⟨_, rfl⟩
      have bR : Below w5.heap.size w5 R := hR ▸ below_new w5 _
      have nk : NF w R ⟨24, (Ps.hd l2).text, 0, .slice (some ⟨w5.heap.size, 0, none⟩) 2 2, [N1.tr ⟨k, tx, n, .slice a L c, kids⟩, N1.tr ⟨yk, yt, yn, .slice ya yL yc, ykids⟩]⟩ [q] := by
        rw [hR]
        refine NF.kids F5 [⟨k, tx, n, .slice a L c, kids⟩, ⟨yk, yt, yn, .slice ya yL yc, ykids⟩] (fun z hz => ?_) (fun j hj => by simp only [List.mem_singleton] at hj; subst hj; exact BQ5.out.lt) (by simp) 24 (Ps.hd l2).text 0 (by omega) ol2.hd.1 (by omega)
        simp only [List.mem_cons, List.not_mem_nil, or_false] at hz
        rcases hz with rfl | rfl
        · exact NX5.out
        · exact NY5.out
      rw [← hR]
      refine hK3 _ _ trivial ?_
      clear hK3 hR
      refine anyC_one (i := 7) (by kernel_rfl) rfl (by rfl) (fun K4 hK4 => ?_)
      go_simp
      refine ⟨trivial, ?_⟩
      refine (callsIn_wide.2 (pnode_any 24 (Ln.bs (Ps.hd l2).text) (some ⟨w5.heap.size, 0, none⟩) 2 2 R)).mono ?_
      rintro e w6 ⟨rfl, hb6⟩
      refine hK4 _ _ trivial ?_
      clear hK4
      have b56 : Below w5.heap.size w5 w6 := below_then bR hb6
      have B6 := BQ5.out.go (b := b) (grown_low b56) hlow
      obtain ⟨⟨c0, p0⟩, ⟨c1, p1⟩, ⟨c2, p2⟩, ⟨c3, p3⟩, pf, Z, hZ, gz, FZ, PZ, BZ, NZ⟩ := B6.put (F5.below b56) (PA5.out.below b56) (nk.go (b := b) (grown_low hb6) hlow) (by simp)
      have HZ : Hid (Frm w b Z ∧ PAt b l3 lv Z ∧ BX w Z q ⟨24, (Ps.hd l2).text, 0, .slice (some ⟨w5.heap.size, 0, none⟩) 2 2, [N1.tr ⟨k, tx, n, .slice a L c, kids⟩, N1.tr ⟨yk, yt, yn, .slice ya yL yc, ykids⟩]⟩ ∧ NF w Z ⟨24, (Ps.hd l2).text, 0, .slice (some ⟨w5.heap.size, 0, none⟩) 2 2, [N1.tr ⟨k, tx, n, .slice a L c, kids⟩, N1.tr ⟨yk, yt, yn, .slice ya yL yc, ykids⟩]⟩ [q] ∧ Lev e0 Z) := ⟨FZ, PZ, BZ, NZ, (LV5.out.go (b := b) (grown_low b56) hbe).set gz hqe⟩
      obtain ⟨G, hG⟩ : ∃ G, G = w5.heap.size := ⟨_, rfl⟩
      rw [← hG] at hZ HZ ⊢
      clear hG nk bR hb6 b56 B6 FZ PZ BZ NZ gz F5 hlt5
      refine anyC_one (i := 8) (by kernel_rfl) rfl (by rfl) (fun K5 hK5 => ?_)
      go_simp
      rw [← hZ]
      refine hK5 _ _ trivial ?_
      clear hK5 hZ p0 p1 p2 p3 pf
      refine anyC_done (by kernel_rfl) ?_
      gi_wp2
      gi_roundg l3.length
      case measure => omega
      case rel =>
        refine ⟨24, (Ps.hd l2).text, 0, some ⟨G, 0, none⟩, 2, 2, [N1.tr ⟨k, tx, n, .slice a L c, kids⟩, N1.tr ⟨yk, yt, yn, .slice ya yL yc, ykids⟩], l3, rfl, ol5, by omega, HZ.out.1, HZ.out.2.1, HZ.out.2.2.1, HZ.out.2.2.2.1, HZ.out.2.2.2.2, fun r hr => HE.out r ?_⟩
        obtain ⟨n3, hn3⟩ := hr
        exact ⟨n2 + n3 + 1, by have e0 := Ps.go_le (show n2 ≤ n2 + n3 by omega) hn2; have e1 := Ps.go_le (show n3 ≤ n2 + n3 by omega) hn3; simp at e1; simp [hs', e0, e1]⟩

set_option maxRecDepth 100000 in
set_option maxHeartbeats 8000000 in
theorem pbin1_of (m : Nat) (hB : BinAt 2 m) : BinAt 1 m := by
  intro b lv e0 l w hl hm hlv hP hL hbe
  show Calls Tryz.prog 176 #[.pointer (some ⟨b, 0, none⟩), .slice (some ⟨e0 + 5, 1, none⟩) 4 4] w _
  obtain ⟨A, hA⟩ : ∃ A, A = w.alloc (.cells #[.int .u8 0, .string ⟨#[]⟩, .int .i64 0, .slice none 0 0] 25) := ⟨_, rfl⟩
  have FR : Hid (Frm w b A) := hA ▸ Frm.new hP
  have PA : Hid (PAt b l lv A) := hA ▸ hP.below (below_new w _)
  have LV : Hid (Lev e0 A) := hA ▸ hL.go (b := b) (grown_low (below_new w _)) hbe
  have hlow := hP.lt
  have hew := hL.lt
  have HC : Hid (Calls Tryz.prog 176 #[.pointer (some ⟨b, 0, none⟩), .slice (some ⟨e0 + 5, 2, none⟩) 3 3] A fun e w' => A.grownBy w' (some b) ∧ PEnd b lv (.bin 2) l A e w') := hB b lv e0 l A hl hm hlv PA.out LV.out hbe
  have HB : Hid (∀ (l : List Lx.Tok) (w : World), OkL l → l.length ≤ m → PAt b l lv w → Lev e0 w → Calls Tryz.prog 176 #[.pointer (some ⟨b, 0, none⟩), .slice (some ⟨e0 + 5, 2, none⟩) 3 3] w fun e w' => w.grownBy w' (some b) ∧ PEnd b lv (.bin 2) l w e w') := fun l w h1 h2 h3 h4 => hB b lv e0 l w h1 h2 hlv h3 h4 hbe
  clear hP hB hL
  refine (callsIn_wide (n := 3)).1 ?_
  refine callsIn_of_wp Tryz.func176 rfl trivial ?_ rfl
  simp only [Tryz.ntmps176, List.size_toArray, List.length_cons, List.length_nil, Nat.reduceAdd, Nat.reduceSub, Array.replicate_succ, Array.replicate_zero, List.push_toArray, List.append_toArray, List.nil_append, List.cons_append]
  gi_wp2
  rw [← hA]
  clear hA
  refine ⟨trivial, ?_⟩
  refine (callsIn_wide.2 HC.out).mono ?_
  rintro e w1 ⟨hg1, ⟨E, i, ⟨n1, hn1⟩, rfl⟩ | ⟨t, l1, v, ⟨n1, hn1⟩, ol1, ln1, hp1, rfl, nd1⟩⟩
  · exact ⟨rfl, FR.out.grown.trans hg1, .inl ⟨_, _, ⟨n1 + 1, by simp [hn1]⟩, rfl⟩⟩
  obtain ⟨xk, xt, xn, xa, xL, xc, xkids, rfl, rfl, nf⟩ := NF.of_end (X := []) nd1 FR.out (by simp)
  have F1 : Frm w b w1 := FR.out.go hg1
  obtain ⟨Y, hY⟩ : ∃ Y, Y = w1.alloc (.cells #[.int .u8 xk, .string (Ln.bs xt), .int .i64 xn, .slice xa xL xc] 25) := ⟨_, rfl⟩
  have bY : Below w1.heap.size w1 Y := hY ▸ below_new w1 _
  have ST : Hid (Frm w b Y ∧ PAt b l1 lv Y ∧ BX w Y w1.heap.size ⟨xk, xt, xn, .slice xa xL xc, xkids⟩ ∧ NF w Y ⟨xk, xt, xn, .slice xa xL xc, xkids⟩ [w1.heap.size] ∧ Lev e0 Y ∧ ∀ r, Ps.Eats (.more 1 [.mk xk xt xn xkids]) l1 lv r → Ps.Eats (.bin 1) l lv r) := by
    refine ⟨F1.below bY, hp1.below bY, by rw [hY]; exact BX.new F1 ⟨xk, xt, xn, .slice xa xL xc, xkids⟩, (nf.ex (Nat.le_refl _)).go (b := b) (grown_low bY) hlow, (LV.out.go hg1 hbe).go (b := b) (grown_low bY) hbe, fun r hr => ?_⟩
    obtain ⟨n2, hn2⟩ := hr
    exact ⟨n1 + n2 + 1, by have e0 := Ps.go_le (show n1 ≤ n1 + n2 by omega) hn1; have e1 := Ps.go_le (show n2 ≤ n1 + n2 by omega) hn2; simp [e0, e1]⟩
  obtain ⟨q, hq⟩ : ∃ q, q = w1.heap.size := ⟨_, rfl⟩
  have hqe : e0 + 5 < q := by have := F1.lt; omega
  rw [← hq] at ST
  clear HC hg1 hp1 nd1 nf F1 bY FR PA LV hew
  gi_wp2
  rw [← hY, ← hq]
  clear hY hq
  gi_loopg [] (l1.length) (fun g wr => ∃ (k : Int) (tx : List UInt8) (n : Int) (a : Option Addr) (L c : Nat) (kids : List Tr) (l2 : List Lx.Tok), g = l2.length ∧ OkL l2 ∧ l2.length ≤ l1.length ∧ Frm w b wr ∧ PAt b l2 lv wr ∧ BX w wr q ⟨k, tx, n, .slice a L c, kids⟩ ∧ NF w wr ⟨k, tx, n, .slice a L c, kids⟩ [q] ∧ Lev e0 wr ∧ ∀ r, Ps.Eats (.more 1 [.mk k tx n kids]) l2 lv r → Ps.Eats (.bin 1) l lv r)
  case atStart => exact ⟨_, _, _, _, _, _, _, l1, rfl, ol1, Nat.le_refl _, ST.out.1, ST.out.2.1, ST.out.2.2.1, ST.out.2.2.2.1, ST.out.2.2.2.2.1, ST.out.2.2.2.2.2⟩
  case round =>
    clear ST
    obtain ⟨k, tx, n, a, L, c, kids, l2, hgk, ol2, ln2, hF, hP, hBx, hN, hLv, hE⟩ := hrel
    have bd : Below wr.heap.size wr wr.drew := below_draw wr 1
    have HS : Hid (_) := psees_any b lv _ l2 [[38, 38]] (.slice (some ⟨e0 + 1, 0, none⟩) 1 1) wr.drew (hP.below bd) ol2 (rowLow_at (S := [[38, 38]]) (hLv.go (b := b) (grown_low bd) hbe).r1 rfl (by decide)) (Nat.le_refl _) (by simp)
    have lc : wr.drew.cell? ⟨e0 + 5, 1, none⟩ = some (.slice (some ⟨e0 + 1, 0, none⟩) 1 1) := cells_at hLv.all rfl
    have FR : Hid (Frm w b wr.drew) := hF.below bd
    have PA : Hid (PAt b l2 lv wr.drew) := hP.below bd
    have BQ : Hid (BX w wr.drew q ⟨k, tx, n, .slice a L c, kids⟩) := hBx.go (b := b) (grown_low bd) hlow
    have NX : Hid (NF w wr.drew ⟨k, tx, n, .slice a L c, kids⟩ [q]) := hN.go (b := b) (grown_low bd) hlow
    have LV : Hid (Lev e0 wr.drew) := hLv.go (b := b) (grown_low bd) hbe
    have HE : Hid (∀ r, Ps.Eats (.more 1 [.mk k tx n kids]) l2 lv r → Ps.Eats (.bin 1) l lv r) := hE
    clear hF hP hBx hN hE hLv bd
    gi_wp2
    refine region_lex (fun z => z.cell? ⟨e0 + 5, 1, none⟩ = some (.slice (some ⟨e0 + 1, 0, none⟩) 1 1)) 6 1 rfl (by kernel_rfl) (by kernel_rfl) (by kernel_rfl) (by kernel_rfl) (fun _ _ d _ _ h => by cases d <;> exact h) lc ?_
    simp only [List.take_succ_cons, List.take_zero]
    iterate 6 (first
      | (apply lexC_want
         · rfl
         · exact fun _ => rfl
         · (intro w' hw'; go_simp; try rfl)
         simp only [Act.put, List.setIfInBounds_toArray, List.set_cons_zero, List.set_cons_succ]))
    refine lexC_nil ?_
    refine anyC_one (i := 6) (by kernel_rfl) rfl (by rfl) (fun K1 hK1 => ?_)
    go_simp
    refine ⟨trivial, ?_⟩
    refine (callsIn_wide.2 HS.out).mono ?_
    rintro e w3 ⟨rfl, hb3⟩
    have lc3 : w3.cell? ⟨e0 + 5, 1, none⟩ = some (.slice (some ⟨e0 + 1, 0, none⟩) 1 1) := cells_at (LV.out.go (b := b) (grown_low hb3) hbe).all rfl
    refine hK1 _ _ lc3 ?_
    clear hK1 lc lc3
    refine anyC_done (by kernel_rfl) ?_
    replace FR : Hid (Frm w b w3) := FR.out.below hb3
    replace PA : Hid (PAt b l2 lv w3) := PA.out.below hb3
    replace BQ : Hid (BX w w3 q ⟨k, tx, n, .slice a L c, kids⟩) := BQ.out.go (b := b) (grown_low hb3) hlow
    replace NX : Hid (NF w w3 ⟨k, tx, n, .slice a L c, kids⟩ [q]) := NX.out.go (b := b) (grown_low hb3) hlow
    replace LV : Hid (Lev e0 w3) := LV.out.go (b := b) (grown_low hb3) hbe
    clear HS hb3
    obtain ⟨f0, f1, f2, f3⟩ := BQ.out.cs
    cases hs : Ps.sees l2 [[38, 38]]
    case false =>
      have hs' : Ps.sees l2 (Ps.ops 1) = false := hs
      simp only [Ps.ops] at hs'
      obtain ⟨p0, p1, p2, p3, pf, Z, hZ, ⟨r0, r1, r2, r3⟩, z1, z2, z3⟩ := FR.out.fin PA.out NX.out
      have HF : Hid (w.grownBy Z (some b) ∧ PEnd b lv (.bin 1) l w (.returned (.agg #[.int .u8 k, .string (Ln.bs tx), .int .i64 n, .slice a L c])) Z) := ⟨z1, .inr ⟨_, _, _, HE.out _ ⟨1, by simp [hs']⟩, ol2, by omega, z2, rfl, z3⟩⟩
      clear z1 z2 z3
      gi_wp2
      rw [← hZ]
      refine bodyPost_ret (v := .agg #[.int .u8 k, .string (Ln.bs tx), .int .i64 n, .slice a L c]) (by simp [results, Tryz.results176, go_sem, r0, r1, r2, r3]) rfl HF.out
    case true =>
    have hs' : Ps.sees l2 (Ps.ops 1) = true := hs
    simp only [Ps.ops] at hs'
    obtain ⟨ol4, ln4⟩ := ol2.sees hs (by decide)
    have HT : Hid (_) := ptake_any b lv l2 w3 PA.out ol2 ol4
    clear f0 f1 f2 f3
    gi_wp2
    refine ⟨trivial, ?_⟩
    refine (callsIn_wide.2 HT.out).mono ?_
    rintro e w4 ⟨rfl, hg4, hp4⟩
    have FR4 : Hid (Frm w b w4) := FR.out.go hg4
    have BQ4 : Hid (BX w w4 q ⟨k, tx, n, .slice a L c, kids⟩) := BQ.out.go hg4 hlow
    have NX4 : Hid (NF w w4 ⟨k, tx, n, .slice a L c, kids⟩ [q]) := NX.out.go hg4 hlow
    have LV4 : Hid (Lev e0 w4) := LV.out.go hg4 hbe
    have HB4 : Hid (_) := HB.out l2.tail w4.drew ol4 (by omega) (hp4.below (below_draw w4 1)) (LV4.out.go (b := b) (grown_low (below_draw w4 1)) hbe)
    obtain ⟨f0, f1, f2, f3⟩ := BQ4.out.cs
    have g0 : w4.drew.cell? ⟨q, 0, none⟩ = some (.int .u8 k) := f0
    have g1 : w4.drew.cell? ⟨q, 1, none⟩ = some (.string (Ln.bs tx)) := f1
    have g2 : w4.drew.cell? ⟨q, 2, none⟩ = some (.int .i64 n) := f2
    have g3 : w4.drew.cell? ⟨q, 3, none⟩ = some (.slice a L c) := f3
    clear HT hg4 hp4 FR PA BQ NX LV f0 f1 f2 f3
    gi_wp2
    refine region_lex (fun _ => True) 1 8 rfl (by kernel_rfl) (by kernel_rfl) (by kernel_rfl) (by kernel_rfl) (fun _ _ d _ _ h => by cases d <;> exact h) trivial ?_
    simp only [List.take_succ_cons, List.take_zero]
    iterate 1 (first
      | (apply lexC_want
         · rfl
         · exact fun _ => rfl
         · (intro w' hw'; go_simp; try rfl)
         simp only [Act.put, List.setIfInBounds_toArray, List.set_cons_zero, List.set_cons_succ]))
    refine lexC_nil ?_
    refine anyC_take (i := 2) (v := .pointer (some ⟨b, 0, none⟩)) rfl rfl (by kernel_rfl) (by kernel_rfl) (by kernel_rfl) (fun _ _ d _ _ h => by cases d <;> exact h) trivial (by rfl) (fun _ => rfl) (by intro w' _; go_simp; try rfl) ?_
    simp only [Act.put, List.getElem_toArray, List.getElem_cons_succ, List.getElem_cons_zero, List.setIfInBounds_toArray, List.set_cons_zero, List.set_cons_succ]
    refine anyC_take (i := 3) (v := .slice (some ⟨e0 + 5, 1, none⟩) 4 4) rfl rfl (by kernel_rfl) (by kernel_rfl) (by kernel_rfl) (fun _ _ d _ _ h => by cases d <;> exact h) trivial (by rfl) (fun _ => rfl) (by intro w' _; go_simp; try rfl) ?_
    simp only [Act.put, List.getElem_toArray, List.getElem_cons_succ, List.getElem_cons_zero, List.setIfInBounds_toArray, List.set_cons_zero, List.set_cons_succ]
    refine anyC_take (i := 4) (v := .slice (some ⟨e0 + 5, 2, none⟩) 3 3) rfl rfl (by kernel_rfl) (by kernel_rfl) (by kernel_rfl) (fun _ _ d _ _ h => by cases d <;> exact h) trivial (by rfl) (fun _ => rfl) (by intro w' _; go_simp; try rfl) ?_
    simp only [Act.put, List.getElem_toArray, List.getElem_cons_succ, List.getElem_cons_zero, List.setIfInBounds_toArray, List.set_cons_zero, List.set_cons_succ]
    refine anyC_two (i := 1) (j := 5) (by kernel_rfl) rfl rfl (by rfl) (by rfl) (fun K1 hK1 => ?_) (fun K1 hK1 => ?_)
    · go_simp
      refine hK1 _ _ trivial ?_
      clear hK1 g0 g1 g2 g3
      refine anyC_one (i := 5) (by kernel_rfl) rfl (by rfl) (fun K2 hK2 => ?_)
      go_simp
      refine ⟨trivial, ?_⟩
      refine (callsIn_wide.2 HB4.out).mono ?_
      rintro e w5 ⟨hg5, ⟨E, i, ⟨n2, hn2⟩, rfl⟩ | ⟨t, l3, v, ⟨n2, hn2⟩, ol5, ln5, hp5, rfl, nd5⟩⟩
      · exact ⟨rfl, FR4.out.grown.trans ((grown_low (below_draw w4 1)).trans hg5), .inl ⟨_, _, HE.out _ ⟨n2 + 1, by simp [hs', hn2]⟩, rfl⟩⟩
      have FD : Frm w b w4.drew := FR4.out.below (below_draw w4 1)
      have BD : BX w w4.drew q ⟨k, tx, n, .slice a L c, kids⟩ := BQ4.out.go (b := b) (grown_low (below_draw w4 1)) hlow
      obtain ⟨yk, yt, yn, ya, yL, yc, ykids, rfl, rfl, nf5⟩ := NF.of_end (X := [q]) nd5 FD (fun j hj => by simp only [List.mem_singleton] at hj; subst hj; exact BD.lt)
      have FR5 : Hid (Frm w b w5) := FD.go hg5
      have PA5 : Hid (PAt b l3 lv w5) := hp5
      have BQ5 : Hid (BX w w5 q ⟨k, tx, n, .slice a L c, kids⟩) := BD.go hg5 hlow
      have NX5 : Hid (NF w w5 ⟨k, tx, n, .slice a L c, kids⟩ [q]) := (NX4.out.go (b := b) (grown_low (below_draw w4 1)) hlow).go hg5 hlow
      have NY5 : Hid (NF w w5 ⟨yk, yt, yn, .slice ya yL yc, ykids⟩ [q]) := nf5
      have LV5 : Hid (Lev e0 w5) := (LV4.out.go (b := b) (grown_low (below_draw w4 1)) hbe).go hg5 hbe
      have f50 := BQ5.out.cs
      clear nf5 nd5 hp5 hg5 FD BD HB
      refine hK2 _ _ trivial ?_
      clear hK2 f50
      refine anyC_one (i := 6) (by kernel_rfl) rfl (by rfl) (fun K3 hK3 => ?_)
      go_simp
      have F5 : Frm w b w5 := FR5.out
      have hlt5 := F5.lt
      obtain ⟨R, hR⟩ : ∃ R, R = w5.alloc (.cells #[.int .u8 k, .string (Ln.bs tx), .int .i64 n, .slice a L c, .int .u8 yk, .string (Ln.bs yt), .int .i64 yn, .slice ya yL yc] 25) := ⟨_, rfl⟩
      have bR : Below w5.heap.size w5 R := hR ▸ below_new w5 _
      have nk : NF w R ⟨24, (Ps.hd l2).text, 0, .slice (some ⟨w5.heap.size, 0, none⟩) 2 2, [N1.tr ⟨k, tx, n, .slice a L c, kids⟩, N1.tr ⟨yk, yt, yn, .slice ya yL yc, ykids⟩]⟩ [q] := by
        rw [hR]
        refine NF.kids F5 [⟨k, tx, n, .slice a L c, kids⟩, ⟨yk, yt, yn, .slice ya yL yc, ykids⟩] (fun z hz => ?_) (fun j hj => by simp only [List.mem_singleton] at hj; subst hj; exact BQ5.out.lt) (by simp) 24 (Ps.hd l2).text 0 (by omega) ol2.hd.1 (by omega)
        simp only [List.mem_cons, List.not_mem_nil, or_false] at hz
        rcases hz with rfl | rfl
        · exact NX5.out
        · exact NY5.out
      rw [← hR]
      refine hK3 _ _ trivial ?_
      clear hK3 hR
      refine anyC_one (i := 7) (by kernel_rfl) rfl (by rfl) (fun K4 hK4 => ?_)
      go_simp
      refine ⟨trivial, ?_⟩
      refine (callsIn_wide.2 (pnode_any 24 (Ln.bs (Ps.hd l2).text) (some ⟨w5.heap.size, 0, none⟩) 2 2 R)).mono ?_
      rintro e w6 ⟨rfl, hb6⟩
      refine hK4 _ _ trivial ?_
      clear hK4
      have b56 : Below w5.heap.size w5 w6 := below_then bR hb6
      have B6 := BQ5.out.go (b := b) (grown_low b56) hlow
      obtain ⟨⟨c0, p0⟩, ⟨c1, p1⟩, ⟨c2, p2⟩, ⟨c3, p3⟩, pf, Z, hZ, gz, FZ, PZ, BZ, NZ⟩ := B6.put (F5.below b56) (PA5.out.below b56) (nk.go (b := b) (grown_low hb6) hlow) (by simp)
      have HZ : Hid (Frm w b Z ∧ PAt b l3 lv Z ∧ BX w Z q ⟨24, (Ps.hd l2).text, 0, .slice (some ⟨w5.heap.size, 0, none⟩) 2 2, [N1.tr ⟨k, tx, n, .slice a L c, kids⟩, N1.tr ⟨yk, yt, yn, .slice ya yL yc, ykids⟩]⟩ ∧ NF w Z ⟨24, (Ps.hd l2).text, 0, .slice (some ⟨w5.heap.size, 0, none⟩) 2 2, [N1.tr ⟨k, tx, n, .slice a L c, kids⟩, N1.tr ⟨yk, yt, yn, .slice ya yL yc, ykids⟩]⟩ [q] ∧ Lev e0 Z) := ⟨FZ, PZ, BZ, NZ, (LV5.out.go (b := b) (grown_low b56) hbe).set gz hqe⟩
      obtain ⟨G, hG⟩ : ∃ G, G = w5.heap.size := ⟨_, rfl⟩
      rw [← hG] at hZ HZ ⊢
      clear hG nk bR hb6 b56 B6 FZ PZ BZ NZ gz F5 hlt5
      refine anyC_one (i := 8) (by kernel_rfl) rfl (by rfl) (fun K5 hK5 => ?_)
      go_simp
      rw [← hZ]
      refine hK5 _ _ trivial ?_
      clear hK5 hZ p0 p1 p2 p3 pf
      refine anyC_done (by kernel_rfl) ?_
      gi_wp2
      gi_roundg l3.length
      case measure => omega
      case rel =>
        refine ⟨24, (Ps.hd l2).text, 0, some ⟨G, 0, none⟩, 2, 2, [N1.tr ⟨k, tx, n, .slice a L c, kids⟩, N1.tr ⟨yk, yt, yn, .slice ya yL yc, ykids⟩], l3, rfl, ol5, by omega, HZ.out.1, HZ.out.2.1, HZ.out.2.2.1, HZ.out.2.2.2.1, HZ.out.2.2.2.2, fun r hr => HE.out r ?_⟩
        obtain ⟨n3, hn3⟩ := hr
        exact ⟨n2 + n3 + 1, by have e0 := Ps.go_le (show n2 ≤ n2 + n3 by omega) hn2; have e1 := Ps.go_le (show n3 ≤ n2 + n3 by omega) hn3; simp at e1; simp [hs', e0, e1]⟩
    · go_simp
      refine ⟨trivial, ?_⟩
      refine (callsIn_wide.2 HB4.out).mono ?_
      rintro e w5 ⟨hg5, ⟨E, i, ⟨n2, hn2⟩, rfl⟩ | ⟨t, l3, v, ⟨n2, hn2⟩, ol5, ln5, hp5, rfl, nd5⟩⟩
      · exact ⟨rfl, FR4.out.grown.trans ((grown_low (below_draw w4 1)).trans hg5), .inl ⟨_, _, HE.out _ ⟨n2 + 1, by simp [hs', hn2]⟩, rfl⟩⟩
      have FD : Frm w b w4.drew := FR4.out.below (below_draw w4 1)
      have BD : BX w w4.drew q ⟨k, tx, n, .slice a L c, kids⟩ := BQ4.out.go (b := b) (grown_low (below_draw w4 1)) hlow
      obtain ⟨yk, yt, yn, ya, yL, yc, ykids, rfl, rfl, nf5⟩ := NF.of_end (X := [q]) nd5 FD (fun j hj => by simp only [List.mem_singleton] at hj; subst hj; exact BD.lt)
      have FR5 : Hid (Frm w b w5) := FD.go hg5
      have PA5 : Hid (PAt b l3 lv w5) := hp5
      have BQ5 : Hid (BX w w5 q ⟨k, tx, n, .slice a L c, kids⟩) := BD.go hg5 hlow
      have NX5 : Hid (NF w w5 ⟨k, tx, n, .slice a L c, kids⟩ [q]) := (NX4.out.go (b := b) (grown_low (below_draw w4 1)) hlow).go hg5 hlow
      have NY5 : Hid (NF w w5 ⟨yk, yt, yn, .slice ya yL yc, ykids⟩ [q]) := nf5
      have LV5 : Hid (Lev e0 w5) := (LV4.out.go (b := b) (grown_low (below_draw w4 1)) hbe).go hg5 hbe
      have f50 := BQ5.out.cs
      clear nf5 nd5 hp5 hg5 FD BD HB
      refine hK1 _ _ trivial ?_
      clear hK1 g0 g1 g2 g3
      obtain ⟨g0, g1, g2, g3⟩ := f50
      refine anyC_one (i := 1) (by kernel_rfl) rfl (by rfl) (fun K2 hK2 => ?_)
      go_simp
      refine hK2 _ _ trivial ?_
      clear hK2 g0 g1 g2 g3
      refine anyC_one (i := 6) (by kernel_rfl) rfl (by rfl) (fun K3 hK3 => ?_)
      go_simp
      have F5 : Frm w b w5 := FR5.out
      have hlt5 := F5.lt
      obtain ⟨R, hR⟩ : ∃ R, R = w5.alloc (.cells #[.int .u8 k, .string (Ln.bs tx), .int .i64 n, .slice a L c, .int .u8 yk, .string (Ln.bs yt), .int .i64 yn, .slice ya yL yc] 25) := ⟨_, rfl⟩
      have bR : Below w5.heap.size w5 R := hR ▸ below_new w5 _
      have nk : NF w R ⟨24, (Ps.hd l2).text, 0, .slice (some ⟨w5.heap.size, 0, none⟩) 2 2, [N1.tr ⟨k, tx, n, .slice a L c, kids⟩, N1.tr ⟨yk, yt, yn, .slice ya yL yc, ykids⟩]⟩ [q] := by
        rw [hR]
        refine NF.kids F5 [⟨k, tx, n, .slice a L c, kids⟩, ⟨yk, yt, yn, .slice ya yL yc, ykids⟩] (fun z hz => ?_) (fun j hj => by simp only [List.mem_singleton] at hj; subst hj; exact BQ5.out.lt) (by simp) 24 (Ps.hd l2).text 0 (by omega) ol2.hd.1 (by omega)
        simp only [List.mem_cons, List.not_mem_nil, or_false] at hz
        rcases hz with rfl | rfl
        · exact NX5.out
        · exact NY5.out
      rw [← hR]
      refine hK3 _ _ trivial ?_
      clear hK3 hR
      refine anyC_one (i := 7) (by kernel_rfl) rfl (by rfl) (fun K4 hK4 => ?_)
      go_simp
      refine ⟨trivial, ?_⟩
      refine (callsIn_wide.2 (pnode_any 24 (Ln.bs (Ps.hd l2).text) (some ⟨w5.heap.size, 0, none⟩) 2 2 R)).mono ?_
      rintro e w6 ⟨rfl, hb6⟩
      refine hK4 _ _ trivial ?_
      clear hK4
      have b56 : Below w5.heap.size w5 w6 := below_then bR hb6
      have B6 := BQ5.out.go (b := b) (grown_low b56) hlow
      obtain ⟨⟨c0, p0⟩, ⟨c1, p1⟩, ⟨c2, p2⟩, ⟨c3, p3⟩, pf, Z, hZ, gz, FZ, PZ, BZ, NZ⟩ := B6.put (F5.below b56) (PA5.out.below b56) (nk.go (b := b) (grown_low hb6) hlow) (by simp)
      have HZ : Hid (Frm w b Z ∧ PAt b l3 lv Z ∧ BX w Z q ⟨24, (Ps.hd l2).text, 0, .slice (some ⟨w5.heap.size, 0, none⟩) 2 2, [N1.tr ⟨k, tx, n, .slice a L c, kids⟩, N1.tr ⟨yk, yt, yn, .slice ya yL yc, ykids⟩]⟩ ∧ NF w Z ⟨24, (Ps.hd l2).text, 0, .slice (some ⟨w5.heap.size, 0, none⟩) 2 2, [N1.tr ⟨k, tx, n, .slice a L c, kids⟩, N1.tr ⟨yk, yt, yn, .slice ya yL yc, ykids⟩]⟩ [q] ∧ Lev e0 Z) := ⟨FZ, PZ, BZ, NZ, (LV5.out.go (b := b) (grown_low b56) hbe).set gz hqe⟩
      obtain ⟨G, hG⟩ : ∃ G, G = w5.heap.size := ⟨_, rfl⟩
      rw [← hG] at hZ HZ ⊢
      clear hG nk bR hb6 b56 B6 FZ PZ BZ NZ gz F5 hlt5
      refine anyC_one (i := 8) (by kernel_rfl) rfl (by rfl) (fun K5 hK5 => ?_)
      go_simp
      rw [← hZ]
      refine hK5 _ _ trivial ?_
      clear hK5 hZ p0 p1 p2 p3 pf
      refine anyC_done (by kernel_rfl) ?_
      gi_wp2
      gi_roundg l3.length
      case measure => omega
      case rel =>
        refine ⟨24, (Ps.hd l2).text, 0, some ⟨G, 0, none⟩, 2, 2, [N1.tr ⟨k, tx, n, .slice a L c, kids⟩, N1.tr ⟨yk, yt, yn, .slice ya yL yc, ykids⟩], l3, rfl, ol5, by omega, HZ.out.1, HZ.out.2.1, HZ.out.2.2.1, HZ.out.2.2.2.1, HZ.out.2.2.2.2, fun r hr => HE.out r ?_⟩
        obtain ⟨n3, hn3⟩ := hr
        exact ⟨n2 + n3 + 1, by have e0 := Ps.go_le (show n2 ≤ n2 + n3 by omega) hn2; have e1 := Ps.go_le (show n3 ≤ n2 + n3 by omega) hn3; simp at e1; simp [hs', e0, e1]⟩

set_option maxRecDepth 100000 in
set_option maxHeartbeats 8000000 in
theorem pbin2_of (m : Nat) (hB : BinAt 3 m) : BinAt 2 m := by
  intro b lv e0 l w hl hm hlv hP hL hbe
  show Calls Tryz.prog 176 #[.pointer (some ⟨b, 0, none⟩), .slice (some ⟨e0 + 5, 2, none⟩) 3 3] w _
  obtain ⟨A, hA⟩ : ∃ A, A = w.alloc (.cells #[.int .u8 0, .string ⟨#[]⟩, .int .i64 0, .slice none 0 0] 25) := ⟨_, rfl⟩
  have FR : Hid (Frm w b A) := hA ▸ Frm.new hP
  have PA : Hid (PAt b l lv A) := hA ▸ hP.below (below_new w _)
  have LV : Hid (Lev e0 A) := hA ▸ hL.go (b := b) (grown_low (below_new w _)) hbe
  have hlow := hP.lt
  have hew := hL.lt
  have HC : Hid (Calls Tryz.prog 176 #[.pointer (some ⟨b, 0, none⟩), .slice (some ⟨e0 + 5, 3, none⟩) 2 2] A fun e w' => A.grownBy w' (some b) ∧ PEnd b lv (.bin 3) l A e w') := hB b lv e0 l A hl hm hlv PA.out LV.out hbe
  have HB : Hid (∀ (l : List Lx.Tok) (w : World), OkL l → l.length ≤ m → PAt b l lv w → Lev e0 w → Calls Tryz.prog 176 #[.pointer (some ⟨b, 0, none⟩), .slice (some ⟨e0 + 5, 3, none⟩) 2 2] w fun e w' => w.grownBy w' (some b) ∧ PEnd b lv (.bin 3) l w e w') := fun l w h1 h2 h3 h4 => hB b lv e0 l w h1 h2 hlv h3 h4 hbe
  clear hP hB hL
  refine (callsIn_wide (n := 3)).1 ?_
  refine callsIn_of_wp Tryz.func176 rfl trivial ?_ rfl
  simp only [Tryz.ntmps176, List.size_toArray, List.length_cons, List.length_nil, Nat.reduceAdd, Nat.reduceSub, Array.replicate_succ, Array.replicate_zero, List.push_toArray, List.append_toArray, List.nil_append, List.cons_append]
  gi_wp2
  rw [← hA]
  clear hA
  refine ⟨trivial, ?_⟩
  refine (callsIn_wide.2 HC.out).mono ?_
  rintro e w1 ⟨hg1, ⟨E, i, ⟨n1, hn1⟩, rfl⟩ | ⟨t, l1, v, ⟨n1, hn1⟩, ol1, ln1, hp1, rfl, nd1⟩⟩
  · exact ⟨rfl, FR.out.grown.trans hg1, .inl ⟨_, _, ⟨n1 + 1, by simp [hn1]⟩, rfl⟩⟩
  obtain ⟨xk, xt, xn, xa, xL, xc, xkids, rfl, rfl, nf⟩ := NF.of_end (X := []) nd1 FR.out (by simp)
  have F1 : Frm w b w1 := FR.out.go hg1
  obtain ⟨Y, hY⟩ : ∃ Y, Y = w1.alloc (.cells #[.int .u8 xk, .string (Ln.bs xt), .int .i64 xn, .slice xa xL xc] 25) := ⟨_, rfl⟩
  have bY : Below w1.heap.size w1 Y := hY ▸ below_new w1 _
  have ST : Hid (Frm w b Y ∧ PAt b l1 lv Y ∧ BX w Y w1.heap.size ⟨xk, xt, xn, .slice xa xL xc, xkids⟩ ∧ NF w Y ⟨xk, xt, xn, .slice xa xL xc, xkids⟩ [w1.heap.size] ∧ Lev e0 Y ∧ ∀ r, Ps.Eats (.more 2 [.mk xk xt xn xkids]) l1 lv r → Ps.Eats (.bin 2) l lv r) := by
    refine ⟨F1.below bY, hp1.below bY, by rw [hY]; exact BX.new F1 ⟨xk, xt, xn, .slice xa xL xc, xkids⟩, (nf.ex (Nat.le_refl _)).go (b := b) (grown_low bY) hlow, (LV.out.go hg1 hbe).go (b := b) (grown_low bY) hbe, fun r hr => ?_⟩
    obtain ⟨n2, hn2⟩ := hr
    exact ⟨n1 + n2 + 1, by have e0 := Ps.go_le (show n1 ≤ n1 + n2 by omega) hn1; have e1 := Ps.go_le (show n2 ≤ n1 + n2 by omega) hn2; simp [e0, e1]⟩
  obtain ⟨q, hq⟩ : ∃ q, q = w1.heap.size := ⟨_, rfl⟩
  have hqe : e0 + 5 < q := by have := F1.lt; omega
  rw [← hq] at ST
  clear HC hg1 hp1 nd1 nf F1 bY FR PA LV hew
  gi_wp2
  rw [← hY, ← hq]
  clear hY hq
  gi_loopg [] (l1.length) (fun g wr => ∃ (k : Int) (tx : List UInt8) (n : Int) (a : Option Addr) (L c : Nat) (kids : List Tr) (l2 : List Lx.Tok), g = l2.length ∧ OkL l2 ∧ l2.length ≤ l1.length ∧ Frm w b wr ∧ PAt b l2 lv wr ∧ BX w wr q ⟨k, tx, n, .slice a L c, kids⟩ ∧ NF w wr ⟨k, tx, n, .slice a L c, kids⟩ [q] ∧ Lev e0 wr ∧ ∀ r, Ps.Eats (.more 2 [.mk k tx n kids]) l2 lv r → Ps.Eats (.bin 2) l lv r)
  case atStart => exact ⟨_, _, _, _, _, _, _, l1, rfl, ol1, Nat.le_refl _, ST.out.1, ST.out.2.1, ST.out.2.2.1, ST.out.2.2.2.1, ST.out.2.2.2.2.1, ST.out.2.2.2.2.2⟩
  case round =>
    clear ST
    obtain ⟨k, tx, n, a, L, c, kids, l2, hgk, ol2, ln2, hF, hP, hBx, hN, hLv, hE⟩ := hrel
    have bd : Below wr.heap.size wr wr.drew := below_draw wr 1
    have HS : Hid (_) := psees_any b lv _ l2 [[61, 61], [33, 61], [60], [60, 61], [62], [62, 61]] (.slice (some ⟨e0 + 2, 0, none⟩) 6 6) wr.drew (hP.below bd) ol2 (rowLow_at (S := [[61, 61], [33, 61], [60], [60, 61], [62], [62, 61]]) (hLv.go (b := b) (grown_low bd) hbe).r2 rfl (by decide)) (Nat.le_refl _) (by simp)
    have lc : wr.drew.cell? ⟨e0 + 5, 2, none⟩ = some (.slice (some ⟨e0 + 2, 0, none⟩) 6 6) := cells_at hLv.all rfl
    have FR : Hid (Frm w b wr.drew) := hF.below bd
    have PA : Hid (PAt b l2 lv wr.drew) := hP.below bd
    have BQ : Hid (BX w wr.drew q ⟨k, tx, n, .slice a L c, kids⟩) := hBx.go (b := b) (grown_low bd) hlow
    have NX : Hid (NF w wr.drew ⟨k, tx, n, .slice a L c, kids⟩ [q]) := hN.go (b := b) (grown_low bd) hlow
    have LV : Hid (Lev e0 wr.drew) := hLv.go (b := b) (grown_low bd) hbe
    have HE : Hid (∀ r, Ps.Eats (.more 2 [.mk k tx n kids]) l2 lv r → Ps.Eats (.bin 2) l lv r) := hE
    clear hF hP hBx hN hE hLv bd
    gi_wp2
    refine region_lex (fun z => z.cell? ⟨e0 + 5, 2, none⟩ = some (.slice (some ⟨e0 + 2, 0, none⟩) 6 6)) 6 1 rfl (by kernel_rfl) (by kernel_rfl) (by kernel_rfl) (by kernel_rfl) (fun _ _ d _ _ h => by cases d <;> exact h) lc ?_
    simp only [List.take_succ_cons, List.take_zero]
    iterate 6 (first
      | (apply lexC_want
         · rfl
         · exact fun _ => rfl
         · (intro w' hw'; go_simp; try rfl)
         simp only [Act.put, List.setIfInBounds_toArray, List.set_cons_zero, List.set_cons_succ]))
    refine lexC_nil ?_
    refine anyC_one (i := 6) (by kernel_rfl) rfl (by rfl) (fun K1 hK1 => ?_)
    go_simp
    refine ⟨trivial, ?_⟩
    refine (callsIn_wide.2 HS.out).mono ?_
    rintro e w3 ⟨rfl, hb3⟩
    have lc3 : w3.cell? ⟨e0 + 5, 2, none⟩ = some (.slice (some ⟨e0 + 2, 0, none⟩) 6 6) := cells_at (LV.out.go (b := b) (grown_low hb3) hbe).all rfl
    refine hK1 _ _ lc3 ?_
    clear hK1 lc lc3
    refine anyC_done (by kernel_rfl) ?_
    replace FR : Hid (Frm w b w3) := FR.out.below hb3
    replace PA : Hid (PAt b l2 lv w3) := PA.out.below hb3
    replace BQ : Hid (BX w w3 q ⟨k, tx, n, .slice a L c, kids⟩) := BQ.out.go (b := b) (grown_low hb3) hlow
    replace NX : Hid (NF w w3 ⟨k, tx, n, .slice a L c, kids⟩ [q]) := NX.out.go (b := b) (grown_low hb3) hlow
    replace LV : Hid (Lev e0 w3) := LV.out.go (b := b) (grown_low hb3) hbe
    clear HS hb3
    obtain ⟨f0, f1, f2, f3⟩ := BQ.out.cs
    cases hs : Ps.sees l2 [[61, 61], [33, 61], [60], [60, 61], [62], [62, 61]]
    case false =>
      have hs' : Ps.sees l2 (Ps.ops 2) = false := hs
      simp only [Ps.ops] at hs'
      obtain ⟨p0, p1, p2, p3, pf, Z, hZ, ⟨r0, r1, r2, r3⟩, z1, z2, z3⟩ := FR.out.fin PA.out NX.out
      have HF : Hid (w.grownBy Z (some b) ∧ PEnd b lv (.bin 2) l w (.returned (.agg #[.int .u8 k, .string (Ln.bs tx), .int .i64 n, .slice a L c])) Z) := ⟨z1, .inr ⟨_, _, _, HE.out _ ⟨1, by simp [hs']⟩, ol2, by omega, z2, rfl, z3⟩⟩
      clear z1 z2 z3
      gi_wp2
      rw [← hZ]
      refine bodyPost_ret (v := .agg #[.int .u8 k, .string (Ln.bs tx), .int .i64 n, .slice a L c]) (by simp [results, Tryz.results176, go_sem, r0, r1, r2, r3]) rfl HF.out
    case true =>
    have hs' : Ps.sees l2 (Ps.ops 2) = true := hs
    simp only [Ps.ops] at hs'
    obtain ⟨ol4, ln4⟩ := ol2.sees hs (by decide)
    have HT : Hid (_) := ptake_any b lv l2 w3 PA.out ol2 ol4
    clear f0 f1 f2 f3
    gi_wp2
    refine ⟨trivial, ?_⟩
    refine (callsIn_wide.2 HT.out).mono ?_
    rintro e w4 ⟨rfl, hg4, hp4⟩
    have FR4 : Hid (Frm w b w4) := FR.out.go hg4
    have BQ4 : Hid (BX w w4 q ⟨k, tx, n, .slice a L c, kids⟩) := BQ.out.go hg4 hlow
    have NX4 : Hid (NF w w4 ⟨k, tx, n, .slice a L c, kids⟩ [q]) := NX.out.go hg4 hlow
    have LV4 : Hid (Lev e0 w4) := LV.out.go hg4 hbe
    have HB4 : Hid (_) := HB.out l2.tail w4.drew ol4 (by omega) (hp4.below (below_draw w4 1)) (LV4.out.go (b := b) (grown_low (below_draw w4 1)) hbe)
    obtain ⟨f0, f1, f2, f3⟩ := BQ4.out.cs
    have g0 : w4.drew.cell? ⟨q, 0, none⟩ = some (.int .u8 k) := f0
    have g1 : w4.drew.cell? ⟨q, 1, none⟩ = some (.string (Ln.bs tx)) := f1
    have g2 : w4.drew.cell? ⟨q, 2, none⟩ = some (.int .i64 n) := f2
    have g3 : w4.drew.cell? ⟨q, 3, none⟩ = some (.slice a L c) := f3
    clear HT hg4 hp4 FR PA BQ NX LV f0 f1 f2 f3
    gi_wp2
    refine region_lex (fun _ => True) 1 8 rfl (by kernel_rfl) (by kernel_rfl) (by kernel_rfl) (by kernel_rfl) (fun _ _ d _ _ h => by cases d <;> exact h) trivial ?_
    simp only [List.take_succ_cons, List.take_zero]
    iterate 1 (first
      | (apply lexC_want
         · rfl
         · exact fun _ => rfl
         · (intro w' hw'; go_simp; try rfl)
         simp only [Act.put, List.setIfInBounds_toArray, List.set_cons_zero, List.set_cons_succ]))
    refine lexC_nil ?_
    refine anyC_take (i := 2) (v := .pointer (some ⟨b, 0, none⟩)) rfl rfl (by kernel_rfl) (by kernel_rfl) (by kernel_rfl) (fun _ _ d _ _ h => by cases d <;> exact h) trivial (by rfl) (fun _ => rfl) (by intro w' _; go_simp; try rfl) ?_
    simp only [Act.put, List.getElem_toArray, List.getElem_cons_succ, List.getElem_cons_zero, List.setIfInBounds_toArray, List.set_cons_zero, List.set_cons_succ]
    refine anyC_take (i := 3) (v := .slice (some ⟨e0 + 5, 2, none⟩) 3 3) rfl rfl (by kernel_rfl) (by kernel_rfl) (by kernel_rfl) (fun _ _ d _ _ h => by cases d <;> exact h) trivial (by rfl) (fun _ => rfl) (by intro w' _; go_simp; try rfl) ?_
    simp only [Act.put, List.getElem_toArray, List.getElem_cons_succ, List.getElem_cons_zero, List.setIfInBounds_toArray, List.set_cons_zero, List.set_cons_succ]
    refine anyC_take (i := 4) (v := .slice (some ⟨e0 + 5, 3, none⟩) 2 2) rfl rfl (by kernel_rfl) (by kernel_rfl) (by kernel_rfl) (fun _ _ d _ _ h => by cases d <;> exact h) trivial (by rfl) (fun _ => rfl) (by intro w' _; go_simp; try rfl) ?_
    simp only [Act.put, List.getElem_toArray, List.getElem_cons_succ, List.getElem_cons_zero, List.setIfInBounds_toArray, List.set_cons_zero, List.set_cons_succ]
    refine anyC_two (i := 1) (j := 5) (by kernel_rfl) rfl rfl (by rfl) (by rfl) (fun K1 hK1 => ?_) (fun K1 hK1 => ?_)
    · go_simp
      refine hK1 _ _ trivial ?_
      clear hK1 g0 g1 g2 g3
      refine anyC_one (i := 5) (by kernel_rfl) rfl (by rfl) (fun K2 hK2 => ?_)
      go_simp
      refine ⟨trivial, ?_⟩
      refine (callsIn_wide.2 HB4.out).mono ?_
      rintro e w5 ⟨hg5, ⟨E, i, ⟨n2, hn2⟩, rfl⟩ | ⟨t, l3, v, ⟨n2, hn2⟩, ol5, ln5, hp5, rfl, nd5⟩⟩
      · exact ⟨rfl, FR4.out.grown.trans ((grown_low (below_draw w4 1)).trans hg5), .inl ⟨_, _, HE.out _ ⟨n2 + 1, by simp [hs', hn2]⟩, rfl⟩⟩
      have FD : Frm w b w4.drew := FR4.out.below (below_draw w4 1)
      have BD : BX w w4.drew q ⟨k, tx, n, .slice a L c, kids⟩ := BQ4.out.go (b := b) (grown_low (below_draw w4 1)) hlow
      obtain ⟨yk, yt, yn, ya, yL, yc, ykids, rfl, rfl, nf5⟩ := NF.of_end (X := [q]) nd5 FD (fun j hj => by simp only [List.mem_singleton] at hj; subst hj; exact BD.lt)
      have FR5 : Hid (Frm w b w5) := FD.go hg5
      have PA5 : Hid (PAt b l3 lv w5) := hp5
      have BQ5 : Hid (BX w w5 q ⟨k, tx, n, .slice a L c, kids⟩) := BD.go hg5 hlow
      have NX5 : Hid (NF w w5 ⟨k, tx, n, .slice a L c, kids⟩ [q]) := (NX4.out.go (b := b) (grown_low (below_draw w4 1)) hlow).go hg5 hlow
      have NY5 : Hid (NF w w5 ⟨yk, yt, yn, .slice ya yL yc, ykids⟩ [q]) := nf5
      have LV5 : Hid (Lev e0 w5) := (LV4.out.go (b := b) (grown_low (below_draw w4 1)) hbe).go hg5 hbe
      have f50 := BQ5.out.cs
      clear nf5 nd5 hp5 hg5 FD BD HB
      refine hK2 _ _ trivial ?_
      clear hK2 f50
      refine anyC_one (i := 6) (by kernel_rfl) rfl (by rfl) (fun K3 hK3 => ?_)
      go_simp
      have F5 : Frm w b w5 := FR5.out
      have hlt5 := F5.lt
      obtain ⟨R, hR⟩ : ∃ R, R = w5.alloc (.cells #[.int .u8 k, .string (Ln.bs tx), .int .i64 n, .slice a L c, .int .u8 yk, .string (Ln.bs yt), .int .i64 yn, .slice ya yL yc] 25) := ⟨_, rfl⟩
      have bR : Below w5.heap.size w5 R := hR ▸ below_new w5 _
      have nk : NF w R ⟨24, (Ps.hd l2).text, 0, .slice (some ⟨w5.heap.size, 0, none⟩) 2 2, [N1.tr ⟨k, tx, n, .slice a L c, kids⟩, N1.tr ⟨yk, yt, yn, .slice ya yL yc, ykids⟩]⟩ [q] := by
        rw [hR]
        refine NF.kids F5 [⟨k, tx, n, .slice a L c, kids⟩, ⟨yk, yt, yn, .slice ya yL yc, ykids⟩] (fun z hz => ?_) (fun j hj => by simp only [List.mem_singleton] at hj; subst hj; exact BQ5.out.lt) (by simp) 24 (Ps.hd l2).text 0 (by omega) ol2.hd.1 (by omega)
        simp only [List.mem_cons, List.not_mem_nil, or_false] at hz
        rcases hz with rfl | rfl
        · exact NX5.out
        · exact NY5.out
      rw [← hR]
      refine hK3 _ _ trivial ?_
      clear hK3 hR
      refine anyC_one (i := 7) (by kernel_rfl) rfl (by rfl) (fun K4 hK4 => ?_)
      go_simp
      refine ⟨trivial, ?_⟩
      refine (callsIn_wide.2 (pnode_any 24 (Ln.bs (Ps.hd l2).text) (some ⟨w5.heap.size, 0, none⟩) 2 2 R)).mono ?_
      rintro e w6 ⟨rfl, hb6⟩
      refine hK4 _ _ trivial ?_
      clear hK4
      have b56 : Below w5.heap.size w5 w6 := below_then bR hb6
      have B6 := BQ5.out.go (b := b) (grown_low b56) hlow
      obtain ⟨⟨c0, p0⟩, ⟨c1, p1⟩, ⟨c2, p2⟩, ⟨c3, p3⟩, pf, Z, hZ, gz, FZ, PZ, BZ, NZ⟩ := B6.put (F5.below b56) (PA5.out.below b56) (nk.go (b := b) (grown_low hb6) hlow) (by simp)
      have HZ : Hid (Frm w b Z ∧ PAt b l3 lv Z ∧ BX w Z q ⟨24, (Ps.hd l2).text, 0, .slice (some ⟨w5.heap.size, 0, none⟩) 2 2, [N1.tr ⟨k, tx, n, .slice a L c, kids⟩, N1.tr ⟨yk, yt, yn, .slice ya yL yc, ykids⟩]⟩ ∧ NF w Z ⟨24, (Ps.hd l2).text, 0, .slice (some ⟨w5.heap.size, 0, none⟩) 2 2, [N1.tr ⟨k, tx, n, .slice a L c, kids⟩, N1.tr ⟨yk, yt, yn, .slice ya yL yc, ykids⟩]⟩ [q] ∧ Lev e0 Z) := ⟨FZ, PZ, BZ, NZ, (LV5.out.go (b := b) (grown_low b56) hbe).set gz hqe⟩
      obtain ⟨G, hG⟩ : ∃ G, G = w5.heap.size := ⟨_, rfl⟩
      rw [← hG] at hZ HZ ⊢
      clear hG nk bR hb6 b56 B6 FZ PZ BZ NZ gz F5 hlt5
      refine anyC_one (i := 8) (by kernel_rfl) rfl (by rfl) (fun K5 hK5 => ?_)
      go_simp
      rw [← hZ]
      refine hK5 _ _ trivial ?_
      clear hK5 hZ p0 p1 p2 p3 pf
      refine anyC_done (by kernel_rfl) ?_
      gi_wp2
      gi_roundg l3.length
      case measure => omega
      case rel =>
        refine ⟨24, (Ps.hd l2).text, 0, some ⟨G, 0, none⟩, 2, 2, [N1.tr ⟨k, tx, n, .slice a L c, kids⟩, N1.tr ⟨yk, yt, yn, .slice ya yL yc, ykids⟩], l3, rfl, ol5, by omega, HZ.out.1, HZ.out.2.1, HZ.out.2.2.1, HZ.out.2.2.2.1, HZ.out.2.2.2.2, fun r hr => HE.out r ?_⟩
        obtain ⟨n3, hn3⟩ := hr
        exact ⟨n2 + n3 + 1, by have e0 := Ps.go_le (show n2 ≤ n2 + n3 by omega) hn2; have e1 := Ps.go_le (show n3 ≤ n2 + n3 by omega) hn3; simp at e1; simp [hs', e0, e1]⟩
    · go_simp
      refine ⟨trivial, ?_⟩
      refine (callsIn_wide.2 HB4.out).mono ?_
      rintro e w5 ⟨hg5, ⟨E, i, ⟨n2, hn2⟩, rfl⟩ | ⟨t, l3, v, ⟨n2, hn2⟩, ol5, ln5, hp5, rfl, nd5⟩⟩
      · exact ⟨rfl, FR4.out.grown.trans ((grown_low (below_draw w4 1)).trans hg5), .inl ⟨_, _, HE.out _ ⟨n2 + 1, by simp [hs', hn2]⟩, rfl⟩⟩
      have FD : Frm w b w4.drew := FR4.out.below (below_draw w4 1)
      have BD : BX w w4.drew q ⟨k, tx, n, .slice a L c, kids⟩ := BQ4.out.go (b := b) (grown_low (below_draw w4 1)) hlow
      obtain ⟨yk, yt, yn, ya, yL, yc, ykids, rfl, rfl, nf5⟩ := NF.of_end (X := [q]) nd5 FD (fun j hj => by simp only [List.mem_singleton] at hj; subst hj; exact BD.lt)
      have FR5 : Hid (Frm w b w5) := FD.go hg5
      have PA5 : Hid (PAt b l3 lv w5) := hp5
      have BQ5 : Hid (BX w w5 q ⟨k, tx, n, .slice a L c, kids⟩) := BD.go hg5 hlow
      have NX5 : Hid (NF w w5 ⟨k, tx, n, .slice a L c, kids⟩ [q]) := (NX4.out.go (b := b) (grown_low (below_draw w4 1)) hlow).go hg5 hlow
      have NY5 : Hid (NF w w5 ⟨yk, yt, yn, .slice ya yL yc, ykids⟩ [q]) := nf5
      have LV5 : Hid (Lev e0 w5) := (LV4.out.go (b := b) (grown_low (below_draw w4 1)) hbe).go hg5 hbe
      have f50 := BQ5.out.cs
      clear nf5 nd5 hp5 hg5 FD BD HB
      refine hK1 _ _ trivial ?_
      clear hK1 g0 g1 g2 g3
      obtain ⟨g0, g1, g2, g3⟩ := f50
      refine anyC_one (i := 1) (by kernel_rfl) rfl (by rfl) (fun K2 hK2 => ?_)
      go_simp
      refine hK2 _ _ trivial ?_
      clear hK2 g0 g1 g2 g3
      refine anyC_one (i := 6) (by kernel_rfl) rfl (by rfl) (fun K3 hK3 => ?_)
      go_simp
      have F5 : Frm w b w5 := FR5.out
      have hlt5 := F5.lt
      obtain ⟨R, hR⟩ : ∃ R, R = w5.alloc (.cells #[.int .u8 k, .string (Ln.bs tx), .int .i64 n, .slice a L c, .int .u8 yk, .string (Ln.bs yt), .int .i64 yn, .slice ya yL yc] 25) := ⟨_, rfl⟩
      have bR : Below w5.heap.size w5 R := hR ▸ below_new w5 _
      have nk : NF w R ⟨24, (Ps.hd l2).text, 0, .slice (some ⟨w5.heap.size, 0, none⟩) 2 2, [N1.tr ⟨k, tx, n, .slice a L c, kids⟩, N1.tr ⟨yk, yt, yn, .slice ya yL yc, ykids⟩]⟩ [q] := by
        rw [hR]
        refine NF.kids F5 [⟨k, tx, n, .slice a L c, kids⟩, ⟨yk, yt, yn, .slice ya yL yc, ykids⟩] (fun z hz => ?_) (fun j hj => by simp only [List.mem_singleton] at hj; subst hj; exact BQ5.out.lt) (by simp) 24 (Ps.hd l2).text 0 (by omega) ol2.hd.1 (by omega)
        simp only [List.mem_cons, List.not_mem_nil, or_false] at hz
        rcases hz with rfl | rfl
        · exact NX5.out
        · exact NY5.out
      rw [← hR]
      refine hK3 _ _ trivial ?_
      clear hK3 hR
      refine anyC_one (i := 7) (by kernel_rfl) rfl (by rfl) (fun K4 hK4 => ?_)
      go_simp
      refine ⟨trivial, ?_⟩
      refine (callsIn_wide.2 (pnode_any 24 (Ln.bs (Ps.hd l2).text) (some ⟨w5.heap.size, 0, none⟩) 2 2 R)).mono ?_
      rintro e w6 ⟨rfl, hb6⟩
      refine hK4 _ _ trivial ?_
      clear hK4
      have b56 : Below w5.heap.size w5 w6 := below_then bR hb6
      have B6 := BQ5.out.go (b := b) (grown_low b56) hlow
      obtain ⟨⟨c0, p0⟩, ⟨c1, p1⟩, ⟨c2, p2⟩, ⟨c3, p3⟩, pf, Z, hZ, gz, FZ, PZ, BZ, NZ⟩ := B6.put (F5.below b56) (PA5.out.below b56) (nk.go (b := b) (grown_low hb6) hlow) (by simp)
      have HZ : Hid (Frm w b Z ∧ PAt b l3 lv Z ∧ BX w Z q ⟨24, (Ps.hd l2).text, 0, .slice (some ⟨w5.heap.size, 0, none⟩) 2 2, [N1.tr ⟨k, tx, n, .slice a L c, kids⟩, N1.tr ⟨yk, yt, yn, .slice ya yL yc, ykids⟩]⟩ ∧ NF w Z ⟨24, (Ps.hd l2).text, 0, .slice (some ⟨w5.heap.size, 0, none⟩) 2 2, [N1.tr ⟨k, tx, n, .slice a L c, kids⟩, N1.tr ⟨yk, yt, yn, .slice ya yL yc, ykids⟩]⟩ [q] ∧ Lev e0 Z) := ⟨FZ, PZ, BZ, NZ, (LV5.out.go (b := b) (grown_low b56) hbe).set gz hqe⟩
      obtain ⟨G, hG⟩ : ∃ G, G = w5.heap.size := ⟨_, rfl⟩
      rw [← hG] at hZ HZ ⊢
      clear hG nk bR hb6 b56 B6 FZ PZ BZ NZ gz F5 hlt5
      refine anyC_one (i := 8) (by kernel_rfl) rfl (by rfl) (fun K5 hK5 => ?_)
      go_simp
      rw [← hZ]
      refine hK5 _ _ trivial ?_
      clear hK5 hZ p0 p1 p2 p3 pf
      refine anyC_done (by kernel_rfl) ?_
      gi_wp2
      gi_roundg l3.length
      case measure => omega
      case rel =>
        refine ⟨24, (Ps.hd l2).text, 0, some ⟨G, 0, none⟩, 2, 2, [N1.tr ⟨k, tx, n, .slice a L c, kids⟩, N1.tr ⟨yk, yt, yn, .slice ya yL yc, ykids⟩], l3, rfl, ol5, by omega, HZ.out.1, HZ.out.2.1, HZ.out.2.2.1, HZ.out.2.2.2.1, HZ.out.2.2.2.2, fun r hr => HE.out r ?_⟩
        obtain ⟨n3, hn3⟩ := hr
        exact ⟨n2 + n3 + 1, by have e0 := Ps.go_le (show n2 ≤ n2 + n3 by omega) hn2; have e1 := Ps.go_le (show n3 ≤ n2 + n3 by omega) hn3; simp at e1; simp [hs', e0, e1]⟩

set_option maxRecDepth 100000 in
set_option maxHeartbeats 8000000 in
theorem pbin3_of (m : Nat) (hB : BinAt 4 m) : BinAt 3 m := by
  intro b lv e0 l w hl hm hlv hP hL hbe
  show Calls Tryz.prog 176 #[.pointer (some ⟨b, 0, none⟩), .slice (some ⟨e0 + 5, 3, none⟩) 2 2] w _
  obtain ⟨A, hA⟩ : ∃ A, A = w.alloc (.cells #[.int .u8 0, .string ⟨#[]⟩, .int .i64 0, .slice none 0 0] 25) := ⟨_, rfl⟩
  have FR : Hid (Frm w b A) := hA ▸ Frm.new hP
  have PA : Hid (PAt b l lv A) := hA ▸ hP.below (below_new w _)
  have LV : Hid (Lev e0 A) := hA ▸ hL.go (b := b) (grown_low (below_new w _)) hbe
  have hlow := hP.lt
  have hew := hL.lt
  have HC : Hid (Calls Tryz.prog 176 #[.pointer (some ⟨b, 0, none⟩), .slice (some ⟨e0 + 5, 4, none⟩) 1 1] A fun e w' => A.grownBy w' (some b) ∧ PEnd b lv (.bin 4) l A e w') := hB b lv e0 l A hl hm hlv PA.out LV.out hbe
  have HB : Hid (∀ (l : List Lx.Tok) (w : World), OkL l → l.length ≤ m → PAt b l lv w → Lev e0 w → Calls Tryz.prog 176 #[.pointer (some ⟨b, 0, none⟩), .slice (some ⟨e0 + 5, 4, none⟩) 1 1] w fun e w' => w.grownBy w' (some b) ∧ PEnd b lv (.bin 4) l w e w') := fun l w h1 h2 h3 h4 => hB b lv e0 l w h1 h2 hlv h3 h4 hbe
  clear hP hB hL
  refine (callsIn_wide (n := 3)).1 ?_
  refine callsIn_of_wp Tryz.func176 rfl trivial ?_ rfl
  simp only [Tryz.ntmps176, List.size_toArray, List.length_cons, List.length_nil, Nat.reduceAdd, Nat.reduceSub, Array.replicate_succ, Array.replicate_zero, List.push_toArray, List.append_toArray, List.nil_append, List.cons_append]
  gi_wp2
  rw [← hA]
  clear hA
  refine ⟨trivial, ?_⟩
  refine (callsIn_wide.2 HC.out).mono ?_
  rintro e w1 ⟨hg1, ⟨E, i, ⟨n1, hn1⟩, rfl⟩ | ⟨t, l1, v, ⟨n1, hn1⟩, ol1, ln1, hp1, rfl, nd1⟩⟩
  · exact ⟨rfl, FR.out.grown.trans hg1, .inl ⟨_, _, ⟨n1 + 1, by simp [hn1]⟩, rfl⟩⟩
  obtain ⟨xk, xt, xn, xa, xL, xc, xkids, rfl, rfl, nf⟩ := NF.of_end (X := []) nd1 FR.out (by simp)
  have F1 : Frm w b w1 := FR.out.go hg1
  obtain ⟨Y, hY⟩ : ∃ Y, Y = w1.alloc (.cells #[.int .u8 xk, .string (Ln.bs xt), .int .i64 xn, .slice xa xL xc] 25) := ⟨_, rfl⟩
  have bY : Below w1.heap.size w1 Y := hY ▸ below_new w1 _
  have ST : Hid (Frm w b Y ∧ PAt b l1 lv Y ∧ BX w Y w1.heap.size ⟨xk, xt, xn, .slice xa xL xc, xkids⟩ ∧ NF w Y ⟨xk, xt, xn, .slice xa xL xc, xkids⟩ [w1.heap.size] ∧ Lev e0 Y ∧ ∀ r, Ps.Eats (.more 3 [.mk xk xt xn xkids]) l1 lv r → Ps.Eats (.bin 3) l lv r) := by
    refine ⟨F1.below bY, hp1.below bY, by rw [hY]; exact BX.new F1 ⟨xk, xt, xn, .slice xa xL xc, xkids⟩, (nf.ex (Nat.le_refl _)).go (b := b) (grown_low bY) hlow, (LV.out.go hg1 hbe).go (b := b) (grown_low bY) hbe, fun r hr => ?_⟩
    obtain ⟨n2, hn2⟩ := hr
    exact ⟨n1 + n2 + 1, by have e0 := Ps.go_le (show n1 ≤ n1 + n2 by omega) hn1; have e1 := Ps.go_le (show n2 ≤ n1 + n2 by omega) hn2; simp [e0, e1]⟩
  obtain ⟨q, hq⟩ : ∃ q, q = w1.heap.size := ⟨_, rfl⟩
  have hqe : e0 + 5 < q := by have := F1.lt; omega
  rw [← hq] at ST
  clear HC hg1 hp1 nd1 nf F1 bY FR PA LV hew
  gi_wp2
  rw [← hY, ← hq]
  clear hY hq
  gi_loopg [] (l1.length) (fun g wr => ∃ (k : Int) (tx : List UInt8) (n : Int) (a : Option Addr) (L c : Nat) (kids : List Tr) (l2 : List Lx.Tok), g = l2.length ∧ OkL l2 ∧ l2.length ≤ l1.length ∧ Frm w b wr ∧ PAt b l2 lv wr ∧ BX w wr q ⟨k, tx, n, .slice a L c, kids⟩ ∧ NF w wr ⟨k, tx, n, .slice a L c, kids⟩ [q] ∧ Lev e0 wr ∧ ∀ r, Ps.Eats (.more 3 [.mk k tx n kids]) l2 lv r → Ps.Eats (.bin 3) l lv r)
  case atStart => exact ⟨_, _, _, _, _, _, _, l1, rfl, ol1, Nat.le_refl _, ST.out.1, ST.out.2.1, ST.out.2.2.1, ST.out.2.2.2.1, ST.out.2.2.2.2.1, ST.out.2.2.2.2.2⟩
  case round =>
    clear ST
    obtain ⟨k, tx, n, a, L, c, kids, l2, hgk, ol2, ln2, hF, hP, hBx, hN, hLv, hE⟩ := hrel
    have bd : Below wr.heap.size wr wr.drew := below_draw wr 1
    have HS : Hid (_) := psees_any b lv _ l2 [[43], [45]] (.slice (some ⟨e0 + 3, 0, none⟩) 2 2) wr.drew (hP.below bd) ol2 (rowLow_at (S := [[43], [45]]) (hLv.go (b := b) (grown_low bd) hbe).r3 rfl (by decide)) (Nat.le_refl _) (by simp)
    have lc : wr.drew.cell? ⟨e0 + 5, 3, none⟩ = some (.slice (some ⟨e0 + 3, 0, none⟩) 2 2) := cells_at hLv.all rfl
    have FR : Hid (Frm w b wr.drew) := hF.below bd
    have PA : Hid (PAt b l2 lv wr.drew) := hP.below bd
    have BQ : Hid (BX w wr.drew q ⟨k, tx, n, .slice a L c, kids⟩) := hBx.go (b := b) (grown_low bd) hlow
    have NX : Hid (NF w wr.drew ⟨k, tx, n, .slice a L c, kids⟩ [q]) := hN.go (b := b) (grown_low bd) hlow
    have LV : Hid (Lev e0 wr.drew) := hLv.go (b := b) (grown_low bd) hbe
    have HE : Hid (∀ r, Ps.Eats (.more 3 [.mk k tx n kids]) l2 lv r → Ps.Eats (.bin 3) l lv r) := hE
    clear hF hP hBx hN hE hLv bd
    gi_wp2
    refine region_lex (fun z => z.cell? ⟨e0 + 5, 3, none⟩ = some (.slice (some ⟨e0 + 3, 0, none⟩) 2 2)) 6 1 rfl (by kernel_rfl) (by kernel_rfl) (by kernel_rfl) (by kernel_rfl) (fun _ _ d _ _ h => by cases d <;> exact h) lc ?_
    simp only [List.take_succ_cons, List.take_zero]
    iterate 6 (first
      | (apply lexC_want
         · rfl
         · exact fun _ => rfl
         · (intro w' hw'; go_simp; try rfl)
         simp only [Act.put, List.setIfInBounds_toArray, List.set_cons_zero, List.set_cons_succ]))
    refine lexC_nil ?_
    refine anyC_one (i := 6) (by kernel_rfl) rfl (by rfl) (fun K1 hK1 => ?_)
    go_simp
    refine ⟨trivial, ?_⟩
    refine (callsIn_wide.2 HS.out).mono ?_
    rintro e w3 ⟨rfl, hb3⟩
    have lc3 : w3.cell? ⟨e0 + 5, 3, none⟩ = some (.slice (some ⟨e0 + 3, 0, none⟩) 2 2) := cells_at (LV.out.go (b := b) (grown_low hb3) hbe).all rfl
    refine hK1 _ _ lc3 ?_
    clear hK1 lc lc3
    refine anyC_done (by kernel_rfl) ?_
    replace FR : Hid (Frm w b w3) := FR.out.below hb3
    replace PA : Hid (PAt b l2 lv w3) := PA.out.below hb3
    replace BQ : Hid (BX w w3 q ⟨k, tx, n, .slice a L c, kids⟩) := BQ.out.go (b := b) (grown_low hb3) hlow
    replace NX : Hid (NF w w3 ⟨k, tx, n, .slice a L c, kids⟩ [q]) := NX.out.go (b := b) (grown_low hb3) hlow
    replace LV : Hid (Lev e0 w3) := LV.out.go (b := b) (grown_low hb3) hbe
    clear HS hb3
    obtain ⟨f0, f1, f2, f3⟩ := BQ.out.cs
    cases hs : Ps.sees l2 [[43], [45]]
    case false =>
      have hs' : Ps.sees l2 (Ps.ops 3) = false := hs
      simp only [Ps.ops] at hs'
      obtain ⟨p0, p1, p2, p3, pf, Z, hZ, ⟨r0, r1, r2, r3⟩, z1, z2, z3⟩ := FR.out.fin PA.out NX.out
      have HF : Hid (w.grownBy Z (some b) ∧ PEnd b lv (.bin 3) l w (.returned (.agg #[.int .u8 k, .string (Ln.bs tx), .int .i64 n, .slice a L c])) Z) := ⟨z1, .inr ⟨_, _, _, HE.out _ ⟨1, by simp [hs']⟩, ol2, by omega, z2, rfl, z3⟩⟩
      clear z1 z2 z3
      gi_wp2
      rw [← hZ]
      refine bodyPost_ret (v := .agg #[.int .u8 k, .string (Ln.bs tx), .int .i64 n, .slice a L c]) (by simp [results, Tryz.results176, go_sem, r0, r1, r2, r3]) rfl HF.out
    case true =>
    have hs' : Ps.sees l2 (Ps.ops 3) = true := hs
    simp only [Ps.ops] at hs'
    obtain ⟨ol4, ln4⟩ := ol2.sees hs (by decide)
    have HT : Hid (_) := ptake_any b lv l2 w3 PA.out ol2 ol4
    clear f0 f1 f2 f3
    gi_wp2
    refine ⟨trivial, ?_⟩
    refine (callsIn_wide.2 HT.out).mono ?_
    rintro e w4 ⟨rfl, hg4, hp4⟩
    have FR4 : Hid (Frm w b w4) := FR.out.go hg4
    have BQ4 : Hid (BX w w4 q ⟨k, tx, n, .slice a L c, kids⟩) := BQ.out.go hg4 hlow
    have NX4 : Hid (NF w w4 ⟨k, tx, n, .slice a L c, kids⟩ [q]) := NX.out.go hg4 hlow
    have LV4 : Hid (Lev e0 w4) := LV.out.go hg4 hbe
    have HB4 : Hid (_) := HB.out l2.tail w4.drew ol4 (by omega) (hp4.below (below_draw w4 1)) (LV4.out.go (b := b) (grown_low (below_draw w4 1)) hbe)
    obtain ⟨f0, f1, f2, f3⟩ := BQ4.out.cs
    have g0 : w4.drew.cell? ⟨q, 0, none⟩ = some (.int .u8 k) := f0
    have g1 : w4.drew.cell? ⟨q, 1, none⟩ = some (.string (Ln.bs tx)) := f1
    have g2 : w4.drew.cell? ⟨q, 2, none⟩ = some (.int .i64 n) := f2
    have g3 : w4.drew.cell? ⟨q, 3, none⟩ = some (.slice a L c) := f3
    clear HT hg4 hp4 FR PA BQ NX LV f0 f1 f2 f3
    gi_wp2
    refine region_lex (fun _ => True) 1 8 rfl (by kernel_rfl) (by kernel_rfl) (by kernel_rfl) (by kernel_rfl) (fun _ _ d _ _ h => by cases d <;> exact h) trivial ?_
    simp only [List.take_succ_cons, List.take_zero]
    iterate 1 (first
      | (apply lexC_want
         · rfl
         · exact fun _ => rfl
         · (intro w' hw'; go_simp; try rfl)
         simp only [Act.put, List.setIfInBounds_toArray, List.set_cons_zero, List.set_cons_succ]))
    refine lexC_nil ?_
    refine anyC_take (i := 2) (v := .pointer (some ⟨b, 0, none⟩)) rfl rfl (by kernel_rfl) (by kernel_rfl) (by kernel_rfl) (fun _ _ d _ _ h => by cases d <;> exact h) trivial (by rfl) (fun _ => rfl) (by intro w' _; go_simp; try rfl) ?_
    simp only [Act.put, List.getElem_toArray, List.getElem_cons_succ, List.getElem_cons_zero, List.setIfInBounds_toArray, List.set_cons_zero, List.set_cons_succ]
    refine anyC_take (i := 3) (v := .slice (some ⟨e0 + 5, 3, none⟩) 2 2) rfl rfl (by kernel_rfl) (by kernel_rfl) (by kernel_rfl) (fun _ _ d _ _ h => by cases d <;> exact h) trivial (by rfl) (fun _ => rfl) (by intro w' _; go_simp; try rfl) ?_
    simp only [Act.put, List.getElem_toArray, List.getElem_cons_succ, List.getElem_cons_zero, List.setIfInBounds_toArray, List.set_cons_zero, List.set_cons_succ]
    refine anyC_take (i := 4) (v := .slice (some ⟨e0 + 5, 4, none⟩) 1 1) rfl rfl (by kernel_rfl) (by kernel_rfl) (by kernel_rfl) (fun _ _ d _ _ h => by cases d <;> exact h) trivial (by rfl) (fun _ => rfl) (by intro w' _; go_simp; try rfl) ?_
    simp only [Act.put, List.getElem_toArray, List.getElem_cons_succ, List.getElem_cons_zero, List.setIfInBounds_toArray, List.set_cons_zero, List.set_cons_succ]
    refine anyC_two (i := 1) (j := 5) (by kernel_rfl) rfl rfl (by rfl) (by rfl) (fun K1 hK1 => ?_) (fun K1 hK1 => ?_)
    · go_simp
      refine hK1 _ _ trivial ?_
      clear hK1 g0 g1 g2 g3
      refine anyC_one (i := 5) (by kernel_rfl) rfl (by rfl) (fun K2 hK2 => ?_)
      go_simp
      refine ⟨trivial, ?_⟩
      refine (callsIn_wide.2 HB4.out).mono ?_
      rintro e w5 ⟨hg5, ⟨E, i, ⟨n2, hn2⟩, rfl⟩ | ⟨t, l3, v, ⟨n2, hn2⟩, ol5, ln5, hp5, rfl, nd5⟩⟩
      · exact ⟨rfl, FR4.out.grown.trans ((grown_low (below_draw w4 1)).trans hg5), .inl ⟨_, _, HE.out _ ⟨n2 + 1, by simp [hs', hn2]⟩, rfl⟩⟩
      have FD : Frm w b w4.drew := FR4.out.below (below_draw w4 1)
      have BD : BX w w4.drew q ⟨k, tx, n, .slice a L c, kids⟩ := BQ4.out.go (b := b) (grown_low (below_draw w4 1)) hlow
      obtain ⟨yk, yt, yn, ya, yL, yc, ykids, rfl, rfl, nf5⟩ := NF.of_end (X := [q]) nd5 FD (fun j hj => by simp only [List.mem_singleton] at hj; subst hj; exact BD.lt)
      have FR5 : Hid (Frm w b w5) := FD.go hg5
      have PA5 : Hid (PAt b l3 lv w5) := hp5
      have BQ5 : Hid (BX w w5 q ⟨k, tx, n, .slice a L c, kids⟩) := BD.go hg5 hlow
      have NX5 : Hid (NF w w5 ⟨k, tx, n, .slice a L c, kids⟩ [q]) := (NX4.out.go (b := b) (grown_low (below_draw w4 1)) hlow).go hg5 hlow
      have NY5 : Hid (NF w w5 ⟨yk, yt, yn, .slice ya yL yc, ykids⟩ [q]) := nf5
      have LV5 : Hid (Lev e0 w5) := (LV4.out.go (b := b) (grown_low (below_draw w4 1)) hbe).go hg5 hbe
      have f50 := BQ5.out.cs
      clear nf5 nd5 hp5 hg5 FD BD HB
      refine hK2 _ _ trivial ?_
      clear hK2 f50
      refine anyC_one (i := 6) (by kernel_rfl) rfl (by rfl) (fun K3 hK3 => ?_)
      go_simp
      have F5 : Frm w b w5 := FR5.out
      have hlt5 := F5.lt
      obtain ⟨R, hR⟩ : ∃ R, R = w5.alloc (.cells #[.int .u8 k, .string (Ln.bs tx), .int .i64 n, .slice a L c, .int .u8 yk, .string (Ln.bs yt), .int .i64 yn, .slice ya yL yc] 25) := ⟨_, rfl⟩
      have bR : Below w5.heap.size w5 R := hR ▸ below_new w5 _
      have nk : NF w R ⟨24, (Ps.hd l2).text, 0, .slice (some ⟨w5.heap.size, 0, none⟩) 2 2, [N1.tr ⟨k, tx, n, .slice a L c, kids⟩, N1.tr ⟨yk, yt, yn, .slice ya yL yc, ykids⟩]⟩ [q] := by
        rw [hR]
        refine NF.kids F5 [⟨k, tx, n, .slice a L c, kids⟩, ⟨yk, yt, yn, .slice ya yL yc, ykids⟩] (fun z hz => ?_) (fun j hj => by simp only [List.mem_singleton] at hj; subst hj; exact BQ5.out.lt) (by simp) 24 (Ps.hd l2).text 0 (by omega) ol2.hd.1 (by omega)
        simp only [List.mem_cons, List.not_mem_nil, or_false] at hz
        rcases hz with rfl | rfl
        · exact NX5.out
        · exact NY5.out
      rw [← hR]
      refine hK3 _ _ trivial ?_
      clear hK3 hR
      refine anyC_one (i := 7) (by kernel_rfl) rfl (by rfl) (fun K4 hK4 => ?_)
      go_simp
      refine ⟨trivial, ?_⟩
      refine (callsIn_wide.2 (pnode_any 24 (Ln.bs (Ps.hd l2).text) (some ⟨w5.heap.size, 0, none⟩) 2 2 R)).mono ?_
      rintro e w6 ⟨rfl, hb6⟩
      refine hK4 _ _ trivial ?_
      clear hK4
      have b56 : Below w5.heap.size w5 w6 := below_then bR hb6
      have B6 := BQ5.out.go (b := b) (grown_low b56) hlow
      obtain ⟨⟨c0, p0⟩, ⟨c1, p1⟩, ⟨c2, p2⟩, ⟨c3, p3⟩, pf, Z, hZ, gz, FZ, PZ, BZ, NZ⟩ := B6.put (F5.below b56) (PA5.out.below b56) (nk.go (b := b) (grown_low hb6) hlow) (by simp)
      have HZ : Hid (Frm w b Z ∧ PAt b l3 lv Z ∧ BX w Z q ⟨24, (Ps.hd l2).text, 0, .slice (some ⟨w5.heap.size, 0, none⟩) 2 2, [N1.tr ⟨k, tx, n, .slice a L c, kids⟩, N1.tr ⟨yk, yt, yn, .slice ya yL yc, ykids⟩]⟩ ∧ NF w Z ⟨24, (Ps.hd l2).text, 0, .slice (some ⟨w5.heap.size, 0, none⟩) 2 2, [N1.tr ⟨k, tx, n, .slice a L c, kids⟩, N1.tr ⟨yk, yt, yn, .slice ya yL yc, ykids⟩]⟩ [q] ∧ Lev e0 Z) := ⟨FZ, PZ, BZ, NZ, (LV5.out.go (b := b) (grown_low b56) hbe).set gz hqe⟩
      obtain ⟨G, hG⟩ : ∃ G, G = w5.heap.size := ⟨_, rfl⟩
      rw [← hG] at hZ HZ ⊢
      clear hG nk bR hb6 b56 B6 FZ PZ BZ NZ gz F5 hlt5
      refine anyC_one (i := 8) (by kernel_rfl) rfl (by rfl) (fun K5 hK5 => ?_)
      go_simp
      rw [← hZ]
      refine hK5 _ _ trivial ?_
      clear hK5 hZ p0 p1 p2 p3 pf
      refine anyC_done (by kernel_rfl) ?_
      gi_wp2
      gi_roundg l3.length
      case measure => omega
      case rel =>
        refine ⟨24, (Ps.hd l2).text, 0, some ⟨G, 0, none⟩, 2, 2, [N1.tr ⟨k, tx, n, .slice a L c, kids⟩, N1.tr ⟨yk, yt, yn, .slice ya yL yc, ykids⟩], l3, rfl, ol5, by omega, HZ.out.1, HZ.out.2.1, HZ.out.2.2.1, HZ.out.2.2.2.1, HZ.out.2.2.2.2, fun r hr => HE.out r ?_⟩
        obtain ⟨n3, hn3⟩ := hr
        exact ⟨n2 + n3 + 1, by have e0 := Ps.go_le (show n2 ≤ n2 + n3 by omega) hn2; have e1 := Ps.go_le (show n3 ≤ n2 + n3 by omega) hn3; simp at e1; simp [hs', e0, e1]⟩
    · go_simp
      refine ⟨trivial, ?_⟩
      refine (callsIn_wide.2 HB4.out).mono ?_
      rintro e w5 ⟨hg5, ⟨E, i, ⟨n2, hn2⟩, rfl⟩ | ⟨t, l3, v, ⟨n2, hn2⟩, ol5, ln5, hp5, rfl, nd5⟩⟩
      · exact ⟨rfl, FR4.out.grown.trans ((grown_low (below_draw w4 1)).trans hg5), .inl ⟨_, _, HE.out _ ⟨n2 + 1, by simp [hs', hn2]⟩, rfl⟩⟩
      have FD : Frm w b w4.drew := FR4.out.below (below_draw w4 1)
      have BD : BX w w4.drew q ⟨k, tx, n, .slice a L c, kids⟩ := BQ4.out.go (b := b) (grown_low (below_draw w4 1)) hlow
      obtain ⟨yk, yt, yn, ya, yL, yc, ykids, rfl, rfl, nf5⟩ := NF.of_end (X := [q]) nd5 FD (fun j hj => by simp only [List.mem_singleton] at hj; subst hj; exact BD.lt)
      have FR5 : Hid (Frm w b w5) := FD.go hg5
      have PA5 : Hid (PAt b l3 lv w5) := hp5
      have BQ5 : Hid (BX w w5 q ⟨k, tx, n, .slice a L c, kids⟩) := BD.go hg5 hlow
      have NX5 : Hid (NF w w5 ⟨k, tx, n, .slice a L c, kids⟩ [q]) := (NX4.out.go (b := b) (grown_low (below_draw w4 1)) hlow).go hg5 hlow
      have NY5 : Hid (NF w w5 ⟨yk, yt, yn, .slice ya yL yc, ykids⟩ [q]) := nf5
      have LV5 : Hid (Lev e0 w5) := (LV4.out.go (b := b) (grown_low (below_draw w4 1)) hbe).go hg5 hbe
      have f50 := BQ5.out.cs
      clear nf5 nd5 hp5 hg5 FD BD HB
      refine hK1 _ _ trivial ?_
      clear hK1 g0 g1 g2 g3
      obtain ⟨g0, g1, g2, g3⟩ := f50
      refine anyC_one (i := 1) (by kernel_rfl) rfl (by rfl) (fun K2 hK2 => ?_)
      go_simp
      refine hK2 _ _ trivial ?_
      clear hK2 g0 g1 g2 g3
      refine anyC_one (i := 6) (by kernel_rfl) rfl (by rfl) (fun K3 hK3 => ?_)
      go_simp
      have F5 : Frm w b w5 := FR5.out
      have hlt5 := F5.lt
      obtain ⟨R, hR⟩ : ∃ R, R = w5.alloc (.cells #[.int .u8 k, .string (Ln.bs tx), .int .i64 n, .slice a L c, .int .u8 yk, .string (Ln.bs yt), .int .i64 yn, .slice ya yL yc] 25) := ⟨_, rfl⟩
      have bR : Below w5.heap.size w5 R := hR ▸ below_new w5 _
      have nk : NF w R ⟨24, (Ps.hd l2).text, 0, .slice (some ⟨w5.heap.size, 0, none⟩) 2 2, [N1.tr ⟨k, tx, n, .slice a L c, kids⟩, N1.tr ⟨yk, yt, yn, .slice ya yL yc, ykids⟩]⟩ [q] := by
        rw [hR]
        refine NF.kids F5 [⟨k, tx, n, .slice a L c, kids⟩, ⟨yk, yt, yn, .slice ya yL yc, ykids⟩] (fun z hz => ?_) (fun j hj => by simp only [List.mem_singleton] at hj; subst hj; exact BQ5.out.lt) (by simp) 24 (Ps.hd l2).text 0 (by omega) ol2.hd.1 (by omega)
        simp only [List.mem_cons, List.not_mem_nil, or_false] at hz
        rcases hz with rfl | rfl
        · exact NX5.out
        · exact NY5.out
      rw [← hR]
      refine hK3 _ _ trivial ?_
      clear hK3 hR
      refine anyC_one (i := 7) (by kernel_rfl) rfl (by rfl) (fun K4 hK4 => ?_)
      go_simp
      refine ⟨trivial, ?_⟩
      refine (callsIn_wide.2 (pnode_any 24 (Ln.bs (Ps.hd l2).text) (some ⟨w5.heap.size, 0, none⟩) 2 2 R)).mono ?_
      rintro e w6 ⟨rfl, hb6⟩
      refine hK4 _ _ trivial ?_
      clear hK4
      have b56 : Below w5.heap.size w5 w6 := below_then bR hb6
      have B6 := BQ5.out.go (b := b) (grown_low b56) hlow
      obtain ⟨⟨c0, p0⟩, ⟨c1, p1⟩, ⟨c2, p2⟩, ⟨c3, p3⟩, pf, Z, hZ, gz, FZ, PZ, BZ, NZ⟩ := B6.put (F5.below b56) (PA5.out.below b56) (nk.go (b := b) (grown_low hb6) hlow) (by simp)
      have HZ : Hid (Frm w b Z ∧ PAt b l3 lv Z ∧ BX w Z q ⟨24, (Ps.hd l2).text, 0, .slice (some ⟨w5.heap.size, 0, none⟩) 2 2, [N1.tr ⟨k, tx, n, .slice a L c, kids⟩, N1.tr ⟨yk, yt, yn, .slice ya yL yc, ykids⟩]⟩ ∧ NF w Z ⟨24, (Ps.hd l2).text, 0, .slice (some ⟨w5.heap.size, 0, none⟩) 2 2, [N1.tr ⟨k, tx, n, .slice a L c, kids⟩, N1.tr ⟨yk, yt, yn, .slice ya yL yc, ykids⟩]⟩ [q] ∧ Lev e0 Z) := ⟨FZ, PZ, BZ, NZ, (LV5.out.go (b := b) (grown_low b56) hbe).set gz hqe⟩
      obtain ⟨G, hG⟩ : ∃ G, G = w5.heap.size := ⟨_, rfl⟩
      rw [← hG] at hZ HZ ⊢
      clear hG nk bR hb6 b56 B6 FZ PZ BZ NZ gz F5 hlt5
      refine anyC_one (i := 8) (by kernel_rfl) rfl (by rfl) (fun K5 hK5 => ?_)
      go_simp
      rw [← hZ]
      refine hK5 _ _ trivial ?_
      clear hK5 hZ p0 p1 p2 p3 pf
      refine anyC_done (by kernel_rfl) ?_
      gi_wp2
      gi_roundg l3.length
      case measure => omega
      case rel =>
        refine ⟨24, (Ps.hd l2).text, 0, some ⟨G, 0, none⟩, 2, 2, [N1.tr ⟨k, tx, n, .slice a L c, kids⟩, N1.tr ⟨yk, yt, yn, .slice ya yL yc, ykids⟩], l3, rfl, ol5, by omega, HZ.out.1, HZ.out.2.1, HZ.out.2.2.1, HZ.out.2.2.2.1, HZ.out.2.2.2.2, fun r hr => HE.out r ?_⟩
        obtain ⟨n3, hn3⟩ := hr
        exact ⟨n2 + n3 + 1, by have e0 := Ps.go_le (show n2 ≤ n2 + n3 by omega) hn2; have e1 := Ps.go_le (show n3 ≤ n2 + n3 by omega) hn3; simp at e1; simp [hs', e0, e1]⟩

set_option maxRecDepth 100000 in
set_option maxHeartbeats 8000000 in
theorem pbin4_of (m : Nat) (hB : BinAt 5 m) : BinAt 4 m := by
  intro b lv e0 l w hl hm hlv hP hL hbe
  show Calls Tryz.prog 176 #[.pointer (some ⟨b, 0, none⟩), .slice (some ⟨e0 + 5, 4, none⟩) 1 1] w _
  obtain ⟨A, hA⟩ : ∃ A, A = w.alloc (.cells #[.int .u8 0, .string ⟨#[]⟩, .int .i64 0, .slice none 0 0] 25) := ⟨_, rfl⟩
  have FR : Hid (Frm w b A) := hA ▸ Frm.new hP
  have PA : Hid (PAt b l lv A) := hA ▸ hP.below (below_new w _)
  have LV : Hid (Lev e0 A) := hA ▸ hL.go (b := b) (grown_low (below_new w _)) hbe
  have hlow := hP.lt
  have hew := hL.lt
  have HC : Hid (Calls Tryz.prog 176 #[.pointer (some ⟨b, 0, none⟩), .slice (some ⟨e0 + 5, 4, none⟩) 0 0] A fun e w' => A.grownBy w' (some b) ∧ PEnd b lv (.bin 5) l A e w') := hB b lv e0 l A hl hm hlv PA.out LV.out hbe
  have HB : Hid (∀ (l : List Lx.Tok) (w : World), OkL l → l.length ≤ m → PAt b l lv w → Lev e0 w → Calls Tryz.prog 176 #[.pointer (some ⟨b, 0, none⟩), .slice (some ⟨e0 + 5, 4, none⟩) 0 0] w fun e w' => w.grownBy w' (some b) ∧ PEnd b lv (.bin 5) l w e w') := fun l w h1 h2 h3 h4 => hB b lv e0 l w h1 h2 hlv h3 h4 hbe
  clear hP hB hL
  refine (callsIn_wide (n := 3)).1 ?_
  refine callsIn_of_wp Tryz.func176 rfl trivial ?_ rfl
  simp only [Tryz.ntmps176, List.size_toArray, List.length_cons, List.length_nil, Nat.reduceAdd, Nat.reduceSub, Array.replicate_succ, Array.replicate_zero, List.push_toArray, List.append_toArray, List.nil_append, List.cons_append]
  gi_wp2
  rw [← hA]
  clear hA
  refine ⟨trivial, ?_⟩
  refine (callsIn_wide.2 HC.out).mono ?_
  rintro e w1 ⟨hg1, ⟨E, i, ⟨n1, hn1⟩, rfl⟩ | ⟨t, l1, v, ⟨n1, hn1⟩, ol1, ln1, hp1, rfl, nd1⟩⟩
  · exact ⟨rfl, FR.out.grown.trans hg1, .inl ⟨_, _, ⟨n1 + 1, by simp [hn1]⟩, rfl⟩⟩
  obtain ⟨xk, xt, xn, xa, xL, xc, xkids, rfl, rfl, nf⟩ := NF.of_end (X := []) nd1 FR.out (by simp)
  have F1 : Frm w b w1 := FR.out.go hg1
  obtain ⟨Y, hY⟩ : ∃ Y, Y = w1.alloc (.cells #[.int .u8 xk, .string (Ln.bs xt), .int .i64 xn, .slice xa xL xc] 25) := ⟨_, rfl⟩
  have bY : Below w1.heap.size w1 Y := hY ▸ below_new w1 _
  have ST : Hid (Frm w b Y ∧ PAt b l1 lv Y ∧ BX w Y w1.heap.size ⟨xk, xt, xn, .slice xa xL xc, xkids⟩ ∧ NF w Y ⟨xk, xt, xn, .slice xa xL xc, xkids⟩ [w1.heap.size] ∧ Lev e0 Y ∧ ∀ r, Ps.Eats (.more 4 [.mk xk xt xn xkids]) l1 lv r → Ps.Eats (.bin 4) l lv r) := by
    refine ⟨F1.below bY, hp1.below bY, by rw [hY]; exact BX.new F1 ⟨xk, xt, xn, .slice xa xL xc, xkids⟩, (nf.ex (Nat.le_refl _)).go (b := b) (grown_low bY) hlow, (LV.out.go hg1 hbe).go (b := b) (grown_low bY) hbe, fun r hr => ?_⟩
    obtain ⟨n2, hn2⟩ := hr
    exact ⟨n1 + n2 + 1, by have e0 := Ps.go_le (show n1 ≤ n1 + n2 by omega) hn1; have e1 := Ps.go_le (show n2 ≤ n1 + n2 by omega) hn2; simp [e0, e1]⟩
  obtain ⟨q, hq⟩ : ∃ q, q = w1.heap.size := ⟨_, rfl⟩
  have hqe : e0 + 5 < q := by have := F1.lt; omega
  rw [← hq] at ST
  clear HC hg1 hp1 nd1 nf F1 bY FR PA LV hew
  gi_wp2
  rw [← hY, ← hq]
  clear hY hq
  gi_loopg [] (l1.length) (fun g wr => ∃ (k : Int) (tx : List UInt8) (n : Int) (a : Option Addr) (L c : Nat) (kids : List Tr) (l2 : List Lx.Tok), g = l2.length ∧ OkL l2 ∧ l2.length ≤ l1.length ∧ Frm w b wr ∧ PAt b l2 lv wr ∧ BX w wr q ⟨k, tx, n, .slice a L c, kids⟩ ∧ NF w wr ⟨k, tx, n, .slice a L c, kids⟩ [q] ∧ Lev e0 wr ∧ ∀ r, Ps.Eats (.more 4 [.mk k tx n kids]) l2 lv r → Ps.Eats (.bin 4) l lv r)
  case atStart => exact ⟨_, _, _, _, _, _, _, l1, rfl, ol1, Nat.le_refl _, ST.out.1, ST.out.2.1, ST.out.2.2.1, ST.out.2.2.2.1, ST.out.2.2.2.2.1, ST.out.2.2.2.2.2⟩
  case round =>
    clear ST
    obtain ⟨k, tx, n, a, L, c, kids, l2, hgk, ol2, ln2, hF, hP, hBx, hN, hLv, hE⟩ := hrel
    have bd : Below wr.heap.size wr wr.drew := below_draw wr 1
    have HS : Hid (_) := psees_any b lv _ l2 [[42], [47], [37]] (.slice (some ⟨e0 + 4, 0, none⟩) 3 3) wr.drew (hP.below bd) ol2 (rowLow_at (S := [[42], [47], [37]]) (hLv.go (b := b) (grown_low bd) hbe).r4 rfl (by decide)) (Nat.le_refl _) (by simp)
    have lc : wr.drew.cell? ⟨e0 + 5, 4, none⟩ = some (.slice (some ⟨e0 + 4, 0, none⟩) 3 3) := cells_at hLv.all rfl
    have FR : Hid (Frm w b wr.drew) := hF.below bd
    have PA : Hid (PAt b l2 lv wr.drew) := hP.below bd
    have BQ : Hid (BX w wr.drew q ⟨k, tx, n, .slice a L c, kids⟩) := hBx.go (b := b) (grown_low bd) hlow
    have NX : Hid (NF w wr.drew ⟨k, tx, n, .slice a L c, kids⟩ [q]) := hN.go (b := b) (grown_low bd) hlow
    have LV : Hid (Lev e0 wr.drew) := hLv.go (b := b) (grown_low bd) hbe
    have HE : Hid (∀ r, Ps.Eats (.more 4 [.mk k tx n kids]) l2 lv r → Ps.Eats (.bin 4) l lv r) := hE
    clear hF hP hBx hN hE hLv bd
    gi_wp2
    refine region_lex (fun z => z.cell? ⟨e0 + 5, 4, none⟩ = some (.slice (some ⟨e0 + 4, 0, none⟩) 3 3)) 6 1 rfl (by kernel_rfl) (by kernel_rfl) (by kernel_rfl) (by kernel_rfl) (fun _ _ d _ _ h => by cases d <;> exact h) lc ?_
    simp only [List.take_succ_cons, List.take_zero]
    iterate 6 (first
      | (apply lexC_want
         · rfl
         · exact fun _ => rfl
         · (intro w' hw'; go_simp; try rfl)
         simp only [Act.put, List.setIfInBounds_toArray, List.set_cons_zero, List.set_cons_succ]))
    refine lexC_nil ?_
    refine anyC_one (i := 6) (by kernel_rfl) rfl (by rfl) (fun K1 hK1 => ?_)
    go_simp
    refine ⟨trivial, ?_⟩
    refine (callsIn_wide.2 HS.out).mono ?_
    rintro e w3 ⟨rfl, hb3⟩
    have lc3 : w3.cell? ⟨e0 + 5, 4, none⟩ = some (.slice (some ⟨e0 + 4, 0, none⟩) 3 3) := cells_at (LV.out.go (b := b) (grown_low hb3) hbe).all rfl
    refine hK1 _ _ lc3 ?_
    clear hK1 lc lc3
    refine anyC_done (by kernel_rfl) ?_
    replace FR : Hid (Frm w b w3) := FR.out.below hb3
    replace PA : Hid (PAt b l2 lv w3) := PA.out.below hb3
    replace BQ : Hid (BX w w3 q ⟨k, tx, n, .slice a L c, kids⟩) := BQ.out.go (b := b) (grown_low hb3) hlow
    replace NX : Hid (NF w w3 ⟨k, tx, n, .slice a L c, kids⟩ [q]) := NX.out.go (b := b) (grown_low hb3) hlow
    replace LV : Hid (Lev e0 w3) := LV.out.go (b := b) (grown_low hb3) hbe
    clear HS hb3
    obtain ⟨f0, f1, f2, f3⟩ := BQ.out.cs
    cases hs : Ps.sees l2 [[42], [47], [37]]
    case false =>
      have hs' : Ps.sees l2 (Ps.ops 4) = false := hs
      simp only [Ps.ops] at hs'
      obtain ⟨p0, p1, p2, p3, pf, Z, hZ, ⟨r0, r1, r2, r3⟩, z1, z2, z3⟩ := FR.out.fin PA.out NX.out
      have HF : Hid (w.grownBy Z (some b) ∧ PEnd b lv (.bin 4) l w (.returned (.agg #[.int .u8 k, .string (Ln.bs tx), .int .i64 n, .slice a L c])) Z) := ⟨z1, .inr ⟨_, _, _, HE.out _ ⟨1, by simp [hs']⟩, ol2, by omega, z2, rfl, z3⟩⟩
      clear z1 z2 z3
      gi_wp2
      rw [← hZ]
      refine bodyPost_ret (v := .agg #[.int .u8 k, .string (Ln.bs tx), .int .i64 n, .slice a L c]) (by simp [results, Tryz.results176, go_sem, r0, r1, r2, r3]) rfl HF.out
    case true =>
    have hs' : Ps.sees l2 (Ps.ops 4) = true := hs
    simp only [Ps.ops] at hs'
    obtain ⟨ol4, ln4⟩ := ol2.sees hs (by decide)
    have HT : Hid (_) := ptake_any b lv l2 w3 PA.out ol2 ol4
    clear f0 f1 f2 f3
    gi_wp2
    refine ⟨trivial, ?_⟩
    refine (callsIn_wide.2 HT.out).mono ?_
    rintro e w4 ⟨rfl, hg4, hp4⟩
    have FR4 : Hid (Frm w b w4) := FR.out.go hg4
    have BQ4 : Hid (BX w w4 q ⟨k, tx, n, .slice a L c, kids⟩) := BQ.out.go hg4 hlow
    have NX4 : Hid (NF w w4 ⟨k, tx, n, .slice a L c, kids⟩ [q]) := NX.out.go hg4 hlow
    have LV4 : Hid (Lev e0 w4) := LV.out.go hg4 hbe
    have HB4 : Hid (_) := HB.out l2.tail w4.drew ol4 (by omega) (hp4.below (below_draw w4 1)) (LV4.out.go (b := b) (grown_low (below_draw w4 1)) hbe)
    obtain ⟨f0, f1, f2, f3⟩ := BQ4.out.cs
    have g0 : w4.drew.cell? ⟨q, 0, none⟩ = some (.int .u8 k) := f0
    have g1 : w4.drew.cell? ⟨q, 1, none⟩ = some (.string (Ln.bs tx)) := f1
    have g2 : w4.drew.cell? ⟨q, 2, none⟩ = some (.int .i64 n) := f2
    have g3 : w4.drew.cell? ⟨q, 3, none⟩ = some (.slice a L c) := f3
    clear HT hg4 hp4 FR PA BQ NX LV f0 f1 f2 f3
    gi_wp2
    refine region_lex (fun _ => True) 1 8 rfl (by kernel_rfl) (by kernel_rfl) (by kernel_rfl) (by kernel_rfl) (fun _ _ d _ _ h => by cases d <;> exact h) trivial ?_
    simp only [List.take_succ_cons, List.take_zero]
    iterate 1 (first
      | (apply lexC_want
         · rfl
         · exact fun _ => rfl
         · (intro w' hw'; go_simp; try rfl)
         simp only [Act.put, List.setIfInBounds_toArray, List.set_cons_zero, List.set_cons_succ]))
    refine lexC_nil ?_
    refine anyC_take (i := 2) (v := .pointer (some ⟨b, 0, none⟩)) rfl rfl (by kernel_rfl) (by kernel_rfl) (by kernel_rfl) (fun _ _ d _ _ h => by cases d <;> exact h) trivial (by rfl) (fun _ => rfl) (by intro w' _; go_simp; try rfl) ?_
    simp only [Act.put, List.getElem_toArray, List.getElem_cons_succ, List.getElem_cons_zero, List.setIfInBounds_toArray, List.set_cons_zero, List.set_cons_succ]
    refine anyC_take (i := 3) (v := .slice (some ⟨e0 + 5, 4, none⟩) 1 1) rfl rfl (by kernel_rfl) (by kernel_rfl) (by kernel_rfl) (fun _ _ d _ _ h => by cases d <;> exact h) trivial (by rfl) (fun _ => rfl) (by intro w' _; go_simp; try rfl) ?_
    simp only [Act.put, List.getElem_toArray, List.getElem_cons_succ, List.getElem_cons_zero, List.setIfInBounds_toArray, List.set_cons_zero, List.set_cons_succ]
    refine anyC_take (i := 4) (v := .slice (some ⟨e0 + 5, 4, none⟩) 0 0) rfl rfl (by kernel_rfl) (by kernel_rfl) (by kernel_rfl) (fun _ _ d _ _ h => by cases d <;> exact h) trivial (by rfl) (fun _ => rfl) (by intro w' _; go_simp; try rfl) ?_
    simp only [Act.put, List.getElem_toArray, List.getElem_cons_succ, List.getElem_cons_zero, List.setIfInBounds_toArray, List.set_cons_zero, List.set_cons_succ]
    refine anyC_two (i := 1) (j := 5) (by kernel_rfl) rfl rfl (by rfl) (by rfl) (fun K1 hK1 => ?_) (fun K1 hK1 => ?_)
    · go_simp
      refine hK1 _ _ trivial ?_
      clear hK1 g0 g1 g2 g3
      refine anyC_one (i := 5) (by kernel_rfl) rfl (by rfl) (fun K2 hK2 => ?_)
      go_simp
      refine ⟨trivial, ?_⟩
      refine (callsIn_wide.2 HB4.out).mono ?_
      rintro e w5 ⟨hg5, ⟨E, i, ⟨n2, hn2⟩, rfl⟩ | ⟨t, l3, v, ⟨n2, hn2⟩, ol5, ln5, hp5, rfl, nd5⟩⟩
      · exact ⟨rfl, FR4.out.grown.trans ((grown_low (below_draw w4 1)).trans hg5), .inl ⟨_, _, HE.out _ ⟨n2 + 1, by simp [hs', hn2]⟩, rfl⟩⟩
      have FD : Frm w b w4.drew := FR4.out.below (below_draw w4 1)
      have BD : BX w w4.drew q ⟨k, tx, n, .slice a L c, kids⟩ := BQ4.out.go (b := b) (grown_low (below_draw w4 1)) hlow
      obtain ⟨yk, yt, yn, ya, yL, yc, ykids, rfl, rfl, nf5⟩ := NF.of_end (X := [q]) nd5 FD (fun j hj => by simp only [List.mem_singleton] at hj; subst hj; exact BD.lt)
      have FR5 : Hid (Frm w b w5) := FD.go hg5
      have PA5 : Hid (PAt b l3 lv w5) := hp5
      have BQ5 : Hid (BX w w5 q ⟨k, tx, n, .slice a L c, kids⟩) := BD.go hg5 hlow
      have NX5 : Hid (NF w w5 ⟨k, tx, n, .slice a L c, kids⟩ [q]) := (NX4.out.go (b := b) (grown_low (below_draw w4 1)) hlow).go hg5 hlow
      have NY5 : Hid (NF w w5 ⟨yk, yt, yn, .slice ya yL yc, ykids⟩ [q]) := nf5
      have LV5 : Hid (Lev e0 w5) := (LV4.out.go (b := b) (grown_low (below_draw w4 1)) hbe).go hg5 hbe
      have f50 := BQ5.out.cs
      clear nf5 nd5 hp5 hg5 FD BD HB
      refine hK2 _ _ trivial ?_
      clear hK2 f50
      refine anyC_one (i := 6) (by kernel_rfl) rfl (by rfl) (fun K3 hK3 => ?_)
      go_simp
      have F5 : Frm w b w5 := FR5.out
      have hlt5 := F5.lt
      obtain ⟨R, hR⟩ : ∃ R, R = w5.alloc (.cells #[.int .u8 k, .string (Ln.bs tx), .int .i64 n, .slice a L c, .int .u8 yk, .string (Ln.bs yt), .int .i64 yn, .slice ya yL yc] 25) := ⟨_, rfl⟩
      have bR : Below w5.heap.size w5 R := hR ▸ below_new w5 _
      have nk : NF w R ⟨24, (Ps.hd l2).text, 0, .slice (some ⟨w5.heap.size, 0, none⟩) 2 2, [N1.tr ⟨k, tx, n, .slice a L c, kids⟩, N1.tr ⟨yk, yt, yn, .slice ya yL yc, ykids⟩]⟩ [q] := by
        rw [hR]
        refine NF.kids F5 [⟨k, tx, n, .slice a L c, kids⟩, ⟨yk, yt, yn, .slice ya yL yc, ykids⟩] (fun z hz => ?_) (fun j hj => by simp only [List.mem_singleton] at hj; subst hj; exact BQ5.out.lt) (by simp) 24 (Ps.hd l2).text 0 (by omega) ol2.hd.1 (by omega)
        simp only [List.mem_cons, List.not_mem_nil, or_false] at hz
        rcases hz with rfl | rfl
        · exact NX5.out
        · exact NY5.out
      rw [← hR]
      refine hK3 _ _ trivial ?_
      clear hK3 hR
      refine anyC_one (i := 7) (by kernel_rfl) rfl (by rfl) (fun K4 hK4 => ?_)
      go_simp
      refine ⟨trivial, ?_⟩
      refine (callsIn_wide.2 (pnode_any 24 (Ln.bs (Ps.hd l2).text) (some ⟨w5.heap.size, 0, none⟩) 2 2 R)).mono ?_
      rintro e w6 ⟨rfl, hb6⟩
      refine hK4 _ _ trivial ?_
      clear hK4
      have b56 : Below w5.heap.size w5 w6 := below_then bR hb6
      have B6 := BQ5.out.go (b := b) (grown_low b56) hlow
      obtain ⟨⟨c0, p0⟩, ⟨c1, p1⟩, ⟨c2, p2⟩, ⟨c3, p3⟩, pf, Z, hZ, gz, FZ, PZ, BZ, NZ⟩ := B6.put (F5.below b56) (PA5.out.below b56) (nk.go (b := b) (grown_low hb6) hlow) (by simp)
      have HZ : Hid (Frm w b Z ∧ PAt b l3 lv Z ∧ BX w Z q ⟨24, (Ps.hd l2).text, 0, .slice (some ⟨w5.heap.size, 0, none⟩) 2 2, [N1.tr ⟨k, tx, n, .slice a L c, kids⟩, N1.tr ⟨yk, yt, yn, .slice ya yL yc, ykids⟩]⟩ ∧ NF w Z ⟨24, (Ps.hd l2).text, 0, .slice (some ⟨w5.heap.size, 0, none⟩) 2 2, [N1.tr ⟨k, tx, n, .slice a L c, kids⟩, N1.tr ⟨yk, yt, yn, .slice ya yL yc, ykids⟩]⟩ [q] ∧ Lev e0 Z) := ⟨FZ, PZ, BZ, NZ, (LV5.out.go (b := b) (grown_low b56) hbe).set gz hqe⟩
      obtain ⟨G, hG⟩ : ∃ G, G = w5.heap.size := ⟨_, rfl⟩
      rw [← hG] at hZ HZ ⊢
      clear hG nk bR hb6 b56 B6 FZ PZ BZ NZ gz F5 hlt5
      refine anyC_one (i := 8) (by kernel_rfl) rfl (by rfl) (fun K5 hK5 => ?_)
      go_simp
      rw [← hZ]
      refine hK5 _ _ trivial ?_
      clear hK5 hZ p0 p1 p2 p3 pf
      refine anyC_done (by kernel_rfl) ?_
      gi_wp2
      gi_roundg l3.length
      case measure => omega
      case rel =>
        refine ⟨24, (Ps.hd l2).text, 0, some ⟨G, 0, none⟩, 2, 2, [N1.tr ⟨k, tx, n, .slice a L c, kids⟩, N1.tr ⟨yk, yt, yn, .slice ya yL yc, ykids⟩], l3, rfl, ol5, by omega, HZ.out.1, HZ.out.2.1, HZ.out.2.2.1, HZ.out.2.2.2.1, HZ.out.2.2.2.2, fun r hr => HE.out r ?_⟩
        obtain ⟨n3, hn3⟩ := hr
        exact ⟨n2 + n3 + 1, by have e0 := Ps.go_le (show n2 ≤ n2 + n3 by omega) hn2; have e1 := Ps.go_le (show n3 ≤ n2 + n3 by omega) hn3; simp at e1; simp [hs', e0, e1]⟩
    · go_simp
      refine ⟨trivial, ?_⟩
      refine (callsIn_wide.2 HB4.out).mono ?_
      rintro e w5 ⟨hg5, ⟨E, i, ⟨n2, hn2⟩, rfl⟩ | ⟨t, l3, v, ⟨n2, hn2⟩, ol5, ln5, hp5, rfl, nd5⟩⟩
      · exact ⟨rfl, FR4.out.grown.trans ((grown_low (below_draw w4 1)).trans hg5), .inl ⟨_, _, HE.out _ ⟨n2 + 1, by simp [hs', hn2]⟩, rfl⟩⟩
      have FD : Frm w b w4.drew := FR4.out.below (below_draw w4 1)
      have BD : BX w w4.drew q ⟨k, tx, n, .slice a L c, kids⟩ := BQ4.out.go (b := b) (grown_low (below_draw w4 1)) hlow
      obtain ⟨yk, yt, yn, ya, yL, yc, ykids, rfl, rfl, nf5⟩ := NF.of_end (X := [q]) nd5 FD (fun j hj => by simp only [List.mem_singleton] at hj; subst hj; exact BD.lt)
      have FR5 : Hid (Frm w b w5) := FD.go hg5
      have PA5 : Hid (PAt b l3 lv w5) := hp5
      have BQ5 : Hid (BX w w5 q ⟨k, tx, n, .slice a L c, kids⟩) := BD.go hg5 hlow
      have NX5 : Hid (NF w w5 ⟨k, tx, n, .slice a L c, kids⟩ [q]) := (NX4.out.go (b := b) (grown_low (below_draw w4 1)) hlow).go hg5 hlow
      have NY5 : Hid (NF w w5 ⟨yk, yt, yn, .slice ya yL yc, ykids⟩ [q]) := nf5
      have LV5 : Hid (Lev e0 w5) := (LV4.out.go (b := b) (grown_low (below_draw w4 1)) hbe).go hg5 hbe
      have f50 := BQ5.out.cs
      clear nf5 nd5 hp5 hg5 FD BD HB
      refine hK1 _ _ trivial ?_
      clear hK1 g0 g1 g2 g3
      obtain ⟨g0, g1, g2, g3⟩ := f50
      refine anyC_one (i := 1) (by kernel_rfl) rfl (by rfl) (fun K2 hK2 => ?_)
      go_simp
      refine hK2 _ _ trivial ?_
      clear hK2 g0 g1 g2 g3
      refine anyC_one (i := 6) (by kernel_rfl) rfl (by rfl) (fun K3 hK3 => ?_)
      go_simp
      have F5 : Frm w b w5 := FR5.out
      have hlt5 := F5.lt
      obtain ⟨R, hR⟩ : ∃ R, R = w5.alloc (.cells #[.int .u8 k, .string (Ln.bs tx), .int .i64 n, .slice a L c, .int .u8 yk, .string (Ln.bs yt), .int .i64 yn, .slice ya yL yc] 25) := ⟨_, rfl⟩
      have bR : Below w5.heap.size w5 R := hR ▸ below_new w5 _
      have nk : NF w R ⟨24, (Ps.hd l2).text, 0, .slice (some ⟨w5.heap.size, 0, none⟩) 2 2, [N1.tr ⟨k, tx, n, .slice a L c, kids⟩, N1.tr ⟨yk, yt, yn, .slice ya yL yc, ykids⟩]⟩ [q] := by
        rw [hR]
        refine NF.kids F5 [⟨k, tx, n, .slice a L c, kids⟩, ⟨yk, yt, yn, .slice ya yL yc, ykids⟩] (fun z hz => ?_) (fun j hj => by simp only [List.mem_singleton] at hj; subst hj; exact BQ5.out.lt) (by simp) 24 (Ps.hd l2).text 0 (by omega) ol2.hd.1 (by omega)
        simp only [List.mem_cons, List.not_mem_nil, or_false] at hz
        rcases hz with rfl | rfl
        · exact NX5.out
        · exact NY5.out
      rw [← hR]
      refine hK3 _ _ trivial ?_
      clear hK3 hR
      refine anyC_one (i := 7) (by kernel_rfl) rfl (by rfl) (fun K4 hK4 => ?_)
      go_simp
      refine ⟨trivial, ?_⟩
      refine (callsIn_wide.2 (pnode_any 24 (Ln.bs (Ps.hd l2).text) (some ⟨w5.heap.size, 0, none⟩) 2 2 R)).mono ?_
      rintro e w6 ⟨rfl, hb6⟩
      refine hK4 _ _ trivial ?_
      clear hK4
      have b56 : Below w5.heap.size w5 w6 := below_then bR hb6
      have B6 := BQ5.out.go (b := b) (grown_low b56) hlow
      obtain ⟨⟨c0, p0⟩, ⟨c1, p1⟩, ⟨c2, p2⟩, ⟨c3, p3⟩, pf, Z, hZ, gz, FZ, PZ, BZ, NZ⟩ := B6.put (F5.below b56) (PA5.out.below b56) (nk.go (b := b) (grown_low hb6) hlow) (by simp)
      have HZ : Hid (Frm w b Z ∧ PAt b l3 lv Z ∧ BX w Z q ⟨24, (Ps.hd l2).text, 0, .slice (some ⟨w5.heap.size, 0, none⟩) 2 2, [N1.tr ⟨k, tx, n, .slice a L c, kids⟩, N1.tr ⟨yk, yt, yn, .slice ya yL yc, ykids⟩]⟩ ∧ NF w Z ⟨24, (Ps.hd l2).text, 0, .slice (some ⟨w5.heap.size, 0, none⟩) 2 2, [N1.tr ⟨k, tx, n, .slice a L c, kids⟩, N1.tr ⟨yk, yt, yn, .slice ya yL yc, ykids⟩]⟩ [q] ∧ Lev e0 Z) := ⟨FZ, PZ, BZ, NZ, (LV5.out.go (b := b) (grown_low b56) hbe).set gz hqe⟩
      obtain ⟨G, hG⟩ : ∃ G, G = w5.heap.size := ⟨_, rfl⟩
      rw [← hG] at hZ HZ ⊢
      clear hG nk bR hb6 b56 B6 FZ PZ BZ NZ gz F5 hlt5
      refine anyC_one (i := 8) (by kernel_rfl) rfl (by rfl) (fun K5 hK5 => ?_)
      go_simp
      rw [← hZ]
      refine hK5 _ _ trivial ?_
      clear hK5 hZ p0 p1 p2 p3 pf
      refine anyC_done (by kernel_rfl) ?_
      gi_wp2
      gi_roundg l3.length
      case measure => omega
      case rel =>
        refine ⟨24, (Ps.hd l2).text, 0, some ⟨G, 0, none⟩, 2, 2, [N1.tr ⟨k, tx, n, .slice a L c, kids⟩, N1.tr ⟨yk, yt, yn, .slice ya yL yc, ykids⟩], l3, rfl, ol5, by omega, HZ.out.1, HZ.out.2.1, HZ.out.2.2.1, HZ.out.2.2.2.1, HZ.out.2.2.2.2, fun r hr => HE.out r ?_⟩
        obtain ⟨n3, hn3⟩ := hr
        exact ⟨n2 + n3 + 1, by have e0 := Ps.go_le (show n2 ≤ n2 + n3 by omega) hn2; have e1 := Ps.go_le (show n3 ≤ n2 + n3 by omega) hn3; simp at e1; simp [hs', e0, e1]⟩
end Go.Proofs.YtnndgjnihhafbaaGreatDoor

/-
  The walk of expression; all expressions, of any number of tokens.
-/
namespace Go.Proofs.YtnndgjnihhafbaaGreatDoor
open Go.RowKit Go.Shelf

attribute [local go_sem] Oper.semAt_some
attribute [local simp] Ps.go Ps.opn Ps.want Ps.name Ps.bnd Ps.bad N1.tr

set_option maxRecDepth 100000 in
set_option maxHeartbeats 4000000 in
theorem pexpr_of (m : Nat) (hB : BinAt 0 m) : PDoes 174 (.bin 0) [] m := by
  intro b lv l w hl hm hlv hP
  obtain ⟨A, hA⟩ : ∃ A, A = w.alloc (.cells #[.int .u8 0, .string ⟨#[]⟩, .int .i64 0, .slice none 0 0] 25) := ⟨_, rfl⟩
  have sA : A.heap.size = w.heap.size + 1 := by rw [hA, World.size_alloc]
  have bA : Below w.heap.size w A := hA ▸ below_new w _
  obtain ⟨V0, hV0⟩ : ∃ V, V = A.alloc (.cells #[.string ⟨#[124, 124]⟩] 9) := ⟨_, rfl⟩
  have s0 : V0.heap.size = w.heap.size + 1 + 1 := by rw [hV0, World.size_alloc, sA]
  have b0 : Below A.heap.size A V0 := hV0 ▸ below_new A _
  obtain ⟨V1, hV1⟩ : ∃ V, V = V0.alloc (.cells #[.string ⟨#[38, 38]⟩] 9) := ⟨_, rfl⟩
  have s1 : V1.heap.size = w.heap.size + 1 + 1 + 1 := by rw [hV1, World.size_alloc, s0]
  have b1 : Below V0.heap.size V0 V1 := hV1 ▸ below_new V0 _
  obtain ⟨V2, hV2⟩ : ∃ V, V = V1.alloc (.cells #[.string ⟨#[61, 61]⟩, .string ⟨#[33, 61]⟩, .string ⟨#[60]⟩, .string ⟨#[60, 61]⟩, .string ⟨#[62]⟩, .string ⟨#[62, 61]⟩] 9) := ⟨_, rfl⟩
  have s2 : V2.heap.size = w.heap.size + 1 + 1 + 1 + 1 := by rw [hV2, World.size_alloc, s1]
  have b2 : Below V1.heap.size V1 V2 := hV2 ▸ below_new V1 _
  obtain ⟨V3, hV3⟩ : ∃ V, V = V2.alloc (.cells #[.string ⟨#[43]⟩, .string ⟨#[45]⟩] 9) := ⟨_, rfl⟩
  have s3 : V3.heap.size = w.heap.size + 1 + 1 + 1 + 1 + 1 := by rw [hV3, World.size_alloc, s2]
  have b3 : Below V2.heap.size V2 V3 := hV3 ▸ below_new V2 _
  obtain ⟨V4, hV4⟩ : ∃ V, V = V3.alloc (.cells #[.string ⟨#[42]⟩, .string ⟨#[47]⟩, .string ⟨#[37]⟩] 9) := ⟨_, rfl⟩
  have s4 : V4.heap.size = w.heap.size + 1 + 1 + 1 + 1 + 1 + 1 := by rw [hV4, World.size_alloc, s3]
  have b4 : Below V3.heap.size V3 V4 := hV4 ▸ below_new V3 _
  obtain ⟨X, hX⟩ : ∃ V, V = V4.alloc (.cells #[.slice (some ⟨w.heap.size + 1, 0, none⟩) 1 1, .slice (some ⟨w.heap.size + 1 + 1, 0, none⟩) 1 1, .slice (some ⟨w.heap.size + 1 + 1 + 1, 0, none⟩) 6 6, .slice (some ⟨w.heap.size + 1 + 1 + 1 + 1, 0, none⟩) 2 2, .slice (some ⟨w.heap.size + 1 + 1 + 1 + 1 + 1, 0, none⟩) 3 3] 54) := ⟨_, rfl⟩
  have bX : Below V4.heap.size V4 X := hX ▸ below_new V4 _
  have n0 : V0.heap[w.heap.size + 1]? = some (.cells #[.string ⟨#[124, 124]⟩] 9 (0, 0)) := by
    rw [hV0, ← sA]; exact World.alloc_heap_new _ _
  have k0 : X.heap[w.heap.size + 1]? = some (.cells #[.string ⟨#[124, 124]⟩] 9 (0, 0)) := ((bX.block _ (by omega)).trans ((b4.block _ (by omega)).trans ((b3.block _ (by omega)).trans ((b2.block _ (by omega)).trans ((b1.block _ (by omega)).trans n0)))))
  have n1 : V1.heap[w.heap.size + 1 + 1]? = some (.cells #[.string ⟨#[38, 38]⟩] 9 (0, 0)) := by
    rw [hV1, ← s0]; exact World.alloc_heap_new _ _
  have k1 : X.heap[w.heap.size + 1 + 1]? = some (.cells #[.string ⟨#[38, 38]⟩] 9 (0, 0)) := ((bX.block _ (by omega)).trans ((b4.block _ (by omega)).trans ((b3.block _ (by omega)).trans ((b2.block _ (by omega)).trans n1))))
  have n2 : V2.heap[w.heap.size + 1 + 1 + 1]? = some (.cells #[.string ⟨#[61, 61]⟩, .string ⟨#[33, 61]⟩, .string ⟨#[60]⟩, .string ⟨#[60, 61]⟩, .string ⟨#[62]⟩, .string ⟨#[62, 61]⟩] 9 (0, 0)) := by
    rw [hV2, ← s1]; exact World.alloc_heap_new _ _
  have k2 : X.heap[w.heap.size + 1 + 1 + 1]? = some (.cells #[.string ⟨#[61, 61]⟩, .string ⟨#[33, 61]⟩, .string ⟨#[60]⟩, .string ⟨#[60, 61]⟩, .string ⟨#[62]⟩, .string ⟨#[62, 61]⟩] 9 (0, 0)) := ((bX.block _ (by omega)).trans ((b4.block _ (by omega)).trans ((b3.block _ (by omega)).trans n2)))
  have n3 : V3.heap[w.heap.size + 1 + 1 + 1 + 1]? = some (.cells #[.string ⟨#[43]⟩, .string ⟨#[45]⟩] 9 (0, 0)) := by
    rw [hV3, ← s2]; exact World.alloc_heap_new _ _
  have k3 : X.heap[w.heap.size + 1 + 1 + 1 + 1]? = some (.cells #[.string ⟨#[43]⟩, .string ⟨#[45]⟩] 9 (0, 0)) := ((bX.block _ (by omega)).trans ((b4.block _ (by omega)).trans n3))
  have n4 : V4.heap[w.heap.size + 1 + 1 + 1 + 1 + 1]? = some (.cells #[.string ⟨#[42]⟩, .string ⟨#[47]⟩, .string ⟨#[37]⟩] 9 (0, 0)) := by
    rw [hV4, ← s3]; exact World.alloc_heap_new _ _
  have k4 : X.heap[w.heap.size + 1 + 1 + 1 + 1 + 1]? = some (.cells #[.string ⟨#[42]⟩, .string ⟨#[47]⟩, .string ⟨#[37]⟩] 9 (0, 0)) := ((bX.block _ (by omega)).trans n4)
  have kX : X.heap[w.heap.size + 1 + 1 + 1 + 1 + 1 + 1]? = some (.cells #[.slice (some ⟨w.heap.size + 1, 0, none⟩) 1 1, .slice (some ⟨w.heap.size + 1 + 1, 0, none⟩) 1 1, .slice (some ⟨w.heap.size + 1 + 1 + 1, 0, none⟩) 6 6, .slice (some ⟨w.heap.size + 1 + 1 + 1 + 1, 0, none⟩) 2 2, .slice (some ⟨w.heap.size + 1 + 1 + 1 + 1 + 1, 0, none⟩) 3 3] 54 (0, 0)) := by rw [hX, ← s4]; exact World.alloc_heap_new _ _
  have bAX : Below A.heap.size A X := below_then (below_then (below_then (below_then (below_then b0 b1) b2) b3) b4) bX
  have FR : Hid (Frm w b X) := (hA ▸ Frm.new hP : Frm w b A).below bAX
  have PA : Hid (PAt b l lv X) := (hP.below bA).below bAX
  have LV : Lev (w.heap.size + 1) X := ⟨k0, k1, k2, k3, k4, kX⟩
  have HC : Hid (_) := hB b lv (w.heap.size + 1) l X hl hm hlv PA.out LV (by have := hP.lt; omega)
  clear hP hB n0 n1 n2 n3 n4 k0 k1 k2 k3 k4 kX bA b0 b1 b2 b3 b4 bX sA s0 s1 s2 s3 s4 bAX LV
  simp only [lvS] at HC
  go_enter Tryz.func174, Tryz.ntmps174
  go_wp2_with fail
  rw [← hA, ← hV0, ← hV1, ← hV2, ← hV3, ← hV4, ← hX]
  clear hA hV0 hV1 hV2 hV3 hV4 hX
  refine Calls.mono HC.out ?_
  rintro e w1 ⟨hg1, ⟨E, i, he, rfl⟩ | ⟨t, l1, v, he, ol1, ln1, hp1, rfl, nd1⟩⟩
  · exact ⟨rfl, FR.out.grown.trans hg1, .inl ⟨_, _, he, rfl⟩⟩
  obtain ⟨xk, xt, xn, xa, xL, xc, xkids, rfl, rfl, nf⟩ := NF.of_end (X := []) nd1 FR.out (by simp)
  obtain ⟨p0, p1, p2, p3, pf, Z, hZ, ⟨r0, r1, r2, r3⟩, z1, z2, z3⟩ := (FR.out.go hg1).fin hp1 nf
  have HF : Hid (w.grownBy Z (some b) ∧ PEnd b lv (.bin 0) l w (.returned (.agg #[.int .u8 xk, .string (Ln.bs xt), .int .i64 xn, .slice xa xL xc])) Z) := ⟨z1, .inr ⟨_, _, _, he, ol1, ln1, z2, rfl, z3⟩⟩
  clear z1 z2 z3 HC hg1 hp1 nd1 nf FR PA
  go_wp2
  rw [← hZ]
  refine bodyPost_ret (v := .agg #[.int .u8 xk, .string (Ln.bs xt), .int .i64 xn, .slice xa xL xc]) (by simp [results, Tryz.results174, go_sem, r0, r1, r2, r3]) rfl HF.out

theorem PDoes.less {F : Nat} {J : Ps.Job} {more : List Value} {m k : Nat} (h : PDoes F J more m) (hk : k ≤ m) : PDoes F J more k := fun b lv l w h1 h2 h3 h4 => h b lv l w h1 (Nat.le_trans h2 hk) h3 h4
theorem PDoes.none (F : Nat) (J : Ps.Job) (more : List Value) : PDoes F J more 0 := fun _ _ l _ h1 h2 _ _ => by
  cases l with
  | nil => exact h1.elim
  | cons t r => simp at h2
/-- All expressions. -/
theorem pexpr_all : ∀ m, PDoes 174 (.bin 0) [] m ∧ PDoes 179 .unary [] m ∧ ∀ s : List UInt8, s.length ≤ 1000000 → PDoes 177 (.call s) [.string (Ln.bs s)] m
  | 0 => ⟨PDoes.none _ _ _, PDoes.none _ _ _, fun _ _ => PDoes.none _ _ _⟩
  | m + 1 => by
    obtain ⟨hE, hU, hC⟩ := pexpr_all m
    have hW4 := pwithin_of m hE [40] [41] (by decide) (by decide)
    have hW9 := pwithin_of m hE [91] [93] (by decide) (by decide)
    have hPr := pprime_of m (pnameOrCall_of m hC) (parray_of m hE) hW4
    have hS := psuffix_of m hPr hW9
    have hU1 := punary_of m hU hS
    exact ⟨pexpr_of (m + 1) (pbin0_of _ (pbin1_of _ (pbin2_of _ (pbin3_of _ (pbin4_of _ (pbin5_of _ hU1)))))), hU1, fun s hs => pcall_of m hE s hs⟩
theorem pwithin_all (m : Nat) (x y : List UInt8) (hx : x ≠ []) (hy : y ≠ []) : PDoes 180 (.within x y) [.string (Ln.bs x), .string (Ln.bs y)] m := (pwithin_of m (pexpr_all m).1 x y hx hy).less (Nat.le_succ m)
end Go.Proofs.YtnndgjnihhafbaaGreatDoor

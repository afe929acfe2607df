/-
  Several texts in one, as they are: PsList, PsExpr2.
-/
import Derived.Test.YtnndgjnihhafbaaGreatDoorOpenAll
import Derived.Test.YtnndgjnihhafbaaGreatDoorTrAll
import Derived.Deep.LoopGhost
import Derived.Maps.AppendAt

/-
  Rows of nodes that the parser makes, one by one; the walk of listed.
-/
namespace Go.Proofs.YtnndgjnihhafbaaGreatDoor
open Go.RowKit Go.Shelf

attribute [local go_sem] Oper.semAt_some
attribute [local simp] Ps.go Ps.opn Ps.want Ps.name Ps.bnd Ps.bad N1.tr

/-- A row of nodes that a call, which began at w, has made. -/
structure Rw (a : Nat) (W : World) (v : Value) (xs : List N1) : Prop where
  own : W.ownsRow a 25 4 v xs.length (n1Cells xs)
  each : ∀ x ∈ xs, x.Fit ∧ RowR (fun k => a ≤ k ∧ k < W.heap.size ∧ v.ownBlock ≠ some k) W x.v x.kids
theorem Rw.nil (a : Nat) (W : World) : Rw a W (.slice none 0 0) [] := ⟨World.ownsRow_nil _ _ _ _, fun x hx => by cases hx⟩
theorem Rw.go {a b : Nat} {W W' : World} {v : Value} {xs : List N1} (h : Rw a W v xs) (hg : W.grownBy W' (some b)) (hb : b < a) : Rw a W' v xs := by
  refine ⟨⟨h.own.1, ?_⟩, fun x hx => ⟨(h.each x hx).1, (h.each x hx).2.keep (fun k hk => hg.block k hk.2.1 (by have := hk.1; simp; omega)) (fun _ hk => ⟨hk.1, Nat.lt_of_lt_of_le hk.2.1 hg.size, hk.2.2⟩)⟩⟩
  rcases h.own.2 with h0 | ⟨g, cap, cur, hv, hbg, hgb, rest⟩
  · exact .inl h0
  · exact .inr ⟨g, cap, cur, hv, hbg, (hg.block g (Array.getElem?_eq_some_iff.1 hgb).1 (by simp; omega)).trans hgb, rest⟩
theorem Rw.row {a c : Nat} {W : World} {v : Value} {xs : List N1} (h : Rw a W v xs) (hl : xs.length ≤ 1000000000) (hc : c ≤ a) : RowR (newS c W.heap.size) W v (xs.map N1.tr) := by
  refine .mk xs rfl ?_ (by omega) (fun x hx => (h.each x hx).1) (fun x hx => (h.each x hx).2.mono (fun k hk => ⟨Nat.le_trans hc hk.1, hk.2.1⟩))
  rcases h.own.2 with ⟨rfl, h0⟩ | ⟨g, cap, cur, rfl, hbg, hgb, hnc, -⟩
  · have : xs = [] := List.length_eq_zero_iff.1 h0
    subst this
    exact ⟨none, 0, 0, 0, rfl, ⟨Nat.le_refl _, fun _ => rfl⟩, fun h => absurd h (by simp), fun j u hu => by simp [n1Cells] at hu⟩
  · refine ⟨_, cap, g, 0, rfl, ⟨hnc, fun e => by cases e⟩, fun _ => ⟨rfl, by omega, (Array.getElem?_eq_some_iff.1 hgb).1⟩, fun j u hu => ?_⟩
    have hj : j < (n1Cells xs).length := (List.getElem?_eq_some_iff.1 hu).1
    rw [n1Cells_len] at hj
    rw [Nat.zero_add, h.own.cellAt j hj]
    exact hu
/-- One more node. -/
theorem Rw.app {a : Nat} {W V W' : World} {v v' : Value} {xs : List N1} {x : N1} {b : Nat} (h : Rw a W v xs) (hWV : W.grownBy V (some b)) (hb : b < a) (hf : x.Fit) (hr : RowR (newS W.heap.size V.heap.size) V x.v x.kids) (haW : a ≤ W.heap.size)
    (ho : W'.ownsRow a 25 4 v' (xs.length + 1) (n1Cells xs ++ x.cells)) (hg : V.grownBy W' v.ownBlock) (hat : v'.ownBlock = v.ownBlock ∨ v'.ownBlock = some V.heap.size) : Rw a W' v' (xs ++ [x]) := by
  have hV := h.go hWV hb
  have hob : ∀ q, v.ownBlock = some q → q < W.heap.size := fun q hq => by
    rcases h.own.2 with ⟨rfl, _⟩ | ⟨g, cap, cur, rfl, hbg, hgb, _⟩
    · cases hq
    · cases hq; exact (Array.getElem?_eq_some_iff.1 hgb).1
  have key : ∀ (S : Nat → Prop) (u : Value) (ts : List Tr), RowR S V u ts → (∀ k, S k → a ≤ k ∧ k < V.heap.size ∧ v.ownBlock ≠ some k) → RowR (fun k => a ≤ k ∧ k < W'.heap.size ∧ v'.ownBlock ≠ some k) W' u ts := fun S u ts hr hS =>
    hr.keep (fun k hk => hg.block k (hS k hk).2.1 (fun e => (hS k hk).2.2 e.symm)) (fun k hk => ⟨(hS k hk).1, Nat.lt_of_lt_of_le (hS k hk).2.1 hg.size, fun e => by
      rcases hat with e1 | e1
      · exact (hS k hk).2.2 (e1 ▸ e)
      · rw [e1] at e
        have := (hS k hk).2.1
        cases e
        omega⟩)
  refine ⟨?_, fun y hy => ?_⟩
  · have e : n1Cells (xs ++ [x]) = n1Cells xs ++ x.cells := by rw [n1Cells_append]; simp [n1Cells]
    rw [e, List.length_append]
    exact ho
  · rcases List.mem_append.1 hy with hy | hy
    · exact ⟨(hV.each y hy).1, key _ _ _ (hV.each y hy).2 (fun k hk => hk)⟩
    · rw [List.mem_singleton] at hy
      subst hy
      exact ⟨hf, key _ _ _ hr (fun k hk => ⟨Nat.le_trans haW hk.1, hk.2, fun e => by have := hob k e; have := hk.1; omega⟩)⟩
/-- The parser stays, where a row of nodes is appended to. -/
theorem PAt.rowed {b lv a n : Nat} {l : List Lx.Tok} {W Z : World} {v : Value} {xs : List Value} (h : PAt b l lv W) (ho : W.ownsRow a 25 4 v n xs) (hz : W.grownBy Z v.ownBlock) : PAt b l lv Z := by
  have hlt := h.lt
  obtain ⟨tb, o, cc, h1, ⟨tc, fr, h2⟩, h3, h4, h5, h6⟩ := h
  have h2l := (Array.getElem?_eq_some_iff.1 h2).1
  have hne : ∀ k (c : Array Value) (t : TypeId) (f : Nat × Nat), W.heap[k]? = some (.cells c t f) → t ≠ 25 → some k ≠ v.ownBlock := fun k c t f hk ht e => by
    rcases ho.2 with ⟨rfl, _⟩ | ⟨g, cap, cur, rfl, _, hgb, _⟩
    · cases e
    · obtain rfl : k = g := by simpa [Value.ownBlock] using e
      rw [hk] at hgb
      injection hgb with q
      injection q with _ q _
      exact ht q
  have hbn := hne b _ _ _ h3 (by decide)
  have htn := hne tb _ _ _ h2 (by decide)
  exact ⟨tb, o, cc, h1, ⟨tc, fr, (hz.block tb h2l htn).trans h2⟩, (hz.block b hlt hbn).trans h3, h4, h5, fun j u hu => (World.cell?_of_block (w := W) (a := ⟨tb, o + j, none⟩) (hz.block tb h2l htn)).trans (h6 j u hu)⟩
theorem grown_rowed {w W Z : World} {b a n : Nat} {v : Value} {xs : List Value} (h : w.grownBy W (some b)) (ho : W.ownsRow a 25 4 v n xs) (hz : W.grownBy Z v.ownBlock) (ha : w.heap.size ≤ a) : w.grownBy Z (some b) :=
  ⟨hz.os.trans h.os, hz.tape.trans h.tape, hz.output.trans h.output, Nat.le_trans h.size hz.size, fun k hk hn => (hz.block k (Nat.lt_of_lt_of_le hk h.size) (fun e => by
    rcases ho.2 with ⟨rfl, _⟩ | ⟨g, cap, cur, rfl, hbg, _⟩
    · cases e
    · obtain rfl : k = g := by simpa [Value.ownBlock] using e
      omega)).trans (h.block k hk hn)⟩
/-- What listed ends with. -/
def LEnd (b lv : Nat) (J : Ps.Job) (l : List Lx.Tok) (w : World) (e : Ending) (w' : World) : Prop :=
  (∃ E i, Ps.Eats J l lv (.bad E i) ∧ e = pan E i) ∨ ∃ ts l' v, Ps.Eats J l lv (.ok ts l') ∧ OkL l' ∧ l'.length < l.length ∧ PAt b l' lv w' ∧ e = .returned v ∧ RowR (newS w.heap.size w'.heap.size) w' v ts
theorem PAt.len {b lv : Nat} {l : List Lx.Tok} {W : World} (h : PAt b l lv W) : l.length ≤ 100000000 := by
  obtain ⟨_, _, _, -, -, -, -, h, -⟩ := h
  exact h

set_option maxRecDepth 100000 in
set_option maxHeartbeats 4000000 in
theorem plistedP_of (m : Nat) (hF : PDoes 152 .param [] m) (b lv : Nat) (l : List Lx.Tok) (w : World) (hl : OkL l) (hm : l.length ≤ m + 1) (hlv : lv ≤ 120) (hP : PAt b l lv w) :
    Calls Tryz.prog 151 #[.pointer (some ⟨b, 0, none⟩), .func (.func 152) #[.pointer (some ⟨b, 0, none⟩)] #[]] w fun e w' => w.grownBy w' (some b) ∧ LEnd b lv (.listed true) l w e w' := by
  obtain ⟨i0, hi0, hz0, hz1, hz2⟩ := info_parts info_node
  have hbw := hP.lt
  obtain ⟨V, hV⟩ : ∃ V, V = w.alloc (.cells #[.string ⟨#[40]⟩] 9) := ⟨_, rfl⟩
  have bV : Below w.heap.size w V := hV ▸ below_new w _
  have rV : RowLow V.heap.size V (.slice (some ⟨w.heap.size, 0, none⟩) 1 1) [[40]] := by rw [hV]; exact CellsLow.lit w [txtV [40]] 9 1
  have PA : Hid (PAt b l lv V) := hP.below bV
  have GR : Hid (w.grownBy V (some b)) := grown_low bV
  have HF : Hid (PDoes 152 .param [] m) := hF
  clear hP hF bV
  go_enter Tryz.func151, Tryz.ntmps151
  go_wp2_with fail
  rw [← hV]
  clear hV
  cases hs : Ps.sees l [[40]]
  · have HO : Hid (_) := popen_no b lv _ l [[40]] _ V PA.out hl rV (Nat.le_refl _) (by simp) hs
    refine Calls.mono HO.out ?_
    rintro e u1 ⟨rfl, hg⟩
    exact ⟨rfl, GR.out.trans hg, .inl ⟨_, _, ⟨1, by simp [hs]⟩, rfl⟩⟩
  by_cases h120 : lv = 120
  · have PB : Hid (PAt b l 120 V) := by have := PA.out; rwa [h120] at this
    have HO : Hid (_) := popen_deep b _ l [[40]] _ V PB.out hl rV (Nat.le_refl _) (by simp) hs
    refine Calls.mono HO.out ?_
    rintro e u1 ⟨rfl, hg⟩
    exact ⟨rfl, GR.out.trans hg, .inl ⟨_, _, ⟨1, by simp [hs, h120]⟩, rfl⟩⟩
  obtain ⟨ol1, ln1⟩ := hl.sees hs (by decide)
  have HO : Hid (_) := popen_yes b lv _ l [[40]] _ V PA.out hl rV (Nat.le_refl _) (by simp) hs (by decide) (by omega)
  refine Calls.mono HO.out ?_
  rintro e w1 ⟨rfl, hg1, hp1⟩
  replace GR : Hid (w.grownBy w1 (some b)) := GR.out.trans hg1
  clear HO hg1 rV PA
  obtain ⟨V2, hV2⟩ : ∃ V, V = w1.alloc (.cells #[.string ⟨#[41]⟩] 9) := ⟨_, rfl⟩
  have bV2 : Below w1.heap.size w1 V2 := hV2 ▸ below_new w1 _
  have rV2 : RowLow V2.heap.size V2 (.slice (some ⟨w1.heap.size, 0, none⟩) 1 1) [[41]] := by rw [hV2]; exact CellsLow.lit w1 [txtV [41]] 9 1
  have PA : Hid (PAt b l.tail (lv + 1) V2) := hp1.below bV2
  replace GR : Hid (w.grownBy V2 (some b)) := grown_below GR.out bV2
  have HS : Hid (_) := psees_any b (lv + 1) _ l.tail [[41]] _ V2 PA.out ol1 rV2 (Nat.le_refl _) (by simp)
  clear hp1 bV2 rV2
  go_wp2_with fail
  rw [← hV2]
  clear hV2
  refine Calls.mono HS.out ?_
  rintro e w2 ⟨rfl, hb2⟩
  replace GR : Hid (w.grownBy w2 (some b)) := grown_below GR.out hb2
  replace PA : Hid (PAt b l.tail (lv + 1) w2) := PA.out.below hb2
  clear HS hb2
  cases hs2 : Ps.sees l.tail [[41]]
  case true =>
    obtain ⟨ol2, ln2⟩ := ol1.sees hs2 (by decide)
    have HC : Hid (_) := pclose_yes b lv l.tail [41] w2 PA.out ol1 hs2 (by decide) (by omega)
    go_wp2_with fail
    refine Calls.mono HC.out ?_
    rintro e w3 ⟨rfl, hg3, hp3⟩
    have HE : Hid (w.grownBy w3 (some b) ∧ LEnd b lv (.listed true) l w (.returned (.slice none 0 0)) w3) := ⟨GR.out.trans hg3, .inr ⟨[], _, _, ⟨1, by simp [hs, h120, hs2]⟩, ol2, by omega, hp3, rfl, rowR_nil _ _⟩⟩
    clear HC hg3 hp3
    go_wp2
    go_ret
    exact HE.out
  case false =>
  have HC : Hid (_) := HF.out b (lv + 1) l.tail w2 ol1 (by omega) (by omega) PA.out
  go_wp2_with fail
  refine Calls.mono HC.out ?_
  rintro e w3 ⟨hg3, ⟨E, i, ⟨n1, hn1⟩, rfl⟩ | ⟨t, l2, v, ⟨n1, hn1⟩, ol2, ln2, hp3, rfl, nd3⟩⟩
  · exact ⟨rfl, GR.out.trans hg3, .inl ⟨_, _, ⟨n1 + 1, by simp [hs, h120, hs2, hn1]⟩, rfl⟩⟩
  have hle2 : w.heap.size ≤ w2.heap.size := GR.out.size
  obtain ⟨⟨xk, xt, xn, xv, xkids⟩, rfl, rfl, xf, xr⟩ := nd3
  obtain ⟨xa, xc, hxv⟩ := xr.slice
  simp only at hxv
  subst hxv
  have hlen := hp3.len
  obtain ⟨xL, hxL⟩ : ∃ N, N = xkids.length := ⟨_, rfl⟩
  simp only [N1.cells]
  rw [← hxL] at xf xr ⊢
  clear hxL
  have OW : Hid (w3.ownsRow w2.heap.size 25 4 (.slice none 0 0) 0 []) := World.ownsRow_nil _ _ _ _
  have bR := below_nw w3 (.cells #[.int .u8 xk, .string (Ln.bs xt), .int .i64 xn, .slice xa xL xc] 25)
  have SRC : Hid (_) := cells_new w3 [.int .u8 xk, .string (Ln.bs xt), .int .i64 xn, .slice xa xL xc] 25
  have OWR : Hid ((w3.alloc (.cells #[.int .u8 xk, .string (Ln.bs xt), .int .i64 xn, .slice xa xL xc] 25)).ownsRow w2.heap.size 25 4 (.slice none 0 0) 0 []) := World.ownsRow_nil _ _ _ _
  have HLE : Hid (w2.heap.size ≤ (w3.alloc (.cells #[.int .u8 xk, .string (Ln.bs xt), .int .i64 xn, .slice xa xL xc] 25)).heap.size) := Nat.le_trans hg3.size bR.size
  have HG3 : Hid (w2.grownBy w3 (some b) ∧ PAt b l2 (lv + 1) w3 ∧ (⟨xk, xt, xn, .slice xa xL xc, xkids⟩ : N1).Fit ∧ RowR (newS w2.heap.size w3.heap.size) w3 (.slice xa xL xc) xkids) := ⟨hg3, hp3, xf, xr⟩
  clear HC hg3 hp3 xf xr PA OW
  go_wp2_with (at_builtin; refine wpList_append_own_at _ rfl _ _ 23 rfl w2.heap.size 25 i0 (.agg #[.int .u8 0, .string ⟨#[]⟩, .int .i64 0, .slice none 0 0]) 4 56 Tryz.underlying23 hi0 hz0 hz1 hz2 rfl (by decide) _ _ _ rfl OWR.out ⟨w3.heap.size, 0, none⟩ 1 1 [.int .u8 xk, .string (Ln.bs xt), .int .i64 xn, .slice xa xL xc] rfl rfl SRC.out (by simp [Value.oneCell']) (by unfold maxLen; omega) (by omega) HLE.out ?_; intro v' W' hown' hgr _ hat)
  have hRw : Rw w2.heap.size W' v' [⟨xk, xt, xn, .slice xa xL xc, xkids⟩] := by
    refine Rw.app (Rw.nil w2.heap.size w2) (V := w3.alloc (.cells #[.int .u8 xk, .string (Ln.bs xt), .int .i64 xn, .slice xa xL xc] 25)) (grown_below HG3.out.1 bR) (by omega) HG3.out.2.2.1 ?_ (Nat.le_refl _) hown' hgr hat
    exact HG3.out.2.2.2.keep (fun k hk => bR.block k hk.2) (fun _ hk => ⟨hk.1, Nat.lt_of_lt_of_le hk.2 bR.size⟩)
  have ST : Hid (Rw w2.heap.size W' v' [⟨xk, xt, xn, .slice xa xL xc, xkids⟩] ∧ PAt b l2 (lv + 1) W' ∧ w.grownBy W' (some b) ∧ w2.heap.size ≤ W'.heap.size ∧ ∀ r, Ps.Eats (.lst true [N1.tr ⟨xk, xt, xn, .slice xa xL xc, xkids⟩]) l2 (lv + 1) r → Ps.Eats (.listed true) l lv r) := by
    refine ⟨hRw, (HG3.out.2.1.below bR).rowed OWR.out hgr, grown_rowed (grown_below (GR.out.trans HG3.out.1) bR) OWR.out hgr hle2, Nat.le_trans HLE.out hgr.size, fun r hr => ?_⟩
    obtain ⟨n2, hn2⟩ := hr
    exact ⟨n1 + n2 + 1, by have e0 := Ps.go_le (show n1 ≤ n1 + n2 by omega) hn1; have e1 := Ps.go_le (show n2 ≤ n1 + n2 by omega) hn2; simp at e0 e1; simp [hs, h120, hs2, e0, e1]⟩
  have hb2' : b < w2.heap.size := by omega
  clear hRw hown' hgr hat HG3 OWR SRC HLE bR GR
  go_wp2
  go_loopg [5] (l2.length) (fun g s5 wr => ∃ (xs : List N1) (l1 : List Lx.Tok), g = l1.length ∧ OkL l1 ∧ xs.length + l1.length ≤ 100000001 ∧ l1.length ≤ l2.length ∧ Rw w2.heap.size wr s5 xs ∧ PAt b l1 (lv + 1) wr ∧ w.grownBy wr (some b) ∧ w2.heap.size ≤ wr.heap.size ∧ ∀ r, Ps.Eats (.lst true (xs.map N1.tr)) l1 (lv + 1) r → Ps.Eats (.listed true) l lv r)
  case atStart => exact ⟨_, l2, rfl, ol2, by simp; omega, Nat.le_refl _, ST.out.1, ST.out.2.1, ST.out.2.2.1, ST.out.2.2.2.1, ST.out.2.2.2.2⟩
  case round =>
    clear ST
    obtain ⟨xs, l1, hgk, olr, hxl, hll, hRw, hPr, hGr, hW2, hEr⟩ := hrel
    obtain ⟨V3, hV3⟩ : ∃ V, V = wr.alloc (.cells #[.string ⟨#[44]⟩] 9) := ⟨_, rfl⟩
    have bV3 : Below wr.heap.size wr V3 := hV3 ▸ below_new wr _
    have rV3 : RowLow V3.heap.size V3 (.slice (some ⟨wr.heap.size, 0, none⟩) 1 1) [[44]] := by rw [hV3]; exact CellsLow.lit wr [txtV [44]] 9 1
    have PA : Hid (PAt b l1 (lv + 1) V3) := hPr.below bV3
    have GR : Hid (w.grownBy V3 (some b)) := grown_below hGr bV3
    have RW : Hid (Rw w2.heap.size V3 u5 xs) := hRw.go (b := b) (grown_low bV3) hb2'
    have HS : Hid (_) := psees_any b (lv + 1) _ l1 [[44]] _ V3 PA.out olr rV3 (Nat.le_refl _) (by simp)
    have HEr : Hid (∀ r, Ps.Eats (.lst true (xs.map N1.tr)) l1 (lv + 1) r → Ps.Eats (.listed true) l lv r) := hEr
    have hs3V : wr.heap.size ≤ V3.heap.size := bV3.size
    clear hPr hGr hRw hEr bV3 rV3
    go_wp2_with fail
    rw [← hV3]
    clear hV3
    refine Calls.mono HS.out ?_
    rintro e w4 ⟨rfl, hb4⟩
    have hs34 : V3.heap.size ≤ w4.heap.size := hb4.size
    replace GR : Hid (w.grownBy w4 (some b)) := grown_below GR.out hb4
    replace PA : Hid (PAt b l1 (lv + 1) w4) := PA.out.below hb4
    replace RW : Hid (Rw w2.heap.size w4 u5 xs) := RW.out.go (b := b) (grown_low hb4) hb2'
    clear HS hb4
    cases hs3 : Ps.sees l1 [[44]]
    case false =>
      cases hs4 : Ps.sees l1 [[41]]
      · have HC : Hid (_) := pclose_no b (lv + 1) l1 [41] w4 PA.out olr hs4
        go_wp2_with fail
        refine Calls.mono HC.out ?_
        rintro e w5 ⟨rfl, hg5⟩
        exact ⟨rfl, GR.out.trans hg5, .inl ⟨_, _, HEr.out _ ⟨1, by simp [hs3, hs4]⟩, rfl⟩⟩
      obtain ⟨ol5, ln5⟩ := olr.sees hs4 (by decide)
      have HC : Hid (_) := pclose_yes b lv l1 [41] w4 PA.out olr hs4 (by decide) (by omega)
      go_wp2_with fail
      refine Calls.mono HC.out ?_
      rintro e w5 ⟨rfl, hg5, hp5⟩
      have RW5 : Rw w2.heap.size w5 u5 xs := RW.out.go hg5 hb2'
      have HE : Hid (w.grownBy w5 (some b) ∧ LEnd b lv (.listed true) l w (.returned u5) w5) := ⟨GR.out.trans hg5, .inr ⟨_, _, _, HEr.out _ ⟨1, by simp [hs3, hs4]⟩, ol5, by omega, hp5, rfl, RW5.row (by omega) hle2⟩⟩
      clear HC hg5 hp5 RW5 RW
      go_wp2
      go_ret
      exact HE.out
    case true =>
    obtain ⟨ol5, ln5⟩ := olr.sees hs3 (by decide)
    have HT : Hid (_) := ptake_any b (lv + 1) l1 w4 PA.out olr ol5
    go_wp2_with fail
    refine Calls.mono HT.out ?_
    rintro e w5 ⟨rfl, hg5, hp5⟩
    have hle5 : w2.heap.size ≤ w5.heap.size := by have := hg5.size; omega
    replace GR : Hid (w.grownBy w5 (some b)) := GR.out.trans hg5
    replace RW : Hid (Rw w2.heap.size w5 u5 xs) := RW.out.go hg5 hb2'
    have HC : Hid (_) := HF.out b (lv + 1) l1.tail w5 ol5 (by omega) (by omega) hp5
    clear HT hg5 hp5 PA
    go_wp2_with fail
    refine Calls.mono HC.out ?_
    rintro e w6 ⟨hg6, ⟨E, i, ⟨n2, hn2⟩, rfl⟩ | ⟨t, l3, v, ⟨n2, hn2⟩, ol6, ln6, hp6, rfl, nd6⟩⟩
    · exact ⟨rfl, GR.out.trans hg6, .inl ⟨_, _, HEr.out _ ⟨n2 + 1, by simp [hs3, hn2]⟩, rfl⟩⟩
    obtain ⟨⟨yk, yt, yn, yv, ykids⟩, rfl, rfl, yf, yr⟩ := nd6
    obtain ⟨ya, yc, hyv⟩ := yr.slice
    simp only at hyv
    subst hyv
    obtain ⟨yL, hyL⟩ : ∃ N, N = ykids.length := ⟨_, rfl⟩
    simp only [N1.cells]
    rw [← hyL] at yf yr ⊢
    clear hyL
    have bR := below_nw w6 (.cells #[.int .u8 yk, .string (Ln.bs yt), .int .i64 yn, .slice ya yL yc] 25)
    have SRC : Hid (_) := cells_new w6 [.int .u8 yk, .string (Ln.bs yt), .int .i64 yn, .slice ya yL yc] 25
    have OWR : Hid ((w6.alloc (.cells #[.int .u8 yk, .string (Ln.bs yt), .int .i64 yn, .slice ya yL yc] 25)).ownsRow w2.heap.size 25 4 u5 xs.length (n1Cells xs)) := ((RW.out.go hg6 hb2').go (b := b) (grown_low bR) hb2').own
    have HLE : Hid (w2.heap.size ≤ (w6.alloc (.cells #[.int .u8 yk, .string (Ln.bs yt), .int .i64 yn, .slice ya yL yc] 25)).heap.size) := Nat.le_trans hle5 (Nat.le_trans hg6.size bR.size)
    obtain ⟨va, vc, hv5⟩ := slice_shape OWR.out
    obtain ⟨XL, hXL⟩ : ∃ N, N = xs.length := ⟨_, rfl⟩
    have HX : Hid (XL = xs.length) := hXL
    have HG6 : Hid (w5.grownBy w6 (some b) ∧ PAt b l3 (lv + 1) w6 ∧ (⟨yk, yt, yn, .slice ya yL yc, ykids⟩ : N1).Fit ∧ RowR (newS w5.heap.size w6.heap.size) w6 (.slice ya yL yc) ykids) := ⟨hg6, hp6, yf, yr⟩
    rw [← hXL] at OWR hxl hv5
    subst hv5
    clear HC hg6 hp6 yf yr hXL
    go_wp2_with (at_builtin; refine wpList_append_own_at _ rfl _ _ 23 rfl w2.heap.size 25 i0 (.agg #[.int .u8 0, .string ⟨#[]⟩, .int .i64 0, .slice none 0 0]) 4 56 Tryz.underlying23 hi0 hz0 hz1 hz2 rfl (by decide) _ _ _ rfl OWR.out ⟨w6.heap.size, 0, none⟩ 1 1 [.int .u8 yk, .string (Ln.bs yt), .int .i64 yn, .slice ya yL yc] rfl rfl SRC.out (by simp [Value.oneCell']) (by unfold maxLen; omega) (by omega) HLE.out ?_; intro v' W' hown' hgr _ hat)
    go_roundg l3.length
    case measure => omega
    case rel =>
      refine ⟨xs ++ [⟨yk, yt, yn, .slice ya yL yc, ykids⟩], l3, rfl, ol6, by have := HX.out; simp; omega, by omega, ?_, (HG6.out.2.1.below bR).rowed OWR.out hgr, grown_rowed (grown_below (GR.out.trans HG6.out.1) bR) OWR.out hgr hle2, Nat.le_trans HLE.out hgr.size, fun r hr => HEr.out r ?_⟩
      · refine Rw.app RW.out (V := w6.alloc (.cells #[.int .u8 yk, .string (Ln.bs yt), .int .i64 yn, .slice ya yL yc] 25)) (grown_below HG6.out.1 bR) hb2' HG6.out.2.2.1 ?_ hle5 (by rw [← HX.out]; exact hown') hgr hat
        exact HG6.out.2.2.2.keep (fun k hk => bR.block k hk.2) (fun _ hk => ⟨hk.1, Nat.lt_of_lt_of_le hk.2 bR.size⟩)
      · obtain ⟨n3, hn3⟩ := hr
        exact ⟨n2 + n3 + 1, by have e0 := Ps.go_le (show n2 ≤ n2 + n3 by omega) hn2; have e1 := Ps.go_le (show n3 ≤ n2 + n3 by omega) hn3; simp at e0 e1; simp [hs3, e0, e1]⟩

set_option maxRecDepth 100000 in
set_option maxHeartbeats 4000000 in
theorem plistedE_of (m : Nat) (hF : PDoes 174 (.bin 0) [] m) (b lv : Nat) (l : List Lx.Tok) (w : World) (hl : OkL l) (hm : l.length ≤ m + 1) (hlv : lv ≤ 120) (hP : PAt b l lv w) :
    Calls Tryz.prog 151 #[.pointer (some ⟨b, 0, none⟩), .func (.func 174) #[.pointer (some ⟨b, 0, none⟩)] #[]] w fun e w' => w.grownBy w' (some b) ∧ LEnd b lv (.listed false) l w e w' := by
  obtain ⟨i0, hi0, hz0, hz1, hz2⟩ := info_parts info_node
  have hbw := hP.lt
  obtain ⟨V, hV⟩ : ∃ V, V = w.alloc (.cells #[.string ⟨#[40]⟩] 9) := ⟨_, rfl⟩
  have bV : Below w.heap.size w V := hV ▸ below_new w _
  have rV : RowLow V.heap.size V (.slice (some ⟨w.heap.size, 0, none⟩) 1 1) [[40]] := by rw [hV]; exact CellsLow.lit w [txtV [40]] 9 1
  have PA : Hid (PAt b l lv V) := hP.below bV
  have GR : Hid (w.grownBy V (some b)) := grown_low bV
  have HF : Hid (PDoes 174 (.bin 0) [] m) := hF
  clear hP hF bV
  go_enter Tryz.func151, Tryz.ntmps151
  go_wp2_with fail
  rw [← hV]
  clear hV
  cases hs : Ps.sees l [[40]]
  · have HO : Hid (_) := popen_no b lv _ l [[40]] _ V PA.out hl rV (Nat.le_refl _) (by simp) hs
    refine Calls.mono HO.out ?_
    rintro e u1 ⟨rfl, hg⟩
    exact ⟨rfl, GR.out.trans hg, .inl ⟨_, _, ⟨1, by simp [hs]⟩, rfl⟩⟩
  by_cases h120 : lv = 120
  · have PB : Hid (PAt b l 120 V) := by have := PA.out; rwa [h120] at this
    have HO : Hid (_) := popen_deep b _ l [[40]] _ V PB.out hl rV (Nat.le_refl _) (by simp) hs
    refine Calls.mono HO.out ?_
    rintro e u1 ⟨rfl, hg⟩
    exact ⟨rfl, GR.out.trans hg, .inl ⟨_, _, ⟨1, by simp [hs, h120]⟩, rfl⟩⟩
  obtain ⟨ol1, ln1⟩ := hl.sees hs (by decide)
  have HO : Hid (_) := popen_yes b lv _ l [[40]] _ V PA.out hl rV (Nat.le_refl _) (by simp) hs (by decide) (by omega)
  refine Calls.mono HO.out ?_
  rintro e w1 ⟨rfl, hg1, hp1⟩
  replace GR : Hid (w.grownBy w1 (some b)) := GR.out.trans hg1
  clear HO hg1 rV PA
  obtain ⟨V2, hV2⟩ : ∃ V, V = w1.alloc (.cells #[.string ⟨#[41]⟩] 9) := ⟨_, rfl⟩
  have bV2 : Below w1.heap.size w1 V2 := hV2 ▸ below_new w1 _
  have rV2 : RowLow V2.heap.size V2 (.slice (some ⟨w1.heap.size, 0, none⟩) 1 1) [[41]] := by rw [hV2]; exact CellsLow.lit w1 [txtV [41]] 9 1
  have PA : Hid (PAt b l.tail (lv + 1) V2) := hp1.below bV2
  replace GR : Hid (w.grownBy V2 (some b)) := grown_below GR.out bV2
  have HS : Hid (_) := psees_any b (lv + 1) _ l.tail [[41]] _ V2 PA.out ol1 rV2 (Nat.le_refl _) (by simp)
  clear hp1 bV2 rV2
  go_wp2_with fail
  rw [← hV2]
  clear hV2
  refine Calls.mono HS.out ?_
  rintro e w2 ⟨rfl, hb2⟩
  replace GR : Hid (w.grownBy w2 (some b)) := grown_below GR.out hb2
  replace PA : Hid (PAt b l.tail (lv + 1) w2) := PA.out.below hb2
  clear HS hb2
  cases hs2 : Ps.sees l.tail [[41]]
  case true =>
    obtain ⟨ol2, ln2⟩ := ol1.sees hs2 (by decide)
    have HC : Hid (_) := pclose_yes b lv l.tail [41] w2 PA.out ol1 hs2 (by decide) (by omega)
    go_wp2_with fail
    refine Calls.mono HC.out ?_
    rintro e w3 ⟨rfl, hg3, hp3⟩
    have HE : Hid (w.grownBy w3 (some b) ∧ LEnd b lv (.listed false) l w (.returned (.slice none 0 0)) w3) := ⟨GR.out.trans hg3, .inr ⟨[], _, _, ⟨1, by simp [hs, h120, hs2]⟩, ol2, by omega, hp3, rfl, rowR_nil _ _⟩⟩
    clear HC hg3 hp3
    go_wp2
    go_ret
    exact HE.out
  case false =>
  have HC : Hid (_) := HF.out b (lv + 1) l.tail w2 ol1 (by omega) (by omega) PA.out
  go_wp2_with fail
  refine Calls.mono HC.out ?_
  rintro e w3 ⟨hg3, ⟨E, i, ⟨n1, hn1⟩, rfl⟩ | ⟨t, l2, v, ⟨n1, hn1⟩, ol2, ln2, hp3, rfl, nd3⟩⟩
  · exact ⟨rfl, GR.out.trans hg3, .inl ⟨_, _, ⟨n1 + 1, by simp [hs, h120, hs2, hn1]⟩, rfl⟩⟩
  have hle2 : w.heap.size ≤ w2.heap.size := GR.out.size
  obtain ⟨⟨xk, xt, xn, xv, xkids⟩, rfl, rfl, xf, xr⟩ := nd3
  obtain ⟨xa, xc, hxv⟩ := xr.slice
  simp only at hxv
  subst hxv
  have hlen := hp3.len
  obtain ⟨xL, hxL⟩ : ∃ N, N = xkids.length := ⟨_, rfl⟩
  simp only [N1.cells]
  rw [← hxL] at xf xr ⊢
  clear hxL
  have OW : Hid (w3.ownsRow w2.heap.size 25 4 (.slice none 0 0) 0 []) := World.ownsRow_nil _ _ _ _
  have bR := below_nw w3 (.cells #[.int .u8 xk, .string (Ln.bs xt), .int .i64 xn, .slice xa xL xc] 25)
  have SRC : Hid (_) := cells_new w3 [.int .u8 xk, .string (Ln.bs xt), .int .i64 xn, .slice xa xL xc] 25
  have OWR : Hid ((w3.alloc (.cells #[.int .u8 xk, .string (Ln.bs xt), .int .i64 xn, .slice xa xL xc] 25)).ownsRow w2.heap.size 25 4 (.slice none 0 0) 0 []) := World.ownsRow_nil _ _ _ _
  have HLE : Hid (w2.heap.size ≤ (w3.alloc (.cells #[.int .u8 xk, .string (Ln.bs xt), .int .i64 xn, .slice xa xL xc] 25)).heap.size) := Nat.le_trans hg3.size bR.size
  have HG3 : Hid (w2.grownBy w3 (some b) ∧ PAt b l2 (lv + 1) w3 ∧ (⟨xk, xt, xn, .slice xa xL xc, xkids⟩ : N1).Fit ∧ RowR (newS w2.heap.size w3.heap.size) w3 (.slice xa xL xc) xkids) := ⟨hg3, hp3, xf, xr⟩
  clear HC hg3 hp3 xf xr PA OW
  go_wp2_with (at_builtin; refine wpList_append_own_at _ rfl _ _ 23 rfl w2.heap.size 25 i0 (.agg #[.int .u8 0, .string ⟨#[]⟩, .int .i64 0, .slice none 0 0]) 4 56 Tryz.underlying23 hi0 hz0 hz1 hz2 rfl (by decide) _ _ _ rfl OWR.out ⟨w3.heap.size, 0, none⟩ 1 1 [.int .u8 xk, .string (Ln.bs xt), .int .i64 xn, .slice xa xL xc] rfl rfl SRC.out (by simp [Value.oneCell']) (by unfold maxLen; omega) (by omega) HLE.out ?_; intro v' W' hown' hgr _ hat)
  have hRw : Rw w2.heap.size W' v' [⟨xk, xt, xn, .slice xa xL xc, xkids⟩] := by
    refine Rw.app (Rw.nil w2.heap.size w2) (V := w3.alloc (.cells #[.int .u8 xk, .string (Ln.bs xt), .int .i64 xn, .slice xa xL xc] 25)) (grown_below HG3.out.1 bR) (by omega) HG3.out.2.2.1 ?_ (Nat.le_refl _) hown' hgr hat
    exact HG3.out.2.2.2.keep (fun k hk => bR.block k hk.2) (fun _ hk => ⟨hk.1, Nat.lt_of_lt_of_le hk.2 bR.size⟩)
  have ST : Hid (Rw w2.heap.size W' v' [⟨xk, xt, xn, .slice xa xL xc, xkids⟩] ∧ PAt b l2 (lv + 1) W' ∧ w.grownBy W' (some b) ∧ w2.heap.size ≤ W'.heap.size ∧ ∀ r, Ps.Eats (.lst false [N1.tr ⟨xk, xt, xn, .slice xa xL xc, xkids⟩]) l2 (lv + 1) r → Ps.Eats (.listed false) l lv r) := by
    refine ⟨hRw, (HG3.out.2.1.below bR).rowed OWR.out hgr, grown_rowed (grown_below (GR.out.trans HG3.out.1) bR) OWR.out hgr hle2, Nat.le_trans HLE.out hgr.size, fun r hr => ?_⟩
    obtain ⟨n2, hn2⟩ := hr
    exact ⟨n1 + n2 + 1, by have e0 := Ps.go_le (show n1 ≤ n1 + n2 by omega) hn1; have e1 := Ps.go_le (show n2 ≤ n1 + n2 by omega) hn2; simp at e0 e1; simp [hs, h120, hs2, e0, e1]⟩
  have hb2' : b < w2.heap.size := by omega
  clear hRw hown' hgr hat HG3 OWR SRC HLE bR GR
  go_wp2
  go_loopg [5] (l2.length) (fun g s5 wr => ∃ (xs : List N1) (l1 : List Lx.Tok), g = l1.length ∧ OkL l1 ∧ xs.length + l1.length ≤ 100000001 ∧ l1.length ≤ l2.length ∧ Rw w2.heap.size wr s5 xs ∧ PAt b l1 (lv + 1) wr ∧ w.grownBy wr (some b) ∧ w2.heap.size ≤ wr.heap.size ∧ ∀ r, Ps.Eats (.lst false (xs.map N1.tr)) l1 (lv + 1) r → Ps.Eats (.listed false) l lv r)
  case atStart => exact ⟨_, l2, rfl, ol2, by simp; omega, Nat.le_refl _, ST.out.1, ST.out.2.1, ST.out.2.2.1, ST.out.2.2.2.1, ST.out.2.2.2.2⟩
  case round =>
    clear ST
    obtain ⟨xs, l1, hgk, olr, hxl, hll, hRw, hPr, hGr, hW2, hEr⟩ := hrel
    obtain ⟨V3, hV3⟩ : ∃ V, V = wr.alloc (.cells #[.string ⟨#[44]⟩] 9) := ⟨_, rfl⟩
    have bV3 : Below wr.heap.size wr V3 := hV3 ▸ below_new wr _
    have rV3 : RowLow V3.heap.size V3 (.slice (some ⟨wr.heap.size, 0, none⟩) 1 1) [[44]] := by rw [hV3]; exact CellsLow.lit wr [txtV [44]] 9 1
    have PA : Hid (PAt b l1 (lv + 1) V3) := hPr.below bV3
    have GR : Hid (w.grownBy V3 (some b)) := grown_below hGr bV3
    have RW : Hid (Rw w2.heap.size V3 u5 xs) := hRw.go (b := b) (grown_low bV3) hb2'
    have HS : Hid (_) := psees_any b (lv + 1) _ l1 [[44]] _ V3 PA.out olr rV3 (Nat.le_refl _) (by simp)
    have HEr : Hid (∀ r, Ps.Eats (.lst false (xs.map N1.tr)) l1 (lv + 1) r → Ps.Eats (.listed false) l lv r) := hEr
    have hs3V : wr.heap.size ≤ V3.heap.size := bV3.size
    clear hPr hGr hRw hEr bV3 rV3
    go_wp2_with fail
    rw [← hV3]
    clear hV3
    refine Calls.mono HS.out ?_
    rintro e w4 ⟨rfl, hb4⟩
    have hs34 : V3.heap.size ≤ w4.heap.size := hb4.size
    replace GR : Hid (w.grownBy w4 (some b)) := grown_below GR.out hb4
    replace PA : Hid (PAt b l1 (lv + 1) w4) := PA.out.below hb4
    replace RW : Hid (Rw w2.heap.size w4 u5 xs) := RW.out.go (b := b) (grown_low hb4) hb2'
    clear HS hb4
    cases hs3 : Ps.sees l1 [[44]]
    case false =>
      cases hs4 : Ps.sees l1 [[41]]
      · have HC : Hid (_) := pclose_no b (lv + 1) l1 [41] w4 PA.out olr hs4
        go_wp2_with fail
        refine Calls.mono HC.out ?_
        rintro e w5 ⟨rfl, hg5⟩
        exact ⟨rfl, GR.out.trans hg5, .inl ⟨_, _, HEr.out _ ⟨1, by simp [hs3, hs4]⟩, rfl⟩⟩
      obtain ⟨ol5, ln5⟩ := olr.sees hs4 (by decide)
      have HC : Hid (_) := pclose_yes b lv l1 [41] w4 PA.out olr hs4 (by decide) (by omega)
      go_wp2_with fail
      refine Calls.mono HC.out ?_
      rintro e w5 ⟨rfl, hg5, hp5⟩
      have RW5 : Rw w2.heap.size w5 u5 xs := RW.out.go hg5 hb2'
      have HE : Hid (w.grownBy w5 (some b) ∧ LEnd b lv (.listed false) l w (.returned u5) w5) := ⟨GR.out.trans hg5, .inr ⟨_, _, _, HEr.out _ ⟨1, by simp [hs3, hs4]⟩, ol5, by omega, hp5, rfl, RW5.row (by omega) hle2⟩⟩
      clear HC hg5 hp5 RW5 RW
      go_wp2
      go_ret
      exact HE.out
    case true =>
    obtain ⟨ol5, ln5⟩ := olr.sees hs3 (by decide)
    have HT : Hid (_) := ptake_any b (lv + 1) l1 w4 PA.out olr ol5
    go_wp2_with fail
    refine Calls.mono HT.out ?_
    rintro e w5 ⟨rfl, hg5, hp5⟩
    have hle5 : w2.heap.size ≤ w5.heap.size := by have := hg5.size; omega
    replace GR : Hid (w.grownBy w5 (some b)) := GR.out.trans hg5
    replace RW : Hid (Rw w2.heap.size w5 u5 xs) := RW.out.go hg5 hb2'
    have HC : Hid (_) := HF.out b (lv + 1) l1.tail w5 ol5 (by omega) (by omega) hp5
    clear HT hg5 hp5 PA
    go_wp2_with fail
    refine Calls.mono HC.out ?_
    rintro e w6 ⟨hg6, ⟨E, i, ⟨n2, hn2⟩, rfl⟩ | ⟨t, l3, v, ⟨n2, hn2⟩, ol6, ln6, hp6, rfl, nd6⟩⟩
    · exact ⟨rfl, GR.out.trans hg6, .inl ⟨_, _, HEr.out _ ⟨n2 + 1, by simp [hs3, hn2]⟩, rfl⟩⟩
    obtain ⟨⟨yk, yt, yn, yv, ykids⟩, rfl, rfl, yf, yr⟩ := nd6
    obtain ⟨ya, yc, hyv⟩ := yr.slice
    simp only at hyv
    subst hyv
    obtain ⟨yL, hyL⟩ : ∃ N, N = ykids.length := ⟨_, rfl⟩
    simp only [N1.cells]
    rw [← hyL] at yf yr ⊢
    clear hyL
    have bR := below_nw w6 (.cells #[.int .u8 yk, .string (Ln.bs yt), .int .i64 yn, .slice ya yL yc] 25)
    have SRC : Hid (_) := cells_new w6 [.int .u8 yk, .string (Ln.bs yt), .int .i64 yn, .slice ya yL yc] 25
    have OWR : Hid ((w6.alloc (.cells #[.int .u8 yk, .string (Ln.bs yt), .int .i64 yn, .slice ya yL yc] 25)).ownsRow w2.heap.size 25 4 u5 xs.length (n1Cells xs)) := ((RW.out.go hg6 hb2').go (b := b) (grown_low bR) hb2').own
    have HLE : Hid (w2.heap.size ≤ (w6.alloc (.cells #[.int .u8 yk, .string (Ln.bs yt), .int .i64 yn, .slice ya yL yc] 25)).heap.size) := Nat.le_trans hle5 (Nat.le_trans hg6.size bR.size)
    obtain ⟨va, vc, hv5⟩ := slice_shape OWR.out
    obtain ⟨XL, hXL⟩ : ∃ N, N = xs.length := ⟨_, rfl⟩
    have HX : Hid (XL = xs.length) := hXL
    have HG6 : Hid (w5.grownBy w6 (some b) ∧ PAt b l3 (lv + 1) w6 ∧ (⟨yk, yt, yn, .slice ya yL yc, ykids⟩ : N1).Fit ∧ RowR (newS w5.heap.size w6.heap.size) w6 (.slice ya yL yc) ykids) := ⟨hg6, hp6, yf, yr⟩
    rw [← hXL] at OWR hxl hv5
    subst hv5
    clear HC hg6 hp6 yf yr hXL
    go_wp2_with (at_builtin; refine wpList_append_own_at _ rfl _ _ 23 rfl w2.heap.size 25 i0 (.agg #[.int .u8 0, .string ⟨#[]⟩, .int .i64 0, .slice none 0 0]) 4 56 Tryz.underlying23 hi0 hz0 hz1 hz2 rfl (by decide) _ _ _ rfl OWR.out ⟨w6.heap.size, 0, none⟩ 1 1 [.int .u8 yk, .string (Ln.bs yt), .int .i64 yn, .slice ya yL yc] rfl rfl SRC.out (by simp [Value.oneCell']) (by unfold maxLen; omega) (by omega) HLE.out ?_; intro v' W' hown' hgr _ hat)
    go_roundg l3.length
    case measure => omega
    case rel =>
      refine ⟨xs ++ [⟨yk, yt, yn, .slice ya yL yc, ykids⟩], l3, rfl, ol6, by have := HX.out; simp; omega, by omega, ?_, (HG6.out.2.1.below bR).rowed OWR.out hgr, grown_rowed (grown_below (GR.out.trans HG6.out.1) bR) OWR.out hgr hle2, Nat.le_trans HLE.out hgr.size, fun r hr => HEr.out r ?_⟩
      · refine Rw.app RW.out (V := w6.alloc (.cells #[.int .u8 yk, .string (Ln.bs yt), .int .i64 yn, .slice ya yL yc] 25)) (grown_below HG6.out.1 bR) hb2' HG6.out.2.2.1 ?_ hle5 (by rw [← HX.out]; exact hown') hgr hat
        exact HG6.out.2.2.2.keep (fun k hk => bR.block k hk.2) (fun _ hk => ⟨hk.1, Nat.lt_of_lt_of_le hk.2 bR.size⟩)
      · obtain ⟨n3, hn3⟩ := hr
        exact ⟨n2 + n3 + 1, by have e0 := Ps.go_le (show n2 ≤ n2 + n3 by omega) hn2; have e1 := Ps.go_le (show n3 ≤ n2 + n3 by omega) hn3; simp at e0 e1; simp [hs3, e0, e1]⟩
end Go.Proofs.YtnndgjnihhafbaaGreatDoor

/-
  The walks of the parser's calls, indices, suffixes.
-/
namespace Go.Proofs.YtnndgjnihhafbaaGreatDoor
open Go.RowKit Go.Shelf

attribute [local go_sem] Oper.semAt_some
attribute [local simp] Ps.go Ps.opn Ps.want Ps.name Ps.bnd Ps.bad N1.tr

theorem fit_of (k : Int) (tx : List UInt8) (v : Value) (kids : List Tr) (hk : 0 ≤ k ∧ k ≤ 255) (ht : tx.length ≤ 1000000) : (⟨k, tx, 0, v, kids⟩ : N1).Fit :=
  ⟨hk, Nat.le_trans ht (by decide), by show (-9223372036854775808 : Int) ≤ 0 ∧ (0 : Int) ≤ 9223372036854775807; omega⟩
/-- A row that a call has told, as a node's Kids. -/
theorem NF.of_row {w W W' : World} {b : Nat} {X : List Nat} {v : Value} {ts : List Tr} (h : RowR (newS W.heap.size W'.heap.size) W' v ts) (hF : Frm w b W) (hX : ∀ q ∈ X, q < W.heap.size) (k : Int) (tx : List UInt8) (hk : 0 ≤ k ∧ k ≤ 255) (ht : tx.length ≤ 1000000) :
    ∃ a L c, v = .slice a L c ∧ NF w W' ⟨k, tx, 0, .slice a L c, ts⟩ X := by
  obtain ⟨ka, kc, e⟩ := h.slice
  subst e
  refine ⟨ka, _, kc, rfl, ⟨hk, Nat.le_trans ht (by decide), by show (-9223372036854775808 : Int) ≤ 0 ∧ (0 : Int) ≤ 9223372036854775807; omega⟩, h.mono (fun q hq => ⟨?_, hq.2, fun e => ?_⟩)⟩
  · have := hF.lt; have := hq.1; omega
  · have := hX q e; have := hq.1; omega

set_option maxRecDepth 100000 in
set_option maxHeartbeats 4000000 in
theorem pcall_of (m : Nat) (hE : PDoes 174 (.bin 0) [] m) (s : List UInt8) (hsl : s.length ≤ 1000000) : PDoes 177 (.call s) [.string (Ln.bs s)] (m + 1) := by
  intro b lv l w hl hm hlv hP
  obtain ⟨A, hA⟩ : ∃ A, A = w.alloc (.cells #[.int .u8 0, .string ⟨#[]⟩, .int .i64 0, .slice none 0 0] 25) := ⟨_, rfl⟩
  have FR : Hid (Frm w b A) := hA ▸ Frm.new hP
  have PA : Hid (PAt b l lv A) := hA ▸ hP.below (below_new w _)
  have HhE : Hid (PDoes 174 (.bin 0) [] m) := hE
  clear hP hE
  go_enter Tryz.func177, Tryz.ntmps177
  go_wp2_with fail
  rw [← hA]
  clear hA
  have HC1 : Hid (_) := plistedE_of m HhE.out b (lv) l A hl (by omega) (by omega) PA.out
  refine Calls.mono HC1.out ?_
  rintro e w2 ⟨hg3, ⟨E, i, ⟨n4, hn5⟩, rfl⟩ | ⟨xts, l10, v, ⟨n4, hn5⟩, ol6, ln7, hp8, rfl, rr9⟩⟩
  · skip
    exact ⟨rfl, FR.out.grown.trans hg3, .inl ⟨_, _, ⟨n4 + 1, by have e0 := Ps.go_le (show n4 ≤ n4 by omega) hn5; simp [e0]⟩, rfl⟩⟩
  obtain ⟨xa, xL, xc, rfl, nf⟩ := NF.of_row (X := []) rr9 FR.out (by simp) 25 s (by omega) (hsl)
  replace FR : Hid (Frm w b w2) := FR.out.go hg3
  replace PA : Hid (PAt b l10 (lv) w2) := hp8
  have Nx : Hid (NF w w2 ⟨25, s, 0, .slice xa xL xc, xts⟩ []) := nf
  clear nf HC1 hg3 hp8 rr9
  go_wp2_with fail
  have HD11 : Hid (_) := pnode_any 25 (Ln.bs s) xa xL xc w2
  refine Calls.mono HD11.out ?_
  rintro e w12 ⟨rfl, hb13⟩
  replace Nx : Hid (NF w w12 ⟨25, s, 0, .slice xa xL xc, xts⟩ []) := Nx.out.go (grown_low hb13) FR.out.low
  replace FR : Hid (Frm w b w12) := FR.out.go (grown_low hb13)
  replace PA : Hid (PAt b l10 (lv) w12) := PA.out.below hb13
  clear HD11 hb13
  obtain ⟨p0, p1, p2, p3, pf, Z, hZ, ⟨r0, r1, r2, r3⟩, z1, z2, z3⟩ := FR.out.fin PA.out Nx.out
  have HF : Hid (w.grownBy Z (some b) ∧ PEnd b lv (.call s) l w (.returned (.agg #[.int .u8 25, .string (Ln.bs s), .int .i64 0, .slice xa xL xc])) Z) := ⟨z1, .inr ⟨_, _, _, ⟨n4 + 1, by have e0 := Ps.go_le (show n4 ≤ n4 by omega) hn5; simp [e0]⟩, ol6, by omega, z2, rfl, z3⟩⟩
  clear z1 z2 z3 
  go_wp2
  rw [← hZ]
  refine bodyPost_ret (v := .agg #[.int .u8 25, .string (Ln.bs s), .int .i64 0, .slice xa xL xc]) (by simp [results, Tryz.results177, go_sem, r0, r1, r2, r3]) rfl HF.out


/-- What index ends with, of a node whose blocks are in S. -/
def IEnd (S : Nat → Prop) (b lv : Nat) (t : Tr) (l : List Lx.Tok) (w : World) (e : Ending) (w' : World) : Prop :=
  (∃ E i, Ps.Eats (.within [91] [93]) l lv (.bad E i) ∧ e = pan E i) ∨ ∃ y l' v, Ps.Eats (.within [91] [93]) l lv (.ok [y] l') ∧ OkL l' ∧ l'.length < l.length ∧ PAt b l' lv w' ∧ e = .returned v ∧ NodeR (fun k => S k ∨ newS w.heap.size w'.heap.size k) w' v (.mk 26 [] 0 [t, y])

set_option maxRecDepth 100000 in
set_option maxHeartbeats 4000000 in
theorem pindex_of (m : Nat) (hW : PDoes 180 (.within [91] [93]) [.string (Ln.bs [91]), .string (Ln.bs [93])] m) (S : Nat → Prop) (b lv : Nat) (l : List Lx.Tok) (t : Tr) (v : Value) (w : World) (hl : OkL l) (hm : l.length ≤ m) (hlv : lv ≤ 120) (hP : PAt b l lv w) (hS : ∀ k, S k → k < w.heap.size ∧ k ≠ b) (hv : NodeR S w v t) :
    Calls Tryz.prog 178 #[.pointer (some ⟨b, 0, none⟩), v] w fun e w' => w.grownBy w' (some b) ∧ IEnd S b lv t l w e w' := by
  have hbw := hP.lt
  obtain ⟨⟨xk, xt, xn, xv, xkids⟩, rfl, rfl, xf, xr⟩ := hv
  obtain ⟨xa, xc, hxv⟩ := xr.slice
  simp only at hxv
  subst hxv
  obtain ⟨xL, hxL⟩ : ∃ N, N = xkids.length := ⟨_, rfl⟩
  simp only [N1.cells]
  rw [← hxL] at xf xr ⊢
  clear hxL
  obtain ⟨A1, h1⟩ : ∃ A, A = w.alloc (.cells #[.int .u8 xk, .string (Ln.bs xt), .int .i64 xn, .slice xa xL xc] 25) := ⟨_, rfl⟩
  obtain ⟨X, hX⟩ : ∃ A, A = A1.alloc (.cells #[.int .u8 0, .string ⟨#[]⟩, .int .i64 0, .slice none 0 0] 25) := ⟨_, rfl⟩
  have s1 : A1.heap.size = w.heap.size + 1 := by rw [h1, World.size_alloc]
  have sX : X.heap.size = w.heap.size + 1 + 1 := by rw [hX, World.size_alloc, s1]
  have b1 : Below w.heap.size w A1 := h1 ▸ below_new w _
  have b2 : Below A1.heap.size A1 X := hX ▸ below_new A1 _
  have bX : Below w.heap.size w X := below_then b1 b2
  have n1 : X.heap[w.heap.size]? = some (.cells #[.int .u8 xk, .string (Ln.bs xt), .int .i64 xn, .slice xa xL xc] 25 (0, 0)) := (b2.block _ (by omega)).trans (by rw [h1]; exact World.alloc_heap_new w _)
  have n2 : X.heap[w.heap.size + 1]? = some (.cells #[.int .u8 0, .string ⟨#[]⟩, .int .i64 0, .slice none 0 0] 25 (0, 0)) := by
    have := World.alloc_heap_new A1 (.cells #[.int .u8 0, .string ⟨#[]⟩, .int .i64 0, .slice none 0 0] 25)
    rw [hX, ← s1]; exact this
  have HX : Hid (Below w.heap.size w X ∧ X.heap.size = w.heap.size + 1 + 1 ∧ X.heap[w.heap.size]? = some (.cells #[.int .u8 xk, .string (Ln.bs xt), .int .i64 xn, .slice xa xL xc] 25 (0, 0)) ∧ X.heap[w.heap.size + 1]? = some (.cells #[.int .u8 0, .string ⟨#[]⟩, .int .i64 0, .slice none 0 0] 25 (0, 0)) ∧ (⟨xk, xt, xn, .slice xa xL xc, xkids⟩ : N1).Fit ∧ RowR S w (.slice xa xL xc) xkids ∧ ∀ k, S k → k < w.heap.size ∧ k ≠ b) := ⟨bX, sX, n1, n2, xf, xr, hS⟩
  have c0 : X.drew.cell? ⟨w.heap.size, 0, none⟩ = some (.int .u8 xk) := cells_at n1 rfl
  have c1 : X.drew.cell? ⟨w.heap.size, 1, none⟩ = some (.string (Ln.bs xt)) := cells_at n1 rfl
  have c2 : X.drew.cell? ⟨w.heap.size, 2, none⟩ = some (.int .i64 xn) := cells_at n1 rfl
  have c3 : X.drew.cell? ⟨w.heap.size, 3, none⟩ = some (.slice xa xL xc) := cells_at n1 rfl
  have HC : Hid (_) := hW b lv l X.drew hl hm hlv (hP.below (below_then bX (below_draw X 1)))
  clear b1 b2 bX n1 n2 s1 sX xf xr hS hP hW
  refine (callsIn_wide (n := 3)).1 ?_
  refine callsIn_of_wp Tryz.func178 rfl trivial ?_ rfl
  simp only [Tryz.ntmps178, List.size_toArray, List.length_cons, List.length_nil, Nat.reduceAdd, Nat.reduceSub, Array.replicate_succ, Array.replicate_zero, List.push_toArray, List.append_toArray, List.nil_append, List.cons_append]
  gi_wp2
  rw [← h1, ← hX]
  clear h1 hX
  have HCL : Hid (∀ z : World, z.heap[w.heap.size]? = X.heap[w.heap.size]? → z.cell? ⟨w.heap.size, 0, none⟩ = some (.int .u8 xk) ∧ z.cell? ⟨w.heap.size, 1, none⟩ = some (.string (Ln.bs xt)) ∧ z.cell? ⟨w.heap.size, 2, none⟩ = some (.int .i64 xn) ∧ z.cell? ⟨w.heap.size, 3, none⟩ = some (.slice xa xL xc)) := fun z hz =>
    ⟨cells_at (hz.trans HX.out.2.2.1) rfl, cells_at (hz.trans HX.out.2.2.1) rfl, cells_at (hz.trans HX.out.2.2.1) rfl, cells_at (hz.trans HX.out.2.2.1) rfl⟩
  refine region_lex (fun z => z.cell? ⟨w.heap.size, 0, none⟩ = some (.int .u8 xk) ∧ z.cell? ⟨w.heap.size, 1, none⟩ = some (.string (Ln.bs xt)) ∧ z.cell? ⟨w.heap.size, 2, none⟩ = some (.int .i64 xn) ∧ z.cell? ⟨w.heap.size, 3, none⟩ = some (.slice xa xL xc)) 2 4 rfl (by kernel_rfl) (by kernel_rfl) (by kernel_rfl) (by kernel_rfl) (fun _ _ d _ _ h => by cases d <;> exact h) ⟨c0, c1, c2, c3⟩ ?_
  simp only [List.take_succ_cons, List.take_zero]
  iterate 2 (first
    | (apply lexC_want
       · rfl
       · exact fun _ => rfl
       · (intro w' hw'; obtain ⟨a0, a1, a2, a3⟩ := hw'; go_simp; try rfl)
       simp only [Act.put, List.setIfInBounds_toArray, List.set_cons_zero, List.set_cons_succ]))
  refine lexC_nil ?_
  clear c0 c1 c2 c3
  refine anyC_one (i := 2) (by kernel_rfl) rfl (by rfl) (fun K1 hK1 => ?_)
  go_simp
  refine ⟨trivial, ?_⟩
  refine (callsIn_wide.2 HC.out).mono ?_
  rintro e w2 ⟨hg2, ⟨E, i, he, rfl⟩ | ⟨y, l2, v, he, ol2, ln2, hp2, rfl, nd2⟩⟩
  · exact ⟨rfl, (grown_low HX.out.1).trans ((grown_low (below_draw X 1)).trans hg2), .inl ⟨_, _, he, rfl⟩⟩
  obtain ⟨x1, x2, x3, x4, x5, x6, x7⟩ := HX.out
  have hsd : X.drew.heap.size = w.heap.size + 1 + 1 := x2
  obtain ⟨⟨yk, yt, yn, yv, ykids⟩, rfl, rfl, yf, yr⟩ := nd2
  obtain ⟨ya, yc, hyv⟩ := yr.slice
  simp only at hyv
  subst hyv
  obtain ⟨yL, hyL⟩ : ∃ N, N = ykids.length := ⟨_, rfl⟩
  simp only [N1.cells]
  rw [← hyL] at yf yr ⊢
  clear hyL
  have hk2 : w2.heap[w.heap.size]? = X.heap[w.heap.size]? := hg2.block _ (by omega) (by simp; omega)
  have hr2 : w2.heap[w.heap.size + 1]? = some (.cells #[.int .u8 0, .string ⟨#[]⟩, .int .i64 0, .slice none 0 0] 25 (0, 0)) := (hg2.block _ (by omega) (by simp; omega)).trans x4
  have hs2 : w.heap.size + 1 + 1 ≤ w2.heap.size := by have := hg2.size; omega
  refine hK1 _ _ (HCL.out w2 hk2) ?_
  clear hK1
  refine anyC_one (i := 3) (by kernel_rfl) rfl (by rfl) (fun K2 hK2 => ?_)
  go_simp
  obtain ⟨R, hR⟩ : ∃ R, R = w2.alloc (.cells #[.int .u8 xk, .string (Ln.bs xt), .int .i64 xn, .slice xa xL xc, .int .u8 yk, .string (Ln.bs yt), .int .i64 yn, .slice ya yL yc] 25) := ⟨_, rfl⟩
  have bR : Below w2.heap.size w2 R := hR ▸ below_new w2 _
  have nR : R.heap[w2.heap.size]? = some (.cells #[.int .u8 xk, .string (Ln.bs xt), .int .i64 xn, .slice xa xL xc, .int .u8 yk, .string (Ln.bs yt), .int .i64 yn, .slice ya yL yc] 25 (0, 0)) := by rw [hR]; exact World.alloc_heap_new w2 _
  rw [← hR]
  refine hK2 _ _ (HCL.out R ((bR.block _ (by omega)).trans hk2)) ?_
  clear hK2 hR
  refine anyC_one (i := 4) (by kernel_rfl) rfl (by rfl) (fun K3 hK3 => ?_)
  go_simp
  refine ⟨trivial, ?_⟩
  refine (callsIn_wide.2 (pnode_any 26 ⟨#[]⟩ (some ⟨w2.heap.size, 0, none⟩) 2 2 R)).mono ?_
  rintro e w3 ⟨rfl, hb3⟩
  have hsR : w2.heap.size < R.heap.size := (Array.getElem?_eq_some_iff.1 nR).1
  have b23 : Below w2.heap.size w2 w3 := below_then bR hb3
  have hr3 : w3.heap[w.heap.size + 1]? = some (.cells #[.int .u8 0, .string ⟨#[]⟩, .int .i64 0, .slice none 0 0] 25 (0, 0)) := (b23.block _ (by omega)).trans hr2
  have n3 : w3.heap[w2.heap.size]? = some (.cells #[.int .u8 xk, .string (Ln.bs xt), .int .i64 xn, .slice xa xL xc, .int .u8 yk, .string (Ln.bs yt), .int .i64 yn, .slice ya yL yc] 25 (0, 0)) := (hb3.block _ hsR).trans nR
  refine hK3 _ _ (HCL.out w3 ((b23.block _ (by omega)).trans hk2)) ?_
  clear hK3
  obtain ⟨p0, p1, p2, p3, pf, Z, hZ, hZr, gz⟩ := box_put hr3 (.int .u8 26) (.string ⟨#[]⟩) (.int .i64 0) (.slice (some ⟨w2.heap.size, 0, none⟩) 2 2)
  have r0 : Z.cell? ⟨w.heap.size + 1, 0, none⟩ = some (.int .u8 26) := cells_at hZr rfl
  have r1 : Z.cell? ⟨w.heap.size + 1, 1, none⟩ = some (.string ⟨#[]⟩) := cells_at hZr rfl
  have r2 : Z.cell? ⟨w.heap.size + 1, 2, none⟩ = some (.int .i64 0) := cells_at hZr rfl
  have r3 : Z.cell? ⟨w.heap.size + 1, 3, none⟩ = some (.slice (some ⟨w2.heap.size, 0, none⟩) 2 2) := cells_at hZr rfl
  have hgw2 : w.grownBy w2 (some b) := (grown_low x1).trans ((grown_low (below_draw X 1)).trans hg2)
  have hgw3 : w.grownBy w3 (some b) := grown_below hgw2 b23
  have hgZ : w.grownBy Z (some b) := grown_new hgw3 gz (by omega)
  have hZs : w3.heap.size ≤ Z.heap.size := gz.size
  have hs3 : R.heap.size ≤ w3.heap.size := hb3.size
  have hZ2 : ∀ k, k < w2.heap.size → k ≠ w.heap.size + 1 → Z.heap[k]? = w2.heap[k]? := fun k hk hn => (gz.block k (by omega) (by simpa using hn)).trans (b23.block k hk)
  have nZ : Z.heap[w2.heap.size]? = some (.cells #[.int .u8 xk, .string (Ln.bs xt), .int .i64 xn, .slice xa xL xc, .int .u8 yk, .string (Ln.bs yt), .int .i64 yn, .slice ya yL yc] 25 (0, 0)) := (gz.block _ (by omega) (by simp; omega)).trans n3
  have CZ := HCL.out Z ((gz.block _ (by omega) (by simp)).trans ((b23.block _ (by omega)).trans hk2))
  have HF : Hid (w.grownBy Z (some b) ∧ IEnd S b lv (N1.tr ⟨xk, xt, xn, .slice xa xL xc, xkids⟩) l w (.returned (.agg #[.int .u8 26, .string ⟨#[]⟩, .int .i64 0, .slice (some ⟨w2.heap.size, 0, none⟩) 2 2])) Z) := by
    refine ⟨hgZ, .inr ⟨_, _, _, he, ol2, ln2, (hp2.below b23).beside gz hr3, rfl, ?_⟩⟩
    refine ⟨⟨26, [], 0, .slice (some ⟨w2.heap.size, 0, none⟩) 2 2, [N1.tr ⟨xk, xt, xn, .slice xa xL xc, xkids⟩, N1.tr ⟨yk, yt, yn, .slice ya yL yc, ykids⟩]⟩, rfl, rfl, fit_of 26 [] _ _ (by omega) (by simp), ?_⟩
    refine .mk [⟨xk, xt, xn, .slice xa xL xc, xkids⟩, ⟨yk, yt, yn, .slice ya yL yc, ykids⟩] rfl ⟨_, 2, w2.heap.size, 0, rfl, ⟨Nat.le_refl _, fun e => by cases e⟩, fun _ => ⟨rfl, .inr ⟨by omega, by omega⟩⟩, fun j u hu => ?_⟩ (by simp) (fun z hz => ?_) (fun z hz => ?_)
    · rw [Lib.cell_of_heap nZ, Nat.zero_add, List.getElem?_toArray]
      exact hu
    · simp only [List.mem_cons, List.not_mem_nil, or_false] at hz
      rcases hz with rfl | rfl
      · exact x5
      · exact yf
    · simp only [List.mem_cons, List.not_mem_nil, or_false] at hz
      rcases hz with rfl | rfl
      · exact x6.keep (fun k hk => hgZ.block k (x7 k hk).1 (by simpa using (x7 k hk).2)) (fun k hk => .inl hk)
      · exact yr.keep (fun k hk => hZ2 k hk.2 (by have := hk.1; omega)) (fun k hk => .inr ⟨by have := hk.1; omega, by have := hk.2; omega⟩)
  clear hgw2 hgw3 hgZ hZ2 nZ x1 x3 x4 x5 x6 x7 yf yr hp2 hg2 bR nR hb3 b23 hr2 hr3 n3 hk2 gz hZr HC
  refine anyC_one (i := 5) (by kernel_rfl) rfl (by rfl) (fun K4 hK4 => ?_)
  go_simp
  rw [← hZ]
  refine hK4 _ _ CZ ?_
  clear hK4 hZ p0 p1 p2 p3 pf CZ
  refine anyC_done (by kernel_rfl) ?_
  gi_wp2
  refine bodyPost_ret (v := .agg #[.int .u8 26, .string ⟨#[]⟩, .int .i64 0, .slice (some ⟨w2.heap.size, 0, none⟩) 2 2]) (by simp [results, Tryz.results178, go_sem, r0, r1, r2, r3]) rfl HF.out
end Go.Proofs.YtnndgjnihhafbaaGreatDoor

/-
  Several texts in one, as they are: PsEnded, PsStmt, PsStmt2, PsFunc, PsBlock, PsFile.
-/
import Derived.Test.YtnndgjnihhafbaaGreatDoorBinAll

/-
  The walk of ended: a statement's semicolon, and its node.
-/
namespace Go.Proofs.YtnndgjnihhafbaaGreatDoor
open Go.RowKit Go.Shelf

attribute [local go_sem] Oper.semAt_some

theorem Frm.fin2 {w W : World} {b lv : Nat} {l : List Lx.Tok} {k : Int} {tx : List UInt8} {n : Int} {sa : Option Addr} {sL sc : Nat} (h : Frm w b W) (hP : PAt b l lv W) :
    W.cell? ⟨w.heap.size, 0, none⟩ = some (.int .u8 0) ∧ (W.setCell ⟨w.heap.size, 0, none⟩ (.int .u8 k)).cell? ⟨w.heap.size, 1, none⟩ = some (.string ⟨#[]⟩) ∧ ((W.setCell ⟨w.heap.size, 0, none⟩ (.int .u8 k)).setCell ⟨w.heap.size, 1, none⟩ (.string (Ln.bs tx))).cell? ⟨w.heap.size, 2, none⟩ = some (.int .i64 0) ∧ (((W.setCell ⟨w.heap.size, 0, none⟩ (.int .u8 k)).setCell ⟨w.heap.size, 1, none⟩ (.string (Ln.bs tx))).setCell ⟨w.heap.size, 2, none⟩ (.int .i64 n)).cell? ⟨w.heap.size, 3, none⟩ = some (.slice none 0 0) ∧ (∀ j, W.frozen? ⟨w.heap.size, j, none⟩ = false) ∧
      ∃ Z, Z = (((W.setCell ⟨w.heap.size, 0, none⟩ (.int .u8 k)).setCell ⟨w.heap.size, 1, none⟩ (.string (Ln.bs tx))).setCell ⟨w.heap.size, 2, none⟩ (.int .i64 n)).setCell ⟨w.heap.size, 3, none⟩ (.slice sa sL sc) ∧ (Z.cell? ⟨w.heap.size, 0, none⟩ = some (.int .u8 k) ∧ Z.cell? ⟨w.heap.size, 1, none⟩ = some (.string (Ln.bs tx)) ∧ Z.cell? ⟨w.heap.size, 2, none⟩ = some (.int .i64 n) ∧ Z.cell? ⟨w.heap.size, 3, none⟩ = some (.slice sa sL sc)) ∧
        w.grownBy Z (some b) ∧ PAt b l lv Z ∧ W.grownBy Z (some w.heap.size) := by
  obtain ⟨p0, p1, p2, p3, pf, Z, hZ, hZr, gz⟩ := box_put h.box (.int .u8 k) (.string (Ln.bs tx)) (.int .i64 n) (.slice sa sL sc)
  exact ⟨p0, p1, p2, p3, pf, Z, hZ, ⟨cells_at hZr rfl, cells_at hZr rfl, cells_at hZr rfl, cells_at hZr rfl⟩, grown_new h.grown gz (Nat.le_refl _), hP.beside gz h.box, gz⟩
theorem BX.res {w W Z : World} {q : Nat} {x : N1} (h : BX w W q x) (gz : W.grownBy Z (some w.heap.size)) : BX w Z q x :=
  ⟨h.1, (gz.block q h.lt (by have := h.1; simp; omega)).trans h.2⟩
theorem NF.res {w W Z : World} {k : Int} {tx : List UInt8} {n : Int} {v : Value} {kids : List Tr} {X : List Nat} (h : NF w W ⟨k, tx, n, v, kids⟩ X) (gz : W.grownBy Z (some w.heap.size)) : NodeR (newS w.heap.size Z.heap.size) Z (.agg #[.int .u8 k, .string (Ln.bs tx), .int .i64 n, v]) (.mk k tx n kids) :=
  ⟨⟨k, tx, n, v, kids⟩, rfl, rfl, h.fit, h.row.keep (fun j hj => gz.block j hj.2.1 (by have := hj.1; simp; omega)) (fun j hj => ⟨by have := hj.1; omega, Nat.lt_of_lt_of_le hj.2.1 gz.size⟩)⟩

/-- What ended ends with. -/
def SEnd (S : Nat → Prop) (b lv : Nat) (l : List Lx.Tok) (u : Value) (ts : List Tr) (v : Value) (w : World) (e : Ending) (w' : World) : Prop :=
  (Ps.sees l [[59]] = false ∧ e = pan 102 (Ps.hd l).at_) ∨ (Ps.sees l [[59]] = true ∧ PAt b l.tail lv w' ∧ e = .returned v ∧ RowR (fun q => S q ∨ newS w.heap.size w'.heap.size q) w' u ts)

set_option maxRecDepth 100000 in
set_option maxHeartbeats 4000000 in
theorem pended_any (S : Nat → Prop) (b lv : Nat) (l : List Lx.Tok) (k : Int) (tx : List UInt8) (a : Option Addr) (n c : Nat) (ts : List Tr) (w : World) (hl : OkL l) (hP : PAt b l lv w) (hS : ∀ q, S q → q < w.heap.size ∧ q ≠ b) (hr : RowR S w (.slice a n c) ts) :
    Calls Tryz.prog 173 #[.pointer (some ⟨b, 0, none⟩), .int .u8 k, .string (Ln.bs tx), .slice a n c] w fun e w' => w.grownBy w' (some b) ∧ SEnd S b lv l (.slice a n c) ts (.agg #[.int .u8 k, .string (Ln.bs tx), .int .i64 0, .slice a n c]) w e w' := by
  obtain ⟨A, hA⟩ : ∃ A, A = w.alloc (.cells #[.int .u8 0, .string ⟨#[]⟩, .int .i64 0, .slice none 0 0] 25) := ⟨_, rfl⟩
  have FR : Hid (Frm w b A) := hA ▸ Frm.new hP
  have PA : Hid (PAt b l lv A) := hA ▸ hP.below (below_new w _)
  have HR : Hid (RowR S w (.slice a n c) ts ∧ ∀ q, S q → q < w.heap.size ∧ q ≠ b) := ⟨hr, hS⟩
  clear hP hr hS
  go_enter Tryz.func173, Tryz.ntmps173
  go_wp2_with fail
  rw [← hA]
  clear hA
  cases hs : Ps.sees l [[59]]
  · have HW : Hid (_) := pwant_no b lv l [59] A PA.out hl hs
    refine Calls.mono HW.out ?_
    rintro e u ⟨rfl, hg⟩
    exact ⟨rfl, FR.out.grown.trans hg, .inl ⟨hs, rfl⟩⟩
  have HW : Hid (_) := pwant_yes b lv l [59] A PA.out hl hs (by decide)
  refine Calls.mono HW.out ?_
  rintro e w1 ⟨rfl, hg, hp⟩
  replace FR : Hid (Frm w b w1) := FR.out.go hg
  replace PA : Hid (PAt b l.tail lv w1) := hp
  clear HW hg hp
  go_wp2_with fail
  refine Calls.mono (pnode_any k (Ln.bs tx) a n c w1) ?_
  rintro e w2 ⟨rfl, hb⟩
  replace FR : Hid (Frm w b w2) := FR.out.below hb
  replace PA : Hid (PAt b l.tail lv w2) := PA.out.below hb
  clear hb
  obtain ⟨p0, p1, p2, p3, pf, Z, hZ, ⟨r0, r1, r2, r3⟩, z1, z2, gz⟩ := FR.out.fin2 (k := k) (tx := tx) (n := 0) (sa := a) (sL := n) (sc := c) PA.out
  have HF : Hid (w.grownBy Z (some b) ∧ SEnd S b lv l (.slice a n c) ts (.agg #[.int .u8 k, .string (Ln.bs tx), .int .i64 0, .slice a n c]) w (.returned (.agg #[.int .u8 k, .string (Ln.bs tx), .int .i64 0, .slice a n c])) Z) :=
    ⟨z1, .inr ⟨hs, z2, rfl, HR.out.1.keep (fun q hq => z1.block q (HR.out.2 q hq).1 (by simpa using (HR.out.2 q hq).2)) (fun q hq => .inl hq)⟩⟩
  clear z1 z2 gz
  go_wp2
  rw [← hZ]
  refine bodyPost_ret (v := .agg #[.int .u8 k, .string (Ln.bs tx), .int .i64 0, .slice a n c]) (by simp [results, Tryz.results173, go_sem, r0, r1, r2, r3]) rfl HF.out
/-- The node that ended tells. -/
theorem NF.ended {w W W' : World} {b : Nat} {X : List Nat} {k : Int} {tx : List UInt8} {v : Value} {ts : List Tr} (h : NF w W ⟨k, tx, 0, v, ts⟩ X) (hF : Frm w b W) (hX : ∀ q ∈ X, q < W.heap.size) (hr : RowR (fun q => newX (w.heap.size + 1) W.heap.size X q ∨ newS W.heap.size W'.heap.size q) W' v ts) (hs : W.heap.size ≤ W'.heap.size) : NF w W' ⟨k, tx, 0, v, ts⟩ X := by
  refine ⟨h.fit, hr.mono (fun q hq => ?_)⟩
  have := hF.lt
  rcases hq with hq | hq
  · exact ⟨hq.1, Nat.lt_of_lt_of_le hq.2.1 hs, hq.2.2⟩
  · exact ⟨by have := hq.1; omega, hq.2, fun e => by have := hX q e; have := hq.1; omega⟩
end Go.Proofs.YtnndgjnihhafbaaGreatDoor

/-
  The walks of the parser's statements.
-/
namespace Go.Proofs.YtnndgjnihhafbaaGreatDoor
open Go.RowKit Go.Shelf

attribute [local go_sem] Oper.semAt_some
attribute [local simp] Ps.go Ps.opn Ps.want Ps.name Ps.bnd Ps.bad N1.tr

set_option maxRecDepth 100000 in
set_option maxHeartbeats 4000000 in
theorem pvariable_of (m : Nat) (hE : PDoes 174 (.bin 0) [] m) (b lv : Nat) (l : List Lx.Tok) (w : World) (hl : OkL l) (hm : l.length ≤ m + 1) (hlv : lv ≤ 120) (hP : PAt b l lv w) (ht : (Ps.hd l).text = [118, 97, 114]) : Calls Tryz.prog 170 #[.pointer (some ⟨b, 0, none⟩)] w fun e w' => w.grownBy w' (some b) ∧ PEnd b lv .stmt l w e w' := by
  have HT : Hid ((Ps.hd l).text = [118, 97, 114]) := ht
  clear ht
  obtain ⟨A, hA⟩ : ∃ A, A = w.alloc (.cells #[.int .u8 0, .string ⟨#[]⟩, .int .i64 0, .slice none 0 0] 25) := ⟨_, rfl⟩
  have FR : Hid (Frm w b A) := hA ▸ Frm.new hP
  have PA : Hid (PAt b l lv A) := hA ▸ hP.below (below_new w _)
  have HhE : Hid (PDoes 174 (.bin 0) [] m) := hE
  clear hP hE
  go_enter Tryz.func170, Tryz.ntmps170
  go_wp2_with fail
  rw [← hA]
  clear hA
  cases hs1 : Ps.sees l [[118, 97, 114]]
  · skip
    have HW2 : Hid (_) := pwant_no b (lv) l [118, 97, 114] A PA.out hl hs1
    refine Calls.mono HW2.out ?_
    rintro e u4 ⟨rfl, hg3⟩
    exact ⟨rfl, FR.out.grown.trans hg3, .inl ⟨_, _, ⟨1, by simp [HT.out, hs1]⟩, rfl⟩⟩
  obtain ⟨ol5, ln6⟩ := hl.sees hs1 (nil_not [118, 97, 114] (by decide))
  have HW2 : Hid (_) := pwant_yes b (lv) l [118, 97, 114] A PA.out hl hs1 (by decide)
  refine Calls.mono HW2.out ?_
  rintro e w7 ⟨rfl, hg8, hp9⟩
  replace FR : Hid (Frm w b w7) := FR.out.go hg8
  replace PA : Hid (PAt b l.tail (lv) w7) := hp9
  clear HW2 hg8 hp9
  go_wp2_with fail
  by_cases hk10 : (Ps.hd l.tail).kind = 1
  case neg =>
    have HN11 : Hid (_) := pname_no b (lv) l.tail w7 PA.out ol5 hk10
    refine Calls.mono HN11.out ?_
    rintro e u13 ⟨rfl, hg12⟩
    exact ⟨rfl, FR.out.grown.trans hg12, .inl ⟨_, _, ⟨1, by simp [HT.out, hs1, hk10]⟩, rfl⟩⟩
  obtain ⟨ol14, ln15⟩ := ol5.tail (.inl (by rw [hk10]; decide))
  have tl16 : (Ps.hd l.tail).text.length ≤ 1000000 := ol5.hd.1
  have HN11 : Hid (_) := pname_yes b (lv) l.tail w7 PA.out ol5 hk10
  refine Calls.mono HN11.out ?_
  rintro e w17 ⟨rfl, hg18, hp19⟩
  replace FR : Hid (Frm w b w17) := FR.out.go hg18
  replace PA : Hid (PAt b l.tail.tail (lv) w17) := hp19
  clear HN11 hg18 hp19
  go_wp2_with fail
  cases hs20 : Ps.sees l.tail.tail [[61]]
  · skip
    have HW21 : Hid (_) := pwant_no b (lv) l.tail.tail [61] w17 PA.out ol14 hs20
    refine Calls.mono HW21.out ?_
    rintro e u23 ⟨rfl, hg22⟩
    exact ⟨rfl, FR.out.grown.trans hg22, .inl ⟨_, _, ⟨1, by simp [HT.out, hs1, hk10, hs20]⟩, rfl⟩⟩
  obtain ⟨ol24, ln25⟩ := ol14.sees hs20 (nil_not [61] (by decide))
  have HW21 : Hid (_) := pwant_yes b (lv) l.tail.tail [61] w17 PA.out ol14 hs20 (by decide)
  refine Calls.mono HW21.out ?_
  rintro e w26 ⟨rfl, hg27, hp28⟩
  replace FR : Hid (Frm w b w26) := FR.out.go hg27
  replace PA : Hid (PAt b l.tail.tail.tail (lv) w26) := hp28
  clear HW21 hg27 hp28
  go_wp2_with fail
  have HC29 : Hid (_) := HhE.out b (lv) l.tail.tail.tail w26 ol24 (by omega) (by omega) PA.out
  refine Calls.mono HC29.out ?_
  rintro e w30 ⟨hg31, ⟨E, i, ⟨n32, hn33⟩, rfl⟩ | ⟨t, l40, v, ⟨n32, hn33⟩, ol36, ln37, hp38, rfl, nd39⟩⟩
  · skip
    exact ⟨rfl, FR.out.grown.trans hg31, .inl ⟨_, _, ⟨n32 + 1, by have e0 := Ps.go_le (show n32 ≤ n32 by omega) hn33; simp [HT.out, hs1, hk10, hs20, e0]⟩, rfl⟩⟩
  obtain ⟨xk, xt, xn, xa, xL, xc, xkids, rfl, rfl, nf⟩ := NF.of_end (X := []) nd39 FR.out (by simp)
  replace FR : Hid (Frm w b w30) := FR.out.go hg31
  replace PA : Hid (PAt b l40 (lv) w30) := hp38
  have Nx : Hid (NF w w30 ⟨xk, xt, xn, .slice xa xL xc, xkids⟩ []) := nf
  clear nf HC29 hg31 hp38 nd39
  obtain ⟨R41, hR41⟩ : ∃ V, V = w30.alloc (.cells #[.int .u8 xk, .string (Ln.bs xt), .int .i64 xn, .slice xa xL xc] 25) := ⟨_, rfl⟩
  have bR41 : Below w30.heap.size w30 R41 := hR41 ▸ below_new w30 _
  have hX : ∀ q ∈ ([] : List Nat), q < w30.heap.size := by
    intro q hq
    cases hq
  have nk : NF w R41 ⟨6, (Ps.hd l.tail).text, 0, .slice (some ⟨w30.heap.size, 0, none⟩) 1 1, [N1.tr ⟨xk, xt, xn, .slice xa xL xc, xkids⟩]⟩ [] := by
    rw [hR41]
    refine NF.kids FR.out [⟨xk, xt, xn, .slice xa xL xc, xkids⟩] (fun z hz => ?_) hX (by simp) 6 (Ps.hd l.tail).text 0 (by omega) (tl16) (by omega)
    simp only [List.mem_cons, List.not_mem_nil, or_false] at hz
    subst hz
    exact Nx.out
  replace Nx : Hid (NF w R41 ⟨xk, xt, xn, .slice xa xL xc, xkids⟩ []) := Nx.out.go (grown_low bR41) FR.out.low
  replace FR : Hid (Frm w b R41) := FR.out.go (grown_low bR41)
  replace PA : Hid (PAt b l40 (lv) R41) := PA.out.below bR41
  have Nz : Hid (NF w R41 ⟨6, (Ps.hd l.tail).text, 0, .slice (some ⟨w30.heap.size, 0, none⟩) 1 1, [N1.tr ⟨xk, xt, xn, .slice xa xL xc, xkids⟩]⟩ []) := nk
  clear nk hX bR41
  go_wp2_with fail
  rw [← hR41]
  clear hR41
  have HC42 : Hid (_) := pended_any (newX (w.heap.size + 1) R41.heap.size []) b (lv) l40 6 (Ps.hd l.tail).text (some ⟨w30.heap.size, 0, none⟩) 1 1 [N1.tr ⟨xk, xt, xn, .slice xa xL xc, xkids⟩] R41 ol36 PA.out (fun q hq => ⟨hq.2.1, by have := hq.1; have := FR.out.low; omega⟩) Nz.out.row
  have hX : ∀ q ∈ ([] : List Nat), q < R41.heap.size := by
    intro q hq
    cases hq
  refine Calls.mono HC42.out ?_
  rintro e w43 ⟨hg44, ⟨hs45, rfl⟩ | ⟨hs45, hp46, rfl, rr47⟩⟩
  · skip
    exact ⟨rfl, FR.out.grown.trans hg44, .inl ⟨_, _, ⟨n32 + 1, by have e0 := Ps.go_le (show n32 ≤ n32 by omega) hn33; simp [HT.out, hs1, hk10, hs20, hs45, e0]⟩, rfl⟩⟩
  have nn : NF w w43 ⟨6, (Ps.hd l.tail).text, 0, .slice (some ⟨w30.heap.size, 0, none⟩) 1 1, [N1.tr ⟨xk, xt, xn, .slice xa xL xc, xkids⟩]⟩ [] := Nz.out.ended FR.out hX rr47 hg44.size
  obtain ⟨ol48, ln49⟩ := ol36.sees hs45 (nil_not [59] (by decide))
  replace Nx : Hid (NF w w43 ⟨xk, xt, xn, .slice xa xL xc, xkids⟩ []) := Nx.out.go hg44 FR.out.low
  replace FR : Hid (Frm w b w43) := FR.out.go hg44
  replace PA : Hid (PAt b l40.tail (lv) w43) := hp46
  replace Nz : Hid (NF w w43 ⟨6, (Ps.hd l.tail).text, 0, .slice (some ⟨w30.heap.size, 0, none⟩) 1 1, [N1.tr ⟨xk, xt, xn, .slice xa xL xc, xkids⟩]⟩ []) := nn
  clear nn hX HC42 hg44 hp46 rr47
  obtain ⟨p0, p1, p2, p3, pf, Z, hZ, ⟨r0, r1, r2, r3⟩, z1, z2, z3⟩ := FR.out.fin PA.out Nz.out
  have HF : Hid (w.grownBy Z (some b) ∧ PEnd b lv .stmt l w (.returned (.agg #[.int .u8 6, .string (Ln.bs ((Ps.hd l.tail).text)), .int .i64 0, .slice (some ⟨w30.heap.size, 0, none⟩) 1 1])) Z) := ⟨z1, .inr ⟨_, _, _, ⟨n32 + 1, by have e0 := Ps.go_le (show n32 ≤ n32 by omega) hn33; simp [HT.out, hs1, hk10, hs20, hs45, e0]⟩, ol48, by omega, z2, rfl, z3⟩⟩
  clear z1 z2 z3 
  go_wp2
  rw [← hZ]
  refine bodyPost_ret (v := .agg #[.int .u8 6, .string (Ln.bs ((Ps.hd l.tail).text)), .int .i64 0, .slice (some ⟨w30.heap.size, 0, none⟩) 1 1]) (by simp [results, Tryz.results170, go_sem, r0, r1, r2, r3]) rfl HF.out

set_option maxRecDepth 100000 in
set_option maxHeartbeats 4000000 in
theorem ploop_of (m : Nat) (hE : PDoes 174 (.bin 0) [] m) (hBl : PDoes 153 .block [] m) (b lv : Nat) (l : List Lx.Tok) (w : World) (hl : OkL l) (hm : l.length ≤ m + 1) (hlv : lv ≤ 120) (hP : PAt b l lv w) (ht : (Ps.hd l).text = [119, 104, 105, 108, 101]) : Calls Tryz.prog 172 #[.pointer (some ⟨b, 0, none⟩)] w fun e w' => w.grownBy w' (some b) ∧ PEnd b lv .stmt l w e w' := by
  have HT : Hid ((Ps.hd l).text = [119, 104, 105, 108, 101]) := ht
  clear ht
  obtain ⟨A, hA⟩ : ∃ A, A = w.alloc (.cells #[.int .u8 0, .string ⟨#[]⟩, .int .i64 0, .slice none 0 0] 25) := ⟨_, rfl⟩
  have FR : Hid (Frm w b A) := hA ▸ Frm.new hP
  have PA : Hid (PAt b l lv A) := hA ▸ hP.below (below_new w _)
  have HhE : Hid (PDoes 174 (.bin 0) [] m) := hE
  have HhBl : Hid (PDoes 153 .block [] m) := hBl
  clear hP hE hBl
  refine (callsIn_wide (n := 3)).1 ?_
  refine callsIn_of_wp Tryz.func172 rfl trivial ?_ rfl
  simp only [Tryz.ntmps172, List.size_toArray, List.length_cons, List.length_nil, Nat.reduceAdd, Nat.reduceSub, Array.replicate_succ, Array.replicate_zero, List.push_toArray, List.append_toArray, List.nil_append, List.cons_append]
  gi_wp2
  rw [← hA]
  clear hA
  cases hs1 : Ps.sees l [[119, 104, 105, 108, 101]]
  · skip
    have HW2 : Hid (_) := pwant_no b (lv) l [119, 104, 105, 108, 101] A PA.out hl hs1
    refine ⟨trivial, ?_⟩
    refine (callsIn_wide.2 HW2.out).mono ?_
    rintro e u4 ⟨rfl, hg3⟩
    exact ⟨rfl, FR.out.grown.trans hg3, .inl ⟨_, _, ⟨1, by simp [HT.out, hs1]⟩, rfl⟩⟩
  obtain ⟨ol5, ln6⟩ := hl.sees hs1 (nil_not [119, 104, 105, 108, 101] (by decide))
  have HW2 : Hid (_) := pwant_yes b (lv) l [119, 104, 105, 108, 101] A PA.out hl hs1 (by decide)
  refine ⟨trivial, ?_⟩
  refine (callsIn_wide.2 HW2.out).mono ?_
  rintro e w7 ⟨rfl, hg8, hp9⟩
  replace FR : Hid (Frm w b w7) := FR.out.go hg8
  replace PA : Hid (PAt b l.tail (lv) w7) := hp9
  clear HW2 hg8 hp9
  gi_wp2
  have HC10 : Hid (_) := HhE.out b (lv) l.tail w7 ol5 (by omega) (by omega) PA.out
  refine ⟨trivial, ?_⟩
  refine (callsIn_wide.2 HC10.out).mono ?_
  rintro e w11 ⟨hg12, ⟨E, i, ⟨n13, hn14⟩, rfl⟩ | ⟨t, l21, v, ⟨n13, hn14⟩, ol17, ln18, hp19, rfl, nd20⟩⟩
  · skip
    exact ⟨rfl, FR.out.grown.trans hg12, .inl ⟨_, _, ⟨n13 + 1, by have e0 := Ps.go_le (show n13 ≤ n13 by omega) hn14; simp [HT.out, hs1, e0]⟩, rfl⟩⟩
  obtain ⟨xk, xt, xn, xa, xL, xc, xkids, rfl, rfl, nf⟩ := NF.of_end (X := []) nd20 FR.out (by simp)
  replace FR : Hid (Frm w b w11) := FR.out.go hg12
  replace PA : Hid (PAt b l21 (lv) w11) := hp19
  have Nx : Hid (NF w w11 ⟨xk, xt, xn, .slice xa xL xc, xkids⟩ []) := nf
  clear nf HC10 hg12 hp19 nd20
  obtain ⟨Y22, hY22⟩ : ∃ V, V = w11.alloc (.cells #[.int .u8 xk, .string (Ln.bs xt), .int .i64 xn, .slice xa xL xc] 25) := ⟨_, rfl⟩
  have bY22 : Below w11.heap.size w11 Y22 := hY22 ▸ below_new w11 _
  have nb : BX w Y22 (w11.heap.size) ⟨xk, xt, xn, .slice xa xL xc, xkids⟩ := by rw [hY22]; exact BX.new FR.out ⟨xk, xt, xn, .slice xa xL xc, xkids⟩
  replace Nx : Hid (NF w w11 ⟨xk, xt, xn, .slice xa xL xc, xkids⟩ [w11.heap.size]) := Nx.out.ex (Nat.le_refl _)
  replace Nx : Hid (NF w Y22 ⟨xk, xt, xn, .slice xa xL xc, xkids⟩ [w11.heap.size]) := Nx.out.go (grown_low bY22) FR.out.low
  replace FR : Hid (Frm w b Y22) := FR.out.go (grown_low bY22)
  replace PA : Hid (PAt b l21 (lv) Y22) := PA.out.below bY22
  have Bx : Hid (BX w Y22 (w11.heap.size) ⟨xk, xt, xn, .slice xa xL xc, xkids⟩) := nb
  clear nb bY22
  gi_wp2
  rw [← hY22]
  clear hY22
  have bd23 : Below Y22.heap.size Y22 Y22.drew := below_draw Y22 1
  replace Nx : Hid (NF w Y22.drew ⟨xk, xt, xn, .slice xa xL xc, xkids⟩ [w11.heap.size]) := Nx.out.go (grown_low bd23) FR.out.low
  replace Bx : Hid (BX w Y22.drew (w11.heap.size) ⟨xk, xt, xn, .slice xa xL xc, xkids⟩) := Bx.out.go (grown_low bd23) FR.out.low
  replace FR : Hid (Frm w b Y22.drew) := FR.out.go (grown_low bd23)
  replace PA : Hid (PAt b l21 (lv) Y22.drew) := PA.out.below bd23
  clear bd23
  refine region_lex (fun z => (z.cell? ⟨w11.heap.size, 0, none⟩ = some (.int .u8 xk) ∧ z.cell? ⟨w11.heap.size, 1, none⟩ = some (.string (Ln.bs xt)) ∧ z.cell? ⟨w11.heap.size, 2, none⟩ = some (.int .i64 xn) ∧ z.cell? ⟨w11.heap.size, 3, none⟩ = some (.slice xa xL xc))) 2 4 rfl (by kernel_rfl) (by kernel_rfl) (by kernel_rfl) (by kernel_rfl) (fun _ _ d _ _ h => by cases d <;> exact h) Bx.out.cs ?_
  simp only [List.take_succ_cons, List.take_zero]
  iterate 2 (first
    | (apply lexC_want
       · rfl
       · exact fun _ => rfl
       · (intro w' hw'; obtain ⟨a0, a1, a2, a3⟩ := hw'; go_simp; try rfl)
       simp only [Act.put, List.setIfInBounds_toArray, List.set_cons_zero, List.set_cons_succ]))
  refine lexC_nil ?_
  have HC24 : Hid (_) := HhBl.out b (lv) l21 (Y22.drew) ol17 (by omega) (by omega) PA.out
  have hX : ∀ q ∈ ([w11.heap.size] : List Nat), q < (Y22.drew).heap.size := by
    intro q hq
    simp only [List.mem_cons, List.not_mem_nil, or_false] at hq
    subst hq
    exact Bx.out.lt
  refine anyC_one (i := 2) (by kernel_rfl) rfl (by rfl) (fun K25 hK25 => ?_)
  go_simp
  refine ⟨trivial, ?_⟩
  refine (callsIn_wide.2 HC24.out).mono ?_
  rintro e w26 ⟨hg27, ⟨E, i, ⟨n28, hn29⟩, rfl⟩ | ⟨t, l34, v, ⟨n28, hn29⟩, ol30, ln31, hp32, rfl, nd33⟩⟩
  · skip
    exact ⟨rfl, FR.out.grown.trans hg27, .inl ⟨_, _, ⟨n13 + n28 + 1, by have e0 := Ps.go_le (show n13 ≤ n13 + n28 by omega) hn14; have e1 := Ps.go_le (show n28 ≤ n13 + n28 by omega) hn29; simp [HT.out, hs1, e0, e1]⟩, rfl⟩⟩
  obtain ⟨yk, yt, yn, ya, yL, yc, ykids, rfl, rfl, nf⟩ := NF.of_end (X := [w11.heap.size]) nd33 FR.out hX
  replace Nx : Hid (NF w w26 ⟨xk, xt, xn, .slice xa xL xc, xkids⟩ [w11.heap.size]) := Nx.out.go hg27 FR.out.low
  replace Bx : Hid (BX w w26 (w11.heap.size) ⟨xk, xt, xn, .slice xa xL xc, xkids⟩) := Bx.out.go hg27 FR.out.low
  replace FR : Hid (Frm w b w26) := FR.out.go hg27
  replace PA : Hid (PAt b l34 (lv) w26) := hp32
  have Ny : Hid (NF w w26 ⟨yk, yt, yn, .slice ya yL yc, ykids⟩ [w11.heap.size]) := nf
  refine hK25 _ _ Bx.out.cs ?_
  clear hK25
  clear nf HC24 hg27 hp32 nd33 hX
  obtain ⟨R36, hR36⟩ : ∃ V, V = w26.alloc (.cells #[.int .u8 xk, .string (Ln.bs xt), .int .i64 xn, .slice xa xL xc, .int .u8 yk, .string (Ln.bs yt), .int .i64 yn, .slice ya yL yc] 25) := ⟨_, rfl⟩
  have bR36 : Below w26.heap.size w26 R36 := hR36 ▸ below_new w26 _
  have hX : ∀ q ∈ ([w11.heap.size] : List Nat), q < w26.heap.size := by
    intro q hq
    simp only [List.mem_cons, List.not_mem_nil, or_false] at hq
    subst hq
    exact Bx.out.lt
  have nk : NF w R36 ⟨9, [], 0, .slice (some ⟨w26.heap.size, 0, none⟩) 2 2, [N1.tr ⟨xk, xt, xn, .slice xa xL xc, xkids⟩, N1.tr ⟨yk, yt, yn, .slice ya yL yc, ykids⟩]⟩ [w11.heap.size] := by
    rw [hR36]
    refine NF.kids FR.out [⟨xk, xt, xn, .slice xa xL xc, xkids⟩, ⟨yk, yt, yn, .slice ya yL yc, ykids⟩] (fun z hz => ?_) hX (by simp) 9 [] 0 (by omega) (by simp) (by omega)
    simp only [List.mem_cons, List.not_mem_nil, or_false] at hz
    rcases hz with rfl | rfl
    · exact Nx.out
    · exact Ny.out
  replace Nx : Hid (NF w R36 ⟨xk, xt, xn, .slice xa xL xc, xkids⟩ [w11.heap.size]) := Nx.out.go (grown_low bR36) FR.out.low
  replace Ny : Hid (NF w R36 ⟨yk, yt, yn, .slice ya yL yc, ykids⟩ [w11.heap.size]) := Ny.out.go (grown_low bR36) FR.out.low
  replace Bx : Hid (BX w R36 (w11.heap.size) ⟨xk, xt, xn, .slice xa xL xc, xkids⟩) := Bx.out.go (grown_low bR36) FR.out.low
  replace FR : Hid (Frm w b R36) := FR.out.go (grown_low bR36)
  replace PA : Hid (PAt b l34 (lv) R36) := PA.out.below bR36
  have Nz : Hid (NF w R36 ⟨9, [], 0, .slice (some ⟨w26.heap.size, 0, none⟩) 2 2, [N1.tr ⟨xk, xt, xn, .slice xa xL xc, xkids⟩, N1.tr ⟨yk, yt, yn, .slice ya yL yc, ykids⟩]⟩ [w11.heap.size]) := nk
  clear nk hX bR36
  refine anyC_one (i := 3) (by kernel_rfl) rfl (by rfl) (fun K35 hK35 => ?_)
  go_simp
  rw [← hR36]
  refine hK35 _ _ Bx.out.cs ?_
  clear hK35
  clear hR36
  have HD37 : Hid (_) := pnode_any 9 (Ln.bs []) (some ⟨w26.heap.size, 0, none⟩) 2 2 R36
  refine anyC_one (i := 4) (by kernel_rfl) rfl (by rfl) (fun K38 hK38 => ?_)
  go_simp
  refine ⟨trivial, ?_⟩
  refine (callsIn_wide.2 HD37.out).mono ?_
  rintro e w39 ⟨rfl, hb40⟩
  replace Nx : Hid (NF w w39 ⟨xk, xt, xn, .slice xa xL xc, xkids⟩ [w11.heap.size]) := Nx.out.go (grown_low hb40) FR.out.low
  replace Ny : Hid (NF w w39 ⟨yk, yt, yn, .slice ya yL yc, ykids⟩ [w11.heap.size]) := Ny.out.go (grown_low hb40) FR.out.low
  replace Nz : Hid (NF w w39 ⟨9, [], 0, .slice (some ⟨w26.heap.size, 0, none⟩) 2 2, [N1.tr ⟨xk, xt, xn, .slice xa xL xc, xkids⟩, N1.tr ⟨yk, yt, yn, .slice ya yL yc, ykids⟩]⟩ [w11.heap.size]) := Nz.out.go (grown_low hb40) FR.out.low
  replace Bx : Hid (BX w w39 (w11.heap.size) ⟨xk, xt, xn, .slice xa xL xc, xkids⟩) := Bx.out.go (grown_low hb40) FR.out.low
  replace FR : Hid (Frm w b w39) := FR.out.go (grown_low hb40)
  replace PA : Hid (PAt b l34 (lv) w39) := PA.out.below hb40
  refine hK38 _ _ Bx.out.cs ?_
  clear hK38
  clear HD37 hb40
  obtain ⟨p0, p1, p2, p3, pf, Z, hZ, ⟨r0, r1, r2, r3⟩, z1, z2, gz⟩ := FR.out.fin2 (k := 9) (tx := []) (n := 0) (sa := (some ⟨w26.heap.size, 0, none⟩)) (sL := 2) (sc := 2) PA.out
  have HF : Hid (w.grownBy Z (some b) ∧ PEnd b lv .stmt l w (.returned (.agg #[.int .u8 9, .string (Ln.bs []), .int .i64 0, .slice (some ⟨w26.heap.size, 0, none⟩) 2 2])) Z) := ⟨z1, .inr ⟨_, _, _, ⟨n13 + n28 + 1, by have e0 := Ps.go_le (show n13 ≤ n13 + n28 by omega) hn14; have e1 := Ps.go_le (show n28 ≤ n13 + n28 by omega) hn29; simp [HT.out, hs1, e0, e1]⟩, ol30, by omega, z2, rfl, Nz.out.res gz⟩⟩
  replace Bx : Hid (BX w Z (w11.heap.size) ⟨xk, xt, xn, .slice xa xL xc, xkids⟩) := Bx.out.res gz
  clear z1 z2 gz
  refine anyC_one (i := 5) (by kernel_rfl) rfl (by rfl) (fun K41 hK41 => ?_)
  go_simp
  rw [← hZ]
  refine hK41 _ _ Bx.out.cs ?_
  clear hK41
  clear hZ p0 p1 p2 p3 pf
  refine anyC_done (by kernel_rfl) ?_
  gi_wp2
  refine bodyPost_ret (v := .agg #[.int .u8 9, .string (Ln.bs []), .int .i64 0, .slice (some ⟨w26.heap.size, 0, none⟩) 2 2]) (by simp [results, Tryz.results172, go_sem, r0, r1, r2, r3]) rfl HF.out

set_option maxRecDepth 100000 in
set_option maxHeartbeats 4000000 in
theorem pchoice_of (m : Nat) (hE : PDoes 174 (.bin 0) [] m) (hBl : PDoes 153 .block [] m) (b lv : Nat) (l : List Lx.Tok) (w : World) (hl : OkL l) (hm : l.length ≤ m + 1) (hlv : lv ≤ 120) (hP : PAt b l lv w) (ht : (Ps.hd l).text = [105, 102]) : Calls Tryz.prog 171 #[.pointer (some ⟨b, 0, none⟩)] w fun e w' => w.grownBy w' (some b) ∧ PEnd b lv .stmt l w e w' := by
  have HT : Hid ((Ps.hd l).text = [105, 102]) := ht
  clear ht
  obtain ⟨A, hA⟩ : ∃ A, A = w.alloc (.cells #[.int .u8 0, .string ⟨#[]⟩, .int .i64 0, .slice none 0 0] 25) := ⟨_, rfl⟩
  have FR : Hid (Frm w b A) := hA ▸ Frm.new hP
  have PA : Hid (PAt b l lv A) := hA ▸ hP.below (below_new w _)
  have HhE : Hid (PDoes 174 (.bin 0) [] m) := hE
  have HhBl : Hid (PDoes 153 .block [] m) := hBl
  clear hP hE hBl
  go_enter Tryz.func171, Tryz.ntmps171
  go_wp2_with fail
  rw [← hA]
  clear hA
  cases hs1 : Ps.sees l [[105, 102]]
  · skip
    have HW2 : Hid (_) := pwant_no b (lv) l [105, 102] A PA.out hl hs1
    refine Calls.mono HW2.out ?_
    rintro e u4 ⟨rfl, hg3⟩
    exact ⟨rfl, FR.out.grown.trans hg3, .inl ⟨_, _, ⟨1, by simp [HT.out, hs1]⟩, rfl⟩⟩
  obtain ⟨ol5, ln6⟩ := hl.sees hs1 (nil_not [105, 102] (by decide))
  have HW2 : Hid (_) := pwant_yes b (lv) l [105, 102] A PA.out hl hs1 (by decide)
  refine Calls.mono HW2.out ?_
  rintro e w7 ⟨rfl, hg8, hp9⟩
  replace FR : Hid (Frm w b w7) := FR.out.go hg8
  replace PA : Hid (PAt b l.tail (lv) w7) := hp9
  clear HW2 hg8 hp9
  go_wp2_with fail
  have HC10 : Hid (_) := HhE.out b (lv) l.tail w7 ol5 (by omega) (by omega) PA.out
  refine Calls.mono HC10.out ?_
  rintro e w11 ⟨hg12, ⟨E, i, ⟨n13, hn14⟩, rfl⟩ | ⟨t, l21, v, ⟨n13, hn14⟩, ol17, ln18, hp19, rfl, nd20⟩⟩
  · skip
    exact ⟨rfl, FR.out.grown.trans hg12, .inl ⟨_, _, ⟨n13 + 1, by have e0 := Ps.go_le (show n13 ≤ n13 by omega) hn14; simp [HT.out, hs1, e0]⟩, rfl⟩⟩
  obtain ⟨xk, xt, xn, xa, xL, xc, xkids, rfl, rfl, nf⟩ := NF.of_end (X := []) nd20 FR.out (by simp)
  replace FR : Hid (Frm w b w11) := FR.out.go hg12
  replace PA : Hid (PAt b l21 (lv) w11) := hp19
  have Nx : Hid (NF w w11 ⟨xk, xt, xn, .slice xa xL xc, xkids⟩ []) := nf
  clear nf HC10 hg12 hp19 nd20
  obtain ⟨Y22, hY22⟩ : ∃ V, V = w11.alloc (.cells #[.int .u8 xk, .string (Ln.bs xt), .int .i64 xn, .slice xa xL xc] 25) := ⟨_, rfl⟩
  have bY22 : Below w11.heap.size w11 Y22 := hY22 ▸ below_new w11 _
  have nb : BX w Y22 (w11.heap.size) ⟨xk, xt, xn, .slice xa xL xc, xkids⟩ := by rw [hY22]; exact BX.new FR.out ⟨xk, xt, xn, .slice xa xL xc, xkids⟩
  replace Nx : Hid (NF w w11 ⟨xk, xt, xn, .slice xa xL xc, xkids⟩ [w11.heap.size]) := Nx.out.ex (Nat.le_refl _)
  replace Nx : Hid (NF w Y22 ⟨xk, xt, xn, .slice xa xL xc, xkids⟩ [w11.heap.size]) := Nx.out.go (grown_low bY22) FR.out.low
  replace FR : Hid (Frm w b Y22) := FR.out.go (grown_low bY22)
  replace PA : Hid (PAt b l21 (lv) Y22) := PA.out.below bY22
  have Bx : Hid (BX w Y22 (w11.heap.size) ⟨xk, xt, xn, .slice xa xL xc, xkids⟩) := nb
  clear nb bY22
  go_wp2_with fail
  rw [← hY22]
  clear hY22
  have HC23 : Hid (_) := HhBl.out b (lv) l21 Y22 ol17 (by omega) (by omega) PA.out
  refine Calls.mono HC23.out ?_
  rintro e w24 ⟨hg25, ⟨E, i, ⟨n26, hn27⟩, rfl⟩ | ⟨t, l34, v, ⟨n26, hn27⟩, ol30, ln31, hp32, rfl, nd33⟩⟩
  · skip
    exact ⟨rfl, FR.out.grown.trans hg25, .inl ⟨_, _, ⟨n13 + n26 + 1, by have e0 := Ps.go_le (show n13 ≤ n13 + n26 by omega) hn14; have e1 := Ps.go_le (show n26 ≤ n13 + n26 by omega) hn27; simp [HT.out, hs1, e0, e1]⟩, rfl⟩⟩
  have hX : ∀ q ∈ ([w11.heap.size] : List Nat), q < Y22.heap.size := by
    intro q hq
    simp only [List.mem_cons, List.not_mem_nil, or_false] at hq
    subst hq
    exact Bx.out.lt
  obtain ⟨yk, yt, yn, ya, yL, yc, ykids, rfl, rfl, nf⟩ := NF.of_end (X := [w11.heap.size]) nd33 FR.out hX
  replace Nx : Hid (NF w w24 ⟨xk, xt, xn, .slice xa xL xc, xkids⟩ [w11.heap.size]) := Nx.out.go hg25 FR.out.low
  replace Bx : Hid (BX w w24 (w11.heap.size) ⟨xk, xt, xn, .slice xa xL xc, xkids⟩) := Bx.out.go hg25 FR.out.low
  replace FR : Hid (Frm w b w24) := FR.out.go hg25
  replace PA : Hid (PAt b l34 (lv) w24) := hp32
  have Ny : Hid (NF w w24 ⟨yk, yt, yn, .slice ya yL yc, ykids⟩ [w11.heap.size]) := nf
  clear nf HC23 hg25 hp32 nd33 hX
  obtain ⟨Y35, hY35⟩ : ∃ V, V = w24.alloc (.cells #[.int .u8 yk, .string (Ln.bs yt), .int .i64 yn, .slice ya yL yc] 25) := ⟨_, rfl⟩
  have bY35 : Below w24.heap.size w24 Y35 := hY35 ▸ below_new w24 _
  have nb : BX w Y35 (w24.heap.size) ⟨yk, yt, yn, .slice ya yL yc, ykids⟩ := by rw [hY35]; exact BX.new FR.out ⟨yk, yt, yn, .slice ya yL yc, ykids⟩
  replace Nx : Hid (NF w w24 ⟨xk, xt, xn, .slice xa xL xc, xkids⟩ [w24.heap.size, w11.heap.size]) := Nx.out.ex (Nat.le_refl _)
  replace Ny : Hid (NF w w24 ⟨yk, yt, yn, .slice ya yL yc, ykids⟩ [w24.heap.size, w11.heap.size]) := Ny.out.ex (Nat.le_refl _)
  replace Nx : Hid (NF w Y35 ⟨xk, xt, xn, .slice xa xL xc, xkids⟩ [w24.heap.size, w11.heap.size]) := Nx.out.go (grown_low bY35) FR.out.low
  replace Ny : Hid (NF w Y35 ⟨yk, yt, yn, .slice ya yL yc, ykids⟩ [w24.heap.size, w11.heap.size]) := Ny.out.go (grown_low bY35) FR.out.low
  replace Bx : Hid (BX w Y35 (w11.heap.size) ⟨xk, xt, xn, .slice xa xL xc, xkids⟩) := Bx.out.go (grown_low bY35) FR.out.low
  replace FR : Hid (Frm w b Y35) := FR.out.go (grown_low bY35)
  replace PA : Hid (PAt b l34 (lv) Y35) := PA.out.below bY35
  have By : Hid (BX w Y35 (w24.heap.size) ⟨yk, yt, yn, .slice ya yL yc, ykids⟩) := nb
  clear nb bY35
  have sz36 : Y35.heap.size = w24.heap.size + 1 := by rw [hY35, World.size_alloc]
  have No : Hid (NF w Y35 ⟨5, [], 0, .slice none 0 0, []⟩ [w24.heap.size, w11.heap.size]) := NF.leaf w Y35 [w24.heap.size, w11.heap.size] 5 [] 0 (by omega) (by simp) (by omega)
  clear sz36
  go_wp2_with fail
  rw [← hY35]
  clear hY35
  have HD37 : Hid (_) := pnode_any 5 (Ln.bs []) none 0 0 Y35
  refine Calls.mono HD37.out ?_
  rintro e w38 ⟨rfl, hb39⟩
  replace Nx : Hid (NF w w38 ⟨xk, xt, xn, .slice xa xL xc, xkids⟩ [w24.heap.size, w11.heap.size]) := Nx.out.go (grown_low hb39) FR.out.low
  replace Ny : Hid (NF w w38 ⟨yk, yt, yn, .slice ya yL yc, ykids⟩ [w24.heap.size, w11.heap.size]) := Ny.out.go (grown_low hb39) FR.out.low
  replace No : Hid (NF w w38 ⟨5, [], 0, .slice none 0 0, []⟩ [w24.heap.size, w11.heap.size]) := No.out.go (grown_low hb39) FR.out.low
  replace By : Hid (BX w w38 (w24.heap.size) ⟨yk, yt, yn, .slice ya yL yc, ykids⟩) := By.out.go (grown_low hb39) FR.out.low
  replace Bx : Hid (BX w w38 (w11.heap.size) ⟨xk, xt, xn, .slice xa xL xc, xkids⟩) := Bx.out.go (grown_low hb39) FR.out.low
  replace FR : Hid (Frm w b w38) := FR.out.go (grown_low hb39)
  replace PA : Hid (PAt b l34 (lv) w38) := PA.out.below hb39
  clear HD37 hb39
  have ltyo : w24.heap.size < w38.heap.size := by have := By.out.lt; omega
  have ltxo : w11.heap.size < w38.heap.size := by have := Bx.out.lt; omega
  obtain ⟨Y40, hY40⟩ : ∃ V, V = w38.alloc (.cells #[.int .u8 5, .string (Ln.bs []), .int .i64 0, .slice none 0 0] 25) := ⟨_, rfl⟩
  have bY40 : Below w38.heap.size w38 Y40 := hY40 ▸ below_new w38 _
  have nb : BX w Y40 (w38.heap.size) ⟨5, [], 0, .slice none 0 0, []⟩ := by rw [hY40]; exact BX.new FR.out ⟨5, [], 0, .slice none 0 0, []⟩
  replace Nx : Hid (NF w w38 ⟨xk, xt, xn, .slice xa xL xc, xkids⟩ [w38.heap.size, w24.heap.size, w11.heap.size]) := Nx.out.ex (Nat.le_refl _)
  replace Ny : Hid (NF w w38 ⟨yk, yt, yn, .slice ya yL yc, ykids⟩ [w38.heap.size, w24.heap.size, w11.heap.size]) := Ny.out.ex (Nat.le_refl _)
  replace No : Hid (NF w w38 ⟨5, [], 0, .slice none 0 0, []⟩ [w38.heap.size, w24.heap.size, w11.heap.size]) := No.out.ex (Nat.le_refl _)
  replace Nx : Hid (NF w Y40 ⟨xk, xt, xn, .slice xa xL xc, xkids⟩ [w38.heap.size, w24.heap.size, w11.heap.size]) := Nx.out.go (grown_low bY40) FR.out.low
  replace Ny : Hid (NF w Y40 ⟨yk, yt, yn, .slice ya yL yc, ykids⟩ [w38.heap.size, w24.heap.size, w11.heap.size]) := Ny.out.go (grown_low bY40) FR.out.low
  replace No : Hid (NF w Y40 ⟨5, [], 0, .slice none 0 0, []⟩ [w38.heap.size, w24.heap.size, w11.heap.size]) := No.out.go (grown_low bY40) FR.out.low
  replace By : Hid (BX w Y40 (w24.heap.size) ⟨yk, yt, yn, .slice ya yL yc, ykids⟩) := By.out.go (grown_low bY40) FR.out.low
  replace Bx : Hid (BX w Y40 (w11.heap.size) ⟨xk, xt, xn, .slice xa xL xc, xkids⟩) := Bx.out.go (grown_low bY40) FR.out.low
  replace FR : Hid (Frm w b Y40) := FR.out.go (grown_low bY40)
  replace PA : Hid (PAt b l34 (lv) Y40) := PA.out.below bY40
  have Bo : Hid (BX w Y40 (w38.heap.size) ⟨5, [], 0, .slice none 0 0, []⟩) := nb
  clear nb bY40
  have sz41 : Y40.heap.size = w38.heap.size + 1 := by rw [hY40, World.size_alloc]
  obtain ⟨V42, hV42⟩ : ∃ V, V = Y40.alloc (.cells #[.string ⟨#[101, 108, 115, 101]⟩] 9) := ⟨_, rfl⟩
  have bV42 : Below Y40.heap.size Y40 V42 := hV42 ▸ below_new Y40 _
  have rV42 : RowLow V42.heap.size V42 (.slice (some ⟨w38.heap.size + 1, 0, none⟩) 1 1) [[101, 108, 115, 101]] := by rw [hV42, ← sz41]; exact CellsLow.lit Y40 [txtV [101, 108, 115, 101]] 9 1
  replace Nx : Hid (NF w V42 ⟨xk, xt, xn, .slice xa xL xc, xkids⟩ [w38.heap.size, w24.heap.size, w11.heap.size]) := Nx.out.go (grown_low bV42) FR.out.low
  replace Ny : Hid (NF w V42 ⟨yk, yt, yn, .slice ya yL yc, ykids⟩ [w38.heap.size, w24.heap.size, w11.heap.size]) := Ny.out.go (grown_low bV42) FR.out.low
  replace No : Hid (NF w V42 ⟨5, [], 0, .slice none 0 0, []⟩ [w38.heap.size, w24.heap.size, w11.heap.size]) := No.out.go (grown_low bV42) FR.out.low
  replace Bo : Hid (BX w V42 (w38.heap.size) ⟨5, [], 0, .slice none 0 0, []⟩) := Bo.out.go (grown_low bV42) FR.out.low
  replace By : Hid (BX w V42 (w24.heap.size) ⟨yk, yt, yn, .slice ya yL yc, ykids⟩) := By.out.go (grown_low bV42) FR.out.low
  replace Bx : Hid (BX w V42 (w11.heap.size) ⟨xk, xt, xn, .slice xa xL xc, xkids⟩) := Bx.out.go (grown_low bV42) FR.out.low
  replace FR : Hid (Frm w b V42) := FR.out.go (grown_low bV42)
  replace PA : Hid (PAt b l34 (lv) V42) := PA.out.below bV42
  clear bV42 sz41
  go_wp2_with fail
  rw [← hY40, ← hV42]
  clear hY40 hV42
  have HS43 : Hid (_) := psees_any b (lv) _ l34 [[101, 108, 115, 101]] _ V42 PA.out ol30 rV42 (Nat.le_refl _) (by simp)
  refine Calls.mono HS43.out ?_
  rintro e w45 ⟨rfl, hb46⟩
  replace Nx : Hid (NF w w45 ⟨xk, xt, xn, .slice xa xL xc, xkids⟩ [w38.heap.size, w24.heap.size, w11.heap.size]) := Nx.out.go (grown_low hb46) FR.out.low
  replace Ny : Hid (NF w w45 ⟨yk, yt, yn, .slice ya yL yc, ykids⟩ [w38.heap.size, w24.heap.size, w11.heap.size]) := Ny.out.go (grown_low hb46) FR.out.low
  replace No : Hid (NF w w45 ⟨5, [], 0, .slice none 0 0, []⟩ [w38.heap.size, w24.heap.size, w11.heap.size]) := No.out.go (grown_low hb46) FR.out.low
  replace Bo : Hid (BX w w45 (w38.heap.size) ⟨5, [], 0, .slice none 0 0, []⟩) := Bo.out.go (grown_low hb46) FR.out.low
  replace By : Hid (BX w w45 (w24.heap.size) ⟨yk, yt, yn, .slice ya yL yc, ykids⟩) := By.out.go (grown_low hb46) FR.out.low
  replace Bx : Hid (BX w w45 (w11.heap.size) ⟨xk, xt, xn, .slice xa xL xc, xkids⟩) := Bx.out.go (grown_low hb46) FR.out.low
  replace FR : Hid (Frm w b w45) := FR.out.go (grown_low hb46)
  replace PA : Hid (PAt b l34 (lv) w45) := PA.out.below hb46
  clear HS43 hb46 rV42
  cases hs44 : Ps.sees l34 [[101, 108, 115, 101]]
  · skip
    obtain ⟨f47, f48, f49, f50⟩ := Bx.out.cs
    obtain ⟨f51, f52, f53, f54⟩ := By.out.cs
    obtain ⟨f55, f56, f57, f58⟩ := Bo.out.cs
    obtain ⟨R59, hR59⟩ : ∃ V, V = w45.alloc (.cells #[.int .u8 xk, .string (Ln.bs xt), .int .i64 xn, .slice xa xL xc, .int .u8 yk, .string (Ln.bs yt), .int .i64 yn, .slice ya yL yc, .int .u8 5, .string (Ln.bs []), .int .i64 0, .slice none 0 0] 25) := ⟨_, rfl⟩
    have bR59 : Below w45.heap.size w45 R59 := hR59 ▸ below_new w45 _
    have hX : ∀ q ∈ ([w38.heap.size, w24.heap.size, w11.heap.size] : List Nat), q < w45.heap.size := by
      intro q hq
      simp only [List.mem_cons, List.not_mem_nil, or_false] at hq
      rcases hq with rfl | rfl | rfl
      · exact Bo.out.lt
      · exact By.out.lt
      · exact Bx.out.lt
    have nk : NF w R59 ⟨8, [], 0, .slice (some ⟨w45.heap.size, 0, none⟩) 3 3, [N1.tr ⟨xk, xt, xn, .slice xa xL xc, xkids⟩, N1.tr ⟨yk, yt, yn, .slice ya yL yc, ykids⟩, N1.tr ⟨5, [], 0, .slice none 0 0, []⟩]⟩ [w38.heap.size, w24.heap.size, w11.heap.size] := by
      rw [hR59]
      refine NF.kids FR.out [⟨xk, xt, xn, .slice xa xL xc, xkids⟩, ⟨yk, yt, yn, .slice ya yL yc, ykids⟩, ⟨5, [], 0, .slice none 0 0, []⟩] (fun z hz => ?_) hX (by simp) 8 [] 0 (by omega) (by simp) (by omega)
      simp only [List.mem_cons, List.not_mem_nil, or_false] at hz
      rcases hz with rfl | rfl | rfl
      · exact Nx.out
      · exact Ny.out
      · exact No.out
    replace Nx : Hid (NF w R59 ⟨xk, xt, xn, .slice xa xL xc, xkids⟩ [w38.heap.size, w24.heap.size, w11.heap.size]) := Nx.out.go (grown_low bR59) FR.out.low
    replace Ny : Hid (NF w R59 ⟨yk, yt, yn, .slice ya yL yc, ykids⟩ [w38.heap.size, w24.heap.size, w11.heap.size]) := Ny.out.go (grown_low bR59) FR.out.low
    replace No : Hid (NF w R59 ⟨5, [], 0, .slice none 0 0, []⟩ [w38.heap.size, w24.heap.size, w11.heap.size]) := No.out.go (grown_low bR59) FR.out.low
    replace Bo : Hid (BX w R59 (w38.heap.size) ⟨5, [], 0, .slice none 0 0, []⟩) := Bo.out.go (grown_low bR59) FR.out.low
    replace By : Hid (BX w R59 (w24.heap.size) ⟨yk, yt, yn, .slice ya yL yc, ykids⟩) := By.out.go (grown_low bR59) FR.out.low
    replace Bx : Hid (BX w R59 (w11.heap.size) ⟨xk, xt, xn, .slice xa xL xc, xkids⟩) := Bx.out.go (grown_low bR59) FR.out.low
    replace FR : Hid (Frm w b R59) := FR.out.go (grown_low bR59)
    replace PA : Hid (PAt b l34 (lv) R59) := PA.out.below bR59
    have Nz : Hid (NF w R59 ⟨8, [], 0, .slice (some ⟨w45.heap.size, 0, none⟩) 3 3, [N1.tr ⟨xk, xt, xn, .slice xa xL xc, xkids⟩, N1.tr ⟨yk, yt, yn, .slice ya yL yc, ykids⟩, N1.tr ⟨5, [], 0, .slice none 0 0, []⟩]⟩ [w38.heap.size, w24.heap.size, w11.heap.size]) := nk
    clear nk hX bR59
    go_wp2_with fail
    rw [← hR59]
    clear hR59
    have HD60 : Hid (_) := pnode_any 8 (Ln.bs []) (some ⟨w45.heap.size, 0, none⟩) 3 3 R59
    refine Calls.mono HD60.out ?_
    rintro e w61 ⟨rfl, hb62⟩
    replace Nx : Hid (NF w w61 ⟨xk, xt, xn, .slice xa xL xc, xkids⟩ [w38.heap.size, w24.heap.size, w11.heap.size]) := Nx.out.go (grown_low hb62) FR.out.low
    replace Ny : Hid (NF w w61 ⟨yk, yt, yn, .slice ya yL yc, ykids⟩ [w38.heap.size, w24.heap.size, w11.heap.size]) := Ny.out.go (grown_low hb62) FR.out.low
    replace No : Hid (NF w w61 ⟨5, [], 0, .slice none 0 0, []⟩ [w38.heap.size, w24.heap.size, w11.heap.size]) := No.out.go (grown_low hb62) FR.out.low
    replace Nz : Hid (NF w w61 ⟨8, [], 0, .slice (some ⟨w45.heap.size, 0, none⟩) 3 3, [N1.tr ⟨xk, xt, xn, .slice xa xL xc, xkids⟩, N1.tr ⟨yk, yt, yn, .slice ya yL yc, ykids⟩, N1.tr ⟨5, [], 0, .slice none 0 0, []⟩]⟩ [w38.heap.size, w24.heap.size, w11.heap.size]) := Nz.out.go (grown_low hb62) FR.out.low
    replace Bo : Hid (BX w w61 (w38.heap.size) ⟨5, [], 0, .slice none 0 0, []⟩) := Bo.out.go (grown_low hb62) FR.out.low
    replace By : Hid (BX w w61 (w24.heap.size) ⟨yk, yt, yn, .slice ya yL yc, ykids⟩) := By.out.go (grown_low hb62) FR.out.low
    replace Bx : Hid (BX w w61 (w11.heap.size) ⟨xk, xt, xn, .slice xa xL xc, xkids⟩) := Bx.out.go (grown_low hb62) FR.out.low
    replace FR : Hid (Frm w b w61) := FR.out.go (grown_low hb62)
    replace PA : Hid (PAt b l34 (lv) w61) := PA.out.below hb62
    clear HD60 hb62
    clear f47 f48 f49 f50 f51 f52 f53 f54 f55 f56 f57 f58
    obtain ⟨p0, p1, p2, p3, pf, Z, hZ, ⟨r0, r1, r2, r3⟩, z1, z2, z3⟩ := FR.out.fin PA.out Nz.out
    have HF : Hid (w.grownBy Z (some b) ∧ PEnd b lv .stmt l w (.returned (.agg #[.int .u8 8, .string (Ln.bs []), .int .i64 0, .slice (some ⟨w45.heap.size, 0, none⟩) 3 3])) Z) := ⟨z1, .inr ⟨_, _, _, ⟨n13 + n26 + 1, by have e0 := Ps.go_le (show n13 ≤ n13 + n26 by omega) hn14; have e1 := Ps.go_le (show n26 ≤ n13 + n26 by omega) hn27; simp [HT.out, hs1, hs44, e0, e1]⟩, ol30, by omega, z2, rfl, z3⟩⟩
    clear z1 z2 z3 
    go_wp2
    rw [← hZ]
    refine bodyPost_ret (v := .agg #[.int .u8 8, .string (Ln.bs []), .int .i64 0, .slice (some ⟨w45.heap.size, 0, none⟩) 3 3]) (by simp [results, Tryz.results171, go_sem, r0, r1, r2, r3]) rfl HF.out
  go_wp2_with fail
  obtain ⟨ol48, ln49⟩ := ol30.sees hs44 (by decide)
  have HT47 : Hid (_) := ptake_any b (lv) l34 w45 PA.out ol30 ol48
  refine Calls.mono HT47.out ?_
  rintro e w50 ⟨rfl, hg51, hp52⟩
  replace Nx : Hid (NF w w50 ⟨xk, xt, xn, .slice xa xL xc, xkids⟩ [w38.heap.size, w24.heap.size, w11.heap.size]) := Nx.out.go hg51 FR.out.low
  replace Ny : Hid (NF w w50 ⟨yk, yt, yn, .slice ya yL yc, ykids⟩ [w38.heap.size, w24.heap.size, w11.heap.size]) := Ny.out.go hg51 FR.out.low
  replace No : Hid (NF w w50 ⟨5, [], 0, .slice none 0 0, []⟩ [w38.heap.size, w24.heap.size, w11.heap.size]) := No.out.go hg51 FR.out.low
  replace Bo : Hid (BX w w50 (w38.heap.size) ⟨5, [], 0, .slice none 0 0, []⟩) := Bo.out.go hg51 FR.out.low
  replace By : Hid (BX w w50 (w24.heap.size) ⟨yk, yt, yn, .slice ya yL yc, ykids⟩) := By.out.go hg51 FR.out.low
  replace Bx : Hid (BX w w50 (w11.heap.size) ⟨xk, xt, xn, .slice xa xL xc, xkids⟩) := Bx.out.go hg51 FR.out.low
  replace FR : Hid (Frm w b w50) := FR.out.go hg51
  replace PA : Hid (PAt b l34.tail (lv) w50) := hp52
  clear HT47 hg51 hp52
  go_wp2_with fail
  have HC53 : Hid (_) := HhBl.out b (lv) l34.tail w50 ol48 (by omega) (by omega) PA.out
  refine Calls.mono HC53.out ?_
  rintro e w54 ⟨hg55, ⟨E, i, ⟨n56, hn57⟩, rfl⟩ | ⟨t, l64, v, ⟨n56, hn57⟩, ol60, ln61, hp62, rfl, nd63⟩⟩
  · skip
    exact ⟨rfl, FR.out.grown.trans hg55, .inl ⟨_, _, ⟨n13 + n26 + n56 + 1, by have e0 := Ps.go_le (show n13 ≤ n13 + n26 + n56 by omega) hn14; have e1 := Ps.go_le (show n26 ≤ n13 + n26 + n56 by omega) hn27; have e2 := Ps.go_le (show n56 ≤ n13 + n26 + n56 by omega) hn57; simp [HT.out, hs1, hs44, e0, e1, e2]⟩, rfl⟩⟩
  have hX : ∀ q ∈ ([w38.heap.size, w24.heap.size, w11.heap.size] : List Nat), q < w50.heap.size := by
    intro q hq
    simp only [List.mem_cons, List.not_mem_nil, or_false] at hq
    rcases hq with rfl | rfl | rfl
    · exact Bo.out.lt
    · exact By.out.lt
    · exact Bx.out.lt
  obtain ⟨uk, ut, un, ua, uL, uc, ukids, rfl, rfl, nf⟩ := NF.of_end (X := [w38.heap.size, w24.heap.size, w11.heap.size]) nd63 FR.out hX
  replace Nx : Hid (NF w w54 ⟨xk, xt, xn, .slice xa xL xc, xkids⟩ [w38.heap.size, w24.heap.size, w11.heap.size]) := Nx.out.go hg55 FR.out.low
  replace Ny : Hid (NF w w54 ⟨yk, yt, yn, .slice ya yL yc, ykids⟩ [w38.heap.size, w24.heap.size, w11.heap.size]) := Ny.out.go hg55 FR.out.low
  replace No : Hid (NF w w54 ⟨5, [], 0, .slice none 0 0, []⟩ [w38.heap.size, w24.heap.size, w11.heap.size]) := No.out.go hg55 FR.out.low
  replace Bo : Hid (BX w w54 (w38.heap.size) ⟨5, [], 0, .slice none 0 0, []⟩) := Bo.out.go hg55 FR.out.low
  replace By : Hid (BX w w54 (w24.heap.size) ⟨yk, yt, yn, .slice ya yL yc, ykids⟩) := By.out.go hg55 FR.out.low
  replace Bx : Hid (BX w w54 (w11.heap.size) ⟨xk, xt, xn, .slice xa xL xc, xkids⟩) := Bx.out.go hg55 FR.out.low
  replace FR : Hid (Frm w b w54) := FR.out.go hg55
  replace PA : Hid (PAt b l64 (lv) w54) := hp62
  have Nu : Hid (NF w w54 ⟨uk, ut, un, .slice ua uL uc, ukids⟩ [w38.heap.size, w24.heap.size, w11.heap.size]) := nf
  clear nf HC53 hg55 hp62 nd63 hX
  obtain ⟨⟨c0, p0⟩, ⟨c1, p1⟩, ⟨c2, p2⟩, ⟨c3, p3⟩, pf, Z9, hZ9, gz9, FZ, PZ, BZ, NZ⟩ := Bo.out.put FR.out PA.out Nu.out (by simp)
  have hnex : w11.heap.size ≠ w38.heap.size := Nat.ne_of_lt ltxo
  replace Bx : Hid (BX w Z9 (w11.heap.size) ⟨xk, xt, xn, .slice xa xL xc, xkids⟩) := ⟨Bx.out.1, (gz9.block _ Bx.out.lt (by simpa using hnex)).trans Bx.out.2⟩
  replace Nx : Hid (NF w Z9 ⟨xk, xt, xn, .slice xa xL xc, xkids⟩ [w38.heap.size, w24.heap.size, w11.heap.size]) := Nx.out.set gz9 (by simp)
  have hney : w24.heap.size ≠ w38.heap.size := Nat.ne_of_lt ltyo
  replace By : Hid (BX w Z9 (w24.heap.size) ⟨yk, yt, yn, .slice ya yL yc, ykids⟩) := ⟨By.out.1, (gz9.block _ By.out.lt (by simpa using hney)).trans By.out.2⟩
  replace Ny : Hid (NF w Z9 ⟨yk, yt, yn, .slice ya yL yc, ykids⟩ [w38.heap.size, w24.heap.size, w11.heap.size]) := Ny.out.set gz9 (by simp)
  replace FR : Hid (Frm w b Z9) := FZ
  replace PA : Hid (PAt b l64 (lv) Z9) := PZ
  have Bu : Hid (BX w Z9 (w38.heap.size) ⟨uk, ut, un, .slice ua uL uc, ukids⟩) := BZ
  replace Nu : Hid (NF w Z9 ⟨uk, ut, un, .slice ua uL uc, ukids⟩ [w38.heap.size, w24.heap.size, w11.heap.size]) := NZ
  go_upto_region 8 with fail
  rw [← hZ9]
  clear hZ9
  skip
  obtain ⟨f65, f66, f67, f68⟩ := Bx.out.cs
  obtain ⟨f69, f70, f71, f72⟩ := By.out.cs
  obtain ⟨f73, f74, f75, f76⟩ := Bu.out.cs
  obtain ⟨R77, hR77⟩ : ∃ V, V = Z9.alloc (.cells #[.int .u8 xk, .string (Ln.bs xt), .int .i64 xn, .slice xa xL xc, .int .u8 yk, .string (Ln.bs yt), .int .i64 yn, .slice ya yL yc, .int .u8 uk, .string (Ln.bs ut), .int .i64 un, .slice ua uL uc] 25) := ⟨_, rfl⟩
  have bR77 : Below Z9.heap.size Z9 R77 := hR77 ▸ below_new Z9 _
  have hX : ∀ q ∈ ([w38.heap.size, w24.heap.size, w11.heap.size] : List Nat), q < Z9.heap.size := by
    intro q hq
    simp only [List.mem_cons, List.not_mem_nil, or_false] at hq
    rcases hq with rfl | rfl | rfl
    · exact Bu.out.lt
    · exact By.out.lt
    · exact Bx.out.lt
  have nk : NF w R77 ⟨8, [], 0, .slice (some ⟨Z9.heap.size, 0, none⟩) 3 3, [N1.tr ⟨xk, xt, xn, .slice xa xL xc, xkids⟩, N1.tr ⟨yk, yt, yn, .slice ya yL yc, ykids⟩, N1.tr ⟨uk, ut, un, .slice ua uL uc, ukids⟩]⟩ [w38.heap.size, w24.heap.size, w11.heap.size] := by
    rw [hR77]
    refine NF.kids FR.out [⟨xk, xt, xn, .slice xa xL xc, xkids⟩, ⟨yk, yt, yn, .slice ya yL yc, ykids⟩, ⟨uk, ut, un, .slice ua uL uc, ukids⟩] (fun z hz => ?_) hX (by simp) 8 [] 0 (by omega) (by simp) (by omega)
    simp only [List.mem_cons, List.not_mem_nil, or_false] at hz
    rcases hz with rfl | rfl | rfl
    · exact Nx.out
    · exact Ny.out
    · exact Nu.out
  replace Nx : Hid (NF w R77 ⟨xk, xt, xn, .slice xa xL xc, xkids⟩ [w38.heap.size, w24.heap.size, w11.heap.size]) := Nx.out.go (grown_low bR77) FR.out.low
  replace Ny : Hid (NF w R77 ⟨yk, yt, yn, .slice ya yL yc, ykids⟩ [w38.heap.size, w24.heap.size, w11.heap.size]) := Ny.out.go (grown_low bR77) FR.out.low
  replace Nu : Hid (NF w R77 ⟨uk, ut, un, .slice ua uL uc, ukids⟩ [w38.heap.size, w24.heap.size, w11.heap.size]) := Nu.out.go (grown_low bR77) FR.out.low
  replace Bu : Hid (BX w R77 (w38.heap.size) ⟨uk, ut, un, .slice ua uL uc, ukids⟩) := Bu.out.go (grown_low bR77) FR.out.low
  replace By : Hid (BX w R77 (w24.heap.size) ⟨yk, yt, yn, .slice ya yL yc, ykids⟩) := By.out.go (grown_low bR77) FR.out.low
  replace Bx : Hid (BX w R77 (w11.heap.size) ⟨xk, xt, xn, .slice xa xL xc, xkids⟩) := Bx.out.go (grown_low bR77) FR.out.low
  replace FR : Hid (Frm w b R77) := FR.out.go (grown_low bR77)
  replace PA : Hid (PAt b l64 (lv) R77) := PA.out.below bR77
  have Nz : Hid (NF w R77 ⟨8, [], 0, .slice (some ⟨Z9.heap.size, 0, none⟩) 3 3, [N1.tr ⟨xk, xt, xn, .slice xa xL xc, xkids⟩, N1.tr ⟨yk, yt, yn, .slice ya yL yc, ykids⟩, N1.tr ⟨uk, ut, un, .slice ua uL uc, ukids⟩]⟩ [w38.heap.size, w24.heap.size, w11.heap.size]) := nk
  clear nk hX bR77
  go_wp2_with fail
  rw [← hR77]
  clear hR77
  have HD78 : Hid (_) := pnode_any 8 (Ln.bs []) (some ⟨Z9.heap.size, 0, none⟩) 3 3 R77
  refine Calls.mono HD78.out ?_
  rintro e w79 ⟨rfl, hb80⟩
  replace Nx : Hid (NF w w79 ⟨xk, xt, xn, .slice xa xL xc, xkids⟩ [w38.heap.size, w24.heap.size, w11.heap.size]) := Nx.out.go (grown_low hb80) FR.out.low
  replace Ny : Hid (NF w w79 ⟨yk, yt, yn, .slice ya yL yc, ykids⟩ [w38.heap.size, w24.heap.size, w11.heap.size]) := Ny.out.go (grown_low hb80) FR.out.low
  replace Nu : Hid (NF w w79 ⟨uk, ut, un, .slice ua uL uc, ukids⟩ [w38.heap.size, w24.heap.size, w11.heap.size]) := Nu.out.go (grown_low hb80) FR.out.low
  replace Nz : Hid (NF w w79 ⟨8, [], 0, .slice (some ⟨Z9.heap.size, 0, none⟩) 3 3, [N1.tr ⟨xk, xt, xn, .slice xa xL xc, xkids⟩, N1.tr ⟨yk, yt, yn, .slice ya yL yc, ykids⟩, N1.tr ⟨uk, ut, un, .slice ua uL uc, ukids⟩]⟩ [w38.heap.size, w24.heap.size, w11.heap.size]) := Nz.out.go (grown_low hb80) FR.out.low
  replace Bu : Hid (BX w w79 (w38.heap.size) ⟨uk, ut, un, .slice ua uL uc, ukids⟩) := Bu.out.go (grown_low hb80) FR.out.low
  replace By : Hid (BX w w79 (w24.heap.size) ⟨yk, yt, yn, .slice ya yL yc, ykids⟩) := By.out.go (grown_low hb80) FR.out.low
  replace Bx : Hid (BX w w79 (w11.heap.size) ⟨xk, xt, xn, .slice xa xL xc, xkids⟩) := Bx.out.go (grown_low hb80) FR.out.low
  replace FR : Hid (Frm w b w79) := FR.out.go (grown_low hb80)
  replace PA : Hid (PAt b l64 (lv) w79) := PA.out.below hb80
  clear HD78 hb80
  clear f65 f66 f67 f68 f69 f70 f71 f72 f73 f74 f75 f76
  obtain ⟨p0, p1, p2, p3, pf, Z, hZ, ⟨r0, r1, r2, r3⟩, z1, z2, z3⟩ := FR.out.fin PA.out Nz.out
  have HF : Hid (w.grownBy Z (some b) ∧ PEnd b lv .stmt l w (.returned (.agg #[.int .u8 8, .string (Ln.bs []), .int .i64 0, .slice (some ⟨Z9.heap.size, 0, none⟩) 3 3])) Z) := ⟨z1, .inr ⟨_, _, _, ⟨n13 + n26 + n56 + 1, by have e0 := Ps.go_le (show n13 ≤ n13 + n26 + n56 by omega) hn14; have e1 := Ps.go_le (show n26 ≤ n13 + n26 + n56 by omega) hn27; have e2 := Ps.go_le (show n56 ≤ n13 + n26 + n56 by omega) hn57; simp [HT.out, hs1, hs44, e0, e1, e2]⟩, ol60, by omega, z2, rfl, z3⟩⟩
  clear z1 z2 z3 
  go_wp2
  rw [← hZ]
  refine bodyPost_ret (v := .agg #[.int .u8 8, .string (Ln.bs []), .int .i64 0, .slice (some ⟨Z9.heap.size, 0, none⟩) 3 3]) (by simp [results, Tryz.results171, go_sem, r0, r1, r2, r3]) rfl HF.out

end Go.Proofs.YtnndgjnihhafbaaGreatDoor

/-
  The walks of named, statement and function.
-/
namespace Go.Proofs.YtnndgjnihhafbaaGreatDoor
open Go.RowKit Go.Shelf

attribute [local go_sem] Oper.semAt_some
attribute [local simp] Ps.go Ps.opn Ps.want Ps.name Ps.bnd Ps.bad N1.tr

set_option maxRecDepth 100000 in
set_option maxHeartbeats 4000000 in
theorem pnamed_of (m : Nat) (hE : PDoes 174 (.bin 0) [] m) : PDoes 175 .named [] (m + 1) := by
  intro b lv l w hl hm hlv hP
  obtain ⟨A, hA⟩ : ∃ A, A = w.alloc (.cells #[.int .u8 0, .string ⟨#[]⟩, .int .i64 0, .slice none 0 0] 25) := ⟨_, rfl⟩
  have FR : Hid (Frm w b A) := hA ▸ Frm.new hP
  have PA : Hid (PAt b l lv A) := hA ▸ hP.below (below_new w _)
  have HhE : Hid (PDoes 174 (.bin 0) [] m) := hE
  clear hP hE
  refine (callsIn_wide (n := 3)).1 ?_
  refine callsIn_of_wp Tryz.func175 rfl trivial ?_ rfl
  simp only [Tryz.ntmps175, List.size_toArray, List.length_cons, List.length_nil, Nat.reduceAdd, Nat.reduceSub, Array.replicate_succ, Array.replicate_zero, List.push_toArray, List.append_toArray, List.nil_append, List.cons_append]
  gi_wp2
  rw [← hA]
  clear hA
  by_cases hk1 : (Ps.hd l).kind = 1
  case neg =>
    have HN2 : Hid (_) := pname_no b (lv) l A PA.out hl hk1
    refine ⟨trivial, ?_⟩
    refine (callsIn_wide.2 HN2.out).mono ?_
    rintro e u4 ⟨rfl, hg3⟩
    exact ⟨rfl, FR.out.grown.trans hg3, .inl ⟨_, _, ⟨1, by simp [hk1]⟩, rfl⟩⟩
  obtain ⟨ol5, ln6⟩ := hl.tail (.inl (by rw [hk1]; decide))
  have tl7 : (Ps.hd l).text.length ≤ 1000000 := hl.hd.1
  have HN2 : Hid (_) := pname_yes b (lv) l A PA.out hl hk1
  refine ⟨trivial, ?_⟩
  refine (callsIn_wide.2 HN2.out).mono ?_
  rintro e w8 ⟨rfl, hg9, hp10⟩
  replace FR : Hid (Frm w b w8) := FR.out.go hg9
  replace PA : Hid (PAt b l.tail (lv) w8) := hp10
  clear HN2 hg9 hp10
  obtain ⟨V11, hV11⟩ : ∃ V, V = w8.alloc (.cells #[.string ⟨#[40]⟩] 9) := ⟨_, rfl⟩
  have bV11 : Below w8.heap.size w8 V11 := hV11 ▸ below_new w8 _
  have rV11 : RowLow V11.heap.size V11 (.slice (some ⟨w8.heap.size, 0, none⟩) 1 1) [[40]] := by rw [hV11]; exact CellsLow.lit w8 [txtV [40]] 9 1
  replace FR : Hid (Frm w b V11) := FR.out.go (grown_low bV11)
  replace PA : Hid (PAt b l.tail (lv) V11) := PA.out.below bV11
  clear bV11
  gi_wp2
  rw [← hV11]
  clear hV11
  have HS12 : Hid (_) := psees_any b (lv) _ l.tail [[40]] _ V11 PA.out ol5 rV11 (Nat.le_refl _) (by simp)
  refine ⟨trivial, ?_⟩
  refine (callsIn_wide.2 HS12.out).mono ?_
  rintro e w14 ⟨rfl, hb15⟩
  replace FR : Hid (Frm w b w14) := FR.out.go (grown_low hb15)
  replace PA : Hid (PAt b l.tail (lv) w14) := PA.out.below hb15
  clear HS12 hb15 rV11
  cases hs13 : Ps.sees l.tail [[40]]
  case true =>
    have HCC : Hid (PDoes 177 (.call (Ps.hd l).text) [.string (Ln.bs (Ps.hd l).text)] (m + 1)) := (pexpr_all (m + 1)).2.2 _ tl7
    gi_wp2
    have HC16 : Hid (_) := HCC.out b (lv) l.tail w14 ol5 (by omega) (by omega) PA.out
    refine ⟨trivial, ?_⟩
    refine (callsIn_wide.2 HC16.out).mono ?_
    rintro e w17 ⟨hg18, ⟨E, i, ⟨n19, hn20⟩, rfl⟩ | ⟨t, l27, v, ⟨n19, hn20⟩, ol23, ln24, hp25, rfl, nd26⟩⟩
    · skip
      exact ⟨rfl, FR.out.grown.trans hg18, .inl ⟨_, _, ⟨n19 + 1, by have e0 := Ps.go_le (show n19 ≤ n19 by omega) hn20; simp [hk1, hs13, e0]⟩, rfl⟩⟩
    obtain ⟨xk, xt, xn, xa, xL, xc, xkids, rfl, rfl, nf⟩ := NF.of_end (X := []) nd26 FR.out (by simp)
    replace FR : Hid (Frm w b w17) := FR.out.go hg18
    replace PA : Hid (PAt b l27 (lv) w17) := hp25
    have Nx : Hid (NF w w17 ⟨xk, xt, xn, .slice xa xL xc, xkids⟩ []) := nf
    clear nf HC16 hg18 hp25 nd26
    obtain ⟨R28, hR28⟩ : ∃ V, V = w17.alloc (.cells #[.int .u8 xk, .string (Ln.bs xt), .int .i64 xn, .slice xa xL xc] 25) := ⟨_, rfl⟩
    have bR28 : Below w17.heap.size w17 R28 := hR28 ▸ below_new w17 _
    have hX : ∀ q ∈ ([] : List Nat), q < w17.heap.size := by
      intro q hq
      cases hq
    have nk : NF w R28 ⟨12, [], 0, .slice (some ⟨w17.heap.size, 0, none⟩) 1 1, [N1.tr ⟨xk, xt, xn, .slice xa xL xc, xkids⟩]⟩ [] := by
      rw [hR28]
      refine NF.kids FR.out [⟨xk, xt, xn, .slice xa xL xc, xkids⟩] (fun z hz => ?_) hX (by simp) 12 [] 0 (by omega) (by simp) (by omega)
      simp only [List.mem_cons, List.not_mem_nil, or_false] at hz
      subst hz
      exact Nx.out
    replace Nx : Hid (NF w R28 ⟨xk, xt, xn, .slice xa xL xc, xkids⟩ []) := Nx.out.go (grown_low bR28) FR.out.low
    replace FR : Hid (Frm w b R28) := FR.out.go (grown_low bR28)
    replace PA : Hid (PAt b l27 (lv) R28) := PA.out.below bR28
    have Nz : Hid (NF w R28 ⟨12, [], 0, .slice (some ⟨w17.heap.size, 0, none⟩) 1 1, [N1.tr ⟨xk, xt, xn, .slice xa xL xc, xkids⟩]⟩ []) := nk
    clear nk hX bR28
    gi_wp2
    rw [← hR28]
    clear hR28
    have HC29 : Hid (_) := pended_any (newX (w.heap.size + 1) R28.heap.size []) b (lv) l27 12 [] (some ⟨w17.heap.size, 0, none⟩) 1 1 [N1.tr ⟨xk, xt, xn, .slice xa xL xc, xkids⟩] R28 ol23 PA.out (fun q hq => ⟨hq.2.1, by have := hq.1; have := FR.out.low; omega⟩) Nz.out.row
    have hX : ∀ q ∈ ([] : List Nat), q < R28.heap.size := by
      intro q hq
      cases hq
    refine ⟨trivial, ?_⟩
    refine (callsIn_wide.2 HC29.out).mono ?_
    rintro e w30 ⟨hg31, ⟨hs32, rfl⟩ | ⟨hs32, hp33, rfl, rr34⟩⟩
    · skip
      exact ⟨rfl, FR.out.grown.trans hg31, .inl ⟨_, _, ⟨n19 + 1, by have e0 := Ps.go_le (show n19 ≤ n19 by omega) hn20; simp [hk1, hs13, hs32, e0]⟩, rfl⟩⟩
    have nn : NF w w30 ⟨12, [], 0, .slice (some ⟨w17.heap.size, 0, none⟩) 1 1, [N1.tr ⟨xk, xt, xn, .slice xa xL xc, xkids⟩]⟩ [] := Nz.out.ended FR.out hX rr34 hg31.size
    obtain ⟨ol35, ln36⟩ := ol23.sees hs32 (nil_not [59] (by decide))
    replace Nx : Hid (NF w w30 ⟨xk, xt, xn, .slice xa xL xc, xkids⟩ []) := Nx.out.go hg31 FR.out.low
    replace FR : Hid (Frm w b w30) := FR.out.go hg31
    replace PA : Hid (PAt b l27.tail (lv) w30) := hp33
    replace Nz : Hid (NF w w30 ⟨12, [], 0, .slice (some ⟨w17.heap.size, 0, none⟩) 1 1, [N1.tr ⟨xk, xt, xn, .slice xa xL xc, xkids⟩]⟩ []) := nn
    clear nn hX HC29 hg31 hp33 rr34
    obtain ⟨p0, p1, p2, p3, pf, Z, hZ, ⟨r0, r1, r2, r3⟩, z1, z2, z3⟩ := FR.out.fin PA.out Nz.out
    have HF : Hid (w.grownBy Z (some b) ∧ PEnd b lv .named l w (.returned (.agg #[.int .u8 12, .string (Ln.bs []), .int .i64 0, .slice (some ⟨w17.heap.size, 0, none⟩) 1 1])) Z) := ⟨z1, .inr ⟨_, _, _, ⟨n19 + 1, by have e0 := Ps.go_le (show n19 ≤ n19 by omega) hn20; simp [hk1, hs13, hs32, e0]⟩, ol35, by omega, z2, rfl, z3⟩⟩
    clear z1 z2 z3 
    gi_wp2
    rw [← hZ]
    refine bodyPost_ret (v := .agg #[.int .u8 12, .string (Ln.bs []), .int .i64 0, .slice (some ⟨w17.heap.size, 0, none⟩) 1 1]) (by simp [results, Tryz.results175, go_sem, r0, r1, r2, r3]) rfl HF.out
  case false =>
  have Np : Hid (NF w w14 ⟨22, (Ps.hd l).text, 0, .slice none 0 0, []⟩ []) := NF.leaf w w14 [] 22 (Ps.hd l).text 0 (by omega) (tl7) (by omega)
  gi_wp2
  have HD16 : Hid (_) := pnode_any 22 (Ln.bs ((Ps.hd l).text)) none 0 0 w14
  refine ⟨trivial, ?_⟩
  refine (callsIn_wide.2 HD16.out).mono ?_
  rintro e w17 ⟨rfl, hb18⟩
  replace Np : Hid (NF w w17 ⟨22, (Ps.hd l).text, 0, .slice none 0 0, []⟩ []) := Np.out.go (grown_low hb18) FR.out.low
  replace FR : Hid (Frm w b w17) := FR.out.go (grown_low hb18)
  replace PA : Hid (PAt b l.tail (lv) w17) := PA.out.below hb18
  clear HD16 hb18
  obtain ⟨Y19, hY19⟩ : ∃ V, V = w17.alloc (.cells #[.int .u8 22, .string (Ln.bs ((Ps.hd l).text)), .int .i64 0, .slice none 0 0] 25) := ⟨_, rfl⟩
  have bY19 : Below w17.heap.size w17 Y19 := hY19 ▸ below_new w17 _
  have nb : BX w Y19 (w17.heap.size) ⟨22, (Ps.hd l).text, 0, .slice none 0 0, []⟩ := by rw [hY19]; exact BX.new FR.out ⟨22, (Ps.hd l).text, 0, .slice none 0 0, []⟩
  replace Np : Hid (NF w w17 ⟨22, (Ps.hd l).text, 0, .slice none 0 0, []⟩ [w17.heap.size]) := Np.out.ex (Nat.le_refl _)
  replace Np : Hid (NF w Y19 ⟨22, (Ps.hd l).text, 0, .slice none 0 0, []⟩ [w17.heap.size]) := Np.out.go (grown_low bY19) FR.out.low
  replace FR : Hid (Frm w b Y19) := FR.out.go (grown_low bY19)
  replace PA : Hid (PAt b l.tail (lv) Y19) := PA.out.below bY19
  have Bp : Hid (BX w Y19 (w17.heap.size) ⟨22, (Ps.hd l).text, 0, .slice none 0 0, []⟩) := nb
  clear nb bY19
  have sz20 : Y19.heap.size = w17.heap.size + 1 := by rw [hY19, World.size_alloc]
  obtain ⟨V21, hV21⟩ : ∃ V, V = Y19.alloc (.cells #[.string ⟨#[91]⟩] 9) := ⟨_, rfl⟩
  have bV21 : Below Y19.heap.size Y19 V21 := hV21 ▸ below_new Y19 _
  have rV21 : RowLow V21.heap.size V21 (.slice (some ⟨w17.heap.size + 1, 0, none⟩) 1 1) [[91]] := by rw [hV21, ← sz20]; exact CellsLow.lit Y19 [txtV [91]] 9 1
  replace Np : Hid (NF w V21 ⟨22, (Ps.hd l).text, 0, .slice none 0 0, []⟩ [w17.heap.size]) := Np.out.go (grown_low bV21) FR.out.low
  replace Bp : Hid (BX w V21 (w17.heap.size) ⟨22, (Ps.hd l).text, 0, .slice none 0 0, []⟩) := Bp.out.go (grown_low bV21) FR.out.low
  replace FR : Hid (Frm w b V21) := FR.out.go (grown_low bV21)
  replace PA : Hid (PAt b l.tail (lv) V21) := PA.out.below bV21
  clear bV21 sz20
  gi_wp2
  rw [← hY19, ← hV21]
  clear hY19 hV21
  have HS22 : Hid (_) := psees_any b (lv) _ l.tail [[91]] _ V21 PA.out ol5 rV21 (Nat.le_refl _) (by simp)
  refine ⟨trivial, ?_⟩
  refine (callsIn_wide.2 HS22.out).mono ?_
  rintro e w24 ⟨rfl, hb25⟩
  replace Np : Hid (NF w w24 ⟨22, (Ps.hd l).text, 0, .slice none 0 0, []⟩ [w17.heap.size]) := Np.out.go (grown_low hb25) FR.out.low
  replace Bp : Hid (BX w w24 (w17.heap.size) ⟨22, (Ps.hd l).text, 0, .slice none 0 0, []⟩) := Bp.out.go (grown_low hb25) FR.out.low
  replace FR : Hid (Frm w b w24) := FR.out.go (grown_low hb25)
  replace PA : Hid (PAt b l.tail (lv) w24) := PA.out.below hb25
  clear HS22 hb25 rV21
  cases hs23 : Ps.sees l.tail [[91]]
  case false =>
    gi_wp2
    cases hs26 : Ps.sees l.tail [[61]]
    · skip
      have HW27 : Hid (_) := pwant_no b (lv) l.tail [61] w24 PA.out ol5 hs26
      refine ⟨trivial, ?_⟩
      refine (callsIn_wide.2 HW27.out).mono ?_
      rintro e u29 ⟨rfl, hg28⟩
      exact ⟨rfl, FR.out.grown.trans hg28, .inl ⟨_, _, ⟨1, by simp [hk1, hs13, hs23, hs26]⟩, rfl⟩⟩
    obtain ⟨ol30, ln31⟩ := ol5.sees hs26 (nil_not [61] (by decide))
    have HW27 : Hid (_) := pwant_yes b (lv) l.tail [61] w24 PA.out ol5 hs26 (by decide)
    refine ⟨trivial, ?_⟩
    refine (callsIn_wide.2 HW27.out).mono ?_
    rintro e w32 ⟨rfl, hg33, hp34⟩
    replace Np : Hid (NF w w32 ⟨22, (Ps.hd l).text, 0, .slice none 0 0, []⟩ [w17.heap.size]) := Np.out.go hg33 FR.out.low
    replace Bp : Hid (BX w w32 (w17.heap.size) ⟨22, (Ps.hd l).text, 0, .slice none 0 0, []⟩) := Bp.out.go hg33 FR.out.low
    replace FR : Hid (Frm w b w32) := FR.out.go hg33
    replace PA : Hid (PAt b l.tail.tail (lv) w32) := hp34
    clear HW27 hg33 hp34
    gi_wp2
    have bd35 : Below w32.heap.size w32 w32.drew := below_draw w32 1
    replace Np : Hid (NF w w32.drew ⟨22, (Ps.hd l).text, 0, .slice none 0 0, []⟩ [w17.heap.size]) := Np.out.go (grown_low bd35) FR.out.low
    replace Bp : Hid (BX w w32.drew (w17.heap.size) ⟨22, (Ps.hd l).text, 0, .slice none 0 0, []⟩) := Bp.out.go (grown_low bd35) FR.out.low
    replace FR : Hid (Frm w b w32.drew) := FR.out.go (grown_low bd35)
    replace PA : Hid (PAt b l.tail.tail (lv) w32.drew) := PA.out.below bd35
    clear bd35
    refine region_lex (fun z => (z.cell? ⟨w17.heap.size, 0, none⟩ = some (.int .u8 22) ∧ z.cell? ⟨w17.heap.size, 1, none⟩ = some (.string (Ln.bs (Ps.hd l).text)) ∧ z.cell? ⟨w17.heap.size, 2, none⟩ = some (.int .i64 0) ∧ z.cell? ⟨w17.heap.size, 3, none⟩ = some (.slice none 0 0))) 3 4 rfl (by kernel_rfl) (by kernel_rfl) (by kernel_rfl) (by kernel_rfl) (fun _ _ d _ _ h => by cases d <;> exact h) Bp.out.cs ?_
    simp only [List.take_succ_cons, List.take_zero]
    iterate 3 (first
      | (apply lexC_want
         · rfl
         · exact fun _ => rfl
         · (intro w' hw'; obtain ⟨a0, a1, a2, a3⟩ := hw'; go_simp; try rfl)
         simp only [Act.put, List.setIfInBounds_toArray, List.set_cons_zero, List.set_cons_succ]))
    refine lexC_nil ?_
    have HC36 : Hid (_) := HhE.out b (lv) l.tail.tail (w32.drew) ol30 (by omega) (by omega) PA.out
    have hX : ∀ q ∈ ([w17.heap.size] : List Nat), q < (w32.drew).heap.size := by
      intro q hq
      simp only [List.mem_cons, List.not_mem_nil, or_false] at hq
      subst hq
      exact Bp.out.lt
    refine anyC_one (i := 3) (by kernel_rfl) rfl (by rfl) (fun K37 hK37 => ?_)
    go_simp
    refine ⟨trivial, ?_⟩
    refine (callsIn_wide.2 HC36.out).mono ?_
    rintro e w38 ⟨hg39, ⟨E, i, ⟨n40, hn41⟩, rfl⟩ | ⟨t, l46, v, ⟨n40, hn41⟩, ol42, ln43, hp44, rfl, nd45⟩⟩
    · skip
      exact ⟨rfl, FR.out.grown.trans hg39, .inl ⟨_, _, ⟨n40 + 1, by have e0 := Ps.go_le (show n40 ≤ n40 by omega) hn41; simp [hk1, hs13, hs23, hs26, e0]⟩, rfl⟩⟩
    obtain ⟨yk, yt, yn, ya, yL, yc, ykids, rfl, rfl, nf⟩ := NF.of_end (X := [w17.heap.size]) nd45 FR.out hX
    replace Np : Hid (NF w w38 ⟨22, (Ps.hd l).text, 0, .slice none 0 0, []⟩ [w17.heap.size]) := Np.out.go hg39 FR.out.low
    replace Bp : Hid (BX w w38 (w17.heap.size) ⟨22, (Ps.hd l).text, 0, .slice none 0 0, []⟩) := Bp.out.go hg39 FR.out.low
    replace FR : Hid (Frm w b w38) := FR.out.go hg39
    replace PA : Hid (PAt b l46 (lv) w38) := hp44
    have Ny : Hid (NF w w38 ⟨yk, yt, yn, .slice ya yL yc, ykids⟩ [w17.heap.size]) := nf
    refine hK37 _ _ Bp.out.cs ?_
    clear hK37
    clear nf HC36 hg39 hp44 nd45 hX
    obtain ⟨R48, hR48⟩ : ∃ V, V = w38.alloc (.cells #[.int .u8 22, .string (Ln.bs ((Ps.hd l).text)), .int .i64 0, .slice none 0 0, .int .u8 yk, .string (Ln.bs yt), .int .i64 yn, .slice ya yL yc] 25) := ⟨_, rfl⟩
    have bR48 : Below w38.heap.size w38 R48 := hR48 ▸ below_new w38 _
    have hX : ∀ q ∈ ([w17.heap.size] : List Nat), q < w38.heap.size := by
      intro q hq
      simp only [List.mem_cons, List.not_mem_nil, or_false] at hq
      subst hq
      exact Bp.out.lt
    have nk : NF w R48 ⟨7, [], 0, .slice (some ⟨w38.heap.size, 0, none⟩) 2 2, [N1.tr ⟨22, (Ps.hd l).text, 0, .slice none 0 0, []⟩, N1.tr ⟨yk, yt, yn, .slice ya yL yc, ykids⟩]⟩ [w17.heap.size] := by
      rw [hR48]
      refine NF.kids FR.out [⟨22, (Ps.hd l).text, 0, .slice none 0 0, []⟩, ⟨yk, yt, yn, .slice ya yL yc, ykids⟩] (fun z hz => ?_) hX (by simp) 7 [] 0 (by omega) (by simp) (by omega)
      simp only [List.mem_cons, List.not_mem_nil, or_false] at hz
      rcases hz with rfl | rfl
      · exact Np.out
      · exact Ny.out
    replace Np : Hid (NF w R48 ⟨22, (Ps.hd l).text, 0, .slice none 0 0, []⟩ [w17.heap.size]) := Np.out.go (grown_low bR48) FR.out.low
    replace Ny : Hid (NF w R48 ⟨yk, yt, yn, .slice ya yL yc, ykids⟩ [w17.heap.size]) := Ny.out.go (grown_low bR48) FR.out.low
    replace Bp : Hid (BX w R48 (w17.heap.size) ⟨22, (Ps.hd l).text, 0, .slice none 0 0, []⟩) := Bp.out.go (grown_low bR48) FR.out.low
    replace FR : Hid (Frm w b R48) := FR.out.go (grown_low bR48)
    replace PA : Hid (PAt b l46 (lv) R48) := PA.out.below bR48
    have Nz : Hid (NF w R48 ⟨7, [], 0, .slice (some ⟨w38.heap.size, 0, none⟩) 2 2, [N1.tr ⟨22, (Ps.hd l).text, 0, .slice none 0 0, []⟩, N1.tr ⟨yk, yt, yn, .slice ya yL yc, ykids⟩]⟩ [w17.heap.size]) := nk
    clear nk hX bR48
    refine anyC_one (i := 4) (by kernel_rfl) rfl (by rfl) (fun K47 hK47 => ?_)
    go_simp
    rw [← hR48]
    refine hK47 _ _ Bp.out.cs ?_
    clear hK47
    clear hR48
    have HC49 : Hid (_) := pended_any (newX (w.heap.size + 1) R48.heap.size [w17.heap.size]) b (lv) l46 7 [] (some ⟨w38.heap.size, 0, none⟩) 2 2 [N1.tr ⟨22, (Ps.hd l).text, 0, .slice none 0 0, []⟩, N1.tr ⟨yk, yt, yn, .slice ya yL yc, ykids⟩] R48 ol42 PA.out (fun q hq => ⟨hq.2.1, by have := hq.1; have := FR.out.low; omega⟩) Nz.out.row
    have hX : ∀ q ∈ ([w17.heap.size] : List Nat), q < R48.heap.size := by
      intro q hq
      simp only [List.mem_cons, List.not_mem_nil, or_false] at hq
      subst hq
      exact Bp.out.lt
    refine anyC_one (i := 5) (by kernel_rfl) rfl (by rfl) (fun K50 hK50 => ?_)
    go_simp
    refine ⟨trivial, ?_⟩
    refine (callsIn_wide.2 HC49.out).mono ?_
    rintro e w51 ⟨hg52, ⟨hs53, rfl⟩ | ⟨hs53, hp54, rfl, rr55⟩⟩
    · skip
      exact ⟨rfl, FR.out.grown.trans hg52, .inl ⟨_, _, ⟨n40 + 1, by have e0 := Ps.go_le (show n40 ≤ n40 by omega) hn41; simp [hk1, hs13, hs23, hs26, hs53, e0]⟩, rfl⟩⟩
    have nn : NF w w51 ⟨7, [], 0, .slice (some ⟨w38.heap.size, 0, none⟩) 2 2, [N1.tr ⟨22, (Ps.hd l).text, 0, .slice none 0 0, []⟩, N1.tr ⟨yk, yt, yn, .slice ya yL yc, ykids⟩]⟩ [w17.heap.size] := Nz.out.ended FR.out hX rr55 hg52.size
    obtain ⟨ol56, ln57⟩ := ol42.sees hs53 (nil_not [59] (by decide))
    replace Np : Hid (NF w w51 ⟨22, (Ps.hd l).text, 0, .slice none 0 0, []⟩ [w17.heap.size]) := Np.out.go hg52 FR.out.low
    replace Ny : Hid (NF w w51 ⟨yk, yt, yn, .slice ya yL yc, ykids⟩ [w17.heap.size]) := Ny.out.go hg52 FR.out.low
    replace Bp : Hid (BX w w51 (w17.heap.size) ⟨22, (Ps.hd l).text, 0, .slice none 0 0, []⟩) := Bp.out.go hg52 FR.out.low
    replace FR : Hid (Frm w b w51) := FR.out.go hg52
    replace PA : Hid (PAt b l46.tail (lv) w51) := hp54
    replace Nz : Hid (NF w w51 ⟨7, [], 0, .slice (some ⟨w38.heap.size, 0, none⟩) 2 2, [N1.tr ⟨22, (Ps.hd l).text, 0, .slice none 0 0, []⟩, N1.tr ⟨yk, yt, yn, .slice ya yL yc, ykids⟩]⟩ [w17.heap.size]) := nn
    refine hK50 _ _ Bp.out.cs ?_
    clear hK50
    clear nn hX HC49 hg52 hp54 rr55
    obtain ⟨p0, p1, p2, p3, pf, Z, hZ, ⟨r0, r1, r2, r3⟩, z1, z2, gz⟩ := FR.out.fin2 (k := 7) (tx := []) (n := 0) (sa := (some ⟨w38.heap.size, 0, none⟩)) (sL := 2) (sc := 2) PA.out
    have HF : Hid (w.grownBy Z (some b) ∧ PEnd b lv .named l w (.returned (.agg #[.int .u8 7, .string (Ln.bs []), .int .i64 0, .slice (some ⟨w38.heap.size, 0, none⟩) 2 2])) Z) := ⟨z1, .inr ⟨_, _, _, ⟨n40 + 1, by have e0 := Ps.go_le (show n40 ≤ n40 by omega) hn41; simp [hk1, hs13, hs23, hs26, hs53, e0]⟩, ol56, by omega, z2, rfl, Nz.out.res gz⟩⟩
    replace Bp : Hid (BX w Z (w17.heap.size) ⟨22, (Ps.hd l).text, 0, .slice none 0 0, []⟩) := Bp.out.res gz
    clear z1 z2 gz
    refine anyC_one (i := 6) (by kernel_rfl) rfl (by rfl) (fun K58 hK58 => ?_)
    go_simp
    rw [← hZ]
    refine hK58 _ _ Bp.out.cs ?_
    clear hK58
    clear hZ p0 p1 p2 p3 pf
    refine anyC_done (by kernel_rfl) ?_
    gi_wp2
    refine bodyPost_ret (v := .agg #[.int .u8 7, .string (Ln.bs []), .int .i64 0, .slice (some ⟨w38.heap.size, 0, none⟩) 2 2]) (by simp [results, Tryz.results175, go_sem, r0, r1, r2, r3]) rfl HF.out
  case true =>
  obtain ⟨f26, f27, f28, f29⟩ := Bp.out.cs
  have HI : Hid (_) := pindex_of (m + 1) (pwithin_all (m + 1) [91] [93] (by decide) (by decide)) (newX (w.heap.size + 1) w24.heap.size [w17.heap.size]) b lv l.tail (N1.tr ⟨22, (Ps.hd l).text, 0, .slice none 0 0, []⟩) (.agg #[.int .u8 22, .string (Ln.bs ((Ps.hd l).text)), .int .i64 0, .slice none 0 0]) w24 ol5 (by omega) hlv PA.out (fun j hj => ⟨hj.2.1, by have := hj.1; have := FR.out.low; omega⟩) ⟨⟨22, (Ps.hd l).text, 0, .slice none 0 0, []⟩, rfl, rfl, Np.out.fit, Np.out.row⟩
  gi_wp2
  refine ⟨trivial, ?_⟩
  refine (callsIn_wide.2 HI.out).mono ?_
  rintro e wi ⟨hgi, ⟨E, i, ⟨ni, hni⟩, rfl⟩ | ⟨yi, li, vi, ⟨ni, hni⟩, oli, lni, hpi, rfl, ndi⟩⟩
  · skip
    exact ⟨rfl, FR.out.grown.trans hgi, .inl ⟨_, _, ⟨ni + 1, by have e0 := Ps.go_le (show ni ≤ ni by omega) hni; simp [hk1, hs13, hs23, e0]⟩, rfl⟩⟩
  obtain ⟨⟨ik, it, in_, iv, ikids⟩, rfl, hit, iff_, ir⟩ := ndi
  obtain ⟨ia, ic, hiv⟩ := ir.slice
  simp only at hiv
  subst hiv
  simp only [N1.tr, Tr.mk.injEq] at hit
  obtain ⟨rfl, rfl, rfl, rfl⟩ := hit
  have NI : NF w wi ⟨26, [], 0, .slice ia [Tr.mk 22 (Ps.hd l).text 0 [], yi].length ic, [Tr.mk 22 (Ps.hd l).text 0 [], yi]⟩ [w17.heap.size] := by
    refine ⟨iff_, ir.mono (fun j hj => ?_)⟩
    have hflt := FR.out.lt
    have hblt := Bp.out.lt
    rcases hj with hj | hj
    · exact ⟨hj.1, Nat.lt_of_lt_of_le hj.2.1 hgi.size, hj.2.2⟩
    · refine ⟨by have := hj.1; omega, hj.2, fun e => ?_⟩
      have := hj.1
      simp only [List.mem_singleton] at e
      omega
  obtain ⟨⟨c0, p0⟩, ⟨c1, p1⟩, ⟨c2, p2⟩, ⟨c3, p3⟩, pf, Z9, hZ9, gz9, FZ, PZ, BZ, NZ⟩ := (Bp.out.go hgi FR.out.low).put (FR.out.go hgi) hpi NI (by simp)
  replace FR : Hid (Frm w b Z9) := FZ
  replace PA : Hid (PAt b li (lv) Z9) := PZ
  have Bi : Hid (BX w Z9 (w17.heap.size) ⟨26, [], 0, .slice ia 2 ic, [Tr.mk 22 (Ps.hd l).text 0 [], yi]⟩) := BZ
  have Ni : Hid (NF w Z9 ⟨26, [], 0, .slice ia 2 ic, [Tr.mk 22 (Ps.hd l).text 0 [], yi]⟩ [w17.heap.size]) := NZ
  simp only [N1.cells, List.length_cons, List.length_nil, Nat.zero_add, Nat.reduceAdd] at hZ9 p1 p2 p3 ⊢
  clear HI hgi hpi iff_ ir FZ PZ BZ NZ gz9 NI Bp Np f26 f27 f28 f29
  gi_wp2
  rw [← hZ9]
  clear hZ9
  gi_wp2
  cases hs30 : Ps.sees li [[61]]
  · skip
    have HW31 : Hid (_) := pwant_no b (lv) li [61] Z9 PA.out oli hs30
    refine ⟨trivial, ?_⟩
    refine (callsIn_wide.2 HW31.out).mono ?_
    rintro e u33 ⟨rfl, hg32⟩
    exact ⟨rfl, FR.out.grown.trans hg32, .inl ⟨_, _, ⟨ni + 1, by have e0 := Ps.go_le (show ni ≤ ni by omega) hni; simp [hk1, hs13, hs23, hs30, e0]⟩, rfl⟩⟩
  obtain ⟨ol34, ln35⟩ := oli.sees hs30 (nil_not [61] (by decide))
  have HW31 : Hid (_) := pwant_yes b (lv) li [61] Z9 PA.out oli hs30 (by decide)
  refine ⟨trivial, ?_⟩
  refine (callsIn_wide.2 HW31.out).mono ?_
  rintro e w36 ⟨rfl, hg37, hp38⟩
  replace Ni : Hid (NF w w36 ⟨26, [], 0, .slice ia 2 ic, [Tr.mk 22 (Ps.hd l).text 0 [], yi]⟩ [w17.heap.size]) := Ni.out.go hg37 FR.out.low
  replace Bi : Hid (BX w w36 (w17.heap.size) ⟨26, [], 0, .slice ia 2 ic, [Tr.mk 22 (Ps.hd l).text 0 [], yi]⟩) := Bi.out.go hg37 FR.out.low
  replace FR : Hid (Frm w b w36) := FR.out.go hg37
  replace PA : Hid (PAt b li.tail (lv) w36) := hp38
  clear HW31 hg37 hp38
  gi_wp2
  have bd39 : Below w36.heap.size w36 w36.drew := below_draw w36 1
  replace Ni : Hid (NF w w36.drew ⟨26, [], 0, .slice ia 2 ic, [Tr.mk 22 (Ps.hd l).text 0 [], yi]⟩ [w17.heap.size]) := Ni.out.go (grown_low bd39) FR.out.low
  replace Bi : Hid (BX w w36.drew (w17.heap.size) ⟨26, [], 0, .slice ia 2 ic, [Tr.mk 22 (Ps.hd l).text 0 [], yi]⟩) := Bi.out.go (grown_low bd39) FR.out.low
  replace FR : Hid (Frm w b w36.drew) := FR.out.go (grown_low bd39)
  replace PA : Hid (PAt b li.tail (lv) w36.drew) := PA.out.below bd39
  clear bd39
  refine region_lex (fun z => (z.cell? ⟨w17.heap.size, 0, none⟩ = some (.int .u8 26) ∧ z.cell? ⟨w17.heap.size, 1, none⟩ = some (.string (Ln.bs [])) ∧ z.cell? ⟨w17.heap.size, 2, none⟩ = some (.int .i64 0) ∧ z.cell? ⟨w17.heap.size, 3, none⟩ = some (.slice ia 2 ic))) 3 4 rfl (by kernel_rfl) (by kernel_rfl) (by kernel_rfl) (by kernel_rfl) (fun _ _ d _ _ h => by cases d <;> exact h) Bi.out.cs ?_
  simp only [List.take_succ_cons, List.take_zero]
  iterate 3 (first
    | (apply lexC_want
       · rfl
       · exact fun _ => rfl
       · (intro w' hw'; obtain ⟨a0, a1, a2, a3⟩ := hw'; go_simp; try rfl)
       simp only [Act.put, List.setIfInBounds_toArray, List.set_cons_zero, List.set_cons_succ]))
  refine lexC_nil ?_
  have HC40 : Hid (_) := HhE.out b (lv) li.tail (w36.drew) ol34 (by omega) (by omega) PA.out
  have hX : ∀ q ∈ ([w17.heap.size] : List Nat), q < (w36.drew).heap.size := by
    intro q hq
    simp only [List.mem_cons, List.not_mem_nil, or_false] at hq
    subst hq
    exact Bi.out.lt
  refine anyC_one (i := 3) (by kernel_rfl) rfl (by rfl) (fun K41 hK41 => ?_)
  go_simp
  refine ⟨trivial, ?_⟩
  refine (callsIn_wide.2 HC40.out).mono ?_
  rintro e w42 ⟨hg43, ⟨E, i, ⟨n44, hn45⟩, rfl⟩ | ⟨t, l50, v, ⟨n44, hn45⟩, ol46, ln47, hp48, rfl, nd49⟩⟩
  · skip
    exact ⟨rfl, FR.out.grown.trans hg43, .inl ⟨_, _, ⟨ni + n44 + 1, by have e0 := Ps.go_le (show ni ≤ ni + n44 by omega) hni; have e1 := Ps.go_le (show n44 ≤ ni + n44 by omega) hn45; simp [hk1, hs13, hs23, hs30, e0, e1]⟩, rfl⟩⟩
  obtain ⟨yk, yt, yn, ya, yL, yc, ykids, rfl, rfl, nf⟩ := NF.of_end (X := [w17.heap.size]) nd49 FR.out hX
  replace Ni : Hid (NF w w42 ⟨26, [], 0, .slice ia 2 ic, [Tr.mk 22 (Ps.hd l).text 0 [], yi]⟩ [w17.heap.size]) := Ni.out.go hg43 FR.out.low
  replace Bi : Hid (BX w w42 (w17.heap.size) ⟨26, [], 0, .slice ia 2 ic, [Tr.mk 22 (Ps.hd l).text 0 [], yi]⟩) := Bi.out.go hg43 FR.out.low
  replace FR : Hid (Frm w b w42) := FR.out.go hg43
  replace PA : Hid (PAt b l50 (lv) w42) := hp48
  have Ny : Hid (NF w w42 ⟨yk, yt, yn, .slice ya yL yc, ykids⟩ [w17.heap.size]) := nf
  refine hK41 _ _ Bi.out.cs ?_
  clear hK41
  clear nf HC40 hg43 hp48 nd49 hX
  obtain ⟨R52, hR52⟩ : ∃ V, V = w42.alloc (.cells #[.int .u8 26, .string (Ln.bs []), .int .i64 0, .slice ia 2 ic, .int .u8 yk, .string (Ln.bs yt), .int .i64 yn, .slice ya yL yc] 25) := ⟨_, rfl⟩
  have bR52 : Below w42.heap.size w42 R52 := hR52 ▸ below_new w42 _
  have hX : ∀ q ∈ ([w17.heap.size] : List Nat), q < w42.heap.size := by
    intro q hq
    simp only [List.mem_cons, List.not_mem_nil, or_false] at hq
    subst hq
    exact Bi.out.lt
  have nk : NF w R52 ⟨7, [], 0, .slice (some ⟨w42.heap.size, 0, none⟩) 2 2, [N1.tr ⟨26, [], 0, .slice ia 2 ic, [Tr.mk 22 (Ps.hd l).text 0 [], yi]⟩, N1.tr ⟨yk, yt, yn, .slice ya yL yc, ykids⟩]⟩ [w17.heap.size] := by
    rw [hR52]
    refine NF.kids FR.out [⟨26, [], 0, .slice ia 2 ic, [Tr.mk 22 (Ps.hd l).text 0 [], yi]⟩, ⟨yk, yt, yn, .slice ya yL yc, ykids⟩] (fun z hz => ?_) hX (by simp) 7 [] 0 (by omega) (by simp) (by omega)
    simp only [List.mem_cons, List.not_mem_nil, or_false] at hz
    rcases hz with rfl | rfl
    · exact Ni.out
    · exact Ny.out
  replace Ni : Hid (NF w R52 ⟨26, [], 0, .slice ia 2 ic, [Tr.mk 22 (Ps.hd l).text 0 [], yi]⟩ [w17.heap.size]) := Ni.out.go (grown_low bR52) FR.out.low
  replace Ny : Hid (NF w R52 ⟨yk, yt, yn, .slice ya yL yc, ykids⟩ [w17.heap.size]) := Ny.out.go (grown_low bR52) FR.out.low
  replace Bi : Hid (BX w R52 (w17.heap.size) ⟨26, [], 0, .slice ia 2 ic, [Tr.mk 22 (Ps.hd l).text 0 [], yi]⟩) := Bi.out.go (grown_low bR52) FR.out.low
  replace FR : Hid (Frm w b R52) := FR.out.go (grown_low bR52)
  replace PA : Hid (PAt b l50 (lv) R52) := PA.out.below bR52
  have Nz : Hid (NF w R52 ⟨7, [], 0, .slice (some ⟨w42.heap.size, 0, none⟩) 2 2, [N1.tr ⟨26, [], 0, .slice ia 2 ic, [Tr.mk 22 (Ps.hd l).text 0 [], yi]⟩, N1.tr ⟨yk, yt, yn, .slice ya yL yc, ykids⟩]⟩ [w17.heap.size]) := nk
  clear nk hX bR52
  refine anyC_one (i := 4) (by kernel_rfl) rfl (by rfl) (fun K51 hK51 => ?_)
  go_simp
  rw [← hR52]
  refine hK51 _ _ Bi.out.cs ?_
  clear hK51
  clear hR52
  have HC53 : Hid (_) := pended_any (newX (w.heap.size + 1) R52.heap.size [w17.heap.size]) b (lv) l50 7 [] (some ⟨w42.heap.size, 0, none⟩) 2 2 [N1.tr ⟨26, [], 0, .slice ia 2 ic, [Tr.mk 22 (Ps.hd l).text 0 [], yi]⟩, N1.tr ⟨yk, yt, yn, .slice ya yL yc, ykids⟩] R52 ol46 PA.out (fun q hq => ⟨hq.2.1, by have := hq.1; have := FR.out.low; omega⟩) Nz.out.row
  have hX : ∀ q ∈ ([w17.heap.size] : List Nat), q < R52.heap.size := by
    intro q hq
    simp only [List.mem_cons, List.not_mem_nil, or_false] at hq
    subst hq
    exact Bi.out.lt
  refine anyC_one (i := 5) (by kernel_rfl) rfl (by rfl) (fun K54 hK54 => ?_)
  go_simp
  refine ⟨trivial, ?_⟩
  refine (callsIn_wide.2 HC53.out).mono ?_
  rintro e w55 ⟨hg56, ⟨hs57, rfl⟩ | ⟨hs57, hp58, rfl, rr59⟩⟩
  · skip
    exact ⟨rfl, FR.out.grown.trans hg56, .inl ⟨_, _, ⟨ni + n44 + 1, by have e0 := Ps.go_le (show ni ≤ ni + n44 by omega) hni; have e1 := Ps.go_le (show n44 ≤ ni + n44 by omega) hn45; simp [hk1, hs13, hs23, hs30, hs57, e0, e1]⟩, rfl⟩⟩
  have nn : NF w w55 ⟨7, [], 0, .slice (some ⟨w42.heap.size, 0, none⟩) 2 2, [N1.tr ⟨26, [], 0, .slice ia 2 ic, [Tr.mk 22 (Ps.hd l).text 0 [], yi]⟩, N1.tr ⟨yk, yt, yn, .slice ya yL yc, ykids⟩]⟩ [w17.heap.size] := Nz.out.ended FR.out hX rr59 hg56.size
  obtain ⟨ol60, ln61⟩ := ol46.sees hs57 (nil_not [59] (by decide))
  replace Ni : Hid (NF w w55 ⟨26, [], 0, .slice ia 2 ic, [Tr.mk 22 (Ps.hd l).text 0 [], yi]⟩ [w17.heap.size]) := Ni.out.go hg56 FR.out.low
  replace Ny : Hid (NF w w55 ⟨yk, yt, yn, .slice ya yL yc, ykids⟩ [w17.heap.size]) := Ny.out.go hg56 FR.out.low
  replace Bi : Hid (BX w w55 (w17.heap.size) ⟨26, [], 0, .slice ia 2 ic, [Tr.mk 22 (Ps.hd l).text 0 [], yi]⟩) := Bi.out.go hg56 FR.out.low
  replace FR : Hid (Frm w b w55) := FR.out.go hg56
  replace PA : Hid (PAt b l50.tail (lv) w55) := hp58
  replace Nz : Hid (NF w w55 ⟨7, [], 0, .slice (some ⟨w42.heap.size, 0, none⟩) 2 2, [N1.tr ⟨26, [], 0, .slice ia 2 ic, [Tr.mk 22 (Ps.hd l).text 0 [], yi]⟩, N1.tr ⟨yk, yt, yn, .slice ya yL yc, ykids⟩]⟩ [w17.heap.size]) := nn
  refine hK54 _ _ Bi.out.cs ?_
  clear hK54
  clear nn hX HC53 hg56 hp58 rr59
  obtain ⟨p0, p1, p2, p3, pf, Z, hZ, ⟨r0, r1, r2, r3⟩, z1, z2, gz⟩ := FR.out.fin2 (k := 7) (tx := []) (n := 0) (sa := (some ⟨w42.heap.size, 0, none⟩)) (sL := 2) (sc := 2) PA.out
  have HF : Hid (w.grownBy Z (some b) ∧ PEnd b lv .named l w (.returned (.agg #[.int .u8 7, .string (Ln.bs []), .int .i64 0, .slice (some ⟨w42.heap.size, 0, none⟩) 2 2])) Z) := ⟨z1, .inr ⟨_, _, _, ⟨ni + n44 + 1, by have e0 := Ps.go_le (show ni ≤ ni + n44 by omega) hni; have e1 := Ps.go_le (show n44 ≤ ni + n44 by omega) hn45; simp [hk1, hs13, hs23, hs30, hs57, e0, e1]⟩, ol60, by omega, z2, rfl, Nz.out.res gz⟩⟩
  replace Bi : Hid (BX w Z (w17.heap.size) ⟨26, [], 0, .slice ia 2 ic, [Tr.mk 22 (Ps.hd l).text 0 [], yi]⟩) := Bi.out.res gz
  clear z1 z2 gz
  refine anyC_one (i := 6) (by kernel_rfl) rfl (by rfl) (fun K62 hK62 => ?_)
  go_simp
  rw [← hZ]
  refine hK62 _ _ Bi.out.cs ?_
  clear hK62
  clear hZ p0 p1 p2 p3 pf
  refine anyC_done (by kernel_rfl) ?_
  gi_wp2
  refine bodyPost_ret (v := .agg #[.int .u8 7, .string (Ln.bs []), .int .i64 0, .slice (some ⟨w42.heap.size, 0, none⟩) 2 2]) (by simp [results, Tryz.results175, go_sem, r0, r1, r2, r3]) rfl HF.out

set_option maxRecDepth 100000 in
set_option maxHeartbeats 4000000 in
theorem pstatement_of (m : Nat) (hE : PDoes 174 (.bin 0) [] m) (hBl : PDoes 153 .block [] m) (hBk : PDoes 153 .block [] (m + 1)) : PDoes 168 .stmt [] (m + 1) := by
  intro b lv l w hl hm hlv hP
  obtain ⟨A, hA⟩ : ∃ A, A = w.alloc (.cells #[.int .u8 0, .string ⟨#[]⟩, .int .i64 0, .slice none 0 0] 25) := ⟨_, rfl⟩
  have FR : Hid (Frm w b A) := hA ▸ Frm.new hP
  have PA : Hid (PAt b l lv A) := hA ▸ hP.below (below_new w _)
  have HhE : Hid (PDoes 174 (.bin 0) [] m) := hE
  have HhBl : Hid (PDoes 153 .block [] m) := hBl
  have HhBk : Hid (PDoes 153 .block [] (m + 1)) := hBk
  clear hP hE hBl hBk
  go_enter Tryz.func168, Tryz.ntmps168
  go_wp2_with fail
  rw [← hA]
  clear hA
  have HX1 : Hid (_) := pnext_any b (lv) l A PA.out hl
  refine Calls.mono HX1.out ?_
  rintro e w2 ⟨rfl, hb3⟩
  replace FR : Hid (Frm w b w2) := FR.out.go (grown_low hb3)
  replace PA : Hid (PAt b l (lv) w2) := PA.out.below hb3
  clear HX1 hb3
  have hf1 := tok_f1 (Ps.hd l).kind (Ln.bs (Ps.hd l).text) (Ps.hd l).at_
  have hT : (Ln.bs (Ps.hd l).text).toList = (Ps.hd l).text := by rw [Lib.toList_data]; rfl
  by_cases ht0 : (Ps.hd l).text = [118, 97, 114]
  case pos =>
    have q0 : ((Ps.hd l).text == [118, 97, 114]) = true := by rw [ht0]; rfl
    have HT0 : Hid ((Ps.hd l).text = [118, 97, 114]) := ht0
    clear ht0
    go_wp2_with fail
    have HC4 : Hid (_) := pvariable_of m HhE.out b lv l w2 hl hm hlv PA.out HT0.out
    refine Calls.mono HC4.out ?_
    rintro e w5 ⟨hg6, ⟨E, i, ⟨n7, hn8⟩, rfl⟩ | ⟨t, l13, v, ⟨n7, hn8⟩, ol9, ln10, hp11, rfl, nd12⟩⟩
    · skip
      exact ⟨rfl, FR.out.grown.trans hg6, .inl ⟨_, _, ⟨n7, hn8⟩, rfl⟩⟩
    obtain ⟨xk, xt, xn, xa, xL, xc, xkids, rfl, rfl, nf⟩ := NF.of_end (X := []) nd12 FR.out (by simp)
    replace FR : Hid (Frm w b w5) := FR.out.go hg6
    replace PA : Hid (PAt b l13 (lv) w5) := hp11
    have Nx : Hid (NF w w5 ⟨xk, xt, xn, .slice xa xL xc, xkids⟩ []) := nf
    clear nf HC4 hg6 hp11 nd12
    obtain ⟨p0, p1, p2, p3, pf, Z, hZ, ⟨r0, r1, r2, r3⟩, z1, z2, z3⟩ := FR.out.fin PA.out Nx.out
    have HF : Hid (w.grownBy Z (some b) ∧ PEnd b lv .stmt l w (.returned (.agg #[.int .u8 xk, .string (Ln.bs xt), .int .i64 xn, .slice xa xL xc])) Z) := ⟨z1, .inr ⟨_, _, _, ⟨n7, hn8⟩, ol9, by omega, z2, rfl, z3⟩⟩
    clear z1 z2 z3 
    go_wp2
    rw [← hZ]
    refine bodyPost_ret (v := .agg #[.int .u8 xk, .string (Ln.bs xt), .int .i64 xn, .slice xa xL xc]) (by simp [results, Tryz.results168, go_sem, r0, r1, r2, r3]) rfl HF.out
  have q0 : ((Ps.hd l).text == [118, 97, 114]) = false := by simpa using ht0
  by_cases ht1 : (Ps.hd l).text = [105, 102]
  case pos =>
    have q1 : ((Ps.hd l).text == [105, 102]) = true := by rw [ht1]; rfl
    have HT1 : Hid ((Ps.hd l).text = [105, 102]) := ht1
    clear ht1
    go_wp2_with fail
    have HC4 : Hid (_) := pchoice_of m HhE.out HhBl.out b lv l w2 hl hm hlv PA.out HT1.out
    refine Calls.mono HC4.out ?_
    rintro e w5 ⟨hg6, ⟨E, i, ⟨n7, hn8⟩, rfl⟩ | ⟨t, l13, v, ⟨n7, hn8⟩, ol9, ln10, hp11, rfl, nd12⟩⟩
    · skip
      exact ⟨rfl, FR.out.grown.trans hg6, .inl ⟨_, _, ⟨n7, hn8⟩, rfl⟩⟩
    obtain ⟨xk, xt, xn, xa, xL, xc, xkids, rfl, rfl, nf⟩ := NF.of_end (X := []) nd12 FR.out (by simp)
    replace FR : Hid (Frm w b w5) := FR.out.go hg6
    replace PA : Hid (PAt b l13 (lv) w5) := hp11
    have Nx : Hid (NF w w5 ⟨xk, xt, xn, .slice xa xL xc, xkids⟩ []) := nf
    clear nf HC4 hg6 hp11 nd12
    obtain ⟨p0, p1, p2, p3, pf, Z, hZ, ⟨r0, r1, r2, r3⟩, z1, z2, z3⟩ := FR.out.fin PA.out Nx.out
    have HF : Hid (w.grownBy Z (some b) ∧ PEnd b lv .stmt l w (.returned (.agg #[.int .u8 xk, .string (Ln.bs xt), .int .i64 xn, .slice xa xL xc])) Z) := ⟨z1, .inr ⟨_, _, _, ⟨n7, hn8⟩, ol9, by omega, z2, rfl, z3⟩⟩
    clear z1 z2 z3 
    go_wp2
    rw [← hZ]
    refine bodyPost_ret (v := .agg #[.int .u8 xk, .string (Ln.bs xt), .int .i64 xn, .slice xa xL xc]) (by simp [results, Tryz.results168, go_sem, r0, r1, r2, r3]) rfl HF.out
  have q1 : ((Ps.hd l).text == [105, 102]) = false := by simpa using ht1
  by_cases ht2 : (Ps.hd l).text = [119, 104, 105, 108, 101]
  case pos =>
    have q2 : ((Ps.hd l).text == [119, 104, 105, 108, 101]) = true := by rw [ht2]; rfl
    have HT2 : Hid ((Ps.hd l).text = [119, 104, 105, 108, 101]) := ht2
    clear ht2
    go_wp2_with fail
    have HC4 : Hid (_) := ploop_of m HhE.out HhBl.out b lv l w2 hl hm hlv PA.out HT2.out
    refine Calls.mono HC4.out ?_
    rintro e w5 ⟨hg6, ⟨E, i, ⟨n7, hn8⟩, rfl⟩ | ⟨t, l13, v, ⟨n7, hn8⟩, ol9, ln10, hp11, rfl, nd12⟩⟩
    · skip
      exact ⟨rfl, FR.out.grown.trans hg6, .inl ⟨_, _, ⟨n7, hn8⟩, rfl⟩⟩
    obtain ⟨xk, xt, xn, xa, xL, xc, xkids, rfl, rfl, nf⟩ := NF.of_end (X := []) nd12 FR.out (by simp)
    replace FR : Hid (Frm w b w5) := FR.out.go hg6
    replace PA : Hid (PAt b l13 (lv) w5) := hp11
    have Nx : Hid (NF w w5 ⟨xk, xt, xn, .slice xa xL xc, xkids⟩ []) := nf
    clear nf HC4 hg6 hp11 nd12
    obtain ⟨p0, p1, p2, p3, pf, Z, hZ, ⟨r0, r1, r2, r3⟩, z1, z2, z3⟩ := FR.out.fin PA.out Nx.out
    have HF : Hid (w.grownBy Z (some b) ∧ PEnd b lv .stmt l w (.returned (.agg #[.int .u8 xk, .string (Ln.bs xt), .int .i64 xn, .slice xa xL xc])) Z) := ⟨z1, .inr ⟨_, _, _, ⟨n7, hn8⟩, ol9, by omega, z2, rfl, z3⟩⟩
    clear z1 z2 z3 
    go_wp2
    rw [← hZ]
    refine bodyPost_ret (v := .agg #[.int .u8 xk, .string (Ln.bs xt), .int .i64 xn, .slice xa xL xc]) (by simp [results, Tryz.results168, go_sem, r0, r1, r2, r3]) rfl HF.out
  have q2 : ((Ps.hd l).text == [119, 104, 105, 108, 101]) = false := by simpa using ht2
  by_cases ht3 : (Ps.hd l).text = [114, 101, 116, 117, 114, 110]
  case pos =>
    have q3 : ((Ps.hd l).text == [114, 101, 116, 117, 114, 110]) = true := by rw [ht3]; rfl
    have HT3 : Hid ((Ps.hd l).text = [114, 101, 116, 117, 114, 110]) := ht3
    clear ht3
    go_wp2_with fail
    obtain ⟨ol5, ln6⟩ := hl.tail (.inr (by rw [HT3.out]; decide))
    have HT4 : Hid (_) := ptake_any b (lv) l w2 PA.out hl ol5
    refine Calls.mono HT4.out ?_
    rintro e w7 ⟨rfl, hg8, hp9⟩
    replace FR : Hid (Frm w b w7) := FR.out.go hg8
    replace PA : Hid (PAt b l.tail (lv) w7) := hp9
    clear HT4 hg8 hp9
    go_wp2_with fail
    have HC10 : Hid (_) := HhE.out b (lv) l.tail w7 ol5 (by omega) (by omega) PA.out
    refine Calls.mono HC10.out ?_
    rintro e w11 ⟨hg12, ⟨E, i, ⟨n13, hn14⟩, rfl⟩ | ⟨t, l21, v, ⟨n13, hn14⟩, ol17, ln18, hp19, rfl, nd20⟩⟩
    · skip
      exact ⟨rfl, FR.out.grown.trans hg12, .inl ⟨_, _, ⟨n13 + 1, by have e0 := Ps.go_le (show n13 ≤ n13 by omega) hn14; simp [HT3.out, e0]⟩, rfl⟩⟩
    obtain ⟨xk, xt, xn, xa, xL, xc, xkids, rfl, rfl, nf⟩ := NF.of_end (X := []) nd20 FR.out (by simp)
    replace FR : Hid (Frm w b w11) := FR.out.go hg12
    replace PA : Hid (PAt b l21 (lv) w11) := hp19
    have Nx : Hid (NF w w11 ⟨xk, xt, xn, .slice xa xL xc, xkids⟩ []) := nf
    clear nf HC10 hg12 hp19 nd20
    obtain ⟨R22, hR22⟩ : ∃ V, V = w11.alloc (.cells #[.int .u8 xk, .string (Ln.bs xt), .int .i64 xn, .slice xa xL xc] 25) := ⟨_, rfl⟩
    have bR22 : Below w11.heap.size w11 R22 := hR22 ▸ below_new w11 _
    have hX : ∀ q ∈ ([] : List Nat), q < w11.heap.size := by
      intro q hq
      cases hq
    have nk : NF w R22 ⟨10, [], 0, .slice (some ⟨w11.heap.size, 0, none⟩) 1 1, [N1.tr ⟨xk, xt, xn, .slice xa xL xc, xkids⟩]⟩ [] := by
      rw [hR22]
      refine NF.kids FR.out [⟨xk, xt, xn, .slice xa xL xc, xkids⟩] (fun z hz => ?_) hX (by simp) 10 [] 0 (by omega) (by simp) (by omega)
      simp only [List.mem_cons, List.not_mem_nil, or_false] at hz
      subst hz
      exact Nx.out
    replace Nx : Hid (NF w R22 ⟨xk, xt, xn, .slice xa xL xc, xkids⟩ []) := Nx.out.go (grown_low bR22) FR.out.low
    replace FR : Hid (Frm w b R22) := FR.out.go (grown_low bR22)
    replace PA : Hid (PAt b l21 (lv) R22) := PA.out.below bR22
    have Nz : Hid (NF w R22 ⟨10, [], 0, .slice (some ⟨w11.heap.size, 0, none⟩) 1 1, [N1.tr ⟨xk, xt, xn, .slice xa xL xc, xkids⟩]⟩ []) := nk
    clear nk hX bR22
    go_wp2_with fail
    rw [← hR22]
    clear hR22
    have HC23 : Hid (_) := pended_any (newX (w.heap.size + 1) R22.heap.size []) b (lv) l21 10 [] (some ⟨w11.heap.size, 0, none⟩) 1 1 [N1.tr ⟨xk, xt, xn, .slice xa xL xc, xkids⟩] R22 ol17 PA.out (fun q hq => ⟨hq.2.1, by have := hq.1; have := FR.out.low; omega⟩) Nz.out.row
    have hX : ∀ q ∈ ([] : List Nat), q < R22.heap.size := by
      intro q hq
      cases hq
    refine Calls.mono HC23.out ?_
    rintro e w24 ⟨hg25, ⟨hs26, rfl⟩ | ⟨hs26, hp27, rfl, rr28⟩⟩
    · skip
      exact ⟨rfl, FR.out.grown.trans hg25, .inl ⟨_, _, ⟨n13 + 1, by have e0 := Ps.go_le (show n13 ≤ n13 by omega) hn14; simp [HT3.out, hs26, e0]⟩, rfl⟩⟩
    have nn : NF w w24 ⟨10, [], 0, .slice (some ⟨w11.heap.size, 0, none⟩) 1 1, [N1.tr ⟨xk, xt, xn, .slice xa xL xc, xkids⟩]⟩ [] := Nz.out.ended FR.out hX rr28 hg25.size
    obtain ⟨ol29, ln30⟩ := ol17.sees hs26 (nil_not [59] (by decide))
    replace Nx : Hid (NF w w24 ⟨xk, xt, xn, .slice xa xL xc, xkids⟩ []) := Nx.out.go hg25 FR.out.low
    replace FR : Hid (Frm w b w24) := FR.out.go hg25
    replace PA : Hid (PAt b l21.tail (lv) w24) := hp27
    replace Nz : Hid (NF w w24 ⟨10, [], 0, .slice (some ⟨w11.heap.size, 0, none⟩) 1 1, [N1.tr ⟨xk, xt, xn, .slice xa xL xc, xkids⟩]⟩ []) := nn
    clear nn hX HC23 hg25 hp27 rr28
    obtain ⟨p0, p1, p2, p3, pf, Z, hZ, ⟨r0, r1, r2, r3⟩, z1, z2, z3⟩ := FR.out.fin PA.out Nz.out
    have HF : Hid (w.grownBy Z (some b) ∧ PEnd b lv .stmt l w (.returned (.agg #[.int .u8 10, .string (Ln.bs []), .int .i64 0, .slice (some ⟨w11.heap.size, 0, none⟩) 1 1])) Z) := ⟨z1, .inr ⟨_, _, _, ⟨n13 + 1, by have e0 := Ps.go_le (show n13 ≤ n13 by omega) hn14; simp [HT3.out, hs26, e0]⟩, ol29, by omega, z2, rfl, z3⟩⟩
    clear z1 z2 z3 
    go_wp2
    rw [← hZ]
    refine bodyPost_ret (v := .agg #[.int .u8 10, .string (Ln.bs []), .int .i64 0, .slice (some ⟨w11.heap.size, 0, none⟩) 1 1]) (by simp [results, Tryz.results168, go_sem, r0, r1, r2, r3]) rfl HF.out
  have q3 : ((Ps.hd l).text == [114, 101, 116, 117, 114, 110]) = false := by simpa using ht3
  by_cases ht4 : (Ps.hd l).text = [112, 114, 105, 110, 116]
  case pos =>
    have q4 : ((Ps.hd l).text == [112, 114, 105, 110, 116]) = true := by rw [ht4]; rfl
    have HT4 : Hid ((Ps.hd l).text = [112, 114, 105, 110, 116]) := ht4
    clear ht4
    go_wp2_with fail
    obtain ⟨ol5, ln6⟩ := hl.tail (.inr (by rw [HT4.out]; decide))
    have HT4 : Hid (_) := ptake_any b (lv) l w2 PA.out hl ol5
    refine Calls.mono HT4.out ?_
    rintro e w7 ⟨rfl, hg8, hp9⟩
    replace FR : Hid (Frm w b w7) := FR.out.go hg8
    replace PA : Hid (PAt b l.tail (lv) w7) := hp9
    clear HT4 hg8 hp9
    go_wp2_with fail
    have HC10 : Hid (_) := HhE.out b (lv) l.tail w7 ol5 (by omega) (by omega) PA.out
    refine Calls.mono HC10.out ?_
    rintro e w11 ⟨hg12, ⟨E, i, ⟨n13, hn14⟩, rfl⟩ | ⟨t, l21, v, ⟨n13, hn14⟩, ol17, ln18, hp19, rfl, nd20⟩⟩
    · skip
      exact ⟨rfl, FR.out.grown.trans hg12, .inl ⟨_, _, ⟨n13 + 1, by have e0 := Ps.go_le (show n13 ≤ n13 by omega) hn14; simp [HT4.out, e0]⟩, rfl⟩⟩
    obtain ⟨xk, xt, xn, xa, xL, xc, xkids, rfl, rfl, nf⟩ := NF.of_end (X := []) nd20 FR.out (by simp)
    replace FR : Hid (Frm w b w11) := FR.out.go hg12
    replace PA : Hid (PAt b l21 (lv) w11) := hp19
    have Nx : Hid (NF w w11 ⟨xk, xt, xn, .slice xa xL xc, xkids⟩ []) := nf
    clear nf HC10 hg12 hp19 nd20
    obtain ⟨R22, hR22⟩ : ∃ V, V = w11.alloc (.cells #[.int .u8 xk, .string (Ln.bs xt), .int .i64 xn, .slice xa xL xc] 25) := ⟨_, rfl⟩
    have bR22 : Below w11.heap.size w11 R22 := hR22 ▸ below_new w11 _
    have hX : ∀ q ∈ ([] : List Nat), q < w11.heap.size := by
      intro q hq
      cases hq
    have nk : NF w R22 ⟨11, [], 0, .slice (some ⟨w11.heap.size, 0, none⟩) 1 1, [N1.tr ⟨xk, xt, xn, .slice xa xL xc, xkids⟩]⟩ [] := by
      rw [hR22]
      refine NF.kids FR.out [⟨xk, xt, xn, .slice xa xL xc, xkids⟩] (fun z hz => ?_) hX (by simp) 11 [] 0 (by omega) (by simp) (by omega)
      simp only [List.mem_cons, List.not_mem_nil, or_false] at hz
      subst hz
      exact Nx.out
    replace Nx : Hid (NF w R22 ⟨xk, xt, xn, .slice xa xL xc, xkids⟩ []) := Nx.out.go (grown_low bR22) FR.out.low
    replace FR : Hid (Frm w b R22) := FR.out.go (grown_low bR22)
    replace PA : Hid (PAt b l21 (lv) R22) := PA.out.below bR22
    have Nz : Hid (NF w R22 ⟨11, [], 0, .slice (some ⟨w11.heap.size, 0, none⟩) 1 1, [N1.tr ⟨xk, xt, xn, .slice xa xL xc, xkids⟩]⟩ []) := nk
    clear nk hX bR22
    go_wp2_with fail
    rw [← hR22]
    clear hR22
    have HC23 : Hid (_) := pended_any (newX (w.heap.size + 1) R22.heap.size []) b (lv) l21 11 [] (some ⟨w11.heap.size, 0, none⟩) 1 1 [N1.tr ⟨xk, xt, xn, .slice xa xL xc, xkids⟩] R22 ol17 PA.out (fun q hq => ⟨hq.2.1, by have := hq.1; have := FR.out.low; omega⟩) Nz.out.row
    have hX : ∀ q ∈ ([] : List Nat), q < R22.heap.size := by
      intro q hq
      cases hq
    refine Calls.mono HC23.out ?_
    rintro e w24 ⟨hg25, ⟨hs26, rfl⟩ | ⟨hs26, hp27, rfl, rr28⟩⟩
    · skip
      exact ⟨rfl, FR.out.grown.trans hg25, .inl ⟨_, _, ⟨n13 + 1, by have e0 := Ps.go_le (show n13 ≤ n13 by omega) hn14; simp [HT4.out, hs26, e0]⟩, rfl⟩⟩
    have nn : NF w w24 ⟨11, [], 0, .slice (some ⟨w11.heap.size, 0, none⟩) 1 1, [N1.tr ⟨xk, xt, xn, .slice xa xL xc, xkids⟩]⟩ [] := Nz.out.ended FR.out hX rr28 hg25.size
    obtain ⟨ol29, ln30⟩ := ol17.sees hs26 (nil_not [59] (by decide))
    replace Nx : Hid (NF w w24 ⟨xk, xt, xn, .slice xa xL xc, xkids⟩ []) := Nx.out.go hg25 FR.out.low
    replace FR : Hid (Frm w b w24) := FR.out.go hg25
    replace PA : Hid (PAt b l21.tail (lv) w24) := hp27
    replace Nz : Hid (NF w w24 ⟨11, [], 0, .slice (some ⟨w11.heap.size, 0, none⟩) 1 1, [N1.tr ⟨xk, xt, xn, .slice xa xL xc, xkids⟩]⟩ []) := nn
    clear nn hX HC23 hg25 hp27 rr28
    obtain ⟨p0, p1, p2, p3, pf, Z, hZ, ⟨r0, r1, r2, r3⟩, z1, z2, z3⟩ := FR.out.fin PA.out Nz.out
    have HF : Hid (w.grownBy Z (some b) ∧ PEnd b lv .stmt l w (.returned (.agg #[.int .u8 11, .string (Ln.bs []), .int .i64 0, .slice (some ⟨w11.heap.size, 0, none⟩) 1 1])) Z) := ⟨z1, .inr ⟨_, _, _, ⟨n13 + 1, by have e0 := Ps.go_le (show n13 ≤ n13 by omega) hn14; simp [HT4.out, hs26, e0]⟩, ol29, by omega, z2, rfl, z3⟩⟩
    clear z1 z2 z3 
    go_wp2
    rw [← hZ]
    refine bodyPost_ret (v := .agg #[.int .u8 11, .string (Ln.bs []), .int .i64 0, .slice (some ⟨w11.heap.size, 0, none⟩) 1 1]) (by simp [results, Tryz.results168, go_sem, r0, r1, r2, r3]) rfl HF.out
  have q4 : ((Ps.hd l).text == [112, 114, 105, 110, 116]) = false := by simpa using ht4
  by_cases ht5 : (Ps.hd l).text = [123]
  case pos =>
    have q5 : ((Ps.hd l).text == [123]) = true := by rw [ht5]; rfl
    have HT5 : Hid ((Ps.hd l).text = [123]) := ht5
    clear ht5
    go_wp2_with fail
    have HC4 : Hid (_) := HhBk.out b lv l w2 hl hm hlv PA.out
    refine Calls.mono HC4.out ?_
    rintro e w5 ⟨hg6, ⟨E, i, ⟨n7, hn8⟩, rfl⟩ | ⟨t, l13, v, ⟨n7, hn8⟩, ol9, ln10, hp11, rfl, nd12⟩⟩
    · skip
      exact ⟨rfl, FR.out.grown.trans hg6, .inl ⟨_, _, ⟨n7 + 1, by have e0 := Ps.go_le (show n7 ≤ n7 by omega) hn8; simp [HT5.out, e0]⟩, rfl⟩⟩
    obtain ⟨xk, xt, xn, xa, xL, xc, xkids, rfl, rfl, nf⟩ := NF.of_end (X := []) nd12 FR.out (by simp)
    replace FR : Hid (Frm w b w5) := FR.out.go hg6
    replace PA : Hid (PAt b l13 (lv) w5) := hp11
    have Nx : Hid (NF w w5 ⟨xk, xt, xn, .slice xa xL xc, xkids⟩ []) := nf
    clear nf HC4 hg6 hp11 nd12
    obtain ⟨p0, p1, p2, p3, pf, Z, hZ, ⟨r0, r1, r2, r3⟩, z1, z2, z3⟩ := FR.out.fin PA.out Nx.out
    have HF : Hid (w.grownBy Z (some b) ∧ PEnd b lv .stmt l w (.returned (.agg #[.int .u8 xk, .string (Ln.bs xt), .int .i64 xn, .slice xa xL xc])) Z) := ⟨z1, .inr ⟨_, _, _, ⟨n7 + 1, by have e0 := Ps.go_le (show n7 ≤ n7 by omega) hn8; simp [HT5.out, e0]⟩, ol9, by omega, z2, rfl, z3⟩⟩
    clear z1 z2 z3 
    go_wp2
    rw [← hZ]
    refine bodyPost_ret (v := .agg #[.int .u8 xk, .string (Ln.bs xt), .int .i64 xn, .slice xa xL xc]) (by simp [results, Tryz.results168, go_sem, r0, r1, r2, r3]) rfl HF.out
  have q5 : ((Ps.hd l).text == [123]) = false := by simpa using ht5
  go_wp2_with fail
  have HC4 : Hid (_) := (pnamed_of m HhE.out) b lv l w2 hl hm hlv PA.out
  refine Calls.mono HC4.out ?_
  rintro e w5 ⟨hg6, ⟨E, i, ⟨n7, hn8⟩, rfl⟩ | ⟨t, l13, v, ⟨n7, hn8⟩, ol9, ln10, hp11, rfl, nd12⟩⟩
  · skip
    exact ⟨rfl, FR.out.grown.trans hg6, .inl ⟨_, _, ⟨n7 + 1, by have e0 := Ps.go_le (show n7 ≤ n7 by omega) hn8; simp [ht0, ht1, ht2, ht3, ht4, ht5, e0]⟩, rfl⟩⟩
  obtain ⟨xk, xt, xn, xa, xL, xc, xkids, rfl, rfl, nf⟩ := NF.of_end (X := []) nd12 FR.out (by simp)
  replace FR : Hid (Frm w b w5) := FR.out.go hg6
  replace PA : Hid (PAt b l13 (lv) w5) := hp11
  have Nx : Hid (NF w w5 ⟨xk, xt, xn, .slice xa xL xc, xkids⟩ []) := nf
  clear nf HC4 hg6 hp11 nd12
  obtain ⟨p0, p1, p2, p3, pf, Z, hZ, ⟨r0, r1, r2, r3⟩, z1, z2, z3⟩ := FR.out.fin PA.out Nx.out
  have HF : Hid (w.grownBy Z (some b) ∧ PEnd b lv .stmt l w (.returned (.agg #[.int .u8 xk, .string (Ln.bs xt), .int .i64 xn, .slice xa xL xc])) Z) := ⟨z1, .inr ⟨_, _, _, ⟨n7 + 1, by have e0 := Ps.go_le (show n7 ≤ n7 by omega) hn8; simp [ht0, ht1, ht2, ht3, ht4, ht5, e0]⟩, ol9, by omega, z2, rfl, z3⟩⟩
  clear z1 z2 z3 
  go_wp2
  rw [← hZ]
  refine bodyPost_ret (v := .agg #[.int .u8 xk, .string (Ln.bs xt), .int .i64 xn, .slice xa xL xc]) (by simp [results, Tryz.results168, go_sem, r0, r1, r2, r3]) rfl HF.out

end Go.Proofs.YtnndgjnihhafbaaGreatDoor

/-
  The walks of named, statement and function.
-/
namespace Go.Proofs.YtnndgjnihhafbaaGreatDoor
open Go.RowKit Go.Shelf

attribute [local go_sem] Oper.semAt_some
attribute [local simp] Ps.go Ps.opn Ps.want Ps.name Ps.bnd Ps.bad N1.tr

set_option maxRecDepth 100000 in
set_option maxHeartbeats 4000000 in
theorem pfunction_of (m : Nat) (hBl : PDoes 153 .block [] m) : PDoes 125 .func [] (m + 1) := by
  intro b lv l w hl hm hlv hP
  obtain ⟨A, hA⟩ : ∃ A, A = w.alloc (.cells #[.int .u8 0, .string ⟨#[]⟩, .int .i64 0, .slice none 0 0] 25) := ⟨_, rfl⟩
  have FR : Hid (Frm w b A) := hA ▸ Frm.new hP
  have PA : Hid (PAt b l lv A) := hA ▸ hP.below (below_new w _)
  have HhBl : Hid (PDoes 153 .block [] m) := hBl
  clear hP hBl
  refine (callsIn_wide (n := 3)).1 ?_
  refine callsIn_of_wp Tryz.func125 rfl trivial ?_ rfl
  simp only [Tryz.ntmps125, List.size_toArray, List.length_cons, List.length_nil, Nat.reduceAdd, Nat.reduceSub, Array.replicate_succ, Array.replicate_zero, List.push_toArray, List.append_toArray, List.nil_append, List.cons_append]
  gi_wp2
  rw [← hA]
  clear hA
  cases hs1 : Ps.sees l [[102, 117, 110, 99]]
  · skip
    have HW2 : Hid (_) := pwant_no b (lv) l [102, 117, 110, 99] A PA.out hl hs1
    refine ⟨trivial, ?_⟩
    refine (callsIn_wide.2 HW2.out).mono ?_
    rintro e u4 ⟨rfl, hg3⟩
    exact ⟨rfl, FR.out.grown.trans hg3, .inl ⟨_, _, ⟨1, by simp [hs1]⟩, rfl⟩⟩
  obtain ⟨ol5, ln6⟩ := hl.sees hs1 (nil_not [102, 117, 110, 99] (by decide))
  have HW2 : Hid (_) := pwant_yes b (lv) l [102, 117, 110, 99] A PA.out hl hs1 (by decide)
  refine ⟨trivial, ?_⟩
  refine (callsIn_wide.2 HW2.out).mono ?_
  rintro e w7 ⟨rfl, hg8, hp9⟩
  replace FR : Hid (Frm w b w7) := FR.out.go hg8
  replace PA : Hid (PAt b l.tail (lv) w7) := hp9
  clear HW2 hg8 hp9
  gi_wp2
  by_cases hk10 : (Ps.hd l.tail).kind = 1
  case neg =>
    have HN11 : Hid (_) := pname_no b (lv) l.tail w7 PA.out ol5 hk10
    refine ⟨trivial, ?_⟩
    refine (callsIn_wide.2 HN11.out).mono ?_
    rintro e u13 ⟨rfl, hg12⟩
    exact ⟨rfl, FR.out.grown.trans hg12, .inl ⟨_, _, ⟨1, by simp [hs1, hk10]⟩, rfl⟩⟩
  obtain ⟨ol14, ln15⟩ := ol5.tail (.inl (by rw [hk10]; decide))
  have tl16 : (Ps.hd l.tail).text.length ≤ 1000000 := ol5.hd.1
  have HN11 : Hid (_) := pname_yes b (lv) l.tail w7 PA.out ol5 hk10
  refine ⟨trivial, ?_⟩
  refine (callsIn_wide.2 HN11.out).mono ?_
  rintro e w17 ⟨rfl, hg18, hp19⟩
  replace FR : Hid (Frm w b w17) := FR.out.go hg18
  replace PA : Hid (PAt b l.tail.tail (lv) w17) := hp19
  clear HN11 hg18 hp19
  gi_wp2
  have HC9 : Hid (_) := plistedP_of m ((pparam_any m).less (Nat.le_succ m)) b (lv) l.tail.tail w17 ol14 (by omega) (by omega) PA.out
  refine ⟨trivial, ?_⟩
  refine (callsIn_wide.2 HC9.out).mono ?_
  rintro e w9 ⟨hg9, ⟨E, i, ⟨n9, hn9⟩, rfl⟩ | ⟨pts, l9, v, ⟨n9, hn9⟩, ol9, ln9, hp9, rfl, rr9⟩⟩
  · skip
    exact ⟨rfl, FR.out.grown.trans hg9, .inl ⟨_, _, ⟨n9 + 1, by have e0 := Ps.go_le (show n9 ≤ n9 by omega) hn9; simp [hs1, hk10, e0]⟩, rfl⟩⟩
  obtain ⟨pa, pL, pc, rfl, nf⟩ := NF.of_row (X := []) rr9 FR.out (by simp) 3 [] (by omega) (by simp)
  replace FR : Hid (Frm w b w9) := FR.out.go hg9
  replace PA : Hid (PAt b l9 (lv) w9) := hp9
  have Np : Hid (NF w w9 ⟨3, [], 0, .slice pa pL pc, pts⟩ []) := nf
  clear nf HC9 hg9 hp9 rr9
  gi_wp2
  have HD20 : Hid (_) := pnode_any 3 (Ln.bs []) pa pL pc w9
  refine ⟨trivial, ?_⟩
  refine (callsIn_wide.2 HD20.out).mono ?_
  rintro e w21 ⟨rfl, hb22⟩
  replace Np : Hid (NF w w21 ⟨3, [], 0, .slice pa pL pc, pts⟩ []) := Np.out.go (grown_low hb22) FR.out.low
  replace FR : Hid (Frm w b w21) := FR.out.go (grown_low hb22)
  replace PA : Hid (PAt b l9 (lv) w21) := PA.out.below hb22
  clear HD20 hb22
  obtain ⟨Y23, hY23⟩ : ∃ V, V = w21.alloc (.cells #[.int .u8 3, .string (Ln.bs []), .int .i64 0, .slice pa pL pc] 25) := ⟨_, rfl⟩
  have bY23 : Below w21.heap.size w21 Y23 := hY23 ▸ below_new w21 _
  have nb : BX w Y23 (w21.heap.size) ⟨3, [], 0, .slice pa pL pc, pts⟩ := by rw [hY23]; exact BX.new FR.out ⟨3, [], 0, .slice pa pL pc, pts⟩
  replace Np : Hid (NF w w21 ⟨3, [], 0, .slice pa pL pc, pts⟩ [w21.heap.size]) := Np.out.ex (Nat.le_refl _)
  replace Np : Hid (NF w Y23 ⟨3, [], 0, .slice pa pL pc, pts⟩ [w21.heap.size]) := Np.out.go (grown_low bY23) FR.out.low
  replace FR : Hid (Frm w b Y23) := FR.out.go (grown_low bY23)
  replace PA : Hid (PAt b l9 (lv) Y23) := PA.out.below bY23
  have Bp : Hid (BX w Y23 (w21.heap.size) ⟨3, [], 0, .slice pa pL pc, pts⟩) := nb
  clear nb bY23
  gi_wp2
  rw [← hY23]
  clear hY23
  have bd24 : Below Y23.heap.size Y23 Y23.drew := below_draw Y23 1
  replace Np : Hid (NF w Y23.drew ⟨3, [], 0, .slice pa pL pc, pts⟩ [w21.heap.size]) := Np.out.go (grown_low bd24) FR.out.low
  replace Bp : Hid (BX w Y23.drew (w21.heap.size) ⟨3, [], 0, .slice pa pL pc, pts⟩) := Bp.out.go (grown_low bd24) FR.out.low
  replace FR : Hid (Frm w b Y23.drew) := FR.out.go (grown_low bd24)
  replace PA : Hid (PAt b l9 (lv) Y23.drew) := PA.out.below bd24
  clear bd24
  refine region_lex (fun z => (z.cell? ⟨w21.heap.size, 0, none⟩ = some (.int .u8 3) ∧ z.cell? ⟨w21.heap.size, 1, none⟩ = some (.string (Ln.bs [])) ∧ z.cell? ⟨w21.heap.size, 2, none⟩ = some (.int .i64 0) ∧ z.cell? ⟨w21.heap.size, 3, none⟩ = some (.slice pa pL pc))) 3 4 rfl (by kernel_rfl) (by kernel_rfl) (by kernel_rfl) (by kernel_rfl) (fun _ _ d _ _ h => by cases d <;> exact h) Bp.out.cs ?_
  simp only [List.take_succ_cons, List.take_zero]
  iterate 3 (first
    | (apply lexC_want
       · rfl
       · exact fun _ => rfl
       · (intro w' hw'; obtain ⟨a0, a1, a2, a3⟩ := hw'; go_simp; try rfl)
       simp only [Act.put, List.setIfInBounds_toArray, List.set_cons_zero, List.set_cons_succ]))
  refine lexC_nil ?_
  have HC25 : Hid (_) := HhBl.out b (lv) l9 (Y23.drew) ol9 (by omega) (by omega) PA.out
  have hX : ∀ q ∈ ([w21.heap.size] : List Nat), q < (Y23.drew).heap.size := by
    intro q hq
    simp only [List.mem_cons, List.not_mem_nil, or_false] at hq
    subst hq
    exact Bp.out.lt
  refine anyC_one (i := 3) (by kernel_rfl) rfl (by rfl) (fun K26 hK26 => ?_)
  go_simp
  refine ⟨trivial, ?_⟩
  refine (callsIn_wide.2 HC25.out).mono ?_
  rintro e w27 ⟨hg28, ⟨E, i, ⟨n29, hn30⟩, rfl⟩ | ⟨t, l35, v, ⟨n29, hn30⟩, ol31, ln32, hp33, rfl, nd34⟩⟩
  · skip
    exact ⟨rfl, FR.out.grown.trans hg28, .inl ⟨_, _, ⟨n9 + n29 + 1, by have e0 := Ps.go_le (show n9 ≤ n9 + n29 by omega) hn9; have e1 := Ps.go_le (show n29 ≤ n9 + n29 by omega) hn30; simp [hs1, hk10, e0, e1]⟩, rfl⟩⟩
  obtain ⟨yk, yt, yn, ya, yL, yc, ykids, rfl, rfl, nf⟩ := NF.of_end (X := [w21.heap.size]) nd34 FR.out hX
  replace Np : Hid (NF w w27 ⟨3, [], 0, .slice pa pL pc, pts⟩ [w21.heap.size]) := Np.out.go hg28 FR.out.low
  replace Bp : Hid (BX w w27 (w21.heap.size) ⟨3, [], 0, .slice pa pL pc, pts⟩) := Bp.out.go hg28 FR.out.low
  replace FR : Hid (Frm w b w27) := FR.out.go hg28
  replace PA : Hid (PAt b l35 (lv) w27) := hp33
  have Ny : Hid (NF w w27 ⟨yk, yt, yn, .slice ya yL yc, ykids⟩ [w21.heap.size]) := nf
  refine hK26 _ _ Bp.out.cs ?_
  clear hK26
  clear nf HC25 hg28 hp33 nd34 hX
  obtain ⟨R37, hR37⟩ : ∃ V, V = w27.alloc (.cells #[.int .u8 3, .string (Ln.bs []), .int .i64 0, .slice pa pL pc, .int .u8 yk, .string (Ln.bs yt), .int .i64 yn, .slice ya yL yc] 25) := ⟨_, rfl⟩
  have bR37 : Below w27.heap.size w27 R37 := hR37 ▸ below_new w27 _
  have hX : ∀ q ∈ ([w21.heap.size] : List Nat), q < w27.heap.size := by
    intro q hq
    simp only [List.mem_cons, List.not_mem_nil, or_false] at hq
    subst hq
    exact Bp.out.lt
  have nk : NF w R37 ⟨2, (Ps.hd l.tail).text, 0, .slice (some ⟨w27.heap.size, 0, none⟩) 2 2, [N1.tr ⟨3, [], 0, .slice pa pL pc, pts⟩, N1.tr ⟨yk, yt, yn, .slice ya yL yc, ykids⟩]⟩ [w21.heap.size] := by
    rw [hR37]
    refine NF.kids FR.out [⟨3, [], 0, .slice pa pL pc, pts⟩, ⟨yk, yt, yn, .slice ya yL yc, ykids⟩] (fun z hz => ?_) hX (by simp) 2 (Ps.hd l.tail).text 0 (by omega) (tl16) (by omega)
    simp only [List.mem_cons, List.not_mem_nil, or_false] at hz
    rcases hz with rfl | rfl
    · exact Np.out
    · exact Ny.out
  replace Np : Hid (NF w R37 ⟨3, [], 0, .slice pa pL pc, pts⟩ [w21.heap.size]) := Np.out.go (grown_low bR37) FR.out.low
  replace Ny : Hid (NF w R37 ⟨yk, yt, yn, .slice ya yL yc, ykids⟩ [w21.heap.size]) := Ny.out.go (grown_low bR37) FR.out.low
  replace Bp : Hid (BX w R37 (w21.heap.size) ⟨3, [], 0, .slice pa pL pc, pts⟩) := Bp.out.go (grown_low bR37) FR.out.low
  replace FR : Hid (Frm w b R37) := FR.out.go (grown_low bR37)
  replace PA : Hid (PAt b l35 (lv) R37) := PA.out.below bR37
  have Nz : Hid (NF w R37 ⟨2, (Ps.hd l.tail).text, 0, .slice (some ⟨w27.heap.size, 0, none⟩) 2 2, [N1.tr ⟨3, [], 0, .slice pa pL pc, pts⟩, N1.tr ⟨yk, yt, yn, .slice ya yL yc, ykids⟩]⟩ [w21.heap.size]) := nk
  clear nk hX bR37
  refine anyC_one (i := 4) (by kernel_rfl) rfl (by rfl) (fun K36 hK36 => ?_)
  go_simp
  rw [← hR37]
  refine hK36 _ _ Bp.out.cs ?_
  clear hK36
  clear hR37
  have HD38 : Hid (_) := pnode_any 2 (Ln.bs ((Ps.hd l.tail).text)) (some ⟨w27.heap.size, 0, none⟩) 2 2 R37
  refine anyC_one (i := 5) (by kernel_rfl) rfl (by rfl) (fun K39 hK39 => ?_)
  go_simp
  refine ⟨trivial, ?_⟩
  refine (callsIn_wide.2 HD38.out).mono ?_
  rintro e w40 ⟨rfl, hb41⟩
  replace Np : Hid (NF w w40 ⟨3, [], 0, .slice pa pL pc, pts⟩ [w21.heap.size]) := Np.out.go (grown_low hb41) FR.out.low
  replace Ny : Hid (NF w w40 ⟨yk, yt, yn, .slice ya yL yc, ykids⟩ [w21.heap.size]) := Ny.out.go (grown_low hb41) FR.out.low
  replace Nz : Hid (NF w w40 ⟨2, (Ps.hd l.tail).text, 0, .slice (some ⟨w27.heap.size, 0, none⟩) 2 2, [N1.tr ⟨3, [], 0, .slice pa pL pc, pts⟩, N1.tr ⟨yk, yt, yn, .slice ya yL yc, ykids⟩]⟩ [w21.heap.size]) := Nz.out.go (grown_low hb41) FR.out.low
  replace Bp : Hid (BX w w40 (w21.heap.size) ⟨3, [], 0, .slice pa pL pc, pts⟩) := Bp.out.go (grown_low hb41) FR.out.low
  replace FR : Hid (Frm w b w40) := FR.out.go (grown_low hb41)
  replace PA : Hid (PAt b l35 (lv) w40) := PA.out.below hb41
  refine hK39 _ _ Bp.out.cs ?_
  clear hK39
  clear HD38 hb41
  obtain ⟨p0, p1, p2, p3, pf, Z, hZ, ⟨r0, r1, r2, r3⟩, z1, z2, gz⟩ := FR.out.fin2 (k := 2) (tx := (Ps.hd l.tail).text) (n := 0) (sa := (some ⟨w27.heap.size, 0, none⟩)) (sL := 2) (sc := 2) PA.out
  have HF : Hid (w.grownBy Z (some b) ∧ PEnd b lv .func l w (.returned (.agg #[.int .u8 2, .string (Ln.bs ((Ps.hd l.tail).text)), .int .i64 0, .slice (some ⟨w27.heap.size, 0, none⟩) 2 2])) Z) := ⟨z1, .inr ⟨_, _, _, ⟨n9 + n29 + 1, by have e0 := Ps.go_le (show n9 ≤ n9 + n29 by omega) hn9; have e1 := Ps.go_le (show n29 ≤ n9 + n29 by omega) hn30; simp [hs1, hk10, e0, e1]⟩, ol31, by omega, z2, rfl, Nz.out.res gz⟩⟩
  replace Bp : Hid (BX w Z (w21.heap.size) ⟨3, [], 0, .slice pa pL pc, pts⟩) := Bp.out.res gz
  clear z1 z2 gz
  refine anyC_one (i := 6) (by kernel_rfl) rfl (by rfl) (fun K42 hK42 => ?_)
  go_simp
  rw [← hZ]
  refine hK42 _ _ Bp.out.cs ?_
  clear hK42
  clear hZ p0 p1 p2 p3 pf
  refine anyC_done (by kernel_rfl) ?_
  gi_wp2
  refine bodyPost_ret (v := .agg #[.int .u8 2, .string (Ln.bs ((Ps.hd l.tail).text)), .int .i64 0, .slice (some ⟨w27.heap.size, 0, none⟩) 2 2]) (by simp [results, Tryz.results125, go_sem, r0, r1, r2, r3]) rfl HF.out

end Go.Proofs.YtnndgjnihhafbaaGreatDoor

/-
  The walks of block and file: rows of nodes, in a node's box.
-/
namespace Go.Proofs.YtnndgjnihhafbaaGreatDoor
open Go.RowKit Go.Shelf

attribute [local go_sem] Oper.semAt_some
attribute [local simp] Ps.go Ps.opn Ps.want Ps.name Ps.bnd Ps.bad N1.tr

theorem Frm.rowed {w W Z : World} {b a n : Nat} {v : Value} {xs : List Value} (h : Frm w b W) (ho : W.ownsRow a 25 4 v n xs) (hz : W.grownBy Z v.ownBlock) (ha : w.heap.size < a) : Frm w b Z :=
  ⟨h.low, grown_rowed h.grown ho hz (by omega), (hz.block _ h.lt (fun e => by
    rcases ho.2 with ⟨rfl, _⟩ | ⟨g, cap, cur, rfl, hbg, _⟩
    · cases e
    · obtain e2 : w.heap.size = g := by simpa [Value.ownBlock] using e
      omega)).trans h.box⟩
theorem Frm.set {w W Z : World} {b q : Nat} (h : Frm w b W) (hz : W.grownBy Z (some q)) (hq : w.heap.size < q) : Frm w b Z :=
  ⟨h.low, grown_new h.grown hz (by omega), (hz.block _ h.lt (by simp; omega)).trans h.box⟩
theorem box_rowed {W Z : World} {a n q : Nat} {v : Value} {xs : List Value} {o : Obj} (h : W.heap[q]? = some o) (ho : W.ownsRow a 25 4 v n xs) (hz : W.grownBy Z v.ownBlock) (hq : q < a) : Z.heap[q]? = some o :=
  (hz.block q (Array.getElem?_eq_some_iff.1 h).1 (fun e => by
    rcases ho.2 with ⟨rfl, _⟩ | ⟨g, cap, cur, rfl, hbg, _⟩
    · cases e
    · obtain e2 : q = g := by simpa [Value.ownBlock] using e
      omega)).trans h
theorem Rw.nf {w W : World} {a : Nat} {v : Value} {xs : List N1} (h : Rw a W v xs) (hl : xs.length ≤ 1000000000) (ha : w.heap.size < a) (k : Int) (hk : 0 ≤ k ∧ k ≤ 255) : NF w W ⟨k, [], 0, v, xs.map N1.tr⟩ [] :=
  ⟨fit_of k [] _ _ hk (by simp), (h.row hl (Nat.le_refl a)).mono (fun q hq => ⟨by have := hq.1; omega, hq.2, fun e => by cases e⟩)⟩
def blkEnd : Ps.R → Ps.R
  | .ok ts r => .ok [.mk 5 [] 0 ts] r
  | .bad e i => .bad e i

set_option maxRecDepth 100000 in
set_option maxHeartbeats 8000000 in
theorem pblock_of (m : Nat) (hS : PDoes 168 .stmt [] m) : PDoes 153 .block [] (m + 1) := by
  intro b lv l w hl hm hlv hP
  have HS : Hid (PDoes 168 .stmt [] m) := hS
  clear hS
  obtain ⟨i0, hi0, hz0, hz1, hz2⟩ := info_parts info_node
  obtain ⟨A, hA⟩ : ∃ A, A = w.alloc (.cells #[.int .u8 0, .string ⟨#[]⟩, .int .i64 0, .slice none 0 0] 25) := ⟨_, rfl⟩
  have FR : Hid (Frm w b A) := hA ▸ Frm.new hP
  have PA : Hid (PAt b l lv A) := hA ▸ hP.below (below_new w _)
  have hlen := hP.len
  clear hP
  refine (callsIn_wide (n := 3)).1 ?_
  refine callsIn_of_wp Tryz.func153 rfl trivial ?_ rfl
  simp only [Tryz.ntmps153, List.size_toArray, List.length_cons, List.length_nil, Nat.reduceAdd, Nat.reduceSub, Array.replicate_succ, Array.replicate_zero, List.push_toArray, List.append_toArray, List.nil_append, List.cons_append]
  gi_wp2
  rw [← hA]
  clear hA
  refine ⟨trivial, ?_⟩
  refine (callsIn_wide.2 (pnode_any 5 ⟨#[]⟩ none 0 0 A)).mono ?_
  rintro e w1 ⟨rfl, hb1⟩
  replace FR : Hid (Frm w b w1) := FR.out.below hb1
  replace PA : Hid (PAt b l lv w1) := PA.out.below hb1
  clear hb1
  obtain ⟨Y, hY⟩ : ∃ Y, Y = w1.alloc (.cells #[.int .u8 5, .string ⟨#[]⟩, .int .i64 0, .slice none 0 0] 25) := ⟨_, rfl⟩
  have bY : Below w1.heap.size w1 Y := hY ▸ below_new w1 _
  have BQ : Hid (Y.heap[w1.heap.size]? = some (.cells #[.int .u8 5, .string ⟨#[]⟩, .int .i64 0, .slice none 0 0] 25 (0, 0))) := by rw [Hid, hY]; exact World.alloc_heap_new w1 _
  have hwq : w.heap.size < w1.heap.size := FR.out.lt
  replace FR : Hid (Frm w b Y) := FR.out.below bY
  replace PA : Hid (PAt b l lv Y) := PA.out.below bY
  obtain ⟨V, hV⟩ : ∃ V, V = Y.alloc (.cells #[.string ⟨#[123]⟩] 9) := ⟨_, rfl⟩
  have sY : Y.heap.size = w1.heap.size + 1 := by rw [hY, World.size_alloc]
  have bV : Below Y.heap.size Y V := hV ▸ below_new Y _
  have rV : RowLow V.heap.size V (.slice (some ⟨w1.heap.size + 1, 0, none⟩) 1 1) [[123]] := by rw [hV, ← sY]; exact CellsLow.lit Y [txtV [123]] 9 1
  replace FR : Hid (Frm w b V) := FR.out.below bV
  replace PA : Hid (PAt b l lv V) := PA.out.below bV
  replace BQ : Hid (V.heap[w1.heap.size]? = some (.cells #[.int .u8 5, .string ⟨#[]⟩, .int .i64 0, .slice none 0 0] 25 (0, 0))) := (bV.block _ (by omega)).trans BQ.out
  clear bY bV sY
  gi_wp2
  rw [← hY, ← hV]
  clear hY hV
  refine ⟨trivial, ?_⟩
  cases hs : Ps.sees l [[123]]
  · have HO : Hid (_) := popen_no b lv _ l [[123]] _ V PA.out hl rV (Nat.le_refl _) (by simp) hs
    refine (callsIn_wide.2 HO.out).mono ?_
    rintro e u1 ⟨rfl, hg⟩
    exact ⟨rfl, FR.out.grown.trans hg, .inl ⟨_, _, ⟨1, by simp [hs]⟩, rfl⟩⟩
  by_cases h120 : lv = 120
  · have PB : Hid (PAt b l 120 V) := by have := PA.out; rwa [h120] at this
    have HO : Hid (_) := popen_deep b _ l [[123]] _ V PB.out hl rV (Nat.le_refl _) (by simp) hs
    refine (callsIn_wide.2 HO.out).mono ?_
    rintro e u1 ⟨rfl, hg⟩
    exact ⟨rfl, FR.out.grown.trans hg, .inl ⟨_, _, ⟨1, by simp [hs, h120]⟩, rfl⟩⟩
  obtain ⟨ol1, ln1⟩ := hl.sees hs (by decide)
  have HO : Hid (_) := popen_yes b lv _ l [[123]] _ V PA.out hl rV (Nat.le_refl _) (by simp) hs (by decide) (by omega)
  refine (callsIn_wide.2 HO.out).mono ?_
  rintro e w2 ⟨rfl, hg2, hp2⟩
  obtain ⟨q, hq⟩ : ∃ q, q = w1.heap.size := ⟨_, rfl⟩
  obtain ⟨l1, hl1⟩ : ∃ l1, l1 = l.tail := ⟨_, rfl⟩
  have ST : Hid (Frm w b w2 ∧ PAt b l1 (lv + 1) w2 ∧ w2.heap[q]? = some (.cells #[.int .u8 5, .string ⟨#[]⟩, .int .i64 0, .slice none 0 0] 25 (0, 0)) ∧ Rw (q + 1) w2 (.slice none 0 0) [] ∧ ∀ r, Ps.Eats (.blk (([] : List N1).map N1.tr)) l1 (lv + 1) r → Ps.Eats .block l lv (blkEnd r)) := by
    refine ⟨FR.out.go hg2, hl1 ▸ hp2, by rw [hq]; exact (hg2.block _ (Array.getElem?_eq_some_iff.1 BQ.out).1 (by have := FR.out.low; simp; omega)).trans BQ.out, Rw.nil _ _, fun r hr => ?_⟩
    obtain ⟨n2, hn2⟩ := hr
    rw [hl1] at hn2
    simp at hn2
    cases r <;> exact ⟨n2 + 1, by simp [hs, h120, hn2, blkEnd]⟩
  rw [← hq] at hwq ⊢
  rw [← hl1] at ol1 ln1
  clear HO hg2 hp2 FR PA BQ rV hq
  gi_wp2
  gi_loopg [] (l1.length) (fun g wr => ∃ (v : Value) (xs : List N1) (l2 : List Lx.Tok), g = l2.length ∧ OkL l2 ∧ xs.length + l2.length ≤ 100000000 ∧ l2.length ≤ l1.length ∧ Frm w b wr ∧ PAt b l2 (lv + 1) wr ∧ wr.heap[q]? = some (.cells #[.int .u8 5, .string ⟨#[]⟩, .int .i64 0, v] 25 (0, 0)) ∧ Rw (q + 1) wr v xs ∧ ∀ r, Ps.Eats (.blk (xs.map N1.tr)) l2 (lv + 1) r → Ps.Eats .block l lv (blkEnd r))
  case atStart => exact ⟨_, [], l1, rfl, ol1, by simp; omega, Nat.le_refl _, ST.out.1, ST.out.2.1, ST.out.2.2.1, ST.out.2.2.2.1, ST.out.2.2.2.2⟩
  case round =>
    clear ST
    obtain ⟨v, xs, l2, hgk, ol2, hxl, ln2, hF, hP, hBq, hRw, hE⟩ := hrel
    have HE : Hid (∀ r, Ps.Eats (.blk (xs.map N1.tr)) l2 (lv + 1) r → Ps.Eats .block l lv (blkEnd r)) := hE
    obtain ⟨V3, hV3⟩ : ∃ V, V = wr.alloc (.cells #[.string ⟨#[125]⟩] 9) := ⟨_, rfl⟩
    have bV3 : Below wr.heap.size wr V3 := hV3 ▸ below_new wr _
    have rV3 : RowLow V3.heap.size V3 (.slice (some ⟨wr.heap.size, 0, none⟩) 1 1) [[125]] := by rw [hV3]; exact CellsLow.lit wr [txtV [125]] 9 1
    have HSE : Hid (_) := psees_any b (lv + 1) _ l2 [[125]] _ V3 (hP.below bV3) ol2 rV3 (Nat.le_refl _) (by simp)
    have FR : Hid (Frm w b V3) := hF.below bV3
    have PA : Hid (PAt b l2 (lv + 1) V3) := hP.below bV3
    have BQ : Hid (V3.heap[q]? = some (.cells #[.int .u8 5, .string ⟨#[]⟩, .int .i64 0, v] 25 (0, 0))) := (bV3.block _ (Array.getElem?_eq_some_iff.1 hBq).1).trans hBq
    have RW : Hid (Rw (q + 1) V3 v xs) := hRw.go (b := b) (grown_low bV3) (by have := hF.low; omega)
    clear hF hP hBq hRw hE bV3 rV3
    gi_wp2
    rw [← hV3]
    clear hV3
    refine ⟨trivial, ?_⟩
    refine (callsIn_wide.2 HSE.out).mono ?_
    rintro e w3 ⟨rfl, hb3⟩
    replace FR : Hid (Frm w b w3) := FR.out.below hb3
    replace PA : Hid (PAt b l2 (lv + 1) w3) := PA.out.below hb3
    replace BQ : Hid (w3.heap[q]? = some (.cells #[.int .u8 5, .string ⟨#[]⟩, .int .i64 0, v] 25 (0, 0))) := (hb3.block _ (Array.getElem?_eq_some_iff.1 BQ.out).1).trans BQ.out
    replace RW : Hid (Rw (q + 1) w3 v xs) := RW.out.go (b := b) (grown_low hb3) (by have := FR.out.low; omega)
    clear HSE hb3
    cases hs2 : Ps.sees l2 [[125]]
    case true =>
      obtain ⟨ol4, ln4⟩ := ol2.sees hs2 (by decide)
      have HC : Hid (_) := pclose_yes b lv l2 [125] w3 PA.out ol2 hs2 (by decide) (by omega)
      gi_wp2
      refine ⟨trivial, ?_⟩
      refine (callsIn_wide.2 HC.out).mono ?_
      rintro e w4 ⟨rfl, hg4, hp4⟩
      replace BQ : Hid (w4.heap[q]? = some (.cells #[.int .u8 5, .string ⟨#[]⟩, .int .i64 0, v] 25 (0, 0))) := (hg4.block _ (Array.getElem?_eq_some_iff.1 BQ.out).1 (by have := FR.out.low; simp; omega)).trans BQ.out
      replace RW : Hid (Rw (q + 1) w4 v xs) := RW.out.go hg4 (by have := FR.out.low; omega)
      replace FR : Hid (Frm w b w4) := FR.out.go hg4
      replace PA : Hid (PAt b l2.tail lv w4) := hp4
      clear HC hg4 hp4
      have NZ : NF w w4 ⟨5, [], 0, v, xs.map N1.tr⟩ [] := RW.out.nf (by omega) (by omega) 5 (by omega)
      have c0 : w4.cell? ⟨q, 0, none⟩ = some (.int .u8 5) := cells_at BQ.out rfl
      have c1 : w4.cell? ⟨q, 1, none⟩ = some (.string ⟨#[]⟩) := cells_at BQ.out rfl
      have c2 : w4.cell? ⟨q, 2, none⟩ = some (.int .i64 0) := cells_at BQ.out rfl
      have c3 : w4.cell? ⟨q, 3, none⟩ = some v := cells_at BQ.out rfl
      obtain ⟨va, vc, hv⟩ := slice_shape RW.out.own
      obtain ⟨vL, hvL⟩ : ∃ N, N = xs.length := ⟨_, rfl⟩
      rw [← hvL] at hv
      subst hv
      obtain ⟨p0, p1, p2, p3, pf, Z, hZ, ⟨r0, r1, r2, r3⟩, z1, z2, z3⟩ := FR.out.fin PA.out NZ
      have HF : Hid (w.grownBy Z (some b) ∧ PEnd b lv .block l w (.returned (.agg #[.int .u8 5, .string (Ln.bs []), .int .i64 0, .slice va vL vc])) Z) := ⟨z1, .inr ⟨_, _, _, HE.out (.ok _ _) ⟨1, by simp [hs2]⟩, ol4, by omega, z2, rfl, z3⟩⟩
      rw [show Ln.bs [] = (⟨#[]⟩ : ByteArray) from rfl] at p2 p3 hZ r1 HF
      clear z1 z2 z3 NZ hvL
      gi_wp2
      rw [← hZ]
      refine bodyPost_ret (v := .agg #[.int .u8 5, .string ⟨#[]⟩, .int .i64 0, .slice va vL vc]) (by simp [results, Tryz.results153, go_sem, r0, r1, r2, r3]) rfl HF.out
    case false =>
      obtain ⟨w4, hw4⟩ : ∃ w4, w4 = w3 := ⟨_, rfl⟩
      subst hw4
      have bd : Below w4.heap.size w4 w4.drew := below_draw w4 1
      replace FR : Hid (Frm w b w4.drew) := FR.out.below bd
      replace PA : Hid (PAt b l2 (lv + 1) w4.drew) := PA.out.below bd
      replace BQ : Hid (w4.drew.heap[q]? = some (.cells #[.int .u8 5, .string ⟨#[]⟩, .int .i64 0, v] 25 (0, 0))) := BQ.out
      replace RW : Hid (Rw (q + 1) w4.drew v xs) := RW.out.go (b := b) (grown_low bd) (by have := FR.out.low; omega)
      have HS4 : Hid (_) := HS.out b (lv + 1) l2 w4.drew ol2 (by omega) (by omega) PA.out
      have v4 : w4.drew.cell? ⟨q, 3, none⟩ = some v := cells_at BQ.out rfl
      clear bd
      gi_wp2
      refine region_lex (fun _ => True) 1 7 rfl (by kernel_rfl) (by kernel_rfl) (by kernel_rfl) (by kernel_rfl) (fun _ _ d _ _ h => by cases d <;> exact h) trivial ?_
      simp only [List.take_succ_cons, List.take_zero]
      iterate 1 (first
        | (apply lexC_want
           · rfl
           · exact fun _ => rfl
           · (intro w' hw'; go_simp; try rfl)
           simp only [Act.put, List.setIfInBounds_toArray, List.set_cons_zero, List.set_cons_succ]))
      refine lexC_nil ?_
      refine anyC_take (i := 2) (v := .pointer (some ⟨b, 0, none⟩)) rfl rfl (by kernel_rfl) (by kernel_rfl) (by kernel_rfl) (fun _ _ d _ _ h => by cases d <;> exact h) trivial (by rfl) (fun _ => rfl) (by intro w' _; go_simp; try rfl) ?_
      simp only [Act.put, List.getElem_toArray, List.getElem_cons_succ, List.getElem_cons_zero, List.setIfInBounds_toArray, List.set_cons_zero, List.set_cons_succ]
      refine anyC_two (i := 1) (j := 3) (by kernel_rfl) rfl rfl (by rfl) (by rfl) (fun K1 hK1 => ?_) (fun K1 hK1 => ?_)
      · go_simp
        refine hK1 _ _ trivial ?_
        clear hK1 v4
        refine anyC_one (i := 3) (by kernel_rfl) rfl (by rfl) (fun K2 hK2 => ?_)
        go_simp
        refine ⟨trivial, ?_⟩
        refine (callsIn_wide.2 HS4.out).mono ?_
        rintro e w5 ⟨hg5, ⟨E, i, ⟨n2, hn2⟩, rfl⟩ | ⟨t, l3, v9, ⟨n2, hn2⟩, ol5, ln5, hp5, rfl, nd5⟩⟩
        · exact ⟨rfl, FR.out.grown.trans hg5, .inl ⟨_, _, HE.out (.bad E i) ⟨n2 + 1, by simp [hs2, hn2]⟩, rfl⟩⟩
        obtain ⟨⟨yk, yt, yn, yv, ykids⟩, rfl, rfl, yf, yr⟩ := nd5
        obtain ⟨ya, yc, hyv⟩ := yr.slice
        simp only at hyv
        subst hyv
        obtain ⟨yL, hyL⟩ : ∃ N, N = ykids.length := ⟨_, rfl⟩
        simp only [N1.cells]
        rw [← hyL] at yf yr ⊢
        clear hyL
        have FR5 : Hid (Frm w b w5) := FR.out.go hg5
        have BQ5 : Hid (w5.heap[q]? = some (.cells #[.int .u8 5, .string ⟨#[]⟩, .int .i64 0, v] 25 (0, 0))) := (hg5.block q (Array.getElem?_eq_some_iff.1 BQ.out).1 (by have := FR.out.low; simp; omega)).trans BQ.out
        have RW5 : Hid (Rw (q + 1) w5 v xs) := RW.out.go hg5 (by have := FR.out.low; omega)
        have hq5 : w4.drew.heap.size ≤ w5.heap.size := hg5.size
        have HY5 : Hid ((⟨yk, yt, yn, .slice ya yL yc, ykids⟩ : N1).Fit ∧ RowR (newS w4.drew.heap.size w5.heap.size) w5 (.slice ya yL yc) ykids ∧ w4.drew.grownBy w5 (some b) ∧ PAt b l3 (lv + 1) w5) := ⟨yf, yr, hg5, hp5⟩
        have v5 : w5.cell? ⟨q, 3, none⟩ = some v := cells_at BQ5.out rfl
        clear yf yr hg5 hp5
        refine hK2 _ _ trivial ?_
        clear hK2 v5
        refine anyC_one (i := 4) (by kernel_rfl) rfl (by rfl) (fun K3 hK3 => ?_)
        go_simp
        obtain ⟨R, hR⟩ : ∃ R, R = w5.alloc (.cells #[.int .u8 yk, .string (Ln.bs yt), .int .i64 yn, .slice ya yL yc] 25) := ⟨_, rfl⟩
        have bR : Below w5.heap.size w5 R := hR ▸ below_new w5 _
        have SRC := cells_new w5 [.int .u8 yk, .string (Ln.bs yt), .int .i64 yn, .slice ya yL yc] 25
        have e9 : w5.alloc (.cells #[.int .u8 yk, .string (Ln.bs yt), .int .i64 yn, .slice ya yL yc] 25) = R := hR.symm
        rw [e9] at SRC
        have hlow := FR.out.low
        have hqlt : q < w4.drew.heap.size := (Array.getElem?_eq_some_iff.1 BQ.out).1
        have RWR : Rw (q + 1) R v xs := RW5.out.go (b := b) (grown_low bR) (by omega)
        obtain ⟨v', W', hrun, hown', hgr, -, hat⟩ := run_append_own_at (P := Tryz.prog) R (q + 1) 23 23 25 i0 (.agg #[.int .u8 0, .string ⟨#[]⟩, .int .i64 0, .slice none 0 0]) 4 56 Tryz.underlying23 hi0 hz0 hz1 hz2 rfl (by decide) v xs.length (n1Cells xs) RWR.own ⟨w5.heap.size, 0, none⟩ 1 1 [.int .u8 yk, .string (Ln.bs yt), .int .i64 yn, .slice ya yL yc] rfl SRC (by simp [Value.oneCell']) (by unfold maxLen; omega) (by omega) (by have := bR.size; omega)
        have RWN : Rw (q + 1) W' v' (xs ++ [⟨yk, yt, yn, .slice ya yL yc, ykids⟩]) := by
          refine Rw.app RW.out (V := R) (grown_below HY5.out.2.2.1 bR) (by omega) HY5.out.1 ?_ (by omega) hown' hgr hat
          exact HY5.out.2.1.keep (fun k hk => bR.block k hk.2) (fun _ hk => ⟨hk.1, Nat.lt_of_lt_of_le hk.2 bR.size⟩)
        have BQN := box_rowed ((bR.block q (Array.getElem?_eq_some_iff.1 BQ5.out).1).trans BQ5.out) RWR.own hgr (Nat.lt_succ_self q)
        have FRN := (FR5.out.below bR).rowed RWR.own hgr (by omega)
        have PAN := (HY5.out.2.2.2.below bR).rowed RWR.own hgr
        obtain ⟨Z, hZ⟩ : ∃ Z, Z = W'.setCell ⟨q, 3, none⟩ v' := ⟨_, rfl⟩
        have gZ : W'.grownBy Z (some q) := by rw [hZ]; exact grown_set W' _ _ _
        have HZ : Hid (Frm w b Z ∧ PAt b l3 (lv + 1) Z ∧ Z.heap[q]? = some (.cells #[.int .u8 5, .string ⟨#[]⟩, .int .i64 0, v'] 25 (0, 0)) ∧ Rw (q + 1) Z v' (xs ++ [⟨yk, yt, yn, .slice ya yL yc, ykids⟩])) :=
          ⟨FRN.set gZ hwq, PAN.beside gZ BQN, by rw [hZ]; exact heap_setCell_same W' _ 3 _ _ _ BQN, RWN.go gZ (by omega)⟩
        have vR : R.cell? ⟨q, 3, none⟩ = some v := cells_at ((bR.block q (Array.getElem?_eq_some_iff.1 BQ5.out).1).trans BQ5.out) rfl
        have vc : W'.cell? ⟨q, 3, none⟩ = some v := cells_at BQN rfl
        have vf : W'.frozen? ⟨q, 3, none⟩ = false := frozen_of_row W' _ 3 _ _ BQN
        rw [e9]
        refine hK3 _ _ trivial ?_
        obtain ⟨va', vc', hv'⟩ := slice_shape hown'
        clear hK3 SRC e9 hR bR RWR hown' hgr hat RWN BQN FRN PAN gZ
        clear vR
        refine anyC_one (i := 5) (by kernel_rfl) rfl (by rfl) (fun K4 hK4 => ?_)
        refine op_append _ _ 23 rfl _ _ _ _ rfl rfl hrun (hK4 _ _ trivial ?_)
        clear hK4 hrun
        subst hv'
        refine anyC_one (i := 6) (by kernel_rfl) rfl (by rfl) (fun K6 hK6 => ?_)
        go_simp
        refine hK6 _ _ trivial ?_
        clear hK6
        refine anyC_one (i := 7) (by kernel_rfl) rfl (by rfl) (fun K5 hK5 => ?_)
        go_simp
        rw [← hZ]
        refine hK5 _ _ trivial ?_
        clear hK5 hZ vc vf
        refine anyC_done (by kernel_rfl) ?_
        gi_wp2
        gi_roundg l3.length
        case measure => omega
        case rel =>
          refine ⟨_, xs ++ [⟨yk, yt, yn, .slice ya yL yc, ykids⟩], l3, rfl, ol5, by simp; omega, by omega, HZ.out.1, HZ.out.2.1, HZ.out.2.2.1, HZ.out.2.2.2, fun r hr => HE.out r ?_⟩
          obtain ⟨n3, hn3⟩ := hr
          exact ⟨n2 + n3 + 1, by have e0 := Ps.go_le (show n2 ≤ n2 + n3 by omega) hn2; have e1 := Ps.go_le (show n3 ≤ n2 + n3 by omega) hn3; simp at e0 e1; simp [hs2, e0, e1]⟩
      · go_simp
        refine ⟨trivial, ?_⟩
        refine (callsIn_wide.2 HS4.out).mono ?_
        rintro e w5 ⟨hg5, ⟨E, i, ⟨n2, hn2⟩, rfl⟩ | ⟨t, l3, v9, ⟨n2, hn2⟩, ol5, ln5, hp5, rfl, nd5⟩⟩
        · exact ⟨rfl, FR.out.grown.trans hg5, .inl ⟨_, _, HE.out (.bad E i) ⟨n2 + 1, by simp [hs2, hn2]⟩, rfl⟩⟩
        obtain ⟨⟨yk, yt, yn, yv, ykids⟩, rfl, rfl, yf, yr⟩ := nd5
        obtain ⟨ya, yc, hyv⟩ := yr.slice
        simp only at hyv
        subst hyv
        obtain ⟨yL, hyL⟩ : ∃ N, N = ykids.length := ⟨_, rfl⟩
        simp only [N1.cells]
        rw [← hyL] at yf yr ⊢
        clear hyL
        have FR5 : Hid (Frm w b w5) := FR.out.go hg5
        have BQ5 : Hid (w5.heap[q]? = some (.cells #[.int .u8 5, .string ⟨#[]⟩, .int .i64 0, v] 25 (0, 0))) := (hg5.block q (Array.getElem?_eq_some_iff.1 BQ.out).1 (by have := FR.out.low; simp; omega)).trans BQ.out
        have RW5 : Hid (Rw (q + 1) w5 v xs) := RW.out.go hg5 (by have := FR.out.low; omega)
        have hq5 : w4.drew.heap.size ≤ w5.heap.size := hg5.size
        have HY5 : Hid ((⟨yk, yt, yn, .slice ya yL yc, ykids⟩ : N1).Fit ∧ RowR (newS w4.drew.heap.size w5.heap.size) w5 (.slice ya yL yc) ykids ∧ w4.drew.grownBy w5 (some b) ∧ PAt b l3 (lv + 1) w5) := ⟨yf, yr, hg5, hp5⟩
        have v5 : w5.cell? ⟨q, 3, none⟩ = some v := cells_at BQ5.out rfl
        clear yf yr hg5 hp5
        refine hK1 _ _ trivial ?_
        clear hK1 v4
        refine anyC_two (i := 1) (j := 4) (by kernel_rfl) rfl rfl (by rfl) (by rfl) (fun K2 hK2 => ?_) (fun K3 hK3 => ?_)
        · go_simp
          refine hK2 _ _ trivial ?_
          clear hK2 v5
          refine anyC_one (i := 4) (by kernel_rfl) rfl (by rfl) (fun K3 hK3 => ?_)
          go_simp
          obtain ⟨R, hR⟩ : ∃ R, R = w5.alloc (.cells #[.int .u8 yk, .string (Ln.bs yt), .int .i64 yn, .slice ya yL yc] 25) := ⟨_, rfl⟩
          have bR : Below w5.heap.size w5 R := hR ▸ below_new w5 _
          have SRC := cells_new w5 [.int .u8 yk, .string (Ln.bs yt), .int .i64 yn, .slice ya yL yc] 25
          have e9 : w5.alloc (.cells #[.int .u8 yk, .string (Ln.bs yt), .int .i64 yn, .slice ya yL yc] 25) = R := hR.symm
          rw [e9] at SRC
          have hlow := FR.out.low
          have hqlt : q < w4.drew.heap.size := (Array.getElem?_eq_some_iff.1 BQ.out).1
          have RWR : Rw (q + 1) R v xs := RW5.out.go (b := b) (grown_low bR) (by omega)
          obtain ⟨v', W', hrun, hown', hgr, -, hat⟩ := run_append_own_at (P := Tryz.prog) R (q + 1) 23 23 25 i0 (.agg #[.int .u8 0, .string ⟨#[]⟩, .int .i64 0, .slice none 0 0]) 4 56 Tryz.underlying23 hi0 hz0 hz1 hz2 rfl (by decide) v xs.length (n1Cells xs) RWR.own ⟨w5.heap.size, 0, none⟩ 1 1 [.int .u8 yk, .string (Ln.bs yt), .int .i64 yn, .slice ya yL yc] rfl SRC (by simp [Value.oneCell']) (by unfold maxLen; omega) (by omega) (by have := bR.size; omega)
          have RWN : Rw (q + 1) W' v' (xs ++ [⟨yk, yt, yn, .slice ya yL yc, ykids⟩]) := by
            refine Rw.app RW.out (V := R) (grown_below HY5.out.2.2.1 bR) (by omega) HY5.out.1 ?_ (by omega) hown' hgr hat
            exact HY5.out.2.1.keep (fun k hk => bR.block k hk.2) (fun _ hk => ⟨hk.1, Nat.lt_of_lt_of_le hk.2 bR.size⟩)
          have BQN := box_rowed ((bR.block q (Array.getElem?_eq_some_iff.1 BQ5.out).1).trans BQ5.out) RWR.own hgr (Nat.lt_succ_self q)
          have FRN := (FR5.out.below bR).rowed RWR.own hgr (by omega)
          have PAN := (HY5.out.2.2.2.below bR).rowed RWR.own hgr
          obtain ⟨Z, hZ⟩ : ∃ Z, Z = W'.setCell ⟨q, 3, none⟩ v' := ⟨_, rfl⟩
          have gZ : W'.grownBy Z (some q) := by rw [hZ]; exact grown_set W' _ _ _
          have HZ : Hid (Frm w b Z ∧ PAt b l3 (lv + 1) Z ∧ Z.heap[q]? = some (.cells #[.int .u8 5, .string ⟨#[]⟩, .int .i64 0, v'] 25 (0, 0)) ∧ Rw (q + 1) Z v' (xs ++ [⟨yk, yt, yn, .slice ya yL yc, ykids⟩])) :=
            ⟨FRN.set gZ hwq, PAN.beside gZ BQN, by rw [hZ]; exact heap_setCell_same W' _ 3 _ _ _ BQN, RWN.go gZ (by omega)⟩
          have vR : R.cell? ⟨q, 3, none⟩ = some v := cells_at ((bR.block q (Array.getElem?_eq_some_iff.1 BQ5.out).1).trans BQ5.out) rfl
          have vc : W'.cell? ⟨q, 3, none⟩ = some v := cells_at BQN rfl
          have vf : W'.frozen? ⟨q, 3, none⟩ = false := frozen_of_row W' _ 3 _ _ BQN
          rw [e9]
          refine hK3 _ _ trivial ?_
          obtain ⟨va', vc', hv'⟩ := slice_shape hown'
          clear hK3 SRC e9 hR bR RWR hown' hgr hat RWN BQN FRN PAN gZ
          clear vR
          refine anyC_one (i := 5) (by kernel_rfl) rfl (by rfl) (fun K4 hK4 => ?_)
          refine op_append _ _ 23 rfl _ _ _ _ rfl rfl hrun (hK4 _ _ trivial ?_)
          clear hK4 hrun
          subst hv'
          refine anyC_one (i := 6) (by kernel_rfl) rfl (by rfl) (fun K6 hK6 => ?_)
          go_simp
          refine hK6 _ _ trivial ?_
          clear hK6
          refine anyC_one (i := 7) (by kernel_rfl) rfl (by rfl) (fun K5 hK5 => ?_)
          go_simp
          rw [← hZ]
          refine hK5 _ _ trivial ?_
          clear hK5 hZ vc vf
          refine anyC_done (by kernel_rfl) ?_
          gi_wp2
          gi_roundg l3.length
          case measure => omega
          case rel =>
            refine ⟨_, xs ++ [⟨yk, yt, yn, .slice ya yL yc, ykids⟩], l3, rfl, ol5, by simp; omega, by omega, HZ.out.1, HZ.out.2.1, HZ.out.2.2.1, HZ.out.2.2.2, fun r hr => HE.out r ?_⟩
            obtain ⟨n3, hn3⟩ := hr
            exact ⟨n2 + n3 + 1, by have e0 := Ps.go_le (show n2 ≤ n2 + n3 by omega) hn2; have e1 := Ps.go_le (show n3 ≤ n2 + n3 by omega) hn3; simp at e0 e1; simp [hs2, e0, e1]⟩
        · clear v5
          go_simp
          obtain ⟨R, hR⟩ : ∃ R, R = w5.alloc (.cells #[.int .u8 yk, .string (Ln.bs yt), .int .i64 yn, .slice ya yL yc] 25) := ⟨_, rfl⟩
          have bR : Below w5.heap.size w5 R := hR ▸ below_new w5 _
          have SRC := cells_new w5 [.int .u8 yk, .string (Ln.bs yt), .int .i64 yn, .slice ya yL yc] 25
          have e9 : w5.alloc (.cells #[.int .u8 yk, .string (Ln.bs yt), .int .i64 yn, .slice ya yL yc] 25) = R := hR.symm
          rw [e9] at SRC
          have hlow := FR.out.low
          have hqlt : q < w4.drew.heap.size := (Array.getElem?_eq_some_iff.1 BQ.out).1
          have RWR : Rw (q + 1) R v xs := RW5.out.go (b := b) (grown_low bR) (by omega)
          obtain ⟨v', W', hrun, hown', hgr, -, hat⟩ := run_append_own_at (P := Tryz.prog) R (q + 1) 23 23 25 i0 (.agg #[.int .u8 0, .string ⟨#[]⟩, .int .i64 0, .slice none 0 0]) 4 56 Tryz.underlying23 hi0 hz0 hz1 hz2 rfl (by decide) v xs.length (n1Cells xs) RWR.own ⟨w5.heap.size, 0, none⟩ 1 1 [.int .u8 yk, .string (Ln.bs yt), .int .i64 yn, .slice ya yL yc] rfl SRC (by simp [Value.oneCell']) (by unfold maxLen; omega) (by omega) (by have := bR.size; omega)
          have RWN : Rw (q + 1) W' v' (xs ++ [⟨yk, yt, yn, .slice ya yL yc, ykids⟩]) := by
            refine Rw.app RW.out (V := R) (grown_below HY5.out.2.2.1 bR) (by omega) HY5.out.1 ?_ (by omega) hown' hgr hat
            exact HY5.out.2.1.keep (fun k hk => bR.block k hk.2) (fun _ hk => ⟨hk.1, Nat.lt_of_lt_of_le hk.2 bR.size⟩)
          have BQN := box_rowed ((bR.block q (Array.getElem?_eq_some_iff.1 BQ5.out).1).trans BQ5.out) RWR.own hgr (Nat.lt_succ_self q)
          have FRN := (FR5.out.below bR).rowed RWR.own hgr (by omega)
          have PAN := (HY5.out.2.2.2.below bR).rowed RWR.own hgr
          obtain ⟨Z, hZ⟩ : ∃ Z, Z = W'.setCell ⟨q, 3, none⟩ v' := ⟨_, rfl⟩
          have gZ : W'.grownBy Z (some q) := by rw [hZ]; exact grown_set W' _ _ _
          have HZ : Hid (Frm w b Z ∧ PAt b l3 (lv + 1) Z ∧ Z.heap[q]? = some (.cells #[.int .u8 5, .string ⟨#[]⟩, .int .i64 0, v'] 25 (0, 0)) ∧ Rw (q + 1) Z v' (xs ++ [⟨yk, yt, yn, .slice ya yL yc, ykids⟩])) :=
            ⟨FRN.set gZ hwq, PAN.beside gZ BQN, by rw [hZ]; exact heap_setCell_same W' _ 3 _ _ _ BQN, RWN.go gZ (by omega)⟩
          have vR : R.cell? ⟨q, 3, none⟩ = some v := cells_at ((bR.block q (Array.getElem?_eq_some_iff.1 BQ5.out).1).trans BQ5.out) rfl
          have vc : W'.cell? ⟨q, 3, none⟩ = some v := cells_at BQN rfl
          have vf : W'.frozen? ⟨q, 3, none⟩ = false := frozen_of_row W' _ 3 _ _ BQN
          rw [e9]
          refine hK3 _ _ trivial ?_
          obtain ⟨va', vc', hv'⟩ := slice_shape hown'
          clear hK3 SRC e9 hR bR RWR hown' hgr hat RWN BQN FRN PAN gZ
          refine anyC_one (i := 1) (by kernel_rfl) rfl (by rfl) (fun K7 hK7 => ?_)
          go_simp
          refine hK7 _ _ trivial ?_
          clear hK7
          clear vR
          refine anyC_one (i := 5) (by kernel_rfl) rfl (by rfl) (fun K4 hK4 => ?_)
          refine op_append _ _ 23 rfl _ _ _ _ rfl rfl hrun (hK4 _ _ trivial ?_)
          clear hK4 hrun
          subst hv'
          refine anyC_one (i := 6) (by kernel_rfl) rfl (by rfl) (fun K6 hK6 => ?_)
          go_simp
          refine hK6 _ _ trivial ?_
          clear hK6
          refine anyC_one (i := 7) (by kernel_rfl) rfl (by rfl) (fun K5 hK5 => ?_)
          go_simp
          rw [← hZ]
          refine hK5 _ _ trivial ?_
          clear hK5 hZ vc vf
          refine anyC_done (by kernel_rfl) ?_
          gi_wp2
          gi_roundg l3.length
          case measure => omega
          case rel =>
            refine ⟨_, xs ++ [⟨yk, yt, yn, .slice ya yL yc, ykids⟩], l3, rfl, ol5, by simp; omega, by omega, HZ.out.1, HZ.out.2.1, HZ.out.2.2.1, HZ.out.2.2.2, fun r hr => HE.out r ?_⟩
            obtain ⟨n3, hn3⟩ := hr
            exact ⟨n2 + n3 + 1, by have e0 := Ps.go_le (show n2 ≤ n2 + n3 by omega) hn2; have e1 := Ps.go_le (show n3 ≤ n2 + n3 by omega) hn3; simp at e0 e1; simp [hs2, e0, e1]⟩
end Go.Proofs.YtnndgjnihhafbaaGreatDoor

/-
  All statements; the walk of file.
-/
namespace Go.Proofs.YtnndgjnihhafbaaGreatDoor
open Go.RowKit Go.Shelf

attribute [local go_sem] Oper.semAt_some
attribute [local simp] Ps.go Ps.opn Ps.want Ps.name Ps.bnd Ps.bad N1.tr

/-- All statements and blocks. -/
theorem pstmt_all : ∀ m, PDoes 168 .stmt [] m ∧ PDoes 153 .block [] m
  | 0 => ⟨PDoes.none _ _ _, PDoes.none _ _ _⟩
  | m + 1 => by
    obtain ⟨hS, hB⟩ := pstmt_all m
    have hB1 := pblock_of m hS
    exact ⟨pstatement_of m (pexpr_all m).1 hB hB1, hB1⟩
theorem pfunc_all (m : Nat) : PDoes 125 .func [] m := (pfunction_of m (pstmt_all m).2).less (Nat.le_succ m)
/-- What file ends with. -/
def FEnd (lv : Nat) (l : List Lx.Tok) (w : World) (e : Ending) (w' : World) : Prop :=
  (∃ E i, Ps.Eats (.file []) l lv (.bad E i) ∧ e = pan E i) ∨ ∃ ts l' v, Ps.Eats (.file []) l lv (.ok ts l') ∧ e = .returned v ∧ NodeR (newS w.heap.size w'.heap.size) w' v (.mk 1 [] 0 ts)

set_option maxRecDepth 100000 in
set_option maxHeartbeats 8000000 in
theorem pfile_any (b lv : Nat) (l : List Lx.Tok) (w : World) (hl : OkL l) (hlv : lv ≤ 120) (hP : PAt b l lv w) : Calls Tryz.prog 78 #[.pointer (some ⟨b, 0, none⟩)] w fun e w' => w.grownBy w' (some b) ∧ FEnd lv l w e w' := by
  obtain ⟨i0, hi0, hz0, hz1, hz2⟩ := info_parts info_node
  obtain ⟨A, hA⟩ : ∃ A, A = w.alloc (.cells #[.int .u8 0, .string ⟨#[]⟩, .int .i64 0, .slice none 0 0] 25) := ⟨_, rfl⟩
  have FR : Hid (Frm w b A) := hA ▸ Frm.new hP
  have PA : Hid (PAt b l lv A) := hA ▸ hP.below (below_new w _)
  have hlen := hP.len
  clear hP
  refine (callsIn_wide (n := 3)).1 ?_
  refine callsIn_of_wp Tryz.func78 rfl trivial ?_ rfl
  simp only [Tryz.ntmps78, List.size_toArray, List.length_cons, List.length_nil, Nat.reduceAdd, Nat.reduceSub, Array.replicate_succ, Array.replicate_zero, List.push_toArray, List.append_toArray, List.nil_append, List.cons_append]
  gi_wp2
  rw [← hA]
  clear hA
  refine ⟨trivial, ?_⟩
  refine (callsIn_wide.2 (pnode_any 1 ⟨#[]⟩ none 0 0 A)).mono ?_
  rintro e w1 ⟨rfl, hb1⟩
  replace FR : Hid (Frm w b w1) := FR.out.below hb1
  replace PA : Hid (PAt b l lv w1) := PA.out.below hb1
  clear hb1
  obtain ⟨Y, hY⟩ : ∃ Y, Y = w1.alloc (.cells #[.int .u8 1, .string ⟨#[]⟩, .int .i64 0, .slice none 0 0] 25) := ⟨_, rfl⟩
  have bY : Below w1.heap.size w1 Y := hY ▸ below_new w1 _
  have BQ : Hid (Y.heap[w1.heap.size]? = some (.cells #[.int .u8 1, .string ⟨#[]⟩, .int .i64 0, .slice none 0 0] 25 (0, 0))) := by rw [Hid, hY]; exact World.alloc_heap_new w1 _
  have hwq : w.heap.size < w1.heap.size := FR.out.lt
  replace FR : Hid (Frm w b Y) := FR.out.below bY
  replace PA : Hid (PAt b l lv Y) := PA.out.below bY
  obtain ⟨q, hq⟩ : ∃ q, q = w1.heap.size := ⟨_, rfl⟩
  obtain ⟨l1, hl1⟩ : ∃ l1, l1 = l := ⟨_, rfl⟩
  have ST : Hid (Frm w b Y ∧ PAt b l1 (lv) Y ∧ Y.heap[q]? = some (.cells #[.int .u8 1, .string ⟨#[]⟩, .int .i64 0, .slice none 0 0] 25 (0, 0)) ∧ Rw (q + 1) Y (.slice none 0 0) [] ∧ ∀ r, Ps.Eats (.file (([] : List N1).map N1.tr)) l1 (lv) r → Ps.Eats (.file []) l lv r) :=
    ⟨FR.out, hl1 ▸ PA.out, by rw [hq]; exact BQ.out, Rw.nil _ _, fun r hr => by rw [hl1] at hr; exact hr⟩
  have ol1 : OkL l1 := hl1 ▸ hl
  have hll : l1.length ≤ 100000000 := by rw [hl1]; exact hlen
  rw [← hq] at hwq
  clear FR PA BQ bY
  gi_wp2
  rw [← hY, ← hq]
  clear hY hq
  gi_loopg [] (l1.length) (fun g wr => ∃ (v : Value) (xs : List N1) (l2 : List Lx.Tok), g = l2.length ∧ OkL l2 ∧ xs.length + l2.length ≤ 100000000 ∧ l2.length ≤ l1.length ∧ Frm w b wr ∧ PAt b l2 (lv) wr ∧ wr.heap[q]? = some (.cells #[.int .u8 1, .string ⟨#[]⟩, .int .i64 0, v] 25 (0, 0)) ∧ Rw (q + 1) wr v xs ∧ ∀ r, Ps.Eats (.file (xs.map N1.tr)) l2 (lv) r → Ps.Eats (.file []) l lv r)
  case atStart => exact ⟨_, [], l1, rfl, ol1, by simp; omega, Nat.le_refl _, ST.out.1, ST.out.2.1, ST.out.2.2.1, ST.out.2.2.2.1, ST.out.2.2.2.2⟩
  case round =>
    clear ST
    obtain ⟨v, xs, l2, hgk, ol2, hxl, ln2, hF, hP, hBq, hRw, hE⟩ := hrel
    have HE : Hid (∀ r, Ps.Eats (.file (xs.map N1.tr)) l2 (lv) r → Ps.Eats (.file []) l lv r) := hE
    have HNX : Hid (_) := pnext_any b lv l2 wr hP ol2
    have hf0 := tok_f0 (Ps.hd l2).kind (Ln.bs (Ps.hd l2).text) (Ps.hd l2).at_
    have FR : Hid (Frm w b wr) := hF
    have PA : Hid (PAt b l2 (lv) wr) := hP
    have BQ : Hid (wr.heap[q]? = some (.cells #[.int .u8 1, .string ⟨#[]⟩, .int .i64 0, v] 25 (0, 0))) := hBq
    have RW : Hid (Rw (q + 1) wr v xs) := hRw
    clear hF hP hBq hRw hE
    gi_wp2
    refine ⟨trivial, ?_⟩
    refine (callsIn_wide.2 HNX.out).mono ?_
    rintro e w3 ⟨rfl, hb3⟩
    replace FR : Hid (Frm w b w3) := FR.out.below hb3
    replace PA : Hid (PAt b l2 (lv) w3) := PA.out.below hb3
    replace BQ : Hid (w3.heap[q]? = some (.cells #[.int .u8 1, .string ⟨#[]⟩, .int .i64 0, v] 25 (0, 0))) := (hb3.block _ (Array.getElem?_eq_some_iff.1 BQ.out).1).trans BQ.out
    replace RW : Hid (Rw (q + 1) w3 v xs) := RW.out.go (b := b) (grown_low hb3) (by have := FR.out.low; omega)
    clear HNX hb3
    by_cases hk5 : (Ps.hd l2).kind = 5
    case pos =>
      have K5 : Hid ((Ps.hd l2).kind = 5) := hk5
      have d5 : (((Ps.hd l2).kind : Int) == 5) = true := by rw [hk5]; rfl
      have d5' : (((Ps.hd l2).kind : Int) != 5) = false := by rw [hk5]; rfl
      clear hk5
      obtain ⟨w4, hw4⟩ : ∃ w4, w4 = w3 := ⟨_, rfl⟩
      subst hw4
      have NZ : NF w w4 ⟨1, [], 0, v, xs.map N1.tr⟩ [] := RW.out.nf (by omega) (by omega) 1 (by omega)
      have c0 : w4.cell? ⟨q, 0, none⟩ = some (.int .u8 1) := cells_at BQ.out rfl
      have c1 : w4.cell? ⟨q, 1, none⟩ = some (.string ⟨#[]⟩) := cells_at BQ.out rfl
      have c2 : w4.cell? ⟨q, 2, none⟩ = some (.int .i64 0) := cells_at BQ.out rfl
      have c3 : w4.cell? ⟨q, 3, none⟩ = some v := cells_at BQ.out rfl
      obtain ⟨va, vc, hv⟩ := slice_shape RW.out.own
      obtain ⟨vL, hvL⟩ : ∃ N, N = xs.length := ⟨_, rfl⟩
      rw [← hvL] at hv
      subst hv
      obtain ⟨p0, p1, p2, p3, pf, Z, hZ, ⟨r0, r1, r2, r3⟩, z1, z2, z3⟩ := FR.out.fin PA.out NZ
      have HF : Hid (w.grownBy Z (some b) ∧ FEnd lv l w (.returned (.agg #[.int .u8 1, .string (Ln.bs []), .int .i64 0, .slice va vL vc])) Z) := ⟨z1, .inr ⟨_, l2, _, HE.out _ ⟨1, by simp [K5.out]⟩, rfl, z3⟩⟩
      rw [show Ln.bs [] = (⟨#[]⟩ : ByteArray) from rfl] at p2 p3 hZ r1 HF
      clear z1 z2 z3 NZ hvL
      gi_wp2
      rw [← hZ]
      refine bodyPost_ret (v := .agg #[.int .u8 1, .string ⟨#[]⟩, .int .i64 0, .slice va vL vc]) (by simp [results, Tryz.results78, go_sem, r0, r1, r2, r3]) rfl HF.out
    case neg =>
      have d5 : (((Ps.hd l2).kind : Int) == 5) = false := by simpa using (by omega : ¬ ((Ps.hd l2).kind : Int) = 5)
      have d5' : (((Ps.hd l2).kind : Int) != 5) = true := by simpa using (by omega : ¬ ((Ps.hd l2).kind : Int) = 5)
      obtain ⟨w4, hw4⟩ : ∃ w4, w4 = w3 := ⟨_, rfl⟩
      subst hw4
      have bd : Below w4.heap.size w4 w4.drew := below_draw w4 1
      replace FR : Hid (Frm w b w4.drew) := FR.out.below bd
      replace PA : Hid (PAt b l2 (lv) w4.drew) := PA.out.below bd
      replace BQ : Hid (w4.drew.heap[q]? = some (.cells #[.int .u8 1, .string ⟨#[]⟩, .int .i64 0, v] 25 (0, 0))) := BQ.out
      replace RW : Hid (Rw (q + 1) w4.drew v xs) := RW.out.go (b := b) (grown_low bd) (by have := FR.out.low; omega)
      have HS4 : Hid (_) := pfunc_all l2.length b lv l2 w4.drew ol2 (Nat.le_refl _) hlv PA.out
      have v4 : w4.drew.cell? ⟨q, 3, none⟩ = some v := cells_at BQ.out rfl
      clear bd
      gi_wp2
      refine region_lex (fun _ => True) 1 7 rfl (by kernel_rfl) (by kernel_rfl) (by kernel_rfl) (by kernel_rfl) (fun _ _ d _ _ h => by cases d <;> exact h) trivial ?_
      simp only [List.take_succ_cons, List.take_zero]
      iterate 1 (first
        | (apply lexC_want
           · rfl
           · exact fun _ => rfl
           · (intro w' hw'; go_simp; try rfl)
           simp only [Act.put, List.setIfInBounds_toArray, List.set_cons_zero, List.set_cons_succ]))
      refine lexC_nil ?_
      refine anyC_take (i := 2) (v := .pointer (some ⟨b, 0, none⟩)) rfl rfl (by kernel_rfl) (by kernel_rfl) (by kernel_rfl) (fun _ _ d _ _ h => by cases d <;> exact h) trivial (by rfl) (fun _ => rfl) (by intro w' _; go_simp; try rfl) ?_
      simp only [Act.put, List.getElem_toArray, List.getElem_cons_succ, List.getElem_cons_zero, List.setIfInBounds_toArray, List.set_cons_zero, List.set_cons_succ]
      refine anyC_two (i := 1) (j := 3) (by kernel_rfl) rfl rfl (by rfl) (by rfl) (fun K1 hK1 => ?_) (fun K1 hK1 => ?_)
      · go_simp
        refine hK1 _ _ trivial ?_
        clear hK1 v4
        refine anyC_one (i := 3) (by kernel_rfl) rfl (by rfl) (fun K2 hK2 => ?_)
        go_simp
        refine ⟨trivial, ?_⟩
        refine (callsIn_wide.2 HS4.out).mono ?_
        rintro e w5 ⟨hg5, ⟨E, i, ⟨n2, hn2⟩, rfl⟩ | ⟨t, l3, v9, ⟨n2, hn2⟩, ol5, ln5, hp5, rfl, nd5⟩⟩
        · exact ⟨rfl, FR.out.grown.trans hg5, .inl ⟨_, _, HE.out _ ⟨n2 + 1, by simp [hk5, hn2]⟩, rfl⟩⟩
        obtain ⟨⟨yk, yt, yn, yv, ykids⟩, rfl, rfl, yf, yr⟩ := nd5
        obtain ⟨ya, yc, hyv⟩ := yr.slice
        simp only at hyv
        subst hyv
        obtain ⟨yL, hyL⟩ : ∃ N, N = ykids.length := ⟨_, rfl⟩
        simp only [N1.cells]
        rw [← hyL] at yf yr ⊢
        clear hyL
        have FR5 : Hid (Frm w b w5) := FR.out.go hg5
        have BQ5 : Hid (w5.heap[q]? = some (.cells #[.int .u8 1, .string ⟨#[]⟩, .int .i64 0, v] 25 (0, 0))) := (hg5.block q (Array.getElem?_eq_some_iff.1 BQ.out).1 (by have := FR.out.low; simp; omega)).trans BQ.out
        have RW5 : Hid (Rw (q + 1) w5 v xs) := RW.out.go hg5 (by have := FR.out.low; omega)
        have hq5 : w4.drew.heap.size ≤ w5.heap.size := hg5.size
        have HY5 : Hid ((⟨yk, yt, yn, .slice ya yL yc, ykids⟩ : N1).Fit ∧ RowR (newS w4.drew.heap.size w5.heap.size) w5 (.slice ya yL yc) ykids ∧ w4.drew.grownBy w5 (some b) ∧ PAt b l3 (lv) w5) := ⟨yf, yr, hg5, hp5⟩
        have v5 : w5.cell? ⟨q, 3, none⟩ = some v := cells_at BQ5.out rfl
        clear yf yr hg5 hp5
        refine hK2 _ _ trivial ?_
        clear hK2 v5
        refine anyC_one (i := 4) (by kernel_rfl) rfl (by rfl) (fun K3 hK3 => ?_)
        go_simp
        obtain ⟨R, hR⟩ : ∃ R, R = w5.alloc (.cells #[.int .u8 yk, .string (Ln.bs yt), .int .i64 yn, .slice ya yL yc] 25) := ⟨_, rfl⟩
        have bR : Below w5.heap.size w5 R := hR ▸ below_new w5 _
        have SRC := cells_new w5 [.int .u8 yk, .string (Ln.bs yt), .int .i64 yn, .slice ya yL yc] 25
        have e9 : w5.alloc (.cells #[.int .u8 yk, .string (Ln.bs yt), .int .i64 yn, .slice ya yL yc] 25) = R := hR.symm
        rw [e9] at SRC
        have hlow := FR.out.low
        have hqlt : q < w4.drew.heap.size := (Array.getElem?_eq_some_iff.1 BQ.out).1
        have RWR : Rw (q + 1) R v xs := RW5.out.go (b := b) (grown_low bR) (by omega)
        obtain ⟨v', W', hrun, hown', hgr, -, hat⟩ := run_append_own_at (P := Tryz.prog) R (q + 1) 23 23 25 i0 (.agg #[.int .u8 0, .string ⟨#[]⟩, .int .i64 0, .slice none 0 0]) 4 56 Tryz.underlying23 hi0 hz0 hz1 hz2 rfl (by decide) v xs.length (n1Cells xs) RWR.own ⟨w5.heap.size, 0, none⟩ 1 1 [.int .u8 yk, .string (Ln.bs yt), .int .i64 yn, .slice ya yL yc] rfl SRC (by simp [Value.oneCell']) (by unfold maxLen; omega) (by omega) (by have := bR.size; omega)
        have RWN : Rw (q + 1) W' v' (xs ++ [⟨yk, yt, yn, .slice ya yL yc, ykids⟩]) := by
          refine Rw.app RW.out (V := R) (grown_below HY5.out.2.2.1 bR) (by omega) HY5.out.1 ?_ (by omega) hown' hgr hat
          exact HY5.out.2.1.keep (fun k hk => bR.block k hk.2) (fun _ hk => ⟨hk.1, Nat.lt_of_lt_of_le hk.2 bR.size⟩)
        have BQN := box_rowed ((bR.block q (Array.getElem?_eq_some_iff.1 BQ5.out).1).trans BQ5.out) RWR.own hgr (Nat.lt_succ_self q)
        have FRN := (FR5.out.below bR).rowed RWR.own hgr (by omega)
        have PAN := (HY5.out.2.2.2.below bR).rowed RWR.own hgr
        obtain ⟨Z, hZ⟩ : ∃ Z, Z = W'.setCell ⟨q, 3, none⟩ v' := ⟨_, rfl⟩
        have gZ : W'.grownBy Z (some q) := by rw [hZ]; exact grown_set W' _ _ _
        have HZ : Hid (Frm w b Z ∧ PAt b l3 (lv) Z ∧ Z.heap[q]? = some (.cells #[.int .u8 1, .string ⟨#[]⟩, .int .i64 0, v'] 25 (0, 0)) ∧ Rw (q + 1) Z v' (xs ++ [⟨yk, yt, yn, .slice ya yL yc, ykids⟩])) :=
          ⟨FRN.set gZ hwq, PAN.beside gZ BQN, by rw [hZ]; exact heap_setCell_same W' _ 3 _ _ _ BQN, RWN.go gZ (by omega)⟩
        have vR : R.cell? ⟨q, 3, none⟩ = some v := cells_at ((bR.block q (Array.getElem?_eq_some_iff.1 BQ5.out).1).trans BQ5.out) rfl
        have vc : W'.cell? ⟨q, 3, none⟩ = some v := cells_at BQN rfl
        have vf : W'.frozen? ⟨q, 3, none⟩ = false := frozen_of_row W' _ 3 _ _ BQN
        rw [e9]
        refine hK3 _ _ trivial ?_
        obtain ⟨va', vc', hv'⟩ := slice_shape hown'
        clear hK3 SRC e9 hR bR RWR hown' hgr hat RWN BQN FRN PAN gZ
        clear vR
        refine anyC_one (i := 5) (by kernel_rfl) rfl (by rfl) (fun K4 hK4 => ?_)
        refine op_append _ _ 23 rfl _ _ _ _ rfl rfl hrun (hK4 _ _ trivial ?_)
        clear hK4 hrun
        subst hv'
        refine anyC_one (i := 6) (by kernel_rfl) rfl (by rfl) (fun K6 hK6 => ?_)
        go_simp
        refine hK6 _ _ trivial ?_
        clear hK6
        refine anyC_one (i := 7) (by kernel_rfl) rfl (by rfl) (fun K5 hK5 => ?_)
        go_simp
        rw [← hZ]
        refine hK5 _ _ trivial ?_
        clear hK5 hZ vc vf
        refine anyC_done (by kernel_rfl) ?_
        gi_wp2
        gi_roundg l3.length
        case measure => omega
        case rel =>
          refine ⟨_, xs ++ [⟨yk, yt, yn, .slice ya yL yc, ykids⟩], l3, rfl, ol5, by simp; omega, by omega, HZ.out.1, HZ.out.2.1, HZ.out.2.2.1, HZ.out.2.2.2, fun r hr => HE.out r ?_⟩
          obtain ⟨n3, hn3⟩ := hr
          exact ⟨n2 + n3 + 1, by have e0 := Ps.go_le (show n2 ≤ n2 + n3 by omega) hn2; have e1 := Ps.go_le (show n3 ≤ n2 + n3 by omega) hn3; simp at e0 e1; simp [hk5, e0, e1]⟩
      · go_simp
        refine ⟨trivial, ?_⟩
        refine (callsIn_wide.2 HS4.out).mono ?_
        rintro e w5 ⟨hg5, ⟨E, i, ⟨n2, hn2⟩, rfl⟩ | ⟨t, l3, v9, ⟨n2, hn2⟩, ol5, ln5, hp5, rfl, nd5⟩⟩
        · exact ⟨rfl, FR.out.grown.trans hg5, .inl ⟨_, _, HE.out _ ⟨n2 + 1, by simp [hk5, hn2]⟩, rfl⟩⟩
        obtain ⟨⟨yk, yt, yn, yv, ykids⟩, rfl, rfl, yf, yr⟩ := nd5
        obtain ⟨ya, yc, hyv⟩ := yr.slice
        simp only at hyv
        subst hyv
        obtain ⟨yL, hyL⟩ : ∃ N, N = ykids.length := ⟨_, rfl⟩
        simp only [N1.cells]
        rw [← hyL] at yf yr ⊢
        clear hyL
        have FR5 : Hid (Frm w b w5) := FR.out.go hg5
        have BQ5 : Hid (w5.heap[q]? = some (.cells #[.int .u8 1, .string ⟨#[]⟩, .int .i64 0, v] 25 (0, 0))) := (hg5.block q (Array.getElem?_eq_some_iff.1 BQ.out).1 (by have := FR.out.low; simp; omega)).trans BQ.out
        have RW5 : Hid (Rw (q + 1) w5 v xs) := RW.out.go hg5 (by have := FR.out.low; omega)
        have hq5 : w4.drew.heap.size ≤ w5.heap.size := hg5.size
        have HY5 : Hid ((⟨yk, yt, yn, .slice ya yL yc, ykids⟩ : N1).Fit ∧ RowR (newS w4.drew.heap.size w5.heap.size) w5 (.slice ya yL yc) ykids ∧ w4.drew.grownBy w5 (some b) ∧ PAt b l3 (lv) w5) := ⟨yf, yr, hg5, hp5⟩
        have v5 : w5.cell? ⟨q, 3, none⟩ = some v := cells_at BQ5.out rfl
        clear yf yr hg5 hp5
        refine hK1 _ _ trivial ?_
        clear hK1 v4
        refine anyC_two (i := 1) (j := 4) (by kernel_rfl) rfl rfl (by rfl) (by rfl) (fun K2 hK2 => ?_) (fun K3 hK3 => ?_)
        · go_simp
          refine hK2 _ _ trivial ?_
          clear hK2 v5
          refine anyC_one (i := 4) (by kernel_rfl) rfl (by rfl) (fun K3 hK3 => ?_)
          go_simp
          obtain ⟨R, hR⟩ : ∃ R, R = w5.alloc (.cells #[.int .u8 yk, .string (Ln.bs yt), .int .i64 yn, .slice ya yL yc] 25) := ⟨_, rfl⟩
          have bR : Below w5.heap.size w5 R := hR ▸ below_new w5 _
          have SRC := cells_new w5 [.int .u8 yk, .string (Ln.bs yt), .int .i64 yn, .slice ya yL yc] 25
          have e9 : w5.alloc (.cells #[.int .u8 yk, .string (Ln.bs yt), .int .i64 yn, .slice ya yL yc] 25) = R := hR.symm
          rw [e9] at SRC
          have hlow := FR.out.low
          have hqlt : q < w4.drew.heap.size := (Array.getElem?_eq_some_iff.1 BQ.out).1
          have RWR : Rw (q + 1) R v xs := RW5.out.go (b := b) (grown_low bR) (by omega)
          obtain ⟨v', W', hrun, hown', hgr, -, hat⟩ := run_append_own_at (P := Tryz.prog) R (q + 1) 23 23 25 i0 (.agg #[.int .u8 0, .string ⟨#[]⟩, .int .i64 0, .slice none 0 0]) 4 56 Tryz.underlying23 hi0 hz0 hz1 hz2 rfl (by decide) v xs.length (n1Cells xs) RWR.own ⟨w5.heap.size, 0, none⟩ 1 1 [.int .u8 yk, .string (Ln.bs yt), .int .i64 yn, .slice ya yL yc] rfl SRC (by simp [Value.oneCell']) (by unfold maxLen; omega) (by omega) (by have := bR.size; omega)
          have RWN : Rw (q + 1) W' v' (xs ++ [⟨yk, yt, yn, .slice ya yL yc, ykids⟩]) := by
            refine Rw.app RW.out (V := R) (grown_below HY5.out.2.2.1 bR) (by omega) HY5.out.1 ?_ (by omega) hown' hgr hat
            exact HY5.out.2.1.keep (fun k hk => bR.block k hk.2) (fun _ hk => ⟨hk.1, Nat.lt_of_lt_of_le hk.2 bR.size⟩)
          have BQN := box_rowed ((bR.block q (Array.getElem?_eq_some_iff.1 BQ5.out).1).trans BQ5.out) RWR.own hgr (Nat.lt_succ_self q)
          have FRN := (FR5.out.below bR).rowed RWR.own hgr (by omega)
          have PAN := (HY5.out.2.2.2.below bR).rowed RWR.own hgr
          obtain ⟨Z, hZ⟩ : ∃ Z, Z = W'.setCell ⟨q, 3, none⟩ v' := ⟨_, rfl⟩
          have gZ : W'.grownBy Z (some q) := by rw [hZ]; exact grown_set W' _ _ _
          have HZ : Hid (Frm w b Z ∧ PAt b l3 (lv) Z ∧ Z.heap[q]? = some (.cells #[.int .u8 1, .string ⟨#[]⟩, .int .i64 0, v'] 25 (0, 0)) ∧ Rw (q + 1) Z v' (xs ++ [⟨yk, yt, yn, .slice ya yL yc, ykids⟩])) :=
            ⟨FRN.set gZ hwq, PAN.beside gZ BQN, by rw [hZ]; exact heap_setCell_same W' _ 3 _ _ _ BQN, RWN.go gZ (by omega)⟩
          have vR : R.cell? ⟨q, 3, none⟩ = some v := cells_at ((bR.block q (Array.getElem?_eq_some_iff.1 BQ5.out).1).trans BQ5.out) rfl
          have vc : W'.cell? ⟨q, 3, none⟩ = some v := cells_at BQN rfl
          have vf : W'.frozen? ⟨q, 3, none⟩ = false := frozen_of_row W' _ 3 _ _ BQN
          rw [e9]
          refine hK3 _ _ trivial ?_
          obtain ⟨va', vc', hv'⟩ := slice_shape hown'
          clear hK3 SRC e9 hR bR RWR hown' hgr hat RWN BQN FRN PAN gZ
          clear vR
          refine anyC_one (i := 5) (by kernel_rfl) rfl (by rfl) (fun K4 hK4 => ?_)
          refine op_append _ _ 23 rfl _ _ _ _ rfl rfl hrun (hK4 _ _ trivial ?_)
          clear hK4 hrun
          subst hv'
          refine anyC_one (i := 6) (by kernel_rfl) rfl (by rfl) (fun K6 hK6 => ?_)
          go_simp
          refine hK6 _ _ trivial ?_
          clear hK6
          refine anyC_one (i := 7) (by kernel_rfl) rfl (by rfl) (fun K5 hK5 => ?_)
          go_simp
          rw [← hZ]
          refine hK5 _ _ trivial ?_
          clear hK5 hZ vc vf
          refine anyC_done (by kernel_rfl) ?_
          gi_wp2
          gi_roundg l3.length
          case measure => omega
          case rel =>
            refine ⟨_, xs ++ [⟨yk, yt, yn, .slice ya yL yc, ykids⟩], l3, rfl, ol5, by simp; omega, by omega, HZ.out.1, HZ.out.2.1, HZ.out.2.2.1, HZ.out.2.2.2, fun r hr => HE.out r ?_⟩
            obtain ⟨n3, hn3⟩ := hr
            exact ⟨n2 + n3 + 1, by have e0 := Ps.go_le (show n2 ≤ n2 + n3 by omega) hn2; have e1 := Ps.go_le (show n3 ≤ n2 + n3 by omega) hn3; simp at e0 e1; simp [hk5, e0, e1]⟩
        · clear v5
          go_simp
          obtain ⟨R, hR⟩ : ∃ R, R = w5.alloc (.cells #[.int .u8 yk, .string (Ln.bs yt), .int .i64 yn, .slice ya yL yc] 25) := ⟨_, rfl⟩
          have bR : Below w5.heap.size w5 R := hR ▸ below_new w5 _
          have SRC := cells_new w5 [.int .u8 yk, .string (Ln.bs yt), .int .i64 yn, .slice ya yL yc] 25
          have e9 : w5.alloc (.cells #[.int .u8 yk, .string (Ln.bs yt), .int .i64 yn, .slice ya yL yc] 25) = R := hR.symm
          rw [e9] at SRC
          have hlow := FR.out.low
          have hqlt : q < w4.drew.heap.size := (Array.getElem?_eq_some_iff.1 BQ.out).1
          have RWR : Rw (q + 1) R v xs := RW5.out.go (b := b) (grown_low bR) (by omega)
          obtain ⟨v', W', hrun, hown', hgr, -, hat⟩ := run_append_own_at (P := Tryz.prog) R (q + 1) 23 23 25 i0 (.agg #[.int .u8 0, .string ⟨#[]⟩, .int .i64 0, .slice none 0 0]) 4 56 Tryz.underlying23 hi0 hz0 hz1 hz2 rfl (by decide) v xs.length (n1Cells xs) RWR.own ⟨w5.heap.size, 0, none⟩ 1 1 [.int .u8 yk, .string (Ln.bs yt), .int .i64 yn, .slice ya yL yc] rfl SRC (by simp [Value.oneCell']) (by unfold maxLen; omega) (by omega) (by have := bR.size; omega)
          have RWN : Rw (q + 1) W' v' (xs ++ [⟨yk, yt, yn, .slice ya yL yc, ykids⟩]) := by
            refine Rw.app RW.out (V := R) (grown_below HY5.out.2.2.1 bR) (by omega) HY5.out.1 ?_ (by omega) hown' hgr hat
            exact HY5.out.2.1.keep (fun k hk => bR.block k hk.2) (fun _ hk => ⟨hk.1, Nat.lt_of_lt_of_le hk.2 bR.size⟩)
          have BQN := box_rowed ((bR.block q (Array.getElem?_eq_some_iff.1 BQ5.out).1).trans BQ5.out) RWR.own hgr (Nat.lt_succ_self q)
          have FRN := (FR5.out.below bR).rowed RWR.own hgr (by omega)
          have PAN := (HY5.out.2.2.2.below bR).rowed RWR.own hgr
          obtain ⟨Z, hZ⟩ : ∃ Z, Z = W'.setCell ⟨q, 3, none⟩ v' := ⟨_, rfl⟩
          have gZ : W'.grownBy Z (some q) := by rw [hZ]; exact grown_set W' _ _ _
          have HZ : Hid (Frm w b Z ∧ PAt b l3 (lv) Z ∧ Z.heap[q]? = some (.cells #[.int .u8 1, .string ⟨#[]⟩, .int .i64 0, v'] 25 (0, 0)) ∧ Rw (q + 1) Z v' (xs ++ [⟨yk, yt, yn, .slice ya yL yc, ykids⟩])) :=
            ⟨FRN.set gZ hwq, PAN.beside gZ BQN, by rw [hZ]; exact heap_setCell_same W' _ 3 _ _ _ BQN, RWN.go gZ (by omega)⟩
          have vR : R.cell? ⟨q, 3, none⟩ = some v := cells_at ((bR.block q (Array.getElem?_eq_some_iff.1 BQ5.out).1).trans BQ5.out) rfl
          have vc : W'.cell? ⟨q, 3, none⟩ = some v := cells_at BQN rfl
          have vf : W'.frozen? ⟨q, 3, none⟩ = false := frozen_of_row W' _ 3 _ _ BQN
          rw [e9]
          refine hK3 _ _ trivial ?_
          obtain ⟨va', vc', hv'⟩ := slice_shape hown'
          clear hK3 SRC e9 hR bR RWR hown' hgr hat RWN BQN FRN PAN gZ
          refine anyC_one (i := 1) (by kernel_rfl) rfl (by rfl) (fun K7 hK7 => ?_)
          go_simp
          refine hK7 _ _ trivial ?_
          clear hK7
          clear vR
          refine anyC_one (i := 5) (by kernel_rfl) rfl (by rfl) (fun K4 hK4 => ?_)
          refine op_append _ _ 23 rfl _ _ _ _ rfl rfl hrun (hK4 _ _ trivial ?_)
          clear hK4 hrun
          subst hv'
          refine anyC_one (i := 6) (by kernel_rfl) rfl (by rfl) (fun K6 hK6 => ?_)
          go_simp
          refine hK6 _ _ trivial ?_
          clear hK6
          refine anyC_one (i := 7) (by kernel_rfl) rfl (by rfl) (fun K5 hK5 => ?_)
          go_simp
          rw [← hZ]
          refine hK5 _ _ trivial ?_
          clear hK5 hZ vc vf
          refine anyC_done (by kernel_rfl) ?_
          gi_wp2
          gi_roundg l3.length
          case measure => omega
          case rel =>
            refine ⟨_, xs ++ [⟨yk, yt, yn, .slice ya yL yc, ykids⟩], l3, rfl, ol5, by simp; omega, by omega, HZ.out.1, HZ.out.2.1, HZ.out.2.2.1, HZ.out.2.2.2, fun r hr => HE.out r ?_⟩
            obtain ⟨n3, hn3⟩ := hr
            exact ⟨n2 + n3 + 1, by have e0 := Ps.go_le (show n2 ≤ n2 + n3 by omega) hn2; have e1 := Ps.go_le (show n3 ≤ n2 + n3 by omega) hn3; simp at e0 e1; simp [hk5, e0, e1]⟩
end Go.Proofs.YtnndgjnihhafbaaGreatDoor

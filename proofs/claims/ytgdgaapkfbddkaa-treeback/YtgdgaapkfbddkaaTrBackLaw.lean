/-
  The walk of the law TreeBack.
-/
import Derived.Test.YtgdgaapkfbddkaaTrBackMath
namespace Go.Proofs.Ytgdgaapkfbddkaa
open Go.RowKit Go.Shelf

attribute [local go_sem] Oper.semAt_some

/-- A node in a block of its own. -/
structure KBox (A : World) (b : Nat) (k : Int) (tx : List UInt8) (n : Int) (v : Value) (t : Tr) : Prop where
  at_ : A.heap[b]? = some (.cells #[.int .u8 k, .string (Ln.bs tx), .int .i64 n, v] 25 (0, 0))
  node : NodeR (lowS A.heap.size) A (.agg #[.int .u8 k, .string (Ln.bs tx), .int .i64 n, v]) t
theorem KBox.go {A W : World} {b : Nat} {k : Int} {tx : List UInt8} {n : Int} {v : Value} {t : Tr} (h : KBox A b k tx n v t) (hW : Below A.heap.size A W) : KBox W b k tx n v t :=
  ⟨(hW.block _ (Array.getElem?_eq_some_iff.1 h.at_).1).trans h.at_, h.node.at hW⟩
theorem KBox.cs {A : World} {b : Nat} {k : Int} {tx : List UInt8} {n : Int} {v : Value} {t : Tr} (h : KBox A b k tx n v t) : A.cell? ⟨b, 0, none⟩ = some (.int .u8 k) ∧ A.cell? ⟨b, 1, none⟩ = some (.string (Ln.bs tx)) ∧ A.cell? ⟨b, 2, none⟩ = some (.int .i64 n) ∧ A.cell? ⟨b, 3, none⟩ = some v :=
  ⟨cells_at h.at_ rfl, cells_at h.at_ rfl, cells_at h.at_ rfl, cells_at h.at_ rfl⟩
theorem KBox.new {A : World} {k : Int} {tx : List UInt8} {n : Int} {v : Value} {t : Tr} (h : NodeR (lowS A.heap.size) A (.agg #[.int .u8 k, .string (Ln.bs tx), .int .i64 n, v]) t) : KBox (A.alloc (.cells #[.int .u8 k, .string (Ln.bs tx), .int .i64 n, v] 25)) A.heap.size k tx n v t :=
  ⟨World.alloc_heap_new A _, h.at (below_new A _)⟩
theorem NodeR.shape {S : Nat → Prop} {w : World} {v : Value} {t : Tr} (h : NodeR S w v t) : ∃ k tx n a L c, v = .agg #[.int .u8 k, .string (Ln.bs tx), .int .i64 n, .slice a L c] := by
  obtain ⟨⟨k, tx, n, v0, kids⟩, rfl, rfl, hf, hr⟩ := h
  obtain ⟨ka, kc, e⟩ := hr.slice
  simp only at e
  subst e
  exact ⟨k, tx, n, ka, kids.length, kc, rfl⟩
theorem row_two {A : World} {b m : Nat} {c0 c1 c2 c3 d0 d1 d2 d3 : Value} {t t' : Tr} (hb : A.heap[b]? = some (.cells #[c0, c1, c2, c3, d0, d1, d2, d3] 25 (0, 0))) (h1 : NodeR (lowS m) A (.agg #[c0, c1, c2, c3]) t) (h2 : NodeR (lowS m) A (.agg #[d0, d1, d2, d3]) t') (hS : b < m) : RowR (lowS m) A (.slice (some ⟨b, 0, none⟩) 2 2) [t, t'] := by
  obtain ⟨x, e1, rfl, f1, r1⟩ := h1
  obtain ⟨y, e2, rfl, f2, r2⟩ := h2
  have e1' : x.cells = [c0, c1, c2, c3] := by
    have : #[c0, c1, c2, c3] = x.cells.toArray := by injection e1
    have := congrArg Array.toList this
    simpa using this.symm
  have e2' : y.cells = [d0, d1, d2, d3] := by
    have : #[d0, d1, d2, d3] = y.cells.toArray := by injection e2
    have := congrArg Array.toList this
    simpa using this.symm
  refine .mk [x, y] rfl ⟨_, 2, b, 0, rfl, ⟨Nat.le_refl _, fun e => by cases e⟩, fun _ => ⟨rfl, hS⟩, fun j u hu => ?_⟩ (by simp) (by simp [f1, f2]) (by simp [r1, r2])
  rw [Lib.cell_of_heap hb, Nat.zero_add, ← Array.getElem?_toList]
  simpa [n1Cells, e1', e2'] using hu
theorem getRes_some {y : Tr} {p : List Int} {x z : Tr} (h : Tr.put y p x = some z) : Tr.putRes (Tr.put y p x) = if Tr.right 40 z then (0, z) else (4, Tr.zero) := by rw [h]; rfl

set_option maxRecDepth 100000 in
set_option maxHeartbeats 16000000 in
theorem back_law (t kid : Tr) (v kv pv ov : Value) (T O : List Int) (w : World) (hv : NodeR (lowS w.heap.size) w v t) (hkv : NodeR (lowS w.heap.size) w kv kid) (hp : PathLow w.heap.size w pv T) (ho : PathLow w.heap.size w ov O) :
    Calls Try.prog 5 #[v, kv, pv, ov] w fun e w' => e = .returned (.bool true) ∧ Below w.heap.size w w' := by
  obtain ⟨xk, xt, xn, xa, xL, xc, rfl⟩ := hv.shape
  obtain ⟨yk, yt, yn, ya, yL, yc, rfl⟩ := hkv.shape
  obtain ⟨pa, pc, pb, po, rfl, hpa, -⟩ := hp.parts
  obtain ⟨oa, oc, ob, oo, rfl, hoa, -⟩ := ho.parts
  obtain ⟨NT, hNT⟩ : ∃ N, N = T.length := ⟨_, rfl⟩
  obtain ⟨NO, hNO⟩ : ∃ N, N = O.length := ⟨_, rfl⟩
  have HNT : Hid (NT = T.length) := hNT
  have HNO : Hid (NO = O.length) := hNO
  rw [← hNT] at hp hpa ⊢
  rw [← hNO] at ho hoa ⊢
  clear hNT hNO
  obtain ⟨A1, h1⟩ : ∃ A, A = w.alloc (.cells #[.int .u8 xk, .string (Ln.bs xt), .int .i64 xn, .slice xa xL xc] 25) := ⟨_, rfl⟩
  obtain ⟨X, hX⟩ : ∃ A, A = A1.alloc (.cells #[.int .u8 yk, .string (Ln.bs yt), .int .i64 yn, .slice ya yL yc] 25) := ⟨_, rfl⟩
  have b1 : Below w.heap.size w A1 := h1 ▸ below_new w _
  have b2 : Below A1.heap.size A1 X := hX ▸ below_new A1 _
  have bX : Below w.heap.size w X := below_then b1 b2
  have s1 : A1.heap.size = w.heap.size + 1 := by rw [h1, World.size_alloc]
  have KT : Hid (KBox X (w.heap.size) xk xt xn (.slice xa xL xc) t) := KBox.go (h1 ▸ KBox.new hv) b2
  have KK : Hid (KBox X (w.heap.size + 1) yk yt yn (.slice ya yL yc) kid) := by rw [← s1, hX]; exact KBox.new (hkv.at b1)
  have HP : Hid (PathLow X.heap.size X (.slice pa NT pc) T) := hp.at bX
  have HO : Hid (PathLow X.heap.size X (.slice oa NO oc) O) := ho.at bX
  have HBX : Hid (Below w.heap.size w X) := bX
  have HAW : Hid (_) := awake6_any X
  clear hv hkv hp ho b1 b2 bX s1
  refine (callsIn_wide (n := 3)).1 ?_
  refine callsIn_of_wp Try.func5 rfl trivial ?_ rfl
  simp only [Try.ntmps5, List.size_toArray, List.length_cons, List.length_nil, Nat.reduceAdd, Nat.reduceSub, Array.replicate_succ, Array.replicate_zero, List.push_toArray, List.append_toArray, List.nil_append, List.cons_append]
  gi_wp2
  rw [← h1, ← hX]
  clear h1 hX
  refine ⟨trivial, ?_⟩
  refine (callsIn_wide.2 HAW.out).mono ?_
  rintro e w1 ⟨rfl, hb1⟩
  have B1 : Hid (Below X.heap.size X w1) := hb1
  obtain ⟨x0, x1, x2, x3⟩ := (KT.out.go hb1).cs
  obtain ⟨y0, y1, y2, y3⟩ := (KK.out.go hb1).cs
  obtain ⟨V, hV⟩ : ∃ V, V = w1.alloc (.cells #[.int .u8 xk, .string (Ln.bs xt), .int .i64 xn, .slice xa xL xc, .int .u8 yk, .string (Ln.bs yt), .int .i64 yn, .slice ya yL yc] 25) := ⟨_, rfl⟩
  have bV : Below w1.heap.size w1 V := hV ▸ below_new w1 _
  have bXV : Below X.heap.size X V := below_then hb1 bV
  have hVn : V.heap[w1.heap.size]? = some (.cells #[.int .u8 xk, .string (Ln.bs xt), .int .i64 xn, .slice xa xL xc, .int .u8 yk, .string (Ln.bs yt), .int .i64 yn, .slice ya yL yc] 25 (0, 0)) := by rw [hV]; exact World.alloc_heap_new w1 _
  have rV := row_two hVn (KT.out.go bXV).node (KK.out.go bXV).node (Array.getElem?_eq_some_iff.1 hVn).1
  have HSM : Hid (_) := small_any (lowS V.heap.size) _ _ V (fun _ h => h) rV (by simp)
  have BV : Hid (Below X.heap.size X V) := bXV
  clear hb1 bV bXV hVn rV HAW
  gi_wp2
  rw [← hV]
  clear hV x0 x1 x2 x3 y0 y1 y2 y3
  refine ⟨trivial, ?_⟩
  refine (callsIn_wide.2 HSM.out).mono ?_
  rintro e w2 ⟨b, rfl, hb2, hsm⟩
  have B2 : Hid (Below X.heap.size X w2) := below_then BV.out hb2
  have HSB : Hid (_) := hsm
  clear hb2 hsm HSM BV B1
  cases b
  · gi_wp2
    go_ret
    exact ⟨rfl, below_then HBX.out B2.out⟩
  by_cases hT : NT ≤ 100
  case neg =>
    gi_wp2
    go_ret
    exact ⟨rfl, below_then HBX.out B2.out⟩
  by_cases hO : NO ≤ 100
  case neg =>
    gi_wp2
    go_ret
    exact ⟨rfl, below_then HBX.out B2.out⟩
  have hbd : Tr.sizes [t, kid] ≤ 400 ∧ ∀ s ∈ Tr.textsL [t, kid], s.length ≤ 4000 := HSB.out rfl
  have HBD : Hid (Tr.sizes [t, kid] ≤ 400 ∧ ∀ s ∈ Tr.textsL [t, kid], s.length ≤ 4000) := hbd
  have HBT : Hid (Tr.Bd [t] ∧ Tr.Bd [t, kid]) := by
    have h2 : Tr.Bd [t, kid] := ⟨by omega, fun s hs => by have := hbd.2 s hs; omega⟩
    exact ⟨h2.one List.mem_cons_self, h2⟩
  clear hbd HSB
  obtain ⟨x0, x1, x2, x3⟩ := (KT.out.go B2.out).cs
  have HG : Hid (_) := get_any t (.agg #[.int .u8 xk, .string (Ln.bs xt), .int .i64 xn, .slice xa xL xc]) _ T w2 (KT.out.go B2.out).node HBT.out.1 (HP.out.at B2.out) (by have := HNT.out; omega)
  gi_wp2
  refine ⟨trivial, ?_⟩
  refine (callsIn_wide.2 HG.out).mono ?_
  rintro e w3 ⟨hb3, r, rfl, hr3⟩
  obtain ⟨gk, gt, gn, ga, gL, gc, rfl⟩ := hr3.shape
  obtain ⟨Y, hY⟩ : ∃ Y, Y = w3.alloc (.cells #[.int .u8 gk, .string (Ln.bs gt), .int .i64 gn, .slice ga gL gc] 25) := ⟨_, rfl⟩
  have bY3 : Below w3.heap.size w3 Y := hY ▸ below_new w3 _
  have bY : Below X.heap.size X Y := below_then B2.out (below_then hb3 bY3)
  have KG : Hid (KBox Y (w3.heap.size) gk gt gn (.slice ga gL gc) ((Tr.get T t).getD Tr.zero)) := hY ▸ KBox.new hr3
  obtain ⟨og, hog⟩ : ∃ o, o = (Tr.get T t).isSome := ⟨_, rfl⟩
  have HOG : Hid (og = (Tr.get T t).isSome) := hog
  rw [← hog]
  have BY : Hid (Below X.heap.size X Y) := bY
  obtain ⟨y0, y1, y2, y3⟩ := (KK.out.go bY).cs
  obtain ⟨z0, z1, z2, z3⟩ := (KT.out.go bY).cs
  have HPU : Hid (_) := tput_any t kid (.agg #[.int .u8 xk, .string (Ln.bs xt), .int .i64 xn, .slice xa xL xc]) (.agg #[.int .u8 yk, .string (Ln.bs yt), .int .i64 yn, .slice ya yL yc]) _ T Y (KT.out.go bY).node (KK.out.go bY).node HBT.out.2 (HP.out.at bY) (by have := HNT.out; omega)
  rw [hY] at y0 y1 y2 y3 z0 z1 z2 z3
  have HY : Hid (Y = w3.alloc (.cells #[.int .u8 gk, .string (Ln.bs gt), .int .i64 gn, .slice ga gL gc] 25)) := hY
  clear hb3 hr3 HG hog bY bY3 hY x0 x1 x2 x3
  gi_wp2
  rw [← HY.out]
  clear y0 y1 y2 y3 z0 z1 z2 z3
  refine ⟨trivial, ?_⟩
  refine (callsIn_wide.2 HPU.out).mono ?_
  rintro e w4 ⟨hb4, r, rfl, hr4⟩
  obtain ⟨qk, qt, qn, qa, qL, qc, rfl⟩ := hr4.shape
  obtain ⟨Z, hZ⟩ : ∃ Y, Y = w4.alloc (.cells #[.int .u8 qk, .string (Ln.bs qt), .int .i64 qn, .slice qa qL qc] 25) := ⟨_, rfl⟩
  have bZ4 : Below w4.heap.size w4 Z := hZ ▸ below_new w4 _
  have bYZ : Below Y.heap.size Y Z := below_then hb4 bZ4
  have bZ : Below X.heap.size X Z := below_then BY.out bYZ
  have KP : Hid (KBox Z (w4.heap.size) qk qt qn (.slice qa qL qc) ((Tr.putRes (Tr.put kid T t)).2)) := hZ ▸ KBox.new hr4
  obtain ⟨ep, hep⟩ : ∃ o, o = (Tr.putRes (Tr.put kid T t)).1 := ⟨_, rfl⟩
  have HEP : Hid (ep = (Tr.putRes (Tr.put kid T t)).1) := hep
  rw [← hep]
  have BZ : Hid (Below X.heap.size X Z) := bZ
  have KG2 : Hid (KBox Z (w3.heap.size) gk gt gn (.slice ga gL gc) ((Tr.get T t).getD Tr.zero)) := KG.out.go bYZ
  have HZ : Hid (Z = w4.alloc (.cells #[.int .u8 qk, .string (Ln.bs qt), .int .i64 qn, .slice qa qL qc] 25)) := hZ
  clear hb4 hr4 HPU hep bZ bZ4 bYZ hZ KG HY
  cases og
  · have : ep = 6 := by
      have hn : Tr.get T t = none := Option.not_isSome_iff_eq_none.1 (by rw [← HOG.out]; simp)
      rw [HEP.out, Tr.put_none kid T t hn]; rfl
    subst this
    gi_wp2
    rw [← HZ.out]
    go_ret
    exact ⟨rfl, below_then HBX.out BZ.out⟩
  obtain ⟨g0, hg0⟩ : ∃ g, Tr.get T t = some g := Option.isSome_iff_exists.1 HOG.out.symm
  obtain ⟨zt, hzt, hzg⟩ := Tr.put_get kid T t g0 hg0
  have hgd : (Tr.get T t).getD Tr.zero = g0 := by rw [hg0]; rfl
  rw [hgd] at KG2
  rw [getRes_some hzt] at KP HEP
  have HPT : Hid (Tr.get T t = some g0 ∧ Tr.put kid T t = some zt ∧ Tr.get T zt = some kid) := ⟨hg0, hzt, hzg⟩
  have hs9 : t.size + kid.size ≤ 400 := by have := HBD.out.1; simpa [Tr.sizes_cons, Tr.sizes_nil] using this
  have hx9 : ∀ s, s ∈ t.texts ∨ s ∈ kid.texts → s.length ≤ 1000000 := fun s hs => by
    have := HBD.out.2 s (by simpa [Tr.textsL_cons, Tr.textsL_nil] using hs)
    omega
  have HB3 : Hid (Tr.Bd [t, g0] ∧ Tr.Bd [zt] ∧ zt.size ≤ 400 ∧ t.size ≤ 400 ∧ kid.size ≤ 400) := by
    have hg1 := Tr.get_bd T t g0 hg0
    have hp1 := Tr.put_bd kid T t zt hzt
    refine ⟨⟨?_, fun s hs => ?_⟩, ⟨?_, fun s hs => ?_⟩, by omega, by omega, by omega⟩
    · simp only [Tr.sizes_cons, Tr.sizes_nil]; omega
    · simp only [Tr.textsL_cons, Tr.textsL_nil, List.append_nil, List.mem_append] at hs
      exact hx9 s (.inl (hs.elim id (hg1.2 s)))
    · simp only [Tr.sizes_cons, Tr.sizes_nil]; omega
    · simp only [Tr.textsL_cons, Tr.textsL_nil, List.append_nil] at hs
      exact hx9 s (hp1.2 s hs)
  clear hg0 hzt hzg hgd hs9 hx9
  obtain ⟨x0, x1, x2, x3⟩ := (KT.out.go BZ.out).cs
  have HRT : Hid (_) := tright_any (lowS Z.heap.size) t (.agg #[.int .u8 xk, .string (Ln.bs xt), .int .i64 xn, .slice xa xL xc]) Z (fun _ h => h) (KT.out.go BZ.out).node
  obtain ⟨rt, hrt⟩ : ∃ r, r = Tr.right 40 t := ⟨_, rfl⟩
  have HR0 : Hid (rt = Tr.right 40 t) := hrt
  rw [← hrt] at HRT
  rw [HZ.out] at x0 x1 x2 x3
  clear hrt
  gi_wp2
  rw [← HZ.out]
  clear x0 x1 x2 x3
  refine ⟨trivial, ?_⟩
  refine (callsIn_wide.2 HRT.out).mono ?_
  rintro e w5 ⟨rfl, hb5⟩
  have B5 : Hid (Below X.heap.size X w5) := below_then BZ.out hb5
  have C5 : Hid (Below Z.heap.size Z w5) := hb5
  clear hb5 HRT HZ
  obtain ⟨rz, hrz⟩ : ∃ r, r = Tr.right 40 zt := ⟨_, rfl⟩
  have HRZ : Hid (rz = Tr.right 40 zt) := hrz
  rw [← hrz] at KP HEP
  clear hrz
  cases rt
  · cases rz
    · have : ep = 4 := HEP.out
      subst this
      gi_wp2
      go_ret
      exact ⟨rfl, below_then HBX.out B5.out⟩
    have : ep = 0 := HEP.out
    subst this
    simp only [if_true] at KP
    have KQ : Hid (KBox Z (w4.heap.size) qk qt qn (.slice qa qL qc) zt) := KP.out
    clear KP
    obtain ⟨x0, x1, x2, x3⟩ := (KQ.out.go C5.out).cs
    have HGW : Hid (_) := get_any zt (.agg #[.int .u8 qk, .string (Ln.bs qt), .int .i64 qn, .slice qa qL qc]) _ T w5 (KQ.out.go C5.out).node HB3.out.2.1 (HP.out.at B5.out) (by have := HNT.out; omega)
    unfold GetPost at HGW
    rw [HPT.out.2.2] at HGW
    simp only [Option.isSome_some, Option.getD_some] at HGW
    gi_wp2
    clear x0 x1 x2 x3
    refine ⟨trivial, ?_⟩
    refine (callsIn_wide.2 HGW.out).mono ?_
    rintro e w8 ⟨hb8, r, rfl, hr8⟩
    obtain ⟨mk, mt, mn, ma, mL, mc, rfl⟩ := hr8.shape
    obtain ⟨M, hM⟩ : ∃ Y, Y = w8.alloc (.cells #[.int .u8 mk, .string (Ln.bs mt), .int .i64 mn, .slice ma mL mc] 25) := ⟨_, rfl⟩
    have bM : Below w5.heap.size w5 M := below_then hb8 (hM ▸ below_new w8 _)
    have KM : Hid (KBox M (w8.heap.size) mk mt mn (.slice ma mL mc) kid) := hM ▸ KBox.new hr8
    have BM : Hid (Below X.heap.size X M) := below_then B5.out bM
    have CM : Hid (Below Z.heap.size Z M) := below_then C5.out bM
    have HSA : Hid (_) := tsame_any kid kid (.agg #[.int .u8 mk, .string (Ln.bs mt), .int .i64 mn, .slice ma mL mc]) (.agg #[.int .u8 yk, .string (Ln.bs yt), .int .i64 yn, .slice ya yL yc]) M KM.out.node (KK.out.go BM.out).node (by have := HB3.out.2.2.2.2; omega)
    rw [Tr.eqb_refl] at HSA
    obtain ⟨x0, x1, x2, x3⟩ := (KK.out.go BM.out).cs
    obtain ⟨y0, y1, y2, y3⟩ := KM.out.cs
    rw [hM] at x0 x1 x2 x3 y0 y1 y2 y3
    have HM : Hid (M = w8.alloc (.cells #[.int .u8 mk, .string (Ln.bs mt), .int .i64 mn, .slice ma mL mc] 25)) := hM
    clear hb8 hr8 hM bM HGW KM
    gi_wp2
    rw [← HM.out]
    clear x0 x1 x2 x3 y0 y1 y2 y3
    refine ⟨trivial, ?_⟩
    refine (callsIn_wide.2 HSA.out).mono ?_
    rintro e w9 ⟨rfl, hb9⟩
    have B9 : Hid (Below X.heap.size X w9) := below_then BM.out hb9
    have C9 : Hid (Below Z.heap.size Z w9) := below_then CM.out hb9
    have HRW : Hid (_) := tright_any (lowS w9.heap.size) zt (.agg #[.int .u8 qk, .string (Ln.bs qt), .int .i64 qn, .slice qa qL qc]) w9 (fun _ h => h) (KQ.out.go C9.out).node
    have hrz9 : Tr.right 40 zt = true := HRZ.out.symm
    rw [hrz9] at HRW
    have hrk9 : Tr.right 40 kid = true := Tr.right_put kid T t zt 40 HPT.out.2.1 hrz9
    obtain ⟨x0, x1, x2, x3⟩ := (KQ.out.go C9.out).cs
    clear hb9 HSA BM CM HM
    gi_wp2
    clear x0 x1 x2 x3
    refine ⟨trivial, ?_⟩
    refine (callsIn_wide.2 HRW.out).mono ?_
    rintro e w10 ⟨rfl, hb10⟩
    have B10 : Hid (Below X.heap.size X w10) := below_then B9.out hb10
    have C10 : Hid (Below Z.heap.size Z w10) := below_then C9.out hb10
    have HRK : Hid (_) := tright_any (lowS w10.heap.size) kid (.agg #[.int .u8 yk, .string (Ln.bs yt), .int .i64 yn, .slice ya yL yc]) w10 (fun _ h => h) (KK.out.go B10.out).node
    rw [hrk9] at HRK
    obtain ⟨x0, x1, x2, x3⟩ := (KK.out.go B10.out).cs
    clear hb10 HRW hrk9 hrz9 B9 C9
    gi_wp2
    clear x0 x1 x2 x3
    refine ⟨trivial, ?_⟩
    refine (callsIn_wide.2 HRK.out).mono ?_
    rintro e w11 ⟨rfl, hb11⟩
    have B11 : Hid (Below X.heap.size X w11) := below_then B10.out hb11
    have C11 : Hid (Below Z.heap.size Z w11) := below_then C10.out hb11
    clear hb11 HRK B10 C10
    gi_wp2
    gi_loopw [17, 18] (fun fv iv wr => ∃ (i : Nat) (ap : Bool), i ≤ NT ∧ fv = .bool ap ∧ iv = .int .i64 i ∧ (ap || Tr.part (T.drop i) (O.drop i)) = Tr.part T O ∧ Below w11.heap.size w11 wr) (fun _ iv _ => NT - (intOf iv).toNat)
    case atStart => exact ⟨0, false, Nat.zero_le _, rfl, rfl, by simp, Below.refl _ _⟩
    case round =>
      obtain ⟨i, ap, hi, rfl, rfl, hpt, hbr⟩ := hrel
      have BR : Hid (Below X.heap.size X wr) := below_then B11.out hbr
      have CR : Hid (Below Z.heap.size Z wr) := below_then C11.out hbr
      by_cases hend : i < NT ∧ i < NO ∧ ap = false
      · obtain ⟨hi1, hi2, rfl⟩ := hend
        obtain ⟨pa', pc', pb', po', hpe, hpa', hpx⟩ := (HP.out.at BR.out).parts
        obtain ⟨oa', oc', ob', oo', hoe, hoa', hox⟩ := (HO.out.at BR.out).parts
        have e1 : pa = pa' := by injection hpe
        have e2 : oa = oa' := by injection hoe
        obtain ⟨rfl, hpb⟩ := hpa' (by have := HNT.out; omega)
        obtain ⟨rfl, hob⟩ := hoa' (by have := HNO.out; omega)
        subst e1
        subst e2
        obtain ⟨a9, ha9⟩ : ∃ a, T[i]? = some a := ⟨T[i]'(by have := HNT.out; omega), List.getElem?_eq_getElem _⟩
        obtain ⟨b9, hb9⟩ : ∃ a, O[i]? = some a := ⟨O[i]'(by have := HNO.out; omega), List.getElem?_eq_getElem _⟩
        have ca := hpx i a9 ha9
        have cb := hox i b9 hb9
        have hpt' : ((a9 != b9) || Tr.part (T.drop (i + 1)) (O.drop (i + 1))) = Tr.part T O := by
          rw [← hpt, Tr.part_drop ha9 hb9, Bool.false_or]
        obtain ⟨ne9, hne⟩ : ∃ q, q = (a9 != b9) := ⟨_, rfl⟩
        have hne' : (a9 != b9) = ne9 := hne.symm
        rw [← hne] at hpt'
        have HPT' : Hid (_) := hpt'
        have HBR : Hid (Below w11.heap.size w11 wr) := hbr
        clear hpx hox hpe hoe hpa' hoa' ha9 hb9 hpt hpt' hne hbr hpa hoa
        gi_wp2
        refine region_lex (fun z => z.cell? ⟨pb', po' + i, none⟩ = some (.int .i64 a9) ∧ z.cell? ⟨ob', oo' + i, none⟩ = some (.int .i64 b9)) 10 0 rfl (by kernel_rfl) (by kernel_rfl) (by kernel_rfl) (by kernel_rfl) (fun _ _ d _ _ h => by cases d <;> exact h) ⟨ca, cb⟩ ?_
        simp only [List.take_succ_cons, List.take_zero]
        iterate 10 (first
          | (apply lexC_want
             · rfl
             · exact fun _ => rfl
             · (intro w' hw'; obtain ⟨a0, a1⟩ := hw'; go_simp; try rfl)
             simp only [Act.put, List.setIfInBounds_toArray, List.set_cons_zero, List.set_cons_succ]))
        refine lexC_nil ?_
        refine anyC_done (by kernel_rfl) ?_
        gi_wp2
        refine ⟨⟨i + 1, ne9, by omega, by first | rfl | simp [hne'], by simp, HPT'.out, below_then HBR.out (below_draw wr 1)⟩, by simp [intOf]; omega⟩
      · have hfin : ap = Tr.part T O := by
          cases ap
          · rw [← hpt, Tr.part_end (by have := HNT.out; have := HNO.out; intro h; exact hend ⟨by omega, by omega, rfl⟩)]; rfl
          · simpa using hpt
        have HAP : Hid (ap = Tr.part T O) := hfin
        clear hfin hpt hbr hpa hoa
        by_cases hi1 : i < NT
        · by_cases hi2 : i < NO
          · have : ap = true := by cases ap <;> simp_all
            subst this
            clear hend
            obtain ⟨x0, x1, x2, x3⟩ := (KT.out.go BR.out).cs
            have HG1 : Hid (_) := get_any t (.agg #[.int .u8 xk, .string (Ln.bs xt), .int .i64 xn, .slice xa xL xc]) _ O wr (KT.out.go BR.out).node HBT.out.1 (HO.out.at BR.out) (by have := HNO.out; omega)
            gi_wp2
            clear x0 x1 x2 x3
            refine ⟨trivial, ?_⟩
            refine (callsIn_wide.2 HG1.out).mono ?_
            rintro e w12 ⟨hb12, r, rfl, hr12⟩
            obtain ⟨fk, ft, fn, fa, fL, fc, rfl⟩ := hr12.shape
            obtain ⟨F, hF⟩ : ∃ Y, Y = w12.alloc (.cells #[.int .u8 fk, .string (Ln.bs ft), .int .i64 fn, .slice fa fL fc] 25) := ⟨_, rfl⟩
            have bF : Below wr.heap.size wr F := below_then hb12 (hF ▸ below_new w12 _)
            have KF : Hid (KBox F (w12.heap.size) fk ft fn (.slice fa fL fc) ((Tr.get O t).getD Tr.zero)) := hF ▸ KBox.new hr12
            have BF : Hid (Below X.heap.size X F) := below_then BR.out bF
            have CF : Hid (Below Z.heap.size Z F) := below_then CR.out bF
            have HG2 : Hid (_) := get_any zt (.agg #[.int .u8 qk, .string (Ln.bs qt), .int .i64 qn, .slice qa qL qc]) _ O F (KQ.out.go CF.out).node HB3.out.2.1 (HO.out.at BF.out) (by have := HNO.out; omega)
            obtain ⟨x0, x1, x2, x3⟩ := (KQ.out.go CF.out).cs
            rw [hF] at x0 x1 x2 x3
            have HF : Hid (F = w12.alloc (.cells #[.int .u8 fk, .string (Ln.bs ft), .int .i64 fn, .slice fa fL fc] 25)) := hF
            have ePT : Tr.get O zt = Tr.get O t := Tr.part_get kid T O t zt HPT.out.2.1 HAP.out.symm
            rw [ePT] at HG2
            clear ePT
            obtain ⟨of, hof⟩ : ∃ o, o = (Tr.get O t).isSome := ⟨_, rfl⟩
            rw [← hof]
            clear hb12 hr12 hF bF HG1
            gi_wp2
            rw [← HF.out]
            clear x0 x1 x2 x3
            refine ⟨trivial, ?_⟩
            refine (callsIn_wide.2 HG2.out).mono ?_
            rintro e w13 ⟨hb13, r, rfl, hr13⟩
            obtain ⟨hk, ht, hn, ha, hL, hc, rfl⟩ := hr13.shape
            rw [← hof]
            obtain ⟨J, hJ⟩ : ∃ Y, Y = w13.alloc (.cells #[.int .u8 hk, .string (Ln.bs ht), .int .i64 hn, .slice ha hL hc] 25) := ⟨_, rfl⟩
            have bJ : Below F.heap.size F J := below_then hb13 (hJ ▸ below_new w13 _)
            have KH : Hid (KBox J (w13.heap.size) hk ht hn (.slice ha hL hc) ((Tr.get O t).getD Tr.zero)) := hJ ▸ KBox.new hr13
            have hsz9 : ((Tr.get O t).getD Tr.zero).size ≤ 400000 := by
              cases hgo : Tr.get O t with
              | none => simp [Tr.zero, Tr.size, Tr.sizes]
              | some g9 => have := (Tr.get_bd O t g9 hgo).1; have := HB3.out.2.2.2.1; simp only [Option.getD_some]; omega
            have HSA : Hid (_) := tsame_any ((Tr.get O t).getD Tr.zero) ((Tr.get O t).getD Tr.zero) (.agg #[.int .u8 fk, .string (Ln.bs ft), .int .i64 fn, .slice fa fL fc]) (.agg #[.int .u8 hk, .string (Ln.bs ht), .int .i64 hn, .slice ha hL hc]) J (KF.out.go bJ).node KH.out.node hsz9
            rw [Tr.eqb_refl] at HSA
            obtain ⟨x0, x1, x2, x3⟩ := (KF.out.go bJ).cs
            obtain ⟨y0, y1, y2, y3⟩ := KH.out.cs
            rw [hJ] at x0 x1 x2 x3 y0 y1 y2 y3
            have HJ : Hid (J = w13.alloc (.cells #[.int .u8 hk, .string (Ln.bs ht), .int .i64 hn, .slice ha hL hc] 25)) := hJ
            have BJ : Hid (Below X.heap.size X J) := below_then BF.out bJ
            clear hb13 hr13 hJ bJ HG2 KF KH hsz9 hof
            cases of
            · gi_wp2
              rw [← HJ.out]
              refine ⟨trivial, ?_⟩
              refine (callsIn_wide.2 HSA.out).mono ?_
              rintro e w14 ⟨rfl, hb14⟩
              have B14 : Hid (Below w.heap.size w w14) := below_then HBX.out (below_then BJ.out hb14)
              clear hb14 HSA x0 x1 x2 x3 y0 y1 y2 y3
              gi_wp2
              go_ret
              exact ⟨rfl, B14.out⟩
            · gi_wp2
              rw [← HJ.out]
              refine ⟨trivial, ?_⟩
              refine (callsIn_wide.2 HSA.out).mono ?_
              rintro e w14 ⟨rfl, hb14⟩
              have B14 : Hid (Below w.heap.size w w14) := below_then HBX.out (below_then BJ.out hb14)
              clear hb14 HSA x0 x1 x2 x3 y0 y1 y2 y3
              gi_wp2
              go_ret
              exact ⟨rfl, B14.out⟩
          · cases ap
            · clear hend
              obtain ⟨x0, x1, x2, x3⟩ := (KT.out.go BR.out).cs
              have HG1 : Hid (_) := get_any t (.agg #[.int .u8 xk, .string (Ln.bs xt), .int .i64 xn, .slice xa xL xc]) _ O wr (KT.out.go BR.out).node HBT.out.1 (HO.out.at BR.out) (by have := HNO.out; omega)
              gi_wp2
              clear x0 x1 x2 x3
              refine ⟨trivial, ?_⟩
              refine (callsIn_wide.2 HG1.out).mono ?_
              rintro e w12 ⟨hb12, r, rfl, hr12⟩
              obtain ⟨fk, ft, fn, fa, fL, fc, rfl⟩ := hr12.shape
              obtain ⟨F, hF⟩ : ∃ Y, Y = w12.alloc (.cells #[.int .u8 fk, .string (Ln.bs ft), .int .i64 fn, .slice fa fL fc] 25) := ⟨_, rfl⟩
              have bF : Below wr.heap.size wr F := below_then hb12 (hF ▸ below_new w12 _)
              have KF : Hid (KBox F (w12.heap.size) fk ft fn (.slice fa fL fc) ((Tr.get O t).getD Tr.zero)) := hF ▸ KBox.new hr12
              have BF : Hid (Below X.heap.size X F) := below_then BR.out bF
              have CF : Hid (Below Z.heap.size Z F) := below_then CR.out bF
              have HG2 : Hid (_) := get_any zt (.agg #[.int .u8 qk, .string (Ln.bs qt), .int .i64 qn, .slice qa qL qc]) _ O F (KQ.out.go CF.out).node HB3.out.2.1 (HO.out.at BF.out) (by have := HNO.out; omega)
              obtain ⟨x0, x1, x2, x3⟩ := (KQ.out.go CF.out).cs
              rw [hF] at x0 x1 x2 x3
              have HF : Hid (F = w12.alloc (.cells #[.int .u8 fk, .string (Ln.bs ft), .int .i64 fn, .slice fa fL fc] 25)) := hF
              obtain ⟨of, hof⟩ : ∃ o, o = (Tr.get O t).isSome := ⟨_, rfl⟩
              rw [← hof]
              clear hb12 hr12 hF bF HG1
              gi_wp2
              rw [← HF.out]
              clear x0 x1 x2 x3
              refine ⟨trivial, ?_⟩
              refine (callsIn_wide.2 HG2.out).mono ?_
              rintro e w13 ⟨hb13, r, rfl, hr13⟩
              obtain ⟨hk, ht, hn, ha, hL, hc, rfl⟩ := hr13.shape
              obtain ⟨oh, hoh⟩ : ∃ o, o = (Tr.get O zt).isSome := ⟨_, rfl⟩
              rw [← hoh]
              have B14 : Hid (Below w.heap.size w (w13.alloc (.cells #[.int .u8 hk, .string (Ln.bs ht), .int .i64 hn, .slice ha hL hc] 25))) := below_then HBX.out (below_then BF.out (below_then hb13 (below_new w13 _)))
              clear hb13 hr13 HG2 hoh hof
              gi_wp2
              case h_1.isTrue => rename_i hh _; cases hh
              case h_1.isFalse => rename_i hh _; cases hh
              refine ⟨trivial, ?_⟩
              gi_wp2
              go_ret
              exact ⟨rfl, B14.out⟩
            · clear hend
              obtain ⟨x0, x1, x2, x3⟩ := (KT.out.go BR.out).cs
              have HG1 : Hid (_) := get_any t (.agg #[.int .u8 xk, .string (Ln.bs xt), .int .i64 xn, .slice xa xL xc]) _ O wr (KT.out.go BR.out).node HBT.out.1 (HO.out.at BR.out) (by have := HNO.out; omega)
              gi_wp2
              clear x0 x1 x2 x3
              refine ⟨trivial, ?_⟩
              refine (callsIn_wide.2 HG1.out).mono ?_
              rintro e w12 ⟨hb12, r, rfl, hr12⟩
              obtain ⟨fk, ft, fn, fa, fL, fc, rfl⟩ := hr12.shape
              obtain ⟨F, hF⟩ : ∃ Y, Y = w12.alloc (.cells #[.int .u8 fk, .string (Ln.bs ft), .int .i64 fn, .slice fa fL fc] 25) := ⟨_, rfl⟩
              have bF : Below wr.heap.size wr F := below_then hb12 (hF ▸ below_new w12 _)
              have KF : Hid (KBox F (w12.heap.size) fk ft fn (.slice fa fL fc) ((Tr.get O t).getD Tr.zero)) := hF ▸ KBox.new hr12
              have BF : Hid (Below X.heap.size X F) := below_then BR.out bF
              have CF : Hid (Below Z.heap.size Z F) := below_then CR.out bF
              have HG2 : Hid (_) := get_any zt (.agg #[.int .u8 qk, .string (Ln.bs qt), .int .i64 qn, .slice qa qL qc]) _ O F (KQ.out.go CF.out).node HB3.out.2.1 (HO.out.at BF.out) (by have := HNO.out; omega)
              obtain ⟨x0, x1, x2, x3⟩ := (KQ.out.go CF.out).cs
              rw [hF] at x0 x1 x2 x3
              have HF : Hid (F = w12.alloc (.cells #[.int .u8 fk, .string (Ln.bs ft), .int .i64 fn, .slice fa fL fc] 25)) := hF
              have ePT : Tr.get O zt = Tr.get O t := Tr.part_get kid T O t zt HPT.out.2.1 HAP.out.symm
              rw [ePT] at HG2
              clear ePT
              obtain ⟨of, hof⟩ : ∃ o, o = (Tr.get O t).isSome := ⟨_, rfl⟩
              rw [← hof]
              clear hb12 hr12 hF bF HG1
              gi_wp2
              rw [← HF.out]
              clear x0 x1 x2 x3
              refine ⟨trivial, ?_⟩
              refine (callsIn_wide.2 HG2.out).mono ?_
              rintro e w13 ⟨hb13, r, rfl, hr13⟩
              obtain ⟨hk, ht, hn, ha, hL, hc, rfl⟩ := hr13.shape
              rw [← hof]
              obtain ⟨J, hJ⟩ : ∃ Y, Y = w13.alloc (.cells #[.int .u8 hk, .string (Ln.bs ht), .int .i64 hn, .slice ha hL hc] 25) := ⟨_, rfl⟩
              have bJ : Below F.heap.size F J := below_then hb13 (hJ ▸ below_new w13 _)
              have KH : Hid (KBox J (w13.heap.size) hk ht hn (.slice ha hL hc) ((Tr.get O t).getD Tr.zero)) := hJ ▸ KBox.new hr13
              have hsz9 : ((Tr.get O t).getD Tr.zero).size ≤ 400000 := by
                cases hgo : Tr.get O t with
                | none => simp [Tr.zero, Tr.size, Tr.sizes]
                | some g9 => have := (Tr.get_bd O t g9 hgo).1; have := HB3.out.2.2.2.1; simp only [Option.getD_some]; omega
              have HSA : Hid (_) := tsame_any ((Tr.get O t).getD Tr.zero) ((Tr.get O t).getD Tr.zero) (.agg #[.int .u8 fk, .string (Ln.bs ft), .int .i64 fn, .slice fa fL fc]) (.agg #[.int .u8 hk, .string (Ln.bs ht), .int .i64 hn, .slice ha hL hc]) J (KF.out.go bJ).node KH.out.node hsz9
              rw [Tr.eqb_refl] at HSA
              obtain ⟨x0, x1, x2, x3⟩ := (KF.out.go bJ).cs
              obtain ⟨y0, y1, y2, y3⟩ := KH.out.cs
              rw [hJ] at x0 x1 x2 x3 y0 y1 y2 y3
              have HJ : Hid (J = w13.alloc (.cells #[.int .u8 hk, .string (Ln.bs ht), .int .i64 hn, .slice ha hL hc] 25)) := hJ
              have BJ : Hid (Below X.heap.size X J) := below_then BF.out bJ
              clear hb13 hr13 hJ bJ HG2 KF KH hsz9 hof
              cases of
              · gi_wp2
                rw [← HJ.out]
                refine ⟨trivial, ?_⟩
                refine (callsIn_wide.2 HSA.out).mono ?_
                rintro e w14 ⟨rfl, hb14⟩
                have B14 : Hid (Below w.heap.size w w14) := below_then HBX.out (below_then BJ.out hb14)
                clear hb14 HSA x0 x1 x2 x3 y0 y1 y2 y3
                gi_wp2
                go_ret
                exact ⟨rfl, B14.out⟩
              · gi_wp2
                rw [← HJ.out]
                refine ⟨trivial, ?_⟩
                refine (callsIn_wide.2 HSA.out).mono ?_
                rintro e w14 ⟨rfl, hb14⟩
                have B14 : Hid (Below w.heap.size w w14) := below_then HBX.out (below_then BJ.out hb14)
                clear hb14 HSA x0 x1 x2 x3 y0 y1 y2 y3
                gi_wp2
                go_ret
                exact ⟨rfl, B14.out⟩
        · cases ap
          · clear hend
            obtain ⟨x0, x1, x2, x3⟩ := (KT.out.go BR.out).cs
            have HG1 : Hid (_) := get_any t (.agg #[.int .u8 xk, .string (Ln.bs xt), .int .i64 xn, .slice xa xL xc]) _ O wr (KT.out.go BR.out).node HBT.out.1 (HO.out.at BR.out) (by have := HNO.out; omega)
            gi_wp2
            clear x0 x1 x2 x3
            refine ⟨trivial, ?_⟩
            refine (callsIn_wide.2 HG1.out).mono ?_
            rintro e w12 ⟨hb12, r, rfl, hr12⟩
            obtain ⟨fk, ft, fn, fa, fL, fc, rfl⟩ := hr12.shape
            obtain ⟨F, hF⟩ : ∃ Y, Y = w12.alloc (.cells #[.int .u8 fk, .string (Ln.bs ft), .int .i64 fn, .slice fa fL fc] 25) := ⟨_, rfl⟩
            have bF : Below wr.heap.size wr F := below_then hb12 (hF ▸ below_new w12 _)
            have KF : Hid (KBox F (w12.heap.size) fk ft fn (.slice fa fL fc) ((Tr.get O t).getD Tr.zero)) := hF ▸ KBox.new hr12
            have BF : Hid (Below X.heap.size X F) := below_then BR.out bF
            have CF : Hid (Below Z.heap.size Z F) := below_then CR.out bF
            have HG2 : Hid (_) := get_any zt (.agg #[.int .u8 qk, .string (Ln.bs qt), .int .i64 qn, .slice qa qL qc]) _ O F (KQ.out.go CF.out).node HB3.out.2.1 (HO.out.at BF.out) (by have := HNO.out; omega)
            obtain ⟨x0, x1, x2, x3⟩ := (KQ.out.go CF.out).cs
            rw [hF] at x0 x1 x2 x3
            have HF : Hid (F = w12.alloc (.cells #[.int .u8 fk, .string (Ln.bs ft), .int .i64 fn, .slice fa fL fc] 25)) := hF
            obtain ⟨of, hof⟩ : ∃ o, o = (Tr.get O t).isSome := ⟨_, rfl⟩
            rw [← hof]
            clear hb12 hr12 hF bF HG1
            gi_wp2
            rw [← HF.out]
            clear x0 x1 x2 x3
            refine ⟨trivial, ?_⟩
            refine (callsIn_wide.2 HG2.out).mono ?_
            rintro e w13 ⟨hb13, r, rfl, hr13⟩
            obtain ⟨hk, ht, hn, ha, hL, hc, rfl⟩ := hr13.shape
            obtain ⟨oh, hoh⟩ : ∃ o, o = (Tr.get O zt).isSome := ⟨_, rfl⟩
            rw [← hoh]
            have B14 : Hid (Below w.heap.size w (w13.alloc (.cells #[.int .u8 hk, .string (Ln.bs ht), .int .i64 hn, .slice ha hL hc] 25))) := below_then HBX.out (below_then BF.out (below_then hb13 (below_new w13 _)))
            clear hb13 hr13 HG2 hoh hof
            gi_wp2
            case h_1.isTrue => rename_i hh _; cases hh
            case h_1.isFalse => rename_i hh _; cases hh
            refine ⟨trivial, ?_⟩
            gi_wp2
            go_ret
            exact ⟨rfl, B14.out⟩
          · clear hend
            obtain ⟨x0, x1, x2, x3⟩ := (KT.out.go BR.out).cs
            have HG1 : Hid (_) := get_any t (.agg #[.int .u8 xk, .string (Ln.bs xt), .int .i64 xn, .slice xa xL xc]) _ O wr (KT.out.go BR.out).node HBT.out.1 (HO.out.at BR.out) (by have := HNO.out; omega)
            gi_wp2
            clear x0 x1 x2 x3
            refine ⟨trivial, ?_⟩
            refine (callsIn_wide.2 HG1.out).mono ?_
            rintro e w12 ⟨hb12, r, rfl, hr12⟩
            obtain ⟨fk, ft, fn, fa, fL, fc, rfl⟩ := hr12.shape
            obtain ⟨F, hF⟩ : ∃ Y, Y = w12.alloc (.cells #[.int .u8 fk, .string (Ln.bs ft), .int .i64 fn, .slice fa fL fc] 25) := ⟨_, rfl⟩
            have bF : Below wr.heap.size wr F := below_then hb12 (hF ▸ below_new w12 _)
            have KF : Hid (KBox F (w12.heap.size) fk ft fn (.slice fa fL fc) ((Tr.get O t).getD Tr.zero)) := hF ▸ KBox.new hr12
            have BF : Hid (Below X.heap.size X F) := below_then BR.out bF
            have CF : Hid (Below Z.heap.size Z F) := below_then CR.out bF
            have HG2 : Hid (_) := get_any zt (.agg #[.int .u8 qk, .string (Ln.bs qt), .int .i64 qn, .slice qa qL qc]) _ O F (KQ.out.go CF.out).node HB3.out.2.1 (HO.out.at BF.out) (by have := HNO.out; omega)
            obtain ⟨x0, x1, x2, x3⟩ := (KQ.out.go CF.out).cs
            rw [hF] at x0 x1 x2 x3
            have HF : Hid (F = w12.alloc (.cells #[.int .u8 fk, .string (Ln.bs ft), .int .i64 fn, .slice fa fL fc] 25)) := hF
            have ePT : Tr.get O zt = Tr.get O t := Tr.part_get kid T O t zt HPT.out.2.1 HAP.out.symm
            rw [ePT] at HG2
            clear ePT
            obtain ⟨of, hof⟩ : ∃ o, o = (Tr.get O t).isSome := ⟨_, rfl⟩
            rw [← hof]
            clear hb12 hr12 hF bF HG1
            gi_wp2
            rw [← HF.out]
            clear x0 x1 x2 x3
            refine ⟨trivial, ?_⟩
            refine (callsIn_wide.2 HG2.out).mono ?_
            rintro e w13 ⟨hb13, r, rfl, hr13⟩
            obtain ⟨hk, ht, hn, ha, hL, hc, rfl⟩ := hr13.shape
            rw [← hof]
            obtain ⟨J, hJ⟩ : ∃ Y, Y = w13.alloc (.cells #[.int .u8 hk, .string (Ln.bs ht), .int .i64 hn, .slice ha hL hc] 25) := ⟨_, rfl⟩
            have bJ : Below F.heap.size F J := below_then hb13 (hJ ▸ below_new w13 _)
            have KH : Hid (KBox J (w13.heap.size) hk ht hn (.slice ha hL hc) ((Tr.get O t).getD Tr.zero)) := hJ ▸ KBox.new hr13
            have hsz9 : ((Tr.get O t).getD Tr.zero).size ≤ 400000 := by
              cases hgo : Tr.get O t with
              | none => simp [Tr.zero, Tr.size, Tr.sizes]
              | some g9 => have := (Tr.get_bd O t g9 hgo).1; have := HB3.out.2.2.2.1; simp only [Option.getD_some]; omega
            have HSA : Hid (_) := tsame_any ((Tr.get O t).getD Tr.zero) ((Tr.get O t).getD Tr.zero) (.agg #[.int .u8 fk, .string (Ln.bs ft), .int .i64 fn, .slice fa fL fc]) (.agg #[.int .u8 hk, .string (Ln.bs ht), .int .i64 hn, .slice ha hL hc]) J (KF.out.go bJ).node KH.out.node hsz9
            rw [Tr.eqb_refl] at HSA
            obtain ⟨x0, x1, x2, x3⟩ := (KF.out.go bJ).cs
            obtain ⟨y0, y1, y2, y3⟩ := KH.out.cs
            rw [hJ] at x0 x1 x2 x3 y0 y1 y2 y3
            have HJ : Hid (J = w13.alloc (.cells #[.int .u8 hk, .string (Ln.bs ht), .int .i64 hn, .slice ha hL hc] 25)) := hJ
            have BJ : Hid (Below X.heap.size X J) := below_then BF.out bJ
            clear hb13 hr13 hJ bJ HG2 KF KH hsz9 hof
            cases of
            · gi_wp2
              rw [← HJ.out]
              refine ⟨trivial, ?_⟩
              refine (callsIn_wide.2 HSA.out).mono ?_
              rintro e w14 ⟨rfl, hb14⟩
              have B14 : Hid (Below w.heap.size w w14) := below_then HBX.out (below_then BJ.out hb14)
              clear hb14 HSA x0 x1 x2 x3 y0 y1 y2 y3
              gi_wp2
              go_ret
              exact ⟨rfl, B14.out⟩
            · gi_wp2
              rw [← HJ.out]
              refine ⟨trivial, ?_⟩
              refine (callsIn_wide.2 HSA.out).mono ?_
              rintro e w14 ⟨rfl, hb14⟩
              have B14 : Hid (Below w.heap.size w w14) := below_then HBX.out (below_then BJ.out hb14)
              clear hb14 HSA x0 x1 x2 x3 y0 y1 y2 y3
              gi_wp2
              go_ret
              exact ⟨rfl, B14.out⟩
  · obtain ⟨x0, x1, x2, x3⟩ := (KT.out.go B5.out).cs
    obtain ⟨y0, y1, y2, y3⟩ := (KG2.out.go C5.out).cs
    have HPA : Hid (_) := tput_any t g0 (.agg #[.int .u8 xk, .string (Ln.bs xt), .int .i64 xn, .slice xa xL xc]) (.agg #[.int .u8 gk, .string (Ln.bs gt), .int .i64 gn, .slice ga gL gc]) _ T w5 (KT.out.go B5.out).node (KG2.out.go C5.out).node HB3.out.1 (HP.out.at B5.out) (by have := HNT.out; omega)
    have eP : Tr.putRes (Tr.put g0 T t) = (0, t) := by
      have : Tr.right 40 t = true := HR0.out.symm
      rw [getRes_some (Tr.put_self T t g0 HPT.out.1), this]; rfl
    unfold PutPost at HPA
    rw [eP] at HPA
    clear eP
    gi_wp2
    clear x0 x1 x2 x3 y0 y1 y2 y3
    refine ⟨trivial, ?_⟩
    refine (callsIn_wide.2 HPA.out).mono ?_
    rintro e w6 ⟨hb6, r, rfl, hr6⟩
    obtain ⟨jk, jt, jn, ja, jL, jc, rfl⟩ := hr6.shape
    obtain ⟨U, hU⟩ : ∃ Y, Y = w6.alloc (.cells #[.int .u8 jk, .string (Ln.bs jt), .int .i64 jn, .slice ja jL jc] 25) := ⟨_, rfl⟩
    have bU : Below w5.heap.size w5 U := below_then hb6 (hU ▸ below_new w6 _)
    have KA : Hid (KBox U (w6.heap.size) jk jt jn (.slice ja jL jc) t) := hU ▸ KBox.new hr6
    have bXU : Below X.heap.size X U := below_then B5.out bU
    have HSA : Hid (_) := tsame_any t t (.agg #[.int .u8 jk, .string (Ln.bs jt), .int .i64 jn, .slice ja jL jc]) (.agg #[.int .u8 xk, .string (Ln.bs xt), .int .i64 xn, .slice xa xL xc]) U KA.out.node (KT.out.go bXU).node (by have := HB3.out.2.2.2.1; omega)
    rw [Tr.eqb_refl] at HSA
    obtain ⟨x0, x1, x2, x3⟩ := (KT.out.go bXU).cs
    obtain ⟨y0, y1, y2, y3⟩ := KA.out.cs
    rw [hU] at x0 x1 x2 x3 y0 y1 y2 y3
    have HU : Hid (U = w6.alloc (.cells #[.int .u8 jk, .string (Ln.bs jt), .int .i64 jn, .slice ja jL jc] 25)) := hU
    have BU : Hid (Below X.heap.size X U ∧ Below Z.heap.size Z U) := ⟨bXU, below_then C5.out bU⟩
    clear hb6 hr6 hU bU bXU HPA KA
    gi_wp2
    rw [← HU.out]
    clear x0 x1 x2 x3 y0 y1 y2 y3
    refine ⟨trivial, ?_⟩
    refine (callsIn_wide.2 HSA.out).mono ?_
    rintro e w7 ⟨rfl, hb7⟩
    have B7 : Hid (Below X.heap.size X w7) := below_then BU.out.1 hb7
    have C7 : Hid (Below Z.heap.size Z w7) := below_then BU.out.2 hb7
    clear hb7 HSA BU HU B5 C5
    cases rz
    · have : ep = 4 := HEP.out
      subst this
      gi_wp2
      go_ret
      exact ⟨rfl, below_then HBX.out B7.out⟩
    have : ep = 0 := HEP.out
    subst this
    simp only [if_true] at KP
    have KQ : Hid (KBox Z (w4.heap.size) qk qt qn (.slice qa qL qc) zt) := KP.out
    clear KP
    obtain ⟨x0, x1, x2, x3⟩ := (KQ.out.go C7.out).cs
    have HGW : Hid (_) := get_any zt (.agg #[.int .u8 qk, .string (Ln.bs qt), .int .i64 qn, .slice qa qL qc]) _ T w7 (KQ.out.go C7.out).node HB3.out.2.1 (HP.out.at B7.out) (by have := HNT.out; omega)
    unfold GetPost at HGW
    rw [HPT.out.2.2] at HGW
    simp only [Option.isSome_some, Option.getD_some] at HGW
    gi_wp2
    clear x0 x1 x2 x3
    refine ⟨trivial, ?_⟩
    refine (callsIn_wide.2 HGW.out).mono ?_
    rintro e w8 ⟨hb8, r, rfl, hr8⟩
    obtain ⟨mk, mt, mn, ma, mL, mc, rfl⟩ := hr8.shape
    obtain ⟨M, hM⟩ : ∃ Y, Y = w8.alloc (.cells #[.int .u8 mk, .string (Ln.bs mt), .int .i64 mn, .slice ma mL mc] 25) := ⟨_, rfl⟩
    have bM : Below w7.heap.size w7 M := below_then hb8 (hM ▸ below_new w8 _)
    have KM : Hid (KBox M (w8.heap.size) mk mt mn (.slice ma mL mc) kid) := hM ▸ KBox.new hr8
    have BM : Hid (Below X.heap.size X M) := below_then B7.out bM
    have CM : Hid (Below Z.heap.size Z M) := below_then C7.out bM
    have HSA : Hid (_) := tsame_any kid kid (.agg #[.int .u8 mk, .string (Ln.bs mt), .int .i64 mn, .slice ma mL mc]) (.agg #[.int .u8 yk, .string (Ln.bs yt), .int .i64 yn, .slice ya yL yc]) M KM.out.node (KK.out.go BM.out).node (by have := HB3.out.2.2.2.2; omega)
    rw [Tr.eqb_refl] at HSA
    obtain ⟨x0, x1, x2, x3⟩ := (KK.out.go BM.out).cs
    obtain ⟨y0, y1, y2, y3⟩ := KM.out.cs
    rw [hM] at x0 x1 x2 x3 y0 y1 y2 y3
    have HM : Hid (M = w8.alloc (.cells #[.int .u8 mk, .string (Ln.bs mt), .int .i64 mn, .slice ma mL mc] 25)) := hM
    clear hb8 hr8 hM bM HGW KM
    gi_wp2
    rw [← HM.out]
    clear x0 x1 x2 x3 y0 y1 y2 y3
    refine ⟨trivial, ?_⟩
    refine (callsIn_wide.2 HSA.out).mono ?_
    rintro e w9 ⟨rfl, hb9⟩
    have B9 : Hid (Below X.heap.size X w9) := below_then BM.out hb9
    have C9 : Hid (Below Z.heap.size Z w9) := below_then CM.out hb9
    have HRW : Hid (_) := tright_any (lowS w9.heap.size) zt (.agg #[.int .u8 qk, .string (Ln.bs qt), .int .i64 qn, .slice qa qL qc]) w9 (fun _ h => h) (KQ.out.go C9.out).node
    have hrz9 : Tr.right 40 zt = true := HRZ.out.symm
    rw [hrz9] at HRW
    have hrk9 : Tr.right 40 kid = true := Tr.right_put kid T t zt 40 HPT.out.2.1 hrz9
    obtain ⟨x0, x1, x2, x3⟩ := (KQ.out.go C9.out).cs
    clear hb9 HSA BM CM HM
    gi_wp2
    clear x0 x1 x2 x3
    refine ⟨trivial, ?_⟩
    refine (callsIn_wide.2 HRW.out).mono ?_
    rintro e w10 ⟨rfl, hb10⟩
    have B10 : Hid (Below X.heap.size X w10) := below_then B9.out hb10
    have C10 : Hid (Below Z.heap.size Z w10) := below_then C9.out hb10
    have HRK : Hid (_) := tright_any (lowS w10.heap.size) kid (.agg #[.int .u8 yk, .string (Ln.bs yt), .int .i64 yn, .slice ya yL yc]) w10 (fun _ h => h) (KK.out.go B10.out).node
    rw [hrk9] at HRK
    obtain ⟨x0, x1, x2, x3⟩ := (KK.out.go B10.out).cs
    clear hb10 HRW hrk9 hrz9 B9 C9
    gi_wp2
    clear x0 x1 x2 x3
    refine ⟨trivial, ?_⟩
    refine (callsIn_wide.2 HRK.out).mono ?_
    rintro e w11 ⟨rfl, hb11⟩
    have B11 : Hid (Below X.heap.size X w11) := below_then B10.out hb11
    have C11 : Hid (Below Z.heap.size Z w11) := below_then C10.out hb11
    clear hb11 HRK B10 C10
    gi_wp2
    gi_loopw [17, 18] (fun fv iv wr => ∃ (i : Nat) (ap : Bool), i ≤ NT ∧ fv = .bool ap ∧ iv = .int .i64 i ∧ (ap || Tr.part (T.drop i) (O.drop i)) = Tr.part T O ∧ Below w11.heap.size w11 wr) (fun _ iv _ => NT - (intOf iv).toNat)
    case atStart => exact ⟨0, false, Nat.zero_le _, rfl, rfl, by simp, Below.refl _ _⟩
    case round =>
      obtain ⟨i, ap, hi, rfl, rfl, hpt, hbr⟩ := hrel
      have BR : Hid (Below X.heap.size X wr) := below_then B11.out hbr
      have CR : Hid (Below Z.heap.size Z wr) := below_then C11.out hbr
      by_cases hend : i < NT ∧ i < NO ∧ ap = false
      · obtain ⟨hi1, hi2, rfl⟩ := hend
        obtain ⟨pa', pc', pb', po', hpe, hpa', hpx⟩ := (HP.out.at BR.out).parts
        obtain ⟨oa', oc', ob', oo', hoe, hoa', hox⟩ := (HO.out.at BR.out).parts
        have e1 : pa = pa' := by injection hpe
        have e2 : oa = oa' := by injection hoe
        obtain ⟨rfl, hpb⟩ := hpa' (by have := HNT.out; omega)
        obtain ⟨rfl, hob⟩ := hoa' (by have := HNO.out; omega)
        subst e1
        subst e2
        obtain ⟨a9, ha9⟩ : ∃ a, T[i]? = some a := ⟨T[i]'(by have := HNT.out; omega), List.getElem?_eq_getElem _⟩
        obtain ⟨b9, hb9⟩ : ∃ a, O[i]? = some a := ⟨O[i]'(by have := HNO.out; omega), List.getElem?_eq_getElem _⟩
        have ca := hpx i a9 ha9
        have cb := hox i b9 hb9
        have hpt' : ((a9 != b9) || Tr.part (T.drop (i + 1)) (O.drop (i + 1))) = Tr.part T O := by
          rw [← hpt, Tr.part_drop ha9 hb9, Bool.false_or]
        obtain ⟨ne9, hne⟩ : ∃ q, q = (a9 != b9) := ⟨_, rfl⟩
        have hne' : (a9 != b9) = ne9 := hne.symm
        rw [← hne] at hpt'
        have HPT' : Hid (_) := hpt'
        have HBR : Hid (Below w11.heap.size w11 wr) := hbr
        clear hpx hox hpe hoe hpa' hoa' ha9 hb9 hpt hpt' hne hbr hpa hoa
        gi_wp2
        refine region_lex (fun z => z.cell? ⟨pb', po' + i, none⟩ = some (.int .i64 a9) ∧ z.cell? ⟨ob', oo' + i, none⟩ = some (.int .i64 b9)) 10 0 rfl (by kernel_rfl) (by kernel_rfl) (by kernel_rfl) (by kernel_rfl) (fun _ _ d _ _ h => by cases d <;> exact h) ⟨ca, cb⟩ ?_
        simp only [List.take_succ_cons, List.take_zero]
        iterate 10 (first
          | (apply lexC_want
             · rfl
             · exact fun _ => rfl
             · (intro w' hw'; obtain ⟨a0, a1⟩ := hw'; go_simp; try rfl)
             simp only [Act.put, List.setIfInBounds_toArray, List.set_cons_zero, List.set_cons_succ]))
        refine lexC_nil ?_
        refine anyC_done (by kernel_rfl) ?_
        gi_wp2
        refine ⟨⟨i + 1, ne9, by omega, by first | rfl | simp [hne'], by simp, HPT'.out, below_then HBR.out (below_draw wr 1)⟩, by simp [intOf]; omega⟩
      · have hfin : ap = Tr.part T O := by
          cases ap
          · rw [← hpt, Tr.part_end (by have := HNT.out; have := HNO.out; intro h; exact hend ⟨by omega, by omega, rfl⟩)]; rfl
          · simpa using hpt
        have HAP : Hid (ap = Tr.part T O) := hfin
        clear hfin hpt hbr hpa hoa
        by_cases hi1 : i < NT
        · by_cases hi2 : i < NO
          · have : ap = true := by cases ap <;> simp_all
            subst this
            clear hend
            obtain ⟨x0, x1, x2, x3⟩ := (KT.out.go BR.out).cs
            have HG1 : Hid (_) := get_any t (.agg #[.int .u8 xk, .string (Ln.bs xt), .int .i64 xn, .slice xa xL xc]) _ O wr (KT.out.go BR.out).node HBT.out.1 (HO.out.at BR.out) (by have := HNO.out; omega)
            gi_wp2
            clear x0 x1 x2 x3
            refine ⟨trivial, ?_⟩
            refine (callsIn_wide.2 HG1.out).mono ?_
            rintro e w12 ⟨hb12, r, rfl, hr12⟩
            obtain ⟨fk, ft, fn, fa, fL, fc, rfl⟩ := hr12.shape
            obtain ⟨F, hF⟩ : ∃ Y, Y = w12.alloc (.cells #[.int .u8 fk, .string (Ln.bs ft), .int .i64 fn, .slice fa fL fc] 25) := ⟨_, rfl⟩
            have bF : Below wr.heap.size wr F := below_then hb12 (hF ▸ below_new w12 _)
            have KF : Hid (KBox F (w12.heap.size) fk ft fn (.slice fa fL fc) ((Tr.get O t).getD Tr.zero)) := hF ▸ KBox.new hr12
            have BF : Hid (Below X.heap.size X F) := below_then BR.out bF
            have CF : Hid (Below Z.heap.size Z F) := below_then CR.out bF
            have HG2 : Hid (_) := get_any zt (.agg #[.int .u8 qk, .string (Ln.bs qt), .int .i64 qn, .slice qa qL qc]) _ O F (KQ.out.go CF.out).node HB3.out.2.1 (HO.out.at BF.out) (by have := HNO.out; omega)
            obtain ⟨x0, x1, x2, x3⟩ := (KQ.out.go CF.out).cs
            rw [hF] at x0 x1 x2 x3
            have HF : Hid (F = w12.alloc (.cells #[.int .u8 fk, .string (Ln.bs ft), .int .i64 fn, .slice fa fL fc] 25)) := hF
            have ePT : Tr.get O zt = Tr.get O t := Tr.part_get kid T O t zt HPT.out.2.1 HAP.out.symm
            rw [ePT] at HG2
            clear ePT
            obtain ⟨of, hof⟩ : ∃ o, o = (Tr.get O t).isSome := ⟨_, rfl⟩
            rw [← hof]
            clear hb12 hr12 hF bF HG1
            gi_wp2
            rw [← HF.out]
            clear x0 x1 x2 x3
            refine ⟨trivial, ?_⟩
            refine (callsIn_wide.2 HG2.out).mono ?_
            rintro e w13 ⟨hb13, r, rfl, hr13⟩
            obtain ⟨hk, ht, hn, ha, hL, hc, rfl⟩ := hr13.shape
            rw [← hof]
            obtain ⟨J, hJ⟩ : ∃ Y, Y = w13.alloc (.cells #[.int .u8 hk, .string (Ln.bs ht), .int .i64 hn, .slice ha hL hc] 25) := ⟨_, rfl⟩
            have bJ : Below F.heap.size F J := below_then hb13 (hJ ▸ below_new w13 _)
            have KH : Hid (KBox J (w13.heap.size) hk ht hn (.slice ha hL hc) ((Tr.get O t).getD Tr.zero)) := hJ ▸ KBox.new hr13
            have hsz9 : ((Tr.get O t).getD Tr.zero).size ≤ 400000 := by
              cases hgo : Tr.get O t with
              | none => simp [Tr.zero, Tr.size, Tr.sizes]
              | some g9 => have := (Tr.get_bd O t g9 hgo).1; have := HB3.out.2.2.2.1; simp only [Option.getD_some]; omega
            have HSA : Hid (_) := tsame_any ((Tr.get O t).getD Tr.zero) ((Tr.get O t).getD Tr.zero) (.agg #[.int .u8 fk, .string (Ln.bs ft), .int .i64 fn, .slice fa fL fc]) (.agg #[.int .u8 hk, .string (Ln.bs ht), .int .i64 hn, .slice ha hL hc]) J (KF.out.go bJ).node KH.out.node hsz9
            rw [Tr.eqb_refl] at HSA
            obtain ⟨x0, x1, x2, x3⟩ := (KF.out.go bJ).cs
            obtain ⟨y0, y1, y2, y3⟩ := KH.out.cs
            rw [hJ] at x0 x1 x2 x3 y0 y1 y2 y3
            have HJ : Hid (J = w13.alloc (.cells #[.int .u8 hk, .string (Ln.bs ht), .int .i64 hn, .slice ha hL hc] 25)) := hJ
            have BJ : Hid (Below X.heap.size X J) := below_then BF.out bJ
            clear hb13 hr13 hJ bJ HG2 KF KH hsz9 hof
            cases of
            · gi_wp2
              rw [← HJ.out]
              refine ⟨trivial, ?_⟩
              refine (callsIn_wide.2 HSA.out).mono ?_
              rintro e w14 ⟨rfl, hb14⟩
              have B14 : Hid (Below w.heap.size w w14) := below_then HBX.out (below_then BJ.out hb14)
              clear hb14 HSA x0 x1 x2 x3 y0 y1 y2 y3
              gi_wp2
              go_ret
              exact ⟨rfl, B14.out⟩
            · gi_wp2
              rw [← HJ.out]
              refine ⟨trivial, ?_⟩
              refine (callsIn_wide.2 HSA.out).mono ?_
              rintro e w14 ⟨rfl, hb14⟩
              have B14 : Hid (Below w.heap.size w w14) := below_then HBX.out (below_then BJ.out hb14)
              clear hb14 HSA x0 x1 x2 x3 y0 y1 y2 y3
              gi_wp2
              go_ret
              exact ⟨rfl, B14.out⟩
          · cases ap
            · clear hend
              obtain ⟨x0, x1, x2, x3⟩ := (KT.out.go BR.out).cs
              have HG1 : Hid (_) := get_any t (.agg #[.int .u8 xk, .string (Ln.bs xt), .int .i64 xn, .slice xa xL xc]) _ O wr (KT.out.go BR.out).node HBT.out.1 (HO.out.at BR.out) (by have := HNO.out; omega)
              gi_wp2
              clear x0 x1 x2 x3
              refine ⟨trivial, ?_⟩
              refine (callsIn_wide.2 HG1.out).mono ?_
              rintro e w12 ⟨hb12, r, rfl, hr12⟩
              obtain ⟨fk, ft, fn, fa, fL, fc, rfl⟩ := hr12.shape
              obtain ⟨F, hF⟩ : ∃ Y, Y = w12.alloc (.cells #[.int .u8 fk, .string (Ln.bs ft), .int .i64 fn, .slice fa fL fc] 25) := ⟨_, rfl⟩
              have bF : Below wr.heap.size wr F := below_then hb12 (hF ▸ below_new w12 _)
              have KF : Hid (KBox F (w12.heap.size) fk ft fn (.slice fa fL fc) ((Tr.get O t).getD Tr.zero)) := hF ▸ KBox.new hr12
              have BF : Hid (Below X.heap.size X F) := below_then BR.out bF
              have CF : Hid (Below Z.heap.size Z F) := below_then CR.out bF
              have HG2 : Hid (_) := get_any zt (.agg #[.int .u8 qk, .string (Ln.bs qt), .int .i64 qn, .slice qa qL qc]) _ O F (KQ.out.go CF.out).node HB3.out.2.1 (HO.out.at BF.out) (by have := HNO.out; omega)
              obtain ⟨x0, x1, x2, x3⟩ := (KQ.out.go CF.out).cs
              rw [hF] at x0 x1 x2 x3
              have HF : Hid (F = w12.alloc (.cells #[.int .u8 fk, .string (Ln.bs ft), .int .i64 fn, .slice fa fL fc] 25)) := hF
              obtain ⟨of, hof⟩ : ∃ o, o = (Tr.get O t).isSome := ⟨_, rfl⟩
              rw [← hof]
              clear hb12 hr12 hF bF HG1
              gi_wp2
              rw [← HF.out]
              clear x0 x1 x2 x3
              refine ⟨trivial, ?_⟩
              refine (callsIn_wide.2 HG2.out).mono ?_
              rintro e w13 ⟨hb13, r, rfl, hr13⟩
              obtain ⟨hk, ht, hn, ha, hL, hc, rfl⟩ := hr13.shape
              obtain ⟨oh, hoh⟩ : ∃ o, o = (Tr.get O zt).isSome := ⟨_, rfl⟩
              rw [← hoh]
              have B14 : Hid (Below w.heap.size w (w13.alloc (.cells #[.int .u8 hk, .string (Ln.bs ht), .int .i64 hn, .slice ha hL hc] 25))) := below_then HBX.out (below_then BF.out (below_then hb13 (below_new w13 _)))
              clear hb13 hr13 HG2 hoh hof
              gi_wp2
              case h_1.isTrue => rename_i hh _; cases hh
              case h_1.isFalse => rename_i hh _; cases hh
              refine ⟨trivial, ?_⟩
              gi_wp2
              go_ret
              exact ⟨rfl, B14.out⟩
            · clear hend
              obtain ⟨x0, x1, x2, x3⟩ := (KT.out.go BR.out).cs
              have HG1 : Hid (_) := get_any t (.agg #[.int .u8 xk, .string (Ln.bs xt), .int .i64 xn, .slice xa xL xc]) _ O wr (KT.out.go BR.out).node HBT.out.1 (HO.out.at BR.out) (by have := HNO.out; omega)
              gi_wp2
              clear x0 x1 x2 x3
              refine ⟨trivial, ?_⟩
              refine (callsIn_wide.2 HG1.out).mono ?_
              rintro e w12 ⟨hb12, r, rfl, hr12⟩
              obtain ⟨fk, ft, fn, fa, fL, fc, rfl⟩ := hr12.shape
              obtain ⟨F, hF⟩ : ∃ Y, Y = w12.alloc (.cells #[.int .u8 fk, .string (Ln.bs ft), .int .i64 fn, .slice fa fL fc] 25) := ⟨_, rfl⟩
              have bF : Below wr.heap.size wr F := below_then hb12 (hF ▸ below_new w12 _)
              have KF : Hid (KBox F (w12.heap.size) fk ft fn (.slice fa fL fc) ((Tr.get O t).getD Tr.zero)) := hF ▸ KBox.new hr12
              have BF : Hid (Below X.heap.size X F) := below_then BR.out bF
              have CF : Hid (Below Z.heap.size Z F) := below_then CR.out bF
              have HG2 : Hid (_) := get_any zt (.agg #[.int .u8 qk, .string (Ln.bs qt), .int .i64 qn, .slice qa qL qc]) _ O F (KQ.out.go CF.out).node HB3.out.2.1 (HO.out.at BF.out) (by have := HNO.out; omega)
              obtain ⟨x0, x1, x2, x3⟩ := (KQ.out.go CF.out).cs
              rw [hF] at x0 x1 x2 x3
              have HF : Hid (F = w12.alloc (.cells #[.int .u8 fk, .string (Ln.bs ft), .int .i64 fn, .slice fa fL fc] 25)) := hF
              have ePT : Tr.get O zt = Tr.get O t := Tr.part_get kid T O t zt HPT.out.2.1 HAP.out.symm
              rw [ePT] at HG2
              clear ePT
              obtain ⟨of, hof⟩ : ∃ o, o = (Tr.get O t).isSome := ⟨_, rfl⟩
              rw [← hof]
              clear hb12 hr12 hF bF HG1
              gi_wp2
              rw [← HF.out]
              clear x0 x1 x2 x3
              refine ⟨trivial, ?_⟩
              refine (callsIn_wide.2 HG2.out).mono ?_
              rintro e w13 ⟨hb13, r, rfl, hr13⟩
              obtain ⟨hk, ht, hn, ha, hL, hc, rfl⟩ := hr13.shape
              rw [← hof]
              obtain ⟨J, hJ⟩ : ∃ Y, Y = w13.alloc (.cells #[.int .u8 hk, .string (Ln.bs ht), .int .i64 hn, .slice ha hL hc] 25) := ⟨_, rfl⟩
              have bJ : Below F.heap.size F J := below_then hb13 (hJ ▸ below_new w13 _)
              have KH : Hid (KBox J (w13.heap.size) hk ht hn (.slice ha hL hc) ((Tr.get O t).getD Tr.zero)) := hJ ▸ KBox.new hr13
              have hsz9 : ((Tr.get O t).getD Tr.zero).size ≤ 400000 := by
                cases hgo : Tr.get O t with
                | none => simp [Tr.zero, Tr.size, Tr.sizes]
                | some g9 => have := (Tr.get_bd O t g9 hgo).1; have := HB3.out.2.2.2.1; simp only [Option.getD_some]; omega
              have HSA : Hid (_) := tsame_any ((Tr.get O t).getD Tr.zero) ((Tr.get O t).getD Tr.zero) (.agg #[.int .u8 fk, .string (Ln.bs ft), .int .i64 fn, .slice fa fL fc]) (.agg #[.int .u8 hk, .string (Ln.bs ht), .int .i64 hn, .slice ha hL hc]) J (KF.out.go bJ).node KH.out.node hsz9
              rw [Tr.eqb_refl] at HSA
              obtain ⟨x0, x1, x2, x3⟩ := (KF.out.go bJ).cs
              obtain ⟨y0, y1, y2, y3⟩ := KH.out.cs
              rw [hJ] at x0 x1 x2 x3 y0 y1 y2 y3
              have HJ : Hid (J = w13.alloc (.cells #[.int .u8 hk, .string (Ln.bs ht), .int .i64 hn, .slice ha hL hc] 25)) := hJ
              have BJ : Hid (Below X.heap.size X J) := below_then BF.out bJ
              clear hb13 hr13 hJ bJ HG2 KF KH hsz9 hof
              cases of
              · gi_wp2
                rw [← HJ.out]
                refine ⟨trivial, ?_⟩
                refine (callsIn_wide.2 HSA.out).mono ?_
                rintro e w14 ⟨rfl, hb14⟩
                have B14 : Hid (Below w.heap.size w w14) := below_then HBX.out (below_then BJ.out hb14)
                clear hb14 HSA x0 x1 x2 x3 y0 y1 y2 y3
                gi_wp2
                go_ret
                exact ⟨rfl, B14.out⟩
              · gi_wp2
                rw [← HJ.out]
                refine ⟨trivial, ?_⟩
                refine (callsIn_wide.2 HSA.out).mono ?_
                rintro e w14 ⟨rfl, hb14⟩
                have B14 : Hid (Below w.heap.size w w14) := below_then HBX.out (below_then BJ.out hb14)
                clear hb14 HSA x0 x1 x2 x3 y0 y1 y2 y3
                gi_wp2
                go_ret
                exact ⟨rfl, B14.out⟩
        · cases ap
          · clear hend
            obtain ⟨x0, x1, x2, x3⟩ := (KT.out.go BR.out).cs
            have HG1 : Hid (_) := get_any t (.agg #[.int .u8 xk, .string (Ln.bs xt), .int .i64 xn, .slice xa xL xc]) _ O wr (KT.out.go BR.out).node HBT.out.1 (HO.out.at BR.out) (by have := HNO.out; omega)
            gi_wp2
            clear x0 x1 x2 x3
            refine ⟨trivial, ?_⟩
            refine (callsIn_wide.2 HG1.out).mono ?_
            rintro e w12 ⟨hb12, r, rfl, hr12⟩
            obtain ⟨fk, ft, fn, fa, fL, fc, rfl⟩ := hr12.shape
            obtain ⟨F, hF⟩ : ∃ Y, Y = w12.alloc (.cells #[.int .u8 fk, .string (Ln.bs ft), .int .i64 fn, .slice fa fL fc] 25) := ⟨_, rfl⟩
            have bF : Below wr.heap.size wr F := below_then hb12 (hF ▸ below_new w12 _)
            have KF : Hid (KBox F (w12.heap.size) fk ft fn (.slice fa fL fc) ((Tr.get O t).getD Tr.zero)) := hF ▸ KBox.new hr12
            have BF : Hid (Below X.heap.size X F) := below_then BR.out bF
            have CF : Hid (Below Z.heap.size Z F) := below_then CR.out bF
            have HG2 : Hid (_) := get_any zt (.agg #[.int .u8 qk, .string (Ln.bs qt), .int .i64 qn, .slice qa qL qc]) _ O F (KQ.out.go CF.out).node HB3.out.2.1 (HO.out.at BF.out) (by have := HNO.out; omega)
            obtain ⟨x0, x1, x2, x3⟩ := (KQ.out.go CF.out).cs
            rw [hF] at x0 x1 x2 x3
            have HF : Hid (F = w12.alloc (.cells #[.int .u8 fk, .string (Ln.bs ft), .int .i64 fn, .slice fa fL fc] 25)) := hF
            obtain ⟨of, hof⟩ : ∃ o, o = (Tr.get O t).isSome := ⟨_, rfl⟩
            rw [← hof]
            clear hb12 hr12 hF bF HG1
            gi_wp2
            rw [← HF.out]
            clear x0 x1 x2 x3
            refine ⟨trivial, ?_⟩
            refine (callsIn_wide.2 HG2.out).mono ?_
            rintro e w13 ⟨hb13, r, rfl, hr13⟩
            obtain ⟨hk, ht, hn, ha, hL, hc, rfl⟩ := hr13.shape
            obtain ⟨oh, hoh⟩ : ∃ o, o = (Tr.get O zt).isSome := ⟨_, rfl⟩
            rw [← hoh]
            have B14 : Hid (Below w.heap.size w (w13.alloc (.cells #[.int .u8 hk, .string (Ln.bs ht), .int .i64 hn, .slice ha hL hc] 25))) := below_then HBX.out (below_then BF.out (below_then hb13 (below_new w13 _)))
            clear hb13 hr13 HG2 hoh hof
            gi_wp2
            case h_1.isTrue => rename_i hh _; cases hh
            case h_1.isFalse => rename_i hh _; cases hh
            refine ⟨trivial, ?_⟩
            gi_wp2
            go_ret
            exact ⟨rfl, B14.out⟩
          · clear hend
            obtain ⟨x0, x1, x2, x3⟩ := (KT.out.go BR.out).cs
            have HG1 : Hid (_) := get_any t (.agg #[.int .u8 xk, .string (Ln.bs xt), .int .i64 xn, .slice xa xL xc]) _ O wr (KT.out.go BR.out).node HBT.out.1 (HO.out.at BR.out) (by have := HNO.out; omega)
            gi_wp2
            clear x0 x1 x2 x3
            refine ⟨trivial, ?_⟩
            refine (callsIn_wide.2 HG1.out).mono ?_
            rintro e w12 ⟨hb12, r, rfl, hr12⟩
            obtain ⟨fk, ft, fn, fa, fL, fc, rfl⟩ := hr12.shape
            obtain ⟨F, hF⟩ : ∃ Y, Y = w12.alloc (.cells #[.int .u8 fk, .string (Ln.bs ft), .int .i64 fn, .slice fa fL fc] 25) := ⟨_, rfl⟩
            have bF : Below wr.heap.size wr F := below_then hb12 (hF ▸ below_new w12 _)
            have KF : Hid (KBox F (w12.heap.size) fk ft fn (.slice fa fL fc) ((Tr.get O t).getD Tr.zero)) := hF ▸ KBox.new hr12
            have BF : Hid (Below X.heap.size X F) := below_then BR.out bF
            have CF : Hid (Below Z.heap.size Z F) := below_then CR.out bF
            have HG2 : Hid (_) := get_any zt (.agg #[.int .u8 qk, .string (Ln.bs qt), .int .i64 qn, .slice qa qL qc]) _ O F (KQ.out.go CF.out).node HB3.out.2.1 (HO.out.at BF.out) (by have := HNO.out; omega)
            obtain ⟨x0, x1, x2, x3⟩ := (KQ.out.go CF.out).cs
            rw [hF] at x0 x1 x2 x3
            have HF : Hid (F = w12.alloc (.cells #[.int .u8 fk, .string (Ln.bs ft), .int .i64 fn, .slice fa fL fc] 25)) := hF
            have ePT : Tr.get O zt = Tr.get O t := Tr.part_get kid T O t zt HPT.out.2.1 HAP.out.symm
            rw [ePT] at HG2
            clear ePT
            obtain ⟨of, hof⟩ : ∃ o, o = (Tr.get O t).isSome := ⟨_, rfl⟩
            rw [← hof]
            clear hb12 hr12 hF bF HG1
            gi_wp2
            rw [← HF.out]
            clear x0 x1 x2 x3
            refine ⟨trivial, ?_⟩
            refine (callsIn_wide.2 HG2.out).mono ?_
            rintro e w13 ⟨hb13, r, rfl, hr13⟩
            obtain ⟨hk, ht, hn, ha, hL, hc, rfl⟩ := hr13.shape
            rw [← hof]
            obtain ⟨J, hJ⟩ : ∃ Y, Y = w13.alloc (.cells #[.int .u8 hk, .string (Ln.bs ht), .int .i64 hn, .slice ha hL hc] 25) := ⟨_, rfl⟩
            have bJ : Below F.heap.size F J := below_then hb13 (hJ ▸ below_new w13 _)
            have KH : Hid (KBox J (w13.heap.size) hk ht hn (.slice ha hL hc) ((Tr.get O t).getD Tr.zero)) := hJ ▸ KBox.new hr13
            have hsz9 : ((Tr.get O t).getD Tr.zero).size ≤ 400000 := by
              cases hgo : Tr.get O t with
              | none => simp [Tr.zero, Tr.size, Tr.sizes]
              | some g9 => have := (Tr.get_bd O t g9 hgo).1; have := HB3.out.2.2.2.1; simp only [Option.getD_some]; omega
            have HSA : Hid (_) := tsame_any ((Tr.get O t).getD Tr.zero) ((Tr.get O t).getD Tr.zero) (.agg #[.int .u8 fk, .string (Ln.bs ft), .int .i64 fn, .slice fa fL fc]) (.agg #[.int .u8 hk, .string (Ln.bs ht), .int .i64 hn, .slice ha hL hc]) J (KF.out.go bJ).node KH.out.node hsz9
            rw [Tr.eqb_refl] at HSA
            obtain ⟨x0, x1, x2, x3⟩ := (KF.out.go bJ).cs
            obtain ⟨y0, y1, y2, y3⟩ := KH.out.cs
            rw [hJ] at x0 x1 x2 x3 y0 y1 y2 y3
            have HJ : Hid (J = w13.alloc (.cells #[.int .u8 hk, .string (Ln.bs ht), .int .i64 hn, .slice ha hL hc] 25)) := hJ
            have BJ : Hid (Below X.heap.size X J) := below_then BF.out bJ
            clear hb13 hr13 hJ bJ HG2 KF KH hsz9 hof
            cases of
            · gi_wp2
              rw [← HJ.out]
              refine ⟨trivial, ?_⟩
              refine (callsIn_wide.2 HSA.out).mono ?_
              rintro e w14 ⟨rfl, hb14⟩
              have B14 : Hid (Below w.heap.size w w14) := below_then HBX.out (below_then BJ.out hb14)
              clear hb14 HSA x0 x1 x2 x3 y0 y1 y2 y3
              gi_wp2
              go_ret
              exact ⟨rfl, B14.out⟩
            · gi_wp2
              rw [← HJ.out]
              refine ⟨trivial, ?_⟩
              refine (callsIn_wide.2 HSA.out).mono ?_
              rintro e w14 ⟨rfl, hb14⟩
              have B14 : Hid (Below w.heap.size w w14) := below_then HBX.out (below_then BJ.out hb14)
              clear hb14 HSA x0 x1 x2 x3 y0 y1 y2 y3
              gi_wp2
              go_ret
              exact ⟨rfl, B14.out⟩

theorem back_row (t0 t1 : Tr) (T2 T3 : List Int) (v0 v1 v2 v3 : Value) (W : World) (h0 : NodeR (lowS W.heap.size) W v0 t0) (h1 : NodeR (lowS W.heap.size) W v1 t1) (h2 : PathLow W.heap.size W v2 T2) (_ : T2.length ≤ 9223372036854775807) (h3 : PathLow W.heap.size W v3 T3) (_ : T3.length ≤ 9223372036854775807) :
    Calls Try.prog 5 #[v0, v1, v2, v3] W fun e w' => e = .returned (.bool true) ∧ Below W.heap.size W w' := back_law t0 t1 v0 v1 v2 v3 T2 T3 W h0 h1 h2 h3
end Go.Proofs.Ytgdgaapkfbddkaa

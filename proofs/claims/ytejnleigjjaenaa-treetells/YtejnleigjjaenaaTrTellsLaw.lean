/-
  The walk of the law TreeTells.
-/
import Derived.Test.YtejnleigjjaenaaPairAll
import Derived.Test.YtejnleigjjaenaaDocAll
import Derived.Test.YtejnleigjjaenaaKeepAll
namespace Go.Proofs.Ytejnleigjjaenaa
open Go.RowKit Go.Shelf

attribute [local go_sem] Oper.semAt_some

/-- Two nodes that were lent. -/
theorem LentV.two {B : Nat} {W : World} {v : Value} {t u : Tr} (h : LentV B W v [t, u]) : ∃ g cap pk pt pn pg pc qk qt qn qg qc, v = .slice (some ⟨g, 0, none⟩) 2 cap ∧
    t = .mk pk pt pn t.kids ∧ u = .mk qk qt qn u.kids ∧
    NodeR (lowS W.heap.size) W (.agg #[.int .u8 pk, .string (Ln.bs pt), .int .i64 pn, .slice (some ⟨pg, 0, none⟩) t.kids.length pc]) t ∧ NodeR (lowS W.heap.size) W (.agg #[.int .u8 qk, .string (Ln.bs qt), .int .i64 qn, .slice (some ⟨qg, 0, none⟩) u.kids.length qc]) u ∧
    (W.cell? ⟨g, 0, none⟩ = some (.int .u8 pk) ∧ W.cell? ⟨g, 1, none⟩ = some (.string (Ln.bs pt)) ∧ W.cell? ⟨g, 2, none⟩ = some (.int .i64 pn) ∧ W.cell? ⟨g, 3, none⟩ = some (.slice (some ⟨pg, 0, none⟩) t.kids.length pc)) ∧
    (W.cell? ⟨g, 4, none⟩ = some (.int .u8 qk) ∧ W.cell? ⟨g, 5, none⟩ = some (.string (Ln.bs qt)) ∧ W.cell? ⟨g, 6, none⟩ = some (.int .i64 qn) ∧ W.cell? ⟨g, 7, none⟩ = some (.slice (some ⟨qg, 0, none⟩) u.kids.length qc)) := by
  obtain ⟨g, cap, xs, rfl, ex, -, -, hk, hc⟩ := h.parts
  match xs, ex with
  | [x, y], ex =>
    simp only [List.map_cons, List.map_nil, List.cons.injEq, and_true] at ex
    obtain ⟨rfl, rfl⟩ := ex
    obtain ⟨xf, xl⟩ := hk x (by simp)
    obtain ⟨yf, yl⟩ := hk y (by simp)
    obtain ⟨pg, pc, ep⟩ := xl.slice
    obtain ⟨qg, qc, eq⟩ := yl.slice
    have h0 := hc 0 x rfl
    have h1 := hc 1 y rfl
    obtain ⟨pk, pt, pn, pv, pkids⟩ := x
    obtain ⟨qk, qt, qn, qv, qkids⟩ := y
    simp only at ep eq
    subst ep eq
    exact ⟨g, cap, pk, pt, pn, pg, pc, qk, qt, qn, qg, qc, rfl, rfl, rfl, ⟨_, rfl, rfl, xf, xl.row⟩, ⟨_, rfl, rfl, yf, yl.row⟩, h0, h1⟩

set_option maxRecDepth 100000 in
set_option maxHeartbeats 16000000 in
theorem ttells_law (t u : Tr) (v uv : Value) (w : World) (hv : NodeR (lowS w.heap.size) w v t) (huv : NodeR (lowS w.heap.size) w uv u) :
    Calls Try.prog 3 #[v, uv] w fun e w' => e = .returned (.bool true) ∧ Below w.heap.size w w' := by
  obtain ⟨⟨xk, xt, xn, xv, xkids⟩, rfl, hxt, hxf, hxr⟩ := hv
  obtain ⟨xa, xc, hxv⟩ := hxr.slice
  simp only at hxv
  subst hxv
  obtain ⟨⟨yk, yt, yn, yv, ykids⟩, rfl, hyt, hyf, hyr⟩ := huv
  obtain ⟨ya, yc, hyv⟩ := hyr.slice
  simp only at hyv
  subst hyv
  have hv : NodeR (lowS w.heap.size) w (.agg #[.int .u8 xk, .string (Ln.bs xt), .int .i64 xn, .slice xa xkids.length xc]) t := ⟨⟨xk, xt, xn, .slice xa xkids.length xc, xkids⟩, rfl, hxt, hxf, hxr⟩
  have huv : NodeR (lowS w.heap.size) w (.agg #[.int .u8 yk, .string (Ln.bs yt), .int .i64 yn, .slice ya ykids.length yc]) u := ⟨⟨yk, yt, yn, .slice ya ykids.length yc, ykids⟩, rfl, hyt, hyf, hyr⟩
  have HT : Hid (t = .mk xk xt xn xkids ∧ u = .mk yk yt yn ykids) := ⟨hxt.symm, hyt.symm⟩
  simp only [N1.cells]
  obtain ⟨xL, hxL⟩ : ∃ N, N = xkids.length := ⟨_, rfl⟩
  obtain ⟨yL, hyL⟩ : ∃ N, N = ykids.length := ⟨_, rfl⟩
  have HL : Hid (xL = xkids.length ∧ yL = ykids.length) := ⟨hxL, hyL⟩
  rw [← hxL] at hv ⊢
  rw [← hyL] at huv ⊢
  clear hxt hxf hxr hyt hyf hyr hxL hyL
  obtain ⟨A1, h1⟩ : ∃ A, A = w.alloc (.cells #[.int .u8 xk, .string (Ln.bs xt), .int .i64 xn, .slice xa xL xc] 25) := ⟨_, rfl⟩
  obtain ⟨X, hX⟩ : ∃ A, A = A1.alloc (.cells #[.int .u8 yk, .string (Ln.bs yt), .int .i64 yn, .slice ya yL yc] 25) := ⟨_, rfl⟩
  have b1 : Below w.heap.size w A1 := h1 ▸ below_new w _
  have b2 : Below A1.heap.size A1 X := hX ▸ below_new A1 _
  have bX : Below w.heap.size w X := below_then b1 b2
  have s1 : A1.heap.size = w.heap.size + 1 := by rw [h1, World.size_alloc]
  have KT : Hid (KBox X (w.heap.size) xk xt xn (.slice xa xL xc) t) := KBox.go (h1 ▸ KBox.new hv) b2
  have KK : Hid (KBox X (w.heap.size + 1) yk yt yn (.slice ya yL yc) u) := by rw [← s1, hX]; exact KBox.new (huv.at b1)
  have HBX : Hid (Below w.heap.size w X) := bX
  have HAW : Hid (_) := awake6_any X
  clear hv huv b1 b2 bX s1
  refine (callsIn_wide (n := 3)).1 ?_
  refine callsIn_of_wp Try.func3 rfl trivial ?_ rfl
  simp only [Try.ntmps3, List.size_toArray, List.length_cons, List.length_nil, Nat.reduceAdd, Nat.reduceSub, Array.replicate_succ, Array.replicate_zero, List.push_toArray, List.append_toArray, List.nil_append, List.cons_append]
  gi_wp2
  rw [← h1, ← hX]
  clear h1 hX
  refine ⟨trivial, ?_⟩
  refine (callsIn_wide.2 HAW.out).mono ?_
  rintro e w1 ⟨rfl, hb1⟩
  have B1 : Hid (Below X.heap.size X w1) := hb1
  obtain ⟨x0, x1, x2, x3⟩ := (KT.out.go hb1).cs
  obtain ⟨y0, y1, y2, y3⟩ := (KK.out.go hb1).cs
  obtain ⟨V, hV⟩ : ∃ V, V = w1.alloc (.cells #[.int .u8 xk, .string (Ln.bs xt), .int .i64 xn, .slice xa xL xc, .int .u8 yk, .string (Ln.bs yt), .int .i64 yn, .slice ya yL yc] 25) := ⟨_, rfl⟩
  have bV : Below w1.heap.size w1 V := hV ▸ below_new w1 _
  have bXV : Below X.heap.size X V := below_then hb1 bV
  have hVn : V.heap[w1.heap.size]? = some (.cells #[.int .u8 xk, .string (Ln.bs xt), .int .i64 xn, .slice xa xL xc, .int .u8 yk, .string (Ln.bs yt), .int .i64 yn, .slice ya yL yc] 25 (0, 0)) := by rw [hV]; exact World.alloc_heap_new w1 _
  have rV := row_two hVn (KT.out.go bXV).node (KK.out.go bXV).node (Array.getElem?_eq_some_iff.1 hVn).1
  have HSM : Hid (_) := small_any (lowS V.heap.size) _ _ V (fun _ h => h) rV (by simp)
  have BV : Hid (Below X.heap.size X V) := bXV
  clear hb1 bV bXV hVn rV HAW
  gi_wp2
  rw [← hV]
  clear hV x0 x1 x2 x3 y0 y1 y2 y3
  refine ⟨trivial, ?_⟩
  refine (callsIn_wide.2 HSM.out).mono ?_
  rintro e w2 ⟨b, rfl, hb2, hsm⟩
  have B2 : Hid (Below X.heap.size X w2) := below_then BV.out hb2
  have HSB : Hid (_) := hsm
  clear hb2 hsm HSM BV B1
  cases b
  · gi_wp2
    go_ret
    exact ⟨rfl, below_then HBX.out B2.out⟩
  have hbd : Tr.sizes [t, u] ≤ 400 ∧ ∀ s ∈ Tr.textsL [t, u], s.length ≤ 4000 := HSB.out rfl
  have hts : t.size ≤ 400 := by have := hbd.1; simp only [Tr.sizes_cons, Tr.sizes_nil] at this; omega
  have HBD : Hid (Tr.sizes [t, u] ≤ 400 ∧ t.size ≤ 400 ∧ Tr.Bd [t, u]) := ⟨hbd.1, hts, ⟨by omega, fun s hs => by have := hbd.2 s hs; omega⟩⟩
  clear hbd HSB hts
  obtain ⟨x0, x1, x2, x3⟩ := (KT.out.go B2.out).cs
  obtain ⟨y0, y1, y2, y3⟩ := (KK.out.go B2.out).cs
  obtain ⟨V, hV⟩ : ∃ V, V = w2.alloc (.cells #[.int .u8 xk, .string (Ln.bs xt), .int .i64 xn, .slice xa xL xc, .int .u8 yk, .string (Ln.bs yt), .int .i64 yn, .slice ya yL yc] 25) := ⟨_, rfl⟩
  have bV : Below w2.heap.size w2 V := hV ▸ below_new w2 _
  have bXV : Below X.heap.size X V := below_then B2.out bV
  have hVn : V.heap[w2.heap.size]? = some (.cells #[.int .u8 xk, .string (Ln.bs xt), .int .i64 xn, .slice xa xL xc, .int .u8 yk, .string (Ln.bs yt), .int .i64 yn, .slice ya yL yc] 25 (0, 0)) := by rw [hV]; exact World.alloc_heap_new w2 _
  have rV := row_two hVn (KT.out.go bXV).node (KK.out.go bXV).node (Array.getElem?_eq_some_iff.1 hVn).1
  have HLN : Hid (_) := lentRows_any [t, u] (lowS V.heap.size) _ V (fun _ h => h) rV (by have := HBD.out.1; omega)
  have BV : Hid (Below X.heap.size X V) := bXV
  clear bV bXV hVn rV
  gi_wp2
  rw [← hV]
  clear hV x0 x1 x2 x3 y0 y1 y2 y3
  refine ⟨trivial, ?_⟩
  refine (callsIn_wide.2 HLN.out).mono ?_
  rintro e w3 ⟨lv, rfl, hlv, hb3⟩
  obtain ⟨g, cap, pk, pt, pn, pg, pc, qk, qt, qn, qg, qc, rfl, ht1, hu1, pnode, qnode, pcs, qcs⟩ := hlv.two
  have bX3 : Below X.heap.size X w3 := below_then BV.out hb3
  have hT := HT.out
  have hkt : t.kids = xkids := by rw [hT.1]; rfl
  have hku : u.kids = ykids := by rw [hT.2]; rfl
  rw [hkt] at pnode pcs ht1
  rw [hku] at qnode qcs hu1
  have e1 : Tr.mk xk xt xn xkids = Tr.mk pk pt pn xkids := hT.1.symm.trans ht1
  have e2 : Tr.mk yk yt yn ykids = Tr.mk qk qt qn ykids := hT.2.symm.trans hu1
  simp only [Tr.mk.injEq, and_true] at e1 e2
  obtain ⟨rfl, rfl, rfl⟩ := e1
  obtain ⟨rfl, rfl, rfl⟩ := e2
  rw [← HL.out.1] at pnode pcs
  rw [← HL.out.2] at qnode qcs
  have HCF : Hid (∀ z, Below w3.heap.size w3 z → (z.cell? ⟨w.heap.size, 0, none⟩ = some (.int .u8 xk) ∧ z.cell? ⟨w.heap.size, 1, none⟩ = some (.string (Ln.bs xt)) ∧ z.cell? ⟨w.heap.size, 2, none⟩ = some (.int .i64 xn) ∧ z.cell? ⟨w.heap.size, 3, none⟩ = some (.slice xa xL xc)) ∧ (z.cell? ⟨w.heap.size + 1, 0, none⟩ = some (.int .u8 yk) ∧ z.cell? ⟨w.heap.size + 1, 1, none⟩ = some (.string (Ln.bs yt)) ∧ z.cell? ⟨w.heap.size + 1, 2, none⟩ = some (.int .i64 yn) ∧ z.cell? ⟨w.heap.size + 1, 3, none⟩ = some (.slice ya yL yc)) ∧
      (z.cell? ⟨g, 0, none⟩ = some (.int .u8 xk) ∧ z.cell? ⟨g, 1, none⟩ = some (.string (Ln.bs xt)) ∧ z.cell? ⟨g, 2, none⟩ = some (.int .i64 xn) ∧ z.cell? ⟨g, 3, none⟩ = some (.slice (some ⟨pg, 0, none⟩) xL pc)) ∧ (z.cell? ⟨g, 4, none⟩ = some (.int .u8 yk) ∧ z.cell? ⟨g, 5, none⟩ = some (.string (Ln.bs yt)) ∧ z.cell? ⟨g, 6, none⟩ = some (.int .i64 yn) ∧ z.cell? ⟨g, 7, none⟩ = some (.slice (some ⟨qg, 0, none⟩) yL qc))) := fun z hz => by
    have hc : ∀ (p : Addr) (x : Value), w3.cell? p = some x → z.cell? p = some x := fun p x h => (hz.cell (p := p) (by simpa using World.block_lt_of_cell? _ _ h)).trans h
    exact ⟨(KT.out.go (below_then bX3 hz)).cs, (KK.out.go (below_then bX3 hz)).cs, ⟨hc _ _ pcs.1, hc _ _ pcs.2.1, hc _ _ pcs.2.2.1, hc _ _ pcs.2.2.2⟩, ⟨hc _ _ qcs.1, hc _ _ qcs.2.1, hc _ _ qcs.2.2.1, hc _ _ qcs.2.2.2⟩⟩
  have hxb : ∀ z, Below w3.heap.size w3 z → NodeR (lowS z.heap.size) z (.agg #[.int .u8 xk, .string (Ln.bs xt), .int .i64 xn, .slice xa xL xc]) t := fun z hz => (KT.out.go (below_then bX3 hz)).node
  have hyb : ∀ z, Below w3.heap.size w3 z → NodeR (lowS z.heap.size) z (.agg #[.int .u8 yk, .string (Ln.bs yt), .int .i64 yn, .slice ya yL yc]) u := fun z hz => (KK.out.go (below_then bX3 hz)).node
  have hpb : ∀ z, Below w3.heap.size w3 z → NodeR (lowS z.heap.size) z (.agg #[.int .u8 xk, .string (Ln.bs xt), .int .i64 xn, .slice (some ⟨pg, 0, none⟩) xL pc]) t := fun z hz => pnode.at hz
  have hqb : ∀ z, Below w3.heap.size w3 z → NodeR (lowS z.heap.size) z (.agg #[.int .u8 yk, .string (Ln.bs yt), .int .i64 yn, .slice (some ⟨qg, 0, none⟩) yL qc]) u := fun z hz => qnode.at hz
  obtain ⟨RB, hRB⟩ : ∃ b, b = Tr.right 40 t := ⟨_, rfl⟩
  obtain ⟨EB, hEB⟩ : ∃ b, b = Tr.eqb t u := ⟨_, rfl⟩
  obtain ⟨SB, hSB⟩ : ∃ b, b = t.size := ⟨_, rfl⟩
  obtain ⟨U, hU⟩ : ∃ L, L = Nm.uniq (Tr.namesL [t, u]) := ⟨_, rfl⟩
  have HNL : Hid (U.length ≤ 9223372036854775807) := by
    rw [Hid, hU]
    have h1 := Nm.uniq_len (Tr.namesL [t, u])
    have h2 := names_len [t, u]
    have h3 := HBD.out.1
    omega
  have C1 : Hid (∀ z, Below w3.heap.size w3 z → Calls Try.prog 7 #[.agg #[.int .u8 xk, .string (Ln.bs xt), .int .i64 xn, .slice (some ⟨pg, 0, none⟩) xL pc]] z fun e w' => e = .returned (.bool RB) ∧ Below z.heap.size z w') := fun z hz => by rw [hRB]; exact tright_any _ _ _ z (fun _ h => h) (hpb z hz)
  have C2 : Hid (∀ z, Below w3.heap.size w3 z → Calls Try.prog 8 #[.agg #[.int .u8 xk, .string (Ln.bs xt), .int .i64 xn, .slice xa xL xc]] z fun e w' => e = .returned (.bool RB) ∧ Below z.heap.size z w') := fun z hz => by rw [hRB]; exact rright_any _ _ _ z (fun _ h => h) (hxb z hz)
  have C3 : Hid (∀ z, Below w3.heap.size w3 z → Calls Try.prog 9 #[.agg #[.int .u8 xk, .string (Ln.bs xt), .int .i64 xn, .slice (some ⟨pg, 0, none⟩) xL pc]] z fun e w' => e = .returned (.int .i64 SB) ∧ Below z.heap.size z w') := fun z hz => by rw [hSB]; exact size_any _ _ z (hpb z hz) (by have := HBD.out.2.1; omega)
  have C4 : Hid (∀ z, Below w3.heap.size w3 z → Calls Try.prog 10 #[.agg #[.int .u8 xk, .string (Ln.bs xt), .int .i64 xn, .slice xa xL xc]] z fun e w' => e = .returned (.int .i64 SB) ∧ Below z.heap.size z w') := fun z hz => by rw [hSB]; exact rsize_any _ t (Nat.le_refl _) _ _ z (fun _ h => h) (hxb z hz) (by have := HBD.out.2.1; omega)
  have C5 : Hid (∀ z, Below w3.heap.size w3 z → Calls Try.prog 12 #[.slice (some ⟨g, 0, none⟩) 2 cap] z fun e w' => ∃ r, e = .returned r ∧ w'.ownsRow z.heap.size 9 1 r U.length (U.map txtV) ∧ Below z.heap.size z w') := fun z hz => by rw [hU]; exact names_any [t, u] _ z (hlv.row.at hz) HBD.out.2.2
  have C6 : Hid (∀ z, Below w3.heap.size w3 z → ∀ b, z.heap[b]? = some (.cells #[.int .u8 xk, .string (Ln.bs xt), .int .i64 xn, .slice xa xL xc, .int .u8 yk, .string (Ln.bs yt), .int .i64 yn, .slice ya yL yc] 25 (0, 0)) → Calls Try.prog 13 #[.slice (some ⟨b, 0, none⟩) 2 2] z fun e w' => ∃ r, e = .returned r ∧ w'.ownsRow z.heap.size 9 1 r U.length (U.map txtV) ∧ Below z.heap.size z w') := fun z hz b hb => by rw [hU]; exact rNames_any (lowS z.heap.size) _ [t, u] z (fun _ h => h) (row_two hb (hxb z hz) (hyb z hz) (Array.getElem?_eq_some_iff.1 hb).1) (by have := HBD.out.1; omega)
  have C8 : Hid (∀ z, Below w3.heap.size w3 z → Calls Try.prog 14 #[.agg #[.int .u8 xk, .string (Ln.bs xt), .int .i64 xn, .slice (some ⟨pg, 0, none⟩) xL pc], .agg #[.int .u8 yk, .string (Ln.bs yt), .int .i64 yn, .slice (some ⟨qg, 0, none⟩) yL qc]] z fun e w' => e = .returned (.bool EB) ∧ Below z.heap.size z w') := fun z hz => by rw [hEB]; exact tsame_any t u _ _ z (hpb z hz) (hqb z hz) (by have := HBD.out.2.1; omega)
  have C9 : Hid (∀ z, Below w3.heap.size w3 z → Calls Try.prog 15 #[.agg #[.int .u8 xk, .string (Ln.bs xt), .int .i64 xn, .slice xa xL xc], .agg #[.int .u8 yk, .string (Ln.bs yt), .int .i64 yn, .slice ya yL yc]] z fun e w' => e = .returned (.bool EB) ∧ Below z.heap.size z w') := fun z hz => by rw [hEB]; exact sameNode_any t _ _ _ _ u z (fun _ h => h) (fun _ h => h) (hxb z hz) (hyb z hz)
  have C10 : Hid (∀ z, Below w3.heap.size w3 z → Calls Try.prog 14 #[.agg #[.int .u8 xk, .string (Ln.bs xt), .int .i64 xn, .slice (some ⟨pg, 0, none⟩) xL pc], .agg #[.int .u8 xk, .string (Ln.bs xt), .int .i64 xn, .slice xa xL xc]] z fun e w' => e = .returned (.bool true) ∧ Below z.heap.size z w') := fun z hz => by
    have := tsame_any t t _ _ z (hpb z hz) (hxb z hz) (by have := HBD.out.2.1; omega)
    rwa [Tr.eqb_refl] at this
  have C11 : Hid (∀ z, Below w3.heap.size w3 z → ∀ b, z.heap[b]? = some (.cells #[.int .u8 xk, .string (Ln.bs xt), .int .i64 xn, .slice xa xL xc, .int .u8 yk, .string (Ln.bs yt), .int .i64 yn, .slice ya yL yc] 25 (0, 0)) → Calls Try.prog 16 #[.slice (some ⟨g, 0, none⟩) 2 cap, .slice (some ⟨b, 0, none⟩) 2 2] z fun e w' => e = .returned (.bool true) ∧ Below z.heap.size z w') := fun z hz b hb =>
    keptRows_any [t, u] (lowS z.heap.size) V.heap.size _ _ z (fun _ h => h) (row_two hb (hxb z hz) (hyb z hz) (Array.getElem?_eq_some_iff.1 hb).1) (hlv.at hz)
  have HB3 : Hid (Below w.heap.size w w3) := below_then HBX.out bX3
  clear HT HL hT hkt hku ht1 hu1 hlv hb3 bX3 pnode qnode pcs qcs hxb hyb hpb hqb hRB hEB hSB hU HBD B2 BV HLN KT KK HBX
  gi_wp2
  have B0 : Below w3.heap.size w3 w3.drew := below_draw w3 1
  refine region_lex (fun z => Below w3.heap.size w3 z) 3 43 rfl (by kernel_rfl) (by kernel_rfl) (by kernel_rfl) (by kernel_rfl) (fun _ _ d _ _ h => by cases d <;> exact h) B0 ?_
  simp only [List.take_succ_cons, List.take_zero]
  iterate 3 (first
    | (apply lexC_want
       · rfl
       · exact fun _ => rfl
       · (intro w' hw'; obtain ⟨⟨a0, a1, a2, a3⟩, ⟨b0, b1, b2, b3⟩, ⟨c0, c1, c2, c3⟩, ⟨d0, d1, d2, d3⟩⟩ := HCF.out w' hw'; go_simp; try rfl)
       simp only [Act.put, List.setIfInBounds_toArray, List.set_cons_zero, List.set_cons_succ]))
  refine lexC_nil ?_
  refine anyC_take (i := 4) (v := .agg #[.int .u8 xk, .string (Ln.bs xt), .int .i64 xn, .slice xa xL xc]) rfl rfl (by kernel_rfl) (by kernel_rfl) (by kernel_rfl) (fun _ _ d _ _ h => by cases d <;> exact h) B0 (by rfl) (fun _ => rfl) (by intro w' hw'; obtain ⟨⟨a0, a1, a2, a3⟩, ⟨b0, b1, b2, b3⟩, ⟨c0, c1, c2, c3⟩, ⟨d0, d1, d2, d3⟩⟩ := HCF.out w' hw'; go_simp; try rfl) ?_
  simp only [Act.put, List.getElem_toArray, List.getElem_cons_succ, List.getElem_cons_zero, List.setIfInBounds_toArray, List.set_cons_zero, List.set_cons_succ]
  refine anyC_one (i := 3) (by kernel_rfl) rfl (by rfl) (fun K1 hK1 => ?_)
  go_simp
  refine ⟨trivial, ?_⟩
  refine (callsIn_wide.2 (C1.out _ B0)).mono ?_
  rintro e w4 ⟨rfl, hb1⟩
  have B1 : Below w3.heap.size w3 w4 := below_then B0 hb1
  refine hK1 _ _ B1 ?_
  clear hK1 hb1
  refine anyC_one (i := 5) (by kernel_rfl) rfl (by rfl) (fun K2 hK2 => ?_)
  go_simp
  refine ⟨trivial, ?_⟩
  refine (callsIn_wide.2 (C2.out _ B1)).mono ?_
  rintro e w5 ⟨rfl, hb2⟩
  have B2 : Below w3.heap.size w3 w5 := below_then B1 hb2
  refine hK2 _ _ B2 ?_
  clear hK2 hb2
  refine anyC_one (i := 6) (by kernel_rfl) rfl (by rfl) (fun K3 hK3 => ?_)
  go_simp
  refine hK3 _ _ B2 ?_
  clear hK3
  refine anyC_one (i := 7) (by kernel_rfl) rfl (by rfl) (fun K4 hK4 => ?_)
  go_simp
  refine hK4 _ _ B2 ?_
  clear hK4
  refine anyC_take (i := 8) (v := .slice (some ⟨g, 0, none⟩) 2 cap) rfl rfl (by kernel_rfl) (by kernel_rfl) (by kernel_rfl) (fun _ _ d _ _ h => by cases d <;> exact h) B2 (by rfl) (fun _ => rfl) (by intro w' hw'; obtain ⟨⟨a0, a1, a2, a3⟩, ⟨b0, b1, b2, b3⟩, ⟨c0, c1, c2, c3⟩, ⟨d0, d1, d2, d3⟩⟩ := HCF.out w' hw'; go_simp; try rfl) ?_
  simp only [Act.put, List.getElem_toArray, List.getElem_cons_succ, List.getElem_cons_zero, List.setIfInBounds_toArray, List.set_cons_zero, List.set_cons_succ]
  refine anyC_take (i := 9) (v := .pointer (some ⟨g, 0, none⟩)) rfl rfl (by kernel_rfl) (by kernel_rfl) (by kernel_rfl) (fun _ _ d _ _ h => by cases d <;> exact h) B2 (by rfl) (fun _ => rfl) (by intro w' hw'; obtain ⟨⟨a0, a1, a2, a3⟩, ⟨b0, b1, b2, b3⟩, ⟨c0, c1, c2, c3⟩, ⟨d0, d1, d2, d3⟩⟩ := HCF.out w' hw'; go_simp; try rfl) ?_
  simp only [Act.put, List.getElem_toArray, List.getElem_cons_succ, List.getElem_cons_zero, List.setIfInBounds_toArray, List.set_cons_zero, List.set_cons_succ]
  refine anyC_take (i := 10) (v := .agg #[.int .u8 xk, .string (Ln.bs xt), .int .i64 xn, .slice (some ⟨pg, 0, none⟩) xL pc]) rfl rfl (by kernel_rfl) (by kernel_rfl) (by kernel_rfl) (fun _ _ d _ _ h => by cases d <;> exact h) B2 (by rfl) (fun _ => rfl) (by intro w' hw'; obtain ⟨⟨a0, a1, a2, a3⟩, ⟨b0, b1, b2, b3⟩, ⟨c0, c1, c2, c3⟩, ⟨d0, d1, d2, d3⟩⟩ := HCF.out w' hw'; go_simp; try rfl) ?_
  simp only [Act.put, List.getElem_toArray, List.getElem_cons_succ, List.getElem_cons_zero, List.setIfInBounds_toArray, List.set_cons_zero, List.set_cons_succ]
  refine anyC_take (i := 12) (v := .agg #[.int .u8 xk, .string (Ln.bs xt), .int .i64 xn, .slice xa xL xc]) rfl rfl (by kernel_rfl) (by kernel_rfl) (by kernel_rfl) (fun _ _ d _ _ h => by cases d <;> exact h) B2 (by rfl) (fun _ => rfl) (by intro w' hw'; obtain ⟨⟨a0, a1, a2, a3⟩, ⟨b0, b1, b2, b3⟩, ⟨c0, c1, c2, c3⟩, ⟨d0, d1, d2, d3⟩⟩ := HCF.out w' hw'; go_simp; try rfl) ?_
  simp only [Act.put, List.getElem_toArray, List.getElem_cons_succ, List.getElem_cons_zero, List.setIfInBounds_toArray, List.set_cons_zero, List.set_cons_succ]
  refine anyC_one (i := 11) (by kernel_rfl) rfl (by rfl) (fun K5 hK5 => ?_)
  go_simp
  refine ⟨trivial, ?_⟩
  refine (callsIn_wide.2 (C3.out _ B2)).mono ?_
  rintro e w6 ⟨rfl, hb5⟩
  have B3 : Below w3.heap.size w3 w6 := below_then B2 hb5
  refine hK5 _ _ B3 ?_
  clear hK5 hb5
  refine anyC_one (i := 13) (by kernel_rfl) rfl (by rfl) (fun K6 hK6 => ?_)
  go_simp
  refine ⟨trivial, ?_⟩
  refine (callsIn_wide.2 (C4.out _ B3)).mono ?_
  rintro e w7 ⟨rfl, hb6⟩
  have B4 : Below w3.heap.size w3 w7 := below_then B3 hb6
  refine hK6 _ _ B4 ?_
  clear hK6 hb6
  refine anyC_one (i := 14) (by kernel_rfl) rfl (by rfl) (fun K7 hK7 => ?_)
  go_simp
  refine hK7 _ _ B4 ?_
  clear hK7
  refine anyC_one (i := 15) (by kernel_rfl) rfl (by rfl) (fun K8 hK8 => ?_)
  go_simp
  refine hK8 _ _ B4 ?_
  clear hK8
  refine anyC_one (i := 16) (by kernel_rfl) rfl (by rfl) (fun K9 hK9 => ?_)
  go_simp
  refine hK9 _ _ B4 ?_
  clear hK9
  refine anyC_take (i := 17) (v := .slice (some ⟨g, 0, none⟩) 2 cap) rfl rfl (by kernel_rfl) (by kernel_rfl) (by kernel_rfl) (fun _ _ d _ _ h => by cases d <;> exact h) B4 (by rfl) (fun _ => rfl) (by intro w' hw'; obtain ⟨⟨a0, a1, a2, a3⟩, ⟨b0, b1, b2, b3⟩, ⟨c0, c1, c2, c3⟩, ⟨d0, d1, d2, d3⟩⟩ := HCF.out w' hw'; go_simp; try rfl) ?_
  simp only [Act.put, List.getElem_toArray, List.getElem_cons_succ, List.getElem_cons_zero, List.setIfInBounds_toArray, List.set_cons_zero, List.set_cons_succ]
  refine anyC_take (i := 19) (v := .agg #[.int .u8 xk, .string (Ln.bs xt), .int .i64 xn, .slice xa xL xc]) rfl rfl (by kernel_rfl) (by kernel_rfl) (by kernel_rfl) (fun _ _ d _ _ h => by cases d <;> exact h) B4 (by rfl) (fun _ => rfl) (by intro w' hw'; obtain ⟨⟨a0, a1, a2, a3⟩, ⟨b0, b1, b2, b3⟩, ⟨c0, c1, c2, c3⟩, ⟨d0, d1, d2, d3⟩⟩ := HCF.out w' hw'; go_simp; try rfl) ?_
  simp only [Act.put, List.getElem_toArray, List.getElem_cons_succ, List.getElem_cons_zero, List.setIfInBounds_toArray, List.set_cons_zero, List.set_cons_succ]
  refine anyC_take (i := 20) (v := .agg #[.int .u8 yk, .string (Ln.bs yt), .int .i64 yn, .slice ya yL yc]) rfl rfl (by kernel_rfl) (by kernel_rfl) (by kernel_rfl) (fun _ _ d _ _ h => by cases d <;> exact h) B4 (by rfl) (fun _ => rfl) (by intro w' hw'; obtain ⟨⟨a0, a1, a2, a3⟩, ⟨b0, b1, b2, b3⟩, ⟨c0, c1, c2, c3⟩, ⟨d0, d1, d2, d3⟩⟩ := HCF.out w' hw'; go_simp; try rfl) ?_
  simp only [Act.put, List.getElem_toArray, List.getElem_cons_succ, List.getElem_cons_zero, List.setIfInBounds_toArray, List.set_cons_zero, List.set_cons_succ]
  refine anyC_two (i := 18) (j := 21) (by kernel_rfl) rfl rfl (by rfl) (by rfl) (fun K10 hK10 => ?_) (fun K10 hK10 => ?_)
  · go_simp
    refine ⟨trivial, ?_⟩
    refine (callsIn_wide.2 (C5.out _ B4)).mono ?_
    rintro e w8 ⟨r1, rfl, ho1, hb8⟩
    have B5 : Below w3.heap.size w3 w8 := below_then B4 hb8
    refine hK10 _ _ B5 ?_
    clear hK10
    refine anyC_one (i := 21) (by kernel_rfl) rfl (by rfl) (fun K11 hK11 => ?_)
    go_simp
    obtain ⟨V, hV⟩ : ∃ V, V = w8.alloc (.cells #[.int .u8 xk, .string (Ln.bs xt), .int .i64 xn, .slice xa xL xc, .int .u8 yk, .string (Ln.bs yt), .int .i64 yn, .slice ya yL yc] 25) := ⟨_, rfl⟩
    have bV : Below w8.heap.size w8 V := hV ▸ below_new w8 _
    have B6 : Below w3.heap.size w3 V := below_then B5 bV
    have hVn : V.heap[w8.heap.size]? = some (.cells #[.int .u8 xk, .string (Ln.bs xt), .int .i64 xn, .slice xa xL xc, .int .u8 yk, .string (Ln.bs yt), .int .i64 yn, .slice ya yL yc] 25 (0, 0)) := by rw [hV]; exact World.alloc_heap_new w8 _
    have ho1V := owns_below ho1 bV
    rw [← hV]
    refine hK11 _ _ B6 ?_
    clear hK11 hb8 ho1 hV
    have C6V : Hid (_) := C6.out V B6 w8.heap.size hVn
    refine anyC_one (i := 22) (by kernel_rfl) rfl (by rfl) (fun K12 hK12 => ?_)
    go_simp
    refine ⟨trivial, ?_⟩
    refine (callsIn_wide.2 C6V.out).mono ?_
    rintro e w9 ⟨r2, rfl, ho2, hb9⟩
    have B7 : Below w3.heap.size w3 w9 := below_then B6 hb9
    have ho1W := owns_below ho1V hb9
    obtain ⟨ra1, rc1, rfl⟩ := slice_shape ho1W
    obtain ⟨ra2, rc2, rfl⟩ := slice_shape ho2
    have C7 : Hid (_) := same_any w9 _ _ _ _ w9.heap.size w9.heap.size (RowLow.of_owns ho1W) (RowLow.of_owns ho2) HNL.out HNL.out
    rw [decide_eq_true rfl] at C7
    refine hK12 _ _ B7 ?_
    clear hK12 C6V ho1V ho1W ho2 hb9
    refine anyC_one (i := 23) (by kernel_rfl) rfl (by rfl) (fun K13 hK13 => ?_)
    go_simp
    refine ⟨trivial, ?_⟩
    refine (callsIn_wide.2 C7.out).mono ?_
    rintro e u1 ⟨rfl, du, hdu⟩
    have B8 : Below w3.heap.size w3 u1 := by rw [hdu]; exact below_then B7 (below_draw w9 du)
    refine hK13 _ _ B8 ?_
    clear hK13 C7 hdu
    refine anyC_one (i := 24) (by kernel_rfl) rfl (by rfl) (fun K14 hK14 => ?_)
    go_simp
    refine hK14 _ _ B8 ?_
    clear hK14
    refine anyC_one (i := 25) (by kernel_rfl) rfl (by rfl) (fun K15 hK15 => ?_)
    go_simp
    refine hK15 _ _ B8 ?_
    clear hK15
    refine anyC_take (i := 26) (v := .slice (some ⟨g, 0, none⟩) 2 cap) rfl rfl (by kernel_rfl) (by kernel_rfl) (by kernel_rfl) (fun _ _ d _ _ h => by cases d <;> exact h) B8 (by rfl) (fun _ => rfl) (by intro w' hw'; obtain ⟨⟨a0, a1, a2, a3⟩, ⟨b0, b1, b2, b3⟩, ⟨c0, c1, c2, c3⟩, ⟨d0, d1, d2, d3⟩⟩ := HCF.out w' hw'; go_simp; try rfl) ?_
    simp only [Act.put, List.getElem_toArray, List.getElem_cons_succ, List.getElem_cons_zero, List.setIfInBounds_toArray, List.set_cons_zero, List.set_cons_succ]
    refine anyC_take (i := 27) (v := .pointer (some ⟨g, 0, none⟩)) rfl rfl (by kernel_rfl) (by kernel_rfl) (by kernel_rfl) (fun _ _ d _ _ h => by cases d <;> exact h) B8 (by rfl) (fun _ => rfl) (by intro w' hw'; obtain ⟨⟨a0, a1, a2, a3⟩, ⟨b0, b1, b2, b3⟩, ⟨c0, c1, c2, c3⟩, ⟨d0, d1, d2, d3⟩⟩ := HCF.out w' hw'; go_simp; try rfl) ?_
    simp only [Act.put, List.getElem_toArray, List.getElem_cons_succ, List.getElem_cons_zero, List.setIfInBounds_toArray, List.set_cons_zero, List.set_cons_succ]
    refine anyC_take (i := 28) (v := .agg #[.int .u8 xk, .string (Ln.bs xt), .int .i64 xn, .slice (some ⟨pg, 0, none⟩) xL pc]) rfl rfl (by kernel_rfl) (by kernel_rfl) (by kernel_rfl) (fun _ _ d _ _ h => by cases d <;> exact h) B8 (by rfl) (fun _ => rfl) (by intro w' hw'; obtain ⟨⟨a0, a1, a2, a3⟩, ⟨b0, b1, b2, b3⟩, ⟨c0, c1, c2, c3⟩, ⟨d0, d1, d2, d3⟩⟩ := HCF.out w' hw'; go_simp; try rfl) ?_
    simp only [Act.put, List.getElem_toArray, List.getElem_cons_succ, List.getElem_cons_zero, List.setIfInBounds_toArray, List.set_cons_zero, List.set_cons_succ]
    refine anyC_take (i := 29) (v := .slice (some ⟨g, 0, none⟩) 2 cap) rfl rfl (by kernel_rfl) (by kernel_rfl) (by kernel_rfl) (fun _ _ d _ _ h => by cases d <;> exact h) B8 (by rfl) (fun _ => rfl) (by intro w' hw'; obtain ⟨⟨a0, a1, a2, a3⟩, ⟨b0, b1, b2, b3⟩, ⟨c0, c1, c2, c3⟩, ⟨d0, d1, d2, d3⟩⟩ := HCF.out w' hw'; go_simp; try rfl) ?_
    simp only [Act.put, List.getElem_toArray, List.getElem_cons_succ, List.getElem_cons_zero, List.setIfInBounds_toArray, List.set_cons_zero, List.set_cons_succ]
    refine anyC_take (i := 30) (v := .pointer (some ⟨g, 4, none⟩)) rfl rfl (by kernel_rfl) (by kernel_rfl) (by kernel_rfl) (fun _ _ d _ _ h => by cases d <;> exact h) B8 (by rfl) (fun _ => rfl) (by intro w' hw'; obtain ⟨⟨a0, a1, a2, a3⟩, ⟨b0, b1, b2, b3⟩, ⟨c0, c1, c2, c3⟩, ⟨d0, d1, d2, d3⟩⟩ := HCF.out w' hw'; go_simp; try rfl) ?_
    simp only [Act.put, List.getElem_toArray, List.getElem_cons_succ, List.getElem_cons_zero, List.setIfInBounds_toArray, List.set_cons_zero, List.set_cons_succ]
    refine anyC_take (i := 31) (v := .agg #[.int .u8 yk, .string (Ln.bs yt), .int .i64 yn, .slice (some ⟨qg, 0, none⟩) yL qc]) rfl rfl (by kernel_rfl) (by kernel_rfl) (by kernel_rfl) (fun _ _ d _ _ h => by cases d <;> exact h) B8 (by rfl) (fun _ => rfl) (by intro w' hw'; obtain ⟨⟨a0, a1, a2, a3⟩, ⟨b0, b1, b2, b3⟩, ⟨c0, c1, c2, c3⟩, ⟨d0, d1, d2, d3⟩⟩ := HCF.out w' hw'; go_simp; try rfl) ?_
    simp only [Act.put, List.getElem_toArray, List.getElem_cons_succ, List.getElem_cons_zero, List.setIfInBounds_toArray, List.set_cons_zero, List.set_cons_succ]
    refine anyC_take (i := 33) (v := .agg #[.int .u8 xk, .string (Ln.bs xt), .int .i64 xn, .slice xa xL xc]) rfl rfl (by kernel_rfl) (by kernel_rfl) (by kernel_rfl) (fun _ _ d _ _ h => by cases d <;> exact h) B8 (by rfl) (fun _ => rfl) (by intro w' hw'; obtain ⟨⟨a0, a1, a2, a3⟩, ⟨b0, b1, b2, b3⟩, ⟨c0, c1, c2, c3⟩, ⟨d0, d1, d2, d3⟩⟩ := HCF.out w' hw'; go_simp; try rfl) ?_
    simp only [Act.put, List.getElem_toArray, List.getElem_cons_succ, List.getElem_cons_zero, List.setIfInBounds_toArray, List.set_cons_zero, List.set_cons_succ]
    refine anyC_take (i := 34) (v := .agg #[.int .u8 yk, .string (Ln.bs yt), .int .i64 yn, .slice ya yL yc]) rfl rfl (by kernel_rfl) (by kernel_rfl) (by kernel_rfl) (fun _ _ d _ _ h => by cases d <;> exact h) B8 (by rfl) (fun _ => rfl) (by intro w' hw'; obtain ⟨⟨a0, a1, a2, a3⟩, ⟨b0, b1, b2, b3⟩, ⟨c0, c1, c2, c3⟩, ⟨d0, d1, d2, d3⟩⟩ := HCF.out w' hw'; go_simp; try rfl) ?_
    simp only [Act.put, List.getElem_toArray, List.getElem_cons_succ, List.getElem_cons_zero, List.setIfInBounds_toArray, List.set_cons_zero, List.set_cons_succ]
    refine anyC_one (i := 32) (by kernel_rfl) rfl (by rfl) (fun K16 hK16 => ?_)
    go_simp
    refine ⟨trivial, ?_⟩
    refine (callsIn_wide.2 (C8.out _ B8)).mono ?_
    rintro e v1 ⟨rfl, hb16⟩
    have D1 : Below w3.heap.size w3 v1 := below_then B8 hb16
    refine hK16 _ _ D1 ?_
    clear hK16 hb16
    refine anyC_one (i := 35) (by kernel_rfl) rfl (by rfl) (fun K17 hK17 => ?_)
    go_simp
    refine ⟨trivial, ?_⟩
    refine (callsIn_wide.2 (C9.out _ D1)).mono ?_
    rintro e v2 ⟨rfl, hb17⟩
    have D2 : Below w3.heap.size w3 v2 := below_then D1 hb17
    refine hK17 _ _ D2 ?_
    clear hK17 hb17
    refine anyC_one (i := 36) (by kernel_rfl) rfl (by rfl) (fun K18 hK18 => ?_)
    go_simp
    refine hK18 _ _ D2 ?_
    clear hK18
    refine anyC_one (i := 37) (by kernel_rfl) rfl (by rfl) (fun K19 hK19 => ?_)
    go_simp
    refine hK19 _ _ D2 ?_
    clear hK19
    refine anyC_one (i := 38) (by kernel_rfl) rfl (by rfl) (fun K20 hK20 => ?_)
    go_simp
    refine hK20 _ _ D2 ?_
    clear hK20
    refine anyC_take (i := 39) (v := .slice (some ⟨g, 0, none⟩) 2 cap) rfl rfl (by kernel_rfl) (by kernel_rfl) (by kernel_rfl) (fun _ _ d _ _ h => by cases d <;> exact h) D2 (by rfl) (fun _ => rfl) (by intro w' hw'; obtain ⟨⟨a0, a1, a2, a3⟩, ⟨b0, b1, b2, b3⟩, ⟨c0, c1, c2, c3⟩, ⟨d0, d1, d2, d3⟩⟩ := HCF.out w' hw'; go_simp; try rfl) ?_
    simp only [Act.put, List.getElem_toArray, List.getElem_cons_succ, List.getElem_cons_zero, List.setIfInBounds_toArray, List.set_cons_zero, List.set_cons_succ]
    refine anyC_take (i := 40) (v := .pointer (some ⟨g, 0, none⟩)) rfl rfl (by kernel_rfl) (by kernel_rfl) (by kernel_rfl) (fun _ _ d _ _ h => by cases d <;> exact h) D2 (by rfl) (fun _ => rfl) (by intro w' hw'; obtain ⟨⟨a0, a1, a2, a3⟩, ⟨b0, b1, b2, b3⟩, ⟨c0, c1, c2, c3⟩, ⟨d0, d1, d2, d3⟩⟩ := HCF.out w' hw'; go_simp; try rfl) ?_
    simp only [Act.put, List.getElem_toArray, List.getElem_cons_succ, List.getElem_cons_zero, List.setIfInBounds_toArray, List.set_cons_zero, List.set_cons_succ]
    refine anyC_take (i := 41) (v := .agg #[.int .u8 xk, .string (Ln.bs xt), .int .i64 xn, .slice (some ⟨pg, 0, none⟩) xL pc]) rfl rfl (by kernel_rfl) (by kernel_rfl) (by kernel_rfl) (fun _ _ d _ _ h => by cases d <;> exact h) D2 (by rfl) (fun _ => rfl) (by intro w' hw'; obtain ⟨⟨a0, a1, a2, a3⟩, ⟨b0, b1, b2, b3⟩, ⟨c0, c1, c2, c3⟩, ⟨d0, d1, d2, d3⟩⟩ := HCF.out w' hw'; go_simp; try rfl) ?_
    simp only [Act.put, List.getElem_toArray, List.getElem_cons_succ, List.getElem_cons_zero, List.setIfInBounds_toArray, List.set_cons_zero, List.set_cons_succ]
    refine anyC_take (i := 42) (v := .agg #[.int .u8 xk, .string (Ln.bs xt), .int .i64 xn, .slice xa xL xc]) rfl rfl (by kernel_rfl) (by kernel_rfl) (by kernel_rfl) (fun _ _ d _ _ h => by cases d <;> exact h) D2 (by rfl) (fun _ => rfl) (by intro w' hw'; obtain ⟨⟨a0, a1, a2, a3⟩, ⟨b0, b1, b2, b3⟩, ⟨c0, c1, c2, c3⟩, ⟨d0, d1, d2, d3⟩⟩ := HCF.out w' hw'; go_simp; try rfl) ?_
    simp only [Act.put, List.getElem_toArray, List.getElem_cons_succ, List.getElem_cons_zero, List.setIfInBounds_toArray, List.set_cons_zero, List.set_cons_succ]
    refine anyC_one (i := 43) (by kernel_rfl) rfl (by rfl) (fun K21 hK21 => ?_)
    go_simp
    refine ⟨trivial, ?_⟩
    refine (callsIn_wide.2 (C10.out _ D2)).mono ?_
    rintro e v3 ⟨rfl, hb21⟩
    have D3 : Below w3.heap.size w3 v3 := below_then D2 hb21
    refine hK21 _ _ D3 ?_
    clear hK21 hb21
    refine anyC_one (i := 44) (by kernel_rfl) rfl (by rfl) (fun K22 hK22 => ?_)
    go_simp
    refine hK22 _ _ D3 ?_
    clear hK22
    refine anyC_one (i := 45) (by kernel_rfl) rfl (by rfl) (fun K23 hK23 => ?_)
    go_simp
    refine hK23 _ _ D3 ?_
    clear hK23
    refine anyC_done (by kernel_rfl) ?_
    have D3H : Hid (Below w3.heap.size w3 v3) := D3
    obtain ⟨⟨a0, a1, a2, a3⟩, ⟨b0, b1, b2, b3⟩, -, -⟩ := HCF.out v3 D3
    obtain ⟨V, hV⟩ : ∃ V, V = v3.alloc (.cells #[.int .u8 xk, .string (Ln.bs xt), .int .i64 xn, .slice xa xL xc, .int .u8 yk, .string (Ln.bs yt), .int .i64 yn, .slice ya yL yc] 25) := ⟨_, rfl⟩
    have bV : Below v3.heap.size v3 V := hV ▸ below_new v3 _
    have b3V : Below w3.heap.size w3 V := below_then D3 bV
    have hVn : V.heap[v3.heap.size]? = some (.cells #[.int .u8 xk, .string (Ln.bs xt), .int .i64 xn, .slice xa xL xc, .int .u8 yk, .string (Ln.bs yt), .int .i64 yn, .slice ya yL yc] 25 (0, 0)) := by rw [hV]; exact World.alloc_heap_new v3 _
    have HKP : Hid (_) := C11.out V b3V v3.heap.size hVn
    have HBV : Hid (Below w.heap.size w V) := below_then HB3.out b3V
    clear D1 D2 D3 bV b3V hVn
    clear B0 B1 B2 B3 B4 B5 B6 B7 B8
    gi_wp2
    rw [← hV]
    clear hV a0 a1 a2 a3 b0 b1 b2 b3
    refine ⟨trivial, ?_⟩
    refine (callsIn_wide.2 HKP.out).mono ?_
    rintro e v5 ⟨rfl, hb5⟩
    have HB5 : Hid (Below w.heap.size w v5) := below_then HBV.out hb5
    clear hb5 HKP HBV
    gi_wp2
    go_ret
    exact ⟨rfl, HB5.out⟩
  · go_simp
    obtain ⟨U, hU⟩ : ∃ V, V = w7.alloc (.cells #[.int .u8 xk, .string (Ln.bs xt), .int .i64 xn, .slice xa xL xc, .int .u8 yk, .string (Ln.bs yt), .int .i64 yn, .slice ya yL yc] 25) := ⟨_, rfl⟩
    have bU : Below w7.heap.size w7 U := hU ▸ below_new w7 _
    have B5 : Below w3.heap.size w3 U := below_then B4 bU
    have hUn : U.heap[w7.heap.size]? = some (.cells #[.int .u8 xk, .string (Ln.bs xt), .int .i64 xn, .slice xa xL xc, .int .u8 yk, .string (Ln.bs yt), .int .i64 yn, .slice ya yL yc] 25 (0, 0)) := by rw [hU]; exact World.alloc_heap_new w7 _
    rw [← hU]
    refine hK10 _ _ B5 ?_
    clear hK10 hU
    refine anyC_one (i := 18) (by kernel_rfl) rfl (by rfl) (fun K11 hK11 => ?_)
    go_simp
    refine ⟨trivial, ?_⟩
    refine (callsIn_wide.2 (C5.out _ B5)).mono ?_
    rintro e V ⟨r1, rfl, ho1V, hb8⟩
    have B6 : Below w3.heap.size w3 V := below_then B5 hb8
    refine hK11 _ _ B6 ?_
    clear hK11
    have C6V : Hid (_) := C6.out V B6 w7.heap.size ((hb8.block _ (Array.getElem?_eq_some_iff.1 hUn).1).trans hUn)
    clear hUn bU hb8
    refine anyC_one (i := 22) (by kernel_rfl) rfl (by rfl) (fun K12 hK12 => ?_)
    go_simp
    refine ⟨trivial, ?_⟩
    refine (callsIn_wide.2 C6V.out).mono ?_
    rintro e w9 ⟨r2, rfl, ho2, hb9⟩
    have B7 : Below w3.heap.size w3 w9 := below_then B6 hb9
    have ho1W := owns_below ho1V hb9
    obtain ⟨ra1, rc1, rfl⟩ := slice_shape ho1W
    obtain ⟨ra2, rc2, rfl⟩ := slice_shape ho2
    have C7 : Hid (_) := same_any w9 _ _ _ _ w9.heap.size w9.heap.size (RowLow.of_owns ho1W) (RowLow.of_owns ho2) HNL.out HNL.out
    rw [decide_eq_true rfl] at C7
    refine hK12 _ _ B7 ?_
    clear hK12 C6V ho1V ho1W ho2 hb9
    refine anyC_one (i := 23) (by kernel_rfl) rfl (by rfl) (fun K13 hK13 => ?_)
    go_simp
    refine ⟨trivial, ?_⟩
    refine (callsIn_wide.2 C7.out).mono ?_
    rintro e u1 ⟨rfl, du, hdu⟩
    have B8 : Below w3.heap.size w3 u1 := by rw [hdu]; exact below_then B7 (below_draw w9 du)
    refine hK13 _ _ B8 ?_
    clear hK13 C7 hdu
    refine anyC_one (i := 24) (by kernel_rfl) rfl (by rfl) (fun K14 hK14 => ?_)
    go_simp
    refine hK14 _ _ B8 ?_
    clear hK14
    refine anyC_one (i := 25) (by kernel_rfl) rfl (by rfl) (fun K15 hK15 => ?_)
    go_simp
    refine hK15 _ _ B8 ?_
    clear hK15
    refine anyC_take (i := 26) (v := .slice (some ⟨g, 0, none⟩) 2 cap) rfl rfl (by kernel_rfl) (by kernel_rfl) (by kernel_rfl) (fun _ _ d _ _ h => by cases d <;> exact h) B8 (by rfl) (fun _ => rfl) (by intro w' hw'; obtain ⟨⟨a0, a1, a2, a3⟩, ⟨b0, b1, b2, b3⟩, ⟨c0, c1, c2, c3⟩, ⟨d0, d1, d2, d3⟩⟩ := HCF.out w' hw'; go_simp; try rfl) ?_
    simp only [Act.put, List.getElem_toArray, List.getElem_cons_succ, List.getElem_cons_zero, List.setIfInBounds_toArray, List.set_cons_zero, List.set_cons_succ]
    refine anyC_take (i := 27) (v := .pointer (some ⟨g, 0, none⟩)) rfl rfl (by kernel_rfl) (by kernel_rfl) (by kernel_rfl) (fun _ _ d _ _ h => by cases d <;> exact h) B8 (by rfl) (fun _ => rfl) (by intro w' hw'; obtain ⟨⟨a0, a1, a2, a3⟩, ⟨b0, b1, b2, b3⟩, ⟨c0, c1, c2, c3⟩, ⟨d0, d1, d2, d3⟩⟩ := HCF.out w' hw'; go_simp; try rfl) ?_
    simp only [Act.put, List.getElem_toArray, List.getElem_cons_succ, List.getElem_cons_zero, List.setIfInBounds_toArray, List.set_cons_zero, List.set_cons_succ]
    refine anyC_take (i := 28) (v := .agg #[.int .u8 xk, .string (Ln.bs xt), .int .i64 xn, .slice (some ⟨pg, 0, none⟩) xL pc]) rfl rfl (by kernel_rfl) (by kernel_rfl) (by kernel_rfl) (fun _ _ d _ _ h => by cases d <;> exact h) B8 (by rfl) (fun _ => rfl) (by intro w' hw'; obtain ⟨⟨a0, a1, a2, a3⟩, ⟨b0, b1, b2, b3⟩, ⟨c0, c1, c2, c3⟩, ⟨d0, d1, d2, d3⟩⟩ := HCF.out w' hw'; go_simp; try rfl) ?_
    simp only [Act.put, List.getElem_toArray, List.getElem_cons_succ, List.getElem_cons_zero, List.setIfInBounds_toArray, List.set_cons_zero, List.set_cons_succ]
    refine anyC_take (i := 29) (v := .slice (some ⟨g, 0, none⟩) 2 cap) rfl rfl (by kernel_rfl) (by kernel_rfl) (by kernel_rfl) (fun _ _ d _ _ h => by cases d <;> exact h) B8 (by rfl) (fun _ => rfl) (by intro w' hw'; obtain ⟨⟨a0, a1, a2, a3⟩, ⟨b0, b1, b2, b3⟩, ⟨c0, c1, c2, c3⟩, ⟨d0, d1, d2, d3⟩⟩ := HCF.out w' hw'; go_simp; try rfl) ?_
    simp only [Act.put, List.getElem_toArray, List.getElem_cons_succ, List.getElem_cons_zero, List.setIfInBounds_toArray, List.set_cons_zero, List.set_cons_succ]
    refine anyC_take (i := 30) (v := .pointer (some ⟨g, 4, none⟩)) rfl rfl (by kernel_rfl) (by kernel_rfl) (by kernel_rfl) (fun _ _ d _ _ h => by cases d <;> exact h) B8 (by rfl) (fun _ => rfl) (by intro w' hw'; obtain ⟨⟨a0, a1, a2, a3⟩, ⟨b0, b1, b2, b3⟩, ⟨c0, c1, c2, c3⟩, ⟨d0, d1, d2, d3⟩⟩ := HCF.out w' hw'; go_simp; try rfl) ?_
    simp only [Act.put, List.getElem_toArray, List.getElem_cons_succ, List.getElem_cons_zero, List.setIfInBounds_toArray, List.set_cons_zero, List.set_cons_succ]
    refine anyC_take (i := 31) (v := .agg #[.int .u8 yk, .string (Ln.bs yt), .int .i64 yn, .slice (some ⟨qg, 0, none⟩) yL qc]) rfl rfl (by kernel_rfl) (by kernel_rfl) (by kernel_rfl) (fun _ _ d _ _ h => by cases d <;> exact h) B8 (by rfl) (fun _ => rfl) (by intro w' hw'; obtain ⟨⟨a0, a1, a2, a3⟩, ⟨b0, b1, b2, b3⟩, ⟨c0, c1, c2, c3⟩, ⟨d0, d1, d2, d3⟩⟩ := HCF.out w' hw'; go_simp; try rfl) ?_
    simp only [Act.put, List.getElem_toArray, List.getElem_cons_succ, List.getElem_cons_zero, List.setIfInBounds_toArray, List.set_cons_zero, List.set_cons_succ]
    refine anyC_take (i := 33) (v := .agg #[.int .u8 xk, .string (Ln.bs xt), .int .i64 xn, .slice xa xL xc]) rfl rfl (by kernel_rfl) (by kernel_rfl) (by kernel_rfl) (fun _ _ d _ _ h => by cases d <;> exact h) B8 (by rfl) (fun _ => rfl) (by intro w' hw'; obtain ⟨⟨a0, a1, a2, a3⟩, ⟨b0, b1, b2, b3⟩, ⟨c0, c1, c2, c3⟩, ⟨d0, d1, d2, d3⟩⟩ := HCF.out w' hw'; go_simp; try rfl) ?_
    simp only [Act.put, List.getElem_toArray, List.getElem_cons_succ, List.getElem_cons_zero, List.setIfInBounds_toArray, List.set_cons_zero, List.set_cons_succ]
    refine anyC_take (i := 34) (v := .agg #[.int .u8 yk, .string (Ln.bs yt), .int .i64 yn, .slice ya yL yc]) rfl rfl (by kernel_rfl) (by kernel_rfl) (by kernel_rfl) (fun _ _ d _ _ h => by cases d <;> exact h) B8 (by rfl) (fun _ => rfl) (by intro w' hw'; obtain ⟨⟨a0, a1, a2, a3⟩, ⟨b0, b1, b2, b3⟩, ⟨c0, c1, c2, c3⟩, ⟨d0, d1, d2, d3⟩⟩ := HCF.out w' hw'; go_simp; try rfl) ?_
    simp only [Act.put, List.getElem_toArray, List.getElem_cons_succ, List.getElem_cons_zero, List.setIfInBounds_toArray, List.set_cons_zero, List.set_cons_succ]
    refine anyC_one (i := 32) (by kernel_rfl) rfl (by rfl) (fun K16 hK16 => ?_)
    go_simp
    refine ⟨trivial, ?_⟩
    refine (callsIn_wide.2 (C8.out _ B8)).mono ?_
    rintro e v1 ⟨rfl, hb16⟩
    have D1 : Below w3.heap.size w3 v1 := below_then B8 hb16
    refine hK16 _ _ D1 ?_
    clear hK16 hb16
    refine anyC_one (i := 35) (by kernel_rfl) rfl (by rfl) (fun K17 hK17 => ?_)
    go_simp
    refine ⟨trivial, ?_⟩
    refine (callsIn_wide.2 (C9.out _ D1)).mono ?_
    rintro e v2 ⟨rfl, hb17⟩
    have D2 : Below w3.heap.size w3 v2 := below_then D1 hb17
    refine hK17 _ _ D2 ?_
    clear hK17 hb17
    refine anyC_one (i := 36) (by kernel_rfl) rfl (by rfl) (fun K18 hK18 => ?_)
    go_simp
    refine hK18 _ _ D2 ?_
    clear hK18
    refine anyC_one (i := 37) (by kernel_rfl) rfl (by rfl) (fun K19 hK19 => ?_)
    go_simp
    refine hK19 _ _ D2 ?_
    clear hK19
    refine anyC_one (i := 38) (by kernel_rfl) rfl (by rfl) (fun K20 hK20 => ?_)
    go_simp
    refine hK20 _ _ D2 ?_
    clear hK20
    refine anyC_take (i := 39) (v := .slice (some ⟨g, 0, none⟩) 2 cap) rfl rfl (by kernel_rfl) (by kernel_rfl) (by kernel_rfl) (fun _ _ d _ _ h => by cases d <;> exact h) D2 (by rfl) (fun _ => rfl) (by intro w' hw'; obtain ⟨⟨a0, a1, a2, a3⟩, ⟨b0, b1, b2, b3⟩, ⟨c0, c1, c2, c3⟩, ⟨d0, d1, d2, d3⟩⟩ := HCF.out w' hw'; go_simp; try rfl) ?_
    simp only [Act.put, List.getElem_toArray, List.getElem_cons_succ, List.getElem_cons_zero, List.setIfInBounds_toArray, List.set_cons_zero, List.set_cons_succ]
    refine anyC_take (i := 40) (v := .pointer (some ⟨g, 0, none⟩)) rfl rfl (by kernel_rfl) (by kernel_rfl) (by kernel_rfl) (fun _ _ d _ _ h => by cases d <;> exact h) D2 (by rfl) (fun _ => rfl) (by intro w' hw'; obtain ⟨⟨a0, a1, a2, a3⟩, ⟨b0, b1, b2, b3⟩, ⟨c0, c1, c2, c3⟩, ⟨d0, d1, d2, d3⟩⟩ := HCF.out w' hw'; go_simp; try rfl) ?_
    simp only [Act.put, List.getElem_toArray, List.getElem_cons_succ, List.getElem_cons_zero, List.setIfInBounds_toArray, List.set_cons_zero, List.set_cons_succ]
    refine anyC_take (i := 41) (v := .agg #[.int .u8 xk, .string (Ln.bs xt), .int .i64 xn, .slice (some ⟨pg, 0, none⟩) xL pc]) rfl rfl (by kernel_rfl) (by kernel_rfl) (by kernel_rfl) (fun _ _ d _ _ h => by cases d <;> exact h) D2 (by rfl) (fun _ => rfl) (by intro w' hw'; obtain ⟨⟨a0, a1, a2, a3⟩, ⟨b0, b1, b2, b3⟩, ⟨c0, c1, c2, c3⟩, ⟨d0, d1, d2, d3⟩⟩ := HCF.out w' hw'; go_simp; try rfl) ?_
    simp only [Act.put, List.getElem_toArray, List.getElem_cons_succ, List.getElem_cons_zero, List.setIfInBounds_toArray, List.set_cons_zero, List.set_cons_succ]
    refine anyC_take (i := 42) (v := .agg #[.int .u8 xk, .string (Ln.bs xt), .int .i64 xn, .slice xa xL xc]) rfl rfl (by kernel_rfl) (by kernel_rfl) (by kernel_rfl) (fun _ _ d _ _ h => by cases d <;> exact h) D2 (by rfl) (fun _ => rfl) (by intro w' hw'; obtain ⟨⟨a0, a1, a2, a3⟩, ⟨b0, b1, b2, b3⟩, ⟨c0, c1, c2, c3⟩, ⟨d0, d1, d2, d3⟩⟩ := HCF.out w' hw'; go_simp; try rfl) ?_
    simp only [Act.put, List.getElem_toArray, List.getElem_cons_succ, List.getElem_cons_zero, List.setIfInBounds_toArray, List.set_cons_zero, List.set_cons_succ]
    refine anyC_one (i := 43) (by kernel_rfl) rfl (by rfl) (fun K21 hK21 => ?_)
    go_simp
    refine ⟨trivial, ?_⟩
    refine (callsIn_wide.2 (C10.out _ D2)).mono ?_
    rintro e v3 ⟨rfl, hb21⟩
    have D3 : Below w3.heap.size w3 v3 := below_then D2 hb21
    refine hK21 _ _ D3 ?_
    clear hK21 hb21
    refine anyC_one (i := 44) (by kernel_rfl) rfl (by rfl) (fun K22 hK22 => ?_)
    go_simp
    refine hK22 _ _ D3 ?_
    clear hK22
    refine anyC_one (i := 45) (by kernel_rfl) rfl (by rfl) (fun K23 hK23 => ?_)
    go_simp
    refine hK23 _ _ D3 ?_
    clear hK23
    refine anyC_done (by kernel_rfl) ?_
    have D3H : Hid (Below w3.heap.size w3 v3) := D3
    obtain ⟨⟨a0, a1, a2, a3⟩, ⟨b0, b1, b2, b3⟩, -, -⟩ := HCF.out v3 D3
    obtain ⟨V, hV⟩ : ∃ V, V = v3.alloc (.cells #[.int .u8 xk, .string (Ln.bs xt), .int .i64 xn, .slice xa xL xc, .int .u8 yk, .string (Ln.bs yt), .int .i64 yn, .slice ya yL yc] 25) := ⟨_, rfl⟩
    have bV : Below v3.heap.size v3 V := hV ▸ below_new v3 _
    have b3V : Below w3.heap.size w3 V := below_then D3 bV
    have hVn : V.heap[v3.heap.size]? = some (.cells #[.int .u8 xk, .string (Ln.bs xt), .int .i64 xn, .slice xa xL xc, .int .u8 yk, .string (Ln.bs yt), .int .i64 yn, .slice ya yL yc] 25 (0, 0)) := by rw [hV]; exact World.alloc_heap_new v3 _
    have HKP : Hid (_) := C11.out V b3V v3.heap.size hVn
    have HBV : Hid (Below w.heap.size w V) := below_then HB3.out b3V
    clear D1 D2 D3 bV b3V hVn
    clear B0 B1 B2 B3 B4 B5 B6 B7 B8
    gi_wp2
    rw [← hV]
    clear hV a0 a1 a2 a3 b0 b1 b2 b3
    refine ⟨trivial, ?_⟩
    refine (callsIn_wide.2 HKP.out).mono ?_
    rintro e v5 ⟨rfl, hb5⟩
    have HB5 : Hid (Below w.heap.size w v5) := below_then HBV.out hb5
    clear hb5 HKP HBV
    gi_wp2
    go_ret
    exact ⟨rfl, HB5.out⟩
end Go.Proofs.Ytejnleigjjaenaa

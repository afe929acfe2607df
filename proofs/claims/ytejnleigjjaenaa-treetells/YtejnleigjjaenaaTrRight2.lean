/-
  The walk of tree.Right: a closure that calls itself.
-/
import Derived.Test.YtejnleigjjaenaaTrKids
namespace Go.Proofs.Ytejnleigjjaenaa
open Go.RowKit Go.Shelf

attribute [local go_sem] Oper.semAt_some

theorem right_mk (m : Nat) (x : N1) : Tr.right (m + 1) x.tr = (Tr.textOk x.k x.t && Tr.numOk x.k x.n && Tr.kidsOk x.tr && x.kids.all (Tr.right m)) := by
  obtain ⟨k, t, n, v, kids⟩ := x
  rfl

/-- What the closure holds: the table, and itself. -/
def RightW (w : World) (tb rb r : Nat) : Prop :=
  w.heap[tb]? = some (.cells #[.map (some r)] 45 (0, 0)) ∧ w.heap[rb]? = some (.cells #[.func (.func 23) #[] #[.pointer (some ⟨tb, 0, none⟩), .pointer (some ⟨rb, 0, none⟩)]] 47 (0, 0)) ∧ TabAt w r
theorem RightW.at {A B : World} {tb rb r : Nat} (h : RightW A tb rb r) (hb : Below A.heap.size A B) : RightW B tb rb r :=
  ⟨(hb.block _ (Array.getElem?_eq_some_iff.1 h.1).1).trans h.1, (hb.block _ (Array.getElem?_eq_some_iff.1 h.2.1).1).trans h.2.1, h.2.2.at hb⟩


def RightAt (tb rb r m : Nat) : Prop := ∀ (S : Nat → Prop) (t : Tr) (v : Value) (deep : Nat) (w : World), deep + m = 41 → (∀ b, S b → b < w.heap.size) → NodeR S w v t → RightW w tb rb r →
  Calls Try.prog 23 #[v, .int .i64 deep, .pointer (some ⟨tb, 0, none⟩), .pointer (some ⟨rb, 0, none⟩)] w fun e w' => e = .returned (.bool (Tr.right m t)) ∧ Below w.heap.size w w'

set_option maxRecDepth 100000 in
set_option maxHeartbeats 4000000 in
theorem right_zero (tb rb r : Nat) : RightAt tb rb r 0 := by
  intro S t v deep w hd hS hv hw
  obtain ⟨⟨k, tx, n, kv, kids⟩, rfl, rfl, hf, hr⟩ := hv
  obtain ⟨ka, kc, hkv⟩ := hr.slice
  simp only at hkv
  subst hkv
  simp only [N1.cells]
  have hd41 : deep = 41 := by omega
  subst hd41
  have HB : Hid (Below w.heap.size w (w.alloc (.cells #[.int .u8 k, .string (Ln.bs tx), .int .i64 n, .slice ka kids.length kc] 25))) := below_new w _
  clear hr hf hw hS hd
  go_enter Try.func23, Try.ntmps23
  go_wp2
  go_ret
  exact ⟨rfl, HB.out⟩

set_option maxRecDepth 100000 in
set_option maxHeartbeats 4000000 in
theorem right_succ (tb rb r m : Nat) (ih : RightAt tb rb r m) : RightAt tb rb r (m + 1) := by
  intro S t v deep w hd hS hv hw
  obtain ⟨⟨k, tx, n, kv, kids⟩, rfl, rfl, hf, hr⟩ := hv
  obtain ⟨ka, kc, hkv⟩ := hr.slice
  simp only at hkv
  subst hkv
  rw [right_mk]
  simp only [N1.cells]
  have hd40 : ¬ ((40 : Int) < deep) := by omega
  have dd : decide ((40 : Int) < deep) = false := decide_eq_false hd40
  have hdn : deep ≤ 40 := by omega
  obtain ⟨X, hX⟩ : ∃ X, X = w.alloc (.cells #[.int .u8 k, .string (Ln.bs tx), .int .i64 n, .slice ka kids.length kc] 25) := ⟨_, rfl⟩
  have hB : Below w.heap.size w X := hX ▸ below_new w _
  have hXn : X.heap[w.heap.size]? = some (.cells #[.int .u8 k, .string (Ln.bs tx), .int .i64 n, .slice ka kids.length kc] 25 (0, 0)) := by rw [hX]; exact World.alloc_heap_new w _
  have HTX : Hid (_) := text_any k n tx (.slice ka kids.length kc) X hf.2.1
  have HNM : Hid (∀ w, Calls Try.prog 25 #[.agg #[.int .u8 k, .string (Ln.bs tx), .int .i64 n, .slice ka kids.length kc]] w fun e w' => e = .returned (.bool (Tr.numOk k n)) ∧ Below w.heap.size w w') := fun w => num_any k n (Ln.bs tx) _ w
  have HKD : Hid (∀ W, Below X.heap.size X W → Calls Try.prog 26 #[.map (some r), .agg #[.int .u8 k, .string (Ln.bs tx), .int .i64 n, .slice ka kids.length kc]] W fun e w' => e = .returned (.bool (Tr.kidsOk (N1.tr ⟨k, tx, n, .slice ka kids.length kc, kids⟩))) ∧ Below W.heap.size W w') := fun W hW =>
    kids_any S _ _ r W (fun b hb => Nat.lt_of_lt_of_le (hS b hb) (below_then hB hW).size) ⟨⟨k, tx, n, .slice ka kids.length kc, kids⟩, rfl, rfl, hf, hr.keep (fun b hb => (below_then hB hW).block b (hS b hb)) (fun _ h => h)⟩ ((hw.2.2.at hB).at hW)
  have HCE : Hid (∀ W, Below X.heap.size X W → W.cell? ⟨w.heap.size, 0, none⟩ = some (.int .u8 k) ∧ W.cell? ⟨w.heap.size, 1, none⟩ = some (.string (Ln.bs tx)) ∧ W.cell? ⟨w.heap.size, 2, none⟩ = some (.int .i64 n) ∧ W.cell? ⟨w.heap.size, 3, none⟩ = some (.slice ka kids.length kc) ∧ W.cell? ⟨tb, 0, none⟩ = some (.map (some r)) ∧ W.cell? ⟨rb, 0, none⟩ = some (.func (.func 23) #[] #[.pointer (some ⟨tb, 0, none⟩), .pointer (some ⟨rb, 0, none⟩)]) ∧ RightW W tb rb r) := fun W hW => by
    have h1 := (hW.block _ (Array.getElem?_eq_some_iff.1 hXn).1).trans hXn
    have h2 := (hw.at hB).at hW
    exact ⟨cells_at h1 rfl, cells_at h1 rfl, cells_at h1 rfl, cells_at h1 rfl, cells_at h2.1 rfl, cells_at h2.2.1 rfl, h2⟩
  have HBX : Hid (Below w.heap.size w X) := hB
  have HR : Hid (RowR S w (.slice ka kids.length kc) kids ∧ ∀ b, S b → b < w.heap.size) := ⟨hr, hS⟩
  have HIH : Hid (RightAt tb rb r m) := ih
  clear hr hS hf hw hXn hB ih
  obtain ⟨tO, htO⟩ : ∃ b, b = Tr.textOk k tx := ⟨_, rfl⟩
  obtain ⟨nO, hnO⟩ : ∃ b, b = Tr.numOk k n := ⟨_, rfl⟩
  obtain ⟨kO, hkO⟩ : ∃ b, b = Tr.kidsOk (N1.tr ⟨k, tx, n, .slice ka kids.length kc, kids⟩) := ⟨_, rfl⟩
  rw [← htO] at HTX ⊢
  rw [← hnO] at HNM ⊢
  rw [← hkO] at HKD ⊢
  clear htO hnO hkO
  refine (callsIn_wide (n := 3)).1 ?_
  refine callsIn_of_wp Try.func23 rfl trivial ?_ rfl
  simp only [Try.ntmps23, List.size_toArray, List.length_cons, List.length_nil, Nat.reduceAdd, Nat.reduceSub, Array.replicate_succ, Array.replicate_zero, List.push_toArray, List.append_toArray, List.nil_append, List.cons_append]
  gi_wp2
  rw [← hX]
  clear hX
  refine ⟨trivial, ?_⟩
  refine (callsIn_wide.2 HTX.out).mono ?_
  rintro e w1 ⟨rfl, hb1⟩
  have B1 : Hid (Below X.heap.size X w1) := hb1
  obtain ⟨e0, e1, e2, e3, et, -, -⟩ := HCE.out w1 hb1
  clear HTX hb1
  cases tO
  · gi_wp2
    refine ⟨trivial, ?_⟩
    gi_wp2
    refine ⟨trivial, ?_⟩
    gi_wp2
    go_ret
    exact ⟨rfl, below_then HBX.out B1.out⟩
  gi_wp2
  refine ⟨trivial, ?_⟩
  refine (callsIn_wide.2 (HNM.out w1)).mono ?_
  rintro e w2 ⟨rfl, hb2⟩
  have B2 : Hid (Below X.heap.size X w2) := below_then B1.out hb2
  clear HNM hb2 e0 e1 e2 e3 et B1
  obtain ⟨e0, e1, e2, e3, et, -, -⟩ := HCE.out w2 B2.out
  cases nO
  · gi_wp2
    refine ⟨trivial, ?_⟩
    gi_wp2
    go_ret
    exact ⟨rfl, below_then HBX.out B2.out⟩
  gi_wp2
  refine ⟨trivial, ?_⟩
  refine (callsIn_wide.2 (HKD.out w2 B2.out)).mono ?_
  rintro e w3 ⟨rfl, hb3⟩
  have B3 : Hid (Below X.heap.size X w3) := below_then B2.out hb3
  clear HKD hb3 e0 e1 e2 e3 et B2
  obtain ⟨e0, e1, e2, e3, et, -, -⟩ := HCE.out w3 B3.out
  cases kO
  · gi_wp2
    go_ret
    exact ⟨rfl, below_then HBX.out B3.out⟩
  obtain ⟨xs, xa, xc, xb, xo, ex, hxv, -, hxa, hxl, hx⟩ := HR.out.1.parts
  cases hxv
  have HX : Hid (_) := hx
  have HEX : Hid (kids = xs.map N1.tr) := ex
  obtain ⟨N, hN⟩ : ∃ N, N = kids.length := ⟨_, rfl⟩
  have HN : Hid (N = kids.length) := hN
  rw [← hN] at hxa hxl e3 ⊢
  clear hx ex hN e0 e1 e2 et
  have HST : Hid (kids.all (Tr.right m) = (kids.drop 0).all (Tr.right m)) := rfl
  gi_wp2
  gi_loopw [30] (fun i wr => ∃ q : Nat, q ≤ N ∧ i = .int .i64 q ∧ Below X.heap.size X wr ∧ kids.all (Tr.right m) = (kids.drop q).all (Tr.right m)) (fun i _ => N - (intOf i).toNat)
  case atStart => exact ⟨0, Nat.zero_le _, rfl, B3.out, HST.out⟩
  case round =>
    clear HST B3 e3
    obtain ⟨q, hq, rfl, hbr, hall⟩ := hrel
    by_cases hlt : q < N
    · obtain ⟨rfl, hSb⟩ := hxa (by omega)
      have hql : q < xs.length := by have := HN.out; rw [HEX.out, List.length_map] at this; omega
      obtain ⟨⟨zk, zt, zn, zv, zkids⟩, hzq⟩ : ∃ z, xs[q]? = some z := ⟨xs[q], List.getElem?_eq_getElem hql⟩
      obtain ⟨zf, zr, z0, z1, z2, z3⟩ := HX.out q _ hzq
      simp only at z0 z1 z2 z3 zr
      have hbw : Below w.heap.size w wr := below_then HBX.out hbr
      have hxb : xb < w.heap.size := HR.out.2 xb hSb
      have tr : ∀ j u, w.cell? ⟨xb, j, none⟩ = some u → wr.cell? ⟨xb, j, none⟩ = some u := fun j u h => (hbw.cell (p := ⟨xb, j, none⟩) hxb).trans h
      replace z0 := tr _ _ z0
      replace z1 := tr _ _ z1
      replace z2 := tr _ _ z2
      replace z3 := tr _ _ z3
      obtain ⟨za, zc, hzv⟩ := zr.slice
      subst hzv
      have hkq : kids[q]? = some (N1.tr ⟨zk, zt, zn, .slice za zkids.length zc, zkids⟩) := by rw [HEX.out, List.getElem?_map, hzq]; rfl
      have hql' : q < kids.length := by have := HN.out; omega
      have edrop : kids.drop q = N1.tr ⟨zk, zt, zn, .slice za zkids.length zc, zkids⟩ :: kids.drop (q + 1) := by
        rw [List.getElem?_eq_getElem hql'] at hkq
        rw [List.drop_eq_getElem_cons hql', Option.some.inj hkq]
      obtain ⟨Y, hY⟩ : ∃ Y, Y = wr.alloc (.cells #[.int .u8 zk, .string (Ln.bs zt), .int .i64 zn, .slice za zkids.length zc] 25) := ⟨_, rfl⟩
      have hbY : Below X.heap.size X Y := below_then hbr (hY ▸ below_new wr _)
      have hbwY : Below w.heap.size w Y := below_then HBX.out hbY
      have HC : Hid (_) := HIH.out S (N1.tr ⟨zk, zt, zn, .slice za zkids.length zc, zkids⟩) (.agg #[.int .u8 zk, .string (Ln.bs zt), .int .i64 zn, .slice za zkids.length zc]) (deep + 1) Y (by omega) (fun b hb => Nat.lt_of_lt_of_le (HR.out.2 b hb) hbwY.size) ⟨⟨zk, zt, zn, .slice za zkids.length zc, zkids⟩, rfl, rfl, zf, zr.keep (fun b hb => hbwY.block b (HR.out.2 b hb)) (fun _ h => h)⟩ (HCE.out Y hbY).2.2.2.2.2.2
      have er := (HCE.out Y hbY).2.2.2.2.2.1
      have hYn : Y.heap[wr.heap.size]? = some (.cells #[.int .u8 zk, .string (Ln.bs zt), .int .i64 zn, .slice za zkids.length zc] 25 (0, 0)) := by rw [hY]; exact World.alloc_heap_new wr _
      have y0 : Y.cell? ⟨wr.heap.size, 0, none⟩ = some (.int .u8 zk) := cells_at hYn rfl
      have y1 : Y.cell? ⟨wr.heap.size, 1, none⟩ = some (.string (Ln.bs zt)) := cells_at hYn rfl
      have y2 : Y.cell? ⟨wr.heap.size, 2, none⟩ = some (.int .i64 zn) := cells_at hYn rfl
      have y3 : Y.cell? ⟨wr.heap.size, 3, none⟩ = some (.slice za zkids.length zc) := cells_at hYn rfl
      have HBY : Hid (Below X.heap.size X Y) := hbY
      have HALL : Hid (kids.all (Tr.right m) = (Tr.right m (N1.tr ⟨zk, zt, zn, .slice za zkids.length zc, zkids⟩) && (kids.drop (q + 1)).all (Tr.right m))) := by rw [hall, edrop]; rfl
      have edp : ((deep + 1 : Nat) : Int) = (deep : Int) + 1 := by simp
      obtain ⟨ro, hro⟩ : ∃ b, b = Tr.right m (N1.tr ⟨zk, zt, zn, .slice za zkids.length zc, zkids⟩) := ⟨_, rfl⟩
      rw [← hro] at HC HALL
      rw [edp] at HC
      rw [hY] at HC er y0 y1 y2 y3
      clear hall hkq hzq hbw tr zr zf hbY hbwY hbr edrop hro hYn edp hql'
      gi_wp2
      rw [← hY] at HC ⊢
      clear er y0 y1 y2 y3
      refine ⟨trivial, ?_⟩
      refine (callsIn_wide.2 HC.out).mono ?_
      rintro e w4 ⟨rfl, hb4⟩
      have B4 : Hid (Below X.heap.size X w4) := below_then HBY.out hb4
      clear hb4 HC hY HBY
      cases ro
      · gi_wp2
        go_ret
        refine ⟨congrArg (fun b => Ending.returned (.bool b)) ?_, below_then HBX.out B4.out⟩
        rw [HALL.out]
        rfl
      · have HEND : Hid (kids.all (Tr.right m) = (kids.drop (q + 1)).all (Tr.right m)) := by rw [HALL.out]; rfl
        clear HALL
        gi_wp2
        refine ⟨⟨q + 1, by omega, by simp, B4.out, HEND.out⟩, by simp [intOf]; omega⟩
    · have hqN : q = N := by omega
      subst hqN
      have hend : kids.all (Tr.right m) = true := by rw [hall, HN.out, List.drop_length]; rfl
      have HE : Hid (kids.all (Tr.right m) = true ∧ Below w.heap.size w wr) := ⟨hend, below_then HBX.out hbr⟩
      clear hall hend hbr
      gi_wp2
      go_ret
      refine ⟨congrArg (fun b => Ending.returned (.bool b)) ?_, HE.out.2⟩
      rw [HE.out.1]
      rfl

theorem right_at (tb rb r : Nat) : ∀ m, RightAt tb rb r m
  | 0 => right_zero tb rb r
  | m + 1 => right_succ tb rb r m (right_at tb rb r m)

set_option maxRecDepth 100000 in
set_option maxHeartbeats 4000000 in
theorem tright_any (S : Nat → Prop) (t : Tr) (v : Value) (w : World) (hS : ∀ b, S b → b < w.heap.size) (hv : NodeR S w v t) : Calls Try.prog 7 #[v] w fun e w' => e = .returned (.bool (Tr.right 40 t)) ∧ Below w.heap.size w w' := by
  obtain ⟨⟨k, tx, n, kv, kids⟩, rfl, rfl, hf, hr⟩ := hv
  obtain ⟨ka, kc, hkv⟩ := hr.slice
  simp only at hkv
  subst hkv
  simp only [N1.cells]
  obtain ⟨X, hX⟩ : ∃ X, X = w.alloc (.cells #[.int .u8 k, .string (Ln.bs tx), .int .i64 n, .slice ka kids.length kc] 25) := ⟨_, rfl⟩
  have hB : Below w.heap.size w X := hX ▸ below_new w _
  have hXn : X.heap[w.heap.size]? = some (.cells #[.int .u8 k, .string (Ln.bs tx), .int .i64 n, .slice ka kids.length kc] 25 (0, 0)) := by rw [hX]; exact World.alloc_heap_new w _
  have HRO : Hid (_) := rows_any X
  have HX : Hid (Below w.heap.size w X ∧ X.heap[w.heap.size]? = some (.cells #[.int .u8 k, .string (Ln.bs tx), .int .i64 n, .slice ka kids.length kc] 25 (0, 0)) ∧ (⟨k, tx, n, .slice ka kids.length kc, kids⟩ : N1).Fit ∧ RowR S w (.slice ka kids.length kc) kids ∧ ∀ b, S b → b < w.heap.size) := ⟨hB, hXn, hf, hr, hS⟩
  clear hB hXn hf hr hS
  have hstf := fun (a : Addr) (fn : Fn) (c1 c2 : Array Value) (w : World) => run_store Try.prog w a (.func fn c1 c2) .plain rfl
  go_enter Try.func7, Try.ntmps7
  go_wp2_with fail
  rw [← hX]
  clear hX
  refine Calls.mono HRO.out ?_
  rintro e w1 ⟨rfl, ht⟩
  have hbt := ht.1
  have htab := ht.tab
  obtain ⟨A1, h1⟩ : ∃ A, A = w1.alloc (.cells #[.map (some X.heap.size)] 45) := ⟨_, rfl⟩
  obtain ⟨A2, h2⟩ : ∃ A, A = A1.alloc (.cells #[.func (.func 23) #[] #[.pointer (some ⟨w1.heap.size, 0, none⟩), .pointer (some ⟨w1.heap.size + 1, 0, none⟩)]] 47) := ⟨_, rfl⟩
  have s1 : A1.heap.size = w1.heap.size + 1 := by rw [h1, World.size_alloc]
  have n1 := World.alloc_heap_new w1 (.cells #[.map (some X.heap.size)] 45)
  have n2 := World.alloc_heap_new A1 (.cells #[.func (.func 23) #[] #[.pointer (some ⟨w1.heap.size, 0, none⟩), .pointer (some ⟨w1.heap.size + 1, 0, none⟩)]] 47)
  rw [← h1] at n1
  rw [← h2, s1] at n2
  have b1 : Below w1.heap.size w1 A1 := h1 ▸ below_new w1 _
  have b2 : Below A1.heap.size A1 A2 := h2 ▸ below_new A1 _
  have b12 := below_then b1 b2
  have bX2 : Below X.heap.size X A2 := below_then hbt b12
  have bw : Below w.heap.size w A2 := below_then HX.out.1 bX2
  have hRW : RightW A2 w1.heap.size (w1.heap.size + 1) X.heap.size := ⟨(b2.block _ (by omega)).trans n1, n2, htab.at b12⟩
  have hnb : A2.heap[w.heap.size]? = some (.cells #[.int .u8 k, .string (Ln.bs tx), .int .i64 n, .slice ka kids.length kc] 25 (0, 0)) := (bX2.block _ (Array.getElem?_eq_some_iff.1 HX.out.2.1).1).trans HX.out.2.1
  have HC : Hid (_) := right_at w1.heap.size (w1.heap.size + 1) X.heap.size 40 S (N1.tr ⟨k, tx, n, .slice ka kids.length kc, kids⟩) (.agg #[.int .u8 k, .string (Ln.bs tx), .int .i64 n, .slice ka kids.length kc]) 1 A2 (by omega) (fun b hb => Nat.lt_of_lt_of_le (HX.out.2.2.2.2 b hb) bw.size) ⟨⟨k, tx, n, .slice ka kids.length kc, kids⟩, rfl, rfl, HX.out.2.2.1, HX.out.2.2.2.1.keep (fun b hb => bw.block b (HX.out.2.2.2.2 b hb)) (fun _ h => h)⟩ hRW
  have c0 : A2.cell? ⟨w.heap.size, 0, none⟩ = some (.int .u8 k) := cells_at hnb rfl
  have c1 : A2.cell? ⟨w.heap.size, 1, none⟩ = some (.string (Ln.bs tx)) := cells_at hnb rfl
  have c2 : A2.cell? ⟨w.heap.size, 2, none⟩ = some (.int .i64 n) := cells_at hnb rfl
  have c3 : A2.cell? ⟨w.heap.size, 3, none⟩ = some (.slice ka kids.length kc) := cells_at hnb rfl
  have cr : A2.cell? ⟨w1.heap.size + 1, 0, none⟩ = some (.func (.func 23) #[] #[.pointer (some ⟨w1.heap.size, 0, none⟩), .pointer (some ⟨w1.heap.size + 1, 0, none⟩)]) := cells_at n2 rfl
  have HBW : Hid (Below w.heap.size w A2) := bw
  rw [h2, h1] at c0 c1 c2 c3 cr
  clear hbt ht htab s1 n1 n2 b1 b2 b12 bX2 bw hRW hnb HX HRO
  go_wp2_with fail
  rw [← h1, ← h2]
  refine Calls.mono HC.out ?_
  rintro e w2 ⟨rfl, hb2⟩
  have HB2 : Hid (Below w.heap.size w w2) := below_then HBW.out hb2
  clear hb2 HC
  go_wp2
  go_ret
  exact ⟨rfl, HB2.out⟩
end Go.Proofs.Ytejnleigjjaenaa

/-
  The walks of SameNode and SameNodes.
-/
import Derived.Test.YtejnleigjjaenaaTrCount
namespace Go.Proofs.Ytejnleigjjaenaa
open Go.RowKit Go.Shelf

attribute [local go_sem] Oper.semAt_some

namespace Tr
mutual
/-- Whether two trees are the same. -/
def eqb : Tr → Tr → Bool
  | .mk k t n l, .mk k' t' n' l' => k == k' && t == t' && n == n' && eqbL l l'
def eqbL : List Tr → List Tr → Bool
  | [], [] => true
  | x :: l, y :: r => eqb x y && eqbL l r
  | _, _ => false
end
mutual
theorem eqb_iff : ∀ (x y : Tr), eqb x y = true ↔ x = y
  | .mk k t n l, .mk k' t' n' l' => by
    have := eqbL_iff l l'
    simp [eqb, this, and_assoc]
theorem eqbL_iff : ∀ (l r : List Tr), eqbL l r = true ↔ l = r
  | [], [] => by simp [eqbL]
  | x :: l, y :: r => by
    have h1 := eqb_iff x y
    have h2 := eqbL_iff l r
    simp [eqbL, h1, h2]
  | [], _ :: _ => by simp [eqbL]
  | _ :: _, [] => by simp [eqbL]
end
theorem eqb_refl (x : Tr) : eqb x x = true := (eqb_iff x x).2 rfl
theorem eqbL_len {l r : List Tr} (h : l.length ≠ r.length) : eqbL l r = false := by
  rw [Bool.eq_false_iff]
  intro e
  exact h (by rw [(eqbL_iff l r).1 e])
theorem eqbL_drop {l r : List Tr} {i : Nat} {x y : Tr} (hx : l[i]? = some x) (hy : r[i]? = some y) : eqbL (l.drop i) (r.drop i) = (eqb x y && eqbL (l.drop (i + 1)) (r.drop (i + 1))) := by
  have h1 := (List.getElem?_eq_some_iff.1 hx).1
  have h2 := (List.getElem?_eq_some_iff.1 hy).1
  rw [List.getElem?_eq_getElem h1] at hx
  rw [List.getElem?_eq_getElem h2] at hy
  rw [List.drop_eq_getElem_cons h1, List.drop_eq_getElem_cons h2, Option.some.inj hx, Option.some.inj hy]
  simp [eqbL]
end Tr
theorem eqb_mk (x y : N1) : Tr.eqb x.tr y.tr = (x.k == y.k && x.t == y.t && x.n == y.n && Tr.eqbL x.kids y.kids) := by
  show Tr.eqb (.mk x.k x.t x.n x.kids) (.mk y.k y.t y.n y.kids) = _
  simp [Tr.eqb]

/-- A row of nodes whose rows are told the same. -/
def SameRowsAt (l : List Tr) : Prop := ∀ (S S' : Nat → Prop) (v v' : Value) (r : List Tr) (w : World), (∀ b, S b → b < w.heap.size) → (∀ b, S' b → b < w.heap.size) → RowR S w v l → RowR S' w v' r →
  Calls Try.prog 38 #[v, v'] w fun e w' => e = .returned (.bool (Tr.eqbL l r)) ∧ Below w.heap.size w w'
def SameNodeAt (t : Tr) : Prop := ∀ (S S' : Nat → Prop) (v v' : Value) (t' : Tr) (w : World), (∀ b, S b → b < w.heap.size) → (∀ b, S' b → b < w.heap.size) → NodeR S w v t → NodeR S' w v' t' →
  Calls Try.prog 15 #[v, v'] w fun e w' => e = .returned (.bool (Tr.eqb t t')) ∧ Below w.heap.size w w'

set_option maxRecDepth 100000 in
set_option maxHeartbeats 4000000 in
theorem sameNode_step (t : Tr) (ih : SameRowsAt t.kids) : SameNodeAt t := by
  intro S S' v v' t' w hS hS' hv hv'
  obtain ⟨⟨k, tx, n, kv, kids⟩, rfl, rfl, hf, hr⟩ := hv
  obtain ⟨ka, kc, hkv⟩ := hr.slice
  simp only at hkv
  subst hkv
  obtain ⟨⟨k', tx', n', kv', kids'⟩, rfl, rfl, hf', hr'⟩ := hv'
  obtain ⟨ka', kc', hkv'⟩ := hr'.slice
  simp only at hkv'
  subst hkv'
  rw [eqb_mk]
  simp only [N1.cells]
  obtain ⟨A1, h1⟩ : ∃ A, A = w.alloc (.cells #[.int .u8 k, .string (Ln.bs tx), .int .i64 n, .slice ka kids.length kc] 25) := ⟨_, rfl⟩
  obtain ⟨A2, h2⟩ : ∃ A, A = A1.alloc (.cells #[.int .u8 k', .string (Ln.bs tx'), .int .i64 n', .slice ka' kids'.length kc'] 25) := ⟨_, rfl⟩
  have b1 : Below w.heap.size w A1 := h1 ▸ below_new w _
  have b2 : Below A1.heap.size A1 A2 := h2 ▸ below_new A1 _
  have b12 : Below w.heap.size w A2 := below_then b1 b2
  have HC : Hid (_) := ih S S' (.slice ka kids.length kc) (.slice ka' kids'.length kc') kids' A2 (fun b hb => Nat.lt_of_lt_of_le (hS b hb) b12.size) (fun b hb => Nat.lt_of_lt_of_le (hS' b hb) b12.size) (hr.keep (fun b hb => b12.block b (hS b hb)) (fun _ h => h)) (hr'.keep (fun b hb => b12.block b (hS' b hb)) (fun _ h => h))
  have HB : Hid (Below w.heap.size w A2) := b12
  have e1 : ((Ln.bs tx).toList == (Ln.bs tx').toList) = (tx == tx') := by rw [Lib.toList_data, Lib.toList_data]; rfl
  have hcl : (N1.tr ⟨k, tx, n, .slice ka kids.length kc, kids⟩).kids = kids := rfl
  rw [hcl] at HC
  obtain ⟨bk, hbk⟩ : ∃ b, b = (k == k') := ⟨_, rfl⟩
  obtain ⟨bt, hbt⟩ : ∃ b, b = (tx == tx') := ⟨_, rfl⟩
  obtain ⟨bn, hbn⟩ : ∃ b, b = (n == n') := ⟨_, rfl⟩
  have f1 : (k == k') = bk := hbk.symm
  have f2 : ((Ln.bs tx).toList == (Ln.bs tx').toList) = bt := e1.trans hbt.symm
  have f3 : (n == n') = bn := hbn.symm
  rw [← hbk, ← hbt, ← hbn]
  clear b1 b2 b12 ih hr hr' hf hf' e1 hbk hbt hbn hcl
  refine (callsIn_wide (n := 3)).1 ?_
  refine callsIn_of_wp Try.func15 rfl trivial ?_ rfl
  simp only [Try.ntmps15, List.size_toArray, List.length_cons, List.length_nil, Nat.reduceAdd, Nat.reduceSub, Array.replicate_succ, Array.replicate_zero, List.push_toArray, List.append_toArray, List.nil_append, List.cons_append]
  cases bk
  · rw [h2, h1] at HB
    gi_wp2
    refine ⟨trivial, ?_⟩
    gi_wp2
    go_ret
    exact ⟨rfl, HB.out⟩
  cases bt
  · rw [h2, h1] at HB
    gi_wp2
    refine ⟨trivial, ?_⟩
    gi_wp2
    go_ret
    exact ⟨rfl, HB.out⟩
  cases bn
  · rw [h2, h1] at HB
    gi_wp2
    refine ⟨trivial, ?_⟩
    gi_wp2
    go_ret
    exact ⟨rfl, HB.out⟩
  gi_wp2
  rw [← h1, ← h2]
  refine ⟨trivial, ?_⟩
  refine (callsIn_wide.2 HC.out).mono ?_
  rintro e w2 ⟨rfl, hb2⟩
  have HB2 : Hid (Below w.heap.size w w2) := below_then HB.out hb2
  clear hb2 HC h1 h2
  gi_wp2
  go_ret
  exact ⟨rfl, HB2.out⟩

set_option maxRecDepth 100000 in
set_option maxHeartbeats 4000000 in
theorem sameRows_step (l : List Tr) (ih : ∀ x ∈ l, SameNodeAt x) : SameRowsAt l := by
  intro S S' v v' r w hS hS' hv hv'
  obtain ⟨xs, xa, xc, xb, xo, ex, hxv, -, hxa, hxl, hx⟩ := hv.parts
  obtain ⟨ys, ya, yc, yb, yo, ey, hyv, -, hya, hyl, hy⟩ := hv'.parts
  subst hxv
  subst hyv
  by_cases hlen : l.length = r.length
  · have HX : Hid (_) := hx
    have HY : Hid (_) := hy
    have HSS : Hid ((∀ b, S b → b < w.heap.size) ∧ ∀ b, S' b → b < w.heap.size) := ⟨hS, hS'⟩
    have HEX : Hid (l = xs.map N1.tr ∧ r = ys.map N1.tr) := ⟨ex, ey⟩
    have HIH : Hid (∀ x ∈ l, SameNodeAt x) := ih
    obtain ⟨N, hN⟩ : ∃ N, N = l.length := ⟨_, rfl⟩
    have HN : Hid (N = l.length ∧ N = r.length) := ⟨hN, hN.trans hlen⟩
    have HST : Hid (Tr.eqbL l r = Tr.eqbL (l.drop 0) (r.drop 0)) := rfl
    rw [← hlen] at hya hyl ⊢
    rw [← hN] at hxa hxl hya hyl ⊢
    clear hx hy hS hS' ex ey ih hv hv' hN hlen hyl
    refine (callsIn_wide (n := 3)).1 ?_
    refine callsIn_of_wp Try.func38 rfl trivial ?_ rfl
    simp only [Try.ntmps38, List.size_toArray, List.length_cons, List.length_nil, Nat.reduceAdd, Nat.reduceSub, Array.replicate_succ, Array.replicate_zero, List.push_toArray, List.append_toArray, List.nil_append, List.cons_append]
    gi_wp2
    gi_loopw [5] (fun i wr => ∃ q : Nat, q ≤ N ∧ i = .int .i64 q ∧ Below w.heap.size w wr ∧ Tr.eqbL l r = Tr.eqbL (l.drop q) (r.drop q)) (fun i _ => N - (intOf i).toNat)
    case atStart => exact ⟨0, Nat.zero_le _, rfl, Below.refl _ _, HST.out⟩
    case round =>
      clear HST
      obtain ⟨q, hq, rfl, hbr, hall⟩ := hrel
      by_cases hlt : q < N
      · obtain ⟨rfl, hSb⟩ := hxa (by omega)
        obtain ⟨rfl, hSb'⟩ := hya (by omega)
        have hql : q < xs.length := by have := HN.out.1; rw [HEX.out.1, List.length_map] at this; omega
        have hql' : q < ys.length := by have := HN.out.2; rw [HEX.out.2, List.length_map] at this; omega
        obtain ⟨⟨zk, zt, zn, zv, zkids⟩, hzq⟩ : ∃ z, xs[q]? = some z := ⟨xs[q], List.getElem?_eq_getElem hql⟩
        obtain ⟨⟨uk, ut, un, uv, ukids⟩, huq⟩ : ∃ z, ys[q]? = some z := ⟨ys[q], List.getElem?_eq_getElem hql'⟩
        obtain ⟨zf, zr, z0, z1, z2, z3⟩ := HX.out q _ hzq
        obtain ⟨uf, ur, u0, u1, u2, u3⟩ := HY.out q _ huq
        simp only at z0 z1 z2 z3 zr u0 u1 u2 u3 ur
        obtain ⟨za, zc, hzv⟩ := zr.slice
        subst hzv
        obtain ⟨ua, uc, huv⟩ := ur.slice
        subst huv
        have hxb : xb < w.heap.size := HSS.out.1 xb hSb
        have hyb : yb < w.heap.size := HSS.out.2 yb hSb'
        have hkq : l[q]? = some (N1.tr ⟨zk, zt, zn, .slice za zkids.length zc, zkids⟩) := by rw [HEX.out.1, List.getElem?_map, hzq]; rfl
        have hkq' : r[q]? = some (N1.tr ⟨uk, ut, un, .slice ua ukids.length uc, ukids⟩) := by rw [HEX.out.2, List.getElem?_map, huq]; rfl
        have HALL : Hid (Tr.eqbL l r = (Tr.eqb (N1.tr ⟨zk, zt, zn, .slice za zkids.length zc, zkids⟩) (N1.tr ⟨uk, ut, un, .slice ua ukids.length uc, ukids⟩) && Tr.eqbL (l.drop (q + 1)) (r.drop (q + 1)))) := hall.trans (Tr.eqbL_drop hkq hkq')
        have CF : ∀ z, Below w.heap.size w z → (z.cell? ⟨xb, xo + q * 4, none⟩ = some (.int .u8 zk) ∧ z.cell? ⟨xb, xo + q * 4 + 1, none⟩ = some (.string (Ln.bs zt)) ∧ z.cell? ⟨xb, xo + q * 4 + 2, none⟩ = some (.int .i64 zn) ∧ z.cell? ⟨xb, xo + q * 4 + 3, none⟩ = some (.slice za zkids.length zc)) ∧ (z.cell? ⟨yb, yo + q * 4, none⟩ = some (.int .u8 uk) ∧ z.cell? ⟨yb, yo + q * 4 + 1, none⟩ = some (.string (Ln.bs ut)) ∧ z.cell? ⟨yb, yo + q * 4 + 2, none⟩ = some (.int .i64 un) ∧ z.cell? ⟨yb, yo + q * 4 + 3, none⟩ = some (.slice ua ukids.length uc)) := fun z hz => by
          have tx : ∀ j u, w.cell? ⟨xb, j, none⟩ = some u → z.cell? ⟨xb, j, none⟩ = some u := fun j u h => (hz.cell (p := ⟨xb, j, none⟩) hxb).trans h
          have ty : ∀ j u, w.cell? ⟨yb, j, none⟩ = some u → z.cell? ⟨yb, j, none⟩ = some u := fun j u h => (hz.cell (p := ⟨yb, j, none⟩) hyb).trans h
          exact ⟨⟨tx _ _ z0, tx _ _ z1, tx _ _ z2, tx _ _ z3⟩, ⟨ty _ _ u0, ty _ _ u1, ty _ _ u2, ty _ _ u3⟩⟩
        have HCF : Hid (_) := CF
        have hbd : Below w.heap.size w wr.drew := below_then hbr (below_draw wr 1)
        have HC : Hid (_) := HIH.out _ (List.mem_of_getElem? hkq) S S' (.agg #[.int .u8 zk, .string (Ln.bs zt), .int .i64 zn, .slice za zkids.length zc]) (.agg #[.int .u8 uk, .string (Ln.bs ut), .int .i64 un, .slice ua ukids.length uc]) (N1.tr ⟨uk, ut, un, .slice ua ukids.length uc, ukids⟩) wr.drew (fun b hb => Nat.lt_of_lt_of_le (HSS.out.1 b hb) hbd.size) (fun b hb => Nat.lt_of_lt_of_le (HSS.out.2 b hb) hbd.size)
          ⟨⟨zk, zt, zn, .slice za zkids.length zc, zkids⟩, rfl, rfl, zf, zr.keep (fun b hb => hbd.block b (HSS.out.1 b hb)) (fun _ h => h)⟩ ⟨⟨uk, ut, un, .slice ua ukids.length uc, ukids⟩, rfl, rfl, uf, ur.keep (fun b hb => hbd.block b (HSS.out.2 b hb)) (fun _ h => h)⟩
        have HBD : Hid (Below w.heap.size w wr.drew) := hbd
        obtain ⟨eq9, he9⟩ : ∃ b, b = Tr.eqb (N1.tr ⟨zk, zt, zn, .slice za zkids.length zc, zkids⟩) (N1.tr ⟨uk, ut, un, .slice ua ukids.length uc, ukids⟩) := ⟨_, rfl⟩
        rw [← he9] at HC HALL
        clear hall hkq hkq' zr zf ur uf hbr hzq huq CF z0 z1 z2 z3 u0 u1 u2 u3 he9 hbd
        gi_wp2
        refine region_lex (fun z => Below w.heap.size w z) 8 2 rfl (by kernel_rfl) (by kernel_rfl) (by kernel_rfl) (by kernel_rfl) (fun _ _ d _ _ h => by cases d <;> exact h) HBD.out ?_
        simp only [List.take_succ_cons, List.take_zero]
        iterate 8 (first
          | (apply lexC_want
             · rfl
             · exact fun _ => rfl
             · (intro w' hw'; obtain ⟨⟨a0, a1, a2, a3⟩, ⟨b0, b1, b2, b3⟩⟩ := HCF.out w' hw'; go_simp; try rfl)
             simp only [Act.put, List.setIfInBounds_toArray, List.set_cons_zero, List.set_cons_succ]))
        refine lexC_nil ?_
        refine anyC_one (i := 8) (by kernel_rfl) rfl (by rfl) (fun K1 hK1 => ?_)
        go_simp
        refine ⟨trivial, ?_⟩
        refine (callsIn_wide.2 HC.out).mono ?_
        rintro e w2 ⟨rfl, hb2⟩
        have B2 : Below w.heap.size w w2 := below_then HBD.out hb2
        refine hK1 _ _ B2 ?_
        clear hK1 hb2 HC HBD HCF
        refine anyC_one (i := 9) (by kernel_rfl) rfl (by rfl) (fun K2 hK2 => ?_)
        go_simp
        refine hK2 _ _ B2 ?_
        clear hK2
        have HB2 : Hid (Below w.heap.size w w2) := B2
        clear B2
        refine anyC_done (by kernel_rfl) ?_
        cases eq9
        · gi_wp2
          go_ret
          refine ⟨congrArg (fun b => Ending.returned (.bool b)) ?_, HB2.out⟩
          rw [HALL.out]; rfl
        · have HEND : Hid (Tr.eqbL l r = Tr.eqbL (l.drop (q + 1)) (r.drop (q + 1))) := by rw [HALL.out]; rfl
          clear HALL
          gi_wp2
          refine ⟨⟨q + 1, by omega, by simp, HB2.out, HEND.out⟩, by simp [intOf]; omega⟩
      · have hqN : q = N := by omega
        subst hqN
        have HE : Hid (Tr.eqbL l r = true ∧ Below w.heap.size w wr) := by
          refine ⟨?_, hbr⟩
          rw [hall, List.drop_eq_nil_of_le (by have := HN.out.1; omega), List.drop_eq_nil_of_le (by have := HN.out.2; omega)]
          simp [Tr.eqbL]
        clear hall hbr
        gi_wp2
        go_ret
        refine ⟨congrArg (fun b => Ending.returned (.bool b)) ?_, HE.out.2⟩
        rw [HE.out.1]
  · rw [Tr.eqbL_len hlen]
    have d1 : decide ((l.length : Int) = r.length) = false := decide_eq_false (by omega)
    have d2 : ((l.length : Int) == r.length) = false := by simpa using (by omega : ¬ ((l.length : Int) = r.length))
    have HB : Hid (Below w.heap.size w w) := Below.refl _ _
    obtain ⟨N, hN⟩ : ∃ N, N = l.length := ⟨_, rfl⟩
    obtain ⟨M, hM⟩ : ∃ N, N = r.length := ⟨_, rfl⟩
    rw [← hN, ← hM] at d1 d2 ⊢
    clear hx hy hv hv' ih ex ey hxa hya hxl hyl hlen hN hM
    refine (callsIn_wide (n := 3)).1 ?_
    refine callsIn_of_wp Try.func38 rfl trivial ?_ rfl
    simp only [Try.ntmps38, List.size_toArray, List.length_cons, List.length_nil, Nat.reduceAdd, Nat.reduceSub, Array.replicate_succ, Array.replicate_zero, List.push_toArray, List.append_toArray, List.nil_append, List.cons_append]
    gi_wp2
    go_ret
    exact ⟨rfl, HB.out⟩

theorem sameNode_all : ∀ (m : Nat) (t : Tr), t.size ≤ m → SameNodeAt t
  | 0, t, h => by have := Tr.size_eq t; omega
  | m + 1, t, h => sameNode_step t (sameRows_step t.kids (fun y hy => sameNode_all m y (by have := Tr.size_eq t; have := Tr.sizes_mem hy; omega)))
theorem sameNode_any (t : Tr) : SameNodeAt t := sameNode_all _ t (Nat.le_refl _)
theorem sameNodes_any (l : List Tr) : SameRowsAt l := sameRows_step l (fun y _ => sameNode_any y)

end Go.Proofs.Ytejnleigjjaenaa

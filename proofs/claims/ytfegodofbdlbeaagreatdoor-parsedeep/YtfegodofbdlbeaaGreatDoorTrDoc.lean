/-
  Several texts in one, as they are: TrPut, TrPut2, TrSort, TrNames, TrNames2, TrSame, TrAwake, TrFits, TrFits2, TrFitsLaw, TrRefMath, TrRefSize, TrRefText, TrRefRight.
-/
import Derived.Test.YtfegodofbdlbeaaGreatDoorTrAll
import Derived.Lib.OwnBridge
import Derived.Sort.OwnSorted
import Derived.Lib.RowBridge
import Derived.Lib.SlicesCompact
import Derived.Test.YtfegodofbdlbeaaGreatDoorBaseAll
import Derived.Test.YtfegodofbdlbeaaGreatDoorRefAll
import Derived.Deep.CutRange
import Derived.Deep.QuietTactic
import Derived.BigQuiet
import Derived.Deep.RegionWith

/-
  The walk of tree.Put.
-/
namespace Go.Proofs.YtfegodofbdlbeaaGreatDoor
open Go.RowKit Go.Shelf

attribute [local go_sem] Oper.semAt_some

namespace Tr
theorem sizes_set : ∀ (l : List Tr) (q : Nat) (y z : Tr), l[q]? = some y → sizes (l.set q z) + size y = sizes l + size z
  | [], q, _, _, h => by simp at h
  | x :: l, 0, y, z, h => by
    simp at h; subst h
    simp [List.set_cons_zero, sizes_cons]; omega
  | x :: l, q + 1, y, z, h => by
    have := sizes_set l q y z (by simpa using h)
    rw [List.set_cons_succ, sizes_cons, sizes_cons]; omega
theorem texts_set : ∀ (l : List Tr) (q : Nat) (z : Tr), ∀ s ∈ textsL (l.set q z), s ∈ textsL l ∨ s ∈ texts z
  | [], _, _, s, h => by simp [textsL_nil] at h
  | x :: l, 0, z, s, h => by
    rw [List.set_cons_zero, textsL_cons, List.mem_append] at h
    rcases h with h | h
    · exact .inr h
    · exact .inl (by rw [textsL_cons, List.mem_append]; exact .inr h)
  | x :: l, q + 1, z, s, h => by
    rw [List.set_cons_succ, textsL_cons, List.mem_append] at h
    rcases h with h | h
    · exact .inl (by rw [textsL_cons, List.mem_append]; exact .inl h)
    · rcases texts_set l q z s h with h | h
      · exact .inl (by rw [textsL_cons, List.mem_append]; exact .inr h)
      · exact .inr h
theorem put_bd (y : Tr) : ∀ (p : List Int) (x z : Tr), put y p x = some z → size z ≤ size x + size y ∧ ∀ s ∈ texts z, s ∈ texts x ∨ s ∈ texts y
  | [], x, z, h => by
    have e : z = y := (Option.some.inj h).symm
    subst e
    exact ⟨by omega, fun s hs => .inr hs⟩
  | i :: p, x, z, h => by
    by_cases hi : 0 ≤ i ∧ i < x.kids.length
    · obtain ⟨q, rfl⟩ : ∃ q : Nat, i = q := ⟨i.toNat, by omega⟩
      have hq : q < x.kids.length := by omega
      rw [put_in (List.getElem?_eq_getElem hq)] at h
      obtain ⟨u, hu, rfl⟩ := Option.map_eq_some_iff.1 h
      have ih := put_bd y p _ u hu
      have hs := sizes_set x.kids q _ u (List.getElem?_eq_getElem hq)
      refine ⟨?_, fun s hs' => ?_⟩
      · rw [size_eq, size_eq x]
        show 1 + sizes (x.kids.set q u) ≤ _
        omega
      · rw [texts_eq] at hs'
        rcases List.mem_cons.1 hs' with e | hs'
        · exact .inl (by rw [texts_eq, e]; exact List.mem_cons_self)
        · rcases texts_set x.kids q u s hs' with h1 | h1
          · exact .inl (by rw [texts_eq]; exact List.mem_cons_of_mem _ h1)
          · rcases ih.2 s h1 with h2 | h2
            · exact .inl (by rw [texts_eq]; exact List.mem_cons_of_mem _ (textsL_mem (List.getElem_mem hq) s h2))
            · exact .inr h2
    · rw [put_out hi] at h; cases h
theorem Bd.put {x y z : Tr} {p : List Int} (h : put y p x = some z) (hx : Bd [x, y]) : Bd [z] := by
  have := put_bd y p x z h
  refine ⟨?_, fun s hs => ?_⟩
  · have h1 := hx.1
    simp only [sizes_cons, sizes_nil] at h1 ⊢
    omega
  · have hs' : s ∈ texts z := by simpa [textsL_cons, textsL_nil] using hs
    refine hx.2 s ?_
    simp only [textsL_cons, textsL_nil, List.append_nil, List.mem_append]
    exact this.2 s hs'
end Tr

/-- Rows that were handed in, or are of the call's own, but none of its boxes. -/
def SP (w0 w : World) (b : Nat) : Prop := b < w0.heap.size ∨ w0.heap.size + 2 < b ∧ b < w.heap.size

end Go.Proofs.YtfegodofbdlbeaaGreatDoor

/-
  The walk of tree.Put, whole.
-/
namespace Go.Proofs.YtfegodofbdlbeaaGreatDoor
open Go.RowKit Go.Shelf

attribute [local go_sem] Oper.semAt_some

end Go.Proofs.YtfegodofbdlbeaaGreatDoor

/-
  Names sorted, each once: as plain lists.
-/
namespace Go.Proofs.YtfegodofbdlbeaaGreatDoor

namespace Nm
end Nm
end Go.Proofs.YtfegodofbdlbeaaGreatDoor

/-
  The walk of tree.Names.
-/
namespace Go.Proofs.YtfegodofbdlbeaaGreatDoor
open Go.RowKit Go.Shelf

attribute [local go_sem] Oper.semAt_some

namespace Nm
end Nm

end Go.Proofs.YtfegodofbdlbeaaGreatDoor

/-
  The walk of tree.Names, whole.
-/
namespace Go.Proofs.YtfegodofbdlbeaaGreatDoor
open Go.RowKit Go.Shelf

attribute [local go_sem] Oper.semAt_some

namespace Tr
end Tr
end Go.Proofs.YtfegodofbdlbeaaGreatDoor

/-
  The walks of SameNode and SameNodes.
-/
namespace Go.Proofs.YtfegodofbdlbeaaGreatDoor
open Go.RowKit Go.Shelf

attribute [local go_sem] Oper.semAt_some

/-- A row of nodes whose rows are told the same. -/
def SameRowsAt (l : List Tr) : Prop := ∀ (S S' : Nat → Prop) (v v' : Value) (r : List Tr) (w : World), (∀ b, S b → b < w.heap.size) → (∀ b, S' b → b < w.heap.size) → RowR S w v l → RowR S' w v' r →
  Calls Tryz.prog 17 #[v, v'] w fun e w' => e = .returned (.bool (Tr.eqbL l r)) ∧ Below w.heap.size w w'
def SameNodeAt (t : Tr) : Prop := ∀ (S S' : Nat → Prop) (v v' : Value) (t' : Tr) (w : World), (∀ b, S b → b < w.heap.size) → (∀ b, S' b → b < w.heap.size) → NodeR S w v t → NodeR S' w v' t' →
  Calls Tryz.prog 9 #[v, v'] w fun e w' => e = .returned (.bool (Tr.eqb t t')) ∧ Below w.heap.size w w'

set_option maxRecDepth 100000 in
set_option maxHeartbeats 4000000 in
theorem sameNode_step (t : Tr) (ih : SameRowsAt t.kids) : SameNodeAt t := by
  intro S S' v v' t' w hS hS' hv hv'
  obtain ⟨⟨k, tx, n, kv, kids⟩, rfl, rfl, hf, hr⟩ := hv
  obtain ⟨ka, kc, hkv⟩ := hr.slice
  simp only at hkv
  subst hkv
  obtain ⟨⟨k', tx', n', kv', kids'⟩, rfl, rfl, hf', hr'⟩ := hv'
  obtain ⟨ka', kc', hkv'⟩ := hr'.slice
  simp only at hkv'
  subst hkv'
  rw [eqb_mk]
  simp only [N1.cells]
  obtain ⟨A1, h1⟩ : ∃ A, A = w.alloc (.cells #[.int .u8 k, .string (Ln.bs tx), .int .i64 n, .slice ka kids.length kc] 26) := ⟨_, rfl⟩
  obtain ⟨A2, h2⟩ : ∃ A, A = A1.alloc (.cells #[.int .u8 k', .string (Ln.bs tx'), .int .i64 n', .slice ka' kids'.length kc'] 26) := ⟨_, rfl⟩
  have b1 : Below w.heap.size w A1 := h1 ▸ below_new w _
  have b2 : Below A1.heap.size A1 A2 := h2 ▸ below_new A1 _
  have b12 : Below w.heap.size w A2 := below_then b1 b2
  have HC : Hid (_) := ih S S' (.slice ka kids.length kc) (.slice ka' kids'.length kc') kids' A2 (fun b hb => Nat.lt_of_lt_of_le (hS b hb) b12.size) (fun b hb => Nat.lt_of_lt_of_le (hS' b hb) b12.size) (hr.keep (fun b hb => b12.block b (hS b hb)) (fun _ h => h)) (hr'.keep (fun b hb => b12.block b (hS' b hb)) (fun _ h => h))
  have HB : Hid (Below w.heap.size w A2) := b12
  have e1 : ((Ln.bs tx).toList == (Ln.bs tx').toList) = (tx == tx') := by rw [Lib.toList_data, Lib.toList_data]; rfl
  have hcl : (N1.tr ⟨k, tx, n, .slice ka kids.length kc, kids⟩).kids = kids := rfl
  rw [hcl] at HC
  obtain ⟨bk, hbk⟩ : ∃ b, b = (k == k') := ⟨_, rfl⟩
  obtain ⟨bt, hbt⟩ : ∃ b, b = (tx == tx') := ⟨_, rfl⟩
  obtain ⟨bn, hbn⟩ : ∃ b, b = (n == n') := ⟨_, rfl⟩
  have f1 : (k == k') = bk := hbk.symm
  have f2 : ((Ln.bs tx).toList == (Ln.bs tx').toList) = bt := e1.trans hbt.symm
  have f3 : (n == n') = bn := hbn.symm
  rw [← hbk, ← hbt, ← hbn]
  clear b1 b2 b12 ih hr hr' hf hf' e1 hbk hbt hbn hcl
  refine (callsIn_wide (n := 3)).1 ?_
  refine callsIn_of_wp Tryz.func9 rfl trivial ?_ rfl
  simp only [Tryz.ntmps9, List.size_toArray, List.length_cons, List.length_nil, Nat.reduceAdd, Nat.reduceSub, Array.replicate_succ, Array.replicate_zero, List.push_toArray, List.append_toArray, List.nil_append, List.cons_append]
  cases bk
  · rw [h2, h1] at HB
    gi_wp2
    refine ⟨trivial, ?_⟩
    gi_wp2
    go_ret
    exact ⟨rfl, HB.out⟩
  cases bt
  · rw [h2, h1] at HB
    gi_wp2
    refine ⟨trivial, ?_⟩
    gi_wp2
    go_ret
    exact ⟨rfl, HB.out⟩
  cases bn
  · rw [h2, h1] at HB
    gi_wp2
    refine ⟨trivial, ?_⟩
    gi_wp2
    go_ret
    exact ⟨rfl, HB.out⟩
  gi_wp2
  rw [← h1, ← h2]
  refine ⟨trivial, ?_⟩
  refine (callsIn_wide.2 HC.out).mono ?_
  rintro e w2 ⟨rfl, hb2⟩
  have HB2 : Hid (Below w.heap.size w w2) := below_then HB.out hb2
  clear hb2 HC h1 h2
  gi_wp2
  go_ret
  exact ⟨rfl, HB2.out⟩

set_option maxRecDepth 100000 in
set_option maxHeartbeats 4000000 in
theorem sameRows_step (l : List Tr) (ih : ∀ x ∈ l, SameNodeAt x) : SameRowsAt l := by
  intro S S' v v' r w hS hS' hv hv'
  obtain ⟨xs, xa, xc, xb, xo, ex, hxv, -, hxa, hxl, hx⟩ := hv.parts
  obtain ⟨ys, ya, yc, yb, yo, ey, hyv, -, hya, hyl, hy⟩ := hv'.parts
  subst hxv
  subst hyv
  by_cases hlen : l.length = r.length
  · have HX : Hid (_) := hx
    have HY : Hid (_) := hy
    have HSS : Hid ((∀ b, S b → b < w.heap.size) ∧ ∀ b, S' b → b < w.heap.size) := ⟨hS, hS'⟩
    have HEX : Hid (l = xs.map N1.tr ∧ r = ys.map N1.tr) := ⟨ex, ey⟩
    have HIH : Hid (∀ x ∈ l, SameNodeAt x) := ih
    obtain ⟨N, hN⟩ : ∃ N, N = l.length := ⟨_, rfl⟩
    have HN : Hid (N = l.length ∧ N = r.length) := ⟨hN, hN.trans hlen⟩
    have HST : Hid (Tr.eqbL l r = Tr.eqbL (l.drop 0) (r.drop 0)) := rfl
    rw [← hlen] at hya hyl ⊢
    rw [← hN] at hxa hxl hya hyl ⊢
    clear hx hy hS hS' ex ey ih hv hv' hN hlen hyl
    refine (callsIn_wide (n := 3)).1 ?_
    refine callsIn_of_wp Tryz.func17 rfl trivial ?_ rfl
    simp only [Tryz.ntmps17, List.size_toArray, List.length_cons, List.length_nil, Nat.reduceAdd, Nat.reduceSub, Array.replicate_succ, Array.replicate_zero, List.push_toArray, List.append_toArray, List.nil_append, List.cons_append]
    gi_wp2
    gi_loopw [5] (fun i wr => ∃ q : Nat, q ≤ N ∧ i = .int .i64 q ∧ Below w.heap.size w wr ∧ Tr.eqbL l r = Tr.eqbL (l.drop q) (r.drop q)) (fun i _ => N - (intOf i).toNat)
    case atStart => exact ⟨0, Nat.zero_le _, rfl, Below.refl _ _, HST.out⟩
    case round =>
      clear HST
      obtain ⟨q, hq, rfl, hbr, hall⟩ := hrel
      by_cases hlt : q < N
      · obtain ⟨rfl, hSb⟩ := hxa (by omega)
        obtain ⟨rfl, hSb'⟩ := hya (by omega)
        have hql : q < xs.length := by have := HN.out.1; rw [HEX.out.1, List.length_map] at this; omega
        have hql' : q < ys.length := by have := HN.out.2; rw [HEX.out.2, List.length_map] at this; omega
        obtain ⟨⟨zk, zt, zn, zv, zkids⟩, hzq⟩ : ∃ z, xs[q]? = some z := ⟨xs[q], List.getElem?_eq_getElem hql⟩
        obtain ⟨⟨uk, ut, un, uv, ukids⟩, huq⟩ : ∃ z, ys[q]? = some z := ⟨ys[q], List.getElem?_eq_getElem hql'⟩
        obtain ⟨zf, zr, z0, z1, z2, z3⟩ := HX.out q _ hzq
        obtain ⟨uf, ur, u0, u1, u2, u3⟩ := HY.out q _ huq
        simp only at z0 z1 z2 z3 zr u0 u1 u2 u3 ur
        obtain ⟨za, zc, hzv⟩ := zr.slice
        subst hzv
        obtain ⟨ua, uc, huv⟩ := ur.slice
        subst huv
        have hxb : xb < w.heap.size := HSS.out.1 xb hSb
        have hyb : yb < w.heap.size := HSS.out.2 yb hSb'
        have hkq : l[q]? = some (N1.tr ⟨zk, zt, zn, .slice za zkids.length zc, zkids⟩) := by rw [HEX.out.1, List.getElem?_map, hzq]; rfl
        have hkq' : r[q]? = some (N1.tr ⟨uk, ut, un, .slice ua ukids.length uc, ukids⟩) := by rw [HEX.out.2, List.getElem?_map, huq]; rfl
        have HALL : Hid (Tr.eqbL l r = (Tr.eqb (N1.tr ⟨zk, zt, zn, .slice za zkids.length zc, zkids⟩) (N1.tr ⟨uk, ut, un, .slice ua ukids.length uc, ukids⟩) && Tr.eqbL (l.drop (q + 1)) (r.drop (q + 1)))) := hall.trans (Tr.eqbL_drop hkq hkq')
        have CF : ∀ z, Below w.heap.size w z → (z.cell? ⟨xb, xo + q * 4, none⟩ = some (.int .u8 zk) ∧ z.cell? ⟨xb, xo + q * 4 + 1, none⟩ = some (.string (Ln.bs zt)) ∧ z.cell? ⟨xb, xo + q * 4 + 2, none⟩ = some (.int .i64 zn) ∧ z.cell? ⟨xb, xo + q * 4 + 3, none⟩ = some (.slice za zkids.length zc)) ∧ (z.cell? ⟨yb, yo + q * 4, none⟩ = some (.int .u8 uk) ∧ z.cell? ⟨yb, yo + q * 4 + 1, none⟩ = some (.string (Ln.bs ut)) ∧ z.cell? ⟨yb, yo + q * 4 + 2, none⟩ = some (.int .i64 un) ∧ z.cell? ⟨yb, yo + q * 4 + 3, none⟩ = some (.slice ua ukids.length uc)) := fun z hz => by
          have tx : ∀ j u, w.cell? ⟨xb, j, none⟩ = some u → z.cell? ⟨xb, j, none⟩ = some u := fun j u h => (hz.cell (p := ⟨xb, j, none⟩) hxb).trans h
          have ty : ∀ j u, w.cell? ⟨yb, j, none⟩ = some u → z.cell? ⟨yb, j, none⟩ = some u := fun j u h => (hz.cell (p := ⟨yb, j, none⟩) hyb).trans h
          exact ⟨⟨tx _ _ z0, tx _ _ z1, tx _ _ z2, tx _ _ z3⟩, ⟨ty _ _ u0, ty _ _ u1, ty _ _ u2, ty _ _ u3⟩⟩
        have HCF : Hid (_) := CF
        have hbd : Below w.heap.size w wr.drew := below_then hbr (below_draw wr 1)
        have HC : Hid (_) := HIH.out _ (List.mem_of_getElem? hkq) S S' (.agg #[.int .u8 zk, .string (Ln.bs zt), .int .i64 zn, .slice za zkids.length zc]) (.agg #[.int .u8 uk, .string (Ln.bs ut), .int .i64 un, .slice ua ukids.length uc]) (N1.tr ⟨uk, ut, un, .slice ua ukids.length uc, ukids⟩) wr.drew (fun b hb => Nat.lt_of_lt_of_le (HSS.out.1 b hb) hbd.size) (fun b hb => Nat.lt_of_lt_of_le (HSS.out.2 b hb) hbd.size)
          ⟨⟨zk, zt, zn, .slice za zkids.length zc, zkids⟩, rfl, rfl, zf, zr.keep (fun b hb => hbd.block b (HSS.out.1 b hb)) (fun _ h => h)⟩ ⟨⟨uk, ut, un, .slice ua ukids.length uc, ukids⟩, rfl, rfl, uf, ur.keep (fun b hb => hbd.block b (HSS.out.2 b hb)) (fun _ h => h)⟩
        have HBD : Hid (Below w.heap.size w wr.drew) := hbd
        obtain ⟨eq9, he9⟩ : ∃ b, b = Tr.eqb (N1.tr ⟨zk, zt, zn, .slice za zkids.length zc, zkids⟩) (N1.tr ⟨uk, ut, un, .slice ua ukids.length uc, ukids⟩) := ⟨_, rfl⟩
        rw [← he9] at HC HALL
        clear hall hkq hkq' zr zf ur uf hbr hzq huq CF z0 z1 z2 z3 u0 u1 u2 u3 he9 hbd
        gi_wp2
        refine region_lex (fun z => Below w.heap.size w z) 8 2 rfl (by kernel_rfl) (by kernel_rfl) (by kernel_rfl) (by kernel_rfl) (fun _ _ d _ _ h => by cases d <;> exact h) HBD.out ?_
        simp only [List.take_succ_cons, List.take_zero]
        iterate 8 (first
          | (apply lexC_want
             · rfl
             · exact fun _ => rfl
             · (intro w' hw'; obtain ⟨⟨a0, a1, a2, a3⟩, ⟨b0, b1, b2, b3⟩⟩ := HCF.out w' hw'; go_simp; try rfl)
             simp only [Act.put, List.setIfInBounds_toArray, List.set_cons_zero, List.set_cons_succ]))
        refine lexC_nil ?_
        refine anyC_one (i := 8) (by kernel_rfl) rfl (by rfl) (fun K1 hK1 => ?_)
        go_simp
        refine ⟨trivial, ?_⟩
        refine (callsIn_wide.2 HC.out).mono ?_
        rintro e w2 ⟨rfl, hb2⟩
        have B2 : Below w.heap.size w w2 := below_then HBD.out hb2
        refine hK1 _ _ B2 ?_
        clear hK1 hb2 HC HBD HCF
        refine anyC_one (i := 9) (by kernel_rfl) rfl (by rfl) (fun K2 hK2 => ?_)
        go_simp
        refine hK2 _ _ B2 ?_
        clear hK2
        have HB2 : Hid (Below w.heap.size w w2) := B2
        clear B2
        refine anyC_done (by kernel_rfl) ?_
        cases eq9
        · gi_wp2
          go_ret
          refine ⟨congrArg (fun b => Ending.returned (.bool b)) ?_, HB2.out⟩
          rw [HALL.out]; rfl
        · have HEND : Hid (Tr.eqbL l r = Tr.eqbL (l.drop (q + 1)) (r.drop (q + 1))) := by rw [HALL.out]; rfl
          clear HALL
          gi_wp2
          refine ⟨⟨q + 1, by omega, by simp, HB2.out, HEND.out⟩, by simp [intOf]; omega⟩
      · have hqN : q = N := by omega
        subst hqN
        have HE : Hid (Tr.eqbL l r = true ∧ Below w.heap.size w wr) := by
          refine ⟨?_, hbr⟩
          rw [hall, List.drop_eq_nil_of_le (by have := HN.out.1; omega), List.drop_eq_nil_of_le (by have := HN.out.2; omega)]
          simp [Tr.eqbL]
        clear hall hbr
        gi_wp2
        go_ret
        refine ⟨congrArg (fun b => Ending.returned (.bool b)) ?_, HE.out.2⟩
        rw [HE.out.1]
  · rw [Tr.eqbL_len hlen]
    have d1 : decide ((l.length : Int) = r.length) = false := decide_eq_false (by omega)
    have d2 : ((l.length : Int) == r.length) = false := by simpa using (by omega : ¬ ((l.length : Int) = r.length))
    have HB : Hid (Below w.heap.size w w) := Below.refl _ _
    obtain ⟨N, hN⟩ : ∃ N, N = l.length := ⟨_, rfl⟩
    obtain ⟨M, hM⟩ : ∃ N, N = r.length := ⟨_, rfl⟩
    rw [← hN, ← hM] at d1 d2 ⊢
    clear hx hy hv hv' ih ex ey hxa hya hxl hyl hlen hN hM
    refine (callsIn_wide (n := 3)).1 ?_
    refine callsIn_of_wp Tryz.func17 rfl trivial ?_ rfl
    simp only [Tryz.ntmps17, List.size_toArray, List.length_cons, List.length_nil, Nat.reduceAdd, Nat.reduceSub, Array.replicate_succ, Array.replicate_zero, List.push_toArray, List.append_toArray, List.nil_append, List.cons_append]
    gi_wp2
    go_ret
    exact ⟨rfl, HB.out⟩

theorem sameNode_all : ∀ (m : Nat) (t : Tr), t.size ≤ m → SameNodeAt t
  | 0, t, h => by have := Tr.size_eq t; omega
  | m + 1, t, h => sameNode_step t (sameRows_step t.kids (fun y hy => sameNode_all m y (by have := Tr.size_eq t; have := Tr.sizes_mem hy; omega)))
theorem sameNode_any (t : Tr) : SameNodeAt t := sameNode_all _ t (Nat.le_refl _)
end Go.Proofs.YtfegodofbdlbeaaGreatDoor

/-
  The walk of awake: the document's examples.
-/
namespace Go.Proofs.YtfegodofbdlbeaaGreatDoor
open Go.RowKit Go.Shelf

attribute [local go_sem] Oper.semAt_some

namespace Aw
def one : Tr := .mk 20 [] 1 []
def ret : Tr := .mk 10 [] 0 [one]
def blk : Tr := .mk 5 [] 0 [ret]
def emp : Tr := .mk 5 [] 0 []
theorem r0 : Tr.right 40 (.mk 5 [] 0 [emp]) = true := by decide +kernel
theorem r1 : Tr.right 40 (.mk 5 [] 0 [one]) = false := by decide +kernel
theorem r2 : Tr.right 40 blk = true := by decide +kernel
end Aw

/-- The examples' nodes, as they lie in memory. -/
structure AwW (w W : World) : Prop where
  below : Below w.heap.size w W
  b0 : W.heap[w.heap.size]? = some (.cells #[.int .u8 20, .string ⟨#[]⟩, .int .i64 1, .slice none 0 0] 26 (0, 0))
  b1 : W.heap[w.heap.size + 1]? = some (.cells #[.int .u8 20, .string ⟨#[]⟩, .int .i64 1, .slice none 0 0] 26 (0, 0))
  b2 : W.heap[w.heap.size + 1 + 1]? = some (.cells #[.int .u8 10, .string ⟨#[]⟩, .int .i64 0, .slice (some ⟨w.heap.size + 1, 0, none⟩) 1 1] 26 (0, 0))
  b3 : W.heap[w.heap.size + 1 + 1 + 1]? = some (.cells #[.int .u8 5, .string ⟨#[]⟩, .int .i64 0, .slice (some ⟨w.heap.size + 1 + 1, 0, none⟩) 1 1] 26 (0, 0))
theorem AwW.at {w A B : World} (h : AwW w A) (hb : Below A.heap.size A B) : AwW w B := by
  obtain ⟨h0, h1, h2, h3, h4⟩ := h
  have up : ∀ {k : Nat} {o : Obj}, A.heap[k]? = some o → B.heap[k]? = some o := fun h => (hb.block _ (Array.getElem?_eq_some_iff.1 h).1).trans h
  exact ⟨below_then h0 hb, up h1, up h2, up h3, up h4⟩
theorem AwW.blk {w W : World} (h : AwW w W) : NodeR (lowS W.heap.size) W (.agg #[.int .u8 5, .string ⟨#[]⟩, .int .i64 0, .slice (some ⟨w.heap.size + 1 + 1, 0, none⟩) 1 1]) Aw.blk := by
  have l1 : w.heap.size + 1 < W.heap.size := (Array.getElem?_eq_some_iff.1 h.b1).1
  have l2 : w.heap.size + 1 + 1 < W.heap.size := (Array.getElem?_eq_some_iff.1 h.b2).1
  have r1 : RowR (lowS W.heap.size) W (.slice (some ⟨w.heap.size + 1, 0, none⟩) 1 1) [Aw.one] := RowR.one (x := ⟨20, [], 1, .slice none 0 0, []⟩) h.b1 rfl (Nat.le_refl _) l1 (by simp [N1.Fit]) (rowR_nil _ _)
  have r2 : RowR (lowS W.heap.size) W (.slice (some ⟨w.heap.size + 1 + 1, 0, none⟩) 1 1) [Aw.ret] := RowR.one (x := ⟨10, [], 0, .slice (some ⟨w.heap.size + 1, 0, none⟩) 1 1, [Aw.one]⟩) h.b2 rfl (Nat.le_refl _) l2 (by simp [N1.Fit]) r1
  exact ⟨⟨5, [], 0, .slice (some ⟨w.heap.size + 1 + 1, 0, none⟩) 1 1, [Aw.ret]⟩, rfl, rfl, by simp [N1.Fit], r2⟩
theorem AwW.cells {w W : World} (h : AwW w W) : (W.cell? ⟨w.heap.size, 0, none⟩ = some (.int .u8 20) ∧ W.cell? ⟨w.heap.size, 1, none⟩ = some (.string ⟨#[]⟩) ∧ W.cell? ⟨w.heap.size, 2, none⟩ = some (.int .i64 1) ∧ W.cell? ⟨w.heap.size, 3, none⟩ = some (.slice none 0 0)) ∧
    (W.cell? ⟨w.heap.size + 1 + 1 + 1, 0, none⟩ = some (.int .u8 5) ∧ W.cell? ⟨w.heap.size + 1 + 1 + 1, 1, none⟩ = some (.string ⟨#[]⟩) ∧ W.cell? ⟨w.heap.size + 1 + 1 + 1, 2, none⟩ = some (.int .i64 0) ∧ W.cell? ⟨w.heap.size + 1 + 1 + 1, 3, none⟩ = some (.slice (some ⟨w.heap.size + 1 + 1, 0, none⟩) 1 1)) :=
  ⟨⟨cells_at h.b0 rfl, cells_at h.b0 rfl, cells_at h.b0 rfl, cells_at h.b0 rfl⟩, ⟨cells_at h.b3 rfl, cells_at h.b3 rfl, cells_at h.b3 rfl, cells_at h.b3 rfl⟩⟩
end Go.Proofs.YtfegodofbdlbeaaGreatDoor

/-
  The walks of tree.List and tree.Fits, and of the document's.
-/
namespace Go.Proofs.YtfegodofbdlbeaaGreatDoor
open Go.RowKit Go.Shelf

attribute [local go_sem] Oper.semAt_some

def rExpr (k : Int) : Bool := decide (20 ≤ k) && decide (k ≤ 29)
def rStmt (k : Int) : Bool := decide (5 ≤ k) && decide (k ≤ 12)
set_option maxRecDepth 100000 in
set_option maxHeartbeats 4000000 in
theorem rexpr_any (k : Int) (w : World) : Calls Tryz.prog 70 #[.int .u8 k] w fun e w' => e = .returned (.bool (rExpr k)) ∧ w' = w := by
  go_enter Tryz.func70, Tryz.ntmps70
  go_wp2
  all_goals (go_ret; refine ⟨congrArg (fun b => Ending.returned (.bool b)) ?_, rfl⟩; unfold rExpr; first | rfl | (simp_all; done) | (simp_all; omega))
set_option maxRecDepth 100000 in
set_option maxHeartbeats 4000000 in
theorem rstmt_any (k : Int) (w : World) : Calls Tryz.prog 95 #[.int .u8 k] w fun e w' => e = .returned (.bool (rStmt k)) ∧ w' = w := by
  go_enter Tryz.func95, Tryz.ntmps95
  go_wp2
  all_goals (go_ret; refine ⟨congrArg (fun b => Ending.returned (.bool b)) ?_, rfl⟩; unfold rStmt; rw [Bool.eq_iff_iff]; first | (simp_all; done) | (simp_all; omega) | (simp; omega))
/-- How many Kids: below 0 any number. -/
def rMany : Int → Int
  | 1 => -1 | 3 => -1 | 5 => -1 | 25 => -1
  | 2 => 2 | 7 => 2 | 9 => 2 | 24 => 2 | 26 => 2 | 27 => 2
  | 8 => 3
  | 6 => 1 | 10 => 1 | 11 => 1 | 23 => 1 | 28 => 1 | 12 => 1
  | _ => 0
set_option maxRecDepth 100000 in
set_option maxHeartbeats 4000000 in
theorem rmany_any (k : Int) (w : World) : Calls Tryz.prog 71 #[.int .u8 k] w fun e w' => e = .returned (.int .i64 (rMany k)) ∧ w' = w := by
  go_enter Tryz.func71, Tryz.ntmps71
  go_wp2
  all_goals (go_ret; refine ⟨congrArg (fun b => Ending.returned (.int .i64 b)) ?_, rfl⟩; first | rfl | (unfold rMany; split <;> first | rfl | (exfalso; simp_all; done)))
end Go.Proofs.YtfegodofbdlbeaaGreatDoor

/-
  What may stand in a node, by the document: as the program tells it.
-/
namespace Go.Proofs.YtfegodofbdlbeaaGreatDoor
open Go.RowKit Go.Shelf

attribute [local go_sem] Oper.semAt_some

def rKid : Int → Int → Int → Bool
  | 1, k, _ => k == 2
  | 2, k, a => (a == 0 && k == 3) || (a == 1 && k == 5)
  | 3, k, _ => k == 4
  | 5, k, _ => rStmt k
  | 7, k, a => (a == 0 && (k == 22 || k == 26)) || (a == 1 && rExpr k)
  | 8, k, a => (a == 0 && rExpr k) || (decide (0 < a) && k == 5)
  | 9, k, a => (a == 0 && rExpr k) || (decide (0 < a) && k == 5)
  | 12, k, _ => k == 25
  | _, k, _ => rExpr k
def rFits (p k a : Int) : Bool := if a < 0 ∨ 0 ≤ rMany p ∧ rMany p ≤ a then false else rKid p k a

set_option maxRecDepth 100000 in
set_option maxHeartbeats 4000000 in
theorem rf_1 (k a : Int) (w : World) (ha : 0 ≤ a) : Calls Tryz.prog 73 #[.int .u8 (1), .int .u8 k, .int .i64 a] w fun e w' => e = .returned (.bool (k == 2)) ∧ w' = w := by
  have HM : Hid (_) := fun w => rmany_any 1 w
  have hr : rMany 1 = -1 := rfl
  rw [hr] at HM
  clear hr
  have d0 : decide (a < 0) = false := decide_eq_false (by omega)
  go_enter Tryz.func73, Tryz.ntmps73
  go_wp2_with fail
  refine Calls.mono (HM.out w) ?_
  rintro e w1 ⟨rfl, rfl⟩
  go_wp2
  all_goals (go_ret; refine ⟨congrArg (fun b => Ending.returned (.bool b)) ?_, rfl⟩; first | rfl | (simp_all; done) | (simp_all; omega))

set_option maxRecDepth 100000 in
set_option maxHeartbeats 4000000 in
theorem rf_3 (k a : Int) (w : World) (ha : 0 ≤ a) : Calls Tryz.prog 73 #[.int .u8 (3), .int .u8 k, .int .i64 a] w fun e w' => e = .returned (.bool (k == 4)) ∧ w' = w := by
  have HM : Hid (_) := fun w => rmany_any 3 w
  have hr : rMany 3 = -1 := rfl
  rw [hr] at HM
  clear hr
  have d0 : decide (a < 0) = false := decide_eq_false (by omega)
  go_enter Tryz.func73, Tryz.ntmps73
  go_wp2_with fail
  refine Calls.mono (HM.out w) ?_
  rintro e w1 ⟨rfl, rfl⟩
  go_wp2
  all_goals (go_ret; refine ⟨congrArg (fun b => Ending.returned (.bool b)) ?_, rfl⟩; first | rfl | (simp_all; done) | (simp_all; omega))

set_option maxRecDepth 100000 in
set_option maxHeartbeats 4000000 in
theorem rf_5 (k a : Int) (w : World) (ha : 0 ≤ a) : Calls Tryz.prog 73 #[.int .u8 (5), .int .u8 k, .int .i64 a] w fun e w' => e = .returned (.bool (rStmt k)) ∧ w' = w := by
  have HM : Hid (_) := fun w => rmany_any 5 w
  have hr : rMany 5 = -1 := rfl
  rw [hr] at HM
  clear hr
  have d0 : decide (a < 0) = false := decide_eq_false (by omega)
  go_enter Tryz.func73, Tryz.ntmps73
  go_wp2_with fail
  refine Calls.mono (HM.out w) ?_
  rintro e w1 ⟨rfl, rfl⟩
  go_wp2_with fail
  refine Calls.mono (rstmt_any k w1) ?_
  rintro e w2 ⟨rfl, rfl⟩
  go_wp2
  all_goals (go_ret; refine ⟨congrArg (fun b => Ending.returned (.bool b)) ?_, rfl⟩; first | rfl | (simp_all; done) | (simp_all; omega))

set_option maxRecDepth 100000 in
set_option maxHeartbeats 4000000 in
theorem rf_2_0 (k : Int) (w : World) : Calls Tryz.prog 73 #[.int .u8 (2), .int .u8 k, .int .i64 (0)] w fun e w' => e = .returned (.bool (k == 3)) ∧ w' = w := by
  have HM : Hid (_) := fun w => rmany_any 2 w
  have hr : rMany 2 = 2 := rfl
  rw [hr] at HM
  clear hr
  go_enter Tryz.func73, Tryz.ntmps73
  go_wp2_with fail
  refine Calls.mono (HM.out w) ?_
  rintro e w1 ⟨rfl, rfl⟩
  go_wp2
  all_goals (go_ret; refine ⟨congrArg (fun b => Ending.returned (.bool b)) ?_, rfl⟩; first | rfl | (simp_all; done) | (simp_all; omega))

set_option maxRecDepth 100000 in
set_option maxHeartbeats 4000000 in
theorem rf_2_1 (k : Int) (w : World) : Calls Tryz.prog 73 #[.int .u8 (2), .int .u8 k, .int .i64 (1)] w fun e w' => e = .returned (.bool (k == 5)) ∧ w' = w := by
  have HM : Hid (_) := fun w => rmany_any 2 w
  have hr : rMany 2 = 2 := rfl
  rw [hr] at HM
  clear hr
  go_enter Tryz.func73, Tryz.ntmps73
  go_wp2_with fail
  refine Calls.mono (HM.out w) ?_
  rintro e w1 ⟨rfl, rfl⟩
  go_wp2
  all_goals (go_ret; refine ⟨congrArg (fun b => Ending.returned (.bool b)) ?_, rfl⟩; first | rfl | (simp_all; done) | (simp_all; omega))

set_option maxRecDepth 100000 in
set_option maxHeartbeats 4000000 in
theorem rf_7_0 (k : Int) (w : World) : Calls Tryz.prog 73 #[.int .u8 (7), .int .u8 k, .int .i64 (0)] w fun e w' => e = .returned (.bool (k == 22 || k == 26)) ∧ w' = w := by
  have HM : Hid (_) := fun w => rmany_any 7 w
  have hr : rMany 7 = 2 := rfl
  rw [hr] at HM
  clear hr
  go_enter Tryz.func73, Tryz.ntmps73
  go_wp2_with fail
  refine Calls.mono (HM.out w) ?_
  rintro e w1 ⟨rfl, rfl⟩
  go_wp2
  all_goals (go_ret; refine ⟨congrArg (fun b => Ending.returned (.bool b)) ?_, rfl⟩; first | rfl | (simp_all; done) | (simp_all; omega))

set_option maxRecDepth 100000 in
set_option maxHeartbeats 4000000 in
theorem rf_7_1 (k : Int) (w : World) : Calls Tryz.prog 73 #[.int .u8 (7), .int .u8 k, .int .i64 (1)] w fun e w' => e = .returned (.bool (rExpr k)) ∧ w' = w := by
  have HM : Hid (_) := fun w => rmany_any 7 w
  have hr : rMany 7 = 2 := rfl
  rw [hr] at HM
  clear hr
  go_enter Tryz.func73, Tryz.ntmps73
  go_wp2_with fail
  refine Calls.mono (HM.out w) ?_
  rintro e w1 ⟨rfl, rfl⟩
  go_wp2_with fail
  refine Calls.mono (rexpr_any k w1) ?_
  rintro e w2 ⟨rfl, rfl⟩
  go_wp2
  all_goals (go_ret; refine ⟨congrArg (fun b => Ending.returned (.bool b)) ?_, rfl⟩; first | rfl | (simp_all; done) | (simp_all; omega))

set_option maxRecDepth 100000 in
set_option maxHeartbeats 4000000 in
theorem rf_8_0 (k : Int) (w : World) : Calls Tryz.prog 73 #[.int .u8 (8), .int .u8 k, .int .i64 (0)] w fun e w' => e = .returned (.bool (rExpr k)) ∧ w' = w := by
  have HM : Hid (_) := fun w => rmany_any 8 w
  have hr : rMany 8 = 3 := rfl
  rw [hr] at HM
  clear hr
  go_enter Tryz.func73, Tryz.ntmps73
  go_wp2_with fail
  refine Calls.mono (HM.out w) ?_
  rintro e w1 ⟨rfl, rfl⟩
  go_wp2_with fail
  refine Calls.mono (rexpr_any k w1) ?_
  rintro e w2 ⟨rfl, rfl⟩
  go_wp2
  all_goals (go_ret; refine ⟨congrArg (fun b => Ending.returned (.bool b)) ?_, rfl⟩; first | rfl | (simp_all; done) | (simp_all; omega))

set_option maxRecDepth 100000 in
set_option maxHeartbeats 4000000 in
theorem rf_8_1 (k : Int) (w : World) : Calls Tryz.prog 73 #[.int .u8 (8), .int .u8 k, .int .i64 (1)] w fun e w' => e = .returned (.bool (k == 5)) ∧ w' = w := by
  have HM : Hid (_) := fun w => rmany_any 8 w
  have hr : rMany 8 = 3 := rfl
  rw [hr] at HM
  clear hr
  go_enter Tryz.func73, Tryz.ntmps73
  go_wp2_with fail
  refine Calls.mono (HM.out w) ?_
  rintro e w1 ⟨rfl, rfl⟩
  go_wp2
  all_goals (go_ret; refine ⟨congrArg (fun b => Ending.returned (.bool b)) ?_, rfl⟩; first | rfl | (simp_all; done) | (simp_all; omega))

set_option maxRecDepth 100000 in
set_option maxHeartbeats 4000000 in
theorem rf_8_2 (k : Int) (w : World) : Calls Tryz.prog 73 #[.int .u8 (8), .int .u8 k, .int .i64 (2)] w fun e w' => e = .returned (.bool (k == 5)) ∧ w' = w := by
  have HM : Hid (_) := fun w => rmany_any 8 w
  have hr : rMany 8 = 3 := rfl
  rw [hr] at HM
  clear hr
  go_enter Tryz.func73, Tryz.ntmps73
  go_wp2_with fail
  refine Calls.mono (HM.out w) ?_
  rintro e w1 ⟨rfl, rfl⟩
  go_wp2
  all_goals (go_ret; refine ⟨congrArg (fun b => Ending.returned (.bool b)) ?_, rfl⟩; first | rfl | (simp_all; done) | (simp_all; omega))

set_option maxRecDepth 100000 in
set_option maxHeartbeats 4000000 in
theorem rf_9_0 (k : Int) (w : World) : Calls Tryz.prog 73 #[.int .u8 (9), .int .u8 k, .int .i64 (0)] w fun e w' => e = .returned (.bool (rExpr k)) ∧ w' = w := by
  have HM : Hid (_) := fun w => rmany_any 9 w
  have hr : rMany 9 = 2 := rfl
  rw [hr] at HM
  clear hr
  go_enter Tryz.func73, Tryz.ntmps73
  go_wp2_with fail
  refine Calls.mono (HM.out w) ?_
  rintro e w1 ⟨rfl, rfl⟩
  go_wp2_with fail
  refine Calls.mono (rexpr_any k w1) ?_
  rintro e w2 ⟨rfl, rfl⟩
  go_wp2
  all_goals (go_ret; refine ⟨congrArg (fun b => Ending.returned (.bool b)) ?_, rfl⟩; first | rfl | (simp_all; done) | (simp_all; omega))

set_option maxRecDepth 100000 in
set_option maxHeartbeats 4000000 in
theorem rf_9_1 (k : Int) (w : World) : Calls Tryz.prog 73 #[.int .u8 (9), .int .u8 k, .int .i64 (1)] w fun e w' => e = .returned (.bool (k == 5)) ∧ w' = w := by
  have HM : Hid (_) := fun w => rmany_any 9 w
  have hr : rMany 9 = 2 := rfl
  rw [hr] at HM
  clear hr
  go_enter Tryz.func73, Tryz.ntmps73
  go_wp2_with fail
  refine Calls.mono (HM.out w) ?_
  rintro e w1 ⟨rfl, rfl⟩
  go_wp2
  all_goals (go_ret; refine ⟨congrArg (fun b => Ending.returned (.bool b)) ?_, rfl⟩; first | rfl | (simp_all; done) | (simp_all; omega))

set_option maxRecDepth 100000 in
set_option maxHeartbeats 4000000 in
theorem rf_12_0 (k : Int) (w : World) : Calls Tryz.prog 73 #[.int .u8 (12), .int .u8 k, .int .i64 (0)] w fun e w' => e = .returned (.bool (k == 25)) ∧ w' = w := by
  have HM : Hid (_) := fun w => rmany_any 12 w
  have hr : rMany 12 = 1 := rfl
  rw [hr] at HM
  clear hr
  go_enter Tryz.func73, Tryz.ntmps73
  go_wp2_with fail
  refine Calls.mono (HM.out w) ?_
  rintro e w1 ⟨rfl, rfl⟩
  go_wp2
  all_goals (go_ret; refine ⟨congrArg (fun b => Ending.returned (.bool b)) ?_, rfl⟩; first | rfl | (simp_all; done) | (simp_all; omega))

set_option maxRecDepth 100000 in
set_option maxHeartbeats 4000000 in
theorem rf_other (p k a : Int) (w : World) (ha : 0 ≤ a) (hm : ¬ (0 ≤ rMany p ∧ rMany p ≤ a)) (h1 : p ≠ 1) (h2 : p ≠ 2) (h3 : p ≠ 3) (h5 : p ≠ 5) (h7 : p ≠ 7) (h8 : p ≠ 8) (h9 : p ≠ 9) (h12 : p ≠ 12) : Calls Tryz.prog 73 #[.int .u8 p, .int .u8 k, .int .i64 a] w fun e w' => e = .returned (.bool (rExpr k)) ∧ w' = w := by
  obtain ⟨M, hM⟩ : ∃ M, M = rMany p := ⟨_, rfl⟩
  have HM : Hid (_) := fun w => rmany_any p w
  have f1 : (p == 1) = false := by simpa using h1
  have f2 : (p == 2) = false := by simpa using h2
  have f3 : (p == 3) = false := by simpa using h3
  have f5 : (p == 5) = false := by simpa using h5
  have f7 : (p == 7) = false := by simpa using h7
  have f8 : (p == 8) = false := by simpa using h8
  have f9 : (p == 9) = false := by simpa using h9
  have f12 : (p == 12) = false := by simpa using h12
  rw [← hM] at HM hm
  have d0 : decide (a < 0) = false := decide_eq_false (by omega)
  have hM2 : -1 ≤ M ∧ M ≤ 3 := by
    rw [hM]; unfold rMany; split <;> omega
  clear hM
  clear h1
  clear h2
  clear h3
  clear h5
  clear h7
  clear h8
  clear h9
  clear h12
  by_cases hM0 : 0 ≤ M
  · have d1 : decide (0 ≤ M) = true := decide_eq_true hM0
    have d2 : decide (M ≤ a) = false := decide_eq_false (by omega)
    clear hm
    go_enter Tryz.func73, Tryz.ntmps73
    go_wp2_with fail
    refine Calls.mono (HM.out w) ?_
    rintro e w1 ⟨rfl, rfl⟩
    go_wp2_with fail
    refine Calls.mono (rexpr_any k w1) ?_
    rintro e w2 ⟨rfl, rfl⟩
    go_wp2
    go_ret
    exact ⟨rfl, rfl⟩
  have d1 : decide (0 ≤ M) = false := decide_eq_false hM0
  clear hm
  go_enter Tryz.func73, Tryz.ntmps73
  go_wp2_with fail
  refine Calls.mono (HM.out w) ?_
  rintro e w1 ⟨rfl, rfl⟩
  go_wp2_with fail
  refine Calls.mono (rexpr_any k w1) ?_
  rintro e w2 ⟨rfl, rfl⟩
  go_wp2
  go_ret
  exact ⟨rfl, rfl⟩

set_option maxRecDepth 100000 in
set_option maxHeartbeats 4000000 in
theorem rf_no (p k a : Int) (w : World) (hc : a < 0 ∨ 0 ≤ rMany p ∧ rMany p ≤ a) : Calls Tryz.prog 73 #[.int .u8 p, .int .u8 k, .int .i64 a] w fun e w' => e = .returned (.bool false) ∧ w' = w := by
  have HM : Hid (_) := fun w => rmany_any p w
  obtain ⟨M, hM⟩ : ∃ M, M = rMany p := ⟨_, rfl⟩
  rw [← hM] at HM hc
  clear hM
  by_cases ha : a < 0
  · have d0 : decide (a < 0) = true := decide_eq_true ha
    clear hc
    go_enter Tryz.func73, Tryz.ntmps73
    go_wp2_with fail
    refine Calls.mono (HM.out w) ?_
    rintro e w1 ⟨rfl, rfl⟩
    go_wp2
    go_ret
    exact ⟨rfl, rfl⟩
  · have d0 : decide (a < 0) = false := decide_eq_false ha
    have d1 : decide (0 ≤ M) = true := decide_eq_true (by omega)
    have d2 : decide (M ≤ a) = true := decide_eq_true (by omega)
    clear hc
    go_enter Tryz.func73, Tryz.ntmps73
    go_wp2_with fail
    refine Calls.mono (HM.out w) ?_
    rintro e w1 ⟨rfl, rfl⟩
    go_wp2
    go_ret
    exact ⟨rfl, rfl⟩

theorem rfits_any (p k a : Int) (w : World) : Calls Tryz.prog 73 #[.int .u8 p, .int .u8 k, .int .i64 a] w fun e w' => e = .returned (.bool (rFits p k a)) ∧ w' = w := by
  unfold rFits
  by_cases hc : a < 0 ∨ 0 ≤ rMany p ∧ rMany p ≤ a
  · rw [if_pos hc]; exact rf_no p k a w hc
  · rw [if_neg hc]
    have ha : 0 ≤ a := by omega
    have hm : ¬ (0 ≤ rMany p ∧ rMany p ≤ a) := fun h => hc (.inr h)
    by_cases h1 : p = 1
    · subst h1; exact rf_1 k a w ha
    by_cases h3 : p = 3
    · subst h3; exact rf_3 k a w ha
    by_cases h5 : p = 5
    · subst h5; exact rf_5 k a w ha
    by_cases h2 : p = 2
    · subst h2
      have hr : rMany 2 = 2 := rfl
      rw [hr] at hm
      by_cases a0 : a = 0
      · subst a0
        refine (rf_2_0 k w).mono ?_
        rintro e w' ⟨rfl, rfl⟩
        exact ⟨by simp [rKid], rfl⟩
      have a1 : a = 1 := by omega
      subst a1
      refine (rf_2_1 k w).mono ?_
      rintro e w' ⟨rfl, rfl⟩
      exact ⟨by simp [rKid], rfl⟩
    by_cases h7 : p = 7
    · subst h7
      have hr : rMany 7 = 2 := rfl
      rw [hr] at hm
      by_cases a0 : a = 0
      · subst a0
        refine (rf_7_0 k w).mono ?_
        rintro e w' ⟨rfl, rfl⟩
        exact ⟨by simp [rKid], rfl⟩
      have a1 : a = 1 := by omega
      subst a1
      refine (rf_7_1 k w).mono ?_
      rintro e w' ⟨rfl, rfl⟩
      exact ⟨by simp [rKid], rfl⟩
    by_cases h8 : p = 8
    · subst h8
      have hr : rMany 8 = 3 := rfl
      rw [hr] at hm
      by_cases a0 : a = 0
      · subst a0
        refine (rf_8_0 k w).mono ?_
        rintro e w' ⟨rfl, rfl⟩
        exact ⟨by simp [rKid], rfl⟩
      by_cases a1 : a = 1
      · subst a1
        refine (rf_8_1 k w).mono ?_
        rintro e w' ⟨rfl, rfl⟩
        exact ⟨by simp [rKid], rfl⟩
      have a2 : a = 2 := by omega
      subst a2
      refine (rf_8_2 k w).mono ?_
      rintro e w' ⟨rfl, rfl⟩
      exact ⟨by simp [rKid], rfl⟩
    by_cases h9 : p = 9
    · subst h9
      have hr : rMany 9 = 2 := rfl
      rw [hr] at hm
      by_cases a0 : a = 0
      · subst a0
        refine (rf_9_0 k w).mono ?_
        rintro e w' ⟨rfl, rfl⟩
        exact ⟨by simp [rKid], rfl⟩
      have a1 : a = 1 := by omega
      subst a1
      refine (rf_9_1 k w).mono ?_
      rintro e w' ⟨rfl, rfl⟩
      exact ⟨by simp [rKid], rfl⟩
    by_cases h12 : p = 12
    · subst h12
      have hr : rMany 12 = 1 := rfl
      rw [hr] at hm
      have a0 : a = 0 := by omega
      subst a0
      refine (rf_12_0 k w).mono ?_
      rintro e w' ⟨rfl, rfl⟩
      exact ⟨by simp [rKid], rfl⟩
    have hk : rKid p k a = rExpr k := by
      unfold rKid
      split <;> first | rfl | (exfalso; omega)
    rw [hk]
    exact rf_other p k a w ha hm h1 h2 h3 h5 h7 h8 h9 h12

end Go.Proofs.YtfegodofbdlbeaaGreatDoor

/-
  The walk of the law TreeFits: the program's table and the document's say the same.
-/
namespace Go.Proofs.YtfegodofbdlbeaaGreatDoor
open Go.RowKit Go.Shelf

attribute [local go_sem] Oper.semAt_some

theorem same_fix (p k a : Int) (l : List Int) (hE : Tr.endless l = false) (hm : rMany p = l.length) (hk : ∀ (q : Nat) (y : Int), l[q]? = some y → Tr.stands y k = rKid p k q) : Tr.fitsRow l k a = rFits p k a := by
  unfold Tr.fitsRow rFits
  rw [hE, hm]
  simp only [Bool.false_eq_true, if_false]
  by_cases hin : 0 ≤ a ∧ a < l.length
  · obtain ⟨q, rfl⟩ : ∃ q : Nat, a = q := ⟨a.toNat, by omega⟩
    have hq : q < l.length := by omega
    rw [if_neg (by omega), decide_eq_true hin.1, decide_eq_true hin.2]
    have hg : l.getD ((q : Int).toNat) 0 = l[q] := by simp [List.getD, List.getElem?_eq_getElem hq]
    rw [hg, hk q l[q] (List.getElem?_eq_getElem hq)]
    simp
  · rw [if_pos (by omega)]
    by_cases h0 : 0 ≤ a
    · rw [decide_eq_false (p := a < (l.length : Int)) (by omega)]; simp
    · rw [decide_eq_false h0]; simp
theorem same_end (p k a x : Int) (hm : rMany p = -1) (hk : 0 ≤ a → Tr.stands x k = rKid p k a) : Tr.fitsRow [x, 203] k a = rFits p k a := by
  unfold Tr.fitsRow rFits
  have hE : Tr.endless [x, 203] = true := rfl
  rw [hE, hm, if_pos rfl]
  by_cases h0 : 0 ≤ a
  · rw [if_neg (by omega), decide_eq_true h0, List.headD_cons, hk h0]; simp
  · rw [if_pos (by omega), decide_eq_false h0]; simp

theorem st200 (k : Int) : Tr.stands 200 k = rExpr k := by simp [Tr.stands, rExpr]
theorem st201 (k : Int) : Tr.stands 201 k = rStmt k := by simp [Tr.stands, rStmt]
theorem st202 (k : Int) : Tr.stands 202 k = (k == 22 || k == 26) := by simp [Tr.stands]
theorem st_lit (y k : Int) (h : y < 200) : Tr.stands y k = (k == y) := by
  unfold Tr.stands
  rw [if_neg (by omega), if_neg (by omega), if_neg (by omega)]

theorem fits_same (p k a : Int) : Tr.fits p k a = rFits p k a := by
  unfold Tr.fits Tr.table
  split
  · exact same_end 1 k a 2 rfl (fun _ => by rw [st_lit 2 k (by omega)]; rfl)
  · refine same_fix 2 k a [3, 5] (by decide) rfl (fun q y hq => ?_)
    match q, hq with
    | 0, hq =>
      simp at hq; subst hq
      rw [st_lit 3 k (by omega)]
      simp [rKid]
    | 1, hq =>
      simp at hq; subst hq
      rw [st_lit 5 k (by omega)]
      simp [rKid]
    | q + 2, hq => simp at hq
  · exact same_end 3 k a 4 rfl (fun _ => by rw [st_lit 4 k (by omega)]; rfl)
  · refine same_fix 4 k a [] (by decide) rfl (fun q y hq => ?_)
    simp at hq
  · exact same_end 5 k a 201 rfl (fun _ => by rw [st201 k]; rfl)
  · refine same_fix 6 k a [200] (by decide) rfl (fun q y hq => ?_)
    match q, hq with
    | 0, hq =>
      simp at hq; subst hq
      rw [st200 k]
      simp [rKid]
    | q + 1, hq => simp at hq
  · refine same_fix 7 k a [202, 200] (by decide) rfl (fun q y hq => ?_)
    match q, hq with
    | 0, hq =>
      simp at hq; subst hq
      rw [st202 k]
      simp [rKid]
    | 1, hq =>
      simp at hq; subst hq
      rw [st200 k]
      simp [rKid]
    | q + 2, hq => simp at hq
  · refine same_fix 8 k a [200, 5, 5] (by decide) rfl (fun q y hq => ?_)
    match q, hq with
    | 0, hq =>
      simp at hq; subst hq
      rw [st200 k]
      simp [rKid]
    | 1, hq =>
      simp at hq; subst hq
      rw [st_lit 5 k (by omega)]
      simp [rKid]
    | 2, hq =>
      simp at hq; subst hq
      rw [st_lit 5 k (by omega)]
      simp [rKid]
    | q + 3, hq => simp at hq
  · refine same_fix 9 k a [200, 5] (by decide) rfl (fun q y hq => ?_)
    match q, hq with
    | 0, hq =>
      simp at hq; subst hq
      rw [st200 k]
      simp [rKid]
    | 1, hq =>
      simp at hq; subst hq
      rw [st_lit 5 k (by omega)]
      simp [rKid]
    | q + 2, hq => simp at hq
  · refine same_fix 10 k a [200] (by decide) rfl (fun q y hq => ?_)
    match q, hq with
    | 0, hq =>
      simp at hq; subst hq
      rw [st200 k]
      simp [rKid]
    | q + 1, hq => simp at hq
  · refine same_fix 11 k a [200] (by decide) rfl (fun q y hq => ?_)
    match q, hq with
    | 0, hq =>
      simp at hq; subst hq
      rw [st200 k]
      simp [rKid]
    | q + 1, hq => simp at hq
  · refine same_fix 12 k a [25] (by decide) rfl (fun q y hq => ?_)
    match q, hq with
    | 0, hq =>
      simp at hq; subst hq
      rw [st_lit 25 k (by omega)]
      simp [rKid]
    | q + 1, hq => simp at hq
  · refine same_fix 20 k a [] (by decide) rfl (fun q y hq => ?_)
    simp at hq
  · refine same_fix 21 k a [] (by decide) rfl (fun q y hq => ?_)
    simp at hq
  · refine same_fix 22 k a [] (by decide) rfl (fun q y hq => ?_)
    simp at hq
  · refine same_fix 23 k a [200] (by decide) rfl (fun q y hq => ?_)
    match q, hq with
    | 0, hq =>
      simp at hq; subst hq
      rw [st200 k]
      simp [rKid]
    | q + 1, hq => simp at hq
  · refine same_fix 24 k a [200, 200] (by decide) rfl (fun q y hq => ?_)
    match q, hq with
    | 0, hq =>
      simp at hq; subst hq
      rw [st200 k]
      simp [rKid]
    | 1, hq =>
      simp at hq; subst hq
      rw [st200 k]
      simp [rKid]
    | q + 2, hq => simp at hq
  · exact same_end 25 k a 200 rfl (fun _ => by rw [st200 k]; rfl)
  · refine same_fix 26 k a [200, 200] (by decide) rfl (fun q y hq => ?_)
    match q, hq with
    | 0, hq =>
      simp at hq; subst hq
      rw [st200 k]
      simp [rKid]
    | 1, hq =>
      simp at hq; subst hq
      rw [st200 k]
      simp [rKid]
    | q + 2, hq => simp at hq
  · refine same_fix 27 k a [200, 200] (by decide) rfl (fun q y hq => ?_)
    match q, hq with
    | 0, hq =>
      simp at hq; subst hq
      rw [st200 k]
      simp [rKid]
    | 1, hq =>
      simp at hq; subst hq
      rw [st200 k]
      simp [rKid]
    | q + 2, hq => simp at hq
  · refine same_fix 28 k a [200] (by decide) rfl (fun q y hq => ?_)
    match q, hq with
    | 0, hq =>
      simp at hq; subst hq
      rw [st200 k]
      simp [rKid]
    | q + 1, hq => simp at hq
  · refine same_fix 29 k a [] (by decide) rfl (fun q y hq => ?_)
    simp at hq
  · rename_i h1 h2 h3 h4 h5 h6 h7 h8 h9 h10 h11 h12 h13 h14 h15 h16 h17 h18 h19 h20 h21 h22
    have hm : rMany p = 0 := by
      unfold rMany
      split <;> first | rfl | exact (h1 rfl).elim | exact (h2 rfl).elim | exact (h3 rfl).elim | exact (h4 rfl).elim | exact (h5 rfl).elim | exact (h6 rfl).elim | exact (h7 rfl).elim | exact (h8 rfl).elim | exact (h9 rfl).elim | exact (h10 rfl).elim | exact (h11 rfl).elim | exact (h12 rfl).elim | exact (h13 rfl).elim | exact (h14 rfl).elim | exact (h15 rfl).elim | exact (h16 rfl).elim | exact (h17 rfl).elim | exact (h18 rfl).elim | exact (h19 rfl).elim | exact (h20 rfl).elim | exact (h21 rfl).elim | exact (h22 rfl).elim
    refine same_fix p k a [] (by decide) hm (fun q y hq => ?_)
    simp at hq

end Go.Proofs.YtfegodofbdlbeaaGreatDoor

/-
  What is right, as the document's answer reckons it.
-/
namespace Go.Proofs.YtfegodofbdlbeaaGreatDoor

def rKnown (k : Int) : Bool := (decide (1 ≤ k) && decide (k ≤ 12)) || rExpr k
def rNumber (k n : Int) : Bool := n == 0 || (k == 20 && decide (0 < n)) || (k == 21 && n == 1)
def rLen (k : Int) (c : Nat) : Bool := decide (rMany k < 0) || (c : Int) == rMany k
def rKidsFit (p : Int) (i : Nat) : List Tr → Bool
  | [] => true
  | x :: l => rFits p x.k i && rKidsFit p (i + 1) l
def rSet (x : Tr) : Bool := x.k != 7 || match x.kids with | [] => false | y :: _ => (y.k != 26 || match y.kids with | [] => false | z :: _ => z.k == 22)

theorem number_ref (k n : Int) : Tr.numOk k n = rNumber k n := by
  unfold Tr.numOk rNumber
  rw [Bool.eq_iff_iff]
  split
  · next h => subst h; simp; omega
  · split
    · next h => subst h; simp
    · next h1 h2 => simp [h1, h2]
theorem known_ref (k : Int) : (Tr.table k).isSome = rKnown k := by
  unfold Tr.table
  split
  all_goals first
    | rfl
    | (show false = rKnown k
       symm
       unfold rKnown rExpr
       rw [Bool.eq_false_iff]
       intro h
       simp only [Bool.or_eq_true, Bool.and_eq_true, decide_eq_true_eq] at h
       have h9 : k = 1 ∨ k = 2 ∨ k = 3 ∨ k = 4 ∨ k = 5 ∨ k = 6 ∨ k = 7 ∨ k = 8 ∨ k = 9 ∨ k = 10 ∨ k = 11 ∨ k = 12 ∨ k = 20 ∨ k = 21 ∨ k = 22 ∨ k = 23 ∨ k = 24 ∨ k = 25 ∨ k = 26 ∨ k = 27 ∨ k = 28 ∨ k = 29 := by omega
       clear h
       rcases h9 with rfl | rfl | rfl | rfl | rfl | rfl | rfl | rfl | rfl | rfl | rfl | rfl | rfl | rfl | rfl | rfl | rfl | rfl | rfl | rfl | rfl | rfl <;> contradiction)
theorem len_ref (k : Int) (r : List Int) (c : Nat) (h : Tr.table k = some r) : Tr.holdsRow r c = rLen k c := by
  unfold Tr.table at h
  have e3 : ∀ m : Nat, (c == m) = ((c : Int) == (m : Int)) := fun m => by rw [Bool.eq_iff_iff]; simp only [beq_iff_eq]; omega
  split at h
  all_goals first
    | (cases h; simp [Tr.holdsRow, Tr.endless, rLen, rMany]; done)
    | (cases h; simp [Tr.holdsRow, Tr.endless, rLen, rMany, e3]; done)
    | cases h
theorem kidsFit_ref (p : Int) (r : List Int) (h : Tr.table p = some r) : ∀ (l : List Tr) (i : Nat), Tr.kidsFit r i l = rKidsFit p i l
  | [], i => rfl
  | x :: l, i => by
    have e : Tr.fitsRow r x.k i = rFits p x.k i := by
      rw [← fits_same]
      unfold Tr.fits
      rw [h]
      rfl
    rw [Tr.kidsFit, rKidsFit, e, kidsFit_ref p r h l (i + 1)]
theorem kidsOk_ref (x : Tr) : Tr.kidsOk x = (rKnown x.k && rLen x.k x.kids.length && rKidsFit x.k 0 x.kids && rSet x) := by
  unfold Tr.kidsOk
  cases h : Tr.table x.k with
  | none =>
    have : rKnown x.k = false := by rw [← known_ref, h]; rfl
    rw [this]; rfl
  | some r =>
    have hk : rKnown x.k = true := by rw [← known_ref, h]; rfl
    simp only
    rw [hk, len_ref _ r _ h, kidsFit_ref _ r h, Bool.true_and]
    by_cases h7 : x.k = 7
    · rw [h7]
      unfold rSet
      rw [h7]
      cases hl : x.kids with
      | nil => simp
      | cons y l =>
        simp only [rKidsFit]
        by_cases hy : y.k = 22
        · simp [Tr.placeOk, hy]
        · by_cases hz : y.k = 26
          · simp [Tr.placeOk, hz]
            cases y.kids <;> rfl
          · have : rFits 7 y.k (0 : Nat) = false := by simp [rFits, rMany, rKid, hy, hz]
            rw [this]; simp
    · have e1 : (x.k != 7) = true := by simpa using h7
      unfold rSet
      rw [e1]; simp
/-- Right, so deep at most, as the document's answer reckons it. -/
theorem right_ref (m : Nat) (x : Tr) : Tr.right (m + 1) x = (rKnown x.k && rNumber x.k x.n && Tr.textOk x.k x.t && rLen x.k x.kids.length && (rKidsFit x.k 0 x.kids && x.kids.all (Tr.right m)) && rSet x) := by
  rw [Tr.right, kidsOk_ref, number_ref]
  cases rKnown x.k <;> cases rNumber x.k x.n <;> cases Tr.textOk x.k x.t <;> cases rLen x.k x.kids.length <;> cases rKidsFit x.k 0 x.kids <;> cases rSet x <;> cases x.kids.all (Tr.right m) <;> rfl
end Go.Proofs.YtfegodofbdlbeaaGreatDoor

/-
  The walk of the document's Size.
-/
namespace Go.Proofs.YtfegodofbdlbeaaGreatDoor
open Go.RowKit Go.Shelf

attribute [local go_sem] Oper.semAt_some

end Go.Proofs.YtfegodofbdlbeaaGreatDoor

/-
  The walks of the document's Named and text.
-/
namespace Go.Proofs.YtfegodofbdlbeaaGreatDoor
open Go.RowKit Go.Shelf

attribute [local go_sem] Oper.semAt_some

set_option maxRecDepth 100000 in
set_option maxHeartbeats 2000000 in
theorem rnamedT_any (k : Int) (w : World) : Calls Tryz.prog 94 #[.int .u8 k] w fun e w' => e = .returned (.bool (Tr.bears k)) ∧ w' = w := by
  go_enter Tryz.func94, Tryz.ntmps94
  go_wp2
  all_goals go_ret
  all_goals refine ⟨ret_bool ?_, rfl⟩
  all_goals unfold Tr.bears
  all_goals first | rfl | (rw [Bool.eq_iff_iff]; simp; try omega)

set_option maxRecDepth 100000 in
set_option maxHeartbeats 4000000 in
theorem rtext_any (k n : Int) (t : List UInt8) (kv : Value) (w : World) (ht : t.length ≤ 9223372036854775807) : Calls Tryz.prog 72 #[.agg #[.int .u8 k, .string (Ln.bs t), .int .i64 n, kv]] w fun e w' => e = .returned (.bool (Tr.textOk k t)) ∧ Below w.heap.size w w' := by
  obtain ⟨X, hX⟩ : ∃ X, X = w.alloc (.cells #[.int .u8 k, .string (Ln.bs t), .int .i64 n, kv] 26) := ⟨_, rfl⟩
  have hB : Below w.heap.size w X := hX ▸ below_new w _
  have hn := World.alloc_heap_new w (.cells #[.int .u8 k, .string (Ln.bs t), .int .i64 n, kv] 26)
  rw [← hX] at hn
  have c0 : X.cell? ⟨w.heap.size, 0, none⟩ = some (.int .u8 k) := cells_at hn rfl
  have c1 : X.cell? ⟨w.heap.size, 1, none⟩ = some (.string (Ln.bs t)) := cells_at hn rfl
  have NM : Hid (_) := rname_any (Ln.bs t) (by rw [Ln.bs_size]; exact ht) X
  have HB : Hid (Below w.heap.size w X) := hB
  clear hn hB
  unfold Tr.textOk
  cases hb : Tr.bears k
  · simp only [Bool.false_eq_true, if_false]
    have BE : Hid (∀ w, Calls Tryz.prog 94 #[.int .u8 k] w fun e w' => e = .returned (.bool false) ∧ w' = w) := fun w => by have := rnamedT_any k w; rwa [hb] at this
    clear NM
    by_cases h23 : k = 23
    · subst h23
      rw [if_pos rfl]
      have hT : (Ln.bs t).toList = t := by rw [Lib.toList_data]; rfl
      have HE : Hid (Below w.heap.size w X ∧ X.cell? ⟨w.heap.size, 0, none⟩ = some (.int .u8 23) ∧ X.cell? ⟨w.heap.size, 1, none⟩ = some (.string (Ln.bs t))) := ⟨HB.out, c0, c1⟩
      by_cases t1 : t = [45]
      · have q1 : (t == [45]) = true := by rw [t1]; rfl
        have r1 : (decide (t = [45]) || decide (t = [33])) = true := by rw [t1]; rfl
        rw [r1]
        clear t1 r1
        go_enter Tryz.func72, Tryz.ntmps72
        go_wp2_with fail
        rw [← hX]
        clear hX
        refine (BE.out X).mono ?_
        rintro e w1 ⟨rfl, rfl⟩
        go_wp2
        all_goals (go_ret; first | exact ⟨rfl, HB.out⟩ | (exfalso; simp_all; done))
      · have q1 : (t == [45]) = false := by simpa using t1
        have r1 : (decide (t = [45]) || decide (t = [33])) = (t == [33]) := by rw [decide_eq_false t1, Bool.false_or, Bool.eq_iff_iff]; simp
        rw [r1]
        clear t1 r1
        go_enter Tryz.func72, Tryz.ntmps72
        go_wp2_with fail
        rw [← hX]
        clear hX
        refine (BE.out X).mono ?_
        rintro e w1 ⟨rfl, rfl⟩
        go_wp2
        all_goals (go_ret; first | exact ⟨rfl, HB.out⟩ | (exfalso; simp_all; done) | (refine ⟨congrArg (fun b => Ending.returned (.bool b)) ?_, HB.out⟩; simp_all))
    · rw [if_neg h23]
      have d3 : decide (k = 23) = false := decide_eq_false h23
      by_cases h24 : k = 24
      · subst h24
        rw [if_pos rfl]
        obtain ⟨Y, hY⟩ : ∃ Y, Y = X.alloc (.cells #[.string ⟨#[124, 124]⟩, .string ⟨#[38, 38]⟩, .string ⟨#[61, 61]⟩, .string ⟨#[33, 61]⟩, .string ⟨#[60]⟩, .string ⟨#[60, 61]⟩, .string ⟨#[62]⟩, .string ⟨#[62, 61]⟩, .string ⟨#[43]⟩, .string ⟨#[45]⟩, .string ⟨#[42]⟩, .string ⟨#[47]⟩, .string ⟨#[37]⟩] 9) := ⟨_, rfl⟩
        have hr : RowLow Y.heap.size Y (.slice (some ⟨X.heap.size, 0, none⟩) 13 13) Tr.signs := by
          rw [hY]; exact CellsLow.lit X (Tr.signs.map txtV) 9 13
        obtain ⟨ra, rc, rb, ro, hre, -, hra, hrc⟩ := hr.parts
        obtain ⟨rfl, -⟩ := hra (by decide)
        have hbY : Below X.heap.size X Y := hY ▸ below_new X _
        have HBY : Hid (Below w.heap.size w Y) := below_then HB.out hbY
        have c1Y : Y.cell? ⟨w.heap.size, 1, none⟩ = some (.string (Ln.bs t)) := by
          have hlt : w.heap.size < X.heap.size := by rw [hX, World.size_alloc]; omega
          exact (World.cell?_of_block (w := X) (a := ⟨w.heap.size, 1, none⟩) (hbY.block _ hlt)).trans c1
        have ere : rb = X.heap.size ∧ ro = 0 := by cases hre; exact ⟨rfl, rfl⟩
        obtain ⟨rfl, rfl⟩ := ere
        have HRC : Hid (∀ (j : Nat) (x : List UInt8), Tr.signs[j]? = some x → Y.cell? ⟨X.heap.size, j, none⟩ = some (.string (Ln.bs x))) := fun j x hj => by
          have := hrc j x hj
          rwa [Nat.zero_add] at this
        obtain ⟨cc, hcc⟩ : ∃ c, c = Tr.signs.contains t := ⟨_, rfl⟩
        have HCC : Hid (cc = Tr.signs.contains t) := hcc
        rw [← hcc]
        clear hr hra hrc hre hbY hcc
        refine (callsIn_wide (n := 3)).1 ?_
        refine callsIn_of_wp Tryz.func72 rfl trivial ?_ rfl
        simp only [Tryz.ntmps72, List.size_toArray, List.length_cons, List.length_nil, Nat.reduceAdd, Nat.reduceSub, Array.replicate_succ, Array.replicate_zero, List.push_toArray, List.append_toArray, List.nil_append, List.cons_append]
        gi_wp2
        rw [← hX]
        clear hX
        refine ⟨trivial, ?_⟩
        refine (callsIn_wide.2 (BE.out X)).mono ?_
        rintro e w1 ⟨rfl, rfl⟩
        gi_wp2
        rw [← hY]
        clear hY
        gi_loopw [4] (fun i wr => ∃ (j d : Nat), j ≤ 13 ∧ i = .int .i64 j ∧ wr = Y.drewN d ∧ ∀ q, q < j → Tr.signs[q]? ≠ some t) (fun i _ => 13 - (intOf i).toNat)
        case atStart => exact ⟨0, 0, by omega, rfl, rfl, fun q h => absurd h (Nat.not_lt_zero _)⟩
        case round =>
          obtain ⟨j, d, hj, rfl, rfl, hall⟩ := hrel
          by_cases hlt : j < 13
          · obtain ⟨x, hx⟩ : ∃ x, Tr.signs[j]? = some x := ⟨Tr.signs[j]'hlt, List.getElem?_eq_getElem hlt⟩
            have cx := HRC.out j x hx
            have hj13 : (j : Int) < 13 := by omega
            have q0 : ((Ln.bs t).toList == (Ln.bs x).toList) = (t == x) := by rw [Lib.toList_data, Lib.toList_data]; rfl
            by_cases hE : t = x
            · have q1 : ((Ln.bs t).toList == (Ln.bs x).toList) = true := by rw [q0]; simpa using hE
              have hyes : Tr.signs.contains t = true := by
                rw [List.contains_iff_mem, hE]; exact List.mem_of_getElem? hx
              have HYS : Hid (cc = true) := HCC.out.trans hyes
              clear hall hE q0 hx hyes
              gi_wp2
              refine region_lex (fun z => z.cell? ⟨w.heap.size, 1, none⟩ = some (.string (Ln.bs t)) ∧ z.cell? ⟨w1.heap.size, j, none⟩ = some (.string (Ln.bs x))) 7 0 rfl (by kernel_rfl) (by kernel_rfl) (by kernel_rfl) (by kernel_rfl) (fun _ _ d _ _ h => by cases d <;> exact h) ⟨c1Y, cx⟩ ?_
              simp only [List.take_succ_cons, List.take_zero]
              iterate 7 (first
                | (apply lexC_want
                   · rfl
                   · exact fun _ => rfl
                   · (intro w' hw'; obtain ⟨a0, a1⟩ := hw'; go_simp; try rfl)
                   simp only [Act.put, List.setIfInBounds_toArray, List.set_cons_zero, List.set_cons_succ]))
              refine lexC_nil ?_
              refine anyC_done (by kernel_rfl) ?_
              gi_wp2
              go_ret
              have e9 := HYS.out
              subst e9
              exact ⟨rfl, below_then HBY.out (below_then (below_draw Y d) (below_draw _ 1))⟩
            · have q1 : ((Ln.bs t).toList == (Ln.bs x).toList) = false := by rw [q0]; simpa using hE
              have HA : Hid (∀ q, q < j + 1 → Tr.signs[q]? ≠ some t) := fun q hq e => by
                rcases Nat.lt_succ_iff_lt_or_eq.1 hq with h | h
                · exact hall q h e
                · subst h; rw [hx] at e; cases e; exact hE rfl
              clear hall hE q0 hx
              gi_wp2
              refine region_lex (fun z => z.cell? ⟨w.heap.size, 1, none⟩ = some (.string (Ln.bs t)) ∧ z.cell? ⟨w1.heap.size, j, none⟩ = some (.string (Ln.bs x))) 7 0 rfl (by kernel_rfl) (by kernel_rfl) (by kernel_rfl) (by kernel_rfl) (fun _ _ d _ _ h => by cases d <;> exact h) ⟨c1Y, cx⟩ ?_
              simp only [List.take_succ_cons, List.take_zero]
              iterate 7 (first
                | (apply lexC_want
                   · rfl
                   · exact fun _ => rfl
                   · (intro w' hw'; obtain ⟨a0, a1⟩ := hw'; go_simp; try rfl)
                   simp only [Act.put, List.setIfInBounds_toArray, List.set_cons_zero, List.set_cons_succ]))
              refine lexC_nil ?_
              refine anyC_done (by kernel_rfl) ?_
              gi_wp2
              refine ⟨⟨j + 1, d + 1, by omega, by simp, rfl, HA.out⟩, by simp [intOf]; omega⟩
          · have hj13 : j = 13 := by omega
            subst hj13
            have hno : Tr.signs.contains t = false := by
              rw [Bool.eq_false_iff]
              intro h
              rw [List.contains_iff_mem] at h
              obtain ⟨q, hq, e⟩ := List.getElem_of_mem h
              exact hall q hq (by rw [List.getElem?_eq_getElem hq, e])
            have HNO : Hid (cc = false) := HCC.out.trans hno
            clear hall hno
            gi_wp2
            go_ret
            have e9 := HNO.out
            subst e9
            exact ⟨rfl, below_then HBY.out (below_draw Y d)⟩
      · rw [if_neg h24]
        have d4 : decide (k = 24) = false := decide_eq_false h24
        have hT : (Ln.bs t).toList = t := by rw [Lib.toList_data]; rfl
        go_enter Tryz.func72, Tryz.ntmps72
        go_wp2_with fail
        rw [← hX]
        clear hX
        refine (BE.out X).mono ?_
        rintro e w1 ⟨rfl, rfl⟩
        go_wp2
        go_ret
        refine ⟨congrArg (fun b => Ending.returned (.bool b)) ?_, HB.out⟩
        cases t <;> rfl
  · have BE : Hid (∀ w, Calls Tryz.prog 94 #[.int .u8 k] w fun e w' => e = .returned (.bool true) ∧ w' = w) := fun w => by have := rnamedT_any k w; rwa [hb] at this
    rw [if_pos rfl]
    go_enter Tryz.func72, Tryz.ntmps72
    go_wp2_with fail
    rw [← hX]
    clear hX
    refine (BE.out X).mono ?_
    rintro e w1 ⟨rfl, rfl⟩
    go_wp2_with fail
    refine Calls.mono NM.out ?_
    rintro e w2 ⟨rfl, hb2⟩
    have HB2 : Hid (Below w.heap.size w w2) := below_then HB.out hb2
    clear hb2
    go_wp2
    go_ret
    exact ⟨rfl, HB2.out⟩
end Go.Proofs.YtfegodofbdlbeaaGreatDoor

/-
  The walks of the document's right and Right.
-/
namespace Go.Proofs.YtfegodofbdlbeaaGreatDoor
open Go.RowKit Go.Shelf

attribute [local go_sem] Oper.semAt_some

def RRightAt (m : Nat) : Prop := ∀ (S : Nat → Prop) (t : Tr) (v : Value) (w : World), m ≤ 1000 → (∀ b, S b → b < w.heap.size) → NodeR S w v t →
  Calls Tryz.prog 43 #[v, .int .i64 m] w fun e w' => e = .returned (.bool (Tr.right m t)) ∧ Below w.heap.size w w'

theorem rknown_in {k : Int} (h1 : 1 ≤ k) (h2 : k ≤ 12) : rKnown k = true := by
  unfold rKnown; rw [decide_eq_true h1, decide_eq_true h2]; rfl
theorem rknown_out {k : Int} (h : ¬ (1 ≤ k ∧ k ≤ 12)) : rKnown k = rExpr k := by
  unfold rKnown
  have : (decide (1 ≤ k) && decide (k ≤ 12)) = false := by
    rw [Bool.eq_false_iff]; intro e; simp at e; exact h e
  rw [this]; rfl
theorem wp_region_ncls {P : Program} {ι : Type} (f : ι → World) {id : Nat} {Q : Exit → Act → World → Prop} {a : Act} {w : World} {l : List Oper} (hm : P.follows .mixedOrders = true) (hB : Region.lexB .any l.toArray = true) (z0 : ι) (h0 : f z0 = w.drew)
    (h : wpQuiet P l.toArray (fun w' => ∃ z, w' = f z) (fun a' => ∀ w', (∃ z, w' = f z) → Q .normal a' w') l a) : (Code.region id l.toArray true).wp P Q a w :=
  wp_region_quiet (C := fun w' => ∃ z, w' = f z) hm hB ⟨z0, h0.symm⟩ (by simpa using h)
/-- The worlds in which a part of a region goes: nothing below has turned. -/
structure NCls (w : World) where
  val : World
  below : Below w.heap.size w val
theorem NCls.next {w : World} (z : NCls w) {w2 : World} (hb : Below z.val.heap.size z.val w2) : ∃ z2 : NCls w, w2 = z2.val :=
  ⟨⟨w2, z.below.trans (hb.mono z.below.size)⟩, rfl⟩

def hd22 : List Tr → Bool
  | [] => false
  | z :: _ => z.k == 22
theorem rset_set (x y : Tr) (r : List Tr) (hk : x.k = 7) (hx : x.kids = y :: r) : rSet x = ((y.k != 26) || hd22 y.kids) := by
  unfold rSet
  rw [hk, hx]
  cases h : y.kids with
  | nil => simp [h, hd22]
  | cons z l => simp [h, hd22]
theorem right_idx {m : Nat} {y : Tr} (h : Tr.right m y = true) (hk : y.k = 26) : y.kids.length = 2 := by
  cases m with
  | zero => cases h
  | succ m =>
    rw [right_ref] at h
    simp only [Bool.and_eq_true] at h
    have h1 := h.1.1.2
    unfold rLen at h1
    rw [hk] at h1
    simp [rMany] at h1
    omega
theorem rlen_no {k : Int} {c : Nat} (h1 : 0 ≤ rMany k) (h2 : (c : Int) ≠ rMany k) : rLen k c = false := by
  unfold rLen
  rw [decide_eq_false (by omega), Bool.false_or]
  simpa using h2
theorem rlen_any {k : Int} {c : Nat} (h1 : ¬ 0 ≤ rMany k) : rLen k c = true := by
  unfold rLen
  rw [decide_eq_true (by omega), Bool.true_or]
theorem rlen_yes {k : Int} {c : Nat} (h2 : (c : Int) = rMany k) : rLen k c = true := by
  unfold rLen
  rw [h2]; simp
theorem rkids_drop {p : Int} {l : List Tr} {i : Nat} {x : Tr} (hx : l[i]? = some x) : rKidsFit p i (l.drop i) = (rFits p x.k i && rKidsFit p (i + 1) (l.drop (i + 1))) := by
  have h1 := (List.getElem?_eq_some_iff.1 hx).1
  rw [List.getElem?_eq_getElem h1] at hx
  rw [List.drop_eq_getElem_cons h1, Option.some.inj hx]
  rfl
theorem all_drop {f : Tr → Bool} {l : List Tr} {i : Nat} {x : Tr} (hx : l[i]? = some x) : (l.drop i).all f = (f x && (l.drop (i + 1)).all f) := by
  have h1 := (List.getElem?_eq_some_iff.1 hx).1
  rw [List.getElem?_eq_getElem h1] at hx
  rw [List.drop_eq_getElem_cons h1, Option.some.inj hx]
  rfl

set_option maxRecDepth 100000 in
set_option maxHeartbeats 4000000 in
theorem rright_step (m : Nat) (ih : ∀ m', m = m' + 1 → RRightAt m') : RRightAt m := by
  intro S t v w hm hS hv
  obtain ⟨⟨k, tx, n, kv, kids⟩, rfl, rfl, hf, hr⟩ := hv
  obtain ⟨ka, kc, hkv⟩ := hr.slice
  simp only at hkv
  subst hkv
  simp only [N1.cells]
  obtain ⟨X, hX⟩ : ∃ X, X = w.alloc (.cells #[.int .u8 k, .string (Ln.bs tx), .int .i64 n, .slice ka kids.length kc] 26) := ⟨_, rfl⟩
  have hB : Below w.heap.size w X := hX ▸ below_new w _
  have hXn : X.heap[w.heap.size]? = some (.cells #[.int .u8 k, .string (Ln.bs tx), .int .i64 n, .slice ka kids.length kc] 26 (0, 0)) := by rw [hX]; exact World.alloc_heap_new w _
  have HTX : Hid (_) := rtext_any k n tx (.slice ka kids.length kc) X hf.2.1
  have HCE : Hid (∀ W, Below X.heap.size X W → W.cell? ⟨w.heap.size, 0, none⟩ = some (.int .u8 k) ∧ W.cell? ⟨w.heap.size, 1, none⟩ = some (.string (Ln.bs tx)) ∧ W.cell? ⟨w.heap.size, 2, none⟩ = some (.int .i64 n) ∧ W.cell? ⟨w.heap.size, 3, none⟩ = some (.slice ka kids.length kc)) := fun W hW => by
    have h1 := (hW.block _ (Array.getElem?_eq_some_iff.1 hXn).1).trans hXn
    exact ⟨cells_at h1 rfl, cells_at h1 rfl, cells_at h1 rfl, cells_at h1 rfl⟩
  obtain ⟨e0, e1, e2, e3⟩ := HCE.out X (Below.refl _ _)
  have HBX : Hid (Below w.heap.size w X) := hB
  have HR : Hid (RowR S w (.slice ka kids.length kc) kids ∧ ∀ b, S b → b < w.heap.size) := ⟨hr, hS⟩
  have HIH : Hid (∀ m', m = m' + 1 → RRightAt m') := ih
  have HEX : Hid (_) := rexpr_any k X
  have HMN : Hid (_) := rmany_any k X
  have HRI : Hid (∀ m', m = m' + 1 → Tr.right m (N1.tr ⟨k, tx, n, .slice ka kids.length kc, kids⟩) = (rKnown k && rNumber k n && Tr.textOk k tx && rLen k kids.length && (rKidsFit k 0 kids && kids.all (Tr.right m')) && rSet (N1.tr ⟨k, tx, n, .slice ka kids.length kc, kids⟩))) := fun m' e => by subst e; exact right_ref m' _
  have HR0 : Hid (m = 0 → Tr.right m (N1.tr ⟨k, tx, n, .slice ka kids.length kc, kids⟩) = false) := fun e => by subst e; rfl
  clear hr hS hf hXn hB ih
  obtain ⟨RR, hRR⟩ : ∃ b, b = Tr.right m (N1.tr ⟨k, tx, n, .slice ka kids.length kc, kids⟩) := ⟨_, rfl⟩
  obtain ⟨tO, htO⟩ : ∃ b, b = Tr.textOk k tx := ⟨_, rfl⟩
  obtain ⟨kO, hkO⟩ : ∃ b, b = rKnown k := ⟨_, rfl⟩
  obtain ⟨nO, hnO⟩ : ∃ b, b = rNumber k n := ⟨_, rfl⟩
  have HKO : Hid (kO = rKnown k) := hkO
  have HNO : Hid (nO = rNumber k n) := hnO
  rw [← htO] at HTX
  rw [← hRR] at HRI HR0
  rw [← hRR]
  rw [← htO, ← hkO, ← hnO] at HRI
  clear htO hRR hkO hnO
  go_enter Tryz.func43, Tryz.ntmps43
  go_upto_region 1 with fail
  rw [← hX]
  clear hX
  go_cut [5] from 9 to 21 (fun s5 wx => s5 = .bool kO ∧ wx = X)
  case first =>
    by_cases h1 : 1 ≤ k
    · by_cases h2 : k ≤ 12
      · have hk : rKnown k = true := rknown_in h1 h2
        go_wp2
        go_meet
        case rel => exact ⟨congrArg Value.bool (HKO.out.trans hk).symm, rfl⟩
      · have hk : rKnown k = rExpr k := rknown_out (fun h => h2 h.2)
        go_wp2_with fail
        refine Calls.mono HEX.out ?_
        rintro e w1 ⟨rfl, rfl⟩
        go_wp2
        go_meet
        case rel => exact ⟨congrArg Value.bool (HKO.out.trans hk).symm, rfl⟩
    · have hk : rKnown k = rExpr k := rknown_out (fun h => h1 h.1)
      go_wp2_with fail
      refine Calls.mono HEX.out ?_
      rintro e w1 ⟨rfl, rfl⟩
      go_wp2
      go_meet
      case rel => exact ⟨congrArg Value.bool (HKO.out.trans hk).symm, rfl⟩
  case rest =>
  obtain ⟨rfl, hwc⟩ := hcut
  have hw2 := hwc.symm
  clear hwc HEX
  subst hw2
  go_upto_region 2 with fail
  go_cut [6] from 22 to 44 (fun s6 wx => s6 = .bool nO ∧ wx = X)
  case first =>
    by_cases hn0 : n = 0
    · have hv : rNumber k n = true := by unfold rNumber; rw [hn0]; rfl
      have d0 : (n == 0) = true := by simpa using hn0
      clear hn0
      go_wp2
      go_meet
      case rel => exact ⟨congrArg Value.bool (HNO.out.trans hv).symm, rfl⟩
    · have d0 : (n == 0) = false := by simpa using hn0
      by_cases hk20 : k = 20
      · subst hk20
        have hv : rNumber 20 n = decide (0 < n) := by unfold rNumber; rw [d0]; simp
        clear hn0
        by_cases hp : 0 < n
        · have dp : decide (0 < n) = true := decide_eq_true hp
          go_wp2
          go_meet
          case rel => exact ⟨congrArg Value.bool (by rw [HNO.out, hv, dp]), rfl⟩
        · have dp : decide (0 < n) = false := decide_eq_false hp
          go_wp2
          go_meet
          case rel => exact ⟨congrArg Value.bool (by rw [HNO.out, hv, dp]), rfl⟩
      · have dk : (k == 20) = false := by simpa using hk20
        by_cases hk21 : k = 21
        · subst hk21
          have hv : rNumber 21 n = (n == 1) := by unfold rNumber; rw [d0]; simp
          clear hn0
          go_wp2
          go_meet
          case rel => exact ⟨congrArg Value.bool (by rw [HNO.out, hv]), rfl⟩
        · have dk1 : (k == 21) = false := by simpa using hk21
          have hv : rNumber k n = false := by unfold rNumber; rw [d0, dk, dk1]; rfl
          clear hn0 hk20 hk21
          go_wp2
          go_meet
          case rel => exact ⟨congrArg Value.bool (HNO.out.trans hv).symm, rfl⟩
  case rest =>
  obtain ⟨rfl, hwc⟩ := hcut
  have hw2 := hwc.symm
  clear hwc HKO HNO
  subst hw2
  obtain ⟨M, hM⟩ : ∃ M, M = rMany k := ⟨_, rfl⟩
  have HMM : Hid (M = rMany k) := hM
  rw [← hM] at HMN
  clear hM
  go_wp2_with fail
  refine Calls.mono HMN.out ?_
  rintro e w1 ⟨rfl, hw1⟩
  have hw2 := hw1.symm
  clear hw1 HMN
  subst hw2
  obtain ⟨xs, xa, xc, xb, xo, ex, hxv, -, hxa, hxl, hx⟩ := HR.out.1.parts
  cases hxv
  have HX : Hid (_) := hx
  have HEX : Hid (kids = xs.map N1.tr) := ex
  obtain ⟨N, hN⟩ : ∃ N, N = kids.length := ⟨_, rfl⟩
  have HN : Hid (N = kids.length) := hN
  obtain ⟨lO, hlO⟩ : ∃ b, b = rLen k kids.length := ⟨_, rfl⟩
  have HLO : Hid (lO = rLen k N) := by rw [Hid, hlO, hN]
  obtain ⟨sO, hsO⟩ : ∃ b, b = rSet (N1.tr ⟨k, tx, n, .slice ka kids.length kc, kids⟩) := ⟨_, rfl⟩
  have HSO : Hid (sO = rSet (N1.tr ⟨k, tx, n, .slice ka kids.length kc, kids⟩)) := hsO
  rw [← hlO, ← hsO] at HRI
  rw [← hN] at hxa hxl e3 HCE HTX ⊢
  clear hx ex hlO hsO hN
  go_upto_region 4 with fail
  go_cut [73] from 48 to 73 (fun s73 wx => ∃ b, s73 = .bool b ∧ Below X.heap.size X wx ∧ (b = true → RR = false) ∧ (b = false → ∃ m', m = m' + 1 ∧ lO = true ∧ RR = ((rKidsFit k 0 kids && kids.all (Tr.right m')) && sO)))
  case first =>
    by_cases hm0 : m = 0
    · have dm : decide ((m : Int) < 1) = true := decide_eq_true (by omega)
      have HE : Hid (RR = false) := HR0.out hm0
      clear hm0
      go_wp2
      go_meet
      case rel => exact ⟨true, rfl, Below.refl _ _, fun _ => HE.out, fun h => by cases h⟩
    obtain ⟨m', hm'⟩ : ∃ m', m = m' + 1 := ⟨m - 1, by omega⟩
    have HMO : Hid (m = m' + 1) := hm'
    have HRE : Hid (_) := HRI.out m' hm'
    have dm : decide ((m : Int) < 1) = false := decide_eq_false (by omega)
    clear hm0 hm'
    cases kO
    · go_wp2
      go_meet
      case rel => exact ⟨true, rfl, Below.refl _ _, fun _ => by rw [HRE.out]; rfl, fun h => by cases h⟩
    cases nO
    · go_wp2
      go_meet
      case rel => exact ⟨true, rfl, Below.refl _ _, fun _ => by rw [HRE.out]; rfl, fun h => by cases h⟩
    go_wp2_with fail
    refine Calls.mono HTX.out ?_
    rintro e w1 ⟨rfl, hb1⟩
    have B1 : Hid (Below X.heap.size X w1) := hb1
    clear e0 e1 e2 e3 HTX hb1
    obtain ⟨e0, e1, e2, e3⟩ := HCE.out w1 B1.out
    cases tO
    · go_wp2
      go_meet
      case rel => exact ⟨true, rfl, B1.out, fun _ => by rw [HRE.out]; rfl, fun h => by cases h⟩
    by_cases hM0 : 0 ≤ M
    · have dM : decide (0 ≤ M) = true := decide_eq_true hM0
      by_cases hNM : (N : Int) = M
      · have dN : ((N : Int) == M) = true := by simpa using hNM
        have dN1 : ((N : Int) != M) = false := by simpa using hNM
        have hl : lO = true := by rw [HLO.out]; exact rlen_yes (by rw [hNM]; exact HMM.out)
        have HL : Hid (lO = true) := hl
        clear hNM hM0 hl
        go_wp2
        go_meet
        case rel => exact ⟨false, rfl, B1.out, (fun h => by cases h), fun _ => ⟨m', HMO.out, HL.out, by rw [HRE.out, HL.out]; simp⟩⟩
      · have dN : ((N : Int) == M) = false := by simpa using hNM
        have dN1 : ((N : Int) != M) = true := by simpa using hNM
        have hl : lO = false := by rw [HLO.out]; exact rlen_no (by rw [← HMM.out]; exact hM0) (by rw [← HMM.out]; exact hNM)
        have HL : Hid (lO = false) := hl
        clear hNM hM0 hl
        go_wp2
        go_meet
        case rel => exact ⟨true, rfl, B1.out, fun _ => by rw [HRE.out, HL.out]; rfl, fun h => by cases h⟩
    · have dM : decide (0 ≤ M) = false := decide_eq_false hM0
      have hl : lO = true := by rw [HLO.out]; exact rlen_any (by rw [← HMM.out]; exact hM0)
      have HL : Hid (lO = true) := hl
      clear hM0 hl
      go_wp2
      go_meet
      case rel => exact ⟨false, rfl, B1.out, (fun h => by cases h), fun _ => ⟨m', HMO.out, HL.out, by rw [HRE.out, HL.out]; simp⟩⟩
  case rest =>
  obtain ⟨b, rfl, hb1, hbt, hbf⟩ := hcut
  have B1 : Hid (Below X.heap.size X wc) := hb1
  clear e0 e1 e2 e3 HTX hb1 HRI HR0
  obtain ⟨e0, e1, e2, e3⟩ := HCE.out wc B1.out
  cases b
  case true =>
    have HE : Hid (RR = false) := hbt rfl
    clear hbt hbf
    go_wp2
    go_ret
    refine ⟨congrArg (fun b => Ending.returned (.bool b)) HE.out.symm, below_then HBX.out B1.out⟩
  case false =>
  obtain ⟨m', hm', hlt1, hRR⟩ := hbf rfl
  have HRR : Hid (RR = ((rKidsFit k 0 kids && kids.all (Tr.right m')) && sO)) := hRR
  have HLT : Hid (lO = true) := hlt1
  have HIM : Hid (RRightAt m') := HIH.out m' hm'
  have hms : (m : Int) - 1 = (m' : Int) := by omega
  have hm1000 : m' ≤ 1000 := by omega
  have HST : Hid (RR = ((rKidsFit k 0 (kids.drop 0) && (kids.drop 0).all (Tr.right m')) && sO)) := hRR
  clear hbt hbf hRR hlt1 HIH hm hm'
  go_wp2
  go_loopw [8] (fun i wr => ∃ q : Nat, q ≤ N ∧ i = .int .i64 q ∧ Below X.heap.size X wr ∧ RR = ((rKidsFit k q (kids.drop q) && (kids.drop q).all (Tr.right m')) && sO) ∧ (∀ j y, j < q → kids[j]? = some y → Tr.right m' y = true)) (fun i _ => N - (intOf i).toNat)
  case atStart => exact ⟨0, Nat.zero_le _, rfl, B1.out, HST.out, fun j y h => absurd h (Nat.not_lt_zero _)⟩
  case round =>
    clear HST B1 e0 e1 e2 e3
    obtain ⟨q, hq, rfl, hbr, hall, hrt⟩ := hrel
    obtain ⟨e0, e1, e2, e3⟩ := HCE.out wr hbr
    by_cases hlt : q < N
    · obtain ⟨rfl, hSb⟩ := hxa (by omega)
      have hql : q < xs.length := by have := HN.out; rw [HEX.out, List.length_map] at this; omega
      obtain ⟨⟨zk, zt, zn, zv, zkids⟩, hzq⟩ : ∃ z, xs[q]? = some z := ⟨xs[q], List.getElem?_eq_getElem hql⟩
      obtain ⟨zf, zr, z0, z1, z2, z3⟩ := HX.out q _ hzq
      simp only at z0 z1 z2 z3 zr
      obtain ⟨za, zc, hzv⟩ := zr.slice
      subst hzv
      have hxb : xb < w.heap.size := HR.out.2 xb hSb
      have hkq : kids[q]? = some (N1.tr ⟨zk, zt, zn, .slice za zkids.length zc, zkids⟩) := by rw [HEX.out, List.getElem?_map, hzq]; rfl
      have hstep : RR = ((rFits k zk q && rKidsFit k (q + 1) (kids.drop (q + 1))) && (Tr.right m' (N1.tr ⟨zk, zt, zn, .slice za zkids.length zc, zkids⟩) && (kids.drop (q + 1)).all (Tr.right m')) && sO) := by
        rw [hall, rkids_drop hkq, all_drop hkq]; rfl
      have hcs : ∀ (p : Addr) (x : Value), w.cell? p = some x → ∀ z : NCls X, z.val.cell? p = some x := fun p x h z => ((below_then HBX.out z.below).cell (p := p) (by simpa using World.block_lt_of_cell? _ _ h)).trans h
      have c0 := hcs _ _ z0
      have c1 := hcs _ _ z1
      have c2 := hcs _ _ z2
      have c3 := hcs _ _ z3
      have d0 : ∀ z : NCls X, z.val.cell? ⟨w.heap.size, 0, none⟩ = some (.int .u8 k) := fun z => (HCE.out z.val z.below).1
      have d3 : ∀ z : NCls X, z.val.cell? ⟨w.heap.size, 3, none⟩ = some (.slice (some ⟨xb, xo, none⟩) N kc) := fun z => (HCE.out z.val z.below).2.2.2
      have FT : Hid (∀ z : NCls X, Calls Tryz.prog 73 #[.int .u8 k, .int .u8 zk, .int .i64 (q : Int)] z.val fun e w' => e = .returned (.bool (rFits k zk q)) ∧ w' = z.val) := fun z => rfits_any k zk q z.val
      have RT : Hid (∀ z : NCls X, Calls Tryz.prog 43 #[.agg #[.int .u8 zk, .string (Ln.bs zt), .int .i64 zn, .slice za zkids.length zc], .int .i64 (m' : Int)] z.val fun e w' => e = .returned (.bool (Tr.right m' (N1.tr ⟨zk, zt, zn, .slice za zkids.length zc, zkids⟩))) ∧ Below z.val.heap.size z.val w') := fun z =>
        HIM.out S _ _ z.val hm1000 (fun b hb => Nat.lt_of_lt_of_le (HR.out.2 b hb) (below_then HBX.out z.below).size) ⟨⟨zk, zt, zn, .slice za zkids.length zc, zkids⟩, rfl, rfl, zf, zr.keep (fun b hb => (below_then HBX.out z.below).block b (HR.out.2 b hb)) (fun _ h => h)⟩
      obtain ⟨fO, hfO⟩ : ∃ b, b = rFits k zk q := ⟨_, rfl⟩
      obtain ⟨rO, hrO⟩ : ∃ b, b = Tr.right m' (N1.tr ⟨zk, zt, zn, .slice za zkids.length zc, zkids⟩) := ⟨_, rfl⟩
      have HNX : Hid (rO = true → ∀ j y, j < q + 1 → kids[j]? = some y → Tr.right m' y = true) := fun hr1 j y hj hy => by
        rcases Nat.lt_succ_iff_lt_or_eq.1 hj with h | h
        · exact hrt j y h hy
        · subst h; rw [hkq] at hy; cases hy; rw [← hrO]; exact hr1
      rw [← hfO] at FT hstep
      rw [← hrO] at RT hstep
      have HSTEP : Hid (_) := hstep
      have HBR : Hid (Below X.heap.size X wr) := hbr
      have hne : Nonempty (NCls X) := ⟨⟨wr.drew, Below.drew hbr⟩⟩
      clear hcs z0 z1 z2 z3 zf zr hzq hkq hstep hall hrt hfO hrO hxa
      cases fO
      · go_wp2
        refine wp_region_ncls (NCls.val (w := X)) (by kernel_rfl) (by kernel_rfl) ⟨wr.drew, Below.drew HBR.out⟩ rfl ?_
        repeat (go_big_quiet_step ((rename_i z; refine (FT.out z).mono ?_; rintro e w2 ⟨rfl, rfl⟩; exact ⟨rfl, z, rfl⟩)))
        refine wpQuiet_nil ?_
        rintro _ ⟨z, rfl⟩
        clear c0 c1 c2 c3 d0 d3
        go_wp2
        go_ret
        refine ⟨congrArg (fun b => Ending.returned (.bool b)) ?_, below_then HBX.out z.below⟩
        rw [HSTEP.out]; rfl
      cases rO
      · go_wp2
        refine wp_region_ncls (NCls.val (w := X)) (by kernel_rfl) (by kernel_rfl) ⟨wr.drew, Below.drew HBR.out⟩ rfl ?_
        repeat (go_big_quiet_step ((rename_i z; first | (refine (FT.out z).mono ?_; rintro e w2 ⟨rfl, rfl⟩; exact ⟨rfl, z, rfl⟩) | (refine (RT.out z).mono ?_; rintro e w2 ⟨rfl, hb⟩; exact ⟨rfl, z.next hb⟩))))
        refine wpQuiet_nil ?_
        rintro _ ⟨z, rfl⟩
        clear c0 c1 c2 c3 d0 d3
        go_wp2
        go_ret
        refine ⟨congrArg (fun b => Ending.returned (.bool b)) ?_, below_then HBX.out z.below⟩
        rw [HSTEP.out]; simp
      · go_wp2
        refine wp_region_ncls (NCls.val (w := X)) (by kernel_rfl) (by kernel_rfl) ⟨wr.drew, Below.drew HBR.out⟩ rfl ?_
        repeat (go_big_quiet_step ((rename_i z; first | (refine (FT.out z).mono ?_; rintro e w2 ⟨rfl, rfl⟩; exact ⟨rfl, z, rfl⟩) | (refine (RT.out z).mono ?_; rintro e w2 ⟨rfl, hb⟩; exact ⟨rfl, z.next hb⟩))))
        refine wpQuiet_nil ?_
        rintro _ ⟨z, rfl⟩
        clear c0 c1 c2 c3 d0 d3
        go_wp2
        go_roundw
        case rel => exact ⟨q + 1, by omega, by go_num, z.below, by rw [HSTEP.out]; simp, HNX.out (by simp)⟩
        case measure => simp [intOf]; omega
    · have hqN : q = N := by omega
      have hend : RR = sO := by
        rw [hall, List.drop_eq_nil_of_le (by have := HN.out; omega)]; simp [rKidsFit]
      have HE : Hid (RR = sO ∧ Below w.heap.size w wr) := ⟨hend, below_then HBX.out hbr⟩
      have HRT : Hid (∀ j y, j < q → kids[j]? = some y → Tr.right m' y = true) := hrt
      have hbw : Below w.heap.size w wr := below_then HBX.out hbr
      have dq : decide ((q : Int) < N) = false := decide_eq_false (by omega)
      have hkk : (N1.tr ⟨k, tx, n, .slice ka kids.length kc, kids⟩).k = k := rfl
      by_cases h7 : k = 7
      · -- a Set: two Kids
        have hN2 : N = 2 := by
          have h1 := HLT.out
          rw [HLO.out, h7] at h1
          simp [rLen, rMany] at h1
          omega
        have hql : 0 < xs.length := by have := HN.out; rw [HEX.out, List.length_map] at this; omega
        obtain ⟨rfl, hSb⟩ := hxa (by omega)
        obtain ⟨⟨zk, zt, zn, zv, zkids⟩, hzq⟩ : ∃ z, xs[0]? = some z := ⟨xs[0], List.getElem?_eq_getElem hql⟩
        obtain ⟨zf, zr, z0, z1, z2, z3⟩ := HX.out 0 _ hzq
        simp only at z0 z1 z2 z3 zr
        have hkq : kids[0]? = some (N1.tr ⟨zk, zt, zn, zv, zkids⟩) := by rw [HEX.out, List.getElem?_map, hzq]; rfl
        have hry := HRT.out 0 _ (by omega) hkq
        have hs7 : sO = ((zk != 26) || hd22 zkids) := by
          rw [HSO.out]
          cases hkd : kids with
          | nil => rw [hkd] at hkq; cases hkq
          | cons y r =>
            rw [hkd] at hkq
            have hy : y = N1.tr ⟨zk, zt, zn, zv, zkids⟩ := Option.some.inj hkq
            subst hy
            exact rset_set (N1.tr ⟨k, tx, n, _, N1.tr ⟨zk, zt, zn, zv, zkids⟩ :: r⟩) (N1.tr ⟨zk, zt, zn, zv, zkids⟩) r h7 rfl
        have hxb : xb < w.heap.size := HR.out.2 xb hSb
        have tr : ∀ j u, w.cell? ⟨xb, j, none⟩ = some u → wr.cell? ⟨xb, j, none⟩ = some u := fun j u h => (hbw.cell (p := ⟨xb, j, none⟩) hxb).trans h
        replace z0 := tr _ _ z0
        replace z3 := tr _ _ z3
        obtain ⟨za, zc, hzv⟩ := zr.slice
        subst hzv
        have dk : (k == 7) = true := by simpa using h7
        have dk1 : (k != 7) = false := by simpa using h7
        have d0N : decide ((0 : Int) < N) = true := decide_eq_true (by omega)
        have hN0 : (0 : Int) < N := by omega
        by_cases h26 : zk = 26
        · have hl2 : zkids.length = 2 := right_idx hry h26
          obtain ⟨ys, ya, yc, yb, yo, ey, hyv, -, hya, hyl, hy⟩ := zr.parts
          cases hyv
          obtain ⟨rfl, hSy⟩ := hya (by omega)
          have hyl2 : 0 < ys.length := by rw [ey, List.length_map] at hl2; omega
          obtain ⟨⟨uk, ut, un, uv, ukids⟩, huq⟩ : ∃ z, ys[0]? = some z := ⟨ys[0], List.getElem?_eq_getElem hyl2⟩
          obtain ⟨-, -, u0, -, -, -⟩ := hy 0 _ huq
          simp only at u0
          replace u0 : wr.cell? ⟨yb, yo + 0 * 4, none⟩ = some (.int .u8 uk) := (hbw.cell (p := ⟨yb, yo + 0 * 4, none⟩) (HR.out.2 yb hSy)).trans u0
          have hsv : sO = (uk == 22) := by
            rw [hs7, h26]
            cases hkd : zkids with
            | nil => rw [hkd] at hl2; cases hl2
            | cons y r =>
              have hy0 : zkids[0]? = some (N1.tr ⟨uk, ut, un, uv, ukids⟩) := by rw [ey, List.getElem?_map, huq]; rfl
              rw [hkd] at hy0
              have : y = N1.tr ⟨uk, ut, un, uv, ukids⟩ := Option.some.inj hy0
              subst this
              rfl
          have HSV : Hid (sO = (uk == 22)) := hsv
          have e26 : (zk == 26) = true := by simpa using h26
          have e261 : (zk != 26) = false := by simpa using h26
          simp only [Nat.zero_mul, Nat.add_zero] at z0 z3 u0
          have hz2I : (0 : Int) < (zkids.length : Int) := by omega
          clear hall hrt hend hbr hs7 hsv hry hkq hzq huq hy zf zr tr HX HRT HSO HLO hxa hya hl2 hyl2 ey
          go_wp2
          go_ret
          refine ⟨congrArg (fun b => Ending.returned (.bool b)) ?_, HE.out.2⟩
          rw [HE.out.1, HSV.out]
        · have e26 : (zk == 26) = false := by simpa using h26
          have e261 : (zk != 26) = true := by simpa using h26
          have HSV : Hid (sO = true) := by rw [Hid, hs7, e261]; rfl
          simp only [Nat.zero_mul, Nat.add_zero] at z0 z3
          clear hall hrt hend hbr hs7 hry hkq hzq zf zr tr HX HRT HSO HLO hxa h26
          go_wp2
          go_ret
          refine ⟨congrArg (fun b => Ending.returned (.bool b)) ?_, HE.out.2⟩
          rw [HE.out.1, HSV.out]
      · have dk : (k == 7) = false := by simpa using h7
        have dk1 : (k != 7) = true := by simpa using h7
        have HSV : Hid (sO = true) := by rw [Hid, HSO.out]; unfold rSet; rw [hkk, dk1]; rfl
        clear hall hrt hend hbr HX HRT HSO HLO hxa h7
        go_wp2
        go_ret
        refine ⟨congrArg (fun b => Ending.returned (.bool b)) ?_, HE.out.2⟩
        rw [HE.out.1, HSV.out]

theorem rright_at : ∀ m, RRightAt m
  | 0 => rright_step 0 (fun m' h => by omega)
  | m + 1 => rright_step (m + 1) (fun m' h => by cases h; exact rright_at m)

set_option maxRecDepth 100000 in
set_option maxHeartbeats 4000000 in
theorem rright_any (S : Nat → Prop) (t : Tr) (v : Value) (w : World) (hS : ∀ b, S b → b < w.heap.size) (hv : NodeR S w v t) : Calls Tryz.prog 16 #[v] w fun e w' => e = .returned (.bool (Tr.right 40 t)) ∧ Below w.heap.size w w' := by
  obtain ⟨⟨k, tx, n, kv, kids⟩, rfl, rfl, hf, hr⟩ := hv
  obtain ⟨ka, kc, hkv⟩ := hr.slice
  simp only at hkv
  subst hkv
  simp only [N1.cells]
  obtain ⟨X, hX⟩ : ∃ X, X = w.alloc (.cells #[.int .u8 k, .string (Ln.bs tx), .int .i64 n, .slice ka kids.length kc] 26) := ⟨_, rfl⟩
  have hB : Below w.heap.size w X := hX ▸ below_new w _
  have HC : Hid (_) := rright_at 40 S (N1.tr ⟨k, tx, n, .slice ka kids.length kc, kids⟩) (.agg #[.int .u8 k, .string (Ln.bs tx), .int .i64 n, .slice ka kids.length kc]) X (by omega) (fun b hb => Nat.lt_of_lt_of_le (hS b hb) hB.size) ⟨⟨k, tx, n, .slice ka kids.length kc, kids⟩, rfl, rfl, hf, hr.keep (fun b hb => hB.block b (hS b hb)) (fun _ h => h)⟩
  have HBX : Hid (Below w.heap.size w X) := hB
  clear hf hr hB hS
  go_enter Tryz.func16, Tryz.ntmps16
  go_wp2_with fail
  rw [← hX]
  clear hX
  refine Calls.mono HC.out ?_
  rintro e w2 ⟨rfl, hb2⟩
  have HB2 : Hid (Below w.heap.size w w2) := below_then HBX.out hb2
  clear hb2 HC
  go_wp2
  go_ret
  exact ⟨rfl, HB2.out⟩
end Go.Proofs.YtfegodofbdlbeaaGreatDoor

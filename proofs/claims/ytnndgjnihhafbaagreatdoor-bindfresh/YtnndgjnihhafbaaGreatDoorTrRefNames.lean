/-
  The walks of the document's names and Names: a row that rises, put into one by one.
-/
import Derived.Test.YtnndgjnihhafbaaGreatDoorTrUniqs
import Derived.Test.YtnndgjnihhafbaaGreatDoorTrRefText
namespace Go.Proofs.YtnndgjnihhafbaaGreatDoor
open Go.RowKit Go.Shelf

attribute [local go_sem] Oper.semAt_some

/-- What stays: all below B, and all that is no row of texts. -/
def KeepU (B : Nat) (W W' : World) : Prop := Below B W W' ∧ ∀ (k : Nat) (c : Array Value) (t : TypeId) (fr : Nat × Nat), W.heap[k]? = some (.cells c t fr) → t ≠ 9 → W'.heap[k]? = some (.cells c t fr)
theorem KeepU.refl (B : Nat) (W : World) : KeepU B W W := ⟨Below.refl _ _, fun _ _ _ _ h _ => h⟩
theorem KeepU.trans {B : Nat} {W X Y : World} (h : KeepU B W X) (k : KeepU B X Y) : KeepU B W Y := ⟨h.1.trans k.1, fun j c t fr hj h1 => k.2 j c t fr (h.2 j c t fr hj h1) h1⟩
theorem KeepU.of_below {B : Nat} {W X : World} (h : Below W.heap.size W X) (hn : B ≤ W.heap.size) : KeepU B W X :=
  ⟨h.mono hn, fun j _ _ _ hj _ => (h.block j (Array.getElem?_eq_some_iff.1 hj).1).trans hj⟩
theorem KeepU.of_grown {B n : Nat} {W W' : World} {v : Value} {xs : List Value} (ho : W.ownsRow B 9 1 v n xs) (hg : W.grownBy W' v.ownBlock) (hn : B ≤ W.heap.size) : KeepU B W W' := by
  have hne : ∀ k, (∃ c t fr, W.heap[k]? = some (.cells c t fr) ∧ t ≠ 9) ∨ k < B → some k ≠ v.ownBlock := fun k hk e => by
    rcases ho.2 with ⟨rfl, _⟩ | ⟨g, cap, cur, rfl, hbg, hgb, _⟩
    · cases e
    · obtain rfl : k = g := by simpa [Value.ownBlock] using e
      rcases hk with ⟨c, t, fr, h1, h2⟩ | h
      · rw [h1] at hgb
        injection hgb with q
        injection q with _ q _
        exact h2 q
      · omega
  exact ⟨⟨hg.os, hg.tape, hg.output, hg.size, fun k hk => hg.block k (by omega) (hne k (.inr hk))⟩, fun k c t fr hj ht => (hg.block k (Array.getElem?_eq_some_iff.1 hj).1 (hne k (.inl ⟨c, t, fr, hj, ht⟩))).trans hj⟩
theorem KeepU.of_heap {B : Nat} {W X : World} (h : X.heap = W.heap) (h1 : X.os = W.os) (h2 : X.tape = W.tape) (h3 : X.output = W.output) : KeepU B W X := ⟨⟨h1, h2, h3, by rw [h]; exact Nat.le_refl _, fun _ _ => by rw [h]⟩, fun j _ _ _ hj _ => by rw [h]; exact hj⟩

/-- A text put into a row at a place: the steps. -/
theorem ins_rows {W : World} {B : Nat} {v : Value} {O : List (List UInt8)} {s : List UInt8} {a : Nat} (hown : W.ownsRow B 9 1 v O.length (O.map txtV)) (ha : a ≤ O.length) (hO : O.length ≤ 10000000) (hB : B ≤ W.heap.size) :
    ∃ v2 v3 Z2 v4 v5 Z3 v6 Z4, (∀ w, (Instr.slice 54 v (some (.int .i64 a)) none none).run Tryz.prog w = .ok v2 w) ∧
      (Builtin.append_ #[54, 54] 54 #[.slice (some ⟨W.heap.size, 0, none⟩) 0 0, v2]).run Tryz.prog (W.alloc (.cells #[] 9)) = .ok v3 Z2 ∧
      (∀ w, (Instr.slice 54 v none (some (.int .i64 a)) none).run Tryz.prog w = .ok v4 w) ∧
      (Builtin.append_ #[54, 54] 54 #[v4, .slice (some ⟨Z2.heap.size, 0, none⟩) 1 1]).run Tryz.prog (Z2.drew.alloc (.cells #[.string (Ln.bs s)] 9)) = .ok v5 Z3 ∧ (Builtin.append_ #[54, 54] 54 #[v5, v3]).run Tryz.prog Z3 = .ok v6 Z4 ∧
      Z4.ownsRow B 9 1 v6 (O.take a ++ s :: O.drop a).length ((O.take a ++ s :: O.drop a).map txtV) ∧ KeepU B W Z2 ∧ KeepU B W Z3 ∧ KeepU B W Z4 := by
  have lowO : RowLow W.heap.size W v O := RowLow.of_owns hown
  obtain ⟨v2, sr, lw2⟩ := slice_rest lowO ha
  have hb1 : Below W.heap.size W (W.alloc (.cells #[] 9)) := below_nw W _
  have hd0 : (W.alloc (.cells #[] 9)).ownsRow W.heap.size 9 1 (.slice (some ⟨W.heap.size, 0, none⟩) 0 0) 0 [] := World.ownsRow_lit W #[] 0 (Nat.le_refl _) (Nat.zero_le _) rfl
  obtain ⟨v3, Z2, hrun3, ow3, hg3⟩ := app_run W.heap.size _ _ 0 [] hd0 v2 (O.drop a) W.heap.size (lw2.below hb1 (Nat.le_refl _)) (by simp) (by simp; omega)
  have kt2' : KeepU W.heap.size (W.alloc (.cells #[] 9)) Z2 := KeepU.of_grown hd0 hg3 (by simp)
  have hs2 : W.heap.size ≤ Z2.heap.size := Nat.le_trans hb1.size hg3.size
  have hb2 : Below W.heap.size W Z2 := hb1.trans kt2'.1
  have kt2 : KeepU B W Z2 := KeepU.of_below hb2 hB
  have ow2 : Z2.drew.ownsRow B 9 1 v O.length (O.map txtV) := owns_below hown (below_drewN hb2 1)
  obtain ⟨v4, sf, ow4, hob⟩ := front_run ow2 ha
  have hbA : Below Z2.heap.size Z2.drew (Z2.drew.alloc (.cells #[.string (Ln.bs s)] 9)) := below_nw Z2.drew _
  have ow4A : (Z2.drew.alloc (.cells #[.string (Ln.bs s)] 9)).ownsRow B 9 1 v4 a ((O.map txtV).take a) := owns_below ow4 hbA
  have rl : RowLow (Z2.drew.alloc (.cells #[.string (Ln.bs s)] 9)).heap.size (Z2.drew.alloc (.cells #[.string (Ln.bs s)] 9)) (.slice (some ⟨Z2.heap.size, 0, none⟩) 1 1) [s] := CellsLow.lit Z2.drew [txtV s] 9 1
  have hsA : Z2.heap.size ≤ (Z2.drew.alloc (.cells #[.string (Ln.bs s)] 9)).heap.size := hbA.size
  obtain ⟨v5, Z3, hrun5, ow5, hg5⟩ := app_run B _ v4 a _ ow4A _ [s] _ rl (by omega) (by simp; omega)
  have kt5 : KeepU B (Z2.drew.alloc (.cells #[.string (Ln.bs s)] 9)) Z3 := KeepU.of_grown ow4A hg5 (by omega)
  have kt3 : KeepU B W Z3 := (kt2.trans (KeepU.of_below (W := Z2) ((below_drewN (Below.refl _ Z2) 1).trans hbA) (by omega))).trans kt5
  have hlt4 : ∀ q, v4.ownBlock = some q → q < W.heap.size := fun q hq => (hown.lt q (by rw [← hob]; exact hq)).2
  have ow3A : (Z2.drew.alloc (.cells #[.string (Ln.bs s)] 9)).ownsRow W.heap.size 9 1 v3 (0 + (O.drop a).length) ([] ++ (O.drop a).map txtV) := owns_below (owns_below ow3 (below_drewN (Below.refl _ Z2) 1)) hbA
  have ow3' : Z3.ownsRow W.heap.size 9 1 v3 (0 + (O.drop a).length) ([] ++ (O.drop a).map txtV) := ow3A.kept hg5 (by
    rcases ow3.2 with ⟨e, _⟩ | ⟨g', cap', cur', e, hg', _⟩
    · exact .inl (by rw [e]; rfl)
    · refine .inr (fun h => ?_)
      rw [e] at h
      have := hlt4 g' h.symm
      omega)
  have ow3'' : Z3.ownsRow W.heap.size 9 1 v3 (O.drop a).length ((O.drop a).map txtV) := by simpa using ow3'
  have hs3 : Z2.heap.size ≤ Z3.heap.size := Nat.le_trans hsA hg5.size
  obtain ⟨v6, Z4, hrun6, ow6, hg6⟩ := app_run B Z3 v5 (a + [s].length) _ ow5 v3 (O.drop a) Z3.heap.size (RowLow.of_owns ow3'') (by omega) (by simp; omega)
  have kt4 : KeepU B W Z4 := kt3.trans (KeepU.of_grown ow5 hg6 (by omega))
  refine ⟨v2, v3, Z2, v4, v5, Z3, v6, Z4, sr, hrun3, sf, hrun5, hrun6, ?_, kt2, kt3, kt4⟩
  have e1 : (O.take a ++ s :: O.drop a).length = a + [s].length + (O.drop a).length := by simp; omega
  have e2 : (O.take a ++ s :: O.drop a).map txtV = (O.map txtV).take a ++ [s].map txtV ++ (O.drop a).map txtV := by simp [List.map_take]
  rw [e1, e2]
  exact ow6

def RNamesAt (t : Tr) : Prop := ∀ (S : Nat → Prop) (B : Nat) (XS : List (List UInt8)) (v nv : Value) (w : World), (∀ b, S b → b < B) → B ≤ w.heap.size → NodeR S w nv t → w.ownsRow B 9 1 v (Nm.uniq XS).length ((Nm.uniq XS).map txtV) → XS.length + t.size ≤ 1000000 →
  Calls Tryz.prog 86 #[v, nv] w fun e w' => ∃ r, e = .returned r ∧ w'.ownsRow B 9 1 r (Nm.uniq (XS ++ t.names)).length ((Nm.uniq (XS ++ t.names)).map txtV) ∧ KeepU B w w'

set_option maxRecDepth 100000 in
set_option maxHeartbeats 8000000 in
theorem rnames_step (t : Tr) (ih : ∀ y ∈ t.kids, RNamesAt y) : RNamesAt t := by
  intro S B XS v nv w hS hBw hv hown hm
  obtain ⟨⟨k, tx, n, kv, kids⟩, rfl, rfl, hf, hr⟩ := hv
  obtain ⟨ka, kc, hkv⟩ := hr.slice
  simp only at hkv
  subst hkv
  simp only [N1.cells]
  have HIH : Hid (∀ y ∈ kids, RNamesAt y) := ih
  obtain ⟨X, hX⟩ : ∃ X, X = w.alloc (.cells #[.int .u8 k, .string (Ln.bs tx), .int .i64 n, .slice ka kids.length kc] 25) := ⟨_, rfl⟩
  have hB : Below w.heap.size w X := hX ▸ below_new w _
  have hXn : X.heap[w.heap.size]? = some (.cells #[.int .u8 k, .string (Ln.bs tx), .int .i64 n, .slice ka kids.length kc] 25 (0, 0)) := by rw [hX]; exact World.alloc_heap_new w _
  have hsX : X.heap.size = w.heap.size + 1 := by rw [hX, World.size_alloc]
  have HBX : Hid (Below B w X) := hB.mono hBw
  have HKX : Hid (KeepU B w X) := KeepU.of_below hB hBw
  obtain ⟨xs, xa, xc, xb, xo, ex, hxv, -, hxa, hxl, hx⟩ := hr.parts
  simp only at ex hxv hxa hxl
  cases hxv
  have HX : Hid (_) := hx
  have HSS : Hid ((∀ b, S b → b < B) ∧ B ≤ w.heap.size) := ⟨hS, hBw⟩
  have HBS : Hid (B ≤ X.heap.size) := by show B ≤ X.heap.size; omega
  have HEX : Hid (kids = xs.map N1.tr) := ex
  have hszk : (N1.tr ⟨k, tx, n, .slice ka kids.length kc, kids⟩).size = 1 + Tr.sizes kids := Tr.size_eq _
  rw [hszk] at hm
  have HSZ : Hid (XS.length + (1 + Tr.sizes kids) ≤ 1000000) := hm
  obtain ⟨U, hU⟩ : ∃ U, U = Nm.uniq XS := ⟨_, rfl⟩
  rw [← hU] at hown
  have HU : Hid (U = Nm.uniq XS) := hU
  obtain ⟨UL, hUL⟩ : ∃ n, n = U.length := ⟨_, rfl⟩
  have HUL : Hid (UL = U.length) := hUL
  have hu9 := Nm.uniq_len XS
  have HUL2 : Hid (U.length ≤ 10000000) := by show _ ≤ _; rw [hU]; omega
  have hUL3 : UL ≤ 10000000 := by rw [hUL, hU]; omega
  obtain ⟨va, vc, hvv⟩ := slice_shape hown
  have HOW : Hid (w.ownsRow B 9 1 v U.length (U.map txtV)) := hown
  rw [hvv, ← hUL] at HOW ⊢
  rw [hUL] at HOW
  have HRW : Hid (∀ d : Nat, (X.drewN d).ownsRow B 9 1 (.slice va U.length vc) U.length (U.map txtV)) := fun d => owns_below (owns_below HOW.out hB) (below_drewN (Below.refl _ X) d)
  rw [← hUL] at HRW
  have HCE : Hid (∀ (q : Nat) (x : List UInt8), U[q]? = some x → ∃ vb, va = some ⟨vb, 0, none⟩ ∧ X.cell? ⟨vb, q, none⟩ = some (.string (Ln.bs x))) := fun q x hq => by
    have hql := (List.getElem?_eq_some_iff.1 hq).1
    have h0 := owns_below HOW.out hB
    rcases h0.2 with ⟨_, h9⟩ | ⟨g, cap, cur, he, _⟩
    · omega
    · cases he
      refine ⟨g, rfl, ?_⟩
      rw [h0.cellAt q (by simpa using hql), List.getElem?_map, hq]
      rfl
  obtain ⟨N, hN⟩ : ∃ N, N = kids.length := ⟨_, rfl⟩
  have HN : Hid (N = kids.length) := hN
  have HNO : Hid ((Tr.bears k = false → Tr.names (N1.tr ⟨k, tx, n, .slice ka kids.length kc, kids⟩) = [] ++ Tr.namesL kids) ∧ (Tr.bears k = true → Tr.names (N1.tr ⟨k, tx, n, .slice ka kids.length kc, kids⟩) = [tx] ++ Tr.namesL kids)) := by
    refine ⟨fun h => ?_, fun h => ?_⟩
    · rw [Tr.names_eq]; unfold Tr.own; rw [show (N1.tr ⟨k, tx, n, .slice ka kids.length kc, kids⟩).k = k from rfl, h]; rfl
    · rw [Tr.names_eq]; unfold Tr.own; rw [show (N1.tr ⟨k, tx, n, .slice ka kids.length kc, kids⟩).k = k from rfl, h]; rfl
  have HNA : Hid (_) := rnamedT_any k X
  obtain ⟨bO, hbO⟩ : ∃ b, b = Tr.bears k := ⟨_, rfl⟩
  rw [← hbO] at HNA HNO
  rw [← hN] at hX hXn hxa hxl HNO ⊢
  have HXN : Hid (X.heap[w.heap.size]? = some (.cells #[.int .u8 k, .string (Ln.bs tx), .int .i64 n, .slice ka N kc] 25 (0, 0))) := hXn
  have HX3 : Hid (X.heap[w.heap.size]? = some (.cells #[.int .u8 k, .string (Ln.bs tx), .int .i64 n, .slice ka N kc] 25 (0, 0)) ∧ True) := ⟨hXn, trivial⟩
  obtain ⟨NM, hNM⟩ : ∃ m, m = Tr.names (N1.tr ⟨k, tx, n, .slice ka N kc, kids⟩) := ⟨_, rfl⟩
  rw [← hNM]
  have HNM : Hid (NM = Tr.names (N1.tr ⟨k, tx, n, .slice ka N kc, kids⟩)) := hNM
  clear ih hf hr hB hXn hx ex hN hS hszk hm hU hUL hown hvv hbO hsX hu9 hBw hNM
  refine (callsIn_wide (n := 3)).1 ?_
  refine callsIn_of_wp Tryz.func86 rfl trivial ?_ rfl
  simp only [Tryz.ntmps86, List.size_toArray, List.length_cons, List.length_nil, Nat.reduceAdd, Nat.reduceSub, Array.replicate_succ, Array.replicate_zero, List.push_toArray, List.append_toArray, List.nil_append, List.cons_append]
  gi_wp2
  rw [← hX]
  clear hX
  refine ⟨trivial, ?_⟩
  refine (callsIn_wide.2 HNA.out).mono ?_
  rintro e w1 ⟨rfl, hw1⟩
  have hw2 := hw1.symm
  clear hw1
  subst hw2
  clear HNA

  cases bO
  · have HY : Hid (X.ownsRow B 9 1 (.slice va UL vc) (Nm.uniq (XS ++ [])).length ((Nm.uniq (XS ++ [])).map txtV) ∧ KeepU B X X) := by
      refine ⟨?_, KeepU.refl _ _⟩
      rw [List.append_nil, ← HU.out, ← HUL.out]
      exact HRW.out 0
    have HNE : Hid (Tr.names (N1.tr ⟨k, tx, n, .slice ka N kc, kids⟩) = [] ++ Tr.namesL kids) := HNO.out.1 rfl
    have HOL : Hid (([] : List (List UInt8)).length ≤ 1) := by show _ ≤ _; simp
    obtain ⟨rv, hrv⟩ : ∃ rv, rv = Value.slice va UL vc := ⟨_, rfl⟩
    rw [← hrv] at HY ⊢
    clear hrv
    have HST : Hid (X.ownsRow B 9 1 rv (Nm.uniq (XS ++ [])).length ((Nm.uniq (XS ++ [])).map txtV) ∧ KeepU B X X) := HY.out
    clear HY
    gi_wp2
    gi_loopw [0, 7] (fun rv i wr => ∃ q : Nat, q ≤ N ∧ i = .int .i64 q ∧ wr.ownsRow B 9 1 rv (Nm.uniq (XS ++ [] ++ Tr.namesL (kids.take q))).length ((Nm.uniq (XS ++ [] ++ Tr.namesL (kids.take q))).map txtV) ∧ KeepU B X wr) (fun _ i _ => N - (intOf i).toNat)
    case atStart => exact ⟨0, Nat.zero_le _, rfl, by simpa [Tr.namesL_nil] using HST.out.1, HST.out.2⟩
    case round =>
      clear HST
      obtain ⟨q, hq, rfl, hrow, hkt⟩ := hrel
      have hXs := HX3.out.2
      have c3 : wr.cell? ⟨w.heap.size, 3, none⟩ = some (.slice ka N kc) := cells_at (hkt.2 _ _ _ _ HX3.out.1 (by decide)) rfl
      by_cases hlt : q < N
      · obtain ⟨rfl, hSb⟩ := hxa (by omega)
        have hql : q < xs.length := by have := HN.out; rw [HEX.out, List.length_map] at this; omega
        obtain ⟨⟨zk, zt, zn, zv, zkids⟩, hzq⟩ : ∃ z, xs[q]? = some z := ⟨xs[q], List.getElem?_eq_getElem hql⟩
        obtain ⟨zf, zr, z0, z1, z2, z3⟩ := HX.out q _ hzq
        simp only at z0 z1 z2 z3 zr
        have hbB : Below B w wr := HBX.out.trans hkt.1
        have hxb : xb < B := HSS.out.1 xb hSb
        have tr : ∀ j u, w.cell? ⟨xb, j, none⟩ = some u → wr.cell? ⟨xb, j, none⟩ = some u := fun j u h => (World.cell?_of_block (w := w) (a := ⟨xb, j, none⟩) (hbB.block xb hxb)).trans h
        replace z0 := tr _ _ z0
        replace z1 := tr _ _ z1
        replace z2 := tr _ _ z2
        replace z3 := tr _ _ z3
        obtain ⟨za, zc, hzv⟩ := zr.slice
        subst hzv
        have hkq : kids[q]? = some (N1.tr ⟨zk, zt, zn, .slice za zkids.length zc, zkids⟩) := by rw [HEX.out, List.getElem?_map, hzq]; rfl
        have htk : Tr.namesL (kids.take (q + 1)) = Tr.namesL (kids.take q) ++ Tr.names (N1.tr ⟨zk, zt, zn, .slice za zkids.length zc, zkids⟩) := by
          rw [List.take_add_one, hkq, Tr.namesL_append]; simp [Tr.namesL_cons, Tr.namesL_nil]
        have hsz9 : (XS ++ [] ++ Tr.namesL (kids.take q)).length + Tr.size (N1.tr ⟨zk, zt, zn, .slice za zkids.length zc, zkids⟩) ≤ 1000000 := by
          have h1 := HSZ.out
          have h2 := names_len (kids.take q)
          have h3 : Tr.sizes (kids.take (q + 1)) = Tr.sizes (kids.take q) + Tr.size (N1.tr ⟨zk, zt, zn, .slice za zkids.length zc, zkids⟩) := by rw [List.take_add_one, hkq, Tr.sizes_append]; simp [Tr.sizes_cons, Tr.sizes_nil]
          have h4 : Tr.sizes (kids.take (q + 1)) + Tr.sizes (kids.drop (q + 1)) = Tr.sizes kids := by rw [← Tr.sizes_append, List.take_append_drop]
          have h5 := HOL.out
          simp only [List.length_append]
          omega
        obtain ⟨ra, rc, rfl⟩ := slice_shape hrow
        have HC : Hid (_) := HIH.out _ (List.mem_of_getElem? hkq) S B (XS ++ [] ++ Tr.namesL (kids.take q)) _ (.agg #[.int .u8 zk, .string (Ln.bs zt), .int .i64 zn, .slice za zkids.length zc]) wr HSS.out.1 (Nat.le_trans HSS.out.2 hbB.size) ⟨⟨zk, zt, zn, .slice za zkids.length zc, zkids⟩, rfl, rfl, zf, zr.keep (fun b hb => hbB.block b (HSS.out.1 b hb)) (fun _ h => h)⟩ hrow hsz9
        have HKT : Hid (KeepU B X wr) := hkt
        have HTK : Hid (XS ++ [] ++ Tr.namesL (kids.take q) ++ Tr.names (N1.tr ⟨zk, zt, zn, .slice za zkids.length zc, zkids⟩) = XS ++ [] ++ Tr.namesL (kids.take (q + 1))) := by rw [Hid, htk, List.append_assoc]
        obtain ⟨RL, hRL⟩ : ∃ L, L = (Nm.uniq (XS ++ [] ++ Tr.namesL (kids.take q))).length := ⟨_, rfl⟩
        rw [← hRL] at HC ⊢
        clear hrow hkt hbB tr zr zf hkq hzq htk hsz9 hRL
        gi_wp2
        refine ⟨trivial, ?_⟩
        refine (callsIn_wide.2 HC.out).mono ?_
        rintro e w2 ⟨r2, rfl, ho2, hk2⟩
        rw [HTK.out] at ho2
        have HE : Hid (w2.ownsRow B 9 1 r2 (Nm.uniq (XS ++ [] ++ Tr.namesL (kids.take (q + 1)))).length ((Nm.uniq (XS ++ [] ++ Tr.namesL (kids.take (q + 1)))).map txtV) ∧ KeepU B X w2) := ⟨ho2, HKT.out.trans hk2⟩
        clear ho2 hk2 HC HKT HTK z0 z1 z2 z3 c3
        gi_wp2
        refine ⟨⟨q + 1, by omega, by simp, HE.out.1, HE.out.2⟩, by simp [intOf]; omega⟩
      · have hqN : q = N := by omega
        subst hqN
        have HE : Hid (wr.ownsRow B 9 1 u0 (Nm.uniq (XS ++ ([] ++ Tr.namesL kids))).length ((Nm.uniq (XS ++ ([] ++ Tr.namesL kids))).map txtV) ∧ KeepU B w wr) := by
          refine ⟨?_, HKX.out.trans hkt⟩
          rw [HN.out, List.take_length, List.append_assoc] at hrow
          exact hrow
        clear hrow hkt
        gi_wp2
        go_ret
        refine ⟨_, rfl, ?_, HE.out.2⟩
        rw [HNM.out, HNE.out]
        exact HE.out.1

  have HNE : Hid (Tr.names (N1.tr ⟨k, tx, n, .slice ka N kc, kids⟩) = [tx] ++ Tr.namesL kids) := HNO.out.2 rfl
  have HOL : Hid (([tx] : List (List UInt8)).length ≤ 1) := by show _ ≤ _; simp
  gi_wp2
  gi_loopw [5] (fun i wr => ∃ (q d : Nat), q ≤ UL ∧ i = .int .i64 q ∧ wr = X.drewN d ∧ ∀ j t, j < q → U[j]? = some t → t < tx) (fun i _ => UL - (intOf i).toNat)
  case atStart => exact ⟨0, 0, Nat.zero_le _, rfl, rfl, fun j t h => absurd h (Nat.not_lt_zero _)⟩
  case round =>
    obtain ⟨q, d, hq, rfl, rfl, hall⟩ := hrel
    have e1 : X.cell? ⟨w.heap.size, 1, none⟩ = some (.string (Ln.bs tx)) := cells_at HXN.out rfl
    by_cases hlt : q < UL
    · obtain ⟨x, hx⟩ : ∃ x, U[q]? = some x := ⟨U[q]'(by have := HUL.out; omega), List.getElem?_eq_getElem _⟩
      obtain ⟨vb, rfl, hcx⟩ := HCE.out q x hx
      have hqI : (q : Int) < UL := by omega
      have less : Op.bytesLess (Ln.bs x).toList (Ln.bs tx).toList = decide (x < tx) := by rw [Lib.toList_data, Lib.toList_data, Nm.less_iff]; rfl
      by_cases hE : x < tx
      · have l1 : Op.bytesLess (Ln.bs x).toList (Ln.bs tx).toList = true := by rw [less]; exact decide_eq_true hE
        have HA : Hid (∀ j t, j < q + 1 → U[j]? = some t → t < tx) := fun j t hj ht => by
          rcases Nat.lt_succ_iff_lt_or_eq.1 hj with h | h
          · exact hall j t h ht
          · subst h; rw [hx] at ht; cases ht; exact hE
        clear hall hE less hx
        gi_wp2
        refine region_lex (fun z => z.cell? ⟨w.heap.size, 1, none⟩ = some (.string (Ln.bs tx)) ∧ z.cell? ⟨vb, q, none⟩ = some (.string (Ln.bs x))) 13 0 rfl (by kernel_rfl) (by kernel_rfl) (by kernel_rfl) (by kernel_rfl) (fun _ _ d _ _ h => by cases d <;> exact h) ⟨e1, hcx⟩ ?_
        simp only [List.take_succ_cons, List.take_zero]
        iterate 13 (first
          | (apply lexC_want
             · rfl
             · exact fun _ => rfl
             · (intro w' hw'; obtain ⟨a0, a1⟩ := hw'; go_simp; try rfl)
             simp only [Act.put, List.setIfInBounds_toArray, List.set_cons_zero, List.set_cons_succ])
          | (apply lexC_skip
             · rfl
             · exact fun _ => rfl
             simp only [Act.put, List.setIfInBounds_toArray, List.set_cons_zero, List.set_cons_succ]))
        refine lexC_nil ?_
        refine anyC_done (by kernel_rfl) ?_
        gi_wp2
        refine ⟨⟨q + 1, d + 1, by omega, by simp, rfl, HA.out⟩, by simp [intOf]; omega⟩
      · have l1 : Op.bytesLess (Ln.bs x).toList (Ln.bs tx).toList = false := by rw [less]; exact decide_eq_false hE
        have q0 : ((Ln.bs x).toList == (Ln.bs tx).toList) = (x == tx) := by rw [Lib.toList_data, Lib.toList_data]; rfl
        have dn : decide ((q : Int) = UL) = false := decide_eq_false (by omega)
        have dn2 : ((q : Int) == (UL : Int)) = false := by simpa using (by omega : ¬ ((q : Int) = UL))
        by_cases hX9 : x = tx
        · -- found
          have q1 : ((Ln.bs x).toList == (Ln.bs tx).toList) = true := by rw [q0]; simpa using hX9
          have HY0 : Hid (((X.drewN d).drew).drew.ownsRow B 9 1 (.slice (some ⟨vb, 0, none⟩) UL vc) (Nm.uniq (XS ++ [tx])).length ((Nm.uniq (XS ++ [tx])).map txtV) ∧ KeepU B X ((X.drewN d).drew).drew) := by
            have hin : tx ∈ Nm.uniq XS := by rw [← hX9, ← HU.out]; exact List.mem_of_getElem? hx
            rw [Hid, Nm.uniq_old hin, ← HU.out, ← HUL.out]
            exact ⟨HRW.out (d + 1 + 1), KeepU.of_heap rfl rfl rfl rfl⟩
          clear hall hE less hx q0 hX9
          gi_wp2
          refine region_lex (fun z => z.cell? ⟨w.heap.size, 1, none⟩ = some (.string (Ln.bs tx)) ∧ z.cell? ⟨vb, q, none⟩ = some (.string (Ln.bs x))) 13 0 rfl (by kernel_rfl) (by kernel_rfl) (by kernel_rfl) (by kernel_rfl) (fun _ _ d _ _ h => by cases d <;> exact h) ⟨e1, hcx⟩ ?_
          simp only [List.take_succ_cons, List.take_zero]
          iterate 13 (first
            | (apply lexC_want
               · rfl
               · exact fun _ => rfl
               · (intro w' hw'; obtain ⟨a0, a1⟩ := hw'; go_simp; try rfl)
               simp only [Act.put, List.setIfInBounds_toArray, List.set_cons_zero, List.set_cons_succ])
            | (apply lexC_skip
               · rfl
               · exact fun _ => rfl
               simp only [Act.put, List.setIfInBounds_toArray, List.set_cons_zero, List.set_cons_succ]))
          refine lexC_nil ?_
          refine anyC_done (by kernel_rfl) ?_
          gi_wp2
          refine region_lex (fun z => z.cell? ⟨w.heap.size, 1, none⟩ = some (.string (Ln.bs tx)) ∧ z.cell? ⟨vb, q, none⟩ = some (.string (Ln.bs x))) 13 0 rfl (by kernel_rfl) (by kernel_rfl) (by kernel_rfl) (by kernel_rfl) (fun _ _ d _ _ h => by cases d <;> exact h) ⟨e1, hcx⟩ ?_
          simp only [List.take_succ_cons, List.take_zero]
          iterate 13 (first
            | (apply lexC_want
               · rfl
               · exact fun _ => rfl
               · (intro w' hw'; obtain ⟨a0, a1⟩ := hw'; go_simp; try rfl)
               simp only [Act.put, List.setIfInBounds_toArray, List.set_cons_zero, List.set_cons_succ])
            | (apply lexC_skip
               · rfl
               · exact fun _ => rfl
               simp only [Act.put, List.setIfInBounds_toArray, List.set_cons_zero, List.set_cons_succ]))
          refine lexC_nil ?_
          refine anyC_done (by kernel_rfl) ?_
          obtain ⟨rv, hrv⟩ : ∃ rv, rv = Value.slice (some ⟨vb, 0, none⟩) UL vc := ⟨_, rfl⟩
          obtain ⟨Y, hY⟩ : ∃ Y, Y = ((X.drewN d).drew).drew := ⟨_, rfl⟩
          rw [← hrv, ← hY] at HY0
          have HY : Hid (_) := HY0.out
          clear HY0
          rw [← hrv, ← hY]
          clear hrv hY
          have HST : Hid (Y.ownsRow B 9 1 rv (Nm.uniq (XS ++ [tx])).length ((Nm.uniq (XS ++ [tx])).map txtV) ∧ KeepU B X Y) := HY.out
          clear HY
          gi_wp2
          gi_loopw [0, 7] (fun rv i wr => ∃ q : Nat, q ≤ N ∧ i = .int .i64 q ∧ wr.ownsRow B 9 1 rv (Nm.uniq (XS ++ [tx] ++ Tr.namesL (kids.take q))).length ((Nm.uniq (XS ++ [tx] ++ Tr.namesL (kids.take q))).map txtV) ∧ KeepU B X wr) (fun _ i _ => N - (intOf i).toNat)
          case atStart => exact ⟨0, Nat.zero_le _, rfl, by simpa [Tr.namesL_nil] using HST.out.1, HST.out.2⟩
          case round =>
            clear HST
            obtain ⟨q, hq, rfl, hrow, hkt⟩ := hrel
            have hXs := HX3.out.2
            have c3 : wr.cell? ⟨w.heap.size, 3, none⟩ = some (.slice ka N kc) := cells_at (hkt.2 _ _ _ _ HX3.out.1 (by decide)) rfl
            by_cases hlt : q < N
            · obtain ⟨rfl, hSb⟩ := hxa (by omega)
              have hql : q < xs.length := by have := HN.out; rw [HEX.out, List.length_map] at this; omega
              obtain ⟨⟨zk, zt, zn, zv, zkids⟩, hzq⟩ : ∃ z, xs[q]? = some z := ⟨xs[q], List.getElem?_eq_getElem hql⟩
              obtain ⟨zf, zr, z0, z1, z2, z3⟩ := HX.out q _ hzq
              simp only at z0 z1 z2 z3 zr
              have hbB : Below B w wr := HBX.out.trans hkt.1
              have hxb : xb < B := HSS.out.1 xb hSb
              have tr : ∀ j u, w.cell? ⟨xb, j, none⟩ = some u → wr.cell? ⟨xb, j, none⟩ = some u := fun j u h => (World.cell?_of_block (w := w) (a := ⟨xb, j, none⟩) (hbB.block xb hxb)).trans h
              replace z0 := tr _ _ z0
              replace z1 := tr _ _ z1
              replace z2 := tr _ _ z2
              replace z3 := tr _ _ z3
              obtain ⟨za, zc, hzv⟩ := zr.slice
              subst hzv
              have hkq : kids[q]? = some (N1.tr ⟨zk, zt, zn, .slice za zkids.length zc, zkids⟩) := by rw [HEX.out, List.getElem?_map, hzq]; rfl
              have htk : Tr.namesL (kids.take (q + 1)) = Tr.namesL (kids.take q) ++ Tr.names (N1.tr ⟨zk, zt, zn, .slice za zkids.length zc, zkids⟩) := by
                rw [List.take_add_one, hkq, Tr.namesL_append]; simp [Tr.namesL_cons, Tr.namesL_nil]
              have hsz9 : (XS ++ [tx] ++ Tr.namesL (kids.take q)).length + Tr.size (N1.tr ⟨zk, zt, zn, .slice za zkids.length zc, zkids⟩) ≤ 1000000 := by
                have h1 := HSZ.out
                have h2 := names_len (kids.take q)
                have h3 : Tr.sizes (kids.take (q + 1)) = Tr.sizes (kids.take q) + Tr.size (N1.tr ⟨zk, zt, zn, .slice za zkids.length zc, zkids⟩) := by rw [List.take_add_one, hkq, Tr.sizes_append]; simp [Tr.sizes_cons, Tr.sizes_nil]
                have h4 : Tr.sizes (kids.take (q + 1)) + Tr.sizes (kids.drop (q + 1)) = Tr.sizes kids := by rw [← Tr.sizes_append, List.take_append_drop]
                have h5 := HOL.out
                simp only [List.length_append]
                omega
              obtain ⟨ra, rc, rfl⟩ := slice_shape hrow
              have HC : Hid (_) := HIH.out _ (List.mem_of_getElem? hkq) S B (XS ++ [tx] ++ Tr.namesL (kids.take q)) _ (.agg #[.int .u8 zk, .string (Ln.bs zt), .int .i64 zn, .slice za zkids.length zc]) wr HSS.out.1 (Nat.le_trans HSS.out.2 hbB.size) ⟨⟨zk, zt, zn, .slice za zkids.length zc, zkids⟩, rfl, rfl, zf, zr.keep (fun b hb => hbB.block b (HSS.out.1 b hb)) (fun _ h => h)⟩ hrow hsz9
              have HKT : Hid (KeepU B X wr) := hkt
              have HTK : Hid (XS ++ [tx] ++ Tr.namesL (kids.take q) ++ Tr.names (N1.tr ⟨zk, zt, zn, .slice za zkids.length zc, zkids⟩) = XS ++ [tx] ++ Tr.namesL (kids.take (q + 1))) := by rw [Hid, htk, List.append_assoc]
              obtain ⟨RL, hRL⟩ : ∃ L, L = (Nm.uniq (XS ++ [tx] ++ Tr.namesL (kids.take q))).length := ⟨_, rfl⟩
              rw [← hRL] at HC ⊢
              clear hrow hkt hbB tr zr zf hkq hzq htk hsz9 hRL
              gi_wp2
              refine ⟨trivial, ?_⟩
              refine (callsIn_wide.2 HC.out).mono ?_
              rintro e w2 ⟨r2, rfl, ho2, hk2⟩
              rw [HTK.out] at ho2
              have HE : Hid (w2.ownsRow B 9 1 r2 (Nm.uniq (XS ++ [tx] ++ Tr.namesL (kids.take (q + 1)))).length ((Nm.uniq (XS ++ [tx] ++ Tr.namesL (kids.take (q + 1)))).map txtV) ∧ KeepU B X w2) := ⟨ho2, HKT.out.trans hk2⟩
              clear ho2 hk2 HC HKT HTK z0 z1 z2 z3 c3
              gi_wp2
              refine ⟨⟨q + 1, by omega, by simp, HE.out.1, HE.out.2⟩, by simp [intOf]; omega⟩
            · have hqN : q = N := by omega
              subst hqN
              have HE : Hid (wr.ownsRow B 9 1 u0 (Nm.uniq (XS ++ ([tx] ++ Tr.namesL kids))).length ((Nm.uniq (XS ++ ([tx] ++ Tr.namesL kids))).map txtV) ∧ KeepU B w wr) := by
                refine ⟨?_, HKX.out.trans hkt⟩
                rw [HN.out, List.take_length, List.append_assoc] at hrow
                exact hrow
              clear hrow hkt
              gi_wp2
              go_ret
              refine ⟨_, rfl, ?_, HE.out.2⟩
              rw [HNM.out, HNE.out]
              exact HE.out.1
        · -- another one
          have q1 : ((Ln.bs x).toList == (Ln.bs tx).toList) = false := by rw [q0]; simpa using hX9
          have HINS : Hid (U.take q ++ tx :: U.drop q = Nm.uniq (XS ++ [tx])) := by
            rw [Hid, HU.out]
            refine Nm.uniq_new (by rw [← HU.out]; have := HUL.out; omega) (fun j t hj ht => hall j t hj (by rw [HU.out]; exact ht)) (fun t ht => ?_)
            rw [← HU.out, hx] at ht
            cases ht
            exact ⟨hE, hX9⟩
          clear hall hE less hx q0 hX9
          gi_wp2
          refine region_lex (fun z => z.cell? ⟨w.heap.size, 1, none⟩ = some (.string (Ln.bs tx)) ∧ z.cell? ⟨vb, q, none⟩ = some (.string (Ln.bs x))) 13 0 rfl (by kernel_rfl) (by kernel_rfl) (by kernel_rfl) (by kernel_rfl) (fun _ _ d _ _ h => by cases d <;> exact h) ⟨e1, hcx⟩ ?_
          simp only [List.take_succ_cons, List.take_zero]
          iterate 13 (first
            | (apply lexC_want
               · rfl
               · exact fun _ => rfl
               · (intro w' hw'; obtain ⟨a0, a1⟩ := hw'; go_simp; try rfl)
               simp only [Act.put, List.setIfInBounds_toArray, List.set_cons_zero, List.set_cons_succ])
            | (apply lexC_skip
               · rfl
               · exact fun _ => rfl
               simp only [Act.put, List.setIfInBounds_toArray, List.set_cons_zero, List.set_cons_succ]))
          refine lexC_nil ?_
          refine anyC_done (by kernel_rfl) ?_
          gi_wp2
          refine region_lex (fun z => z.cell? ⟨w.heap.size, 1, none⟩ = some (.string (Ln.bs tx)) ∧ z.cell? ⟨vb, q, none⟩ = some (.string (Ln.bs x))) 13 0 rfl (by kernel_rfl) (by kernel_rfl) (by kernel_rfl) (by kernel_rfl) (fun _ _ d _ _ h => by cases d <;> exact h) ⟨e1, hcx⟩ ?_
          simp only [List.take_succ_cons, List.take_zero]
          iterate 13 (first
            | (apply lexC_want
               · rfl
               · exact fun _ => rfl
               · (intro w' hw'; obtain ⟨a0, a1⟩ := hw'; go_simp; try rfl)
               simp only [Act.put, List.setIfInBounds_toArray, List.set_cons_zero, List.set_cons_succ])
            | (apply lexC_skip
               · rfl
               · exact fun _ => rfl
               simp only [Act.put, List.setIfInBounds_toArray, List.set_cons_zero, List.set_cons_succ]))
          refine lexC_nil ?_
          refine anyC_done (by kernel_rfl) ?_
          -- put in
          obtain ⟨v2, v3, Z2, v4, v5, Z3, v6, Z4, sr, hrun3, sf, hrun5, hrun6, ow6, kt2, kt3, kt4⟩ := ins_rows (W := (X.drewN d).drew.drew) (O := U) (s := tx) (a := q) (by rw [← HUL.out]; exact HRW.out (d + 1 + 1)) (by have := HUL.out; omega) HUL2.out HBS.out
          have c2 : Z2.cell? ⟨w.heap.size, 1, none⟩ = some (.string (Ln.bs tx)) := cells_at (kt2.2 _ _ _ _ HXN.out (by decide)) rfl
          have c2A : (Z2.drew.alloc (.cells #[.string (Ln.bs tx)] 9)).cell? ⟨w.heap.size, 1, none⟩ = some (.string (Ln.bs tx)) := ((below_nw Z2.drew _).cell (p := ⟨w.heap.size, 1, none⟩) (by simpa using World.block_lt_of_cell? _ _ c2)).trans c2
          have c3 : Z3.cell? ⟨w.heap.size, 1, none⟩ = some (.string (Ln.bs tx)) := cells_at (kt3.2 _ _ _ _ HXN.out (by decide)) rfl
          have c4 : Z4.cell? ⟨w.heap.size, 1, none⟩ = some (.string (Ln.bs tx)) := cells_at (kt4.2 _ _ _ _ HXN.out (by decide)) rfl
          have HNEW : Hid (Z4.ownsRow B 9 1 v6 (Nm.uniq (XS ++ [tx])).length ((Nm.uniq (XS ++ [tx])).map txtV) ∧ KeepU B X Z4) := by
            rw [HINS.out] at ow6
            exact ⟨ow6, (KeepU.of_heap (W := X) (X := (X.drewN d).drew.drew) rfl rfl rfl rfl).trans kt4⟩
          clear ow6 kt2 kt3 kt4
          gi_wp2_with (gi_at_builtin; refine list_append rfl _ _ 54 rfl _ _ _ _ rfl rfl hrun3 ?_)
          refine region_lex (fun z => z.cell? ⟨w.heap.size, 1, none⟩ = some (.string (Ln.bs tx))) 5 5 rfl (by kernel_rfl) (by kernel_rfl) (by kernel_rfl) (by kernel_rfl) (fun _ _ d _ _ h => by cases d <;> exact h) c2 ?_
          simp only [List.take_succ_cons, List.take_zero]
          iterate 5 (first
            | (apply lexC_want
               · rfl
               · exact fun _ => rfl
               · (intro w' hw'; go_simp; try rfl)
               simp only [Act.put, List.setIfInBounds_toArray, List.set_cons_zero, List.set_cons_succ]))
          refine lexC_nil ?_
          refine anyC_take (i := 7) rfl rfl (by kernel_rfl) (by kernel_rfl) (by kernel_rfl) (fun _ _ d _ _ h => by cases d <;> exact h) c2 (by rfl) (fun _ => rfl) (fun _ _ => rfl) ?_
          simp only [Act.put, List.setIfInBounds_toArray]
          refine anyC_one (i := 5) (by kernel_rfl) rfl (by rfl) (fun K1 hK1 => ?_)
          go_simp
          refine hK1 _ _ c2A ?_
          clear hK1
          refine anyC_one (i := 6) (by kernel_rfl) rfl (by rfl) (fun K2 hK2 => ?_)
          refine op_append _ _ 54 rfl _ _ _ _ rfl rfl hrun5 (hK2 _ _ c3 ?_)
          clear hK2
          refine anyC_one (i := 8) (by kernel_rfl) rfl (by rfl) (fun K3 hK3 => ?_)
          refine op_append _ _ 54 rfl _ _ _ _ rfl rfl hrun6 (hK3 _ _ c4 ?_)
          clear hK3
          refine anyC_one (i := 9) (by kernel_rfl) rfl (by rfl) (fun K4 hK4 => ?_)
          go_simp
          refine hK4 _ _ c4 ?_
          clear hK4
          refine anyC_done (by kernel_rfl) ?_
          clear hrun3 hrun5 hrun6 sr sf c2 c2A c3 c4
          obtain ⟨rv, hrv⟩ : ∃ rv, rv = v6 := ⟨_, rfl⟩
          obtain ⟨Y, hY⟩ : ∃ Y, Y = Z4 := ⟨_, rfl⟩
          subst hrv
          subst hY
          have HY : Hid (_) := HNEW.out
          clear HNEW
          have HST : Hid (Y.ownsRow B 9 1 rv (Nm.uniq (XS ++ [tx])).length ((Nm.uniq (XS ++ [tx])).map txtV) ∧ KeepU B X Y) := HY.out
          clear HY
          gi_wp2
          gi_loopw [0, 7] (fun rv i wr => ∃ q : Nat, q ≤ N ∧ i = .int .i64 q ∧ wr.ownsRow B 9 1 rv (Nm.uniq (XS ++ [tx] ++ Tr.namesL (kids.take q))).length ((Nm.uniq (XS ++ [tx] ++ Tr.namesL (kids.take q))).map txtV) ∧ KeepU B X wr) (fun _ i _ => N - (intOf i).toNat)
          case atStart => exact ⟨0, Nat.zero_le _, rfl, by simpa [Tr.namesL_nil] using HST.out.1, HST.out.2⟩
          case round =>
            clear HST
            obtain ⟨q, hq, rfl, hrow, hkt⟩ := hrel
            have hXs := HX3.out.2
            have c3 : wr.cell? ⟨w.heap.size, 3, none⟩ = some (.slice ka N kc) := cells_at (hkt.2 _ _ _ _ HX3.out.1 (by decide)) rfl
            by_cases hlt : q < N
            · obtain ⟨rfl, hSb⟩ := hxa (by omega)
              have hql : q < xs.length := by have := HN.out; rw [HEX.out, List.length_map] at this; omega
              obtain ⟨⟨zk, zt, zn, zv, zkids⟩, hzq⟩ : ∃ z, xs[q]? = some z := ⟨xs[q], List.getElem?_eq_getElem hql⟩
              obtain ⟨zf, zr, z0, z1, z2, z3⟩ := HX.out q _ hzq
              simp only at z0 z1 z2 z3 zr
              have hbB : Below B w wr := HBX.out.trans hkt.1
              have hxb : xb < B := HSS.out.1 xb hSb
              have tr : ∀ j u, w.cell? ⟨xb, j, none⟩ = some u → wr.cell? ⟨xb, j, none⟩ = some u := fun j u h => (World.cell?_of_block (w := w) (a := ⟨xb, j, none⟩) (hbB.block xb hxb)).trans h
              replace z0 := tr _ _ z0
              replace z1 := tr _ _ z1
              replace z2 := tr _ _ z2
              replace z3 := tr _ _ z3
              obtain ⟨za, zc, hzv⟩ := zr.slice
              subst hzv
              have hkq : kids[q]? = some (N1.tr ⟨zk, zt, zn, .slice za zkids.length zc, zkids⟩) := by rw [HEX.out, List.getElem?_map, hzq]; rfl
              have htk : Tr.namesL (kids.take (q + 1)) = Tr.namesL (kids.take q) ++ Tr.names (N1.tr ⟨zk, zt, zn, .slice za zkids.length zc, zkids⟩) := by
                rw [List.take_add_one, hkq, Tr.namesL_append]; simp [Tr.namesL_cons, Tr.namesL_nil]
              have hsz9 : (XS ++ [tx] ++ Tr.namesL (kids.take q)).length + Tr.size (N1.tr ⟨zk, zt, zn, .slice za zkids.length zc, zkids⟩) ≤ 1000000 := by
                have h1 := HSZ.out
                have h2 := names_len (kids.take q)
                have h3 : Tr.sizes (kids.take (q + 1)) = Tr.sizes (kids.take q) + Tr.size (N1.tr ⟨zk, zt, zn, .slice za zkids.length zc, zkids⟩) := by rw [List.take_add_one, hkq, Tr.sizes_append]; simp [Tr.sizes_cons, Tr.sizes_nil]
                have h4 : Tr.sizes (kids.take (q + 1)) + Tr.sizes (kids.drop (q + 1)) = Tr.sizes kids := by rw [← Tr.sizes_append, List.take_append_drop]
                have h5 := HOL.out
                simp only [List.length_append]
                omega
              obtain ⟨ra, rc, rfl⟩ := slice_shape hrow
              have HC : Hid (_) := HIH.out _ (List.mem_of_getElem? hkq) S B (XS ++ [tx] ++ Tr.namesL (kids.take q)) _ (.agg #[.int .u8 zk, .string (Ln.bs zt), .int .i64 zn, .slice za zkids.length zc]) wr HSS.out.1 (Nat.le_trans HSS.out.2 hbB.size) ⟨⟨zk, zt, zn, .slice za zkids.length zc, zkids⟩, rfl, rfl, zf, zr.keep (fun b hb => hbB.block b (HSS.out.1 b hb)) (fun _ h => h)⟩ hrow hsz9
              have HKT : Hid (KeepU B X wr) := hkt
              have HTK : Hid (XS ++ [tx] ++ Tr.namesL (kids.take q) ++ Tr.names (N1.tr ⟨zk, zt, zn, .slice za zkids.length zc, zkids⟩) = XS ++ [tx] ++ Tr.namesL (kids.take (q + 1))) := by rw [Hid, htk, List.append_assoc]
              obtain ⟨RL, hRL⟩ : ∃ L, L = (Nm.uniq (XS ++ [tx] ++ Tr.namesL (kids.take q))).length := ⟨_, rfl⟩
              rw [← hRL] at HC ⊢
              clear hrow hkt hbB tr zr zf hkq hzq htk hsz9 hRL
              gi_wp2
              refine ⟨trivial, ?_⟩
              refine (callsIn_wide.2 HC.out).mono ?_
              rintro e w2 ⟨r2, rfl, ho2, hk2⟩
              rw [HTK.out] at ho2
              have HE : Hid (w2.ownsRow B 9 1 r2 (Nm.uniq (XS ++ [tx] ++ Tr.namesL (kids.take (q + 1)))).length ((Nm.uniq (XS ++ [tx] ++ Tr.namesL (kids.take (q + 1)))).map txtV) ∧ KeepU B X w2) := ⟨ho2, HKT.out.trans hk2⟩
              clear ho2 hk2 HC HKT HTK z0 z1 z2 z3 c3
              gi_wp2
              refine ⟨⟨q + 1, by omega, by simp, HE.out.1, HE.out.2⟩, by simp [intOf]; omega⟩
            · have hqN : q = N := by omega
              subst hqN
              have HE : Hid (wr.ownsRow B 9 1 u0 (Nm.uniq (XS ++ ([tx] ++ Tr.namesL kids))).length ((Nm.uniq (XS ++ ([tx] ++ Tr.namesL kids))).map txtV) ∧ KeepU B w wr) := by
                refine ⟨?_, HKX.out.trans hkt⟩
                rw [HN.out, List.take_length, List.append_assoc] at hrow
                exact hrow
              clear hrow hkt
              gi_wp2
              go_ret
              refine ⟨_, rfl, ?_, HE.out.2⟩
              rw [HNM.out, HNE.out]
              exact HE.out.1
    · have hqe : q = UL := by omega
      subst hqe
      have dn : decide ((q : Int) = q) = true := decide_eq_true rfl
      have dn2 : ((q : Int) == (q : Int)) = true := by simp
      have dl : decide ((q : Int) < q) = false := decide_eq_false (by omega)
      have HINS : Hid (U.take q ++ tx :: U.drop q = Nm.uniq (XS ++ [tx])) := by
        rw [Hid, HU.out]
        refine Nm.uniq_new (by rw [← HU.out]; have := HUL.out; omega) (fun j t hj ht => hall j t hj (by rw [HU.out]; exact ht)) (fun t ht => ?_)
        rw [← HU.out, List.getElem?_eq_none (by have := HUL.out; omega)] at ht
        cases ht
      clear hall
      gi_wp2
      refine region_lex (fun z => z.cell? ⟨w.heap.size, 1, none⟩ = some (.string (Ln.bs tx)) ∧ True) 13 0 rfl (by kernel_rfl) (by kernel_rfl) (by kernel_rfl) (by kernel_rfl) (fun _ _ d _ _ h => by cases d <;> exact h) ⟨e1, trivial⟩ ?_
      simp only [List.take_succ_cons, List.take_zero]
      iterate 13 (first
        | (apply lexC_want
           · rfl
           · exact fun _ => rfl
           · (intro w' hw'; obtain ⟨a0, a1⟩ := hw'; go_simp; try rfl)
           simp only [Act.put, List.setIfInBounds_toArray, List.set_cons_zero, List.set_cons_succ])
        | (apply lexC_skip
           · rfl
           · exact fun _ => rfl
           simp only [Act.put, List.setIfInBounds_toArray, List.set_cons_zero, List.set_cons_succ]))
      refine lexC_nil ?_
      refine anyC_done (by kernel_rfl) ?_
      gi_wp2
      refine region_lex (fun z => z.cell? ⟨w.heap.size, 1, none⟩ = some (.string (Ln.bs tx)) ∧ True) 13 0 rfl (by kernel_rfl) (by kernel_rfl) (by kernel_rfl) (by kernel_rfl) (fun _ _ d _ _ h => by cases d <;> exact h) ⟨e1, trivial⟩ ?_
      simp only [List.take_succ_cons, List.take_zero]
      iterate 13 (first
        | (apply lexC_want
           · rfl
           · exact fun _ => rfl
           · (intro w' hw'; obtain ⟨a0, a1⟩ := hw'; go_simp; try rfl)
           simp only [Act.put, List.setIfInBounds_toArray, List.set_cons_zero, List.set_cons_succ])
        | (apply lexC_skip
           · rfl
           · exact fun _ => rfl
           simp only [Act.put, List.setIfInBounds_toArray, List.set_cons_zero, List.set_cons_succ]))
      refine lexC_nil ?_
      refine anyC_done (by kernel_rfl) ?_
      -- put in
      obtain ⟨v2, v3, Z2, v4, v5, Z3, v6, Z4, sr, hrun3, sf, hrun5, hrun6, ow6, kt2, kt3, kt4⟩ := ins_rows (W := (X.drewN d).drew.drew) (O := U) (s := tx) (a := q) (by rw [← HUL.out]; exact HRW.out (d + 1 + 1)) (by have := HUL.out; omega) HUL2.out HBS.out
      have c2 : Z2.cell? ⟨w.heap.size, 1, none⟩ = some (.string (Ln.bs tx)) := cells_at (kt2.2 _ _ _ _ HXN.out (by decide)) rfl
      have c2A : (Z2.drew.alloc (.cells #[.string (Ln.bs tx)] 9)).cell? ⟨w.heap.size, 1, none⟩ = some (.string (Ln.bs tx)) := ((below_nw Z2.drew _).cell (p := ⟨w.heap.size, 1, none⟩) (by simpa using World.block_lt_of_cell? _ _ c2)).trans c2
      have c3 : Z3.cell? ⟨w.heap.size, 1, none⟩ = some (.string (Ln.bs tx)) := cells_at (kt3.2 _ _ _ _ HXN.out (by decide)) rfl
      have c4 : Z4.cell? ⟨w.heap.size, 1, none⟩ = some (.string (Ln.bs tx)) := cells_at (kt4.2 _ _ _ _ HXN.out (by decide)) rfl
      have HNEW : Hid (Z4.ownsRow B 9 1 v6 (Nm.uniq (XS ++ [tx])).length ((Nm.uniq (XS ++ [tx])).map txtV) ∧ KeepU B X Z4) := by
        rw [HINS.out] at ow6
        exact ⟨ow6, (KeepU.of_heap (W := X) (X := (X.drewN d).drew.drew) rfl rfl rfl rfl).trans kt4⟩
      clear ow6 kt2 kt3 kt4
      gi_wp2_with (gi_at_builtin; refine list_append rfl _ _ 54 rfl _ _ _ _ rfl rfl hrun3 ?_)
      refine region_lex (fun z => z.cell? ⟨w.heap.size, 1, none⟩ = some (.string (Ln.bs tx))) 5 5 rfl (by kernel_rfl) (by kernel_rfl) (by kernel_rfl) (by kernel_rfl) (fun _ _ d _ _ h => by cases d <;> exact h) c2 ?_
      simp only [List.take_succ_cons, List.take_zero]
      iterate 5 (first
        | (apply lexC_want
           · rfl
           · exact fun _ => rfl
           · (intro w' hw'; go_simp; try rfl)
           simp only [Act.put, List.setIfInBounds_toArray, List.set_cons_zero, List.set_cons_succ]))
      refine lexC_nil ?_
      refine anyC_take (i := 7) rfl rfl (by kernel_rfl) (by kernel_rfl) (by kernel_rfl) (fun _ _ d _ _ h => by cases d <;> exact h) c2 (by rfl) (fun _ => rfl) (fun _ _ => rfl) ?_
      simp only [Act.put, List.setIfInBounds_toArray]
      refine anyC_one (i := 5) (by kernel_rfl) rfl (by rfl) (fun K1 hK1 => ?_)
      go_simp
      refine hK1 _ _ c2A ?_
      clear hK1
      refine anyC_one (i := 6) (by kernel_rfl) rfl (by rfl) (fun K2 hK2 => ?_)
      refine op_append _ _ 54 rfl _ _ _ _ rfl rfl hrun5 (hK2 _ _ c3 ?_)
      clear hK2
      refine anyC_one (i := 8) (by kernel_rfl) rfl (by rfl) (fun K3 hK3 => ?_)
      refine op_append _ _ 54 rfl _ _ _ _ rfl rfl hrun6 (hK3 _ _ c4 ?_)
      clear hK3
      refine anyC_one (i := 9) (by kernel_rfl) rfl (by rfl) (fun K4 hK4 => ?_)
      go_simp
      refine hK4 _ _ c4 ?_
      clear hK4
      refine anyC_done (by kernel_rfl) ?_
      clear hrun3 hrun5 hrun6 sr sf c2 c2A c3 c4
      obtain ⟨rv, hrv⟩ : ∃ rv, rv = v6 := ⟨_, rfl⟩
      obtain ⟨Y, hY⟩ : ∃ Y, Y = Z4 := ⟨_, rfl⟩
      subst hrv
      subst hY
      have HY : Hid (_) := HNEW.out
      clear HNEW
      have HST : Hid (Y.ownsRow B 9 1 rv (Nm.uniq (XS ++ [tx])).length ((Nm.uniq (XS ++ [tx])).map txtV) ∧ KeepU B X Y) := HY.out
      clear HY
      gi_wp2
      gi_loopw [0, 7] (fun rv i wr => ∃ q : Nat, q ≤ N ∧ i = .int .i64 q ∧ wr.ownsRow B 9 1 rv (Nm.uniq (XS ++ [tx] ++ Tr.namesL (kids.take q))).length ((Nm.uniq (XS ++ [tx] ++ Tr.namesL (kids.take q))).map txtV) ∧ KeepU B X wr) (fun _ i _ => N - (intOf i).toNat)
      case atStart => exact ⟨0, Nat.zero_le _, rfl, by simpa [Tr.namesL_nil] using HST.out.1, HST.out.2⟩
      case round =>
        clear HST
        obtain ⟨q, hq, rfl, hrow, hkt⟩ := hrel
        have hXs := HX3.out.2
        have c3 : wr.cell? ⟨w.heap.size, 3, none⟩ = some (.slice ka N kc) := cells_at (hkt.2 _ _ _ _ HX3.out.1 (by decide)) rfl
        by_cases hlt : q < N
        · obtain ⟨rfl, hSb⟩ := hxa (by omega)
          have hql : q < xs.length := by have := HN.out; rw [HEX.out, List.length_map] at this; omega
          obtain ⟨⟨zk, zt, zn, zv, zkids⟩, hzq⟩ : ∃ z, xs[q]? = some z := ⟨xs[q], List.getElem?_eq_getElem hql⟩
          obtain ⟨zf, zr, z0, z1, z2, z3⟩ := HX.out q _ hzq
          simp only at z0 z1 z2 z3 zr
          have hbB : Below B w wr := HBX.out.trans hkt.1
          have hxb : xb < B := HSS.out.1 xb hSb
          have tr : ∀ j u, w.cell? ⟨xb, j, none⟩ = some u → wr.cell? ⟨xb, j, none⟩ = some u := fun j u h => (World.cell?_of_block (w := w) (a := ⟨xb, j, none⟩) (hbB.block xb hxb)).trans h
          replace z0 := tr _ _ z0
          replace z1 := tr _ _ z1
          replace z2 := tr _ _ z2
          replace z3 := tr _ _ z3
          obtain ⟨za, zc, hzv⟩ := zr.slice
          subst hzv
          have hkq : kids[q]? = some (N1.tr ⟨zk, zt, zn, .slice za zkids.length zc, zkids⟩) := by rw [HEX.out, List.getElem?_map, hzq]; rfl
          have htk : Tr.namesL (kids.take (q + 1)) = Tr.namesL (kids.take q) ++ Tr.names (N1.tr ⟨zk, zt, zn, .slice za zkids.length zc, zkids⟩) := by
            rw [List.take_add_one, hkq, Tr.namesL_append]; simp [Tr.namesL_cons, Tr.namesL_nil]
          have hsz9 : (XS ++ [tx] ++ Tr.namesL (kids.take q)).length + Tr.size (N1.tr ⟨zk, zt, zn, .slice za zkids.length zc, zkids⟩) ≤ 1000000 := by
            have h1 := HSZ.out
            have h2 := names_len (kids.take q)
            have h3 : Tr.sizes (kids.take (q + 1)) = Tr.sizes (kids.take q) + Tr.size (N1.tr ⟨zk, zt, zn, .slice za zkids.length zc, zkids⟩) := by rw [List.take_add_one, hkq, Tr.sizes_append]; simp [Tr.sizes_cons, Tr.sizes_nil]
            have h4 : Tr.sizes (kids.take (q + 1)) + Tr.sizes (kids.drop (q + 1)) = Tr.sizes kids := by rw [← Tr.sizes_append, List.take_append_drop]
            have h5 := HOL.out
            simp only [List.length_append]
            omega
          obtain ⟨ra, rc, rfl⟩ := slice_shape hrow
          have HC : Hid (_) := HIH.out _ (List.mem_of_getElem? hkq) S B (XS ++ [tx] ++ Tr.namesL (kids.take q)) _ (.agg #[.int .u8 zk, .string (Ln.bs zt), .int .i64 zn, .slice za zkids.length zc]) wr HSS.out.1 (Nat.le_trans HSS.out.2 hbB.size) ⟨⟨zk, zt, zn, .slice za zkids.length zc, zkids⟩, rfl, rfl, zf, zr.keep (fun b hb => hbB.block b (HSS.out.1 b hb)) (fun _ h => h)⟩ hrow hsz9
          have HKT : Hid (KeepU B X wr) := hkt
          have HTK : Hid (XS ++ [tx] ++ Tr.namesL (kids.take q) ++ Tr.names (N1.tr ⟨zk, zt, zn, .slice za zkids.length zc, zkids⟩) = XS ++ [tx] ++ Tr.namesL (kids.take (q + 1))) := by rw [Hid, htk, List.append_assoc]
          obtain ⟨RL, hRL⟩ : ∃ L, L = (Nm.uniq (XS ++ [tx] ++ Tr.namesL (kids.take q))).length := ⟨_, rfl⟩
          rw [← hRL] at HC ⊢
          clear hrow hkt hbB tr zr zf hkq hzq htk hsz9 hRL
          gi_wp2
          refine ⟨trivial, ?_⟩
          refine (callsIn_wide.2 HC.out).mono ?_
          rintro e w2 ⟨r2, rfl, ho2, hk2⟩
          rw [HTK.out] at ho2
          have HE : Hid (w2.ownsRow B 9 1 r2 (Nm.uniq (XS ++ [tx] ++ Tr.namesL (kids.take (q + 1)))).length ((Nm.uniq (XS ++ [tx] ++ Tr.namesL (kids.take (q + 1)))).map txtV) ∧ KeepU B X w2) := ⟨ho2, HKT.out.trans hk2⟩
          clear ho2 hk2 HC HKT HTK z0 z1 z2 z3 c3
          gi_wp2
          refine ⟨⟨q + 1, by omega, by simp, HE.out.1, HE.out.2⟩, by simp [intOf]; omega⟩
        · have hqN : q = N := by omega
          subst hqN
          have HE : Hid (wr.ownsRow B 9 1 u0 (Nm.uniq (XS ++ ([tx] ++ Tr.namesL kids))).length ((Nm.uniq (XS ++ ([tx] ++ Tr.namesL kids))).map txtV) ∧ KeepU B w wr) := by
            refine ⟨?_, HKX.out.trans hkt⟩
            rw [HN.out, List.take_length, List.append_assoc] at hrow
            exact hrow
          clear hrow hkt
          gi_wp2
          go_ret
          refine ⟨_, rfl, ?_, HE.out.2⟩
          rw [HNM.out, HNE.out]
          exact HE.out.1

theorem rnames_any : ∀ (m : Nat) (t : Tr), t.size ≤ m → RNamesAt t
  | 0, t, h => by have := Tr.size_eq t; omega
  | m + 1, t, h => rnames_step t (fun y hy => rnames_any m y (by have := Tr.size_eq t; have := Tr.sizes_mem hy; omega))

set_option maxRecDepth 100000 in
set_option maxHeartbeats 8000000 in
theorem rNames_any (S : Nat → Prop) (v : Value) (l : List Tr) (w : World) (hS : ∀ b, S b → b < w.heap.size) (hv : RowR S w v l) (hm : Tr.sizes l ≤ 500000) : Calls Tryz.prog 44 #[v] w fun e w' => ∃ r, e = .returned r ∧ w'.ownsRow w.heap.size 9 1 r (Nm.uniq (Tr.namesL l)).length ((Nm.uniq (Tr.namesL l)).map txtV) ∧ Below w.heap.size w w' := by
  obtain ⟨xs, xa, xc, xb, xo, ex, hxv, -, hxa, hxl, hx⟩ := hv.parts
  subst hxv
  have HX : Hid (_) := hx
  have HSS : Hid (∀ b, S b → b < w.heap.size) := hS
  have HEX : Hid (l = xs.map N1.tr) := ex
  have HM : Hid (Tr.sizes l ≤ 500000) := hm
  obtain ⟨N, hN⟩ : ∃ N, N = l.length := ⟨_, rfl⟩
  have HN : Hid (N = l.length) := hN
  rw [← hN] at hxa hxl ⊢
  have HST : Hid (w.ownsRow w.heap.size 9 1 (.slice none 0 0) (Nm.uniq (Tr.namesL (l.take 0))).length ((Nm.uniq (Tr.namesL (l.take 0))).map txtV)) := by
    rw [Hid, List.take_zero, Tr.namesL_nil, Nm.uniq_nil]
    exact World.ownsRow_nil _ _ _ _
  clear hx hS ex hv hm hN
  refine (callsIn_wide (n := 3)).1 ?_
  refine callsIn_of_wp Tryz.func44 rfl trivial ?_ rfl
  simp only [Tryz.ntmps44, List.size_toArray, List.length_cons, List.length_nil, Nat.reduceAdd, Nat.reduceSub, Array.replicate_succ, Array.replicate_zero, List.push_toArray, List.append_toArray, List.nil_append, List.cons_append]
  gi_wp2
  gi_loopw [3, 4] (fun rv i wr => ∃ q : Nat, q ≤ N ∧ i = .int .i64 q ∧ wr.ownsRow w.heap.size 9 1 rv (Nm.uniq (Tr.namesL (l.take q))).length ((Nm.uniq (Tr.namesL (l.take q))).map txtV) ∧ Below w.heap.size w wr) (fun _ i _ => N - (intOf i).toNat)
  case atStart => exact ⟨0, Nat.zero_le _, rfl, HST.out, Below.refl _ _⟩
  case round =>
    clear HST
    obtain ⟨q, hq, rfl, hrow, hbw⟩ := hrel
    by_cases hlt : q < N
    · obtain ⟨rfl, hSb⟩ := hxa (by omega)
      have hql : q < xs.length := by have := HN.out; rw [HEX.out, List.length_map] at this; omega
      obtain ⟨⟨zk, zt, zn, zv, zkids⟩, hzq⟩ : ∃ z, xs[q]? = some z := ⟨xs[q], List.getElem?_eq_getElem hql⟩
      obtain ⟨zf, zr, z0, z1, z2, z3⟩ := HX.out q _ hzq
      simp only at z0 z1 z2 z3 zr
      have hxb : xb < w.heap.size := HSS.out xb hSb
      have tr : ∀ j u, w.cell? ⟨xb, j, none⟩ = some u → wr.cell? ⟨xb, j, none⟩ = some u := fun j u h => (hbw.cell (p := ⟨xb, j, none⟩) hxb).trans h
      replace z0 := tr _ _ z0
      replace z1 := tr _ _ z1
      replace z2 := tr _ _ z2
      replace z3 := tr _ _ z3
      obtain ⟨za, zc, hzv⟩ := zr.slice
      subst hzv
      have hkq : l[q]? = some (N1.tr ⟨zk, zt, zn, .slice za zkids.length zc, zkids⟩) := by rw [HEX.out, List.getElem?_map, hzq]; rfl
      have htk : Tr.namesL (l.take (q + 1)) = Tr.namesL (l.take q) ++ Tr.names (N1.tr ⟨zk, zt, zn, .slice za zkids.length zc, zkids⟩) := by
        rw [List.take_add_one, hkq, Tr.namesL_append]; simp [Tr.namesL_cons, Tr.namesL_nil]
      have hsz9 : (Tr.namesL (l.take q)).length + Tr.size (N1.tr ⟨zk, zt, zn, .slice za zkids.length zc, zkids⟩) ≤ 1000000 := by
        have h1 := HM.out
        have h2 := names_len (l.take q)
        have h4 : Tr.sizes (l.take q) + Tr.sizes (l.drop q) = Tr.sizes l := by rw [← Tr.sizes_append, List.take_append_drop]
        have h5 := Tr.sizes_mem (List.mem_of_getElem? hkq)
        omega
      obtain ⟨ra, rc, rfl⟩ := slice_shape hrow
      have HC : Hid (_) := rnames_any _ _ (Nat.le_refl _) S w.heap.size (Tr.namesL (l.take q)) _ (.agg #[.int .u8 zk, .string (Ln.bs zt), .int .i64 zn, .slice za zkids.length zc]) wr HSS.out hbw.size ⟨⟨zk, zt, zn, .slice za zkids.length zc, zkids⟩, rfl, rfl, zf, zr.keep (fun b hb => hbw.block b (HSS.out b hb)) (fun _ h => h)⟩ hrow hsz9
      rw [← htk] at HC
      have HBW : Hid (Below w.heap.size w wr) := hbw
      obtain ⟨RL, hRL⟩ : ∃ L, L = (Nm.uniq (Tr.namesL (l.take q))).length := ⟨_, rfl⟩
      rw [← hRL] at HC ⊢
      clear hrow hbw tr zr zf hkq hzq htk hsz9 hRL
      gi_wp2
      refine ⟨trivial, ?_⟩
      refine (callsIn_wide.2 HC.out).mono ?_
      rintro e w2 ⟨r2, rfl, ho2, hk2⟩
      have HE : Hid (w2.ownsRow w.heap.size 9 1 r2 (Nm.uniq (Tr.namesL (l.take (q + 1)))).length ((Nm.uniq (Tr.namesL (l.take (q + 1)))).map txtV) ∧ Below w.heap.size w w2) := ⟨ho2, HBW.out.trans hk2.1⟩
      clear ho2 hk2 HC HBW z0 z1 z2 z3
      gi_wp2
      refine ⟨⟨q + 1, by omega, by simp, HE.out.1, HE.out.2⟩, by simp [intOf]; omega⟩
    · have hqN : q = N := by omega
      have HE : Hid (wr.ownsRow w.heap.size 9 1 u3 (Nm.uniq (Tr.namesL l)).length ((Nm.uniq (Tr.namesL l)).map txtV) ∧ Below w.heap.size w wr) := by
        rw [hqN, HN.out, List.take_length] at hrow
        exact ⟨hrow, hbw⟩
      clear hrow hbw
      subst hqN
      gi_wp2
      go_ret
      exact ⟨_, rfl, HE.out.1, HE.out.2⟩
end Go.Proofs.YtnndgjnihhafbaaGreatDoor

/-
  The walk of uses: how many Names and Calls there are.
-/
import Derived.Test.YtnndgjnihhafbaaGreatDoorBnSmall
import Derived.Test.YtnndgjnihhafbaaGreatDoorBnOncePl
namespace Go.Proofs.YtnndgjnihhafbaaGreatDoor
open Go.RowKit Go.Shelf

attribute [local go_sem] Oper.semAt_some

namespace Bn
mutual
theorem usesN_le : ∀ x : Tr, usesN x ≤ x.size
  | .mk k _ _ l => by
    rw [usesN, Tr.size]
    have := usesNL_le l
    split <;> omega
theorem usesNL_le : ∀ l : List Tr, usesNL l ≤ Tr.sizes l
  | [] => by rw [usesNL]; omega
  | x :: l => by
    rw [usesNL, Tr.sizes]
    have := usesN_le x
    have := usesNL_le l
    omega
end
end Bn
def UsesAt (t : Tr) : Prop := ∀ (S : Nat → Prop) (v : Value) (w : World), (∀ b, S b → b < w.heap.size) → NodeR S w v t → t.size ≤ 100000 →
  Calls Tryz.prog 23 #[v] w fun e w' => e = .returned (.int .i64 (Bn.usesN t)) ∧ Below w.heap.size w w'

set_option maxRecDepth 100000 in
set_option maxHeartbeats 4000000 in
theorem uses_step (t : Tr) (ih : ∀ y ∈ t.kids, UsesAt y) : UsesAt t := by
  intro S v w hS hv hm
  obtain ⟨⟨k, tx, n, kv, kids⟩, rfl, rfl, hf, hr⟩ := hv
  obtain ⟨ka, kc, hkv⟩ := hr.slice
  simp only at hkv
  subst hkv
  simp only [N1.cells]
  have HIH : Hid (∀ y ∈ kids, UsesAt y) := ih
  obtain ⟨X, hX⟩ : ∃ X, X = w.alloc (.cells #[.int .u8 k, .string (Ln.bs tx), .int .i64 n, .slice ka kids.length kc] 25) := ⟨_, rfl⟩
  have hB : Below w.heap.size w X := hX ▸ below_new w _
  have hXn : X.heap[w.heap.size]? = some (.cells #[.int .u8 k, .string (Ln.bs tx), .int .i64 n, .slice ka kids.length kc] 25 (0, 0)) := by rw [hX]; exact World.alloc_heap_new w _
  have HCE : Hid (∀ W, Below X.heap.size X W → W.cell? ⟨w.heap.size, 3, none⟩ = some (.slice ka kids.length kc)) := fun W hW => cells_at ((hW.block _ (Array.getElem?_eq_some_iff.1 hXn).1).trans hXn) rfl
  have c0 : X.cell? ⟨w.heap.size, 0, none⟩ = some (.int .u8 k) := cells_at hXn rfl
  have HBX : Hid (Below w.heap.size w X) := hB
  obtain ⟨xs, xa, xc, xb, xo, ex, hxv, -, hxa, hxl, hx⟩ := hr.parts
  simp only at ex hxv hxa hxl
  cases hxv
  have HX : Hid (_) := hx
  have HSS : Hid (∀ b, S b → b < w.heap.size) := hS
  have HEX : Hid (kids = xs.map N1.tr) := ex
  have HTU : Hid (Bn.usesN (N1.tr ⟨k, tx, n, .slice ka kids.length kc, kids⟩) = (if k = 22 ∨ k = 25 then 1 else 0) + Bn.usesNL kids ∧ 1 + Tr.sizes kids ≤ 100000) := ⟨by unfold N1.tr; rw [Bn.usesN], by have h := hm; rw [Tr.size_eq] at h; exact h⟩
  obtain ⟨US, hUS⟩ : ∃ c, c = Bn.usesN (N1.tr ⟨k, tx, n, .slice ka kids.length kc, kids⟩) := ⟨_, rfl⟩
  rw [← hUS] at HTU ⊢
  clear hUS
  obtain ⟨N, hN⟩ : ∃ N, N = kids.length := ⟨_, rfl⟩
  have HN : Hid (N = kids.length) := hN
  rw [← hN] at hX HCE hxa hxl ⊢
  clear ih hf hr hB hXn hx ex hN hS hm
  rw [hX] at c0
  have hcs : ∃ C0 : Nat, Hid (US = C0 + Bn.usesNL kids) ∧ (((k == 22) = true ∧ (k == 25) = false ∧ Hid (C0 = 1)) ∨ ((k == 22) = false ∧ (k == 25) = true ∧ Hid (C0 = 1)) ∨ ((k == 22) = false ∧ (k == 25) = false ∧ Hid (C0 = 0))) := by
    have h := HTU.out.1
    by_cases h22 : k = 22
    · subst h22; exact ⟨1, show US = _ by simpa using h, .inl ⟨rfl, rfl, rfl⟩⟩
    by_cases h25 : k = 25
    · subst h25; exact ⟨1, show US = _ by simpa using h, .inr (.inl ⟨rfl, rfl, rfl⟩)⟩
    exact ⟨0, show US = _ by simpa [h22, h25] using h, .inr (.inr ⟨by simp [h22], by simp [h25], rfl⟩)⟩
  obtain ⟨C0, HUS0, ⟨d22, d25, HC0⟩ | ⟨d22, d25, HC0⟩ | ⟨d22, d25, HC0⟩⟩ := hcs
  all_goals
    refine (callsIn_wide (n := 3)).1 ?_
    refine callsIn_of_wp Tryz.func23 rfl trivial ?_ rfl
    simp only [Tryz.ntmps23, List.size_toArray, List.length_cons, List.length_nil, Nat.reduceAdd, Nat.reduceSub, Array.replicate_succ, Array.replicate_zero, List.push_toArray, List.append_toArray, List.nil_append, List.cons_append]
    gi_wp2
    all_goals (rw [← hX])
    clear hX c0
    gi_loopw [3, 4] (fun cv i wr => ∃ q c : Nat, q ≤ N ∧ i = .int .i64 q ∧ cv = .int .i64 c ∧ Below X.heap.size X wr ∧ c = C0 + Bn.usesNL (kids.take q)) (fun _ i _ => N - (intOf i).toNat)
    case atStart => exact ⟨0, C0, Nat.zero_le _, rfl, by rw [HC0.out]; simp, Below.refl _ _, by simp [Bn.usesNL]⟩
    case round =>
      obtain ⟨q, c, hq, rfl, rfl, hbr, hcc⟩ := hrel
      have e3 := HCE.out wr hbr
      have HCC : Hid (c = C0 + Bn.usesNL (kids.take q)) := hcc
      clear hcc
      by_cases hlt : q < N
      · obtain ⟨rfl, hSb⟩ := hxa (by omega)
        have hql : q < xs.length := by have := HN.out; rw [HEX.out, List.length_map] at this; omega
        obtain ⟨⟨zk, zt, zn, zv, zkids⟩, hzq⟩ : ∃ z, xs[q]? = some z := ⟨xs[q], List.getElem?_eq_getElem hql⟩
        obtain ⟨zf, zr, z0, z1, z2, z3⟩ := HX.out q _ hzq
        simp only at z0 z1 z2 z3 zr
        have hbw : Below w.heap.size w wr := below_then HBX.out hbr
        have hxb : xb < w.heap.size := HSS.out xb hSb
        have tr : ∀ j u, w.cell? ⟨xb, j, none⟩ = some u → wr.cell? ⟨xb, j, none⟩ = some u := fun j u h => (hbw.cell (p := ⟨xb, j, none⟩) hxb).trans h
        replace z0 := tr _ _ z0
        replace z1 := tr _ _ z1
        replace z2 := tr _ _ z2
        replace z3 := tr _ _ z3
        obtain ⟨za, zc, hzv⟩ := zr.slice
        subst hzv
        have hkq : kids[q]? = some (N1.tr ⟨zk, zt, zn, .slice za zkids.length zc, zkids⟩) := by rw [HEX.out, List.getElem?_map, hzq]; rfl
        have hszk := Tr.sizes_mem (List.mem_of_getElem? hkq)
        have HC : Hid (_) := HIH.out _ (List.mem_of_getElem? hkq) S (.agg #[.int .u8 zk, .string (Ln.bs zt), .int .i64 zn, .slice za zkids.length zc]) wr (fun b hb => Nat.lt_of_lt_of_le (HSS.out b hb) hbw.size) ⟨⟨zk, zt, zn, .slice za zkids.length zc, zkids⟩, rfl, rfl, zf, zr.keep (fun b hb => hbw.block b (HSS.out b hb)) (fun _ h => h)⟩ (by have := HTU.out.2; omega)
        have etake : kids.take (q + 1) = kids.take q ++ [N1.tr ⟨zk, zt, zn, .slice za zkids.length zc, zkids⟩] := by rw [List.take_add_one, hkq]; rfl
        have HTK : Hid (c + Bn.usesN (N1.tr ⟨zk, zt, zn, .slice za zkids.length zc, zkids⟩) = C0 + Bn.usesNL (kids.take (q + 1)) ∧ c + Bn.usesN (N1.tr ⟨zk, zt, zn, .slice za zkids.length zc, zkids⟩) ≤ 200000) := by
          have h1 := HCC.out
          have h9 := HC0.out
          have h2 := Bn.usesNL_le (kids.take q)
          have h3 := Bn.usesN_le (N1.tr ⟨zk, zt, zn, .slice za zkids.length zc, zkids⟩)
          have h4 := HTU.out.2
          have h5 : Tr.sizes (kids.take q) + Tr.sizes (kids.drop q) = Tr.sizes kids := by rw [← Tr.sizes_append, List.take_append_drop]
          refine ⟨?_, by omega⟩
          rw [etake, Bn.usesNL_append, Bn.usesNL, Bn.usesNL]
          omega
        have HBR : Hid (Below X.heap.size X wr) := hbr
        obtain ⟨UZ, hUZ⟩ : ∃ c, c = Bn.usesN (N1.tr ⟨zk, zt, zn, .slice za zkids.length zc, zkids⟩) := ⟨_, rfl⟩
        rw [← hUZ] at HC HTK
        have htk := HTK.out.2
        clear hbr hbw tr zr zf hkq etake hzq hUZ hszk
        gi_wp2
        refine ⟨trivial, ?_⟩
        refine (callsIn_wide.2 HC.out).mono ?_
        rintro e w2 ⟨rfl, hb2⟩
        have HEND : Hid (Below X.heap.size X w2) := below_then HBR.out hb2
        clear hb2 HC HBR
        gi_wp2
        refine ⟨⟨q + 1, c + UZ, by omega, by simp, by simp, HEND.out, HTK.out.1⟩, by simp [intOf]; omega⟩
      · have hqN : q = N := by omega
        have HE : Hid (Below w.heap.size w wr ∧ US = c) := by
          refine ⟨below_then HBX.out hbr, ?_⟩
          have h1 := HCC.out
          rw [hqN, HN.out, List.take_length] at h1
          rw [HUS0.out, h1]
        subst hqN
        clear hbr
        gi_wp2
        go_ret
        exact ⟨by rw [HE.out.2]; rfl, HE.out.1⟩

theorem uses_any : ∀ (m : Nat) (t : Tr), t.size ≤ m → UsesAt t
  | 0, t, h => by have := Tr.size_eq t; omega
  | m + 1, t, h => uses_step t (fun y hy => uses_any m y (by have := Tr.size_eq t; have := Tr.sizes_mem hy; omega))
end Go.Proofs.YtnndgjnihhafbaaGreatDoor

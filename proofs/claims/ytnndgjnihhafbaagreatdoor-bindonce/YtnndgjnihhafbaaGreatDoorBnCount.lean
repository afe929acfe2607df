/-
  The walks of NodesOf and small: how many nodes there are, as far as it is asked.
-/
import Derived.Test.YtnndgjnihhafbaaGreatDoorTrNames2
namespace Go.Proofs.YtnndgjnihhafbaaGreatDoor
open Go.RowKit Go.Shelf

attribute [local go_sem] Oper.semAt_some

/-- What c tells of trees, if it is not too great. -/
def FewC (most c : Nat) (sz : Nat) (tx : List (List UInt8)) : Prop := c ≤ most → sz ≤ c ∧ ∀ s ∈ tx, s.length ≤ 8 * c + 7

def NodesAtC (t : Tr) : Prop := ∀ (S : Nat → Prop) (v : Value) (most : Nat) (w : World), (∀ b, S b → b < w.heap.size) → NodeR S w v t → most ≤ 400 →
  Calls Tryz.prog 29 #[v, .int .i64 most] w fun e w' => ∃ c : Nat, e = .returned (.int .i64 c) ∧ Below w.heap.size w w' ∧ 1 ≤ c ∧ c ≤ most + 1152921504606846977 ∧ FewC most c t.size t.texts

set_option maxRecDepth 100000 in
set_option maxHeartbeats 4000000 in
theorem nodesC_step (t : Tr) (ih : ∀ y ∈ t.kids, NodesAtC y) : NodesAtC t := by
  intro S v most w hS hv hm
  obtain ⟨⟨k, tx, n, kv, kids⟩, rfl, rfl, hf, hr⟩ := hv
  obtain ⟨ka, kc, hkv⟩ := hr.slice
  simp only at hkv
  subst hkv
  simp only [N1.cells]
  have HIH : Hid (∀ y ∈ kids, NodesAtC y) := ih
  have htl : tx.length ≤ 9223372036854775807 := hf.2.1
  obtain ⟨X, hX⟩ : ∃ X, X = w.alloc (.cells #[.int .u8 k, .string (Ln.bs tx), .int .i64 n, .slice ka kids.length kc] 25) := ⟨_, rfl⟩
  have hB : Below w.heap.size w X := hX ▸ below_new w _
  have hXn : X.heap[w.heap.size]? = some (.cells #[.int .u8 k, .string (Ln.bs tx), .int .i64 n, .slice ka kids.length kc] 25 (0, 0)) := by rw [hX]; exact World.alloc_heap_new w _
  have HCE : Hid (∀ W, Below X.heap.size X W → W.cell? ⟨w.heap.size, 3, none⟩ = some (.slice ka kids.length kc)) := fun W hW => cells_at ((hW.block _ (Array.getElem?_eq_some_iff.1 hXn).1).trans hXn) rfl
  have HBX : Hid (Below w.heap.size w X) := hB
  obtain ⟨xs, xa, xc, xb, xo, ex, hxv, -, hxa, hxl, hx⟩ := hr.parts
  simp only at ex hxv hxa hxl
  cases hxv
  have HX : Hid (_) := hx
  have HSS : Hid (∀ b, S b → b < w.heap.size) := hS
  have HEX : Hid (kids = xs.map N1.tr) := ex
  obtain ⟨N, hN⟩ : ∃ N, N = kids.length := ⟨_, rfl⟩
  have HN : Hid (N = kids.length) := hN
  have hbs : (Ln.bs tx).size = tx.length := Ln.bs_size tx
  obtain ⟨T, hT⟩ : ∃ T, T = tx.length := ⟨_, rfl⟩
  have HT : Hid (T = tx.length) := hT
  rw [← hT] at hbs htl
  rw [← hN] at hX HCE hxa hxl ⊢
  have HST : Hid (FewC most (1 + T / 8) (1 + Tr.sizes (kids.take 0)) (tx :: Tr.textsL (kids.take 0))) := by
    intro _
    refine ⟨by simp [Tr.sizes_nil], fun s hs => ?_⟩
    simp only [List.take_zero, Tr.textsL_nil, List.mem_singleton] at hs
    subst hs
    omega
  clear ih hf hr hB hXn hx ex hN hT hS
  have htd : Int.tdiv (T : Int) 8 = ((T / 8 : Nat) : Int) := by
    rw [Int.tdiv_eq_ediv_of_nonneg (by omega)]; omega
  refine (callsIn_wide (n := 3)).1 ?_
  refine callsIn_of_wp Tryz.func29 rfl trivial ?_ rfl
  simp only [Tryz.ntmps29, List.size_toArray, List.length_cons, List.length_nil, Nat.reduceAdd, Nat.reduceSub, Array.replicate_succ, Array.replicate_zero, List.push_toArray, List.append_toArray, List.nil_append, List.cons_append]
  gi_wp2
  rw [← hX]
  clear hX
  gi_loopw [5, 6] (fun cv i wr => ∃ q c : Nat, q ≤ N ∧ i = .int .i64 q ∧ cv = .int .i64 c ∧ Below X.heap.size X wr ∧ 1 ≤ c ∧ c ≤ most + 1152921504606846977 ∧ FewC most c (1 + Tr.sizes (kids.take q)) (tx :: Tr.textsL (kids.take q))) (fun _ i _ => N - (intOf i).toNat)
  case atStart => exact ⟨0, 1 + T / 8, Nat.zero_le _, rfl, by simp, Below.refl _ _, by omega, by omega, HST.out⟩
  case round =>
    clear HST htd hbs htl
    obtain ⟨q, c, hq, rfl, rfl, hbr, hc1, hc2, hfew⟩ := hrel
    have e3 := HCE.out wr hbr
    by_cases hlt : q < N
    · by_cases hcm : c ≤ most
      · have d1 : decide ((c : Int) ≤ most) = true := decide_eq_true (by omega)
        obtain ⟨rfl, hSb⟩ := hxa (by omega)
        have hql : q < xs.length := by have := HN.out; rw [HEX.out, List.length_map] at this; omega
        obtain ⟨⟨zk, zt, zn, zv, zkids⟩, hzq⟩ : ∃ z, xs[q]? = some z := ⟨xs[q], List.getElem?_eq_getElem hql⟩
        obtain ⟨zf, zr, z0, z1, z2, z3⟩ := HX.out q _ hzq
        simp only at z0 z1 z2 z3 zr
        have hbw : Below w.heap.size w wr := below_then HBX.out hbr
        have hxb : xb < w.heap.size := HSS.out xb hSb
        have tr : ∀ j u, w.cell? ⟨xb, j, none⟩ = some u → wr.cell? ⟨xb, j, none⟩ = some u := fun j u h => (hbw.cell (p := ⟨xb, j, none⟩) hxb).trans h
        replace z0 := tr _ _ z0
        replace z1 := tr _ _ z1
        replace z2 := tr _ _ z2
        replace z3 := tr _ _ z3
        obtain ⟨za, zc, hzv⟩ := zr.slice
        subst hzv
        have hkq : kids[q]? = some (N1.tr ⟨zk, zt, zn, .slice za zkids.length zc, zkids⟩) := by rw [HEX.out, List.getElem?_map, hzq]; rfl
        obtain ⟨r, hr⟩ : ∃ r : Nat, r + c = most := ⟨most - c, by omega⟩
        have ed : (most : Int) - (c : Int) = (r : Int) := by omega
        have HC : Hid (_) := HIH.out _ (List.mem_of_getElem? hkq) S (.agg #[.int .u8 zk, .string (Ln.bs zt), .int .i64 zn, .slice za zkids.length zc]) r wr (fun b hb => Nat.lt_of_lt_of_le (HSS.out b hb) hbw.size) ⟨⟨zk, zt, zn, .slice za zkids.length zc, zkids⟩, rfl, rfl, zf, zr.keep (fun b hb => hbw.block b (HSS.out b hb)) (fun _ h => h)⟩ (by omega)
        have etake : kids.take (q + 1) = kids.take q ++ [N1.tr ⟨zk, zt, zn, .slice za zkids.length zc, zkids⟩] := by rw [List.take_add_one, hkq]; rfl
        have HTK : Hid (Tr.sizes (kids.take (q + 1)) = Tr.sizes (kids.take q) + Tr.size (N1.tr ⟨zk, zt, zn, .slice za zkids.length zc, zkids⟩) ∧ ∀ s, s ∈ Tr.textsL (kids.take (q + 1)) → s ∈ Tr.textsL (kids.take q) ∨ s ∈ Tr.texts (N1.tr ⟨zk, zt, zn, .slice za zkids.length zc, zkids⟩)) := by
          refine ⟨by rw [etake, Tr.sizes_append]; simp [Tr.sizes_cons, Tr.sizes_nil], fun s hs => ?_⟩
          rw [etake] at hs
          have happ : ∀ (a b : List Tr), Tr.textsL (a ++ b) = Tr.textsL a ++ Tr.textsL b := fun a b => by
            induction a with
            | nil => simp [Tr.textsL_nil]
            | cons x l ih => simp [Tr.textsL_cons, ih]
          rw [happ, List.mem_append] at hs
          rcases hs with hs | hs
          · exact .inl hs
          · exact .inr (by simpa [Tr.textsL_cons, Tr.textsL_nil] using hs)
        have HFW : Hid (FewC most c (1 + Tr.sizes (kids.take q)) (tx :: Tr.textsL (kids.take q))) := hfew
        have HBR : Hid (Below X.heap.size X wr) := hbr
        clear hfew hbr hbw tr zr zf hkq etake hzq
        gi_wp2
        refine ⟨trivial, ?_⟩
        refine (callsIn_wide.2 HC.out).mono ?_
        rintro e w2 ⟨c2, rfl, hb2, h21, h22, h2f⟩
        have HEND : Hid (Below X.heap.size X w2 ∧ FewC most (c + c2) (1 + Tr.sizes (kids.take (q + 1))) (tx :: Tr.textsL (kids.take (q + 1)))) := by
          refine ⟨below_then HBR.out hb2, fun hle => ?_⟩
          have f1 := HFW.out hcm
          have f2 := h2f (by omega)
          refine ⟨by rw [HTK.out.1]; omega, fun s hs => ?_⟩
          rcases List.mem_cons.1 hs with rfl | hs
          · have := f1.2 s List.mem_cons_self; omega
          · rcases HTK.out.2 s hs with hs | hs
            · have := f1.2 s (List.mem_cons_of_mem _ hs); omega
            · have := f2.2 s hs; omega
        clear hb2 h2f HC HFW HTK HBR
        gi_wp2
        refine ⟨⟨q + 1, c + c2, by omega, by simp, by simp, HEND.out.1, by omega, by omega, HEND.out.2⟩, by simp [intOf]; omega⟩
      · have d1 : decide ((c : Int) ≤ most) = false := decide_eq_false (by omega)
        have HE : Hid (Below w.heap.size w wr ∧ FewC most c (Tr.size (N1.tr ⟨k, tx, n, .slice ka N kc, kids⟩)) (Tr.texts (N1.tr ⟨k, tx, n, .slice ka N kc, kids⟩))) := ⟨below_then HBX.out hbr, fun h => absurd h hcm⟩
        clear hfew hbr
        gi_wp2
        go_ret
        exact ⟨c, rfl, HE.out.1, hc1, hc2, HE.out.2⟩
    · have hqN : q = N := by omega
      subst hqN
      have HE : Hid (Below w.heap.size w wr ∧ FewC most c (Tr.size (N1.tr ⟨k, tx, n, .slice ka q kc, kids⟩)) (Tr.texts (N1.tr ⟨k, tx, n, .slice ka q kc, kids⟩))) := by
        refine ⟨below_then HBX.out hbr, ?_⟩
        rw [HN.out, List.take_length] at hfew
        rw [Tr.size_eq, Tr.texts_eq]
        exact hfew
      clear hfew hbr
      gi_wp2
      go_ret
      exact ⟨c, rfl, HE.out.1, hc1, hc2, HE.out.2⟩

theorem nodesC_any : ∀ (m : Nat) (t : Tr), t.size ≤ m → NodesAtC t
  | 0, t, h => by have := Tr.size_eq t; omega
  | m + 1, t, h => nodesC_step t (fun y hy => nodesC_any m y (by have := Tr.size_eq t; have := Tr.sizes_mem hy; omega))

end Go.Proofs.YtnndgjnihhafbaaGreatDoor

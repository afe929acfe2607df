/-
  The walk of BindOnce.
-/
import Derived.Test.YtnndgjnihhafbaaGreatDoorBnUses
import Derived.Test.YtnndgjnihhafbaaGreatDoorTrAll
namespace Go.Proofs.YtnndgjnihhafbaaGreatDoor
open Go.RowKit Go.Shelf

attribute [local go_sem] Oper.semAt_some


theorem BTold.get {n : Nat} {w : World} : ∀ {l : List Bn.Bd} {cs : List Value} {q : Nat} {d : Bn.Bd}, BTold n w cs l → l[q]? = some d → ∃ pv uv rows, cs[q * 3]? = some pv ∧ cs[q * 3 + 1]? = some (.string (Ln.bs d.name)) ∧ cs[q * 3 + 2]? = some uv ∧ d.name.length ≤ 1000000 ∧ w.ownsRow n 3 1 pv d.path.length (d.path.map numV) ∧ w.ownsRow n 44 1 uv d.uses.length rows ∧ ∀ (j : Nat) (v : Value) (u : List Nat), rows[j]? = some v → d.uses[j]? = some u → w.ownsRow n 3 1 v u.length (u.map numV)
  | [], _, _, _, _, h => by simp at h
  | d :: l, cs, 0, d', h, hd => by
    obtain ⟨pv, uv, r, rfl, h2, h3, ⟨rows, h4, h5⟩, -⟩ := h.cons
    injection hd with hd
    subst hd
    exact ⟨pv, uv, rows, rfl, rfl, rfl, h2, h3, h4, h5⟩
  | d :: l, cs, q + 1, d', h, hd => by
    obtain ⟨pv, uv, r, rfl, -, -, -, h6⟩ := h.cons
    obtain ⟨pv', uv', rows', e1, e2, e3, e4⟩ := BTold.get (q := q) h6 (by simpa using hd)
    refine ⟨pv', uv', rows', ?_, ?_, ?_, e4⟩
    · rw [show (q + 1) * 3 = q * 3 + 3 by omega]; exact e1
    · rw [show (q + 1) * 3 + 1 = (q * 3 + 1) + 3 by omega]; exact e2
    · rw [show (q + 1) * 3 + 2 = (q * 3 + 2) + 3 by omega]; exact e3
theorem IntsAt.path {w : World} {v : Value} {l : List Nat} (h : w.ownsRow 0 3 1 v l.length (l.map numV)) : PathLow w.heap.size w v (Bn.ints l) := by
  have := CellsLow.of_owns h
  unfold PathLow
  rw [show (Bn.ints l).map (Value.int .i64) = l.map numV by simp [Bn.ints, numV]]
  simpa [Bn.ints] using this
theorem row_cells {n k : Nat} {w : World} {a : Option Addr} {L c : Nat} {xs : List Value} (h : w.ownsRow n 44 1 (.slice a L c) k xs) (hk : 0 < k) : ∃ g, a = some ⟨g, 0, none⟩ ∧ g < w.heap.size ∧ ∀ (j : Nat) (u : Value), xs[j]? = some u → w.cell? ⟨g, j, none⟩ = some u := by
  have h0 := h
  rcases h.2 with ⟨-, h9⟩ | ⟨g, cap, cur, e, hb, hg, r⟩
  · omega
  · injection e with e1 e2 e3
    subst e1 e2 e3
    refine ⟨g, rfl, (Array.getElem?_eq_some_iff.1 hg).1, fun j u hu => ?_⟩
    have hl := (List.getElem?_eq_some_iff.1 hu).1
    rw [h0.1] at hl
    exact (h0.cellAt j hl).trans hu
theorem cut_from {F : Fence} {n : Nat} {P : Program} {c : Code} {K : Act → World → Prop} {Q : Exit → Act → World → Prop} {a : Act} {w : World} (R : Act → Act → World → Prop) (h1 : c.wpIn F n P (Exit.then (R a) Q) a w) (h2 : ∀ a' w', R a a' w' → K a' w') : c.wpIn F n P (Exit.then K Q) a w :=
  Code.wpIn_mono (fun e a w h => by
    cases e with
    | normal => exact h2 _ _ h
    | _ => exact h) h1
/-- Rows of numbers that were put together. -/
def AllAt (n0 : Nat) (w0 w : World) (v : Value) (U : List (List Nat)) : Prop := ∃ rows, w.ownsRow n0 44 1 v U.length rows ∧ ∀ (j : Nat) (r : Value) (u : List Nat), rows[j]? = some r → U[j]? = some u → IntsAt w0 r u

set_option maxRecDepth 100000 in
set_option maxHeartbeats 8000000 in
theorem bonce_law (t : Tr) (val : Value) (w : World) (hn : NodeR (lowS w.heap.size) w val t) (hsg : SignsAt w.heap.size w) :
    Calls Tryz.prog 6 #[val] w fun e w' => e = .returned (.bool true) ∧ Below w.heap.size w w' := by
  obtain ⟨S, hSd⟩ : ∃ S : Nat → Prop, S = lowS w.heap.size := ⟨_, rfl⟩
  rw [← hSd] at hn
  have hS : ∀ b, S b → b < w.heap.size := fun b hb => by rw [hSd] at hb; exact hb
  clear hSd
  have hn0 := hn
  obtain ⟨⟨k, tx, nn, kv, kids⟩, rfl, ht, hf, hrow⟩ := hn
  obtain ⟨ao, cap, hkv⟩ := hrow.slice
  simp only at hkv
  subst hkv
  simp only [N1.cells] at hn0 ⊢
  obtain ⟨N, hN⟩ : ∃ N, N = kids.length := ⟨_, rfl⟩
  rw [← hN] at hn0 ⊢
  obtain ⟨X, hX⟩ : ∃ X, X = w.alloc (.cells #[.int .u8 k, .string (Ln.bs tx), .int .i64 nn, .slice ao N cap] 25) := ⟨_, rfl⟩
  have sX : X.heap.size = w.heap.size + 1 := by rw [hX, World.size_alloc]
  have bX : Below w.heap.size w X := hX ▸ below_new w _
  have n0 : X.heap[w.heap.size]? = some (.cells #[.int .u8 k, .string (Ln.bs tx), .int .i64 nn, .slice ao N cap] 25 (0, 0)) := by rw [hX]; exact World.alloc_heap_new w _
  have hnX : NodeR S X (.agg #[.int .u8 k, .string (Ln.bs tx), .int .i64 nn, .slice ao N cap]) t := by
    obtain ⟨x, e1, e2, e3, e4⟩ := hn0
    exact ⟨x, e1, e2, e3, e4.keep (fun b hb => bX.block b (hS b hb)) (fun _ hb => hb)⟩
  have c0 : X.cell? ⟨w.heap.size, 0, none⟩ = some (.int .u8 k) := cells_at n0 rfl
  have c1 : X.cell? ⟨w.heap.size, 1, none⟩ = some (.string (Ln.bs tx)) := cells_at n0 rfl
  have c2 : X.cell? ⟨w.heap.size, 2, none⟩ = some (.int .i64 nn) := cells_at n0 rfl
  have c3 : X.cell? ⟨w.heap.size, 3, none⟩ = some (.slice ao N cap) := cells_at n0 rfl
  have HA : Hid (_) := bawake_any X ((hsg.keep bX).mono bX.size)
  have HX : Hid (Below w.heap.size w X ∧ X.heap.size = w.heap.size + 1 ∧ X.heap[w.heap.size]? = some (.cells #[.int .u8 k, .string (Ln.bs tx), .int .i64 nn, .slice ao N cap] 25 (0, 0)) ∧ NodeR S X (.agg #[.int .u8 k, .string (Ln.bs tx), .int .i64 nn, .slice ao N cap]) t ∧ (∀ b, S b → b < w.heap.size)) := ⟨bX, sX, n0, hnX, hS⟩
  clear hn0 ht hf hrow hN sX bX n0 hnX hS c0 c1 c2 c3 hsg
  refine (callsIn_wide (n := 3)).1 ?_
  refine callsIn_of_wp Tryz.func6 rfl trivial ?_ rfl
  simp only [Tryz.ntmps6, List.size_toArray, List.length_cons, List.length_nil, Nat.reduceAdd, Nat.reduceSub, Array.replicate_succ, Array.replicate_zero, List.push_toArray, List.append_toArray, List.nil_append, List.cons_append]
  gi_wp2
  rw [← hX]
  clear hX
  refine ⟨trivial, ?_⟩
  refine (callsIn_wide.2 HA.out).mono ?_
  rintro e w1 ⟨rfl, hb1⟩
  have hn1 := (hb1.block _ (by rw [HX.out.2.1]; omega)).trans HX.out.2.2.1
  have hs1 : w.heap.size < w1.heap.size := by have := hb1.size; have := HX.out.2.1; omega
  have hdr : ∀ {z : World}, Below w1.heap.size w1 z → NodeR S z (.agg #[.int .u8 k, .string (Ln.bs tx), .int .i64 nn, .slice ao N cap]) t := fun {z} hz => by
    obtain ⟨x, e1, e2, e3, e4⟩ := HX.out.2.2.2.1
    exact ⟨x, e1, e2, e3, e4.keep (fun b hb => (hz.block b (by have := HX.out.2.2.2.2 b hb; omega)).trans (hb1.block b (by have := HX.out.2.2.2.2 b hb; have := HX.out.2.1; omega))) (fun _ hb => hb)⟩
  have HND : Hid (∀ {z : World}, Below w1.heap.size w1 z → NodeR S z (.agg #[.int .u8 k, .string (Ln.bs tx), .int .i64 nn, .slice ao N cap]) t) := hdr
  have HSZ : Hid (∀ {z : World}, Below w1.heap.size w1 z → ∀ b, S b → b < z.heap.size) := fun {z} hz b hb => by have := HX.out.2.2.2.2 b hb; have := hz.size; omega
  have HB1 : Hid (Below w.heap.size w w1) := below_then HX.out.1 hb1
  have HCX : Hid (∀ z, Below w1.heap.size w1 z → z.cell? ⟨w.heap.size, 0, none⟩ = some (.int .u8 k) ∧ z.cell? ⟨w.heap.size, 1, none⟩ = some (.string (Ln.bs tx)) ∧ z.cell? ⟨w.heap.size, 2, none⟩ = some (.int .i64 nn) ∧ z.cell? ⟨w.heap.size, 3, none⟩ = some (.slice ao N cap)) := fun z hz => by
    have h := (hz.block _ hs1).trans hn1
    exact ⟨cells_at h rfl, cells_at h rfl, cells_at h rfl, cells_at h rfl⟩
  have HSM : Hid (_) := small_any S t _ w1 (HSZ.out (Below.refl _ _)) (HND.out (Below.refl _ _))
  obtain ⟨e0, e1, e2, e3⟩ := HCX.out w1 (Below.refl _ _)
  clear hn1 hs1 hdr hb1
  gi_wp2
  refine ⟨trivial, ?_⟩
  refine (callsIn_wide.2 HSM.out).mono ?_
  rintro e w2 ⟨b, rfl, hb2, hsm⟩
  clear e0 e1 e2 e3 HSM
  have HB2 : Hid (Below w1.heap.size w1 w2) := hb2
  clear hb2
  cases b
  case false =>
    clear hsm
    gi_wp2
    refine ⟨trivial, ?_⟩
    gi_wp2
    go_ret
    exact ⟨rfl, below_then HB1.out HB2.out⟩
  have HSM : Hid (t.size ≤ 120 ∧ Tr.Bd [t]) := hsm rfl
  clear hsm
  have HCK : Hid (_) := check_any S t _ w2 (HSZ.out HB2.out) (HND.out HB2.out) HSM.out.2
  obtain ⟨e0, e1, e2, e3⟩ := HCX.out w2 HB2.out
  gi_wp2
  refine ⟨trivial, ?_⟩
  refine (callsIn_wide.2 HCK.out).mono ?_
  rintro e w3 ⟨hb3, rfl⟩
  clear e0 e1 e2 e3 HCK
  have HB3 : Hid (Below w1.heap.size w1 w3) := below_then HB2.out hb3
  clear hb3
  obtain ⟨E, hE⟩ : ∃ E : Nat, E = (Bn.fault t).1 := ⟨_, rfl⟩
  obtain ⟨I, hI⟩ : ∃ I : Nat, I = (Bn.fault t).2 := ⟨_, rfl⟩
  have HE : Hid (E = (Bn.fault t).1) := hE
  rw [← hE, ← hI]
  clear hE hI
  have hfz := bf_zero (E : Int) (I : Int)
  by_cases hE0 : E = 0
  case neg =>
    have hbe : ((E : Int) != 0) = true := by simp; omega
    clear hE0
    gi_wp2
    go_ret
    exact ⟨rfl, below_then HB1.out HB3.out⟩
  have hbe : ((E : Int) != 0) = false := by simp; omega
  have HZ : Hid ((Bn.fault t).1 = 0) := show _ = _ from HE.out ▸ hE0
  clear hE0
  have HBI : Hid (_) := binders_any S t _ w3 (HSZ.out HB3.out) (HND.out HB3.out) HSM.out.2
  obtain ⟨e0, e1, e2, e3⟩ := HCX.out w3 HB3.out
  gi_wp2
  refine ⟨trivial, ?_⟩
  refine (callsIn_wide.2 HBI.out).mono ?_
  rintro e w4 ⟨hb4, v, cs, rfl, hown, hT⟩
  clear e0 e1 e2 e3 HBI hfz hbe
  have HB4 : Hid (Below w1.heap.size w1 w4) := below_then HB3.out hb4
  obtain ⟨l, hl⟩ : ∃ l, l = Bn.binders t := ⟨_, rfl⟩
  rw [← hl] at hown hT
  obtain ⟨va, vc, rfl⟩ := slice_shape hown
  have HPL : Hid (_) := Bn.once_plain HZ.out hl
  have HBR : Hid (w4.ownsRow w3.heap.size 46 3 (.slice va l.length vc) l.length cs ∧ BTold w3.heap.size w4 cs l ∧ l = Bn.binders t) := ⟨hown, hT, hl⟩
  obtain ⟨NL, hNL⟩ : ∃ n, n = l.length := ⟨_, rfl⟩
  have HNL : Hid (NL = l.length) := hNL
  have hNLb : NL ≤ 1000 := by have := HPL.out.2.2.2; have := HSM.out.1; omega
  rw [← hNL]
  clear hb4 hown hT hl hNL
  gi_wp2
  gi_loopw [4, 5] (fun av i wr => ∃ q : Nat, q ≤ NL ∧ i = .int .i64 q ∧ Below w4.heap.size w4 wr ∧ AllAt w4.heap.size w4 wr av ((l.take q).flatMap (·.uses))) (fun _ i _ => NL - (intOf i).toNat)
  case atStart => exact ⟨0, Nat.zero_le _, rfl, Below.refl _ _, [], World.ownsRow_nil _ _ _ _, fun j r u h => by simp at h⟩
  obtain ⟨q, hq, rfl, hbr, hall⟩ := hrel
  have HBR2 : Hid (Below w4.heap.size w4 wr) := hbr
  have HAL : Hid (∃ av, AllAt w4.heap.size w4 wr av ((l.take q).flatMap (·.uses))) := ⟨_, hall⟩
  obtain ⟨rows, hrows, hrd⟩ := hall
  obtain ⟨ra, rc, hrv⟩ := slice_shape hrows
  subst hrv
  have HAL : Hid (wr.ownsRow w4.heap.size 44 1 (.slice ra ((l.take q).flatMap (·.uses)).length rc) ((l.take q).flatMap (·.uses)).length rows ∧ ∀ (j : Nat) (r : Value) (u : List Nat), rows[j]? = some r → ((l.take q).flatMap (·.uses))[j]? = some u → IntsAt w4 r u) := ⟨hrows, hrd⟩
  obtain ⟨UL, hUL⟩ : ∃ n, n = ((l.take q).flatMap (·.uses)).length := ⟨_, rfl⟩
  have HUL : Hid (UL = ((l.take q).flatMap (·.uses)).length) := hUL
  rw [← hUL]
  clear hbr hrows hrd hUL
  by_cases hlt : q < NL
  case neg =>
    have hqn : q = NL := by omega
    have HFU : Hid (UL = Bn.usesN t) := by
      show _ = _
      rw [HUL.out, hqn, HNL.out, List.take_length]
      exact HPL.out.2.2.1
    have HUS : Hid (_) := uses_any t.size t (Nat.le_refl _) S _ wr (HSZ.out (below_then HB4.out HBR2.out)) (HND.out (below_then HB4.out HBR2.out)) (by have := HSM.out.1; omega)
    obtain ⟨e0, e1, e2, e3⟩ := HCX.out wr (below_then HB4.out HBR2.out)
    clear HAL HUL
    subst hqn
    gi_wp2
    refine ⟨trivial, ?_⟩
    refine (callsIn_wide.2 HUS.out).mono ?_
    rintro e w5 ⟨rfl, hb5⟩
    clear e0 e1 e2 e3 HUS
    have HB5 : Hid (Below w.heap.size w w5) := below_then HB1.out (below_then (below_then HB4.out HBR2.out) hb5)
    clear hb5
    rw [HFU.out]
    obtain ⟨UN, hUN⟩ : ∃ n, n = Bn.usesN t := ⟨_, rfl⟩
    rw [← hUN]
    clear hUN
    gi_wp2
    go_ret
    exact ⟨rfl, HB5.out⟩
  obtain ⟨d, hd⟩ : ∃ d, l[q]? = some d := ⟨l[q]'(by rw [← HNL.out]; exact hlt), List.getElem?_eq_getElem _⟩
  obtain ⟨pv, uv, urows, hc0, hc1, hc2, hdn, hpr, hur, hue⟩ := HBR.out.2.1.get hd
  obtain ⟨gb, hva, hgb1, hgb2, hgc⟩ := told_cell HBR.out.1 (by have := HNL.out; omega)
  subst hva
  obtain ⟨y, hy1, hy2, hy3, hy4, hy5⟩ := HPL.out.1 q d hd
  obtain ⟨pa, pc, hpa⟩ := slice_shape hpr
  obtain ⟨ua, uc, hua⟩ := slice_shape hur
  subst hpa hua
  have HDD : Hid (l[q]? = some d) := hd
  have HY : Hid (Tr.get (Bn.ints d.path) t = some y ∧ y.t = d.name ∧ (y.k = 2 ∨ y.k = 4 ∨ y.k = 6) ∧ d.path.length ≤ 40 ∧ ∀ u ∈ d.uses, u.length ≤ 40 ∧ ∃ z, Tr.get (Bn.ints u) t = some z ∧ z.t = d.name ∧ (z.k = 22 ∨ z.k = 25) ∧ (z.k = 25 ↔ y.k = 2)) := ⟨hy1, hy2, hy3, hy4, hy5⟩
  have HPR : Hid (w4.ownsRow w3.heap.size 3 1 (.slice pa d.path.length pc) d.path.length (d.path.map numV) ∧ w4.ownsRow w3.heap.size 44 1 (.slice ua d.uses.length uc) d.uses.length urows ∧ ∀ (j : Nat) (v : Value) (u : List Nat), urows[j]? = some v → d.uses[j]? = some u → w4.ownsRow w3.heap.size 3 1 v u.length (u.map numV)) := ⟨hpr, hur, hue⟩
  have HGB : Hid (∀ z, Below w4.heap.size w4 z → z.cell? ⟨gb, q * 3, none⟩ = some (.slice pa d.path.length pc) ∧ z.cell? ⟨gb, q * 3 + 1, none⟩ = some (.string (Ln.bs d.name)) ∧ z.cell? ⟨gb, q * 3 + 2, none⟩ = some (.slice ua d.uses.length uc)) := fun z hz => ⟨(hz.cell (p := ⟨gb, q * 3, none⟩) hgb2).trans (hgc _ _ hc0), (hz.cell (p := ⟨gb, q * 3 + 1, none⟩) hgb2).trans (hgc _ _ hc1), (hz.cell (p := ⟨gb, q * 3 + 2, none⟩) hgb2).trans (hgc _ _ hc2)⟩
  have HDN : Hid (d.name.length ≤ 1000000) := hdn
  obtain ⟨PL, hPL⟩ : ∃ n, n = d.path.length := ⟨_, rfl⟩
  obtain ⟨UU, hUU⟩ : ∃ n, n = d.uses.length := ⟨_, rfl⟩
  have HPU : Hid (PL = d.path.length ∧ UU = d.uses.length) := ⟨hPL, hUU⟩
  have hUUb : UU ≤ 1000 := by
    have h1 := Bn.flat_len HDD.out
    have h2 := HPL.out.2.2.1
    have h3 := Bn.usesN_le t
    have h4 := HSM.out.1
    omega
  rw [← hPL] at HGB
  rw [← hUU] at HGB
  have HCF : Hid (∀ z, Below w4.heap.size w4 z → z.cell? ⟨w.heap.size, 0, none⟩ = some (.int .u8 k) ∧ z.cell? ⟨w.heap.size, 1, none⟩ = some (.string (Ln.bs tx)) ∧ z.cell? ⟨w.heap.size, 2, none⟩ = some (.int .i64 nn) ∧ z.cell? ⟨w.heap.size, 3, none⟩ = some (.slice ao N cap) ∧ z.cell? ⟨gb, q * 3, none⟩ = some (.slice pa PL pc)) := fun z hz => by
    obtain ⟨a, b, c, d⟩ := HCX.out z (below_then HB4.out hz)
    exact ⟨a, b, c, d, (HGB.out z hz).1⟩
  have HD0 : Hid (Below w4.heap.size w4 wr.drew) := below_then HBR2.out (below_draw wr 1)
  have HGET : Hid (∀ {z : World}, Below w4.heap.size w4 z → Calls Tryz.prog 21 #[.agg #[.int .u8 k, .string (Ln.bs tx), .int .i64 nn, .slice ao N cap], .slice pa PL pc] z (GetPost (some y) z)) := fun {z} hz => by
    have h1 := get_any t (.agg #[.int .u8 k, .string (Ln.bs tx), .int .i64 nn, .slice ao N cap]) (.slice pa PL pc) (Bn.ints d.path) z (by
      obtain ⟨x, e1, e2, e3, e4⟩ := HND.out (below_then HB4.out hz)
      exact ⟨x, e1, e2, e3, e4.mono (HSZ.out (below_then HB4.out hz))⟩) HSM.out.2 (by
      have h2 := IntsAt.path (owns_lower (owns_at HPR.out.1 hz (Nat.le_refl _)) (Nat.zero_le _))
      rw [← HPU.out.1] at h2; exact h2) (by rw [List.length_map]; have := HY.out.2.2.2.1; omega)
    rw [HY.out.1] at h1
    exact h1
  clear hd hc0 hc1 hc2 hdn hpr hur hue hgb1 hgb2 hgc hy1 hy2 hy3 hy4 hy5 hPL hUU
  gi_wp2
  refine cut_from (fun a a' Z => ∃ (b6 : Nat) (yn : Int) (ya : Option Addr) (yl yc : Nat), Below w4.heap.size w4 Z ∧ Below wr.heap.size wr Z ∧ w4.heap.size ≤ b6 ∧ Z.heap[b6]? = some (.cells #[.int .u8 y.k, .string (Ln.bs d.name), .int .i64 yn, .slice ya yl yc] 25 (0, 0)) ∧ a' = { a with tmps := ((((((((((((a.tmps.setIfInBounds 32 (.agg #[.int .u8 k, .string (Ln.bs tx), .int .i64 nn, .slice ao N cap])).setIfInBounds 33 (.slice (some ⟨gb, 0, none⟩) NL vc)).setIfInBounds 34 (.int .i64 q)).setIfInBounds 35 (.pointer (some ⟨gb, q * 3, none⟩))).setIfInBounds 36 (.pointer (some ⟨gb, q * 3, none⟩))).setIfInBounds 37 (.slice pa PL pc)).setIfInBounds 38 (.tuple #[.agg #[.int .u8 y.k, .string (Ln.bs d.name), .int .i64 yn, .slice ya yl yc], .bool true])).setIfInBounds 31 (.tuple #[.agg #[.int .u8 y.k, .string (Ln.bs d.name), .int .i64 yn, .slice ya yl yc], .bool true])).setIfInBounds 39 (.agg #[.int .u8 y.k, .string (Ln.bs d.name), .int .i64 yn, .slice ya yl yc])).setIfInBounds 40 (.bool true)).setIfInBounds 6 (.pointer (some ⟨b6, 0, none⟩))).setIfInBounds 7 (.bool true)) }) ?_ ?_
  · skip
    refine region_lex (fun z => Below w4.heap.size w4 z) 6 7 rfl (by kernel_rfl) (by kernel_rfl) (by kernel_rfl) (by kernel_rfl) (fun _ _ d _ _ h => by cases d <;> exact h) HD0.out ?_
    simp only [List.take_succ_cons, List.take_zero]
    iterate 6 (first
      | (apply lexC_want
         · rfl
         · exact fun _ => rfl
         · (intro w' hw'; obtain ⟨f0, f1, f2, f3, f4⟩ := HCF.out w' hw'; go_simp; try rfl)
         simp only [Act.put, List.setIfInBounds_toArray, List.set_cons_zero, List.set_cons_succ])
      | (apply lexC_skip
         · rfl
         · exact fun _ => rfl
         simp only [Act.put, List.setIfInBounds_toArray, List.set_cons_zero, List.set_cons_succ]))
    refine lexC_nil ?_
    refine anyC_two (i := 6) (j := 10) (by kernel_rfl) rfl rfl (by rfl) (by rfl) (fun K1 hK1 => ?_) (fun K1 hK1 => ?_)
    · skip
      go_simp
      refine ⟨trivial, ?_⟩
      refine (callsIn_wide.2 (HGET.out HD0.out)).mono ?_
      rintro e z1 hgp
      obtain ⟨hbz, r, hre, hr⟩ := hgp
      obtain ⟨⟨yk, yt, yn, yv, ykids⟩, rfl, hyt, -, hyr⟩ := hr
      obtain ⟨ya, yc, hyv⟩ := hyr.slice
      simp only at hyv
      subst hyv
      obtain ⟨yl, hyl⟩ : ∃ n, n = ykids.length := ⟨_, rfl⟩
      have hyk : yk = y.k := by have := congrArg Tr.k hyt; exact this
      have hyt2 : yt = d.name := by have := congrArg Tr.t hyt; exact this.trans HY.out.2.1
      subst hyk hyt2
      simp only [N1.cells] at hre
      rw [← hyl] at hre
      obtain rfl := hre
      clear hyt hyr hyl
      have HZ1 : Hid (Below w4.heap.size w4 z1 ∧ Below wr.heap.size wr z1) := ⟨below_then HD0.out hbz, below_then (below_draw wr 1) hbz⟩
      clear hbz
      refine hK1 _ _ HZ1.out.1 ?_
      clear hK1
      refine anyC_more 7 3 3 6 rfl (by kernel_rfl) rfl (by decide) (by kernel_rfl) (fun _ _ d _ _ h => by cases d <;> exact h) HZ1.out.1 ?_
      simp only [List.drop_succ_cons, List.drop_zero, List.take_succ_cons, List.take_zero]
      iterate 3 (first
        | (apply lexC_want
           · rfl
           · exact fun _ => rfl
           · (intro w' hw'; obtain ⟨f0, f1, f2, f3, f4⟩ := HCF.out w' hw'; go_simp; try rfl)
           simp only [Act.put, List.setIfInBounds_toArray, List.set_cons_zero, List.set_cons_succ])
        | (apply lexC_skip
           · rfl
           · exact fun _ => rfl
           simp only [Act.put, List.setIfInBounds_toArray, List.set_cons_zero, List.set_cons_succ]))
      refine lexC_nil ?_
      refine anyC_one (i := 10) (by kernel_rfl) rfl (by rfl) (fun K2 hK2 => ?_)
      go_simp
      obtain ⟨V, hV⟩ : ∃ V, V = z1.alloc (.cells #[.int .u8 0, .string ⟨#[]⟩, .int .i64 0, .slice none 0 0] 25) := ⟨_, rfl⟩
      rw [← hV]
      have bV : Below z1.heap.size z1 V := hV ▸ below_new z1 _
      have vn : V.heap[z1.heap.size]? = some (.cells #[.int .u8 0, .string ⟨#[]⟩, .int .i64 0, .slice none 0 0] 25 (0, 0)) := by rw [hV]; exact World.alloc_heap_new z1 _
      obtain ⟨b6, hb6⟩ : ∃ b, b = z1.heap.size := ⟨_, rfl⟩
      rw [← hb6] at vn ⊢
      have HV : Hid (Below w4.heap.size w4 V ∧ Below wr.heap.size wr V ∧ wr.heap.size ≤ b6) := ⟨below_then HZ1.out.1 bV, below_then HZ1.out.2 bV, by rw [hb6]; exact HZ1.out.2.size⟩
      have hle := HV.out.2.2
      have hle4 : w4.heap.size ≤ b6 := Nat.le_trans HBR2.out.size hle
      clear hV bV hb6
      obtain ⟨p0, p1, p2', p3, pf, Z9, hZ9, hZr, gz⟩ := box_put vn (.int .u8 y.k) (.string (Ln.bs d.name)) (.int .i64 yn) (.slice ya yl yc)
      have HZ9 : Hid (Below w4.heap.size w4 Z9 ∧ Below wr.heap.size wr Z9 ∧ Z9.heap[b6]? = some (.cells #[.int .u8 y.k, .string (Ln.bs d.name), .int .i64 yn, .slice ya yl yc] 25 (0, 0)) ∧ w4.heap.size ≤ b6) := by
        obtain ⟨v1, v2, v3⟩ := HV.out
        exact ⟨⟨gz.os.trans v1.os, gz.tape.trans v1.tape, gz.output.trans v1.output, Nat.le_trans v1.size gz.size, fun k hk => (gz.block k (Nat.lt_of_lt_of_le hk v1.size) (by simp; omega)).trans (v1.block k hk)⟩, ⟨gz.os.trans v2.os, gz.tape.trans v2.tape, gz.output.trans v2.output, Nat.le_trans v2.size gz.size, fun k hk => (gz.block k (Nat.lt_of_lt_of_le hk v2.size) (by simp; omega)).trans (v2.block k hk)⟩, hZr, by have := HBR2.out.size; omega⟩
      clear vn gz hZr
      clear hle hle4
      refine hK2 _ _ HV.out.1 ?_
      clear hK2
      refine anyC_one (i := 11) (by kernel_rfl) rfl (by rfl) (fun K3 hK3 => ?_)
      go_simp
      rw [← hZ9]
      refine hK3 _ _ HZ9.out.1 ?_
      clear hK3
      clear p0 p1 p2' p3 pf hZ9
      refine anyC_one (i := 12) (by kernel_rfl) rfl (by rfl) (fun K4 hK4 => ?_)
      go_simp
      refine hK4 _ _ HZ9.out.1 ?_
      clear hK4
      refine anyC_done (by kernel_rfl) ?_
      exact ⟨b6, yn, ya, yl, yc, HZ9.out.1, HZ9.out.2.1, HZ9.out.2.2.2, HZ9.out.2.2.1, rfl⟩
    · skip
      go_simp
      obtain ⟨V, hV⟩ : ∃ V, V = (wr.alloc (.cells #[.int .u8 0, .string ⟨#[]⟩, .int .i64 0, .slice none 0 0] 25)).drew := ⟨_, rfl⟩
      rw [← hV]
      have bV : Below wr.heap.size wr V := hV ▸ below_then (below_new wr _) (below_draw _ 1)
      have vn0 : V.heap[wr.heap.size]? = some (.cells #[.int .u8 0, .string ⟨#[]⟩, .int .i64 0, .slice none 0 0] 25 (0, 0)) := by rw [hV]; exact World.alloc_heap_new wr _
      have vs : wr.heap.size < V.heap.size := (Array.getElem?_eq_some_iff.1 vn0).1
      obtain ⟨b6, hb6⟩ : ∃ b, b = wr.heap.size := ⟨_, rfl⟩
      rw [← hb6] at vn0 vs ⊢
      have HV0 : Hid (Below w4.heap.size w4 V ∧ Below wr.heap.size wr V ∧ wr.heap.size ≤ b6 ∧ b6 < V.heap.size ∧ V.heap[b6]? = some (.cells #[.int .u8 0, .string ⟨#[]⟩, .int .i64 0, .slice none 0 0] 25 (0, 0))) := ⟨below_then HBR2.out bV, bV, by omega, vs, vn0⟩
      clear hV bV hb6 vn0 vs
      refine hK1 _ _ HV0.out.1 ?_
      clear hK1
      refine anyC_one (i := 6) (by kernel_rfl) rfl (by rfl) (fun K5 hK5 => ?_)
      go_simp
      refine ⟨trivial, ?_⟩
      refine (callsIn_wide.2 (HGET.out HV0.out.1)).mono ?_
      rintro e z1 hgp
      obtain ⟨hbz, r, hre, hr⟩ := hgp
      obtain ⟨⟨yk, yt, yn, yv, ykids⟩, rfl, hyt, -, hyr⟩ := hr
      obtain ⟨ya, yc, hyv⟩ := hyr.slice
      simp only at hyv
      subst hyv
      obtain ⟨yl, hyl⟩ : ∃ n, n = ykids.length := ⟨_, rfl⟩
      have hyk : yk = y.k := by have := congrArg Tr.k hyt; exact this
      have hyt2 : yt = d.name := by have := congrArg Tr.t hyt; exact this.trans HY.out.2.1
      subst hyk hyt2
      simp only [N1.cells] at hre
      rw [← hyl] at hre
      obtain rfl := hre
      clear hyt hyr hyl
      have vn := (hbz.block b6 HV0.out.2.2.2.1).trans HV0.out.2.2.2.2
      have HV : Hid (Below w4.heap.size w4 z1 ∧ Below wr.heap.size wr z1 ∧ wr.heap.size ≤ b6) := ⟨below_then HV0.out.1 hbz, below_then HV0.out.2.1 hbz, HV0.out.2.2.1⟩
      have hle := HV.out.2.2
      have hle4 : w4.heap.size ≤ b6 := Nat.le_trans HBR2.out.size hle
      clear hbz
      obtain ⟨p0, p1, p2', p3, pf, Z9, hZ9, hZr, gz⟩ := box_put vn (.int .u8 y.k) (.string (Ln.bs d.name)) (.int .i64 yn) (.slice ya yl yc)
      have HZ9 : Hid (Below w4.heap.size w4 Z9 ∧ Below wr.heap.size wr Z9 ∧ Z9.heap[b6]? = some (.cells #[.int .u8 y.k, .string (Ln.bs d.name), .int .i64 yn, .slice ya yl yc] 25 (0, 0)) ∧ w4.heap.size ≤ b6) := by
        obtain ⟨v1, v2, v3⟩ := HV.out
        exact ⟨⟨gz.os.trans v1.os, gz.tape.trans v1.tape, gz.output.trans v1.output, Nat.le_trans v1.size gz.size, fun k hk => (gz.block k (Nat.lt_of_lt_of_le hk v1.size) (by simp; omega)).trans (v1.block k hk)⟩, ⟨gz.os.trans v2.os, gz.tape.trans v2.tape, gz.output.trans v2.output, Nat.le_trans v2.size gz.size, fun k hk => (gz.block k (Nat.lt_of_lt_of_le hk v2.size) (by simp; omega)).trans (v2.block k hk)⟩, hZr, by have := HBR2.out.size; omega⟩
      clear vn gz hZr
      clear hle hle4
      refine hK5 _ _ HV.out.1 ?_
      clear hK5
      refine anyC_more 7 3 2 5 rfl (by kernel_rfl) rfl (by decide) (by kernel_rfl) (fun _ _ d _ _ h => by cases d <;> exact h) HV.out.1 ?_
      simp only [List.drop_succ_cons, List.drop_zero, List.take_succ_cons, List.take_zero]
      iterate 3 (first
        | (apply lexC_want
           · rfl
           · exact fun _ => rfl
           · (intro w' hw'; obtain ⟨f0, f1, f2, f3, f4⟩ := HCF.out w' hw'; go_simp; try rfl)
           simp only [Act.put, List.setIfInBounds_toArray, List.set_cons_zero, List.set_cons_succ])
        | (apply lexC_skip
           · rfl
           · exact fun _ => rfl
           simp only [Act.put, List.setIfInBounds_toArray, List.set_cons_zero, List.set_cons_succ]))
      refine lexC_nil ?_
      refine anyC_one (i := 11) (by kernel_rfl) rfl (by rfl) (fun K6 hK6 => ?_)
      go_simp
      rw [← hZ9]
      refine hK6 _ _ HZ9.out.1 ?_
      clear hK6
      clear p0 p1 p2' p3 pf hZ9
      refine anyC_one (i := 12) (by kernel_rfl) rfl (by rfl) (fun K7 hK7 => ?_)
      go_simp
      refine hK7 _ _ HZ9.out.1 ?_
      clear hK7
      refine anyC_done (by kernel_rfl) ?_
      exact ⟨b6, yn, ya, yl, yc, HZ9.out.1, HZ9.out.2.1, HZ9.out.2.2.2, HZ9.out.2.2.1, rfl⟩
  rintro a' Z ⟨b6, yn, ya, yl, yc, hz4, hzr, hb6, hzb, rfl⟩
  have HZZ : Hid (Below w4.heap.size w4 Z ∧ Below wr.heap.size wr Z ∧ Z.heap[b6]? = some (.cells #[.int .u8 y.k, .string (Ln.bs d.name), .int .i64 yn, .slice ya yl yc] 25 (0, 0))) := ⟨hz4, hzr, hzb⟩
  obtain ⟨a1, a2, a3⟩ := HGB.out Z hz4
  have k0 : Z.cell? ⟨b6, 0, none⟩ = some (.int .u8 y.k) := cells_at hzb rfl
  have k1 : Z.cell? ⟨b6, 1, none⟩ = some (.string (Ln.bs d.name)) := cells_at hzb rfl
  obtain ⟨YK, hYK⟩ : ∃ n, n = y.k := ⟨_, rfl⟩
  have HYK : Hid (YK = y.k) := hYK
  have hy3 := HY.out.2.2.1
  rw [← hYK] at k0 hy3 ⊢
  clear hYK hz4 hzr hb6 hzb HD0 HGET HCF
  go_simp
  have hcc : YK = 2 ∨ YK = 4 ∨ YK = 6 := hy3
  clear hy3
  have hcs : ∃ ZK : Int, Hid (∀ z : Int, (z = 22 ∨ z = 25) → (z = 25 ↔ y.k = 2) → z = ZK) ∧ (((YK != 2) = false ∧ (YK == 2) = true ∧ (YK != 4) = true ∧ (YK != 6) = true ∧ (ZK == 25) = true ∧ (ZK != 25) = false ∧ (ZK != 22) = true) ∨ ((YK != 2) = true ∧ (YK == 2) = false ∧ (YK != 4) = false ∧ (YK != 6) = true ∧ (ZK == 25) = false ∧ (ZK != 25) = true ∧ (ZK != 22) = false) ∨ ((YK != 2) = true ∧ (YK == 2) = false ∧ (YK != 4) = true ∧ (YK != 6) = false ∧ (ZK == 25) = false ∧ (ZK != 25) = true ∧ (ZK != 22) = false)) := by
    have hyk := HYK.out
    rcases hcc with hy | hy | hy
    · exact ⟨25, fun z h1 h2 => by omega, .inl (by rw [hy]; exact ⟨rfl, rfl, rfl, rfl, rfl, rfl, rfl⟩)⟩
    · exact ⟨22, fun z h1 h2 => by omega, .inr (.inl (by rw [hy]; exact ⟨rfl, rfl, rfl, rfl, rfl, rfl, rfl⟩))⟩
    · exact ⟨22, fun z h1 h2 => by omega, .inr (.inr (by rw [hy]; exact ⟨rfl, rfl, rfl, rfl, rfl, rfl, rfl⟩))⟩
  clear hcc
  obtain ⟨ZK, HZK, ⟨g2, g2', g4, g6, z25, z25', z22⟩ | ⟨g2, g2', g4, g6, z25, z25', z22⟩ | ⟨g2, g2', g4, g6, z25, z25', z22⟩⟩ := hcs
  all_goals
    gi_wp2
    have HCF : Hid (∀ z, Below Z.heap.size Z z → z.cell? ⟨b6, 0, none⟩ = some (.int .u8 YK) ∧ z.cell? ⟨b6, 1, none⟩ = some (.string (Ln.bs d.name)) ∧ z.cell? ⟨gb, q * 3 + 1, none⟩ = some (.string (Ln.bs d.name))) := fun z hz => by
      have h := (hz.block b6 (Array.getElem?_eq_some_iff.1 HZZ.out.2.2).1).trans HZZ.out.2.2
      rw [← HYK.out] at h
      exact ⟨cells_at h rfl, cells_at h rfl, (HGB.out z (below_then HZZ.out.1 hz)).2.1⟩
    have HDZ : Hid (Below Z.heap.size Z Z.drew) := below_draw Z 1
    clear a1 a2 a3 k0 k1
    refine region_lex (fun z => Below Z.heap.size Z z) 27 0 rfl (by kernel_rfl) (by kernel_rfl) (by kernel_rfl) (by kernel_rfl) (fun _ _ d _ _ h => by cases d <;> exact h) HDZ.out ?_
    simp only [List.take_succ_cons, List.take_zero]
    iterate 27 (first
      | (apply lexC_want
         · rfl
         · exact fun _ => rfl
         · (intro w' hw'; obtain ⟨f0, f1, f2⟩ := HCF.out w' hw'; go_simp; try rfl)
         simp only [Act.put, List.setIfInBounds_toArray, List.set_cons_zero, List.set_cons_succ])
      | (apply lexC_skip
         · rfl
         · exact fun _ => rfl
         simp only [Act.put, List.setIfInBounds_toArray, List.set_cons_zero, List.set_cons_succ]))
    refine lexC_nil ?_
    refine anyC_done (by kernel_rfl) ?_
    clear HCF
    gi_wp2
    gi_loopw [4, 8] (fun av2 kk wx => ∃ p2 : Nat, p2 ≤ UU ∧ kk = .int .i64 p2 ∧ Below w4.heap.size w4 wx ∧ wx.heap[b6]? = some (.cells #[.int .u8 YK, .string (Ln.bs d.name), .int .i64 yn, .slice ya yl yc] 25 (0, 0)) ∧ AllAt w4.heap.size w4 wx av2 ((l.take q).flatMap (·.uses) ++ d.uses.take p2)) (fun _ kk _ => UU - (intOf kk).toNat)
    case atStart => exact ⟨0, Nat.zero_le _, rfl, below_then HZZ.out.1 (below_draw Z 1), (by have h := HZZ.out.2.2; rw [← HYK.out] at h; exact h), rows, by rw [HUL.out, List.take_zero, List.append_nil]; exact owns_at HAL.out.1 (below_then HZZ.out.2.1 (below_draw Z 1)) (Nat.le_refl _), by rw [List.take_zero, List.append_nil]; exact HAL.out.2⟩
    rename World => wx
    obtain ⟨p2, hp2, rfl, hwx4, hwxz, hall2⟩ := hrel
    obtain ⟨rows2, hrows2, hrd2⟩ := hall2
    obtain ⟨ra2, rc2, hrv2⟩ := slice_shape hrows2
    subst hrv2
    obtain ⟨U2, hU2⟩ : ∃ u, u = (l.take q).flatMap (·.uses) ++ d.uses.take p2 := ⟨_, rfl⟩
    rw [← hU2] at hrows2 hrd2 ⊢
    have HU2 : Hid (U2 = (l.take q).flatMap (·.uses) ++ d.uses.take p2) := hU2
    have HAL2 : Hid (wx.ownsRow w4.heap.size 44 1 (.slice ra2 U2.length rc2) U2.length rows2 ∧ ∀ (j : Nat) (r : Value) (u : List Nat), rows2[j]? = some r → U2[j]? = some u → IntsAt w4 r u) := ⟨hrows2, hrd2⟩
    have HWX : Hid (Below w4.heap.size w4 wx) := hwx4
    have HWB : Hid (_) := hwxz
    obtain ⟨N2, hN2⟩ : ∃ n, n = U2.length := ⟨_, rfl⟩
    have HN2 : Hid (N2 = U2.length) := hN2
    have hN2b : N2 ≤ 1000 := by
      have h1 := Bn.flat_len HDD.out
      have h2 := HPL.out.2.2.1
      have h3 := Bn.usesN_le t
      have h4 := HSM.out.1
      have h6 := HU2.out
      have h7 := congrArg List.length h6
      rw [List.length_append, List.length_take] at h7
      omega
    rw [← hN2]
    obtain ⟨b1, b2, b3⟩ := HGB.out wx hwx4
    clear hrows2 hrd2 hU2 hwx4 hwxz hN2
    by_cases hlt2 : p2 < UU
    case neg =>
      have hpe : p2 = UU := by omega
      have HFIN : Hid (AllAt w4.heap.size w4 wx (.slice ra2 N2 rc2) ((l.take (q + 1)).flatMap (·.uses))) := by
        have e : (l.take (q + 1)).flatMap (·.uses) = U2 := by rw [Bn.flat_next HDD.out, HU2.out, hpe, HPU.out.2, List.take_length]
        rw [e, HN2.out]
        exact ⟨rows2, HAL2.out.1, HAL2.out.2⟩
      clear hpe
      gi_wp2
      refine ⟨⟨q + 1, by omega, by simp, HWX.out, HFIN.out⟩, by simp [intOf]; omega⟩
    obtain ⟨u, hu⟩ : ∃ u, d.uses[p2]? = some u := ⟨d.uses[p2]'(by rw [← HPU.out.2]; exact hlt2), List.getElem?_eq_getElem _⟩
    obtain ⟨hul, y2, hz1, hz2, hz3, hz4⟩ := HY.out.2.2.2.2 u (List.mem_of_getElem? hu)
    obtain ⟨gu, hgua, hgul, hguc⟩ := row_cells HPR.out.2.1 (by have := HPU.out.2; omega)
    subst hgua
    obtain ⟨vu, hvu⟩ : ∃ v, urows[p2]? = some v := ⟨urows[p2]'(by rw [HPR.out.2.1.1, ← HPU.out.2]; omega), List.getElem?_eq_getElem _⟩
    have hown := HPR.out.2.2 p2 vu u hvu hu
    obtain ⟨ta, tc, htv⟩ := slice_shape hown
    subst htv
    have HUU : Hid (d.uses[p2]? = some u ∧ u.length ≤ 40 ∧ u ∉ U2) := ⟨hu, hul, by rw [HU2.out]; exact Bn.not_before HPL.out.2.1 HDD.out hu⟩
    have HY2 : Hid (Tr.get (Bn.ints u) t = some y2 ∧ y2.t = d.name ∧ y2.k = ZK) := by
      refine ⟨hz1, hz2, ?_⟩
      exact HZK.out _ hz3 hz4
    have HOU : Hid (w4.ownsRow w3.heap.size 3 1 (.slice ta u.length tc) u.length (u.map numV)) := hown
    have HGU : Hid (∀ z, Below w4.heap.size w4 z → z.cell? ⟨gu, p2, none⟩ = some (.slice ta u.length tc)) := fun z hz => (hz.cell (p := ⟨gu, p2, none⟩) hgul).trans (hguc _ _ hvu)
    obtain ⟨TL, hTL⟩ : ∃ n, n = u.length := ⟨_, rfl⟩
    have HTL : Hid (TL = u.length) := hTL
    rw [← hTL] at HGU
    have HCF : Hid (∀ z, Below w4.heap.size w4 z → z.cell? ⟨w.heap.size, 0, none⟩ = some (.int .u8 k) ∧ z.cell? ⟨w.heap.size, 1, none⟩ = some (.string (Ln.bs tx)) ∧ z.cell? ⟨w.heap.size, 2, none⟩ = some (.int .i64 nn) ∧ z.cell? ⟨w.heap.size, 3, none⟩ = some (.slice ao N cap) ∧ z.cell? ⟨gb, q * 3 + 2, none⟩ = some (.slice (some ⟨gu, 0, none⟩) UU uc) ∧ z.cell? ⟨gu, p2, none⟩ = some (.slice ta TL tc)) := fun z hz => by
      obtain ⟨a, b, c, d⟩ := HCX.out z (below_then HB4.out hz)
      exact ⟨a, b, c, d, (HGB.out z hz).2.2, HGU.out z hz⟩
    have HD1 : Hid (Below w4.heap.size w4 wx.drew) := below_then HWX.out (below_draw wx 1)
    have HGET2 : Hid (∀ {z : World}, Below w4.heap.size w4 z → Calls Tryz.prog 21 #[.agg #[.int .u8 k, .string (Ln.bs tx), .int .i64 nn, .slice ao N cap], .slice ta TL tc] z (GetPost (some y2) z)) := fun {z} hz => by
      have h1 := get_any t (.agg #[.int .u8 k, .string (Ln.bs tx), .int .i64 nn, .slice ao N cap]) (.slice ta TL tc) (Bn.ints u) z (by
        obtain ⟨x, e1, e2, e3, e4⟩ := HND.out (below_then HB4.out hz)
        exact ⟨x, e1, e2, e3, e4.mono (HSZ.out (below_then HB4.out hz))⟩) HSM.out.2 (by
        have h2 := IntsAt.path (owns_lower (owns_at HOU.out hz (Nat.le_refl _)) (Nat.zero_le _))
        rw [← HTL.out] at h2; exact h2) (by rw [List.length_map]; have := HUU.out.2.1; omega)
      rw [HY2.out.1] at h1
      exact h1
    clear hu hul hz1 hz2 hz3 hz4 hgul hguc hvu hown hTL
    gi_wp2
    clear b1 b2 b3
    refine cut_from (fun a a' Z2 => ∃ (b9 : Nat) (yn : Int) (ya : Option Addr) (yl yc : Nat), Below w4.heap.size w4 Z2 ∧ Below wx.heap.size wx Z2 ∧ w4.heap.size ≤ b9 ∧ Z2.heap[b9]? = some (.cells #[.int .u8 ZK, .string (Ln.bs d.name), .int .i64 yn, .slice ya yl yc] 25 (0, 0)) ∧ a' = { a with tmps := (((((((((((((((a.tmps.setIfInBounds 79 (.agg #[.int .u8 k, .string (Ln.bs tx), .int .i64 nn, .slice ao N cap])).setIfInBounds 80 (.slice (some ⟨gb, 0, none⟩) NL vc)).setIfInBounds 81 (.int .i64 q)).setIfInBounds 82 (.pointer (some ⟨gb, q * 3, none⟩))).setIfInBounds 83 (.pointer (some ⟨gb, q * 3 + 2, none⟩))).setIfInBounds 84 (.slice (some ⟨gu, 0, none⟩) UU uc)).setIfInBounds 85 (.int .i64 p2)).setIfInBounds 86 (.pointer (some ⟨gu, p2, none⟩))).setIfInBounds 87 (.slice ta TL tc)).setIfInBounds 88 (.tuple #[.agg #[.int .u8 ZK, .string (Ln.bs d.name), .int .i64 yn, .slice ya yl yc], .bool true])).setIfInBounds 78 (.tuple #[.agg #[.int .u8 ZK, .string (Ln.bs d.name), .int .i64 yn, .slice ya yl yc], .bool true])).setIfInBounds 89 (.agg #[.int .u8 ZK, .string (Ln.bs d.name), .int .i64 yn, .slice ya yl yc])).setIfInBounds 90 (.bool true)).setIfInBounds 9 (.pointer (some ⟨b9, 0, none⟩))).setIfInBounds 10 (.bool true)) }) ?_ ?_
    · skip
      refine region_lex (fun z => Below w4.heap.size w4 z) 9 7 rfl (by kernel_rfl) (by kernel_rfl) (by kernel_rfl) (by kernel_rfl) (fun _ _ d _ _ h => by cases d <;> exact h) HD1.out ?_
      simp only [List.take_succ_cons, List.take_zero]
      iterate 9 (first
        | (apply lexC_want
           · rfl
           · exact fun _ => rfl
           · (intro w' hw'; obtain ⟨f0, f1, f2, f3, f4, f5⟩ := HCF.out w' hw'; go_simp; try rfl)
           simp only [Act.put, List.setIfInBounds_toArray, List.set_cons_zero, List.set_cons_succ])
        | (apply lexC_skip
           · rfl
           · exact fun _ => rfl
           simp only [Act.put, List.setIfInBounds_toArray, List.set_cons_zero, List.set_cons_succ]))
      refine lexC_nil ?_
      refine anyC_two (i := 9) (j := 13) (by kernel_rfl) rfl rfl (by rfl) (by rfl) (fun K8 hK8 => ?_) (fun K8 hK8 => ?_)
      · skip
        go_simp
        refine ⟨trivial, ?_⟩
        refine (callsIn_wide.2 (HGET2.out HD1.out)).mono ?_
        rintro e z1 hgp
        obtain ⟨hbz, r, hre, hr⟩ := hgp
        obtain ⟨⟨yk, yt, yn, yv, ykids⟩, rfl, hyt, -, hyr⟩ := hr
        obtain ⟨ya, yc, hyv⟩ := hyr.slice
        simp only at hyv
        subst hyv
        obtain ⟨yl, hyl⟩ : ∃ n, n = ykids.length := ⟨_, rfl⟩
        have hyk : ZK = yk := by have := congrArg Tr.k hyt; exact (this.trans HY2.out.2.2).symm
        have hyt2 : yt = d.name := by have := congrArg Tr.t hyt; exact this.trans HY2.out.2.1
        subst hyk hyt2
        simp only [N1.cells] at hre
        rw [← hyl] at hre
        obtain rfl := hre
        clear hyt hyr hyl
        have HZ1 : Hid (Below w4.heap.size w4 z1 ∧ Below wx.heap.size wx z1) := ⟨below_then HD1.out hbz, below_then (below_draw wx 1) hbz⟩
        clear hbz
        refine hK8 _ _ HZ1.out.1 ?_
        clear hK8
        refine anyC_more 10 3 3 6 rfl (by kernel_rfl) rfl (by decide) (by kernel_rfl) (fun _ _ d _ _ h => by cases d <;> exact h) HZ1.out.1 ?_
        simp only [List.drop_succ_cons, List.drop_zero, List.take_succ_cons, List.take_zero]
        iterate 3 (first
          | (apply lexC_want
             · rfl
             · exact fun _ => rfl
             · (intro w' hw'; obtain ⟨f0, f1, f2, f3, f4, f5⟩ := HCF.out w' hw'; go_simp; try rfl)
             simp only [Act.put, List.setIfInBounds_toArray, List.set_cons_zero, List.set_cons_succ])
          | (apply lexC_skip
             · rfl
             · exact fun _ => rfl
             simp only [Act.put, List.setIfInBounds_toArray, List.set_cons_zero, List.set_cons_succ]))
        refine lexC_nil ?_
        refine anyC_one (i := 13) (by kernel_rfl) rfl (by rfl) (fun K9 hK9 => ?_)
        go_simp
        obtain ⟨V, hV⟩ : ∃ V, V = z1.alloc (.cells #[.int .u8 0, .string ⟨#[]⟩, .int .i64 0, .slice none 0 0] 25) := ⟨_, rfl⟩
        rw [← hV]
        have bV : Below z1.heap.size z1 V := hV ▸ below_new z1 _
        have vn : V.heap[z1.heap.size]? = some (.cells #[.int .u8 0, .string ⟨#[]⟩, .int .i64 0, .slice none 0 0] 25 (0, 0)) := by rw [hV]; exact World.alloc_heap_new z1 _
        obtain ⟨b6, hb6⟩ : ∃ b, b = z1.heap.size := ⟨_, rfl⟩
        rw [← hb6] at vn ⊢
        have HV : Hid (Below w4.heap.size w4 V ∧ Below wx.heap.size wx V ∧ wx.heap.size ≤ b6) := ⟨below_then HZ1.out.1 bV, below_then HZ1.out.2 bV, by rw [hb6]; exact HZ1.out.2.size⟩
        have hle := HV.out.2.2
        have hle4 : w4.heap.size ≤ b6 := Nat.le_trans HWX.out.size hle
        clear hV bV hb6
        obtain ⟨p0, p1, p2', p3, pf, Z9, hZ9, hZr, gz⟩ := box_put vn (.int .u8 ZK) (.string (Ln.bs d.name)) (.int .i64 yn) (.slice ya yl yc)
        have HZ9 : Hid (Below w4.heap.size w4 Z9 ∧ Below wx.heap.size wx Z9 ∧ Z9.heap[b6]? = some (.cells #[.int .u8 ZK, .string (Ln.bs d.name), .int .i64 yn, .slice ya yl yc] 25 (0, 0)) ∧ w4.heap.size ≤ b6) := by
          obtain ⟨v1, v2, v3⟩ := HV.out
          exact ⟨⟨gz.os.trans v1.os, gz.tape.trans v1.tape, gz.output.trans v1.output, Nat.le_trans v1.size gz.size, fun k hk => (gz.block k (Nat.lt_of_lt_of_le hk v1.size) (by simp; omega)).trans (v1.block k hk)⟩, ⟨gz.os.trans v2.os, gz.tape.trans v2.tape, gz.output.trans v2.output, Nat.le_trans v2.size gz.size, fun k hk => (gz.block k (Nat.lt_of_lt_of_le hk v2.size) (by simp; omega)).trans (v2.block k hk)⟩, hZr, by have := HWX.out.size; omega⟩
        clear vn gz hZr
        clear hle hle4
        refine hK9 _ _ HV.out.1 ?_
        clear hK9
        refine anyC_one (i := 14) (by kernel_rfl) rfl (by rfl) (fun K10 hK10 => ?_)
        go_simp
        rw [← hZ9]
        refine hK10 _ _ HZ9.out.1 ?_
        clear hK10
        clear p0 p1 p2' p3 pf hZ9
        refine anyC_one (i := 15) (by kernel_rfl) rfl (by rfl) (fun K11 hK11 => ?_)
        go_simp
        refine hK11 _ _ HZ9.out.1 ?_
        clear hK11
        refine anyC_done (by kernel_rfl) ?_
        exact ⟨b6, yn, ya, yl, yc, HZ9.out.1, HZ9.out.2.1, HZ9.out.2.2.2, HZ9.out.2.2.1, rfl⟩
      · skip
        go_simp
        obtain ⟨V, hV⟩ : ∃ V, V = (wx.alloc (.cells #[.int .u8 0, .string ⟨#[]⟩, .int .i64 0, .slice none 0 0] 25)).drew := ⟨_, rfl⟩
        rw [← hV]
        have bV : Below wx.heap.size wx V := hV ▸ below_then (below_new wx _) (below_draw _ 1)
        have vn0 : V.heap[wx.heap.size]? = some (.cells #[.int .u8 0, .string ⟨#[]⟩, .int .i64 0, .slice none 0 0] 25 (0, 0)) := by rw [hV]; exact World.alloc_heap_new wx _
        have vs : wx.heap.size < V.heap.size := (Array.getElem?_eq_some_iff.1 vn0).1
        obtain ⟨b6, hb6⟩ : ∃ b, b = wx.heap.size := ⟨_, rfl⟩
        rw [← hb6] at vn0 vs ⊢
        have HV0 : Hid (Below w4.heap.size w4 V ∧ Below wx.heap.size wx V ∧ wx.heap.size ≤ b6 ∧ b6 < V.heap.size ∧ V.heap[b6]? = some (.cells #[.int .u8 0, .string ⟨#[]⟩, .int .i64 0, .slice none 0 0] 25 (0, 0))) := ⟨below_then HWX.out bV, bV, by omega, vs, vn0⟩
        clear hV bV hb6 vn0 vs
        refine hK8 _ _ HV0.out.1 ?_
        clear hK8
        refine anyC_one (i := 9) (by kernel_rfl) rfl (by rfl) (fun K12 hK12 => ?_)
        go_simp
        refine ⟨trivial, ?_⟩
        refine (callsIn_wide.2 (HGET2.out HV0.out.1)).mono ?_
        rintro e z1 hgp
        obtain ⟨hbz, r, hre, hr⟩ := hgp
        obtain ⟨⟨yk, yt, yn, yv, ykids⟩, rfl, hyt, -, hyr⟩ := hr
        obtain ⟨ya, yc, hyv⟩ := hyr.slice
        simp only at hyv
        subst hyv
        obtain ⟨yl, hyl⟩ : ∃ n, n = ykids.length := ⟨_, rfl⟩
        have hyk : ZK = yk := by have := congrArg Tr.k hyt; exact (this.trans HY2.out.2.2).symm
        have hyt2 : yt = d.name := by have := congrArg Tr.t hyt; exact this.trans HY2.out.2.1
        subst hyk hyt2
        simp only [N1.cells] at hre
        rw [← hyl] at hre
        obtain rfl := hre
        clear hyt hyr hyl
        have vn := (hbz.block b6 HV0.out.2.2.2.1).trans HV0.out.2.2.2.2
        have HV : Hid (Below w4.heap.size w4 z1 ∧ Below wx.heap.size wx z1 ∧ wx.heap.size ≤ b6) := ⟨below_then HV0.out.1 hbz, below_then HV0.out.2.1 hbz, HV0.out.2.2.1⟩
        have hle := HV.out.2.2
        have hle4 : w4.heap.size ≤ b6 := Nat.le_trans HWX.out.size hle
        clear hbz
        obtain ⟨p0, p1, p2', p3, pf, Z9, hZ9, hZr, gz⟩ := box_put vn (.int .u8 ZK) (.string (Ln.bs d.name)) (.int .i64 yn) (.slice ya yl yc)
        have HZ9 : Hid (Below w4.heap.size w4 Z9 ∧ Below wx.heap.size wx Z9 ∧ Z9.heap[b6]? = some (.cells #[.int .u8 ZK, .string (Ln.bs d.name), .int .i64 yn, .slice ya yl yc] 25 (0, 0)) ∧ w4.heap.size ≤ b6) := by
          obtain ⟨v1, v2, v3⟩ := HV.out
          exact ⟨⟨gz.os.trans v1.os, gz.tape.trans v1.tape, gz.output.trans v1.output, Nat.le_trans v1.size gz.size, fun k hk => (gz.block k (Nat.lt_of_lt_of_le hk v1.size) (by simp; omega)).trans (v1.block k hk)⟩, ⟨gz.os.trans v2.os, gz.tape.trans v2.tape, gz.output.trans v2.output, Nat.le_trans v2.size gz.size, fun k hk => (gz.block k (Nat.lt_of_lt_of_le hk v2.size) (by simp; omega)).trans (v2.block k hk)⟩, hZr, by have := HWX.out.size; omega⟩
        clear vn gz hZr
        clear hle hle4
        refine hK12 _ _ HV.out.1 ?_
        clear hK12
        refine anyC_more 10 3 2 5 rfl (by kernel_rfl) rfl (by decide) (by kernel_rfl) (fun _ _ d _ _ h => by cases d <;> exact h) HV.out.1 ?_
        simp only [List.drop_succ_cons, List.drop_zero, List.take_succ_cons, List.take_zero]
        iterate 3 (first
          | (apply lexC_want
             · rfl
             · exact fun _ => rfl
             · (intro w' hw'; obtain ⟨f0, f1, f2, f3, f4, f5⟩ := HCF.out w' hw'; go_simp; try rfl)
             simp only [Act.put, List.setIfInBounds_toArray, List.set_cons_zero, List.set_cons_succ])
          | (apply lexC_skip
             · rfl
             · exact fun _ => rfl
             simp only [Act.put, List.setIfInBounds_toArray, List.set_cons_zero, List.set_cons_succ]))
        refine lexC_nil ?_
        refine anyC_one (i := 14) (by kernel_rfl) rfl (by rfl) (fun K13 hK13 => ?_)
        go_simp
        rw [← hZ9]
        refine hK13 _ _ HZ9.out.1 ?_
        clear hK13
        clear p0 p1 p2' p3 pf hZ9
        refine anyC_one (i := 15) (by kernel_rfl) rfl (by rfl) (fun K14 hK14 => ?_)
        go_simp
        refine hK14 _ _ HZ9.out.1 ?_
        clear hK14
        refine anyC_done (by kernel_rfl) ?_
        exact ⟨b6, yn, ya, yl, yc, HZ9.out.1, HZ9.out.2.1, HZ9.out.2.2.2, HZ9.out.2.2.1, rfl⟩
    rintro a' Z2 ⟨b9, yn2, ya2, yl2, yc2, hz4, hzr, hb9, hzb, rfl⟩
    have HZ2 : Hid (Below w4.heap.size w4 Z2 ∧ Below wx.heap.size wx Z2) := ⟨hz4, hzr⟩
    obtain ⟨a1, a2, a3⟩ := HGB.out Z2 hz4
    have a4 := HGU.out Z2 hz4
    have hzb6 := (hzr.block b6 (Array.getElem?_eq_some_iff.1 HWB.out).1).trans HWB.out
    have k0 : Z2.cell? ⟨b6, 0, none⟩ = some (.int .u8 YK) := cells_at hzb6 rfl
    have m0 : Z2.cell? ⟨b9, 0, none⟩ = some (.int .u8 ZK) := cells_at hzb rfl
    have m1 : Z2.cell? ⟨b9, 1, none⟩ = some (.string (Ln.bs d.name)) := cells_at hzb rfl
    clear hz4 hzr hb9 hzb hzb6 HD1 HGET2 HCF
    have HCF : Hid (∀ z, Below Z2.heap.size Z2 z → z.cell? ⟨b6, 0, none⟩ = some (.int .u8 YK) ∧ z.cell? ⟨b9, 0, none⟩ = some (.int .u8 ZK) ∧ z.cell? ⟨b9, 1, none⟩ = some (.string (Ln.bs d.name)) ∧ z.cell? ⟨gb, q * 3 + 1, none⟩ = some (.string (Ln.bs d.name))) := fun z hz => by
      exact ⟨(hz.cell (p := ⟨b6, 0, none⟩) (World.block_lt_of_cell? _ _ k0)).trans k0, (hz.cell (p := ⟨b9, 0, none⟩) (World.block_lt_of_cell? _ _ m0)).trans m0, (hz.cell (p := ⟨b9, 1, none⟩) (World.block_lt_of_cell? _ _ m1)).trans m1, (HGB.out z (below_then HZ2.out.1 hz)).2.1⟩
    have HDZ : Hid (Below Z2.heap.size Z2 Z2.drew) := below_draw Z2 1
    clear a1 a2 a3 a4 k0 m0 m1
    go_simp
    gi_wp2
    refine region_lex (fun z => Below Z2.heap.size Z2 z) 31 0 rfl (by kernel_rfl) (by kernel_rfl) (by kernel_rfl) (by kernel_rfl) (fun _ _ d _ _ h => by cases d <;> exact h) HDZ.out ?_
    simp only [List.take_succ_cons, List.take_zero]
    iterate 31 (first
      | (apply lexC_want
         · rfl
         · exact fun _ => rfl
         · (intro w' hw'; obtain ⟨f0, f1, f2, f3⟩ := HCF.out w' hw'; go_simp; try rfl)
         simp only [Act.put, List.setIfInBounds_toArray, List.set_cons_zero, List.set_cons_succ])
      | (apply lexC_skip
         · rfl
         · exact fun _ => rfl
         simp only [Act.put, List.setIfInBounds_toArray, List.set_cons_zero, List.set_cons_succ]))
    refine lexC_nil ?_
    refine anyC_done (by kernel_rfl) ?_
    clear HCF
    gi_wp2
    have HZD : Hid (Below w4.heap.size w4 Z2.drew ∧ Below wx.heap.size wx Z2.drew) := ⟨below_then HZ2.out.1 (below_draw Z2 1), below_then HZ2.out.2 (below_draw Z2 1)⟩
    obtain ⟨V2, hV2⟩ : ∃ v, v = Z2.drew := ⟨_, rfl⟩
    rw [← hV2] at HZD ⊢
    clear hV2
    gi_loopw [11] (fun jj wy => ∃ j : Nat, j ≤ N2 ∧ jj = .int .i64 j ∧ Below V2.heap.size V2 wy) (fun jj _ => N2 - (intOf jj).toNat)
    case atStart => exact ⟨0, Nat.zero_le _, rfl, Below.refl _ _⟩
    rename World => wy
    obtain ⟨j, hj, rfl, hwy⟩ := hrel
    have HWY : Hid (Below w4.heap.size w4 wy ∧ Below wx.heap.size wx wy ∧ Below V2.heap.size V2 wy) := ⟨below_then HZD.out.1 hwy, below_then HZD.out.2 hwy, hwy⟩
    clear hwy
    by_cases hlt3 : j < N2
    case pos =>
      obtain ⟨uj, huj⟩ : ∃ x, U2[j]? = some x := ⟨U2[j]'(by rw [← HN2.out]; exact hlt3), List.getElem?_eq_getElem _⟩
      obtain ⟨gr, hgra, hgrl, hgrc⟩ := row_cells HAL2.out.1 (by have := HN2.out; omega)
      subst hgra
      obtain ⟨vj, hvj⟩ : ∃ v, rows2[j]? = some v := ⟨rows2[j]'(by rw [HAL2.out.1.1, ← HN2.out]; omega), List.getElem?_eq_getElem _⟩
      have hij := HAL2.out.2 j vj uj hvj huj
      have hu40 : ∀ x ∈ U2, x.length ≤ 9223372036854775807 := fun x hx => by
        rw [HU2.out, List.mem_append] at hx
        rcases hx with hx | hx
        · obtain ⟨d2, hd2, hx2⟩ := List.mem_flatMap.1 hx
          obtain ⟨q2, hq2⟩ := List.getElem?_of_mem (List.mem_of_mem_take hd2)
          obtain ⟨_, _, _, _, _, h9⟩ := HPL.out.1 q2 d2 hq2
          have := (h9 x hx2).1; omega
        · have := (HY.out.2.2.2.2 x (List.mem_of_mem_take hx)).1; omega
      have HNE : Hid (decide (uj = u) = false) := decide_eq_false (fun e => HUU.out.2.2 (e ▸ List.mem_of_getElem? huj))
      have HYD : Hid (Below w4.heap.size w4 wy.drew ∧ Below wx.heap.size wx wy.drew) := ⟨below_then HWY.out.1 (below_draw wy 1), below_then HWY.out.2.1 (below_draw wy 1)⟩
      have HSI : Hid (_) := sameInts_any wy.drew vj (.slice ta u.length tc) uj u (hij.at HYD.out.1) ((IntsAt.of HOU.out).at HYD.out.1) (hu40 uj (List.mem_of_getElem? huj)) (by have := HUU.out.2.1; omega)
      rw [HNE.out, ← HTL.out] at HSI
      have hvs : ∃ x y z, vj = .slice x y z := by obtain ⟨x, c, _, _, e, -⟩ := hij; exact ⟨_, _, _, e⟩
      obtain ⟨ja, jl, jc, rfl⟩ := hvs
      have HCF : Hid (∀ z, (Below w4.heap.size w4 z ∧ Below wx.heap.size wx z) → z.cell? ⟨gb, q * 3 + 2, none⟩ = some (.slice (some ⟨gu, 0, none⟩) UU uc) ∧ z.cell? ⟨gu, p2, none⟩ = some (.slice ta TL tc) ∧ z.cell? ⟨gr, j, none⟩ = some (.slice ja jl jc)) := fun z hz => ⟨(HGB.out z hz.1).2.2, HGU.out z hz.1, (hz.2.cell (p := ⟨gr, j, none⟩) hgrl).trans (hgrc _ _ hvj)⟩
      clear huj hgrl hgrc hvj hij hu40
      gi_wp2
      refine region_lex (fun z => Below w4.heap.size w4 z ∧ Below wx.heap.size wx z) 12 1 rfl (by kernel_rfl) (by kernel_rfl) (by kernel_rfl) (by kernel_rfl) (fun _ _ d _ _ h => by cases d <;> exact h) HYD.out ?_
      simp only [List.take_succ_cons, List.take_zero]
      iterate 12 (first
        | (apply lexC_want
           · rfl
           · exact fun _ => rfl
           · (intro w' hw'; obtain ⟨f0, f1, f2⟩ := HCF.out w' hw'; go_simp; try rfl)
           simp only [Act.put, List.setIfInBounds_toArray, List.set_cons_zero, List.set_cons_succ])
        | (apply lexC_skip
           · rfl
           · exact fun _ => rfl
           simp only [Act.put, List.setIfInBounds_toArray, List.set_cons_zero, List.set_cons_succ]))
      refine lexC_nil ?_
      refine anyC_one (i := 12) (by kernel_rfl) rfl (by rfl) (fun K15 hK15 => ?_)
      go_simp
      refine ⟨trivial, ?_⟩
      refine (callsIn_wide.2 HSI.out).mono ?_
      rintro e w8 ⟨rfl, dk, hw8⟩
      have HW8 : Hid (Below w4.heap.size w4 w8 ∧ Below wx.heap.size wx w8 ∧ Below V2.heap.size V2 w8) := by
        have hb : Below wy.drew.heap.size wy.drew w8 := hw8 ▸ below_draw wy.drew dk
        exact ⟨below_then HYD.out.1 hb, below_then HYD.out.2 hb, below_then (below_then HWY.out.2.2 (below_draw wy 1)) hb⟩
      clear hw8 HSI
      refine hK15 _ _ ⟨HW8.out.1, HW8.out.2.1⟩ ?_
      clear hK15
      refine anyC_done (by kernel_rfl) ?_
      gi_wp2
      refine ⟨⟨j + 1, by omega, by simp, HW8.out.2.2⟩, by simp [intOf]; omega⟩
    obtain ⟨c1, c2, c3⟩ := HGB.out wy HWY.out.1
    have c4 := HGU.out wy HWY.out.1
    obtain ⟨i0, hi, hz0, hz1, hz2⟩ := info_parts info_ints
    have hown := owns_at HAL2.out.1 HWY.out.2.1 (Nat.le_refl _)
    rw [← HN2.out] at hown
    have hnl : N2 + 1 ≤ 1000 := by
      have h1 := Bn.flat_len HDD.out
      have h2 := HPL.out.2.2.1
      have h3 := Bn.usesN_le t
      have h4 := HSM.out.1
      have h5 := HN2.out
      have h6 := HU2.out
      rw [h6, List.length_append, List.length_take] at h5
      have h7 := HPU.out.2
      omega
    have hbase : w4.heap.size ≤ wy.heap.size := HWY.out.1.size
    clear hj
    obtain ⟨v', w9, hrun, hown', hgrow, -⟩ := run_append_own (P := Tryz.prog) (wy.alloc (.cells #[.slice ta TL tc] 44)) w4.heap.size 41 41 44 i0 (.slice none 0 0) 1 24 Tryz.underlying41 hi hz0 hz1 hz2 rfl (by decide) (.slice ra2 N2 rc2) _ _ (hown.alloc _) ⟨wy.heap.size, 0, none⟩ 1 1 [.slice ta TL tc] rfl (cell_one_new wy _ _) (by simp [Value.oneCell']) (by unfold maxLen; omega) (by omega) (by simp; omega)
    have HFIN : Hid (Below w4.heap.size w4 w9 ∧ w9.heap[b6]? = some (.cells #[.int .u8 YK, .string (Ln.bs d.name), .int .i64 yn, .slice ya yl yc] 25 (0, 0)) ∧ AllAt w4.heap.size w4 w9 v' ((l.take q).flatMap (·.uses) ++ d.uses.take (p2 + 1))) := by
      have h6 := (HWY.out.2.1.block b6 (Array.getElem?_eq_some_iff.1 HWB.out).1).trans HWB.out
      have hal := below_new wy (.cells #[.slice ta TL tc] 44)
      have h7 := (hal.block b6 (Array.getElem?_eq_some_iff.1 h6).1).trans h6
      refine ⟨(HWY.out.1.alloc HWY.out.1.size _).grown hgrow (by simp; omega) (fun g hg => (hown.lt g hg).1), heap_grown (hown.alloc _) hgrow h7 (by decide), ?_⟩
      have e : (l.take q).flatMap (·.uses) ++ d.uses.take (p2 + 1) = U2 ++ [u] := by rw [Bn.take_next HUU.out.1, HU2.out, List.append_assoc]
      rw [e]
      refine ⟨_, by rw [List.length_append, List.length_singleton, ← HN2.out]; exact hown', fun j r x hr hx => ?_⟩
      by_cases hjn : j < U2.length
      · rw [List.getElem?_append_left (by rw [HAL2.out.1.1]; omega)] at hr
        rw [List.getElem?_append_left hjn] at hx
        exact HAL2.out.2 j r x hr hx
      · have hl := (List.getElem?_eq_some_iff.1 hx).1
        rw [List.length_append, List.length_singleton] at hl
        have hje : j = U2.length := by omega
        subst hje
        rw [List.getElem?_append_right (Nat.le_refl _), Nat.sub_self] at hx
        rw [List.getElem?_append_right (by rw [HAL2.out.1.1]; omega), HAL2.out.1.1, Nat.mul_one, Nat.sub_self] at hr
        injection hr with hr
        injection hx with hx
        subst hr hx
        rw [HTL.out]
        exact IntsAt.of HOU.out
    clear hown hown' hgrow hi hz0 hz1 hz2 hbase hnl
    gi_wp2_with (gi_at_builtin; refine list_append rfl _ _ 41 rfl _ _ _ _ rfl rfl hrun ?_)
    refine ⟨⟨p2 + 1, by omega, by simp, HFIN.out.1, HFIN.out.2.1, HFIN.out.2.2⟩, by simp [intOf]; omega⟩
end Go.Proofs.YtnndgjnihhafbaaGreatDoor

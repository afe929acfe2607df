/-
  The walks of Fresh, and of the document's.
-/
import Derived.Test.YtnndgjnihhafbaaGreatDoorBnSmall
import Derived.Test.YtnndgjnihhafbaaGreatDoorTrRefNames
namespace Go.Proofs.YtnndgjnihhafbaaGreatDoor
open Go.RowKit Go.Shelf

attribute [local go_sem] Oper.semAt_some

/-- Is it a name that nothing bears? -/
def Bn.fresh (t : Tr) (q : List UInt8) : Bool := Lx.isName q && !has (Nm.uniq (Tr.namesL [t])) q
theorem row_new {S : Nat → Prop} {X : World} {k nn : Int} {tx : List UInt8} {ao : Option Addr} {N cap : Nat} {t : Tr} (hS : ∀ b, S b → b < X.heap.size) (hn : NodeR S X (.agg #[.int .u8 k, .string (Ln.bs tx), .int .i64 nn, .slice ao N cap]) t) : RowR (lowS (X.alloc (.cells #[.int .u8 k, .string (Ln.bs tx), .int .i64 nn, .slice ao N cap] 25)).heap.size) (X.alloc (.cells #[.int .u8 k, .string (Ln.bs tx), .int .i64 nn, .slice ao N cap] 25)) (.slice (some ⟨X.heap.size, 0, none⟩) 1 1) [t] := by
  obtain ⟨x, e1, e2, e3, e4⟩ := hn
  have hb := below_new X (.cells #[.int .u8 k, .string (Ln.bs tx), .int .i64 nn, .slice ao N cap] 25)
  rw [← e2]
  refine RowR.one (World.alloc_heap_new X _) ?_ (Nat.le_refl _) ?_ e3 ((e4.keep (fun b hb' => hb.block b (hS b hb')) (fun _ h => h)).mono (fun b hb' => Nat.lt_of_lt_of_le (hS b hb') hb.size))
  · have := congrArg (fun v => match v with | .agg c => c.toList | _ => []) e1
    simpa [N1.cells] using this
  · show X.heap.size < _
    rw [World.size_alloc]; omega

set_option maxRecDepth 100000 in
set_option maxHeartbeats 4000000 in
theorem fresh_any (S : Nat → Prop) (t : Tr) (val : Value) (q : List UInt8) (w : World) (hS : ∀ b, S b → b < w.heap.size) (hn : NodeR S w val t) (hbd : Tr.Bd [t]) (hq : q.length ≤ 1000000) (hl : (Nm.uniq (Tr.namesL [t])).length ≤ 1000000) :
    Calls Tryz.prog 19 #[val, .string (Ln.bs q)] w fun e w' => e = .returned (.bool (Bn.fresh t q)) ∧ Below w.heap.size w w' := by
  have hn0 := hn
  obtain ⟨⟨k, tx, nn, kv, kids⟩, rfl, ht, hf, hrow⟩ := hn
  obtain ⟨ao, cap, hkv⟩ := hrow.slice
  simp only at hkv
  subst hkv
  simp only [N1.cells] at hn0 ⊢
  obtain ⟨N, hN⟩ : ∃ N, N = kids.length := ⟨_, rfl⟩
  rw [← hN] at hn0 ⊢
  obtain ⟨X, hX⟩ : ∃ X, X = w.alloc (.cells #[.int .u8 k, .string (Ln.bs tx), .int .i64 nn, .slice ao N cap] 25) := ⟨_, rfl⟩
  have sX : X.heap.size = w.heap.size + 1 := by rw [hX, World.size_alloc]
  have bX : Below w.heap.size w X := hX ▸ below_new w _
  have n0 : X.heap[w.heap.size]? = some (.cells #[.int .u8 k, .string (Ln.bs tx), .int .i64 nn, .slice ao N cap] 25 (0, 0)) := by rw [hX]; exact World.alloc_heap_new w _
  have hnX : NodeR S X (.agg #[.int .u8 k, .string (Ln.bs tx), .int .i64 nn, .slice ao N cap]) t := by
    obtain ⟨x, e1, e2, e3, e4⟩ := hn0
    exact ⟨x, e1, e2, e3, e4.keep (fun b hb => bX.block b (hS b hb)) (fun _ hb => hb)⟩
  have c0 : X.cell? ⟨w.heap.size, 0, none⟩ = some (.int .u8 k) := cells_at n0 rfl
  have c1 : X.cell? ⟨w.heap.size, 1, none⟩ = some (.string (Ln.bs tx)) := cells_at n0 rfl
  have c2 : X.cell? ⟨w.heap.size, 2, none⟩ = some (.int .i64 nn) := cells_at n0 rfl
  have c3 : X.cell? ⟨w.heap.size, 3, none⟩ = some (.slice ao N cap) := cells_at n0 rfl
  have HN : Hid (_) := name_any (Ln.bs q) (by rw [Ln.bs_size]; unfold maxLen; omega) X
  have HX : Hid (Below w.heap.size w X ∧ X.heap.size = w.heap.size + 1 ∧ X.heap[w.heap.size]? = some (.cells #[.int .u8 k, .string (Ln.bs tx), .int .i64 nn, .slice ao N cap] 25 (0, 0)) ∧ NodeR S X (.agg #[.int .u8 k, .string (Ln.bs tx), .int .i64 nn, .slice ao N cap]) t ∧ ∀ b, S b → b < w.heap.size) := ⟨bX, sX, n0, hnX, hS⟩
  clear hn0 ht hf hrow hN sX bX n0 hnX hS c0 c1 c2 c3
  go_enter Tryz.func19, Tryz.ntmps19
  go_wp2_with fail
  rw [← hX]
  clear hX
  refine Calls.mono HN.out ?_
  rintro e w1 ⟨rfl, hb1⟩
  have hqq : (Ln.bs q).data.toList = q := Ln.bs_toList q
  rw [hqq]
  obtain ⟨nb, hnb⟩ : ∃ b, b = Lx.isName q := ⟨_, rfl⟩
  have HNB : Hid (nb = Lx.isName q) := hnb
  rw [← hnb]
  clear hnb HN
  have hn1 := (hb1.block _ (by rw [HX.out.2.1]; omega)).trans HX.out.2.2.1
  have hnd : NodeR S w1 (.agg #[.int .u8 k, .string (Ln.bs tx), .int .i64 nn, .slice ao N cap]) t := by
    obtain ⟨x, e1, e2, e3, e4⟩ := HX.out.2.2.2.1
    exact ⟨x, e1, e2, e3, e4.keep (fun b hb => hb1.block b (by have := HX.out.2.2.2.2 b hb; have := HX.out.2.1; omega)) (fun _ hb => hb)⟩
  have HB1 : Hid (Below w.heap.size w w1) := below_then HX.out.1 hb1
  have hs1 : w.heap.size < w1.heap.size := by have := hb1.size; have := HX.out.2.1; omega
  have hSw : ∀ b, S b → b < w1.heap.size := fun b hb => by have := HX.out.2.2.2.2 b hb; omega
  cases nb
  · have HE : Hid (Bn.fresh t q = false) := by show _ = _; unfold Bn.fresh; rw [← HNB.out]; rfl
    clear hn1 hnd hb1 hs1 hSw
    go_wp2
    go_ret
    exact ⟨ret_bool HE.out.symm, HB1.out⟩
  · obtain ⟨Y, hY⟩ : ∃ Y, Y = w1.alloc (.cells #[.int .u8 k, .string (Ln.bs tx), .int .i64 nn, .slice ao N cap] 25) := ⟨_, rfl⟩
    have hrow := row_new hSw hnd
    have bY : Below w1.heap.size w1 Y := hY ▸ below_new w1 _
    have HNM : Hid (_) := names_any [t] _ _ hrow hbd
    rw [← hY] at HNM
    have HBY : Hid (Below w.heap.size w Y) := below_then HB1.out bY
    have c0 : w1.cell? ⟨w.heap.size, 0, none⟩ = some (.int .u8 k) := cells_at hn1 rfl
    have c1 : w1.cell? ⟨w.heap.size, 1, none⟩ = some (.string (Ln.bs tx)) := cells_at hn1 rfl
    have c2 : w1.cell? ⟨w.heap.size, 2, none⟩ = some (.int .i64 nn) := cells_at hn1 rfl
    have c3 : w1.cell? ⟨w.heap.size, 3, none⟩ = some (.slice ao N cap) := cells_at hn1 rfl
    clear hn1 hnd hb1 hs1 hSw hrow bY
    go_wp2_with fail
    rw [← hY]
    clear hY c0 c1 c2 c3
    refine Calls.mono HNM.out ?_
    rintro e w2 ⟨r, rfl, hown, hb2⟩
    have hrl := RowLow.of_owns hown
    have HCO : Hid (_) := contains_any (Nm.uniq (Tr.namesL [t])) r _ (Ln.bs q) w2 hrl hl
    obtain ⟨ra, rc, rfl⟩ := slice_shape hown
    have HB2 : Hid (Below w.heap.size w w2) := below_then HBY.out hb2
    clear hown hb2 hrl HNM
    go_wp2_with fail
    refine Calls.mono HCO.out ?_
    rintro e w3 ⟨rfl, rfl⟩
    have hqq : (Ln.bs q).data.toList = q := Ln.bs_toList q
    rw [hqq]
    have HE : Hid (Bn.fresh t q = !has (Nm.uniq (Tr.namesL [t])) q) := by show _ = _; unfold Bn.fresh; rw [← HNB.out]; rfl
    clear HCO hl
    go_wp2
    go_ret
    exact ⟨ret_bool HE.out.symm, HB2.out⟩

set_option maxRecDepth 100000 in
set_option maxHeartbeats 4000000 in
theorem rfresh_any (S : Nat → Prop) (t : Tr) (val : Value) (q : List UInt8) (w : World) (hS : ∀ b, S b → b < w.heap.size) (hn : NodeR S w val t) (hbd : Tr.Bd [t]) (hq : q.length ≤ 1000000) (hl : (Nm.uniq (Tr.namesL [t])).length ≤ 1000000) :
    Calls Tryz.prog 20 #[val, .string (Ln.bs q)] w fun e w' => e = .returned (.bool (Bn.fresh t q)) ∧ Below w.heap.size w w' := by
  have hn0 := hn
  obtain ⟨⟨k, tx, nn, kv, kids⟩, rfl, ht, hf, hrow⟩ := hn
  obtain ⟨ao, cap, hkv⟩ := hrow.slice
  simp only at hkv
  subst hkv
  simp only [N1.cells] at hn0 ⊢
  obtain ⟨N, hN⟩ : ∃ N, N = kids.length := ⟨_, rfl⟩
  rw [← hN] at hn0 ⊢
  obtain ⟨X, hX⟩ : ∃ X, X = w.alloc (.cells #[.int .u8 k, .string (Ln.bs tx), .int .i64 nn, .slice ao N cap] 25) := ⟨_, rfl⟩
  have sX : X.heap.size = w.heap.size + 1 := by rw [hX, World.size_alloc]
  have bX : Below w.heap.size w X := hX ▸ below_new w _
  have n0 : X.heap[w.heap.size]? = some (.cells #[.int .u8 k, .string (Ln.bs tx), .int .i64 nn, .slice ao N cap] 25 (0, 0)) := by rw [hX]; exact World.alloc_heap_new w _
  have hnX : NodeR S X (.agg #[.int .u8 k, .string (Ln.bs tx), .int .i64 nn, .slice ao N cap]) t := by
    obtain ⟨x, e1, e2, e3, e4⟩ := hn0
    exact ⟨x, e1, e2, e3, e4.keep (fun b hb => bX.block b (hS b hb)) (fun _ hb => hb)⟩
  have c0 : X.cell? ⟨w.heap.size, 0, none⟩ = some (.int .u8 k) := cells_at n0 rfl
  have c1 : X.cell? ⟨w.heap.size, 1, none⟩ = some (.string (Ln.bs tx)) := cells_at n0 rfl
  have c2 : X.cell? ⟨w.heap.size, 2, none⟩ = some (.int .i64 nn) := cells_at n0 rfl
  have c3 : X.cell? ⟨w.heap.size, 3, none⟩ = some (.slice ao N cap) := cells_at n0 rfl
  have HN : Hid (_) := rname_any (Ln.bs q) (by rw [Ln.bs_size]; unfold maxLen; omega) X
  have HX : Hid (Below w.heap.size w X ∧ X.heap.size = w.heap.size + 1 ∧ X.heap[w.heap.size]? = some (.cells #[.int .u8 k, .string (Ln.bs tx), .int .i64 nn, .slice ao N cap] 25 (0, 0)) ∧ NodeR S X (.agg #[.int .u8 k, .string (Ln.bs tx), .int .i64 nn, .slice ao N cap]) t ∧ ∀ b, S b → b < w.heap.size) := ⟨bX, sX, n0, hnX, hS⟩
  clear hn0 ht hf hrow hN sX bX n0 hnX hS c0 c1 c2 c3
  go_enter Tryz.func20, Tryz.ntmps20
  go_wp2_with fail
  rw [← hX]
  clear hX
  refine Calls.mono HN.out ?_
  rintro e w1 ⟨rfl, hb1⟩
  have hqq : (Ln.bs q).data.toList = q := Ln.bs_toList q
  rw [hqq]
  obtain ⟨nb, hnb⟩ : ∃ b, b = Lx.isName q := ⟨_, rfl⟩
  have HNB : Hid (nb = Lx.isName q) := hnb
  rw [← hnb]
  clear hnb HN
  have hn1 := (hb1.block _ (by rw [HX.out.2.1]; omega)).trans HX.out.2.2.1
  have hnd : NodeR S w1 (.agg #[.int .u8 k, .string (Ln.bs tx), .int .i64 nn, .slice ao N cap]) t := by
    obtain ⟨x, e1, e2, e3, e4⟩ := HX.out.2.2.2.1
    exact ⟨x, e1, e2, e3, e4.keep (fun b hb => hb1.block b (by have := HX.out.2.2.2.2 b hb; have := HX.out.2.1; omega)) (fun _ hb => hb)⟩
  have HB1 : Hid (Below w.heap.size w w1) := below_then HX.out.1 hb1
  have hs1 : w.heap.size < w1.heap.size := by have := hb1.size; have := HX.out.2.1; omega
  have hSw : ∀ b, S b → b < w1.heap.size := fun b hb => by have := HX.out.2.2.2.2 b hb; omega
  cases nb
  · have HE : Hid (Bn.fresh t q = false) := by show _ = _; unfold Bn.fresh; rw [← HNB.out]; rfl
    clear hn1 hnd hb1 hs1 hSw
    go_wp2
    go_ret
    exact ⟨ret_bool HE.out.symm, HB1.out⟩
  · obtain ⟨Y, hY⟩ : ∃ Y, Y = w1.alloc (.cells #[.int .u8 k, .string (Ln.bs tx), .int .i64 nn, .slice ao N cap] 25) := ⟨_, rfl⟩
    have hrow := row_new hSw hnd
    have bY : Below w1.heap.size w1 Y := hY ▸ below_new w1 _
    have HNM : Hid (_) := rNames_any _ _ [t] _ (fun b hb => hb) hrow (by have := hbd.1; omega)
    rw [← hY] at HNM
    have HBY : Hid (Below w.heap.size w Y) := below_then HB1.out bY
    have c0 : w1.cell? ⟨w.heap.size, 0, none⟩ = some (.int .u8 k) := cells_at hn1 rfl
    have c1 : w1.cell? ⟨w.heap.size, 1, none⟩ = some (.string (Ln.bs tx)) := cells_at hn1 rfl
    have c2 : w1.cell? ⟨w.heap.size, 2, none⟩ = some (.int .i64 nn) := cells_at hn1 rfl
    have c3 : w1.cell? ⟨w.heap.size, 3, none⟩ = some (.slice ao N cap) := cells_at hn1 rfl
    clear hn1 hnd hb1 hs1 hSw hrow bY
    go_wp2_with fail
    rw [← hY]
    clear hY c0 c1 c2 c3
    refine Calls.mono HNM.out ?_
    rintro e w2 ⟨r, rfl, hown, hb2⟩
    have hrl := RowLow.of_owns hown
    obtain ⟨L, hL⟩ : ∃ L, L = Nm.uniq (Tr.namesL [t]) := ⟨_, rfl⟩
    rw [← hL] at hl hrl hown
    have HE : Hid (Bn.fresh t q = !has L q) := by show _ = _; unfold Bn.fresh; rw [← HNB.out, hL]; rfl
    obtain ⟨ra, rc, rb, ro, rfl, -, hro, hrc⟩ := hrl.parts
    have HB2 : Hid (Below w.heap.size w w2) := below_then HBY.out hb2
    clear hown hb2 hrl HNM hL
    go_wp2_with fail
    go_loopw [6] (fun i wr => ∃ j : Nat, j ≤ L.length ∧ i = .int .i64 j ∧ wr = w2 ∧ has L q = has (L.drop j) q) (fun i _ => L.length - (intOf i).toNat)
    case atStart => exact ⟨0, Nat.zero_le _, rfl, rfl, rfl⟩
    case round =>
      obtain ⟨j, hj, rfl, rfl, hjh⟩ := hrel
      have HJ : Hid (has L q = has (L.drop j) q) := hjh
      clear hjh
      by_cases hlt : j < L.length
      · obtain ⟨x, hx⟩ : ∃ x, L[j]? = some x := ⟨L[j], List.getElem?_eq_getElem hlt⟩
        obtain ⟨rfl, -⟩ := hro (by omega)
        have g1 := hrc j x hx
        have hdr : L.drop j = x :: L.drop (j + 1) := by rw [List.drop_eq_getElem_cons hlt, (List.getElem?_eq_some_iff.1 hx).2]
        have HD : Hid (L.drop j = x :: L.drop (j + 1)) := hdr
        clear hx hrc hro hdr
        by_cases hxq : x = q
        · have hbq : ((Ln.bs x).toList == (Ln.bs q).toList) = true := by rw [bs_beq]; exact decide_eq_true hxq
          have HR : Hid (Bn.fresh t q = false) := by
            show _ = _
            rw [HE.out, HJ.out, HD.out, hxq]
            simp [has]
          clear hxq
          go_wp2
          go_ret
          exact ⟨ret_bool HR.out.symm, HB2.out⟩
        · have hbq : ((Ln.bs x).toList == (Ln.bs q).toList) = false := by rw [bs_beq]; exact decide_eq_false hxq
          have HR : Hid (has L q = has (L.drop (j + 1)) q) := by
            show _ = _
            rw [HJ.out, HD.out]
            rw [show has (x :: L.drop (j + 1)) q = ((q == x) || has (L.drop (j + 1)) q) from List.contains_cons, beq_eq_false_iff_ne.2 (fun e => hxq e.symm), Bool.false_or]
          clear hxq
          go_wp2
          go_roundw
          case rel => exact ⟨j + 1, by omega, by go_num, (by first | rfl | trivial), HR.out⟩
          case measure => simp [intOf]; omega
      · have hjl : j = L.length := by omega
        have HR : Hid (Bn.fresh t q = true) := by
          show _ = _
          rw [HE.out, HJ.out, hjl, List.drop_length]; rfl
        clear hrc hro hjl
        go_wp2
        go_ret
        exact ⟨ret_bool HR.out.symm, HB2.out⟩
end Go.Proofs.YtnndgjnihhafbaaGreatDoor

/-
  The walk of the law LexAgain.
-/
import Derived.Test.YtkiafelpgcmifabDoorLxTellsLaw
namespace Go.Proofs.YtkiafelpgcmifabDoor
open Go.RowKit Go.Shelf

attribute [local go_sem] Oper.semAt_some

namespace Lx
/-- Where the tokens so far end. -/
def endAt (ts : List Tok) : Nat → Nat
  | 0 => 0
  | i + 1 => (ts[i]?.map fun t => t.at_ + t.text.length).getD 0
theorem endAt_succ {ts : List Tok} {i : Nat} {t : Tok} (ht : ts[i]? = some t) : endAt ts (i + 1) = t.at_ + t.text.length := by
  show (ts[i]?.map fun t => t.at_ + t.text.length).getD 0 = _
  rw [ht]; rfl
theorem endAt_none {ts : List Tok} {i : Nat} (ht : ts[i]? = none) : endAt ts (i + 1) = 0 := by
  show (ts[i]?.map fun t => t.at_ + t.text.length).getD 0 = _
  rw [ht]; rfl
theorem endAt_le {s : List UInt8} {ts : List Tok} (h : Told s ts) (i : Nat) (t : Tok) (ht : ts[i]? = some t) : endAt ts i ≤ t.at_ := by
  cases i with
  | zero => exact Nat.zero_le _
  | succ i =>
    obtain ⟨hi, he⟩ := List.getElem?_eq_some_iff.1 ht
    have h1 : ts[i]? = some (ts[i]'(by omega)) := List.getElem?_eq_getElem _
    have := h.rise i hi
    rw [endAt_succ h1, ← he]; exact this
theorem spaced_len {s : List UInt8} {ts : List Tok} (h : Told s ts) : ∀ i, i ≤ ts.length → (spaced (ts.take i)).length ≤ endAt ts i + i
  | 0, _ => by simp [spaced]
  | i + 1, hi => by
    have ih := spaced_len h i (by omega)
    have ht : ts[i]? = some (ts[i]'(by omega)) := List.getElem?_eq_getElem _
    have h1 := endAt_le h i _ ht
    have e : ts.take (i + 1) = ts.take i ++ [ts[i]'(by omega)] := List.take_succ_eq_append_getElem (by omega)
    rw [e, spaced_snoc, List.length_append, List.length_cons]
    rw [endAt_succ ht]
    omega
theorem endAt_size {s : List UInt8} {ts : List Tok} (h : Told s ts) (i : Nat) : endAt ts i ≤ s.length := by
  cases i with
  | zero => exact Nat.zero_le _
  | succ i =>
    cases ht : ts[i]? with
    | none => rw [endAt_none ht]; exact Nat.zero_le _
    | some t => rw [endAt_succ ht]; exact (h.there t (List.mem_of_getElem? ht)).1
end Lx

theorem app_data (a b : ByteArray) : (a ++ b).data.toList = a.data.toList ++ b.data.toList := by
  rw [ByteArray.data_append, Array.toList_append]
theorem part_same {s : ByteArray} {t : Lx.Tok} (h : (s.data.toList.drop t.at_).take t.text.length = t.text) : s.extract t.at_ (t.at_ + t.text.length) = Ln.bs t.text := by
  apply ByteArray.ext
  apply Array.ext'
  rw [extract_part, h]; rfl

set_option maxRecDepth 100000 in
set_option maxHeartbeats 4000000 in
theorem again_law (s : ByteArray) (hs : s.size ≤ maxLen) (w : World) (hsg : SignsAt w.heap.size w) :
    Calls Tryd.prog 3 #[.string s] w fun r w' => r = .returned (.bool true) ∧ Below w.heap.size w w' := by
  have HSG : Hid (SignsAt w.heap.size w) := hsg
  have hs1 : s.size ≤ 9223372036854775807 := hs
  clear hsg
  by_cases h2 : s.size ≤ 2000
  · have AW : Hid (_) := awake_any w HSG.out
    go_enter Tryd.func3, Tryd.ntmps3
    go_wp2_with fail
    refine Calls.mono AW.out ?_
    rintro r w1 ⟨rfl, b1⟩
    have B1 : Hid (Below w.heap.size w w1) := b1
    clear b1 AW
    go_wp2_with fail
    refine (tokens_any s w1 (HSG.out.at B1.out) (by omega)).mono ?_
    rintro r w2 ⟨ht2, b2⟩
    have B2 : Hid (Below w.heap.size w w2) := below_then B1.out b2
    clear b2
    cases hres : Lx.lex s.data.toList with
    | fault e i =>
      rw [hres] at ht2
      have hr2 : r = _ := ht2
      subst hr2
      have hle := Lx.lex_fault hres
      have he : e ≠ 0 := by rcases hle.2 with rfl | rfl <;> decide
      have hi : i < s.size := hle.1
      have hz : ((e : Int) != 0) = true := by simpa using he
      clear hres hle ht2
      go_wp2
      go_ret
      exact ⟨rfl, below_then B2.out (below_nw w2 _)⟩
    | ok ts =>
      rw [hres] at ht2
      obtain ⟨v, hr2, ho, hln⟩ := ht2
      subst hr2
      have TD : Hid (Lx.Told s.data.toList ts) := Lx.lex_told hres
      have AG : Hid (_) := Lx.lex_again hres
      have tl := ToksLow.of_owns ho
      have TL : Hid (ToksLow w2.heap.size w2 v (ts ++ [⟨5, [], s.size⟩])) := tl
      obtain ⟨ao, cap, b, off, rfl, -, ha, hc⟩ := tl.parts
      obtain ⟨N, hN⟩ : ∃ N, N = ts.length := ⟨_, rfl⟩
      have hN1 : (ts ++ [(⟨5, [], s.size⟩ : Lx.Tok)]).length = N + 1 := by rw [hN]; simp
      obtain ⟨rfl, hb⟩ := ha (by rw [hN1]; omega)
      rw [hN1] at TL ⊢
      have HC : Hid (_) := hc
      have HN : Hid (N = ts.length) := hN
      have hNs : N ≤ 2000 := by omega
      have hlast : (ts ++ [(⟨5, [], s.size⟩ : Lx.Tok)])[N]? = some ⟨5, [], s.size⟩ := by rw [hN]; simp
      obtain ⟨k0, k1, k2⟩ := HC.out N _ hlast
      have k1' : w2.cell? ⟨b, off + N * 3 + 1, none⟩ = some (.string ⟨#[]⟩) := k1
      simp only at k0 k2
      clear hres tl ho hc hN hN1 k1 hlast ha hln
      go_wp2_with fail
      have bX : Below w2.heap.size w2 (w2.alloc (.cells #[.int .i64 0, .int .i64 0] 26)) := below_nw w2 _
      have HBX : Hid (_) := bX
      clear bX k0 k1' k2
      go_loopw [5, 6, 7] (fun A E I wr => ∃ (i : Nat) (a : ByteArray), i ≤ N ∧ I = .int .i64 i ∧ A = .string a ∧ a.data.toList = Lx.spaced (ts.take i) ∧ E = .int .i64 (Lx.endAt ts i : Nat) ∧ Below w2.heap.size w2 wr) (fun _ _ I _ => N - (intOf I).toNat)
      case atStart => exact ⟨0, ⟨#[]⟩, Nat.zero_le _, rfl, rfl, by simp [Lx.spaced], rfl, HBX.out⟩
      case round =>
        obtain ⟨i, a, hi, rfl, rfl, hsp, rfl, hB⟩ := hrel
        have HB : Hid (Below w2.heap.size w2 wr) := hB
        have HSP : Hid (a.data.toList = Lx.spaced (ts.take i)) := hsp
        have has : a.size ≤ 4000 := by
          have h1 := Lx.spaced_len TD.out i (by have := HN.out; omega)
          have h2 := Lx.endAt_size TD.out i
          have h3 : a.data.toList.length = a.size := rfl
          have h4 : s.data.toList.length = s.size := rfl
          rw [← hsp, h3] at h1
          omega
        clear hsp
        by_cases hlt : i < N
        · obtain ⟨t, ht⟩ : ∃ t, ts[i]? = some t := ⟨ts[i]'(by have := HN.out; omega), List.getElem?_eq_getElem _⟩
          have ht2 : (ts ++ [(⟨5, [], s.size⟩ : Lx.Tok)])[i]? = some t := by rw [List.getElem?_append_left (by have := HN.out; omega)]; exact ht
          obtain ⟨q0, q1, q2⟩ := HC.out i t ht2
          have c0 := (hB.cell (p := ⟨b, off + i * 3, none⟩) hb).trans q0
          have c1 := (hB.cell (p := ⟨b, off + i * 3 + 1, none⟩) hb).trans q1
          have c2 := (hB.cell (p := ⟨b, off + i * 3 + 2, none⟩) hb).trans q2
          have hmem := List.mem_of_getElem? ht
          have hth := TD.out.there t hmem
          have hfine := TD.out.fine t hmem
          have hrise := Lx.endAt_le TD.out i t ht
          have HND : Hid (Lx.endAt ts (i + 1) = t.at_ + t.text.length) := Lx.endAt_succ ht
          have HTK : Hid (Lx.spaced (ts.take (i + 1)) = Lx.spaced (ts.take i) ++ 32 :: t.text) := by
            show Lx.spaced (ts.take (i + 1)) = _
            have hil : i < ts.length := by have := HN.out; omega
            have e : ts[i]'hil = t := by rw [List.getElem?_eq_getElem hil] at ht; exact Option.some.inj ht
            rw [List.take_succ_eq_append_getElem hil, Lx.spaced_snoc, e]
          obtain ⟨kd, tx, p⟩ := t
          simp only at c0 c1 c2 hth hrise HND HTK
          obtain ⟨x, hx⟩ : ∃ x, x = Ln.bs tx := ⟨_, rfl⟩
          have hxl : tx.length = x.size := by rw [hx]; rfl
          have HXD : Hid (x.data.toList = tx) := by show x.data.toList = tx; rw [hx]; rfl
          have hex : s.extract p (p + tx.length) = x := by rw [hx]; exact part_same (t := ⟨kd, tx, p⟩) hth.2
          have hx0 : 0 < x.size := by rw [← hxl]; exact List.length_pos_iff.2 hfine.ne
          rw [← hx] at c1
          rw [hxl] at hex hth HND
          have h4 : s.data.toList.length = s.size := rfl
          rw [h4] at hth
          have hpx := hth.1
          obtain ⟨n1, n2, n3⟩ := str_some x hx0
          have heq : ((s.extract p (p + x.size)).toList == x.toList) = true := by rw [hex]; simp
          obtain ⟨E, hE⟩ : ∃ E, E = Lx.endAt ts i := ⟨_, rfl⟩
          rw [← hE] at hrise ⊢
          have g1 : decide ((p : Int) < (E : Int)) = false := by simp; omega
          have g2 : decide (p < E) = false := by simp; omega
          have heq2 : ((s.extract p ((p : Int) + (x.size : Int)).toNat).toList == x.toList) = true := by
            rw [show ((p : Int) + (x.size : Int)).toNat = p + x.size by omega]; exact heq
          have w1' : IntKind.i64.wrap ((s.size : Int) - (p : Int)) = (s.size : Int) - (p : Int) := by rw [IntKind.wrap_i64]; omega
          have w2' : IntKind.i64.wrap ((p : Int) + (x.size : Int)) = (p : Int) + (x.size : Int) := by rw [IntKind.wrap_i64]; omega
          have g3 : decide ((s.size : Int) - (p : Int) < (x.size : Int)) = false := by simp; omega
          have i1 : (p : Int) + (x.size : Int) ≤ (s.size : Int) := by omega
          have i2 : (p : Int) ≤ (p : Int) + (x.size : Int) := by omega
          have i3 : (p : Int) ≤ (s.size : Int) := by omega
          have i4 : p ≤ p + x.size := by omega
          clear hE ht ht2 q0 q1 q2 hmem hth hfine hx hxl hex h4 hB
          go_wp2
          obtain ⟨Z, hZ⟩ : ∃ Z, Z = wr.alloc (.cells #[.int .u8 kd, .string x, .int .i64 p] 31) := ⟨_, rfl⟩
          have zh : Z.heap[wr.heap.size]? = some (.cells #[.int .u8 kd, .string x, .int .i64 p] 31 (0, 0)) := by rw [hZ]; exact World.alloc_heap_new wr _
          have z1 : Z.cell? ⟨wr.heap.size, 1, none⟩ = some (.string x) := by rw [Lib.cell_of_heap zh]; rfl
          have z2 : Z.cell? ⟨wr.heap.size, 2, none⟩ = some (.int .i64 p) := by rw [Lib.cell_of_heap zh]; rfl
          have HBZ : Hid (Below w2.heap.size w2 Z) := by rw [hZ]; exact below_then HB.out (below_nw wr _)
          rw [← hZ]
          clear hZ zh c0 c1 c2
          go_quiet (fail)
          go_wp2
          go_roundw
          case rel =>
            refine ⟨i + 1, a ++ ⟨#[32]⟩ ++ x, by omega, by go_num, rfl, ?_, ?_, below_drewN HBZ.out _⟩
            · rw [app_data, app_data, HSP.out, HTK.out, HXD.out]; simp
            · rw [HND.out]; go_num
          case measure => simp [intOf]; omega
        · have hiN : i = N := by omega
          obtain ⟨us, hu1, hu2⟩ := AG.out
          have htk : ts.take i = ts := List.take_of_length_le (by have := HN.out; omega)
          have hla : Lx.lex a.data.toList = .ok us := by rw [HSP.out, htk]; exact hu1
          have hul : us.length = N := by
            have := congrArg List.length hu2
            rw [List.length_map, List.length_map] at this
            rw [this, HN.out]
          have TK : Hid (_) := tokens_any a wr (HSG.out.at (below_then B2.out HB.out)) (by omega)
          rw [hla] at TK
          clear hu1 hla htk hB
          go_wp2_with fail
          refine Calls.mono TK.out ?_
          rintro r w5 ⟨⟨v5, hr5, ho5, -⟩, b5⟩
          subst hr5
          have B5 : Hid (Below w2.heap.size w2 w5) := below_then HB.out b5
          have tl5 := ToksLow.of_owns ho5
          obtain ⟨ao5, cap5, b5b, off5, rfl, -, ha5, hc5⟩ := tl5.parts
          have hM1 : (us ++ [(⟨5, [], a.size⟩ : Lx.Tok)]).length = N + 1 := by rw [List.length_append, hul]; rfl
          obtain ⟨rfl, hb5⟩ := ha5 (by rw [hM1]; omega)
          rw [hM1]
          have HC5 : Hid (_) := hc5
          have ALIKE : Hid (∀ (j : Nat) (t u : Lx.Tok), (ts ++ [(⟨5, [], s.size⟩ : Lx.Tok)])[j]? = some t → (us ++ [(⟨5, [], a.size⟩ : Lx.Tok)])[j]? = some u → u.kind = t.kind ∧ u.text = t.text) := fun j t u ht hu => by
            have e : (us ++ [(⟨5, [], a.size⟩ : Lx.Tok)]).map (fun t => (t.kind, t.text)) = (ts ++ [(⟨5, [], s.size⟩ : Lx.Tok)]).map (fun t => (t.kind, t.text)) := by
              rw [List.map_append, List.map_append, hu2]; rfl
            have h1 := congrArg (fun l => l[j]?) e
            simp only [List.getElem?_map, ht, hu, Option.map_some, Option.some.injEq, Prod.mk.injEq] at h1
            exact h1
          have HUL : Hid (us.length = N) := hul
          clear TK ho5 tl5 ha5 hc5 hM1 hu2 hul b5
          go_wp2_with fail
          have bX5 : Below w5.heap.size w5 (w5.alloc (.cells #[.int .i64 0, .int .i64 0] 26)) := below_nw w5 _
          have HBX5 : Hid (_) := bX5
          clear bX5
          go_loopw [11] (fun I wr => ∃ i : Nat, i ≤ N + 1 ∧ I = .int .i64 i ∧ Below w5.heap.size w5 wr) (fun I _ => N + 1 - (intOf I).toNat)
          case atStart => exact ⟨0, Nat.zero_le _, rfl, HBX5.out⟩
          case round =>
            obtain ⟨q, hq, rfl, hBq⟩ := hrel
            have HBQ : Hid (Below w5.heap.size w5 wr) := hBq
            by_cases hlt2 : q < N + 1
            · obtain ⟨t, ht⟩ : ∃ t, (ts ++ [(⟨5, [], s.size⟩ : Lx.Tok)])[q]? = some t := ⟨_, List.getElem?_eq_getElem (by rw [List.length_append, ← HN.out]; exact hlt2)⟩
              obtain ⟨u, hu⟩ : ∃ u, (us ++ [(⟨5, [], a.size⟩ : Lx.Tok)])[q]? = some u := ⟨_, List.getElem?_eq_getElem (by rw [List.length_append, HUL.out]; exact hlt2)⟩
              obtain ⟨q0, q1, q2⟩ := HC.out q t ht
              obtain ⟨p0, p1, p2⟩ := HC5.out q u hu
              obtain ⟨e1, e2⟩ := ALIKE.out q t u ht hu
              rw [e1] at p0
              rw [e2] at p1
              have bq := below_then B5.out hBq
              have c0 := (bq.cell (p := ⟨b, off + q * 3, none⟩) hb).trans q0
              have c1 := (bq.cell (p := ⟨b, off + q * 3 + 1, none⟩) hb).trans q1
              have d0 := (hBq.cell (p := ⟨b5b, off5 + q * 3, none⟩) hb5).trans p0
              have d1 := (hBq.cell (p := ⟨b5b, off5 + q * 3 + 1, none⟩) hb5).trans p1
              obtain ⟨kd, tx, pp⟩ := t
              simp only at c0 c1 d0 d1
              obtain ⟨x, hx⟩ : ∃ x, x = Ln.bs tx := ⟨_, rfl⟩
              rw [← hx] at c1 d1
              clear hx q0 q1 q2 p0 p1 p2 e1 e2 ht hu bq hBq
              go_wp2
              go_quiet (fail)
              go_wp2
              go_roundw
              case rel => exact ⟨q + 1, by omega, by go_num, below_drewN HBQ.out _⟩
              case measure => simp [intOf]; omega
            · clear hBq
              go_wp2
              go_ret
              exact ⟨rfl, below_then B2.out (below_then B5.out HBQ.out)⟩
  · go_enter Tryd.func3, Tryd.ntmps3
    go_wp2_with fail
    refine (awake_any w HSG.out).mono ?_
    rintro r w1 ⟨rfl, b1⟩
    have B1 : Hid (Below w.heap.size w w1) := b1
    clear b1
    go_wp2
    go_ret
    exact ⟨rfl, B1.out⟩

end Go.Proofs.YtkiafelpgcmifabDoor

/-
  The walk of the document's answer Tokens of chapter 5.
-/
import Derived.Test.YtfegodofbdlbeaaGreatDoorRefAll
namespace Go.Proofs.YtfegodofbdlbeaaGreatDoor
open Go.RowKit Go.Shelf

attribute [local go_sem] Oper.semAt_some

namespace Lx
theorem lead_zero (p : Int → Bool) (l : List UInt8) (h : ∀ h : 0 < l.length, p (l[0].toNat : Int) = false) : lead p l = 0 := lead_eq p l 0 (Nat.zero_le _) (fun _ _ h => absurd h (Nat.not_lt_zero _)) h
theorem lead_pos (p : Int → Bool) (l : List UInt8) (h0 : 0 < l.length) (h : p (l[0].toNat : Int) = true) : 0 < lead p l := by
  cases l with
  | nil => simp at h0
  | cons b l =>
    simp at h
    rw [lead_cons, if_pos h]; omega
theorem step_comment {l : List UInt8} (hb : lead blankI l = 0) (hp : pre [47, 47] l = true) : step l = .skip (lead inLineI l) := by
  have hp' : [47, 47].isPrefixOf l = true := hp
  unfold step; rw [hb, if_neg (by omega), if_pos hp']
theorem step_run {l : List UInt8} (hb : lead blankI l = 0) (hp : pre [47, 47] l = false) (hn : 0 < lead ldI l) : step l = if sort (l.take (lead ldI l)) = 0 then .bad 101 else .tok (sort (l.take (lead ldI l))) (lead ldI l) := by
  have hp' : [47, 47].isPrefixOf l = false := hp
  unfold step; rw [hb, if_neg (by omega), hp', if_neg (by simp), if_pos hn]
theorem step_sign {l : List UInt8} (hb : lead blankI l = 0) (hp : pre [47, 47] l = false) (hn : lead ldI l = 0) {t : List UInt8} (ht : sign? l = some t) : step l = .tok 4 t.length := by
  have hp' : [47, 47].isPrefixOf l = false := hp
  unfold step; rw [hb, if_neg (by omega), hp', if_neg (by simp), hn, if_neg (by omega), ht]
theorem step_nosign {l : List UInt8} (hb : lead blankI l = 0) (hp : pre [47, 47] l = false) (hn : lead ldI l = 0) (ht : sign? l = none) : step l = .bad 100 := by
  have hp' : [47, 47].isPrefixOf l = false := hp
  unfold step; rw [hb, if_neg (by omega), hp', if_neg (by simp), hn, if_neg (by omega), ht]
end Lx

/-- What holds while the document's answer goes on. -/
structure RSt (w : World) (s : ByteArray) (k : Nat) (acc : List Lx.Tok) (v : Value) (W : World) : Prop where
  le : k ≤ s.size
  len : acc.length ≤ k
  own : W.ownsRow w.heap.size 49 3 v acc.length (tokCells acc)
  lex : Lx.lex s.data.toList = Lx.rest (s.data.toList.drop k) k acc
  box : W.heap[w.heap.size]? = some (.cells #[.int .i64 0, .int .i64 0] 29 (0, 0))
  low : Below w.heap.size w W
theorem RSt.lt {w W : World} {s : ByteArray} {k : Nat} {acc : List Lx.Tok} {v : Value} (h : RSt w s k acc v W) : w.heap.size < W.heap.size := (Array.getElem?_eq_some_iff.1 h.box).1
theorem RSt.below {w W W' : World} {s : ByteArray} {k : Nat} {acc : List Lx.Tok} {v : Value} (h : RSt w s k acc v W) (hb : Below W.heap.size W W') : RSt w s k acc v W' :=
  ⟨h.le, h.len, owns_below h.own hb, h.lex, (hb.block _ h.lt).trans h.box, h.low.trans (hb.mono h.low.size)⟩

/-- A token is put behind those that are there. -/
theorem tok_app {w W : World} {s : ByteArray} {k : Nat} {acc : List Lx.Tok} {at7 : Option Addr} {n7 c7 : Nat} (h : RSt w s k acc (.slice at7 n7 c7) W) (hs : s.size ≤ 1000000) (kind : Nat) (x : ByteArray) (p : Nat) :
    ∃ v' W', (Builtin.append_ #[40, 40] 40 #[.slice at7 n7 c7, .slice (some ⟨W.heap.size, 0, none⟩) 1 1]).run Tryz.prog (W.alloc (.cells #[.int .u8 kind, .string x, .int .i64 p] 49)) = .ok v' W' ∧ W'.ownsRow w.heap.size 49 3 v' (acc ++ [(⟨kind, x.data.toList, p⟩ : Lx.Tok)]).length (tokCells (acc ++ [⟨kind, x.data.toList, p⟩])) ∧ W'.heap[w.heap.size]? = some (.cells #[.int .i64 0, .int .i64 0] 29 (0, 0)) ∧ Below w.heap.size w W' ∧ (∀ b, b < W.heap.size → (∀ g c, at7 = some ⟨g, 0, none⟩ → c = c7 → b ≠ g) → W'.heap[b]? = W.heap[b]?) := by
  obtain ⟨i0, hi, hz0, hz1, hz2⟩ := info_parts infoTok
  have hl := h.len
  have hle := h.le
  obtain ⟨ta, tc, e⟩ := slice_shape h.own
  cases e
  obtain ⟨X, hX⟩ : ∃ X, X = W.alloc (.cells #[.int .u8 kind, .string x, .int .i64 p] 49) := ⟨_, rfl⟩
  have bX : Below W.heap.size W X := by rw [hX]; exact below_nw W _
  have hcn : ∀ (j : Nat) (u : Value), [Value.int .u8 kind, .string x, .int .i64 p][j]? = some u → X.cell? ((⟨W.heap.size, 0, none⟩ : Addr).add j) = some u := by rw [hX]; exact cells_new W [.int .u8 kind, .string x, .int .i64 p] 49
  have hBX : w.heap.size ≤ X.heap.size := Nat.le_trans h.low.size bX.size
  obtain ⟨v', W', hrun, hown, hgr, -⟩ := run_append_own (P := Tryz.prog) X w.heap.size 40 40 49 i0 (.agg #[.int .u8 0, .string ⟨#[]⟩, .int .i64 0]) 3 32 Tryz.underlying40 hi hz0 hz1 hz2 rfl (by decide) (.slice at7 acc.length c7) _ _ (owns_below h.own bX) ⟨W.heap.size, 0, none⟩ 1 1 [.int .u8 kind, .string x, .int .i64 p] rfl hcn (by simp [Value.oneCell']) (by unfold maxLen; omega) (by omega) hBX
  rw [← hX]
  refine ⟨v', W', hrun, ?_, heap_grown (owns_below h.own bX) hgr ((bX.block _ h.lt).trans h.box) (by decide), ?_, fun b hb hne => ?_⟩
  · rw [tokCells_snoc, List.length_append]
    exact hown
  · exact (h.low.trans (bX.mono h.low.size)).grown hgr hBX (fun q hq => (World.ownsRow.lt (owns_below h.own bX) q hq).1)
  · refine (hgr.block b (Nat.lt_of_lt_of_le hb bX.size) (fun e => ?_)).trans (bX.block b hb)
    cases at7 with
    | none => cases e
    | some a =>
      rcases h.own.2 with ⟨h0, _⟩ | ⟨g, cap, cur, he, _⟩
      · cases h0
      · cases he
        exact hne g c7 rfl rfl (by simpa [Value.ownBlock] using e)

/-- A token in a box, beside those that are told. -/
structure TSt (w : World) (s : ByteArray) (k : Nat) (acc : List Lx.Tok) (v : Value) (tb kind : Nat) (x : ByteArray) (W : World) : Prop where
  st : RSt w s k acc v W
  tok : W.heap[tb]? = some (.cells #[.int .u8 kind, .string x, .int .i64 k] 49 (0, 0))
  apart : ∀ g, v.ownBlock = some g → g < tb
  hi : w.heap.size < tb
theorem TSt.lt {w W : World} {s x : ByteArray} {k tb kind : Nat} {acc : List Lx.Tok} {v : Value} (h : TSt w s k acc v tb kind x W) : tb < W.heap.size := (Array.getElem?_eq_some_iff.1 h.tok).1
theorem TSt.below {w W W' : World} {s x : ByteArray} {k tb kind : Nat} {acc : List Lx.Tok} {v : Value} (h : TSt w s k acc v tb kind x W) (hb : Below W.heap.size W W') : TSt w s k acc v tb kind x W' :=
  ⟨h.st.below hb, (hb.block _ h.lt).trans h.tok, h.apart, h.hi⟩
theorem TSt.cells {w W : World} {s x : ByteArray} {k tb kind : Nat} {acc : List Lx.Tok} {v : Value} (h : TSt w s k acc v tb kind x W) : W.cell? ⟨tb, 0, none⟩ = some (.int .u8 kind) ∧ W.cell? ⟨tb, 1, none⟩ = some (.string x) ∧ W.cell? ⟨tb, 2, none⟩ = some (.int .i64 k) :=
  ⟨by rw [Lib.cell_of_heap h.tok]; rfl, by rw [Lib.cell_of_heap h.tok]; rfl, by rw [Lib.cell_of_heap h.tok]; rfl⟩
theorem TSt.frozen {w W : World} {s x : ByteArray} {k tb kind : Nat} {acc : List Lx.Tok} {v : Value} (h : TSt w s k acc v tb kind x W) (i : Nat) : W.frozen? ⟨tb, i, none⟩ = false := frozen_of_row W tb i _ _ h.tok
theorem TSt.new {w W : World} {s : ByteArray} {k : Nat} {acc : List Lx.Tok} {v : Value} (h : RSt w s k acc v W) (x : ByteArray) : TSt w s k acc v W.heap.size 0 x (W.alloc (.cells #[.int .u8 0, .string x, .int .i64 k] 49)) :=
  ⟨h.below (below_nw W _), World.alloc_heap_new W _, fun g hg => (World.ownsRow.lt h.own g hg).2, h.lt⟩
theorem TSt.put {w W : World} {s x : ByteArray} {k tb kind : Nat} {acc : List Lx.Tok} {v : Value} (h : TSt w s k acc v tb kind x W) (i : Nat) (u : Value) : RSt w s k acc v (W.setCell ⟨tb, i, none⟩ u) := by
  have hg := grown_set W tb i u
  have ho := h.st.own
  refine ⟨h.st.le, h.st.len, ⟨ho.1, ?_⟩, h.st.lex, (hg.block _ h.st.lt (fun e => by have := h.hi; cases e; omega)).trans h.st.box, h.st.low.trans ⟨hg.os, hg.tape, hg.output, hg.size, fun k hk => hg.block k (Nat.lt_trans hk h.st.lt) (fun e => by have := h.hi; cases e; omega)⟩⟩
  rcases ho.2 with h0 | ⟨g, cap, cur, hv, h1, hgb, h2⟩
  · exact .inl h0
  · refine .inr ⟨g, cap, cur, hv, h1, (hg.block g (Array.getElem?_eq_some_iff.1 hgb).1 (fun e => ?_)).trans hgb, h2⟩
    have := h.apart g (by rw [hv]; rfl)
    cases e; omega
theorem TSt.kind {w W : World} {s x : ByteArray} {k tb kind : Nat} {acc : List Lx.Tok} {v : Value} (h : TSt w s k acc v tb kind x W) (kind' : Nat) : TSt w s k acc v tb kind' x (W.setCell ⟨tb, 0, none⟩ (.int .u8 kind')) :=
  ⟨h.put 0 _, heap_setCell_same W tb 0 _ 49 _ h.tok, h.apart, h.hi⟩
theorem TSt.text {w W : World} {s x : ByteArray} {k tb kind : Nat} {acc : List Lx.Tok} {v : Value} (h : TSt w s k acc v tb kind x W) (x' : ByteArray) : TSt w s k acc v tb kind x' (W.setCell ⟨tb, 1, none⟩ (.string x')) :=
  ⟨h.put 1 _, heap_setCell_same W tb 1 _ 49 _ h.tok, h.apart, h.hi⟩
/-- The token is put behind those that are there; it stays in its box. -/
theorem TSt.app {w W : World} {s x : ByteArray} {k tb kind : Nat} {acc : List Lx.Tok} {at7 : Option Addr} {n7 c7 : Nat} (h : TSt w s k acc (.slice at7 n7 c7) tb kind x W) (hs : s.size ≤ 1000000) (n : Nat) (hn : n ≤ s.size) (hkn : k < n) (hlex : Lx.lex s.data.toList = Lx.rest (s.data.toList.drop n) n (acc ++ [⟨kind, x.data.toList, k⟩])) :
    ∃ v' W', (Builtin.append_ #[40, 40] 40 #[.slice at7 n7 c7, .slice (some ⟨W.heap.size, 0, none⟩) 1 1]).run Tryz.prog (W.alloc (.cells #[.int .u8 kind, .string x, .int .i64 k] 49)) = .ok v' W' ∧ RSt w s n (acc ++ [⟨kind, x.data.toList, k⟩]) v' W' ∧ W'.cell? ⟨tb, 1, none⟩ = some (.string x) := by
  obtain ⟨v', W', hrun, hown, hbox, hbel, hkeep⟩ := tok_app h.st hs kind x k
  have hl := h.st.len
  refine ⟨v', W', hrun, ⟨hn, by rw [List.length_append]; simp; omega, hown, hlex, hbox, hbel⟩, ?_⟩
  have hb := hkeep tb h.lt (fun g c e _ => by
    have := h.apart g (by rw [e]; rfl)
    omega)
  rw [Lib.cell_of_heap (hb.trans h.tok)]; rfl

set_option maxRecDepth 100000 in
set_option maxHeartbeats 8000000 in
theorem rtokens_any (s : ByteArray) (w : World) (hs : s.size ≤ 1000000) :
    Calls Tryz.prog 14 #[.string s] w fun r w' => TokPost w.heap.size s.size r w' (Lx.lex s.data.toList) ∧ Below w.heap.size w w' := by
  have HSZ : Hid (s.data.toList.length = s.size) := rfl
  obtain ⟨X, hX⟩ : ∃ X, X = w.alloc (.cells #[.int .i64 0, .int .i64 0] 29) := ⟨_, rfl⟩
  have hXb : X.heap[w.heap.size]? = some (.cells #[.int .i64 0, .int .i64 0] 29 (0, 0)) := by rw [hX]; exact World.alloc_heap_new w _
  have bX : Below w.heap.size w X := by rw [hX]; exact below_nw w _
  have ST : Hid (RSt w s 0 [] (.slice none 0 0) X) := ⟨Nat.zero_le _, Nat.zero_le _, World.ownsRow_nil _ _ _ _, rfl, hXb, bX⟩
  clear hXb bX
  refine (callsIn_wide (n := 3)).1 ?_
  refine callsIn_of_wp Tryz.func14 rfl trivial ?_ rfl
  simp only [Tryz.ntmps14, List.size_toArray, List.length_cons, List.length_nil, Nat.reduceAdd, Nat.reduceSub, Array.replicate_succ, Array.replicate_zero, List.push_toArray, List.append_toArray, List.nil_append, List.cons_append]
  gi_wp2_with fail
  rw [← hX]
  clear hX
  gi_loopw [4, 5] (fun v t wr => ∃ (k : Nat) (acc : List Lx.Tok), t = .int .i64 k ∧ RSt w s k acc v wr) (fun _ t _ => s.size - (intOf t).toNat)
  case atStart => exact ⟨0, [], rfl, ST.out⟩
  case round =>
    clear ST
    obtain ⟨k, acc, rfl, hst⟩ := hrel
    have hk := hst.le
    have hl := hst.len
    obtain ⟨at7, c7, rfl⟩ := slice_shape hst.own
    have HST : Hid (RSt w s k acc (.slice at7 acc.length c7) wr) := hst
    clear hst
    by_cases hlt : k < s.size
    · have hhd : ∀ h : 0 < (s.data.toList.drop k).length, (s.data.toList.drop k)[0] = s[k] := fun h => by
        rw [List.getElem_drop]; rfl
      have hnl : 0 < (s.data.toList.drop k).length := by rw [List.length_drop, HSZ.out]; omega
      have hne : s.data.toList.drop k ≠ [] := List.length_pos_iff.1 hnl
      have HNE : Hid (_) := hne
      have HHD : Hid (∀ h : 0 < (s.data.toList.drop k).length, (s.data.toList.drop k)[0] = s[k]) := hhd
      have HNL : Hid (_) := hnl
      have hbl := rblank_any (s[k].toNat : Int)
      clear hhd hnl hne
      cases hb : Lx.blankI (s[k].toNat : Int) with
      | true =>
        rw [hb] at hbl
        have HLX : Hid (Lx.lex s.data.toList = Lx.rest (s.data.toList.drop (k + 1)) (k + 1) acc) := by
          show Lx.lex s.data.toList = _
          rw [HST.out.lex, Lx.rest_some (s.data.toList.drop k) 1 (Lx.lead_pos Lx.blankI _ HNL.out (by rw [HHD.out HNL.out]; exact hb)), List.drop_drop]
        clear hb
        gi_wp2_with fail
        refine ⟨trivial, ?_⟩
        refine (callsIn_wide.2 (hbl _)).mono ?_
        rintro r w1 ⟨rfl, rfl⟩
        gi_wp2
        go_roundw
        case rel => exact ⟨k + 1, acc, by go_num, by omega, by omega, HST.out.own, HLX.out, HST.out.box, HST.out.low⟩
        case measure => simp [intOf]; omega
      | false =>
        rw [hb] at hbl
        have HB0 : Hid (Lx.lead Lx.blankI (s.data.toList.drop k) = 0) := Lx.lead_zero _ _ (fun h => by
          rw [HHD.out h]; exact hb)
        have HBG : Hid (_) := begins_any s ⟨#[47, 47]⟩ k hk hs (by decide) wr
        have hpe : pre (⟨#[47, 47]⟩ : ByteArray).data.toList (s.data.toList.drop k) = pre [47, 47] (s.data.toList.drop k) := rfl
        rw [hpe] at HBG
        clear hb hpe
        cases hp : pre [47, 47] (s.data.toList.drop k) with
        | true =>
          rw [hp] at HBG
          have hfit := lead_fits Lx.inLineI s k hk
          have hsp := Lx.step_comment HB0.out hp
          have HLX : Hid (Lx.lex s.data.toList = Lx.rest (s.data.toList.drop (k + Lx.lead Lx.inLineI (s.data.toList.drop k))) (k + Lx.lead Lx.inLineI (s.data.toList.drop k)) acc) := by
            show Lx.lex s.data.toList = _
            rw [HST.out.lex, Lx.rest_skip k acc hsp HNE.out, List.drop_drop]
          have hn0 := (Lx.step_skip hsp).1
          obtain ⟨n, hn⟩ : ∃ n, n = Lx.lead Lx.inLineI (s.data.toList.drop k) := ⟨_, rfl⟩
          have HN : Hid (n = Lx.lead Lx.inLineI (s.data.toList.drop k)) := hn
          rw [← hn] at hfit HLX hn0
          clear hp hsp hn
          gi_wp2_with fail
          refine ⟨trivial, ?_⟩
          refine (callsIn_wide.2 (hbl _)).mono ?_
          rintro r w1 ⟨rfl, rfl⟩
          gi_wp2_with fail
          refine ⟨trivial, ?_⟩
          refine (callsIn_wide.2 HBG.out).mono ?_
          rintro r w2 ⟨rfl, rfl⟩
          clear hbl HBG
          gi_wp2_with fail
          gi_loopw [5] (fun t wq => ∃ j : Nat, j ≤ n ∧ t = .int .i64 ((k + j : Nat) : Int) ∧ RSt w s k acc (.slice at7 acc.length c7) wq) (fun t _ => s.size - (intOf t).toNat)
          case atStart => exact ⟨0, Nat.zero_le _, rfl, HST.out⟩
          case round =>
            obtain ⟨j, hj, rfl, hst2⟩ := hrel
            have HS2 : Hid (_) := hst2
            clear hst2
            have hkj : k + j ≤ s.size := by omega
            have FIN : Hid (j = n → ∃ (k' : Nat) (acc' : List Lx.Tok), Value.int .i64 ((k + j : Nat) : Int) = .int .i64 k' ∧ RSt w s k' acc' (.slice at7 acc.length c7) wr) := fun e => by
              subst e
              exact ⟨k + j, acc, rfl, by omega, by omega, HS2.out.own, HLX.out, HS2.out.box, HS2.out.low⟩
            obtain ⟨m, hm⟩ : ∃ m, m = k + j := ⟨_, rfl⟩
            have HM : Hid (m = k + j) := hm
            rw [← hm] at hkj FIN ⊢
            by_cases hlt2 : m < s.size
            · have hjl : j < (s.data.toList.drop k).length := by rw [List.length_drop, HSZ.out]; omega
              have hgj : (s.data.toList.drop k)[j] = s[m] := by
                rw [List.getElem_drop]; simp only [hm]; rfl
              by_cases hjn : j < n
              · have hin : ((s[m].toNat : Int) != 10) = true := by
                  have := Lx.lead_yes Lx.inLineI (s.data.toList.drop k) j hjl (by rw [← HN.out]; exact hjn)
                  rw [hgj] at this
                  exact this
                clear hgj hjl hm
                gi_wp2
                go_roundw
                case rel => exact ⟨j + 1, by omega, by have := HM.out; go_num, HS2.out⟩
                case measure => simp [intOf]; omega
              · have hjn2 : j = n := by omega
                have hin : ((s[m].toNat : Int) != 10) = false := by
                  have := Lx.lead_no Lx.inLineI (s.data.toList.drop k) (by rw [← HN.out, ← hjn2]; exact hjl)
                  have e9 : (s.data.toList.drop k)[Lx.lead Lx.inLineI (s.data.toList.drop k)]'(by rw [← HN.out, ← hjn2]; exact hjl) = s[m] := by
                    rw [← hgj]; congr 1; rw [← HN.out, ← hjn2]
                  rw [e9] at this
                  exact this
                have HJ : Hid (j = n) := hjn2
                clear hgj hjl hm hjn2
                gi_wp2
                go_roundw
                case rel => exact FIN.out HJ.out
                case measure => have := HM.out; have := HJ.out; simp [intOf]; omega
            · have hjn2 : j = n := by omega
              have HJ : Hid (j = n) := hjn2
              clear hm hjn2
              gi_wp2
              go_roundw
              case rel => exact FIN.out HJ.out
              case measure => have := HM.out; have := HJ.out; simp [intOf]; omega
        | false =>
          rw [hp] at HBG
          have hfit := lead_fits Lx.ldI s k hk
          have HP : Hid (pre [47, 47] (s.data.toList.drop k) = false) := hp
          obtain ⟨n, hn⟩ : ∃ n, n = Lx.lead Lx.ldI (s.data.toList.drop k) := ⟨_, rfl⟩
          have HN : Hid (n = Lx.lead Lx.ldI (s.data.toList.drop k)) := hn
          rw [← hn] at hfit
          clear hp hn
          gi_wp2_with fail
          refine ⟨trivial, ?_⟩
          refine (callsIn_wide.2 (hbl _)).mono ?_
          rintro r w1 ⟨rfl, rfl⟩
          gi_wp2_with fail
          refine ⟨trivial, ?_⟩
          refine (callsIn_wide.2 HBG.out).mono ?_
          rintro r w2 ⟨rfl, rfl⟩
          clear hbl HBG
          gi_wp2_with fail
          gi_loopw [6] (fun t wq => ∃ j : Nat, j ≤ n ∧ t = .int .i64 ((k + j : Nat) : Int) ∧ RSt w s k acc (.slice at7 acc.length c7) wq) (fun t _ => s.size - (intOf t).toNat)
          case atStart => exact ⟨0, Nat.zero_le _, rfl, HST.out⟩
          case round =>
            obtain ⟨j, hj, rfl, hst2⟩ := hrel
            have HS2 : Hid (RSt w s k acc (.slice at7 acc.length c7) wr) := hst2
            clear hst2
            have hkj : k + j ≤ s.size := by omega
            obtain ⟨m, hm⟩ : ∃ m, m = k + j := ⟨_, rfl⟩
            have HM : Hid (m = k + j) := hm
            rw [← hm] at hkj ⊢
            by_cases hlt2 : m < s.size
            · have hjl : j < (s.data.toList.drop k).length := by rw [List.length_drop, HSZ.out]; omega
              have hgj : (s.data.toList.drop k)[j] = s[m] := by
                rw [List.getElem_drop]; simp only [hm]; rfl
              have hle := rletter_any (s[m].toNat : Int)
              have hdi := rdigit_any (s[m].toNat : Int)
              by_cases hjn : j < n
              · have hin : Lx.ldI (s[m].toNat : Int) = true := by
                  have := Lx.lead_yes Lx.ldI (s.data.toList.drop k) j hjl (by rw [← HN.out]; exact hjn)
                  rw [hgj] at this
                  exact this
                clear hgj hjl hm
                cases hlet : Lx.letterI (s[m].toNat : Int) with
                | true =>
                  rw [hlet] at hle
                  clear hin hlet hdi
                  gi_wp2_with fail
                  refine ⟨trivial, ?_⟩
                  refine (callsIn_wide.2 (hle _)).mono ?_
                  rintro r w3 ⟨rfl, rfl⟩
                  gi_wp2_with fail
                  refine ⟨trivial, ?_⟩
                  gi_wp2
                  go_roundw
                  case rel => exact ⟨j + 1, by omega, by have := HM.out; go_num, HS2.out⟩
                  case measure => simp [intOf]; omega
                | false =>
                  have hd : Lx.digitI (s[m].toNat : Int) = true := by
                    unfold Lx.ldI at hin; rw [hlet] at hin; simpa using hin
                  rw [hlet] at hle
                  rw [hd] at hdi
                  clear hin hlet hd
                  gi_wp2_with fail
                  refine ⟨trivial, ?_⟩
                  refine (callsIn_wide.2 (hle _)).mono ?_
                  rintro r w3 ⟨rfl, rfl⟩
                  gi_wp2_with fail
                  refine ⟨trivial, ?_⟩
                  refine (callsIn_wide.2 (hdi _)).mono ?_
                  rintro r w3 ⟨rfl, rfl⟩
                  gi_wp2
                  go_roundw
                  case rel => exact ⟨j + 1, by omega, by have := HM.out; go_num, HS2.out⟩
                  case measure => simp [intOf]; omega
              · have hjn2 : j = n := by omega
                have hin : Lx.ldI (s[m].toNat : Int) = false := by
                  have := Lx.lead_no Lx.ldI (s.data.toList.drop k) (by rw [← HN.out, ← hjn2]; exact hjl)
                  have e9 : (s.data.toList.drop k)[Lx.lead Lx.ldI (s.data.toList.drop k)]'(by rw [← HN.out, ← hjn2]; exact hjl) = s[m] := by
                    rw [← hgj]; congr 1; rw [← HN.out, ← hjn2]
                  rw [e9] at this
                  exact this
                have hle2 : Lx.letterI (s[m].toNat : Int) = false := by
                  unfold Lx.ldI at hin; cases h : Lx.letterI (s[m].toNat : Int) <;> simp_all
                have hdi2 : Lx.digitI (s[m].toNat : Int) = false := by
                  unfold Lx.ldI at hin; cases h : Lx.digitI (s[m].toNat : Int) <;> simp_all
                rw [hle2] at hle
                rw [hdi2] at hdi
                have HMN : Hid (m = k + n) := by show m = k + n; omega
                clear hgj hjl hm hjn2 hin hle2 hdi2
                by_cases hn0 : 0 < n
                · have hkm : k < m := by have := HMN.out; omega
                  gi_wp2_with fail
                  refine ⟨trivial, ?_⟩
                  refine (callsIn_wide.2 (hle _)).mono ?_
                  rintro r w3 ⟨rfl, rfl⟩
                  gi_wp2_with fail
                  refine ⟨trivial, ?_⟩
                  refine (callsIn_wide.2 (hdi _)).mono ?_
                  rintro r w3 ⟨rfl, rfl⟩
                  clear hle hdi
                  gi_wp2_with fail
                  obtain ⟨x, hx⟩ : ∃ x, x = s.extract k m := ⟨_, rfl⟩
                  have hxd : x.data.toList = (s.data.toList.drop k).take n := by rw [hx, HMN.out]; exact extract_part s k n
                  have hxs : x.size ≤ 1000000 := by rw [hx, ByteArray.size_extract]; omega
                  obtain ⟨T, hT⟩ : ∃ T, T = w3.alloc (.cells #[.int .u8 0, .string x, .int .i64 k] 49) := ⟨_, rfl⟩
                  have ts0 : TSt w s k acc (.slice at7 acc.length c7) w3.heap.size 0 x T := by rw [hT]; exact TSt.new HS2.out x
                  rw [← hx, ← hT]
                  obtain ⟨tb, htb⟩ : ∃ tb, tb = w3.heap.size := ⟨_, rfl⟩
                  rw [← htb] at ts0 ⊢
                  have TS : Hid (TSt w s k acc (.slice at7 acc.length c7) tb 0 x T) := ts0
                  have STEP : Hid (Lx.step (s.data.toList.drop k) = if Lx.sort x.data.toList = 0 then .bad 101 else .tok (Lx.sort x.data.toList) n) := by
                    show Lx.step (s.data.toList.drop k) = _
                    have h9 := Lx.step_run HB0.out HP.out (by rw [← HN.out]; exact hn0)
                    rw [← HN.out] at h9
                    rw [hxd]; exact h9
                  have HXD : Hid (x.data.toList = (s.data.toList.drop k).take n) := hxd
                  clear hx hT htb hxd ts0
                  refine ⟨trivial, ?_⟩
                  refine (callsIn_wide.2 (number_any x hxs T)).mono ?_
                  rintro r w4 ⟨⟨nv, rfl⟩, hw4⟩
                  rw [hw4]
                  clear hw4
                  obtain ⟨c0, c1, c2⟩ := TS.out.cells
                  gi_wp2_with fail
                  refine region_lex (fun W => W.cell? ⟨tb, 1, none⟩ = some (.string x)) 2 3 rfl (by kernel_rfl) (by kernel_rfl) (by kernel_rfl) (by kernel_rfl) (fun _ _ d _ _ h => by cases d <;> exact h) c1 ?_
                  simp only [List.take_succ_cons, List.take_zero]
                  iterate 2 (first
                    | (apply lexC_want
                       · rfl
                       · exact fun _ => rfl
                       · (intro w' hw'; go_simp; try rfl)
                       simp only [Act.put, List.setIfInBounds_toArray, List.set_cons_zero, List.set_cons_succ])
                    | (apply lexC_skip
                       · rfl
                       · exact fun _ => rfl
                       simp only [Act.put, List.setIfInBounds_toArray, List.set_cons_zero, List.set_cons_succ]))
                  refine lexC_nil ?_
                  refine anyC_one (i := 2) (by kernel_rfl) rfl (by rfl) (fun K1 hK1 => ?_)
                  go_simp
                  refine ⟨trivial, ?_⟩
                  refine (callsIn_wide.2 (rwords_any T.drew)).mono ?_
                  rintro r w5 ⟨v5, rfl, hrow, hb5⟩
                  have T5 : TSt w s k acc (.slice at7 acc.length c7) tb 0 x w5 := TS.out.below ((below_drewN (Below.refl _ T) 1).trans hb5)
                  have TS5 : Hid (TSt w s k acc (.slice at7 acc.length c7) tb 0 x w5) := T5
                  have d1 := T5.cells.2.1
                  have ON : Hid (_) := one_any _ _ _ x w5 hrow (by decide)
                  obtain ⟨va, vc, vb, vd, rfl, -, -, -⟩ := hrow.parts
                  refine hK1 _ _ d1 ?_
                  clear hK1 hrow hb5 T5 c0 c1 c2
                  refine anyC_one (i := 3) (by kernel_rfl) rfl (by rfl) (fun K1 hK1 => ?_)
                  go_simp
                  refine ⟨trivial, ?_⟩
                  refine (callsIn_wide.2 ON.out).mono ?_
                  rintro r w6 ⟨rfl, hw6⟩
                  rw [hw6]
                  refine hK1 _ _ d1 ?_
                  clear hK1 ON hw6
                  refine anyC_one (i := 4) (by kernel_rfl) rfl (by rfl) (fun K1 hK1 => ?_)
                  go_simp
                  refine hK1 _ _ d1 ?_
                  clear hK1
                  refine anyC_done (by kernel_rfl) ?_
                  cases hw : has Lx.words x.data.toList with
                  | true =>
                    have hso : Lx.sort x.data.toList = 2 := by have hw' : Lx.isWord x.data.toList = true := hw; simp [Lx.sort, hw']
                    clear hw
                    obtain ⟨e0, e1, e2⟩ := TSt.cells TS5.out
                    have fz0 := TSt.frozen TS5.out 0
                    have tk := TSt.kind TS5.out 2
                    have HLX : Lx.lex s.data.toList = Lx.rest (s.data.toList.drop m) m (acc ++ [⟨2, x.data.toList, k⟩]) := by
                      have hsp : Lx.step (s.data.toList.drop k) = .tok 2 n := by rw [STEP.out, hso]; rfl
                      rw [HS2.out.lex, Lx.rest_tok k acc hsp HNE.out, List.drop_drop, HXD.out, HMN.out]
                    obtain ⟨v', W', hrun, hst', -⟩ := tk.app hs m hkj hkm HLX
                    have HF : Hid (RSt w s m (acc ++ [⟨2, x.data.toList, k⟩]) v' W') := hst'
                    simp only [World.size_setCell] at hrun
                    clear tk HLX hst' hso
                    gi_wp2_with (gi_at_builtin; refine list_append rfl _ _ 40 rfl _ _ _ _ rfl rfl hrun ?_)
                    go_roundw
                    case rel => exact ⟨m, _, rfl, HF.out⟩
                    case measure => simp [intOf]; omega
                  | false =>
                    have hw' : Lx.isWord x.data.toList = false := hw
                    clear hw
                    have NM : Hid (_) := rname_any x (by unfold maxLen; omega) w5
                    obtain ⟨-, e1, -⟩ := TS5.out.cells
                    gi_wp2_with fail
                    refine ⟨trivial, ?_⟩
                    refine (callsIn_wide.2 NM.out).mono ?_
                    rintro r w7 ⟨rfl, hb7⟩
                    have TS7 : Hid (TSt w s k acc (.slice at7 acc.length c7) tb 0 x w7) := TS5.out.below hb7
                    clear NM hb7 e1 d1
                    cases hnm : Lx.isName x.data.toList with
                    | true =>
                      have hso : Lx.sort x.data.toList = 1 := by simp [Lx.sort, hw', hnm]
                      clear hnm
                      obtain ⟨e0, e1, e2⟩ := TSt.cells TS7.out
                      have fz0 := TSt.frozen TS7.out 0
                      have tk := TSt.kind TS7.out 1
                      have HLX : Lx.lex s.data.toList = Lx.rest (s.data.toList.drop m) m (acc ++ [⟨1, x.data.toList, k⟩]) := by
                        have hsp : Lx.step (s.data.toList.drop k) = .tok 1 n := by rw [STEP.out, hso]; rfl
                        rw [HS2.out.lex, Lx.rest_tok k acc hsp HNE.out, List.drop_drop, HXD.out, HMN.out]
                      obtain ⟨v', W', hrun, hst', -⟩ := tk.app hs m hkj hkm HLX
                      have HF : Hid (RSt w s m (acc ++ [⟨1, x.data.toList, k⟩]) v' W') := hst'
                      simp only [World.size_setCell] at hrun
                      clear tk HLX hst' hso
                      gi_wp2_with (gi_at_builtin; refine list_append rfl _ _ 40 rfl _ _ _ _ rfl rfl hrun ?_)
                      go_roundw
                      case rel => exact ⟨m, _, rfl, HF.out⟩
                      case measure => simp [intOf]; omega
                    | false =>
                      cases hin : Lx.isInt x.data.toList with
                      | true =>
                        have hso : Lx.sort x.data.toList = 3 := by simp [Lx.sort, hw', hnm, hin]
                        clear hnm hin
                        obtain ⟨e0, e1, e2⟩ := TSt.cells TS7.out
                        have fz0 := TSt.frozen TS7.out 0
                        have tk := TSt.kind TS7.out 3
                        have HLX : Lx.lex s.data.toList = Lx.rest (s.data.toList.drop m) m (acc ++ [⟨3, x.data.toList, k⟩]) := by
                          have hsp : Lx.step (s.data.toList.drop k) = .tok 3 n := by rw [STEP.out, hso]; rfl
                          rw [HS2.out.lex, Lx.rest_tok k acc hsp HNE.out, List.drop_drop, HXD.out, HMN.out]
                        obtain ⟨v', W', hrun, hst', -⟩ := tk.app hs m hkj hkm HLX
                        have HF : Hid (RSt w s m (acc ++ [⟨3, x.data.toList, k⟩]) v' W') := hst'
                        simp only [World.size_setCell] at hrun
                        clear tk HLX hst' hso
                        gi_wp2_with (gi_at_builtin; refine list_append rfl _ _ 40 rfl _ _ _ _ rfl rfl hrun ?_)
                        go_roundw
                        case rel => exact ⟨m, _, rfl, HF.out⟩
                        case measure => simp [intOf]; omega
                      | false =>
                        have hso : Lx.sort x.data.toList = 0 := by simp [Lx.sort, hw', hnm, hin]
                        have HLX : Hid (Lx.lex s.data.toList = .fault 101 k) := by
                          show Lx.lex s.data.toList = .fault 101 k
                          have hsp : Lx.step (s.data.toList.drop k) = .bad 101 := by rw [STEP.out, hso]; rfl
                          rw [HS2.out.lex, Lx.rest_bad k acc hsp HNE.out]
                        obtain ⟨f0, f1, Y, hY, k0, k1, gY, -⟩ := fault_put TS7.out.st.box (.int .i64 101) (.int .i64 k)
                        have z0 : w7.cell? ⟨w.heap.size, 0, none⟩ = some (.int .i64 0) := by rw [Lib.cell_of_heap TS7.out.st.box]; rfl
                        have z1 : w7.cell? ⟨w.heap.size, 1, none⟩ = some (.int .i64 0) := by rw [Lib.cell_of_heap TS7.out.st.box]; rfl
                        have HF : Hid (Below w.heap.size w Y) := below_box TS7.out.st.low gY (Nat.le_refl _) TS7.out.st.low.size
                        clear gY hso hnm hin
                        gi_wp2
                        rw [← hY]
                        refine bodyPost_ret (v := .tuple #[.slice none 0 0, .agg #[.int .i64 101, .int .i64 k]]) (by simp [results, Tryz.results14, go_sem, k0, k1]) rfl ?_
                        rw [HLX.out]
                        exact ⟨rfl, HF.out⟩
                · have hkm : k ≤ m := by have := HMN.out; omega
                  have hmk : ¬ k < m := by have := HMN.out; omega
                  gi_wp2_with fail
                  refine ⟨trivial, ?_⟩
                  refine (callsIn_wide.2 (hle _)).mono ?_
                  rintro r w3 ⟨rfl, rfl⟩
                  gi_wp2_with fail
                  refine ⟨trivial, ?_⟩
                  refine (callsIn_wide.2 (hdi _)).mono ?_
                  rintro r w3 ⟨rfl, rfl⟩
                  clear hle hdi
                  gi_wp2_with fail
                  obtain ⟨x, hx⟩ : ∃ x, x = s.extract k m := ⟨_, rfl⟩
                  obtain ⟨T, hT⟩ : ∃ T, T = w3.alloc (.cells #[.int .u8 0, .string x, .int .i64 k] 49) := ⟨_, rfl⟩
                  have ts0 : TSt w s k acc (.slice at7 acc.length c7) w3.heap.size 0 x T := by rw [hT]; exact TSt.new HS2.out x
                  rw [← hx, ← hT]
                  obtain ⟨tb, htb⟩ : ∃ tb, tb = w3.heap.size := ⟨_, rfl⟩
                  rw [← htb] at ts0 ⊢
                  have TS : Hid (TSt w s k acc (.slice at7 acc.length c7) tb 0 x T) := ts0
                  have HN0 : Hid (Lx.lead Lx.ldI (s.data.toList.drop k) = 0) := by show Lx.lead Lx.ldI (s.data.toList.drop k) = 0; rw [← HN.out]; omega
                  clear hx hT htb ts0
                  refine ⟨trivial, ?_⟩
                  refine (callsIn_wide.2 (rsigns_any T)).mono ?_
                  rintro r w5 ⟨v5, rfl, hrow, hb5⟩
                  have TS5 : Hid (TSt w s k acc (.slice at7 acc.length c7) tb 0 x w5) := TS.out.below hb5
                  obtain ⟨va, vc, vb, vd, rfl, -, hao, hc⟩ := hrow.parts
                  obtain ⟨rfl, hvb⟩ := hao (by decide)
                  have HC : Hid (_) := hc
                  obtain ⟨N, hNe⟩ : ∃ N, N = Lx.signs.length := ⟨_, rfl⟩
                  have hN23 : N ≤ 23 := Nat.le_of_eq hNe
                  have HNS : Hid (N = Lx.signs.length) := hNe
                  rw [← hNe]
                  clear hrow hb5 hao hc hNe TS
                  gi_wp2_with fail
                  gi_loopw [11] (fun t wq => ∃ q : Nat, q ≤ N ∧ t = .int .i64 q ∧ ((wq = w5 ∧ ∀ j y, Lx.signs[j]? = some y → j < q → pre y (s.data.toList.drop k) = false) ∨ ∃ y : ByteArray, TSt w s k acc (.slice at7 acc.length c7) tb 4 y wq ∧ Lx.sign? (s.data.toList.drop k) = some y.data.toList)) (fun t _ => N - (intOf t).toNat)
                  case atStart => exact ⟨0, Nat.zero_le _, rfl, .inl ⟨rfl, fun j _ _ h => absurd h (Nat.not_lt_zero _)⟩⟩
                  case round =>
                    obtain ⟨q, hq, rfl, hor⟩ := hrel
                    rcases hor with ⟨hwq, hall⟩ | ⟨y, hB, hsg⟩
                    · have HA : Hid (_) := hall
                      rw [hwq]
                      clear hwq hall
                      obtain ⟨e0, e1, e2⟩ := TS5.out.cells
                      have fz1 := TS5.out.frozen 1
                      by_cases hqN : q < N
                      · obtain ⟨yl, hyl⟩ : ∃ yl, Lx.signs[q]? = some yl := ⟨Lx.signs[q]'(by have := HNS.out; omega), List.getElem?_eq_getElem _⟩
                        have g1 : w5.cell? ⟨vb, vd + q, none⟩ = some (.string (Ln.bs yl)) := HC.out q yl hyl
                        have hys := signs_short q yl hyl
                        obtain ⟨y, hye⟩ : ∃ y, y = Ln.bs yl := ⟨_, rfl⟩
                        have HYD : Hid (y.data.toList = yl) := by show y.data.toList = yl; rw [hye]; rfl
                        have hyz : y.size ≤ 2 := by rw [hye]; exact hys
                        rw [← hye] at g1
                        have HYL : Hid (_) := hyl
                        have BG : Hid (_) := begins_any s y k hk hs (by omega) w5
                        rw [HYD.out] at BG
                        clear hye hys hyl
                        cases hpy : pre yl (s.data.toList.drop k) with
                        | true =>
                          rw [hpy] at BG
                          have HSG : Hid (Lx.sign? (s.data.toList.drop k) = some y.data.toList) := by
                            show Lx.sign? (s.data.toList.drop k) = some y.data.toList
                            rw [HYD.out]; exact find_at _ Lx.signs q yl HYL.out hpy HA.out
                          have tk := (TS5.out.text y).kind 4
                          have fz0 : (w5.setCell ⟨tb, 1, none⟩ (.string y)).frozen? ⟨tb, 0, none⟩ = false := (TS5.out.text y).frozen 0
                          obtain ⟨t0, -, -⟩ := (TS5.out.text y).cells
                          have HTK : Hid (_) := tk
                          clear hpy tk
                          gi_wp2_with fail
                          refine ⟨trivial, ?_⟩
                          refine (callsIn_wide.2 BG.out).mono ?_
                          rintro r w6 ⟨rfl, hw6⟩
                          rw [hw6]
                          clear hw6 BG
                          gi_wp2
                          go_roundw
                          case rel => exact ⟨q + 1, by omega, by go_num, .inr ⟨y, HTK.out, HSG.out⟩⟩
                          case measure => simp [intOf]; omega
                        | false =>
                          rw [hpy] at BG
                          have HPY : Hid (_) := hpy
                          clear hpy
                          gi_wp2_with fail
                          refine ⟨trivial, ?_⟩
                          refine (callsIn_wide.2 BG.out).mono ?_
                          rintro r w6 ⟨rfl, hw6⟩
                          rw [hw6]
                          clear hw6 BG
                          gi_wp2
                          go_roundw
                          case rel =>
                            refine ⟨q + 1, by omega, by go_num, .inl ⟨trivial, fun j z hz hji => ?_⟩⟩
                            by_cases hji2 : j < q
                            · exact HA.out j z hz hji2
                            · obtain rfl : j = q := by omega
                              rw [HYL.out] at hz
                              cases hz
                              exact HPY.out
                          case measure => simp [intOf]; omega
                      · have HLX : Hid (Lx.lex s.data.toList = .fault 100 k) := by
                          show Lx.lex s.data.toList = .fault 100 k
                          have hns : Lx.sign? (s.data.toList.drop k) = none := sign_find_none _ Lx.signs (fun j y hj => HA.out j y hj (by have := (List.getElem?_eq_some_iff.1 hj).1; have := HNS.out; omega))
                          rw [HS2.out.lex, Lx.rest_bad k acc (Lx.step_nosign HB0.out HP.out HN0.out hns) HNE.out]
                        obtain ⟨f0, f1, Y, hY, k0, k1, gY, -⟩ := fault_put TS5.out.st.box (.int .i64 100) (.int .i64 k)
                        have z0 : w5.cell? ⟨w.heap.size, 0, none⟩ = some (.int .i64 0) := by rw [Lib.cell_of_heap TS5.out.st.box]; rfl
                        have z1 : w5.cell? ⟨w.heap.size, 1, none⟩ = some (.int .i64 0) := by rw [Lib.cell_of_heap TS5.out.st.box]; rfl
                        have HF : Hid (Below w.heap.size w Y) := below_box TS5.out.st.low gY (Nat.le_refl _) TS5.out.st.low.size
                        clear gY
                        gi_wp2
                        rw [← hY]
                        refine bodyPost_ret (v := .tuple #[.slice none 0 0, .agg #[.int .i64 100, .int .i64 k]]) (by simp [results, Tryz.results14, go_sem, k0, k1]) rfl ?_
                        rw [HLX.out]
                        exact ⟨rfl, HF.out⟩
                    · have hmem := Lx.sign_mem hsg
                      obtain ⟨hyl, hex⟩ := pre_len (p := y) hk hmem.2
                      have hy0 : 0 < y.size := (Lx.signs_len _ hmem.1).1
                      have hy2 : y.size ≤ 2 := (Lx.signs_len _ hmem.1).2
                      have HLY : Hid (Lx.lex s.data.toList = Lx.rest (s.data.toList.drop (k + y.size)) (k + y.size) (acc ++ [⟨4, y.data.toList, k⟩])) := by
                        show Lx.lex s.data.toList = _
                        have e9 : y.data.toList.length = y.size := rfl
                        rw [HS2.out.lex, Lx.rest_tok k acc (Lx.step_sign HB0.out HP.out HN0.out hsg) HNE.out, List.drop_drop, (Lx.prefix_take hmem.2).1, e9]
                      have hadd : IntKind.i64.wrap ((k : Int) + (y.size : Int)) = (k : Int) + (y.size : Int) := by rw [IntKind.wrap_i64]; omega
                      clear hmem hex hsg
                      by_cases hqN : q < N
                      · have i1 : decide ((q : Int) < (N : Int)) = true := by simp; omega
                        obtain ⟨e0, e1, e2⟩ := TSt.cells hB
                        obtain ⟨v', W', hrun, hst', hcy⟩ := TSt.app hB hs (k + y.size) hyl (by omega) HLY.out
                        have HF : Hid (RSt w s (k + y.size) (acc ++ [⟨4, y.data.toList, k⟩]) v' W') := hst'
                        clear hst' hB
                        gi_wp2_with (gi_at_builtin; refine list_append rfl _ _ 40 rfl _ _ _ _ rfl rfl hrun ?_)
                        go_roundw
                        case rel => exact ⟨k + y.size, _, by go_num, HF.out⟩
                        case measure => simp [intOf]; omega
                      · have i1 : decide ((q : Int) < (N : Int)) = false := by simp; omega
                        obtain ⟨e0, e1, e2⟩ := TSt.cells hB
                        obtain ⟨v', W', hrun, hst', hcy⟩ := TSt.app hB hs (k + y.size) hyl (by omega) HLY.out
                        have HF : Hid (RSt w s (k + y.size) (acc ++ [⟨4, y.data.toList, k⟩]) v' W') := hst'
                        clear hst' hB
                        gi_wp2_with (gi_at_builtin; refine list_append rfl _ _ 40 rfl _ _ _ _ rfl rfl hrun ?_)
                        go_roundw
                        case rel => exact ⟨k + y.size, _, by go_num, HF.out⟩
                        case measure => simp [intOf]; omega
            · have hjn2 : j = n := by omega
              have hn0 : 0 < n := by omega
              have HMN : Hid (m = k + n) := by show m = k + n; omega
              have hkm : k < m := by omega
              clear hm hjn2
              gi_wp2_with fail
              refine ⟨trivial, ?_⟩
              gi_wp2_with fail
              case h_1.isTrue => exact absurd (by assumption : some undef = some (Value.bool _)) (by intro e; cases e)
              case h_1.isFalse => exact absurd (by assumption : some undef = some (Value.bool _)) (by intro e; cases e)
              refine ⟨trivial, ?_⟩
              gi_wp2_with fail
              obtain ⟨x, hx⟩ : ∃ x, x = s.extract k m := ⟨_, rfl⟩
              have hxd : x.data.toList = (s.data.toList.drop k).take n := by rw [hx, HMN.out]; exact extract_part s k n
              have hxs : x.size ≤ 1000000 := by rw [hx, ByteArray.size_extract]; omega
              obtain ⟨T, hT⟩ : ∃ T, T = wr.alloc (.cells #[.int .u8 0, .string x, .int .i64 k] 49) := ⟨_, rfl⟩
              have ts0 : TSt w s k acc (.slice at7 acc.length c7) wr.heap.size 0 x T := by rw [hT]; exact TSt.new HS2.out x
              rw [← hx, ← hT]
              obtain ⟨tb, htb⟩ : ∃ tb, tb = wr.heap.size := ⟨_, rfl⟩
              rw [← htb] at ts0 ⊢
              have TS : Hid (TSt w s k acc (.slice at7 acc.length c7) tb 0 x T) := ts0
              have STEP : Hid (Lx.step (s.data.toList.drop k) = if Lx.sort x.data.toList = 0 then .bad 101 else .tok (Lx.sort x.data.toList) n) := by
                show Lx.step (s.data.toList.drop k) = _
                have h9 := Lx.step_run HB0.out HP.out (by rw [← HN.out]; exact hn0)
                rw [← HN.out] at h9
                rw [hxd]; exact h9
              have HXD : Hid (x.data.toList = (s.data.toList.drop k).take n) := hxd
              clear hx hT htb hxd ts0
              refine ⟨trivial, ?_⟩
              refine (callsIn_wide.2 (number_any x hxs T)).mono ?_
              rintro r w4 ⟨⟨nv, rfl⟩, hw4⟩
              rw [hw4]
              clear hw4
              obtain ⟨c0, c1, c2⟩ := TS.out.cells
              gi_wp2_with fail
              refine region_lex (fun W => W.cell? ⟨tb, 1, none⟩ = some (.string x)) 2 3 rfl (by kernel_rfl) (by kernel_rfl) (by kernel_rfl) (by kernel_rfl) (fun _ _ d _ _ h => by cases d <;> exact h) c1 ?_
              simp only [List.take_succ_cons, List.take_zero]
              iterate 2 (first
                | (apply lexC_want
                   · rfl
                   · exact fun _ => rfl
                   · (intro w' hw'; go_simp; try rfl)
                   simp only [Act.put, List.setIfInBounds_toArray, List.set_cons_zero, List.set_cons_succ])
                | (apply lexC_skip
                   · rfl
                   · exact fun _ => rfl
                   simp only [Act.put, List.setIfInBounds_toArray, List.set_cons_zero, List.set_cons_succ]))
              refine lexC_nil ?_
              refine anyC_one (i := 2) (by kernel_rfl) rfl (by rfl) (fun K1 hK1 => ?_)
              go_simp
              refine ⟨trivial, ?_⟩
              refine (callsIn_wide.2 (rwords_any T.drew)).mono ?_
              rintro r w5 ⟨v5, rfl, hrow, hb5⟩
              have T5 : TSt w s k acc (.slice at7 acc.length c7) tb 0 x w5 := TS.out.below ((below_drewN (Below.refl _ T) 1).trans hb5)
              have TS5 : Hid (TSt w s k acc (.slice at7 acc.length c7) tb 0 x w5) := T5
              have d1 := T5.cells.2.1
              have ON : Hid (_) := one_any _ _ _ x w5 hrow (by decide)
              obtain ⟨va, vc, vb, vd, rfl, -, -, -⟩ := hrow.parts
              refine hK1 _ _ d1 ?_
              clear hK1 hrow hb5 T5 c0 c1 c2
              refine anyC_one (i := 3) (by kernel_rfl) rfl (by rfl) (fun K1 hK1 => ?_)
              go_simp
              refine ⟨trivial, ?_⟩
              refine (callsIn_wide.2 ON.out).mono ?_
              rintro r w6 ⟨rfl, hw6⟩
              rw [hw6]
              refine hK1 _ _ d1 ?_
              clear hK1 ON hw6
              refine anyC_one (i := 4) (by kernel_rfl) rfl (by rfl) (fun K1 hK1 => ?_)
              go_simp
              refine hK1 _ _ d1 ?_
              clear hK1
              refine anyC_done (by kernel_rfl) ?_
              cases hw : has Lx.words x.data.toList with
              | true =>
                have hso : Lx.sort x.data.toList = 2 := by have hw' : Lx.isWord x.data.toList = true := hw; simp [Lx.sort, hw']
                clear hw
                obtain ⟨e0, e1, e2⟩ := TSt.cells TS5.out
                have fz0 := TSt.frozen TS5.out 0
                have tk := TSt.kind TS5.out 2
                have HLX : Lx.lex s.data.toList = Lx.rest (s.data.toList.drop m) m (acc ++ [⟨2, x.data.toList, k⟩]) := by
                  have hsp : Lx.step (s.data.toList.drop k) = .tok 2 n := by rw [STEP.out, hso]; rfl
                  rw [HS2.out.lex, Lx.rest_tok k acc hsp HNE.out, List.drop_drop, HXD.out, HMN.out]
                obtain ⟨v', W', hrun, hst', -⟩ := tk.app hs m hkj hkm HLX
                have HF : Hid (RSt w s m (acc ++ [⟨2, x.data.toList, k⟩]) v' W') := hst'
                simp only [World.size_setCell] at hrun
                clear tk HLX hst' hso
                gi_wp2_with (gi_at_builtin; refine list_append rfl _ _ 40 rfl _ _ _ _ rfl rfl hrun ?_)
                go_roundw
                case rel => exact ⟨m, _, rfl, HF.out⟩
                case measure => simp [intOf]; omega
              | false =>
                have hw' : Lx.isWord x.data.toList = false := hw
                clear hw
                have NM : Hid (_) := rname_any x (by unfold maxLen; omega) w5
                obtain ⟨-, e1, -⟩ := TS5.out.cells
                gi_wp2_with fail
                refine ⟨trivial, ?_⟩
                refine (callsIn_wide.2 NM.out).mono ?_
                rintro r w7 ⟨rfl, hb7⟩
                have TS7 : Hid (TSt w s k acc (.slice at7 acc.length c7) tb 0 x w7) := TS5.out.below hb7
                clear NM hb7 e1 d1
                cases hnm : Lx.isName x.data.toList with
                | true =>
                  have hso : Lx.sort x.data.toList = 1 := by simp [Lx.sort, hw', hnm]
                  clear hnm
                  obtain ⟨e0, e1, e2⟩ := TSt.cells TS7.out
                  have fz0 := TSt.frozen TS7.out 0
                  have tk := TSt.kind TS7.out 1
                  have HLX : Lx.lex s.data.toList = Lx.rest (s.data.toList.drop m) m (acc ++ [⟨1, x.data.toList, k⟩]) := by
                    have hsp : Lx.step (s.data.toList.drop k) = .tok 1 n := by rw [STEP.out, hso]; rfl
                    rw [HS2.out.lex, Lx.rest_tok k acc hsp HNE.out, List.drop_drop, HXD.out, HMN.out]
                  obtain ⟨v', W', hrun, hst', -⟩ := tk.app hs m hkj hkm HLX
                  have HF : Hid (RSt w s m (acc ++ [⟨1, x.data.toList, k⟩]) v' W') := hst'
                  simp only [World.size_setCell] at hrun
                  clear tk HLX hst' hso
                  gi_wp2_with (gi_at_builtin; refine list_append rfl _ _ 40 rfl _ _ _ _ rfl rfl hrun ?_)
                  go_roundw
                  case rel => exact ⟨m, _, rfl, HF.out⟩
                  case measure => simp [intOf]; omega
                | false =>
                  cases hin : Lx.isInt x.data.toList with
                  | true =>
                    have hso : Lx.sort x.data.toList = 3 := by simp [Lx.sort, hw', hnm, hin]
                    clear hnm hin
                    obtain ⟨e0, e1, e2⟩ := TSt.cells TS7.out
                    have fz0 := TSt.frozen TS7.out 0
                    have tk := TSt.kind TS7.out 3
                    have HLX : Lx.lex s.data.toList = Lx.rest (s.data.toList.drop m) m (acc ++ [⟨3, x.data.toList, k⟩]) := by
                      have hsp : Lx.step (s.data.toList.drop k) = .tok 3 n := by rw [STEP.out, hso]; rfl
                      rw [HS2.out.lex, Lx.rest_tok k acc hsp HNE.out, List.drop_drop, HXD.out, HMN.out]
                    obtain ⟨v', W', hrun, hst', -⟩ := tk.app hs m hkj hkm HLX
                    have HF : Hid (RSt w s m (acc ++ [⟨3, x.data.toList, k⟩]) v' W') := hst'
                    simp only [World.size_setCell] at hrun
                    clear tk HLX hst' hso
                    gi_wp2_with (gi_at_builtin; refine list_append rfl _ _ 40 rfl _ _ _ _ rfl rfl hrun ?_)
                    go_roundw
                    case rel => exact ⟨m, _, rfl, HF.out⟩
                    case measure => simp [intOf]; omega
                  | false =>
                    have hso : Lx.sort x.data.toList = 0 := by simp [Lx.sort, hw', hnm, hin]
                    have HLX : Hid (Lx.lex s.data.toList = .fault 101 k) := by
                      show Lx.lex s.data.toList = .fault 101 k
                      have hsp : Lx.step (s.data.toList.drop k) = .bad 101 := by rw [STEP.out, hso]; rfl
                      rw [HS2.out.lex, Lx.rest_bad k acc hsp HNE.out]
                    obtain ⟨f0, f1, Y, hY, k0, k1, gY, -⟩ := fault_put TS7.out.st.box (.int .i64 101) (.int .i64 k)
                    have z0 : w7.cell? ⟨w.heap.size, 0, none⟩ = some (.int .i64 0) := by rw [Lib.cell_of_heap TS7.out.st.box]; rfl
                    have z1 : w7.cell? ⟨w.heap.size, 1, none⟩ = some (.int .i64 0) := by rw [Lib.cell_of_heap TS7.out.st.box]; rfl
                    have HF : Hid (Below w.heap.size w Y) := below_box TS7.out.st.low gY (Nat.le_refl _) TS7.out.st.low.size
                    clear gY hso hnm hin
                    gi_wp2
                    rw [← hY]
                    refine bodyPost_ret (v := .tuple #[.slice none 0 0, .agg #[.int .i64 101, .int .i64 k]]) (by simp [results, Tryz.results14, go_sem, k0, k1]) rfl ?_
                    rw [HLX.out]
                    exact ⟨rfl, HF.out⟩

    · have hke : k = s.size := by omega
      have HLX : Hid (Lx.lex s.data.toList = .ok acc) := by
        show Lx.lex s.data.toList = .ok acc
        have hn : s.data.toList.drop k = [] := List.drop_of_length_le (by rw [HSZ.out]; omega)
        rw [HST.out.lex, hn, Lx.rest_nil]
      obtain ⟨v', W', hrun, hown, hbox, hbel, -⟩ := tok_app HST.out hs 5 ⟨#[]⟩ s.size
      obtain ⟨f0, f1, Y, hY, k0, k1, gY, oY⟩ := fault_put hbox (.int .i64 0) (.int .i64 0)
      have z0 : W'.cell? ⟨w.heap.size, 0, none⟩ = some (.int .i64 0) := by rw [Lib.cell_of_heap hbox]; rfl
      have z1 : W'.cell? ⟨w.heap.size, 1, none⟩ = some (.int .i64 0) := by rw [Lib.cell_of_heap hbox]; rfl
      have HF : Hid (TokPost w.heap.size s.size (.returned (.tuple #[v', .agg #[.int .i64 0, .int .i64 0]])) Y (.ok acc) ∧ Below w.heap.size w Y) := ⟨⟨v', rfl, oY _ _ _ _ hown, by omega⟩, below_box hbel gY (Nat.le_refl _) hbel.size⟩
      clear hown hbox hbel gY oY
      gi_wp2_with (gi_at_builtin; refine list_append rfl _ _ 40 rfl _ _ _ _ rfl rfl hrun ?_)
      rw [← hY]
      refine bodyPost_ret (v := .tuple #[v', .agg #[.int .i64 0, .int .i64 0]]) (by simp [results, Tryz.results14, go_sem, k0, k1]) rfl ?_
      rw [HLX.out]
      exact HF.out


end Go.Proofs.YtfegodofbdlbeaaGreatDoor

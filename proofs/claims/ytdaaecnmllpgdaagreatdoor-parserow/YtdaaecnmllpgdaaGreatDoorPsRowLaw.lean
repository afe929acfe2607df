/-
  The walk of ParseRow.
-/
import Derived.Test.YtdaaecnmllpgdaaGreatDoorPsFine2
import Derived.Test.YtdaaecnmllpgdaaGreatDoorPsAllO
import Derived.Test.YtdaaecnmllpgdaaGreatDoorEndAll
import Derived.Test.YtdaaecnmllpgdaaGreatDoorPairAll
import Derived.Test.YtdaaecnmllpgdaaGreatDoorTrAll
namespace Go.Proofs.YtdaaecnmllpgdaaGreatDoor
open Go.RowKit Go.Shelf

attribute [local go_sem] Oper.semAt_some

/-- What File tells, ready to be stored, the row of the Kids its own. -/
def GToldO (s : ByteArray) (w w' : World) (v : Value) (E i : Nat) : Prop :=
  (E = 0 ∧ i = 0 ∧ ∃ ts, FileOk s.data.toList ts ∧ FNode w.heap.size w' v ts) ∨ (E ≠ 0 ∧ FileBad s.data.toList E i)
theorem GEndO.gen {s : ByteArray} {w w' : World} {e : Ending} (h : GEndO s w e w') : ∃ (k : Int) (tx : ByteArray) (n : Int) (a : Option Addr) (L c : Nat) (E i : Nat), e = .returned (.tuple #[.agg #[.int .u8 k, .string tx, .int .i64 n, .slice a L c], .agg #[.int .i64 E, .int .i64 i]]) ∧ GToldO s w w' (.agg #[.int .u8 k, .string tx, .int .i64 n, .slice a L c]) E i := by
  have hsz : s.data.toList.length = s.size := by simp
  have nz : ∀ {E i}, FileBad s.data.toList E i → E ≠ 0 := fun h => by rcases h.known.1 with h | h | h | h <;> omega
  unfold GEndO at h
  cases hl : Lx.lex s.data.toList with
  | fault E i =>
    rw [hl] at h
    have hb : FileBad s.data.toList E i := .inl hl
    exact ⟨0, _, _, _, _, _, E, i, h, .inr ⟨nz hb, hb⟩⟩
  | ok us =>
    rw [hl] at h
    rcases h with ⟨E, i, h, h2⟩ | ⟨ts', l', h, ⟨h1, h2⟩ | ⟨h1, v, h2, h3⟩⟩
    · have hb : FileBad s.data.toList E i := .inr ⟨us, hl, .inl (by rw [hsz]; exact h)⟩
      exact ⟨0, _, _, _, _, _, E, i, h2, .inr ⟨nz hb, hb⟩⟩
    · have hb : FileBad s.data.toList 103 0 := .inr ⟨us, hl, .inr ⟨rfl, rfl, ts', l', by rw [hsz]; exact h, h1⟩⟩
      exact ⟨0, _, _, _, _, _, 103, 0, h2, .inr ⟨nz hb, hb⟩⟩
    · obtain ⟨k, tx, n, a, L, c, rfl⟩ := h3.pshape
      exact ⟨_, _, _, _, _, _, 0, 0, h2, .inl ⟨rfl, rfl, ts', ⟨us, l', hl, by rw [hsz]; exact h, h1⟩, h3⟩⟩

/-- A row of nodes of its own, and another one behind it. -/
theorem rw_append {a : Nat} {V : World} {sl sm : Value} {xs : List N1} {ms : List Tr} {Q : Nat → Prop} (h : V.ownsRow a 26 4 sl xs.length (n1Cells xs)) (hx : ∀ x ∈ xs, x.Fit ∧ RowR Q V x.v x.kids) (hm : RowR Q V sm ms) (hQ : ∀ k, Q k → k < V.heap.size ∧ sl.ownBlock ≠ some k) (ha : a ≤ V.heap.size) (hl : xs.length + ms.length ≤ 1000000) :
    ∃ v' W' ys, ms = ys.map N1.tr ∧ (Builtin.append_ #[24, 24] 24 #[sl, sm]).run Tryz.prog V = .ok v' W' ∧ W'.ownsRow a 26 4 v' (xs ++ ys).length (n1Cells (xs ++ ys)) ∧ (∀ z ∈ xs ++ ys, z.Fit ∧ RowR Q W' z.v z.kids) ∧ V.grownBy W' sl.ownBlock ∧ (v'.ownBlock = sl.ownBlock ∨ v'.ownBlock = some V.heap.size) := by
  obtain ⟨i0, hi0, hz0, hz1, hz2⟩ := info_parts info_node
  cases hm with
  | mk ys e hc hl2 hf hk =>
    have hly : ms.length = ys.length := by rw [e, List.length_map]
    obtain ⟨ao, cap, b, off, rfl, ⟨-, hnone⟩, hab, hcell⟩ := hc
    cases ao with
    | none =>
      have hy : ys = [] := by
        cases ys with
        | nil => rfl
        | cons y ys => exact absurd (hab (by simp)).1 (by simp)
      subst hy
      have hc0 := hnone rfl
      subst hc0
      exact ⟨sl, V, [], e, run_append_owned_none V a 24 24 26 i0 4 Tryz.underlying24 hi0 sl xs.length (n1Cells xs) h, by simpa using h, by simpa using hx, ⟨rfl, rfl, rfl, Nat.le_refl _, fun _ _ _ => rfl⟩, .inl rfl⟩
    | some ad =>
      have hone : ∀ u ∈ n1Cells ys, u.oneCell' = true := n1_one (fun y hy => by
        obtain ⟨ka, kc, e2⟩ := (hk y hy).slice
        rw [e2]; rfl)
      obtain ⟨v', W', hrun, hown', hgr, -, hat⟩ := run_append_own_at (P := Tryz.prog) V a 24 24 26 i0 (.agg #[.int .u8 0, .string ⟨#[]⟩, .int .i64 0, .slice none 0 0]) 4 56 Tryz.underlying24 hi0 hz0 hz1 hz2 rfl (by decide) sl xs.length (n1Cells xs) h ad ys.length cap (n1Cells ys) (n1Cells_len ys) (fun j u hu => by
        have hj : j < (n1Cells ys).length := (List.getElem?_eq_some_iff.1 hu).1
        rw [n1Cells_len] at hj
        obtain ⟨e1, -⟩ := hab (by omega)
        cases e1
        have hadd : (⟨b, off, none⟩ : Addr).add j = ⟨b, off + j, none⟩ := by cases j <;> simp [Addr.add]
        rw [hadd]
        exact hcell j u hu) hone (by unfold maxLen; omega) (by omega) ha
      have key : ∀ (u : Value) (ts : List Tr), RowR Q V u ts → RowR Q W' u ts := fun u ts hr => hr.keep (fun k hk => hgr.block k (hQ k hk).1 (fun e => (hQ k hk).2 e.symm)) (fun k hk => hk)
      refine ⟨v', W', ys, e, hrun, ?_, fun y hy => ?_, hgr, hat⟩
      · rw [n1Cells_append, List.length_append]
        exact hown'
      · rcases List.mem_append.1 hy with hy | hy
        · exact ⟨(hx y hy).1, key _ _ (hx y hy).2⟩
        · exact ⟨hf y hy, key _ _ (hk y hy)⟩
theorem own_keep {a : Nat} {V W : World} {v : Value} {n : Nat} {xs : List Value} (h : V.ownsRow a 26 4 v n xs) (hk : ∀ k, v.ownBlock = some k → W.heap[k]? = V.heap[k]?) : W.ownsRow a 26 4 v n xs := by
  refine ⟨h.1, ?_⟩
  rcases h.2 with h0 | ⟨g, cap, cur, hv, hbg, hgb, rest⟩
  · exact .inl h0
  · exact .inr ⟨g, cap, cur, hv, hbg, (hk g (by rw [hv]; rfl)).trans hgb, rest⟩
theorem app_toList (a b : ByteArray) : (a ++ b).data.toList = a.data.toList ++ b.data.toList := by
  rw [ByteArray.data_append, Array.toList_append]

set_option maxRecDepth 100000 in
set_option maxHeartbeats 8000000 in
theorem prow_law (s m : ByteArray) (hs : s.size ≤ 140737488355328) (hm : m.size ≤ 140737488355328) (w : World) (hsg : SignsAt w.heap.size w) :
    Calls Tryz.prog 5 #[.string s, .string m] w fun r w' => r = .returned (.bool true) ∧ Below w.heap.size w w' := by
  have HSG : Hid (SignsAt w.heap.size w) := hsg
  have hadd : IntKind.i64.wrap ((s.size : Int) + (m.size : Int)) = (s.size : Int) + (m.size : Int) := by rw [IntKind.wrap_i64]; omega
  have HA : Hid (_) := pawake_any w hsg
  clear hsg
  by_cases h2 : s.size + m.size ≤ 3000
  · have i2 : decide (3000 < (s.size : Int) + (m.size : Int)) = false := by simp; omega
    obtain ⟨c, hc⟩ : ∃ c, c = s ++ ⟨#[10]⟩ ++ m := ⟨_, rfl⟩
    have hcd : c.data.toList = s.data.toList ++ 10 :: m.data.toList := by rw [hc, app_toList, app_toList]; simp
    have hls : s.data.toList.length = s.size := rfl
    have hcs : c.size = s.size + 1 + m.size := by
      have h1 : c.data.toList.length = c.size := rfl
      have h4 : m.data.toList.length = m.size := rfl
      rw [← h1, hcd, List.length_append, List.length_cons, hls, h4]; omega
    have HOK : Hid (∀ ns ms, FileOk s.data.toList ns → FileOk m.data.toList ms → FileOk c.data.toList (ns ++ ms)) := fun ns ms h k => by rw [hcd]; exact h.both k
    have HBD : Hid (∀ ns E i, FileOk s.data.toList ns → FileBad m.data.toList E i → ¬ (E = 103 ∧ i = 0) → FileBad c.data.toList E (i + (s.size + 1))) := fun ns E i h k hn => by rw [hcd, ← hls]; exact h.rowBad k hn
    have HSM : Hid (∀ ks, FileOk c.data.toList ks → (Tr.mk 1 [] 0 ks).size ≤ 400000) := fun ks hk => by
      have h1 := hk.small
      have h3 : c.data.toList.length = c.size := rfl
      omega
    have hcl : c.size ≤ 3001 := by omega
    have HML : Hid (m.data.toList.length = m.size) := rfl
    clear hcd hcs hls
    refine (callsIn_wide (n := 3)).1 ?_
    refine callsIn_of_wp Tryz.func5 rfl trivial ?_ rfl
    simp only [Tryz.ntmps5, List.size_toArray, List.length_cons, List.length_nil, Nat.reduceAdd, Nat.reduceSub, Array.replicate_succ, Array.replicate_zero, List.push_toArray, List.append_toArray, List.nil_append, List.cons_append]
    gi_wp2_with fail
    refine ⟨trivial, ?_⟩
    refine (callsIn_wide.2 HA.out).mono ?_
    rintro r w1 ⟨rfl, b1⟩
    have HB1 : Hid (Below w.heap.size w w1) := b1
    have HF : Hid (_) := pfileAllO_any s w1 ((HSG.out.keep b1).mono b1.size) (by omega)
    clear b1 HA
    gi_wp2_with fail
    refine ⟨trivial, ?_⟩
    refine (callsIn_wide.2 HF.out).mono ?_
    rintro r w2 ⟨b2, g2⟩
    clear HF
    obtain ⟨k, tx, n, a, L, cc, E, i, rfl, t2⟩ := g2.gen
    obtain ⟨y1, y2, y3, y4⟩ := two_boxes w2 #[.int .u8 k, .string tx, .int .i64 n, .slice a L cc] #[.int .i64 E, .int .i64 i]
    obtain ⟨Y2, hY⟩ : ∃ Y, Y = (w2.alloc (.cells #[.int .u8 k, .string tx, .int .i64 n, .slice a L cc] 26)).alloc (.cells #[.int .i64 E, .int .i64 i] 29) := ⟨_, rfl⟩
    rw [← hY] at y1 y2 y3 y4
    have H2 : Hid (Below w1.heap.size w1 w2 ∧ Below w2.heap.size w2 Y2 ∧ Y2.heap[w2.heap.size]? = some (.cells #[.int .u8 k, .string tx, .int .i64 n, .slice a L cc] 26 (0, 0)) ∧ Y2.heap[w2.heap.size + 1]? = some (.cells #[.int .i64 E, .int .i64 i] 29 (0, 0)) ∧ Below w.heap.size w Y2) := ⟨b2, y1, y3, y4, below_then (below_then HB1.out b2) y1⟩
    have HT2 : Hid (GToldO s w1 w2 (.agg #[.int .u8 k, .string tx, .int .i64 n, .slice a L cc]) E i) := t2
    have HF : Hid (_) := pfileAllO_any m Y2 ((HSG.out.keep H2.out.2.2.2.2).mono H2.out.2.2.2.2.size) (by omega)
    clear y1 y2 y3 y4 t2 g2 b2
    gi_wp2_with fail
    rw [← hY]
    clear hY
    refine ⟨trivial, ?_⟩
    refine (callsIn_wide.2 HF.out).mono ?_
    rintro r w3 ⟨b3, g3⟩
    clear HF
    obtain ⟨k2, tx2, n2, a2, L2, cc2, E2, j2, rfl, t3⟩ := g3.gen
    obtain ⟨y1, y2, y3, y4⟩ := two_boxes w3 #[.int .u8 k2, .string tx2, .int .i64 n2, .slice a2 L2 cc2] #[.int .i64 E2, .int .i64 j2]
    obtain ⟨Y3, hY⟩ : ∃ Y, Y = (w3.alloc (.cells #[.int .u8 k2, .string tx2, .int .i64 n2, .slice a2 L2 cc2] 26)).alloc (.cells #[.int .i64 E2, .int .i64 j2] 29) := ⟨_, rfl⟩
    rw [← hY] at y1 y2 y3 y4
    have H3 : Hid (Below Y2.heap.size Y2 w3 ∧ Below w3.heap.size w3 Y3 ∧ Y3.heap[w3.heap.size]? = some (.cells #[.int .u8 k2, .string tx2, .int .i64 n2, .slice a2 L2 cc2] 26 (0, 0)) ∧ Y3.heap[w3.heap.size + 1]? = some (.cells #[.int .i64 E2, .int .i64 j2] 29 (0, 0)) ∧ Below w.heap.size w Y3) := ⟨b3, y1, y3, y4, below_then (below_then H2.out.2.2.2.2 b3) y1⟩
    have HT3 : Hid (GToldO m Y2 w3 (.agg #[.int .u8 k2, .string tx2, .int .i64 n2, .slice a2 L2 cc2]) E2 j2) := t3
    have HF : Hid (_) := pfileAll_any c Y3 ((HSG.out.keep H3.out.2.2.2.2).mono H3.out.2.2.2.2.size) (by omega)
    clear y1 y2 y3 y4 t3 g3 b3
    gi_wp2_with fail
    rw [← hY, ← hc]
    clear hY hc
    refine ⟨trivial, ?_⟩
    refine (callsIn_wide.2 HF.out).mono ?_
    rintro r w4 ⟨b4, g4⟩
    clear HF
    obtain ⟨k3, tx3, n3, a3, L3, cc3, E3, j3, rfl, t4⟩ := g4.gen
    obtain ⟨y1, y2, y3, y4⟩ := two_boxes w4 #[.int .u8 k3, .string tx3, .int .i64 n3, .slice a3 L3 cc3] #[.int .i64 E3, .int .i64 j3]
    obtain ⟨Y4, hY⟩ : ∃ Y, Y = (w4.alloc (.cells #[.int .u8 k3, .string tx3, .int .i64 n3, .slice a3 L3 cc3] 26)).alloc (.cells #[.int .i64 E3, .int .i64 j3] 29) := ⟨_, rfl⟩
    rw [← hY] at y1 y2 y3 y4
    have H4 : Hid (Below Y3.heap.size Y3 w4 ∧ Below w4.heap.size w4 Y4 ∧ Y4.heap[w4.heap.size]? = some (.cells #[.int .u8 k3, .string tx3, .int .i64 n3, .slice a3 L3 cc3] 26 (0, 0)) ∧ Y4.heap[w4.heap.size + 1]? = some (.cells #[.int .i64 E3, .int .i64 j3] 29 (0, 0)) ∧ Below w.heap.size w Y4) := ⟨b4, y1, y3, y4, below_then (below_then H3.out.2.2.2.2 b4) y1⟩
    have HT4 : Hid (GTold c Y3 w4 (.agg #[.int .u8 k3, .string tx3, .int .i64 n3, .slice a3 L3 cc3]) E3 j3) := t4
    have HF : Hid (_) := tokens_any m Y4 ((HSG.out.keep H4.out.2.2.2.2).mono H4.out.2.2.2.2.size) (by omega)
    clear y1 y2 y3 y4 t4 g4 b4
    gi_wp2_with fail
    rw [← hY]
    clear hY
    refine ⟨trivial, ?_⟩
    refine (callsIn_wide.2 HF.out).mono ?_
    rintro r w5 ⟨hp, b5⟩
    clear HF
    obtain ⟨v5, e5, j5, rfl, hv5⟩ : ∃ (v5 : Value) (e5 j5 : Nat), r = .returned (.tuple #[v5, .agg #[.int .i64 e5, .int .i64 j5]]) ∧ ((∃ ms, FileOk m.data.toList ms) → e5 = 0) := by
      cases hl : Lx.lex m.data.toList with
      | fault e j =>
        rw [hl] at hp
        refine ⟨_, e, j, hp, ?_⟩
        rintro ⟨ms, us, l, h1, -⟩
        rw [hl] at h1; cases h1
      | ok us =>
        rw [hl] at hp
        obtain ⟨v, h1, -⟩ := hp
        exact ⟨v, 0, 0, h1, fun _ => rfl⟩
    clear hp
    have HV5 : Hid ((∃ ms, FileOk m.data.toList ms) → e5 = 0) := hv5
    clear hv5
    obtain ⟨p1, p2, p3, p4, p5⟩ := H2.out
    obtain ⟨q1, q2, q3, q4, q5⟩ := H3.out
    obtain ⟨r1, r2, r3, r4, r5⟩ := H4.out
    have b45 := b5
    have b35 : Below Y3.heap.size Y3 w5 := below_then (below_then r1 r2) b5
    have b25 : Below Y2.heap.size Y2 w5 := below_then (below_then q1 q2) b35
    have u3 := (b25.block _ (Array.getElem?_eq_some_iff.1 p3).1).trans p3
    have u4 := (b25.block _ (Array.getElem?_eq_some_iff.1 p4).1).trans p4
    have x3 := (b35.block _ (Array.getElem?_eq_some_iff.1 q3).1).trans q3
    have x4 := (b35.block _ (Array.getElem?_eq_some_iff.1 q4).1).trans q4
    have z3 := (b45.block _ (Array.getElem?_eq_some_iff.1 r3).1).trans r3
    have z4 := (b45.block _ (Array.getElem?_eq_some_iff.1 r4).1).trans r4
    have lu3 := (Array.getElem?_eq_some_iff.1 u3).1
    have lu4 := (Array.getElem?_eq_some_iff.1 u4).1
    have lx3 := (Array.getElem?_eq_some_iff.1 x3).1
    have lx4 := (Array.getElem?_eq_some_iff.1 x4).1
    have lz3 := (Array.getElem?_eq_some_iff.1 z3).1
    have lz4 := (Array.getElem?_eq_some_iff.1 z4).1
    have f0 : w5.cell? ⟨w2.heap.size + 1, 0, none⟩ = some (.int .i64 E) := cells_at u4 rfl
    have g0 : w5.cell? ⟨w3.heap.size + 1, 0, none⟩ = some (.int .i64 E2) := cells_at x4 rfl
    have g1 : w5.cell? ⟨w3.heap.size + 1, 1, none⟩ = some (.int .i64 j2) := cells_at x4 rfl
    have h0 : w5.cell? ⟨w4.heap.size + 1, 0, none⟩ = some (.int .i64 E3) := cells_at z4 rfl
    have h1 : w5.cell? ⟨w4.heap.size + 1, 1, none⟩ = some (.int .i64 j3) := cells_at z4 rfl
    have HB5 : Hid (Below w.heap.size w w5 ∧ Below w4.heap.size w4 w5) := ⟨below_then r5 b5, below_then r2 b5⟩
    have HE5 : Hid (Below w.heap.size w (w5.alloc (.cells #[.int .i64 e5, .int .i64 j5] 29))) := below_then HB5.out.1 (below_nw w5 _)
    rcases HT2.out with ⟨rfl, rfl, ns, ok1, fn1⟩ | ⟨hE, -⟩
    · rw [show ((0 : Nat) : Int) = 0 from rfl] at f0
      rcases HT3.out with ⟨rfl, rfl, ms, ok2, fn2⟩ | ⟨hE2, bad2⟩
      · have ok4 := HOK.out ns ms ok1 ok2
        rcases HT4.out with ⟨rfl, rfl, ks, ok4', nd4⟩ | ⟨-, bad4, -⟩
        rotate_left
        · exact (ok4.not bad4).elim
        obtain rfl : ks = ns ++ ms := ok4'.one ok4
        have hsm := HSM.out _ ok4
        have h50 : e5 = 0 := HV5.out ⟨ms, ok2⟩
        subst h50
        rw [show ((0 : Nat) : Int) = 0 from rfl] at g0 h0
        obtain ⟨sl, xs, hv1, rfl, hx1, rw1⟩ := fn1
        simp only [Value.agg.injEq, Array.mk.injEq, List.cons.injEq, and_true, Value.int.injEq, true_and, Value.string.injEq] at hv1
        obtain ⟨rfl, rfl, rfl, rfl⟩ := hv1
        obtain ⟨sl2, ys0, hv2, rfl, hx2, rw2⟩ := fn2
        simp only [Value.agg.injEq, Array.mk.injEq, List.cons.injEq, and_true, Value.int.injEq, true_and, Value.string.injEq] at hv2
        obtain ⟨rfl, rfl, rfl, rfl⟩ := hv2
        obtain ⟨V, hV⟩ : ∃ V, V = w5.alloc (.cells #[.int .i64 0, .int .i64 j5] 29) := ⟨_, rfl⟩
        have bV : Below w5.heap.size w5 V := hV ▸ below_new w5 _
        have hVf : V.heap[w5.heap.size]? = some (.cells #[.int .i64 0, .int .i64 j5] 29 (0, 0)) := by rw [hV]; exact World.alloc_heap_new w5 _
        have bw2V : Below w2.heap.size w2 V := below_then (below_then p2 b25) bV
        have bw3V : Below w3.heap.size w3 V := below_then (below_then q2 b35) bV
        have bw4V : Below w4.heap.size w4 V := below_then HB5.out.2 bV
        have s12 := p1.size
        have s2Y := p2.size
        have sY3 := q1.size
        have s3Y := q2.size
        have sY4 := r1.size
        have s5V := bV.size
        have s4V := bw4V.size
        have t2V := bw2V.size
        have t3V := bw3V.size
        have t2Y := (Array.getElem?_eq_some_iff.1 p3).1
        have t3Y := (Array.getElem?_eq_some_iff.1 q3).1
        have hob : ∀ q, (Value.slice a L cc).ownBlock = some q → w1.heap.size ≤ q ∧ q < w2.heap.size := fun q hq => World.ownsRow.lt rw1.own q hq
        obtain ⟨Q, hQ⟩ : ∃ Q : Nat → Prop, Q = fun k => (k < w2.heap.size ∧ (Value.slice a L cc).ownBlock ≠ some k) ∨ (Y2.heap.size ≤ k ∧ k < w3.heap.size) := ⟨_, rfl⟩
        have rx : ∀ x ∈ xs, x.Fit ∧ RowR Q V x.v x.kids := fun x hx => ⟨(rw1.each x hx).1, (rw1.each x hx).2.keep (fun k hk => bw2V.block k hk.2.1) (fun k hk => by rw [hQ]; exact .inl hk.2)⟩
        have ry : RowR Q V (.slice a2 L2 cc2) (ys0.map N1.tr) := (rw2.row hx2 (Nat.le_refl _)).keep (fun k hk => bw3V.block k hk.2) (fun k hk => by rw [hQ]; exact .inr hk)
        have hQV : ∀ k, Q k → k < V.heap.size ∧ (Value.slice a L cc).ownBlock ≠ some k := fun k hk => by
          rw [hQ] at hk
          rcases hk with ⟨h8, h9⟩ | ⟨h8, h9⟩
          · exact ⟨by omega, h9⟩
          · exact ⟨by omega, fun e => by have := (hob k e).2; omega⟩
        have hlen : xs.length + (ys0.map N1.tr).length ≤ 1000000 := by
          rw [Tr.size_eq] at hsm
          have h8 := Tr.length_sizes (Tr.kids (.mk 1 [] 0 (xs.map N1.tr ++ ys0.map N1.tr)))
          simp only [Tr.kids, List.length_append, List.length_map] at h8 ⊢
          simp only [Tr.kids] at hsm
          omega
        obtain ⟨v', V', ys, hys, hrun, hown, hez, hgr, hat⟩ := rw_append (own_keep rw1.own (fun k hk => bw2V.block k (hob k hk).2)) rx ry hQV (by omega) hlen
        have hV'k : ∀ k, w2.heap.size ≤ k → k < V.heap.size → V'.heap[k]? = V.heap[k]? := fun k h8 h9 => hgr.block k h9 (fun e => by have := (hob k e.symm).2; omega)
        have u5 := (bV.block _ (Array.getElem?_eq_some_iff.1 u3).1).trans u3
        have u6 := (hV'k w2.heap.size (Nat.le_refl _) (by omega)).trans u5
        obtain ⟨Z, hZ⟩ : ∃ Z, Z = V'.setCell ⟨w2.heap.size, 3, none⟩ v' := ⟨_, rfl⟩
        have hZb := heap_setCell_same V' w2.heap.size 3 _ 26 v' u6
        rw [← hZ] at hZb
        have gZ : V'.grownBy Z (some w2.heap.size) := by rw [hZ]; exact grown_set V' _ _ _
        have hZk : ∀ k, w2.heap.size < k → k < V.heap.size → Z.heap[k]? = V.heap[k]? := fun k h8 h9 => (gZ.block k (Nat.lt_of_lt_of_le h9 hgr.size) (by simp; omega)).trans (hV'k k (by omega) h9)
        have nx : NodeR (lowS Z.heap.size) Z (.agg #[.int .u8 k3, .string tx3, .int .i64 n3, .slice a3 L3 cc3]) (.mk 1 [] 0 (xs.map N1.tr ++ ys0.map N1.tr)) := by
          obtain ⟨x, c1, c2, c3, c4⟩ := nd4.step (a' := Y3.heap.size) (W' := Z) (fun k h8 h9 => (hZk k (by omega) (by omega)).trans (bw4V.block k h9)) (by have := gZ.size; have := hgr.size; omega) (Nat.le_refl _)
          exact ⟨x, c1, c2, c3, c4.mono (fun _ hk => hk.2)⟩
        have hvo : v'.ownBlock ≠ some w2.heap.size := fun e => by
          rcases hat with h8 | h8
          · rw [h8] at e
            have := (hob _ e).2
            omega
          · rw [h8] at e
            have := Option.some.inj e
            omega
        have rwZ : Rw 0 Z v' (xs ++ ys) := by
          refine ⟨?_, fun z hz => ⟨(hez z hz).1, (hez z hz).2.keep (fun k hk => gZ.block k (Nat.lt_of_lt_of_le (hQV k hk).1 hgr.size) (by
            have h7 := hk
            rw [hQ] at h7
            simp; rcases h7 with h7 | h7 <;> omega)) (fun k hk => ⟨Nat.zero_le _, Nat.lt_of_lt_of_le (Nat.lt_of_lt_of_le (hQV k hk).1 hgr.size) gZ.size, fun e => ?_⟩)⟩⟩
          · refine own_keep (a := 0) ?_ (fun k hk => gZ.block k (World.ownsRow.lt hown k hk).2 (fun e => hvo (by rw [hk]; exact e)))
            refine ⟨hown.1, ?_⟩
            rcases hown.2 with h0 | ⟨g, cap, cur, hv, hbg, rest⟩
            · exact .inl h0
            · exact .inr ⟨g, cap, cur, hv, Nat.zero_le _, rest⟩
          · rcases hat with h8 | h8
            · rw [h8] at e
              exact (hQV k hk).2 e
            · rw [h8] at e
              have := Option.some.inj e
              have := (hQV k hk).1
              omega
        have nn : NodeR (lowS Z.heap.size) Z (.agg #[.int .u8 1, .string (Ln.bs []), .int .i64 0, v']) (.mk 1 [] 0 (xs.map N1.tr ++ ys0.map N1.tr)) := by
          refine ⟨⟨1, [], 0, v', (xs ++ ys).map N1.tr⟩, rfl, by rw [hys, List.map_append]; rfl, ⟨by show (0 : Int) ≤ 1 ∧ (1 : Int) ≤ 255; decide, by show ([] : List UInt8).length ≤ _; decide, by show (-9223372036854775808 : Int) ≤ 0 ∧ (0 : Int) ≤ 9223372036854775807; decide⟩, (rwZ.row (c := 0) (by
            have h8 := congrArg List.length hys
            simp only [List.length_map] at h8 hlen
            rw [List.length_append]; omega) (Nat.le_refl _)).mono (fun _ hk => hk.2)⟩
        have HT : Hid (_) := tsame_any _ _ _ _ Z nx nn hsm
        rw [Tr.eqb_refl] at HT
        have HBZ : Hid (Below w.heap.size w Z) := by
          have e1 : Below w.heap.size w V' := Below.grown (below_then HB5.out.1 bV) hgr (below_then HB5.out.1 bV).size (fun q hq => by have := (hob q hq).1; have := HB1.out.size; omega)
          exact below_box e1 gZ (by have := HB1.out.size; omega) e1.size
        have kf : ∀ {o j : Nat} {u : Value}, Z.heap[o]? = V.heap[o]? → V.cell? ⟨o, j, none⟩ = some u → Z.cell? ⟨o, j, none⟩ = some u := fun {o j u} h8 h9 => (World.cell?_of_block (w := V) (a := ⟨o, j, none⟩) h8).trans h9
        have z3V := (bV.block _ lz3).trans z3
        have z4V := (bV.block _ lz4).trans z4
        have m3 : w5.cell? ⟨w2.heap.size, 3, none⟩ = some (.slice a L cc) := cells_at u3 rfl
        have l3 : w5.cell? ⟨w3.heap.size, 3, none⟩ = some (.slice a2 L2 cc2) := cells_at x3 rfl
        have vc : V'.cell? ⟨w2.heap.size, 3, none⟩ = some (.slice a L cc) := cells_at u6 rfl
        have vf : V'.frozen? ⟨w2.heap.size, 3, none⟩ = false := frozen_of_row V' _ 3 _ _ u6
        have s2V : w2.heap.size < w4.heap.size := by omega
        have c50 : Z.cell? ⟨w5.heap.size, 0, none⟩ = some (.int .i64 0) := kf (hZk _ (by omega) (Array.getElem?_eq_some_iff.1 hVf).1) (cells_at hVf rfl)
        have c40 : Z.cell? ⟨w4.heap.size + 1, 0, none⟩ = some (.int .i64 0) := kf (hZk _ (by omega) (by omega)) (cells_at z4V rfl)
        have d0 : Z.cell? ⟨w4.heap.size, 0, none⟩ = some (.int .u8 k3) := kf (hZk _ (by omega) (by omega)) (cells_at z3V rfl)
        have d1 : Z.cell? ⟨w4.heap.size, 1, none⟩ = some (.string tx3) := kf (hZk _ (by omega) (by omega)) (cells_at z3V rfl)
        have d2 : Z.cell? ⟨w4.heap.size, 2, none⟩ = some (.int .i64 n3) := kf (hZk _ (by omega) (by omega)) (cells_at z3V rfl)
        have d3 : Z.cell? ⟨w4.heap.size, 3, none⟩ = some (.slice a3 L3 cc3) := kf (hZk _ (by omega) (by omega)) (cells_at z3V rfl)
        have e0 : Z.cell? ⟨w2.heap.size, 0, none⟩ = some (.int .u8 1) := cells_at hZb rfl
        have e1 : Z.cell? ⟨w2.heap.size, 1, none⟩ = some (.string (Ln.bs [])) := cells_at hZb rfl
        have e2 : Z.cell? ⟨w2.heap.size, 2, none⟩ = some (.int .i64 0) := cells_at hZb rfl
        have e3 : Z.cell? ⟨w2.heap.size, 3, none⟩ = some v' := cells_at hZb rfl
        obtain ⟨va, vk, hv'⟩ := slice_shape hown
        obtain ⟨VL, hVL⟩ : ∃ N, N = (xs ++ ys).length := ⟨_, rfl⟩
        rw [← hVL] at hv'
        subst hv'
        rw [hV] at hrun
        rw [hZ] at c50 c40 d0 d1 d2 d3 e0 e1 e2 e3
        have n1 : w5.heap.size ≠ w2.heap.size := by omega
        have n2' : w4.heap.size + 1 ≠ w2.heap.size := by omega
        have n3' : w4.heap.size ≠ w2.heap.size := by omega
        clear rwZ nx nn kf hZk hZb gZ hV'k u5 u6 hown hez hgr hat hQV hQ rx ry hob bw2V bw3V bw4V bV hVf hV hVL hys hvo z3V z4V u3 u4 x3 x4 z3 z4 b45 b35 b25 p1 p2 p3 p4 p5 q1 q2 q3 q4 q5 r1 r2 r3 r4 r5 b5 ok1 ok2 ok4 ok4' nd4 rw1 rw2 hsm hlen
        gi_wp2_with (first
          | (gi_at_builtin; refine list_append rfl _ _ 24 rfl _ _ _ _ rfl rfl hrun ?_)
          | (refine ⟨trivial, ?_⟩; rw [← hZ]; clear hZ c50 c40 d0 d1 d2 d3 e0 e1 e2 e3 hrun; refine (callsIn_wide.2 HT.out).mono ?_; rintro r w9 ⟨rfl, b9⟩; have HE9 : Hid (Below w.heap.size w w9) := below_then HBZ.out b9; clear b9))
        exact bodyPost_ret (results_tmp rfl _ _ _) rfl ⟨rfl, HE9.out⟩
      · have hbd : j2 ≤ 3000 := by
          have h7 := bad2.known.2
          have h8 := HML.out
          omega
        by_cases hx : E2 = 103 ∧ j2 = 0
        · have e103 : ((E2 : Int) == 103) = true := by rw [hx.1]; rfl
          have ej : ((j2 : Int) == 0) = true := by rw [hx.2]; rfl
          clear hx bad2 u3 u4 x3 x4 z3 z4 b45 b35 b25 p1 p2 p3 p4 p5 q1 q2 q3 q4 q5 r1 r2 r3 r4 r5 b5 ok1 fn1
          gi_wp2
          exact bodyPost_ret (results_tmp rfl _ _ _) rfl ⟨rfl, HE5.out⟩
        · have hbc := HBD.out ns E2 j2 ok1 bad2 hx
          rcases HT4.out with ⟨-, -, ks, ok4, -⟩ | ⟨-, bad4, -⟩
          · exact (ok4.not hbc).elim
          obtain ⟨he3, hj3⟩ := bad4.one hbc
          subst he3
          have hz2 : ((E3 : Int) != 0) = true := by simpa using hE2
          have hee : ((E3 : Int) == (E3 : Int)) = true := by simp
          have w1' : IntKind.i64.wrap ((j2 : Int) + (s.size : Int)) = (j2 : Int) + (s.size : Int) := by rw [IntKind.wrap_i64]; omega
          have w2' : IntKind.i64.wrap ((j2 : Int) + (s.size : Int) + 1) = (j2 : Int) + (s.size : Int) + 1 := by rw [IntKind.wrap_i64]; omega
          have hjj : ((j3 : Int) == (j2 : Int) + (s.size : Int) + 1) = true := by rw [beq_iff_eq, hj3]; omega
          by_cases h103 : E3 = 103
          · have e103 : ((E3 : Int) == 103) = true := by rw [h103]; rfl
            have ej : ((j2 : Int) == 0) = false := by rw [beq_eq_false_iff_ne]; intro h9; exact hx ⟨h103, by omega⟩
            clear hx h103 hbc bad2 bad4 hj3 u3 u4 x3 x4 z3 z4 b45 b35 b25 p1 p2 p3 p4 p5 q1 q2 q3 q4 q5 r1 r2 r3 r4 r5 b5 ok1 fn1
            gi_wp2
            exact bodyPost_ret (results_tmp rfl _ _ _) rfl ⟨rfl, HE5.out⟩
          · have e103 : ((E3 : Int) == 103) = false := by rw [beq_eq_false_iff_ne]; omega
            clear hx h103 hbc bad2 bad4 hj3 u3 u4 x3 x4 z3 z4 b45 b35 b25 p1 p2 p3 p4 p5 q1 q2 q3 q4 q5 r1 r2 r3 r4 r5 b5 ok1 fn1
            gi_wp2
            exact bodyPost_ret (results_tmp rfl _ _ _) rfl ⟨rfl, HE5.out⟩
    · have hz : ((E : Int) != 0) = true := by simpa using hE
      clear u3 u4 x3 x4 z3 z4 b45 b35 b25 p1 p2 p3 p4 p5 q1 q2 q3 q4 q5 r1 r2 r3 r4 r5 b5
      gi_wp2
      exact bodyPost_ret (results_tmp rfl _ _ _) rfl ⟨rfl, HE5.out⟩
  · have i2 : decide (3000 < (s.size : Int) + (m.size : Int)) = true := by simp; omega
    go_enter Tryz.func5, Tryz.ntmps5
    go_wp2_with fail
    refine Calls.mono HA.out ?_
    rintro r w1 ⟨rfl, b1⟩
    have B1 : Hid (Below w.heap.size w w1) := b1
    clear b1
    go_wp2
    go_ret
    exact ⟨rfl, B1.out⟩
end Go.Proofs.YtdaaecnmllpgdaaGreatDoor

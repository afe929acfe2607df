/-
  The walks of what may stand in a node.
-/
import Derived.Test.YtejnleigjjaenaaTrGet
import Derived.Test.YtejnleigjjaenaaLxWord
import Derived.MapKept
namespace Go.Proofs.Ytejnleigjjaenaa
open Go.RowKit Go.Shelf

attribute [local go_sem] Oper.semAt_some

theorem find_none (k : Int) : ∀ (es : List MapEntry) (i : Nat), (∀ e ∈ es, ∃ k', e.key = .int .u8 k' ∧ k' ≠ k) → Instr.findNow (.int .u8) (.int .u8 k) es i = some none
  | [], _, _ => rfl
  | e :: es, i, h => by
    obtain ⟨k', h1, h2⟩ := h e List.mem_cons_self
    have hk : (k == k') = false := by simp; omega
    simp only [Instr.findNow, h1, Instr.sameNow, if_true, hk]
    exact find_none k es (i + 1) (fun e he => h e (List.mem_cons_of_mem _ he))
theorem find_some (k : Int) : ∀ (es : List MapEntry) (i j : Nat) (e : MapEntry), es[j]? = some e → e.key = .int .u8 k → (∀ e' ∈ es.take j, ∃ k', e'.key = .int .u8 k' ∧ k' ≠ k) → Instr.findNow (.int .u8) (.int .u8 k) es i = some (some (i + j, e.val))
  | [], _, j, _, h, _, _ => by simp at h
  | e0 :: es, i, 0, e, h, hk, _ => by
    simp only [List.getElem?_cons_zero, Option.some.injEq] at h
    subst h
    simp [Instr.findNow, hk, Instr.sameNow]
  | e0 :: es, i, j + 1, e, h, hk, hn => by
    obtain ⟨k', h1, h2⟩ := hn e0 (by simp)
    have hk2 : (k == k') = false := by simp; omega
    simp only [Instr.findNow, h1, Instr.sameNow, if_true, hk2]
    have := find_some k es (i + 1) j e (by simpa using h) hk (fun e' he' => hn e' (by simp [he']))
    rw [this]
    congr 3
    omega
theorem check_key (b : Bool) (k : Int) (w : World) : (Instr.checkKey b 10000 22 (.int .u8 k)).run Try.prog w = .ok () w := Go.MapKept.run_checkKey Try.underlying22 (by simp [Go.MapKept.IsKey]) b 9999
theorem find_key {k : Int} {es : List MapEntry} {r : Option (Nat × Value)} (h : Instr.findNow (.int .u8) (.int .u8 k) es 0 = some r) (w : World) : (Instr.findKey 22 (.int .u8 k) es).run Try.prog w = .ok r w := by
  simp [Instr.findKey, go_sem, run_underlying Try.underlying22, h]
theorem insert_run {w : World} {r clock : Nat} {es : Array MapEntry} {k : Int} (hb : w.heap[r]? = some (.map es clock)) (h : ∀ e ∈ es.toList, ∃ k', e.key = .int .u8 k' ∧ k' ≠ k) (v : Value) :
    (Instr.mapUpdate 45 (.map (some r)) (.int .u8 k) v).run Try.prog w = .ok () (w.putObj r (.map (es.push { key := .int .u8 k, val := v, born := clock }) (clock + 1))) := by
  have hf := find_key (find_none k es.toList 0 h) w
  simp only [Instr.mapUpdate, Sem.run_bind, run_underlying Try.underlying45, Result.andThen, Go.MapKept.run_getObj_map hb, check_key, hf, Go.MapKept.run_setObj_map _ hb]
  rfl
theorem lookup_run {w : World} {r clock : Nat} {es : Array MapEntry} {k : Int} (hb : w.heap[r]? = some (.map es clock)) {o : Option (Nat × Value)} (hf : Instr.findNow (.int .u8) (.int .u8 k) es.toList 0 = some o) :
    (Instr.lookup 45 (.map (some r)) (.int .u8 k) true).run Try.prog w = .ok (.tuple #[(o.map (·.2)).getD (.slice none 0 0), .bool o.isSome]) w ∧
    (Instr.lookup 45 (.map (some r)) (.int .u8 k) false).run Try.prog w = .ok ((o.map (·.2)).getD (.slice none 0 0)) w := by
  have hf := find_key hf w
  have hz : (zeroValue 65).run Try.prog w = .ok (.slice none 0 0) w := by simp [go_sem]
  constructor
  · cases o with
    | none => simp only [Instr.lookup, Sem.run_bind, run_underlying Try.underlying45, Result.andThen, Go.MapKept.run_getObj_map hb, check_key, hf, Sem.run_pure, hz]; rfl
    | some p => simp only [Instr.lookup, Sem.run_bind, run_underlying Try.underlying45, Result.andThen, Go.MapKept.run_getObj_map hb, check_key, hf, Sem.run_pure]; rfl
  · cases o with
    | none => simp only [Instr.lookup, Sem.run_bind, run_underlying Try.underlying45, Result.andThen, Go.MapKept.run_getObj_map hb, check_key, hf, Sem.run_pure, hz]; rfl
    | some p => simp only [Instr.lookup, Sem.run_bind, run_underlying Try.underlying45, Result.andThen, Go.MapKept.run_getObj_map hb, check_key, hf, Sem.run_pure]; rfl

set_option maxRecDepth 100000 in
set_option maxHeartbeats 4000000 in
theorem bears_any (k : Int) (w : World) : Calls Try.prog 31 #[.int .u8 k] w fun e w' => e = .returned (.bool (Tr.bears k)) ∧ w' = w := by
  go_enter Try.func31, Try.ntmps31
  go_wp2
  all_goals (go_ret; refine ⟨congrArg (fun b => Ending.returned (.bool b)) ?_, rfl⟩; unfold Tr.bears; first | rfl | (simp_all; done) | (simp; omega))

set_option maxRecDepth 100000 in
set_option maxHeartbeats 4000000 in
theorem stands_any (a k : Int) (w : World) : Calls Try.prog 64 #[.int .u8 a, .int .u8 k] w fun e w' => e = .returned (.bool (Tr.stands a k)) ∧ w' = w := by
  go_enter Try.func64, Try.ntmps64
  go_wp2
  all_goals (go_ret; refine ⟨congrArg (fun b => Ending.returned (.bool b)) ?_, rfl⟩; unfold Tr.stands; first | rfl | (simp_all; done) | (simp_all; omega))

/-- The table, as it lies in memory: what each Kind's row reads as. -/
def TabEs (w : World) : List MapEntry → List (Int × List Int) → Prop
  | [], [] => True
  | e :: es, p :: ps => e.key = .int .u8 p.1 ∧ CellsLow w.heap.size w e.val p.2.length (p.2.map (Value.int .u8)) ∧ TabEs w es ps
  | _, _ => False
theorem TabEs.at {A B : World} (hb : Below A.heap.size A B) : ∀ {es : List MapEntry} {ps : List (Int × List Int)}, TabEs A es ps → TabEs B es ps
  | [], [], _ => trivial
  | _ :: _, _ :: _, h => ⟨h.1, CellsLow.at h.2.1 hb (fun h0 => by rw [List.length_eq_zero_iff.1 h0]; rfl), TabEs.at hb h.2.2⟩
  | [], _ :: _, h => h.elim
  | _ :: _, [], h => h.elim
theorem TabEs.snoc {w : World} {e : MapEntry} {p : Int × List Int} (h1 : e.key = .int .u8 p.1) (h2 : CellsLow w.heap.size w e.val p.2.length (p.2.map (Value.int .u8))) : ∀ {es : List MapEntry} {ps : List (Int × List Int)}, TabEs w es ps → TabEs w (es ++ [e]) (ps ++ [p])
  | [], [], _ => ⟨h1, h2, trivial⟩
  | _ :: _, _ :: _, h => ⟨h.1, h.2.1, TabEs.snoc h1 h2 h.2.2⟩
  | [], _ :: _, h => h.elim
  | _ :: _, [], h => h.elim
theorem TabEs.apart {w : World} {k : Int} : ∀ {es : List MapEntry} {ps : List (Int × List Int)}, TabEs w es ps → (ps.all fun p => p.1 != k) = true → ∀ e ∈ es, ∃ k', e.key = .int .u8 k' ∧ k' ≠ k
  | [], _, _, _ => fun _ h => by cases h
  | e :: es, p :: ps, h, hk => fun e' he' => by
    simp only [List.all_cons, Bool.and_eq_true, bne_iff_ne] at hk
    rcases List.mem_cons.1 he' with rfl | he'
    · exact ⟨p.1, h.1, hk.1⟩
    · exact TabEs.apart h.2.2 (by simpa using hk.2) e' he'
  | _ :: _, [], h, _ => h.elim

def TabW (w0 : World) (ps : List (Int × List Int)) (w : World) : Prop := Below w0.heap.size w0 w ∧ ∃ es clock, w.heap[w0.heap.size]? = some (.map es clock) ∧ TabEs w es.toList ps

theorem tab_step {w0 w : World} {ps : List (Int × List Int)} (h : TabW w0 ps w) (k : Int) (l : List Int) (hk : (ps.all fun p => p.1 != k) = true) :
    ∃ w', (Instr.mapUpdate 45 (.map (some w0.heap.size)) (.int .u8 k) (.slice (some ⟨w.heap.size, 0, none⟩) l.length l.length)).run Try.prog (w.alloc (.cells (l.map (Value.int .u8)).toArray 22)) = .ok () w' ∧ TabW w0 (ps ++ [(k, l)]) w' := by
  obtain ⟨hB, es, clock, hm, ht⟩ := h
  have hlt := (Array.getElem?_eq_some_iff.1 hm).1
  have b1 : Below w.heap.size w (w.alloc (.cells (l.map (Value.int .u8)).toArray 22)) := below_new w _
  have hm1 : (w.alloc (.cells (l.map (Value.int .u8)).toArray 22)).heap[w0.heap.size]? = some (.map es clock) := (b1.block _ hlt).trans hm
  refine ⟨_, insert_run hm1 (ht.apart hk) _, ?_⟩
  obtain ⟨W, hW⟩ : ∃ W, W = w.alloc (.cells (l.map (Value.int .u8)).toArray 22) := ⟨_, rfl⟩
  rw [← hW] at b1 hm1 ⊢
  have hwlt : w0.heap.size < W.heap.size := (Array.getElem?_eq_some_iff.1 hm1).1
  obtain ⟨o, ho⟩ : ∃ o, o = Obj.map (es.push { key := .int .u8 k, val := .slice (some ⟨w.heap.size, 0, none⟩) l.length l.length, born := clock }) (clock + 1) := ⟨_, rfl⟩
  rw [← ho]
  have hsz : (W.putObj w0.heap.size o).heap.size = W.heap.size := by simp [World.putObj]
  have hoth : ∀ b, b ≠ w0.heap.size → (W.putObj w0.heap.size o).heap[b]? = W.heap[b]? := fun b hb => World.putObj_heap_other hb
  have bP : Below w0.heap.size W (W.putObj w0.heap.size o) := ⟨rfl, rfl, rfl, by rw [hsz]; omega, fun b hb => hoth b (by omega)⟩
  refine ⟨(hB.trans (b1.mono hB.size)).trans bP, es.push { key := .int .u8 k, val := .slice (some ⟨w.heap.size, 0, none⟩) l.length l.length, born := clock }, clock + 1, by rw [World.putObj_heap_same hwlt, ho], ?_⟩
  rw [Array.toList_push]
  have lift : ∀ {n : Nat} {v : Value} {xs : List Value}, (n = 0 → xs = []) → CellsLow W.heap.size W v n xs → CellsLow (W.putObj w0.heap.size o).heap.size (W.putObj w0.heap.size o) v n xs := by
    intro n v xs h0 hc
    obtain ⟨ao, cap, b, off, hv, hcap, ha, hx⟩ := hc
    refine ⟨ao, cap, b, off, hv, hcap, fun h => ⟨(ha h).1, by rw [hsz]; exact (ha h).2⟩, fun j u hu => ?_⟩
    have hc := hx j u hu
    have hbn : b ≠ w0.heap.size := fun e => by
      subst e
      simp [World.cell?, hm1] at hc
    exact (World.cell?_of_block (w := W) (a := ⟨b, off + j, none⟩) (hoth b hbn)).trans hc
  have liftE : ∀ {es : List MapEntry} {ps : List (Int × List Int)}, TabEs W es ps → TabEs (W.putObj w0.heap.size o) es ps := by
    intro es
    induction es with
    | nil => intro ps h; cases ps with
      | nil => trivial
      | cons _ _ => exact h.elim
    | cons e es ih => intro ps h; cases ps with
      | nil => exact h.elim
      | cons p ps => exact ⟨h.1, lift (fun h0 => by rw [List.length_eq_zero_iff.1 h0]; rfl) h.2.1, ih h.2.2⟩
  refine TabEs.snoc (p := (k, l)) rfl (lift (fun h0 => by rw [List.length_eq_zero_iff.1 h0]; rfl) ?_) (liftE (ht.at b1))
  have := CellsLow.lit w (l.map (Value.int .u8)) 22 l.length
  rw [← hW] at this
  exact this

def Tr.rowsL : List (Int × List Int) := [(1, [2, 203]), (2, [3, 5]), (3, [4, 203]), (4, []), (5, [201, 203]), (6, [200]), (7, [202, 200]), (8, [200, 5, 5]), (9, [200, 5]), (10, [200]), (11, [200]), (12, [25]), (20, []), (21, []), (22, []), (23, [200]), (24, [200, 200]), (25, [200, 203]), (26, [200, 200]), (27, [200, 200]), (28, [200]), (29, [])]

set_option maxRecDepth 100000 in
set_option maxHeartbeats 4000000 in
theorem rows_any (w : World) : Calls Try.prog 22 #[] w fun e w' => e = .returned (.map (some w.heap.size)) ∧ TabW w Tr.rowsL w' := by
  obtain ⟨V0, h0⟩ : ∃ V, V = w.alloc (.map #[] 0) := ⟨_, rfl⟩
  have u0 : (Instr.makeMap 45 none).run Try.prog w = .ok (.map (some w.heap.size)) V0 := by rw [h0]; rfl
  have t0 : TabW w [] V0 := ⟨by rw [h0]; exact below_new w _, #[], 0, by rw [h0]; exact World.alloc_heap_new w _, trivial⟩
  clear h0
  obtain ⟨V1, u1, t1⟩ := tab_step t0 1 [2, 203] (by decide)
  clear t0
  obtain ⟨V2, u2, t2⟩ := tab_step t1 2 [3, 5] (by decide)
  clear t1
  obtain ⟨V3, u3, t3⟩ := tab_step t2 3 [4, 203] (by decide)
  clear t2
  obtain ⟨V4, u4, t4⟩ := tab_step t3 4 [] (by decide)
  clear t3
  obtain ⟨V5, u5, t5⟩ := tab_step t4 5 [201, 203] (by decide)
  clear t4
  obtain ⟨V6, u6, t6⟩ := tab_step t5 6 [200] (by decide)
  clear t5
  obtain ⟨V7, u7, t7⟩ := tab_step t6 7 [202, 200] (by decide)
  clear t6
  obtain ⟨V8, u8, t8⟩ := tab_step t7 8 [200, 5, 5] (by decide)
  clear t7
  obtain ⟨V9, u9, t9⟩ := tab_step t8 9 [200, 5] (by decide)
  clear t8
  obtain ⟨V10, u10, t10⟩ := tab_step t9 10 [200] (by decide)
  clear t9
  obtain ⟨V11, u11, t11⟩ := tab_step t10 11 [200] (by decide)
  clear t10
  obtain ⟨V12, u12, t12⟩ := tab_step t11 12 [25] (by decide)
  clear t11
  obtain ⟨V13, u13, t13⟩ := tab_step t12 20 [] (by decide)
  clear t12
  obtain ⟨V14, u14, t14⟩ := tab_step t13 21 [] (by decide)
  clear t13
  obtain ⟨V15, u15, t15⟩ := tab_step t14 22 [] (by decide)
  clear t14
  obtain ⟨V16, u16, t16⟩ := tab_step t15 23 [200] (by decide)
  clear t15
  obtain ⟨V17, u17, t17⟩ := tab_step t16 24 [200, 200] (by decide)
  clear t16
  obtain ⟨V18, u18, t18⟩ := tab_step t17 25 [200, 203] (by decide)
  clear t17
  obtain ⟨V19, u19, t19⟩ := tab_step t18 26 [200, 200] (by decide)
  clear t18
  obtain ⟨V20, u20, t20⟩ := tab_step t19 27 [200, 200] (by decide)
  clear t19
  obtain ⟨V21, u21, t21⟩ := tab_step t20 28 [200] (by decide)
  clear t20
  obtain ⟨V22, u22, t22⟩ := tab_step t21 29 [] (by decide)
  clear t21
  have HF : Hid (TabW w Tr.rowsL V22) := t22
  clear t22
  simp only [List.length_cons, List.length_nil, Nat.reduceAdd, List.map_cons, List.map_nil] at u1 u2 u3 u4 u5 u6 u7 u8 u9 u10 u11 u12 u13 u14 u15 u16 u17 u18 u19 u20 u21 u22
  go_enter Try.func22, Try.ntmps22
  go_wp2
  go_ret
  exact ⟨rfl, HF.out⟩
end Go.Proofs.Ytejnleigjjaenaa

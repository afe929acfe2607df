/-
  The maps of signs: what is put in, and found; the walks of judges, counts, binaries and unaries.
-/
import Derived.Test.YtcnmgebjbaclaaaDoorVlMakes
import Derived.Maps.Own
import Derived.Maps.OwnSet
import Derived.Maps.Views
import Derived.Carry
namespace Go.Proofs.YtcnmgebjbaclaaaDoor
open Go.RowKit Go.Shelf Go.WideMaps
open Vl (V Res)

attribute [local go_sem] Oper.semAt_some

/-- Any value, as it stands. -/
def RH (v : Value) : Option (DataW Value × List MemPlace) := some (.held v, [])
def dOps : List (List UInt8 × Value) → DataW Value
  | [] => .map []
  | x :: r => (dOps r).put (.string x.1) (.held x.2)
def findOp : List (List UInt8 × Value) → List UInt8 → Option Value
  | [], _ => none
  | x :: r, q => if x.1 = q then some x.2 else findOp r q
theorem dOps_map : ∀ l, Maps.IsMap (dOps l)
  | [] => Maps.isMap_empty
  | _ :: r => (dOps_map r).put _ _
theorem dOps_at (q : List UInt8) (z : DataW Value) : ∀ l, (dOps l).atKey (.string q) z = match findOp l q with | none => z | some v => .held v
  | [] => rfl
  | x :: r => by
    rw [dOps, findOp]
    by_cases h : x.1 = q
    · rw [if_pos h, h]
      exact Maps.atKey_put_same (dOps_map r) (by trivial) _ _
    · rw [if_neg h, Maps.atKey_put_other (fun e => h (by injection e with e; exact e.symm))]
      exact dOps_at q z r

/-- A map of signs. -/
def OpsAt (w : World) (m : Nat) (l : List (List UInt8 × Value)) : Prop := w.ownsMap Tryd.prog 9 RH m l.length (dOps l)
theorem OpsAt.new (w : World) : OpsAt (w.alloc (.map #[] 0)) w.heap.size [] := World.ownsMap_made _ _ _ _
theorem OpsAt.lt {w : World} {m : Nat} {l : List (List UInt8 × Value)} (h : OpsAt w m l) : m < w.heap.size := World.ownsMap.lt h
theorem OpsAt.go {w w' : World} {m : Nat} {l : List (List UInt8 × Value)} (h : OpsAt w m l) (hk : w'.heap[m]? = w.heap[m]?) : OpsAt w' m l := by
  obtain ⟨es, c, h2, h3⟩ := h
  exact ⟨es, c, hk.trans h2, h3⟩
theorem OpsAt.at {w w' : World} {m : Nat} {l : List (List UInt8 × Value)} (h : OpsAt w m l) (hb : Below w.heap.size w w') : OpsAt w' m l := h.go (hb.block m h.lt)
theorem opKey (q : List UInt8) (hq : q.length ≤ 1000000) : keyOf Tryd.prog 9 (.string (Ln.bs q)) = some (.string q) := by
  have h := keyOf_string_mk (P := Tryd.prog) Tryd.underlying9 (s := Ln.bs q) (by rw [Ln.bs_size]; unfold maxLen; omega)
  rw [h]; rfl
theorem OpsAt.put {w : World} {m : Nat} {l : List (List UInt8 × Value)} (h : OpsAt w m l) (q : List UInt8) (hq : q.length ≤ 1000000) (v : Value) (hl : l.length ≤ 1000000) :
    ∃ w', (Instr.mapUpdate 54 (.map (some m)) (.string (Ln.bs q)) v).run Tryd.prog w = .ok () w' ∧ OpsAt w' m ((q, v) :: l) ∧ w.grownBy w' (some m) :=
  World.ownsMap.update h (Maps.string_keyed Tryd.underlying9) Tryd.underlying54 (by unfold maxLen; omega) (opKey q hq) rfl
abbrev zeroOp : Value := .agg #[.nilFunc, .nilFunc]
set_option maxRecDepth 100000 in
theorem zeroOp_run (w : World) : (zeroValue 67).run Tryd.prog w = .ok zeroOp w := by rfl
/-- What a lookup tells. -/
def foundV : Option Value → Value
  | none => .tuple #[zeroOp, .bool false]
  | some v => .tuple #[v, .bool true]
set_option maxRecDepth 100000 in
theorem OpsAt.look {w : World} {m : Nat} {l : List (List UInt8 × Value)} (h : OpsAt w m l) (q : List UInt8) (hq : q.length ≤ 1000000) :
    (Instr.lookup 54 (.map (some m)) (.string (Ln.bs q)) true).run Tryd.prog w = .ok (foundV (findOp l q)) w := by
  obtain ⟨es, clock, hb, F, _, hD⟩ := h
  rcases Maps.fit_look true (Maps.string_keyed Tryd.underlying9) Tryd.underlying54 (zeroOp_run w) hb F (opKey q hq) with ⟨hrun, -, hat⟩ | ⟨e0, y, -, -, hrun, hRv, hat, -⟩
  · rw [hrun]
    rw [← hD] at hat
    have h1 := hat (.lit (.int .i64 0))
    rw [dOps_at] at h1
    cases hf : findOp l q with
    | none => rfl
    | some v => rw [hf] at h1; cases h1
  · rw [hrun]
    rw [← hD] at hat
    have h1 := hat (.lit (.int .i64 0))
    have h2 := hat (.lit (.int .i64 1))
    rw [dOps_at] at h1 h2
    injection hRv with hRv
    cases hf : findOp l q with
    | none =>
      rw [hf] at h1 h2
      have h3 := h1.trans h2.symm
      cases h3
    | some v =>
      rw [hf, ← hRv] at h1
      injection h1 with h1
      rw [h1]; rfl

/-- A sign's two functions: what it takes, and the closure that makes it of them. -/
abbrev opV (t c b : Nat) : Value := .agg #[fnV t, .func (.func c) #[] #[boxP b]]
set_option maxRecDepth 100000 in
set_option maxHeartbeats 2000000 in
theorem judges_any (t h : Nat) (w : World) : Calls Tryd.prog 56 #[fnV t, fnV h] w fun e w' => ∃ b, e = .returned (opV t 80 b) ∧ w'.cell? ⟨b, 0, none⟩ = some (fnV h) ∧ w.heap.size ≤ b ∧ Below w.heap.size w w' := by
  have hmf : ∀ (fn : Fn) (first cap : Array Value) (w : World), (Instr.makeFunc fn first cap).run Tryd.prog w = .ok (.func fn first cap) w := fun _ _ _ _ => rfl
  have hstf := fun (a : Addr) (fn : Fn) (c1 c2 : Array Value) (w : World) => run_store Tryd.prog w a (.func fn c1 c2) .plain rfl
  go_enter Tryd.func56, Tryd.ntmps56
  go_wp2
  refine bodyPost_ret (v := opV t 80 w.heap.size) ?_ rfl ⟨_, rfl, ?_, Nat.le_refl _, below_two w _ _⟩
  · simp [results, Tryd.results56, go_sem]
  · exact cell_some_below (vcells_at (World.alloc_heap_new w _) rfl) (below_new _ _)
set_option maxRecDepth 100000 in
set_option maxHeartbeats 2000000 in
theorem counts_any (h : Nat) (w : World) : Calls Tryd.prog 65 #[fnV h] w fun e w' => ∃ b, e = .returned (opV 43 82 b) ∧ w'.cell? ⟨b, 0, none⟩ = some (fnV h) ∧ w.heap.size ≤ b ∧ Below w.heap.size w w' := by
  have hmf : ∀ (fn : Fn) (first cap : Array Value) (w : World), (Instr.makeFunc fn first cap).run Tryd.prog w = .ok (.func fn first cap) w := fun _ _ _ _ => rfl
  have hstf := fun (a : Addr) (fn : Fn) (c1 c2 : Array Value) (w : World) => run_store Tryd.prog w a (.func fn c1 c2) .plain rfl
  go_enter Tryd.func65, Tryd.ntmps65
  go_wp2
  refine bodyPost_ret (v := opV 43 82 w.heap.size) ?_ rfl ⟨_, rfl, ?_, Nat.le_refl _, below_two w _ _⟩
  · simp [results, Tryd.results65, go_sem]
  · exact cell_some_below (vcells_at (World.alloc_heap_new w _) rfl) (below_new _ _)

/-- The signs of a map: name, what it takes, its closure, what that closure holds. -/
abbrev Ent := List UInt8 × Nat × Nat × Nat
def Fits (w : World) : List (List UInt8 × Value) → List Ent → Prop
  | [], [] => True
  | l :: L, e :: E => (∃ b, l = (e.1, opV e.2.1 e.2.2.1 b) ∧ w.cell? ⟨b, 0, none⟩ = some (fnV e.2.2.2)) ∧ Fits w L E
  | _, _ => False
def findE : List Ent → List UInt8 → Option (Nat × Nat × Nat)
  | [], _ => none
  | e :: E, q => if e.1 = q then some e.2 else findE E q
theorem Fits.go {w w' : World} (hc : ∀ b v, w.cell? ⟨b, 0, none⟩ = some (fnV v) → w'.cell? ⟨b, 0, none⟩ = some (fnV v)) : ∀ L E, Fits w L E → Fits w' L E
  | [], [], _ => trivial
  | _ :: L, _ :: E, ⟨⟨b, h1, h2⟩, h3⟩ => ⟨⟨b, h1, hc _ _ h2⟩, Fits.go hc L E h3⟩
  | [], _ :: _, h => h.elim
  | _ :: _, [], h => h.elim
theorem Fits.len {w : World} : ∀ L E, Fits w L E → L.length = E.length
  | [], [], _ => rfl
  | _ :: L, _ :: E, ⟨_, h3⟩ => by simp [Fits.len L E h3]
  | [], _ :: _, h => h.elim
  | _ :: _, [], h => h.elim
theorem Fits.find {w : World} (q : List UInt8) : ∀ L E, Fits w L E → match findE E q with | none => findOp L q = none | some x => ∃ b, findOp L q = some (opV x.1 x.2.1 b) ∧ w.cell? ⟨b, 0, none⟩ = some (fnV x.2.2)
  | [], [], _ => rfl
  | l :: L, e :: E, ⟨⟨b, h1, h2⟩, h3⟩ => by
    unfold findE findOp
    rw [h1]
    by_cases hq : e.1 = q
    · rw [if_pos hq, if_pos hq]; exact ⟨b, rfl, h2⟩
    · rw [if_neg hq, if_neg hq]; exact Fits.find q L E h3
  | [], _ :: _, h => h.elim
  | _ :: _, [], h => h.elim

/-- A map that is being filled. -/
def OI (B : Nat) (w0 w : World) (m : Nat) (E : List Ent) : Prop := B ≤ m ∧ Below B w0 w ∧ ∃ L, OpsAt w m L ∧ Fits w L E
theorem OI.new (w : World) : OI w.heap.size w (w.alloc (.map #[] 0)) w.heap.size [] := ⟨Nat.le_refl _, below_new w _, [], OpsAt.new w, trivial⟩
theorem OI.put {B : Nat} {w0 w w1 : World} {m : Nat} {E : List Ent} (h : OI B w0 w m E) (hE : E.length ≤ 1000) (hb : Below w.heap.size w w1) (q : List UInt8) (hq : q.length ≤ 1000000) (t c hh b : Nat) (hc : w1.cell? ⟨b, 0, none⟩ = some (fnV hh)) :
    ∃ w2, (Instr.mapUpdate 54 (.map (some m)) (.string (Ln.bs q)) (opV t c b)).run Tryd.prog w1 = .ok () w2 ∧ OI B w0 w2 m ((q, t, c, hh) :: E) := by
  obtain ⟨h1, h2, L, h3, h4⟩ := h
  have hm := h3.lt
  obtain ⟨w2, hrun, ho, hg⟩ := (h3.at hb).put q hq (opV t c b) (by rw [h4.len]; omega)
  have hBw : B ≤ w.heap.size := by omega
  have stays : ∀ b v, w1.cell? ⟨b, 0, none⟩ = some (fnV v) → w2.cell? ⟨b, 0, none⟩ = some (fnV v) := fun b v hv => by
    have hlt : b < w1.heap.size := by simpa using World.block_lt_of_cell? _ _ hv
    by_cases hbm : b = m
    · exfalso
      subst hbm
      obtain ⟨es, c, hobj, -⟩ := h3.at hb
      simp [World.cell?, hobj] at hv
    · have hblk := hg.block b hlt (by simpa using hbm)
      simp only [World.cell?, hblk] at hv ⊢
      exact hv
  refine ⟨w2, hrun, h1, (h2.trans (hb.mono hBw)).trans ⟨hg.os, hg.tape, hg.output, hg.size, fun j hj => hg.block j (by have := hb.size; omega) (fun e => by cases e; omega)⟩, _, ho, ⟨b, rfl, stays _ _ hc⟩, Fits.go (fun b v hv => stays b v (cell_some_below hv hb)) L E h4⟩
/-- Once it is filled. -/
theorem OI.at {B : Nat} {w0 w w1 : World} {m : Nat} {E : List Ent} (h : OI B w0 w m E) (hb : Below w.heap.size w w1) : OI B w0 w1 m E := by
  obtain ⟨h1, h2, L, h3, h4⟩ := h
  have hm := h3.lt
  exact ⟨h1, h2.trans (hb.mono (by omega)), L, h3.at hb, Fits.go (fun b v hv => cell_some_below hv hb) L E h4⟩
theorem OI.look {B : Nat} {w0 w : World} {m : Nat} {E : List Ent} (h : OI B w0 w m E) (q : List UInt8) (hq : q.length ≤ 1000000) :
    match findE E q with
    | none => ∀ W, Below w.heap.size w W → (Instr.lookup 54 (.map (some m)) (.string (Ln.bs q)) true).run Tryd.prog W = .ok (.tuple #[zeroOp, .bool false]) W
    | some x => ∃ b, (∀ W, Below w.heap.size w W → (Instr.lookup 54 (.map (some m)) (.string (Ln.bs q)) true).run Tryd.prog W = .ok (.tuple #[opV x.1 x.2.1 b, .bool true]) W) ∧ w.cell? ⟨b, 0, none⟩ = some (fnV x.2.2) := by
  obtain ⟨h1, h2, L, h3, h4⟩ := h
  have hl := fun W (hW : Below w.heap.size w W) => (h3.at hW).look q hq
  have hf := Fits.find q L E h4
  cases he : findE E q with
  | none =>
    rw [he] at hf
    rw [hf] at hl
    exact hl
  | some x =>
    rw [he] at hf
    obtain ⟨b, hb, hc⟩ := hf
    rw [hb] at hl
    exact ⟨b, hl, hc⟩

/-- The signs between two operands, the last one first. -/
def binE : List Ent := [([37], 43, 82, 71), ([47], 43, 82, 69), ([42], 43, 82, 68), ([45], 43, 82, 67), ([43], 43, 82, 66), ([62, 61], 43, 80, 64), ([62], 43, 80, 63), ([60, 61], 43, 80, 62), ([60], 43, 80, 61), ([33, 61], 11, 80, 60), ([61, 61], 11, 80, 59), ([38, 38], 45, 80, 58), ([124, 124], 45, 80, 57)]
set_option maxRecDepth 100000 in
set_option maxHeartbeats 8000000 in
theorem binaries_any (w : World) : Calls Tryd.prog 36 #[] w fun e w' => ∃ m, e = .returned (.map (some m)) ∧ OI w.heap.size w w' m binE := by
  have hmm := @run_makeMap Tryd.prog
  obtain ⟨W, hW⟩ : ∃ W, W = w.alloc (.map #[] 0) := ⟨_, rfl⟩
  have O : Hid (OI w.heap.size w W w.heap.size []) := by rw [hW]; exact OI.new w
  go_enter Tryd.func36, Tryd.ntmps36
  go_wp2_with fail
  rw [← hW]
  clear hW
  refine Calls.mono (judges_any 45 57 _) ?_
  rintro e w1 ⟨b, rfl, hc, -, hb⟩
  obtain ⟨w2, hup, O2⟩ := OI.put O.out (by decide) hb [124, 124] (by decide) 45 80 _ b hc
  have hup2 : (Instr.mapUpdate 54 (.map (some w.heap.size)) (.string ⟨#[124, 124]⟩) (opV 45 80 b)).run Tryd.prog w1 = .ok () w2 := hup
  clear O hup hc hb
  have O : Hid (OI w.heap.size w w2 w.heap.size [([124, 124], 45, 80, 57)]) := O2
  clear O2
  go_wp2_with fail
  clear hup2
  refine Calls.mono (judges_any 45 58 _) ?_
  rintro e w1 ⟨b, rfl, hc, -, hb⟩
  obtain ⟨w2, hup, O2⟩ := OI.put O.out (by decide) hb [38, 38] (by decide) 45 80 _ b hc
  have hup2 : (Instr.mapUpdate 54 (.map (some w.heap.size)) (.string ⟨#[38, 38]⟩) (opV 45 80 b)).run Tryd.prog w1 = .ok () w2 := hup
  clear O hup hc hb
  have O : Hid (OI w.heap.size w w2 w.heap.size [([38, 38], 45, 80, 58), ([124, 124], 45, 80, 57)]) := O2
  clear O2
  go_wp2_with fail
  clear hup2
  refine Calls.mono (judges_any 11 59 _) ?_
  rintro e w1 ⟨b, rfl, hc, -, hb⟩
  obtain ⟨w2, hup, O2⟩ := OI.put O.out (by decide) hb [61, 61] (by decide) 11 80 _ b hc
  have hup2 : (Instr.mapUpdate 54 (.map (some w.heap.size)) (.string ⟨#[61, 61]⟩) (opV 11 80 b)).run Tryd.prog w1 = .ok () w2 := hup
  clear O hup hc hb
  have O : Hid (OI w.heap.size w w2 w.heap.size [([61, 61], 11, 80, 59), ([38, 38], 45, 80, 58), ([124, 124], 45, 80, 57)]) := O2
  clear O2
  go_wp2_with fail
  clear hup2
  refine Calls.mono (judges_any 11 60 _) ?_
  rintro e w1 ⟨b, rfl, hc, -, hb⟩
  obtain ⟨w2, hup, O2⟩ := OI.put O.out (by decide) hb [33, 61] (by decide) 11 80 _ b hc
  have hup2 : (Instr.mapUpdate 54 (.map (some w.heap.size)) (.string ⟨#[33, 61]⟩) (opV 11 80 b)).run Tryd.prog w1 = .ok () w2 := hup
  clear O hup hc hb
  have O : Hid (OI w.heap.size w w2 w.heap.size [([33, 61], 11, 80, 60), ([61, 61], 11, 80, 59), ([38, 38], 45, 80, 58), ([124, 124], 45, 80, 57)]) := O2
  clear O2
  go_wp2_with fail
  clear hup2
  refine Calls.mono (judges_any 43 61 _) ?_
  rintro e w1 ⟨b, rfl, hc, -, hb⟩
  obtain ⟨w2, hup, O2⟩ := OI.put O.out (by decide) hb [60] (by decide) 43 80 _ b hc
  have hup2 : (Instr.mapUpdate 54 (.map (some w.heap.size)) (.string ⟨#[60]⟩) (opV 43 80 b)).run Tryd.prog w1 = .ok () w2 := hup
  clear O hup hc hb
  have O : Hid (OI w.heap.size w w2 w.heap.size [([60], 43, 80, 61), ([33, 61], 11, 80, 60), ([61, 61], 11, 80, 59), ([38, 38], 45, 80, 58), ([124, 124], 45, 80, 57)]) := O2
  clear O2
  go_wp2_with fail
  clear hup2
  refine Calls.mono (judges_any 43 62 _) ?_
  rintro e w1 ⟨b, rfl, hc, -, hb⟩
  obtain ⟨w2, hup, O2⟩ := OI.put O.out (by decide) hb [60, 61] (by decide) 43 80 _ b hc
  have hup2 : (Instr.mapUpdate 54 (.map (some w.heap.size)) (.string ⟨#[60, 61]⟩) (opV 43 80 b)).run Tryd.prog w1 = .ok () w2 := hup
  clear O hup hc hb
  have O : Hid (OI w.heap.size w w2 w.heap.size [([60, 61], 43, 80, 62), ([60], 43, 80, 61), ([33, 61], 11, 80, 60), ([61, 61], 11, 80, 59), ([38, 38], 45, 80, 58), ([124, 124], 45, 80, 57)]) := O2
  clear O2
  go_wp2_with fail
  clear hup2
  refine Calls.mono (judges_any 43 63 _) ?_
  rintro e w1 ⟨b, rfl, hc, -, hb⟩
  obtain ⟨w2, hup, O2⟩ := OI.put O.out (by decide) hb [62] (by decide) 43 80 _ b hc
  have hup2 : (Instr.mapUpdate 54 (.map (some w.heap.size)) (.string ⟨#[62]⟩) (opV 43 80 b)).run Tryd.prog w1 = .ok () w2 := hup
  clear O hup hc hb
  have O : Hid (OI w.heap.size w w2 w.heap.size [([62], 43, 80, 63), ([60, 61], 43, 80, 62), ([60], 43, 80, 61), ([33, 61], 11, 80, 60), ([61, 61], 11, 80, 59), ([38, 38], 45, 80, 58), ([124, 124], 45, 80, 57)]) := O2
  clear O2
  go_wp2_with fail
  clear hup2
  refine Calls.mono (judges_any 43 64 _) ?_
  rintro e w1 ⟨b, rfl, hc, -, hb⟩
  obtain ⟨w2, hup, O2⟩ := OI.put O.out (by decide) hb [62, 61] (by decide) 43 80 _ b hc
  have hup2 : (Instr.mapUpdate 54 (.map (some w.heap.size)) (.string ⟨#[62, 61]⟩) (opV 43 80 b)).run Tryd.prog w1 = .ok () w2 := hup
  clear O hup hc hb
  have O : Hid (OI w.heap.size w w2 w.heap.size [([62, 61], 43, 80, 64), ([62], 43, 80, 63), ([60, 61], 43, 80, 62), ([60], 43, 80, 61), ([33, 61], 11, 80, 60), ([61, 61], 11, 80, 59), ([38, 38], 45, 80, 58), ([124, 124], 45, 80, 57)]) := O2
  clear O2
  go_wp2_with fail
  clear hup2
  refine Calls.mono (counts_any 66 _) ?_
  rintro e w1 ⟨b, rfl, hc, -, hb⟩
  obtain ⟨w2, hup, O2⟩ := OI.put O.out (by decide) hb [43] (by decide) 43 82 _ b hc
  have hup2 : (Instr.mapUpdate 54 (.map (some w.heap.size)) (.string ⟨#[43]⟩) (opV 43 82 b)).run Tryd.prog w1 = .ok () w2 := hup
  clear O hup hc hb
  have O : Hid (OI w.heap.size w w2 w.heap.size [([43], 43, 82, 66), ([62, 61], 43, 80, 64), ([62], 43, 80, 63), ([60, 61], 43, 80, 62), ([60], 43, 80, 61), ([33, 61], 11, 80, 60), ([61, 61], 11, 80, 59), ([38, 38], 45, 80, 58), ([124, 124], 45, 80, 57)]) := O2
  clear O2
  go_wp2_with fail
  clear hup2
  refine Calls.mono (counts_any 67 _) ?_
  rintro e w1 ⟨b, rfl, hc, -, hb⟩
  obtain ⟨w2, hup, O2⟩ := OI.put O.out (by decide) hb [45] (by decide) 43 82 _ b hc
  have hup2 : (Instr.mapUpdate 54 (.map (some w.heap.size)) (.string ⟨#[45]⟩) (opV 43 82 b)).run Tryd.prog w1 = .ok () w2 := hup
  clear O hup hc hb
  have O : Hid (OI w.heap.size w w2 w.heap.size [([45], 43, 82, 67), ([43], 43, 82, 66), ([62, 61], 43, 80, 64), ([62], 43, 80, 63), ([60, 61], 43, 80, 62), ([60], 43, 80, 61), ([33, 61], 11, 80, 60), ([61, 61], 11, 80, 59), ([38, 38], 45, 80, 58), ([124, 124], 45, 80, 57)]) := O2
  clear O2
  go_wp2_with fail
  clear hup2
  refine Calls.mono (counts_any 68 _) ?_
  rintro e w1 ⟨b, rfl, hc, -, hb⟩
  obtain ⟨w2, hup, O2⟩ := OI.put O.out (by decide) hb [42] (by decide) 43 82 _ b hc
  have hup2 : (Instr.mapUpdate 54 (.map (some w.heap.size)) (.string ⟨#[42]⟩) (opV 43 82 b)).run Tryd.prog w1 = .ok () w2 := hup
  clear O hup hc hb
  have O : Hid (OI w.heap.size w w2 w.heap.size [([42], 43, 82, 68), ([45], 43, 82, 67), ([43], 43, 82, 66), ([62, 61], 43, 80, 64), ([62], 43, 80, 63), ([60, 61], 43, 80, 62), ([60], 43, 80, 61), ([33, 61], 11, 80, 60), ([61, 61], 11, 80, 59), ([38, 38], 45, 80, 58), ([124, 124], 45, 80, 57)]) := O2
  clear O2
  go_wp2_with fail
  clear hup2
  refine Calls.mono (counts_any 69 _) ?_
  rintro e w1 ⟨b, rfl, hc, -, hb⟩
  obtain ⟨w2, hup, O2⟩ := OI.put O.out (by decide) hb [47] (by decide) 43 82 _ b hc
  have hup2 : (Instr.mapUpdate 54 (.map (some w.heap.size)) (.string ⟨#[47]⟩) (opV 43 82 b)).run Tryd.prog w1 = .ok () w2 := hup
  clear O hup hc hb
  have O : Hid (OI w.heap.size w w2 w.heap.size [([47], 43, 82, 69), ([42], 43, 82, 68), ([45], 43, 82, 67), ([43], 43, 82, 66), ([62, 61], 43, 80, 64), ([62], 43, 80, 63), ([60, 61], 43, 80, 62), ([60], 43, 80, 61), ([33, 61], 11, 80, 60), ([61, 61], 11, 80, 59), ([38, 38], 45, 80, 58), ([124, 124], 45, 80, 57)]) := O2
  clear O2
  go_wp2_with fail
  clear hup2
  refine Calls.mono (counts_any 71 _) ?_
  rintro e w1 ⟨b, rfl, hc, -, hb⟩
  obtain ⟨w2, hup, O2⟩ := OI.put O.out (by decide) hb [37] (by decide) 43 82 _ b hc
  have hup2 : (Instr.mapUpdate 54 (.map (some w.heap.size)) (.string ⟨#[37]⟩) (opV 43 82 b)).run Tryd.prog w1 = .ok () w2 := hup
  clear O hup hc hb
  have O : Hid (OI w.heap.size w w2 w.heap.size [([37], 43, 82, 71), ([47], 43, 82, 69), ([42], 43, 82, 68), ([45], 43, 82, 67), ([43], 43, 82, 66), ([62, 61], 43, 80, 64), ([62], 43, 80, 63), ([60, 61], 43, 80, 62), ([60], 43, 80, 61), ([33, 61], 11, 80, 60), ([61, 61], 11, 80, 59), ([38, 38], 45, 80, 58), ([124, 124], 45, 80, 57)]) := O2
  clear O2
  go_wp2
  clear hup2
  go_ret
  exact ⟨_, rfl, O.out⟩
/-- The signs ahead of one operand. -/
def unL : List (List UInt8 × Value) := [([33], .agg #[fnV 45, fnV 54]), ([45], .agg #[fnV 43, fnV 52])]
set_option maxRecDepth 100000 in
set_option maxHeartbeats 4000000 in
theorem unaries_any (w : World) : Calls Tryd.prog 35 #[] w fun e w' => ∃ m, e = .returned (.map (some m)) ∧ OpsAt w' m unL ∧ Below w.heap.size w w' := by
  have hmm := @run_makeMap Tryd.prog
  obtain ⟨W, hW⟩ : ∃ W, W = w.alloc (.map #[] 0) := ⟨_, rfl⟩
  have bW : Below w.heap.size w W := hW ▸ below_new w _
  have O : OpsAt W w.heap.size [] := by rw [hW]; exact OpsAt.new w
  obtain ⟨w2, hup, O2, g2⟩ := O.put [45] (by decide) (.agg #[fnV 43, fnV 52]) (by decide)
  obtain ⟨w3, hup3, O3, g3⟩ := O2.put [33] (by decide) (.agg #[fnV 45, fnV 54]) (by decide)
  have g := g2.trans g3
  have B3 : Hid (OpsAt w3 w.heap.size unL ∧ Below w.heap.size w w3) := ⟨O3, g.os.trans bW.os, g.tape.trans bW.tape, g.output.trans bW.output, Nat.le_trans bW.size g.size, fun j hj => (g.block j (by have := bW.size; omega) (fun e => by cases e; omega)).trans (bW.block j hj)⟩
  have hup2 : (Instr.mapUpdate 54 (.map (some w.heap.size)) (.string ⟨#[45]⟩) (.agg #[fnV 43, fnV 52])).run Tryd.prog W = .ok () w2 := hup
  have hup4 : (Instr.mapUpdate 54 (.map (some w.heap.size)) (.string ⟨#[33]⟩) (.agg #[fnV 45, fnV 54])).run Tryd.prog w2 = .ok () w3 := hup3
  rw [hW] at hup2
  clear hup hup3 O O2 g2 O3 g3 g bW hW
  go_enter Tryd.func35, Tryd.ntmps35
  go_wp2
  go_ret
  exact ⟨_, rfl, B3.out⟩
end Go.Proofs.YtcnmgebjbaclaaaDoor

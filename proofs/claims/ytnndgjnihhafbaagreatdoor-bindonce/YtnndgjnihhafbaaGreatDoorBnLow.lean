/-
  Several texts in one, as they are: BnScope, BnOps, BnTurn, BnUse, BnBinder.
-/
import Derived.Test.YtnndgjnihhafbaaGreatDoorBnBase
import Derived.Test.YtnndgjnihhafbaaGreatDoorOpenAll
import Derived.Test.YtnndgjnihhafbaaGreatDoorBaseAll
import Derived.Carry
import Derived.Test.YtnndgjnihhafbaaGreatDoorTrAll

/-
  The walks of the scopes' calls: what a name stands for; what ends all.
-/
namespace Go.Proofs.YtnndgjnihhafbaaGreatDoor
open Go.RowKit Go.Shelf Go.WideMaps
open Bn (Sc Bd St)

attribute [local go_sem] Oper.semAt_some

theorem meth_scope_fn : ((Tryz.prog.info? 83).bind fun i => (i.methods.find? (·.name == "clerestory/bind.function")).map fun m => (m.path, m.func)) = some (#[⟨130, 0, true⟩], none) := by kernel_rfl
theorem meth_scope_fault : ((Tryz.prog.info? 83).bind fun i => (i.methods.find? (·.name == "clerestory/bind.fault")).map fun m => (m.path, m.func)) = some (#[⟨130, 0, true⟩], none) := by kernel_rfl
theorem meth_scope_var : ((Tryz.prog.info? 83).bind fun i => (i.methods.find? (·.name == "clerestory/bind.variable")).map fun m => (m.path, m.func)) = some (#[], some (106, true)) := by kernel_rfl
theorem meth_file_fn : ((Tryz.prog.info? 87).bind fun i => (i.methods.find? (·.name == "clerestory/bind.function")).map fun m => (m.path, m.func)) = some (#[], some (226, true)) := by kernel_rfl
theorem meth_file_fault : ((Tryz.prog.info? 87).bind fun i => (i.methods.find? (·.name == "clerestory/bind.fault")).map fun m => (m.path, m.func)) = some (#[], some (99, true)) := by kernel_rfl
theorem meth_file_var : ((Tryz.prog.info? 87).bind fun i => (i.methods.find? (·.name == "clerestory/bind.variable")).map fun m => (m.path, m.func)) = some (#[], some (227, true)) := by kernel_rfl

theorem meth_get {T : TypeId} {name : String} {p : Array FieldStep} {f : Option (FuncId × Bool)} (h : ((Tryz.prog.info? T).bind fun i => (i.methods.find? (·.name == name)).map fun m => (m.path, m.func)) = some (p, f)) : ∃ i m, Tryz.prog.info? T = some i ∧ i.methods.find? (·.name == name) = some m ∧ m.path = p ∧ m.func = f := by
  cases hi : Tryz.prog.info? T with
  | none => rw [hi] at h; cases h
  | some i =>
    rw [hi] at h
    cases hm : i.methods.find? (·.name == name) with
    | none => simp [hm] at h
    | some m => simp [hm] at h; exact ⟨i, m, rfl, hm, h.1, h.2⟩

/-- A method of the pointer's own. -/
theorem method_own {T E : TypeId} {name : String} {g : FuncId} (h : ((Tryz.prog.info? T).bind fun i => (i.methods.find? (·.name == name)).map fun m => (m.path, m.func)) = some (#[], some (g, true))) (hT : Tryz.prog.underlying T = some (.pointer E)) (k : Nat) (v : Value) (w : World) : (method (k + 1) T v name).run Tryz.prog w = .ok (g, v) w := by
  obtain ⟨i, m, h1, h2, h3, h4⟩ := meth_get h
  simp [method, typeInfo, Sem.run_bind, run_program, h1, h2, h3, h4, follow, receiverAt, run_underlying hT, Place.get, Result.andThen]
/-- A method of what the scope embeds. -/
theorem method_out {name : String} (h : ((Tryz.prog.info? 83).bind fun i => (i.methods.find? (·.name == name)).map fun m => (m.path, m.func)) = some (#[⟨130, 0, true⟩], none)) (k sb : Nat) (w : World) (T : TypeId) (v m : Value) (hb : w.heap[sb]? = some (.cells #[.iface T v, m] 130 (0, 0))) : (method (k + 1) 83 (ptrV sb) name).run Tryz.prog w = (method k T v name).run Tryz.prog w := by
  obtain ⟨i, mm, h1, h2, h3, h4⟩ := meth_get h
  have hc : w.cell? ⟨sb, 0, none⟩ = some (.iface T v) := cells_at hb rfl
  rw [method]
  simp [typeInfo, Sem.run_bind, run_program, h1, h2, h3, h4, follow, run_underlying Tryz.underlying130, Place.get, Result.andThen, ptrV, asAddr, loadVar, go_sem, hc]


theorem Chain.iface {fb : Nat} {bx : List Nat} {M : Nat → Prop} {w : World} : ∀ {c : List (Nat × Nat)} {r : List Sc} {v : Value}, Chain fb bx M w c r v → ∃ T u, v = .iface T u
  | [], [], _, h => ⟨_, _, h⟩
  | [], _ :: _, _, h => h.elim
  | _ :: _, [], _, h => h.elim
  | _ :: _, _ :: _, _, ⟨h, _⟩ => ⟨_, _, h⟩
set_option maxRecDepth 100000 in
theorem chain_method {name : String} {g : FuncId} (hs : ((Tryz.prog.info? 83).bind fun i => (i.methods.find? (·.name == name)).map fun m => (m.path, m.func)) = some (#[⟨130, 0, true⟩], none))
    (hf : ((Tryz.prog.info? 87).bind fun i => (i.methods.find? (·.name == name)).map fun m => (m.path, m.func)) = some (#[], some (g, true))) {fb : Nat} {bx : List Nat} {M : Nat → Prop} {w : World} :
    ∀ {c : List (Nat × Nat)} {r : List Sc} {T : TypeId} {v : Value} (k : Nat), Chain fb bx M w c r (.iface T v) → c.length < k → (method k T v name).run Tryz.prog w = .ok (g, ptrV fb) w
  | [], [], T, v, k, h, hk => by
    injection h with h1 h2
    subst h1 h2
    cases k with
    | zero => omega
    | succ k => exact method_own hf Tryz.underlying87 k _ w
  | [], _ :: _, _, _, _, h, _ => h.elim
  | _ :: _, [], _, _, _, h, _ => h.elim
  | x :: c, sc :: r, T, v, k, ⟨h1, _, _, _, u, h5, h6⟩, hk => by
    injection h1 with h1 h2
    subst h1 h2
    obtain ⟨T', v', rfl⟩ := h6.iface
    cases k with
    | zero => omega
    | succ k =>
      rw [method_out hs k x.1 w T' v' _ h5]
      exact chain_method hs hf k h6 (by simp at hk; omega)
theorem types_many : decide (60 < Tryz.prog.types.size + Made.depth) = true := by kernel_rfl
set_option maxRecDepth 100000 in
theorem enter_fvar (args : Array Value) (w : World) : (callFunc 227 args).run Tryz.prog w = .ok (.enter 227 args) w := by rfl
set_option maxRecDepth 100000 in
theorem enter_svar (args : Array Value) (w : World) : (callFunc 106 args).run Tryz.prog w = .ok (.enter 106 args) w := by rfl
theorem chain_fault_k {fb : Nat} {bx : List Nat} {M : Nat → Prop} {w : World} {c : List (Nat × Nat)} {r : List Sc} {T : TypeId} {v : Value} (h : Chain fb bx M w c r (.iface T v)) (hc : c.length ≤ 50) (k : Nat) : (method (k + 60) T v "clerestory/bind.fault").run Tryz.prog w = .ok (99, ptrV fb) w := chain_method meth_scope_fault meth_file_fault (k + 60) h (by omega)
theorem chain_function_k {fb : Nat} {bx : List Nat} {M : Nat → Prop} {w : World} {c : List (Nat × Nat)} {r : List Sc} {T : TypeId} {v : Value} (h : Chain fb bx M w c r (.iface T v)) (hc : c.length ≤ 50) (k : Nat) : (method (k + 60) T v "clerestory/bind.function").run Tryz.prog w = .ok (226, ptrV fb) w := chain_method meth_scope_fn meth_file_fn (k + 60) h (by omega)
theorem types_some : ∃ k, Tryz.prog.types.size + Made.depth = k + 1 := ⟨Tryz.prog.types.size + Made.depth - 1, by have := of_decide_eq_true types_many; omega⟩
theorem call_svar (sb : Nat) (args : Array Value) (w : World) : (callMethod (.iface 83 (ptrV sb)) "clerestory/bind.variable" args).run Tryz.prog w = .ok (.enter 106 (#[ptrV sb] ++ args)) w := by
  obtain ⟨k, hk⟩ := types_some
  have e := method_own meth_scope_var Tryz.underlying83 k (ptrV sb) w
  rw [← hk] at e
  simp only [callMethod, Sem.run_bind, run_program, Result.andThen_ok, e, enter_svar]
theorem call_fvar (fb : Nat) (args : Array Value) (w : World) : (callMethod (.iface 87 (ptrV fb)) "clerestory/bind.variable" args).run Tryz.prog w = .ok (.enter 227 (#[ptrV fb] ++ args)) w := by
  obtain ⟨k, hk⟩ := types_some
  have e := method_own meth_file_var Tryz.underlying87 k (ptrV fb) w
  rw [← hk] at e
  simp only [callMethod, Sem.run_bind, run_program, Result.andThen_ok, e, enter_fvar]

set_option maxRecDepth 100000 in
set_option maxHeartbeats 2000000 in
theorem throw_any (wb e i : Nat) (z : Int) (sv pv mv : Value) (w : World) (hz : z = e) (h : w.heap[wb]? = some (.cells #[sv, pv, .int .i64 i, mv] 86 (0, 0))) : Calls Tryz.prog 57 #[ptrV wb, .int .i64 z] w fun r w' => r = pan e i ∧ w' = w := by
  have c2 : w.cell? ⟨wb, 2, none⟩ = some (.int .i64 i) := cells_at h rfl
  subst hz
  clear h
  unfold ptrV
  go_enter Tryz.func57, Tryz.ntmps57
  go_wp2
  exact ⟨rfl, rfl, rfl⟩
set_option maxRecDepth 100000 in
set_option maxHeartbeats 2000000 in
theorem ffault_any (fb wb e i : Nat) (z : Int) (m sv pv mv : Value) (w : World) (hz : z = e) (hf : w.heap[fb]? = some (.cells #[m, .func (.func 57) #[ptrV wb] #[]] 91 (0, 0))) (h : w.heap[wb]? = some (.cells #[sv, pv, .int .i64 i, mv] 86 (0, 0))) : Calls Tryz.prog 99 #[ptrV fb, .int .i64 z] w fun r w' => r = pan e i ∧ w' = w := by
  have c1 : w.cell? ⟨fb, 1, none⟩ = some (.func (.func 57) #[ptrV wb] #[]) := cells_at hf rfl
  subst hz
  have HT : Hid (_) := throw_any wb e i e sv pv mv w rfl h
  have hgg : ∀ args w, (callFunc 57 args).run Tryz.prog w = .ok (.enter 57 args) w := fun _ _ => rfl
  clear h hf
  go_enter Tryz.func99, Tryz.ntmps99
  go_wp2_with fail
  refine Calls.mono HT.out ?_
  rintro r w1 ⟨rfl, rfl⟩
  exact ⟨rfl, rfl, rfl⟩
/-- What a lookup among the Funcs ends with. -/
def FnEnd (bx : List Nat) (i : Nat) (o : Option Nat) (w : World) (r : Ending) (w' : World) : Prop := w' = w ∧ match o with | none => r = pan 111 i | some k => r = .returned (ptrV (bx.getD k 0))
set_option maxRecDepth 100000 in
set_option maxHeartbeats 2000000 in
theorem ffunction_any (fb wb fm i : Nat) (bx : List Nat) (sc : Sc) (q : List UInt8) (sv pv mv : Value) (w : World) (hf : w.heap[fb]? = some (.cells #[.map (some fm), .func (.func 57) #[ptrV wb] #[]] 91 (0, 0))) (h : w.heap[wb]? = some (.cells #[sv, pv, .int .i64 i, mv] 86 (0, 0))) (hm : MapAt bx w fm sc) (hq : q.length ≤ 1000000) :
    Calls Tryz.prog 226 #[ptrV fb, .string (Ln.bs q)] w fun r w' => FnEnd bx i (Bn.find sc q) w r w' := by
  have c0 : w.cell? ⟨fb, 0, none⟩ = some (.map (some fm)) := cells_at hf rfl
  have HT : Hid (_) := ffault_any fb wb 111 i 111 _ sv pv mv w rfl hf h
  have hl := hm.look q hq
  obtain ⟨o, ho⟩ : ∃ o, o = Bn.find sc q := ⟨_, rfl⟩
  rw [← ho] at hl ⊢
  clear h hf hm ho
  cases o with
  | none =>
    simp only [bptr] at hl
    go_enter Tryz.func226, Tryz.ntmps226
    go_wp2_with fail
    refine Calls.mono HT.out ?_
    rintro r w1 ⟨rfl, rfl⟩
    exact ⟨rfl, rfl, rfl⟩
  | some k =>
    simp only [bptr] at hl
    go_enter Tryz.func226, Tryz.ntmps226
    go_wp2
    go_ret
    exact ⟨rfl, rfl⟩
set_option maxRecDepth 100000 in
set_option maxHeartbeats 2000000 in
theorem fvariable_any (fb wb i : Nat) (q m sv pv mv : Value) (w : World) (hf : w.heap[fb]? = some (.cells #[m, .func (.func 57) #[ptrV wb] #[]] 91 (0, 0))) (h : w.heap[wb]? = some (.cells #[sv, pv, .int .i64 i, mv] 86 (0, 0))) :
    Calls Tryz.prog 227 #[ptrV fb, q] w fun r w' => r = pan 111 i ∧ w' = w := by
  have HT : Hid (_) := ffault_any fb wb 111 i 111 _ sv pv mv w rfl hf h
  clear h hf
  go_enter Tryz.func227, Tryz.ntmps227
  go_wp2_with fail
  refine Calls.mono HT.out ?_
  rintro r w1 ⟨rfl, rfl⟩
  exact ⟨rfl, rfl, rfl⟩
set_option maxRecDepth 100000 in
set_option maxHeartbeats 2000000 in
theorem svariable_any (fb wb i : Nat) (bx : List Nat) (M : Nat → Prop) (q : List UInt8) (hq : q.length ≤ 1000000) (m sv pv mv : Value) (w : World) (hf : w.heap[fb]? = some (.cells #[m, .func (.func 57) #[ptrV wb] #[]] 91 (0, 0))) (h : w.heap[wb]? = some (.cells #[sv, pv, .int .i64 i, mv] 86 (0, 0))) :
    ∀ (c : List (Nat × Nat)) (r : List Sc) (sb : Nat), Chain fb bx M w c r (.iface 83 (ptrV sb)) → Calls Tryz.prog 106 #[ptrV sb, .string (Ln.bs q)] w fun r' w' => FnEnd bx i (Bn.variable_ r q) w r' w'
  | [], [], sb, hc => by
    have e : (83 : Nat) = 87 := by injection hc
    exact absurd e (by decide)
  | [], _ :: _, _, hc => hc.elim
  | _ :: _, [], _, hc => hc.elim
  | x :: c, sc :: r, sb, ⟨h1, _, _, h4, u, h5, h6⟩ => by
    have e : sb = x.1 := by injection h1 with _ h1; injection h1 with h1; injection h1 with h1; injection h1
    subst e
    have c0 : w.cell? ⟨x.1, 0, none⟩ = some u := cells_at h5 rfl
    have c1 : w.cell? ⟨x.1, 1, none⟩ = some (.map (some x.2)) := cells_at h5 rfl
    have hl := h4.look q hq
    rw [Bn.variable_]
    obtain ⟨o, ho⟩ : ∃ o, o = Bn.find sc q := ⟨_, rfl⟩
    rw [← ho] at hl ⊢
    obtain ⟨sx, hsx⟩ : ∃ b, b = x.1 := ⟨_, rfl⟩
    obtain ⟨mx, hmx⟩ : ∃ b, b = x.2 := ⟨_, rfl⟩
    rw [← hsx] at c0 c1 ⊢
    rw [← hmx] at c1 hl
    cases o with
    | some k =>
      clear h hf h6 ho hsx hmx h5 h4 c0
      simp only [bptr] at hl
      go_enter Tryz.func106, Tryz.ntmps106
      go_wp2
      go_ret
      exact ⟨rfl, rfl⟩
    | none =>
      simp only [bptr] at hl
      cases c with
      | nil =>
        cases r with
        | cons _ _ => exact h6.elim
        | nil =>
          obtain rfl := h6
          have HT : Hid (_) := fvariable_any fb wb i (.string (Ln.bs q)) m sv pv mv w hf h
          have hcm := call_fvar fb #[.string (Ln.bs q)] w
          clear h hf ho hsx hmx h5 h4
          go_enter Tryz.func106, Tryz.ntmps106
          go_wp2_with fail
          refine Calls.mono HT.out ?_
          rintro r w1 ⟨rfl, rfl⟩
          exact ⟨rfl, rfl, rfl⟩
      | cons y c =>
        cases r with
        | nil => exact h6.elim
        | cons sc2 r =>
          obtain rfl := h6.1
          have HT : Hid (_) := svariable_any fb wb i bx M q hq m sv pv mv w hf h (y :: c) (sc2 :: r) y.1 h6
          have hcm := call_svar y.1 #[.string (Ln.bs q)] w
          obtain ⟨sy, hsy⟩ : ∃ b, b = y.1 := ⟨_, rfl⟩
          rw [← hsy] at c0 HT hcm
          obtain ⟨o2, ho2⟩ : ∃ o, o = Bn.variable_ (sc2 :: r) q := ⟨_, rfl⟩
          simp only
          rw [← ho2] at HT ⊢
          clear h hf ho hsx hmx h5 h4 h6 ho2 hsy
          go_enter Tryz.func106, Tryz.ntmps106
          go_wp2_with fail
          refine Calls.mono HT.out ?_
          rintro r w1 ⟨rfl, hr⟩
          cases o2 with
          | none =>
            obtain rfl := hr
            exact ⟨rfl, rfl, rfl⟩
          | some k =>
            obtain rfl := hr
            go_wp2
            go_ret
            exact ⟨rfl, rfl⟩
  termination_by c => c.length
end Go.Proofs.YtnndgjnihhafbaaGreatDoor

/-
  The walks of bind's small calls: rows of numbers cloned, scopes made, names declared.
-/
namespace Go.Proofs.YtnndgjnihhafbaaGreatDoor
open Go.RowKit Go.Shelf Go.WideMaps
open Bn (Sc Bd St)

attribute [local go_sem] Oper.semAt_some

theorem numV_one (p : List Nat) : ∀ u ∈ p.map numV, u.oneCell' = true := by
  intro u hu
  obtain ⟨k, -, rfl⟩ := List.mem_map.1 hu
  rfl
set_option maxRecDepth 100000 in
set_option maxHeartbeats 4000000 in
theorem iclone_any (n : Nat) (v : Value) (p : List Nat) (w : World) (h : w.ownsRow n 3 1 v p.length (p.map numV)) (hn : p.length ≤ 1000000) :
    Calls Tryz.prog 100 #[v] w fun e w' => ∃ v', e = .returned v' ∧ w'.ownsRow w.heap.size 3 1 v' p.length (p.map numV) ∧ Below w.heap.size w w' := by
  obtain ⟨i0, hi, hz0, hz1, hz2⟩ := info_parts info3
  have q : ∀ (w : World) (a : Option Addr) (n c n' c' : Nat), (binOp .eql 44 (.slice a n c) (.slice none n' c')).run Tryz.prog w = .ok (.bool a.isNone) w := fun w a n c n' c' => Lib.run_eql_slice_nil w _ _ a n c n' c' Tryz.underlying44
  rcases h.2 with ⟨rfl, h0⟩ | ⟨b, cap, cur, rfl, hb, hg, hnc, -⟩
  · have hp : p = [] := List.length_eq_zero_iff.1 h0
    subst hp
    clear h
    go_enter Tryz.func100, Tryz.ntmps100
    go_wp2
    go_ret
    exact ⟨_, rfl, World.ownsRow_nil _ _ _ _, Below.refl _ _⟩
  obtain ⟨news, hnews⟩ : ∃ l, l = p.map numV := ⟨_, rfl⟩
  obtain ⟨k, hk⟩ : ∃ k, k = p.length := ⟨_, rfl⟩
  have hl : news.length = k * 1 := by rw [hnews, hk]; simp
  have h1 : ∀ u ∈ news, u.oneCell' = true := hnews ▸ numV_one p
  rw [← hk, ← hnews] at h ⊢
  rw [← hk] at hn
  have A : Aside (∀ j u, news[j]? = some u → w.cell? ⟨b, 0 + j, none⟩ = some u) := fun j u hj => by
    rw [Nat.zero_add, h.cellAt j (by rw [List.getElem?_eq_some_iff] at hj; obtain ⟨hj, -⟩ := hj; omega)]
    exact hj
  clear h hnews hk hg hb
  go_enter Tryz.func100, Tryz.ntmps100
  go_wp2_with (at_builtin; refine wpList_append_own _ rfl _ _ 44 rfl w.heap.size 3 i0 (.int .i64 0) 1 8 Tryz.underlying44 hi hz0 hz1 hz2 rfl (by decide) _ _ _ rfl (World.ownsRow_made w #[] 0 (Nat.le_refl _) (Nat.zero_le _) (by simp)) ⟨b, 0, none⟩ k cap news rfl ?qc1 ?qc2 ?qc3 ?qc4 ?qc5 ?qc6 ?_)
  case qc1 => exact hl
  case qc2 =>
    intro j u hj
    rw [Addr.add_lit]
    exact Lib.cell?_alloc_some _ (A.out j u hj)
  case qc3 => exact h1
  case qc4 => rw [Nat.zero_add]; unfold maxLen; omega
  case qc5 => rw [Nat.zero_add]; omega
  case qc6 => simp
  intro v' w1 hown hgrow hnil
  go_wp2
  go_ret
  refine ⟨v', rfl, by simpa using hown, ?_⟩
  exact ((Below.refl _ w).alloc (Nat.le_refl _) _).grown hgrow (by simp) (by intro k hk; simp [Value.ownBlock] at hk; omega)

/-- A scope that is new, within another one. -/
def scopeNew (w : World) (u : Value) : World := (w.alloc (.map #[] 0)).alloc (.cells #[u, .map (some w.heap.size)] 130)
theorem scopeNew_below (w : World) (u : Value) : Below w.heap.size w (scopeNew w u) := below_then (below_new w _) (below_new _ _)
theorem scopeNew_box (w : World) (u : Value) : (scopeNew w u).heap[w.heap.size + 1]? = some (.cells #[u, .map (some w.heap.size)] 130 (0, 0)) ∧ (scopeNew w u).heap.size = w.heap.size + 1 + 1 := by
  have s1 : (w.alloc (.map #[] 0)).heap.size = w.heap.size + 1 := World.size_alloc _ _
  refine ⟨?_, ?_⟩
  · unfold scopeNew
    rw [← s1]
    exact World.alloc_heap_new _ _
  · unfold scopeNew
    rw [World.size_alloc, s1]
theorem scopeNew_map (bx : List Nat) (w : World) (u : Value) : MapAt bx (scopeNew w u) w.heap.size [] := by
  have s1 : (w.alloc (.map #[] 0)).heap.size = w.heap.size + 1 := World.size_alloc _ _
  exact (MapAt.new bx w).go ((below_new (w.alloc (.map #[] 0)) _).block _ (by omega))
set_option maxRecDepth 100000 in
set_option maxHeartbeats 2000000 in
theorem within_any (T : TypeId) (v : Value) (w : World) : Calls Tryz.prog 58 #[.iface T v] w fun e w' => e = .returned (ptrV (w.heap.size + 1)) ∧ w' = scopeNew w (.iface T v) := by
  have hmm := @run_makeMap Tryz.prog
  go_enter Tryz.func58, Tryz.ntmps58
  go_wp2
  go_ret
  exact ⟨rfl, rfl⟩
set_option maxRecDepth 100000 in
set_option maxHeartbeats 2000000 in
theorem free_any {A : Ad} {M : Nat → Prop} {bx : List Nat} {x : Nat × Nat} {c : List (Nat × Nat)} {s : St} {sc : Sc} {r : List Sc} {p : List Nat} {i : Nat} {w : World} {pv mv sv : Value} (h : BAt A M bx (x :: c) s p i w pv mv sv) (hs : s.own = sc :: r) (hc : c.length ≤ 50) (q : List UInt8) (hq : q.length ≤ 1000000) :
    Calls Tryz.prog 102 #[ptrV x.1, .string (Ln.bs q)] w fun e w' => w' = w ∧ match Bn.find sc q with | some _ => e = pan 110 i | none => e = .returned (.tuple #[]) := by
  obtain ⟨sb, -, hch⟩ := h.chain
  rw [hs] at hch
  obtain ⟨-, -, -, h4, u, h5, h6⟩ := hch
  obtain ⟨T, v, rfl⟩ := h6.iface
  have hcm := chain_fault_k h6 hc
  have HT : Hid (_) := ffault_any A.fb A.wb 110 i 110 _ sv pv mv w rfl h.file.1 h.walk.1
  have c0 : w.cell? ⟨x.1, 0, none⟩ = some (.iface T v) := cells_at h5 rfl
  have c1 : w.cell? ⟨x.1, 1, none⟩ = some (.map (some x.2)) := cells_at h5 rfl
  have hl := h4.look q hq
  obtain ⟨o, ho⟩ : ∃ o, o = Bn.find sc q := ⟨_, rfl⟩
  rw [← ho] at hl ⊢
  obtain ⟨sx, hsx⟩ : ∃ b, b = x.1 := ⟨_, rfl⟩
  obtain ⟨mx, hmx⟩ : ∃ b, b = x.2 := ⟨_, rfl⟩
  rw [← hsx] at c0 c1 ⊢
  rw [← hmx] at c1 hl
  clear h h4 h5 h6 hs ho hsx hmx
  cases o with
  | some k =>
    simp only [bptr] at hl
    go_enter Tryz.func102, Tryz.ntmps102
    go_wp2_with fail
    refine Calls.mono HT.out ?_
    rintro r w1 ⟨rfl, rfl⟩
    exact ⟨rfl, rfl, rfl⟩
  | none =>
    simp only [bptr] at hl
    clear HT hcm
    go_enter Tryz.func102, Tryz.ntmps102
    go_wp2
    go_end0
    exact ⟨rfl, rfl⟩
end Go.Proofs.YtnndgjnihhafbaaGreatDoor

/-
  A walk stays, but for a name declared, a scope gone into or left, a binder made, a use put down.
-/
namespace Go.Proofs.YtnndgjnihhafbaaGreatDoor
open Go.RowKit Go.Shelf Go.WideMaps
open Bn (Sc Bd St)

section
variable {A : Ad} {M : Nat → Prop} {bx : List Nat} {ch : List (Nat × Nat)} {s : St} {p : List Nat} {i : Nat} {w w' : World} {pv mv sv : Value}

/-- A map turns. -/
theorem BAt.map {m : Nat} (h : BAt A M bx ch s p i w pv mv sv) (hg : w.grownBy w' (some m)) (hm0 : ∃ es cl, w.heap[m]? = some (.map es cl)) (hMm : M m) {fns' : Sc} {own' : List Sc} (hf : MapAt bx w' A.fm fns') (hc : ∀ sb, sv = ptrV sb → Chain A.fb bx M w ch s.own (.iface 83 (ptrV sb)) → Chain A.fb bx M w' ch own' (.iface 83 (ptrV sb))) :
    BAt A M bx ch { s with fns := fns', own := own' } p i w' pv mv sv := by
  obtain ⟨es, cl, hm0⟩ := hm0
  have hcell : ∀ (k : Nat) c T fr, w.heap[k]? = some (.cells c T fr) → w'.heap[k]? = w.heap[k]? := fun k c T fr e => hg.block k (Array.getElem?_eq_some_iff.1 e).1 (fun e2 => by
    have e2 : k = m := by simpa using e2
    rw [e2, hm0] at e; cases e)
  have hkM : ∀ k, k < w.heap.size → ¬ M k → w'.heap[k]? = w.heap[k]? := fun k hl hn => hg.block k hl (fun e => hn (by
    have e : k = m := by simpa using e
    exact e ▸ hMm))
  obtain ⟨sb, c1, c2⟩ := h.chain
  exact ⟨fun k hk => ⟨(h.lt k hk).1, Nat.lt_of_lt_of_le (h.lt k hk).2 hg.size⟩, Nat.le_trans h.low hg.size, ⟨(hcell _ _ _ _ h.walk.1).trans h.walk.1, h.walk.2⟩, ⟨owns_same h.path.1 (fun g e => by obtain ⟨c, e2⟩ := owns_ty h.path.1 g e; exact hcell g _ _ _ e2), h.path.2⟩, ⟨owns_same h.met.1 (fun g e => by obtain ⟨c, e2⟩ := owns_ty h.met.1 g e; exact hcell g _ _ _ e2), h.met.2⟩, ⟨(hcell _ _ _ _ h.file.1).trans h.file.1, h.file.2⟩, ⟨hf, h.fns.2⟩, ⟨sb, c1, hc sb c1 c2⟩, h.maps, h.bds.go hkM (fun k c e => hcell k _ _ _ e) (fun k c e => hcell k _ _ _ e) (fun _ _ => Iff.rfl)⟩
theorem BAt.declare {x : Nat × Nat} {c : List (Nat × Nat)} {sc sc' : Sc} {r : List Sc} (h : BAt A M bx (x :: c) s p i w pv mv sv) (hs : s.own = sc :: r) (hm : MapAt bx w' x.2 sc') (hg : w.grownBy w' (some x.2)) : BAt A M bx (x :: c) { s with own := sc' :: r } p i w' pv mv sv := by
  obtain ⟨sb, c1, c2⟩ := h.chain
  rw [hs] at c2
  obtain ⟨-, -, d3, d4, -⟩ := c2
  have hne : A.fm ≠ x.2 ∧ ∀ y ∈ c, y.2 ≠ x.2 := by
    have := h.maps
    simp only [List.map_cons, List.nodup_cons, List.mem_cons, List.mem_map, not_or, not_exists, not_and] at this
    exact ⟨this.1.1, fun y hy => this.2.1 y hy⟩
  refine h.map hg d4.obj d3 (h.fns.1.go (hg.block _ h.fns.1.lt (by simpa using hne.1))) (fun sb2 e hch => ?_)
  rw [hs] at hch
  obtain ⟨e1, e2, e3, e4, u, e5, e6⟩ := hch
  obtain ⟨es, cl, hobj⟩ := e4.obj
  have l1 := (Array.getElem?_eq_some_iff.1 e5).1
  refine ⟨e1, e2, e3, hm, u, (hg.block _ l1 (fun e9 => ?_)).trans e5, e6.go (fun k hl hn => hg.block k hl (fun e9 => hn ?_)) (fun y hy => ?_) (fun _ _ => Iff.rfl)⟩
  · have e9 : x.1 = x.2 := by simpa using e9
    rw [e9, hobj] at e5; cases e5
  · have e9 : k = x.2 := by simpa using e9
    exact e9 ▸ e3
  · obtain ⟨es2, cl2, e8⟩ := e6.maps y hy
    exact hg.block _ (Array.getElem?_eq_some_iff.1 e8).1 (by simpa using hne.2 y hy)
theorem BAt.addFn {sc' : Sc} (h : BAt A M bx ch s p i w pv mv sv) (hm : MapAt bx w' A.fm sc') (hg : w.grownBy w' (some A.fm)) : BAt A M bx ch { s with fns := sc' } p i w' pv mv sv := by
  have hne : ∀ y ∈ ch, y.2 ≠ A.fm := by
    have := h.maps
    simp only [List.nodup_cons, List.mem_map, not_exists, not_and] at this
    exact fun y hy => this.1 y hy
  refine h.map hg h.fns.1.obj h.fns.2 hm (fun sb e hch => hch.go (fun k hl hn => hg.block k hl (fun e9 => hn ?_)) (fun y hy => ?_) (fun _ _ => Iff.rfl))
  · have e9 : k = A.fm := by simpa using e9
    exact e9 ▸ h.fns.2
  · obtain ⟨es2, cl2, e8⟩ := hch.maps y hy
    exact hg.block _ (Array.getElem?_eq_some_iff.1 e8).1 (by simpa using hne y hy)

/-- A binder is made. -/
theorem BAt.newBinder {b : Nat} {v : Value} {d : Bd} (h : BAt A M bx ch s p i w pv mv sv) (hb : Below w.heap.size w w') (hwb : w.heap.size ≤ b) (hbox : w'.heap[b]? = some (.cells #[v, .string (Ln.bs d.name), .slice none 0 0, .int .i64 d.params] 133 (0, 0))) (ho : w'.ownsRow w.heap.size 3 1 v d.path.length (d.path.map numV)) (hu : d.uses = []) (hn : d.name.length ≤ 1000000) :
    BAt A (fun k => M k ∨ k = b) (bx ++ [b]) ch { s with bds := s.bds ++ [d] } p i w' pv mv sv := by
  have hk : ∀ k, k < w.heap.size → w'.heap[k]? = w.heap[k]? := hb.block
  have hg : ∀ {o : Obj} {k : Nat}, w.heap[k]? = some o → w'.heap[k]? = w.heap[k]? := fun h => hk _ (Array.getElem?_eq_some_iff.1 h).1
  have hM : ∀ k, k < w.heap.size → ((M k ∨ k = b) ↔ M k) := fun k hl => ⟨fun e => by
    rcases e with e | e
    · exact e
    · omega, .inl⟩
  have hbl := (Array.getElem?_eq_some_iff.1 hbox).1
  have hbs := h.bds.go (M' := fun k => M k ∨ k = b) (w' := w') (fun k hl _ => hk k hl) (fun k c e => hg e) (fun k c e => hg e) hM
  have hlt : ∀ (k c : Nat), bx[k]? = some c → c < w.heap.size := fun k c e => by
    obtain ⟨⟨cs, e2⟩, -⟩ := h.bds.ty e
    exact (Array.getElem?_eq_some_iff.1 e2).1
  have hub : usesBlock w' b = none := by unfold usesBlock; rw [hbox]; rfl
  obtain ⟨sb, c1, c2⟩ := h.chain
  refine ⟨fun k hk' => ?_, Nat.le_trans h.low hb.size, ⟨(hg h.walk.1).trans h.walk.1, .inl h.walk.2⟩, ⟨owns_same h.path.1 (fun g e => hk g (h.path.1.lt g e).2), fun g e => .inl (h.path.2 g e)⟩, ⟨?_, fun g e => .inl (h.met.2.1 g e), fun k hk' => by have := h.met.2.2 k hk'; simp; omega⟩, ⟨(hg h.file.1).trans h.file.1, fun e => ?_⟩, ⟨(h.fns.1.go (hk _ h.fns.1.lt)).more b, .inl h.fns.2⟩, ⟨sb, c1, (c2.go (fun k hl _ => hk k hl) (fun x hx => by obtain ⟨es, cl, e⟩ := c2.maps x hx; exact hg e) hM).more b⟩, h.maps, ⟨?_, ?_, ?_, ?_⟩⟩
  · rcases hk' with e | e
    · exact ⟨(h.lt k e).1, Nat.lt_of_lt_of_le (h.lt k e).2 hb.size⟩
    · exact ⟨by have := h.low; omega, e ▸ hbl⟩
  · have e : (s.met.map fun k => ptrV ((bx ++ [b]).getD k 0)) = s.met.map fun k => ptrV (bx.getD k 0) := List.map_congr_left fun k hk' => by
      have := h.met.2.2 k hk'
      rw [List.getD_eq_getElem?_getD, List.getD_eq_getElem?_getD, List.getElem?_append_left this]
    rw [e]
    exact owns_same h.met.1 (fun g e => hk g (h.met.1.lt g e).2)
  · rcases e with e | e
    · exact h.file.2 e
    · have := (Array.getElem?_eq_some_iff.1 h.file.1).1; omega
  · simp [h.bds.len]
  · rw [List.nodup_append]
    refine ⟨h.bds.nodup, by simp, fun a ha c hc e => ?_⟩
    rw [List.mem_singleton] at hc
    obtain ⟨k, hk'⟩ := List.mem_iff_getElem?.1 ha
    have := hlt k a hk'
    omega
  · intro k c d' e1 e2
    by_cases hl : k < bx.length
    · rw [List.getElem?_append_left hl] at e1
      rw [List.getElem?_append_left (by have := h.bds.len; omega)] at e2
      exact hbs.each k c d' e1 e2
    · have hk' : k = bx.length := by
        have := (List.getElem?_eq_some_iff.1 e1).1
        simp at this; omega
      rw [hk', List.getElem?_concat_length] at e1
      rw [hk', h.bds.len, List.getElem?_concat_length] at e2
      cases e1; cases e2
      refine ⟨v, .slice none 0 0, [], hbox, .inr rfl, hn, ⟨⟨ho.1, ho.2.imp id (fun ⟨g, cap, cur, a1, a2, a3⟩ => ⟨g, cap, cur, a1, Nat.le_trans h.low a2, a3⟩)⟩, fun g hg' e => ?_⟩, by rw [hu]; exact World.ownsRow_nil _ _ _ _, fun g e => by simp [Value.ownBlock] at e, fun j v u e1 _ => by simp at e1⟩
      rcases e with e | e
      · have := (h.lt g e).2; have := (ho.lt g hg').1; omega
      · obtain ⟨cs, e2⟩ := owns_ty ho g hg'
        rw [e, hbox] at e2
        injection e2 with e2
        injection e2 with _ e2 _
        exact absurd e2 (by decide)
  · intro k k' c c' g e1 e2 e3 e4
    have key : ∀ (k c g : Nat), (bx ++ [b])[k]? = some c → usesBlock w' c = some g → bx[k]? = some c := fun k c g e1 e3 => by
      by_cases hl : k < bx.length
      · rwa [List.getElem?_append_left hl] at e1
      · have hk' : k = bx.length := by
          have := (List.getElem?_eq_some_iff.1 e1).1
          simp at this; omega
        rw [hk', List.getElem?_concat_length] at e1
        cases e1
        rw [hub] at e3; cases e3
    exact hbs.apart k k' c c' g (key k c g e1 e3) (key k' c' g e2 e4) e3 e4
end
theorem addUse_len (bds : List Bd) : ∀ (k : Nat) (q : List Nat), (Bn.addUse bds k q).length = bds.length := by
  induction bds with
  | nil => intro k q; rfl
  | cons d r ih => intro k q; cases k with
    | zero => rfl
    | succ k => simp [Bn.addUse, ih]
theorem addUse_at (bds : List Bd) : ∀ (k j : Nat) (q : List Nat) (d : Bd), (Bn.addUse bds k q)[j]? = some d → (j ≠ k ∧ bds[j]? = some d) ∨ (j = k ∧ ∃ d0, bds[j]? = some d0 ∧ d = { d0 with uses := d0.uses ++ [q] }) := by
  induction bds with
  | nil => intro k j q d h; simp [Bn.addUse] at h
  | cons e r ih =>
    intro k j q d h
    cases k with
    | zero =>
      cases j with
      | zero => simp [Bn.addUse] at h; exact .inr ⟨rfl, e, rfl, h.symm⟩
      | succ j => exact .inl ⟨by omega, by simpa [Bn.addUse] using h⟩
    | succ k =>
      cases j with
      | zero => exact .inl ⟨by omega, by simpa [Bn.addUse] using h⟩
      | succ j =>
        have := ih k j q d (by simpa [Bn.addUse] using h)
        rcases this with ⟨h1, h2⟩ | ⟨h1, d0, h2, h3⟩
        · exact .inl ⟨by omega, by simpa using h2⟩
        · exact .inr ⟨by omega, d0, by simpa using h2, h3⟩
end Go.Proofs.YtnndgjnihhafbaaGreatDoor

/-
  A use is put down: who stays.
-/
namespace Go.Proofs.YtnndgjnihhafbaaGreatDoor
open Go.RowKit Go.Shelf Go.WideMaps
open Bn (Sc Bd St)

theorem BAt.useAt {A : Ad} {M : Nat → Prop} {bx : List Nat} {ch : List (Nat × Nat)} {s : St} {p : List Nat} {i : Nat} {w w2 w3 : World} {pv mv sv : Value} {k b : Nat} {d : Bd} {pv0 uv uv' v : Value} {rows : List Value} {q : List Nat}
    (h : BAt A M bx ch s p i w pv mv sv) (hb : bx[k]? = some b) (hd : s.bds[k]? = some d) (hbox : w.heap[b]? = some (.cells #[pv0, .string (Ln.bs d.name), uv, .int .i64 d.params] 133 (0, 0))) (hMb : M b) (hn : d.name.length ≤ 1000000) (hpath : CRow A.n M w pv0 d.path) (huv : w.ownsRow A.n 44 1 uv d.uses.length rows) (hMu : ∀ g, uv.ownBlock = some g → M g)
    (hrows : ∀ (j : Nat) (v : Value) (u : List Nat), rows[j]? = some v → d.uses[j]? = some u → CRow A.n M w v u) (hown' : w2.ownsRow A.n 44 1 uv' (d.uses.length + 1) (rows ++ [v])) (hgr : w.grownBy w2 uv.ownBlock) (hat : uv'.ownBlock = uv.ownBlock ∨ uv'.ownBlock = some w.heap.size) (hv : CRow A.n M w v q) (hw3 : w3 = w2.setCell ⟨b, 2, none⟩ uv') :
    BAt A (fun k => M k ∨ uv'.ownBlock = some k) bx ch (s.use k q) p i w3 pv mv sv ∧ Foot M (fun k => M k ∨ uv'.ownBlock = some k) w w3 := by
  have hbl := (Array.getElem?_eq_some_iff.1 hbox).1
  have hne1 : ∀ g, uv.ownBlock = some g → g ≠ b := fun g hg e => by
    obtain ⟨cs, e2⟩ := owns_ty huv g hg
    rw [e, hbox] at e2
    injection e2 with e2
    injection e2 with _ e2 _
    exact absurd e2 (by decide)
  have hbox2 := (hgr.block b hbl (fun e => hne1 b e.symm rfl)).trans hbox
  have hbox3 : w3.heap[b]? = some (.cells #[pv0, .string (Ln.bs d.name), uv', .int .i64 d.params] 133 (0, 0)) := by rw [hw3]; exact heap_setCell_same w2 b 2 _ _ uv' hbox2
  have g3 : w2.grownBy w3 (some b) := by rw [hw3]; exact grown_set w2 b 2 uv'
  have hk : ∀ k, k < w.heap.size → k ≠ b → uv.ownBlock ≠ some k → w3.heap[k]? = w.heap[k]? := fun k hl n1 n2 => (g3.block k (Nat.lt_of_lt_of_le hl hgr.size) (by simpa using n1)).trans (hgr.block k hl (fun e => n2 e.symm))
  have hkM : ∀ k, k < w.heap.size → ¬ M k → w3.heap[k]? = w.heap[k]? := fun k hl hnM => hk k hl (fun e => hnM (e ▸ hMb)) (fun e => hnM (hMu k e))
  have hcell : ∀ (k : Nat) c T, w.heap[k]? = some (.cells c T (0, 0)) → T ≠ 133 → T ≠ 44 → w3.heap[k]? = w.heap[k]? := fun k c T e n1 n2 => hk k (Array.getElem?_eq_some_iff.1 e).1 (fun e2 => by
    rw [e2, hbox] at e
    injection e with e
    injection e with _ e _
    exact n1 e.symm) (fun e2 => by
    obtain ⟨cs, e3⟩ := owns_ty huv k e2
    rw [e] at e3
    injection e3 with e3
    injection e3 with _ e3 _
    exact n2 e3)
  have hmap : ∀ (k : Nat) es cl, w.heap[k]? = some (.map es cl) → w3.heap[k]? = w.heap[k]? := fun k es cl e => hk k (Array.getElem?_eq_some_iff.1 e).1 (fun e2 => by rw [e2, hbox] at e; cases e) (fun e2 => by
    obtain ⟨cs, e3⟩ := owns_ty huv k e2
    rw [e] at e3; cases e3)
  have hM : ∀ k, k < w.heap.size → ((M k ∨ uv'.ownBlock = some k) ↔ M k) := fun k hl => ⟨fun e => by
    rcases e with e | e
    · exact e
    · rcases hat with e2 | e2
      · exact hMu k (e2 ▸ e)
      · rw [e2] at e
        have : w.heap.size = k := by simpa using e
        omega, .inl⟩
  have hsz : w.heap.size ≤ w3.heap.size := Nat.le_trans hgr.size g3.size
  have hown3 : w3.ownsRow A.n 44 1 uv' (d.uses.length + 1) (rows ++ [v]) := owns_same hown' (fun g hg => g3.block g (hown'.lt g hg).2 (fun e => by
    have e : g = b := by simpa using e
    obtain ⟨cs, e2⟩ := owns_ty hown' g hg
    rw [e, hbox2] at e2
    injection e2 with e2
    injection e2 with _ e2 _
    exact absurd e2 (by decide)))
  have hub3 : usesBlock w3 b = uv'.ownBlock := by unfold usesBlock; rw [hbox3]; rfl
  have hub : usesBlock w b = uv.ownBlock := by unfold usesBlock; rw [hbox]; rfl
  obtain ⟨sb, c1, c2⟩ := h.chain
  have hother : ∀ (k' b' : Nat), bx[k']? = some b' → k' ≠ k → w3.heap[b']? = w.heap[b']? ∧ ∀ g, usesBlock w b' = some g → w3.heap[g]? = w.heap[g]? ∧ g < w.heap.size := fun k' b' e1 hne => by
    obtain ⟨⟨cs, e2⟩, e3⟩ := h.bds.ty e1
    have hb' : b' ≠ b := fun e => hne (by
      have hl1 := (List.getElem?_eq_some_iff.1 e1).1
      have hl2 := (List.getElem?_eq_some_iff.1 hb).1
      have h5 := h.bds.nodup
      have e4 : bx[k'] = bx[k] := by rw [(List.getElem?_eq_some_iff.1 e1).2, (List.getElem?_eq_some_iff.1 hb).2, e]
      exact (List.getElem_inj h5).1 e4)
    have hl := (Array.getElem?_eq_some_iff.1 e2).1
    refine ⟨hk b' hl hb' (fun e => ?_), fun g hg => ?_⟩
    · obtain ⟨cs2, e5⟩ := owns_ty huv b' e
      rw [e2] at e5
      injection e5 with e5
      injection e5 with _ e5 _
      exact absurd e5 (by decide)
    · obtain ⟨cs3, e6⟩ := e3 g hg
      have hgl := (Array.getElem?_eq_some_iff.1 e6).1
      refine ⟨hk g hgl (fun e => ?_) (fun e => hne (h.bds.apart k' k b' b g e1 hb hg (hub.trans e))), hgl⟩
      rw [e, hbox] at e6
      injection e6 with e6
      injection e6 with _ e6 _
      exact absurd e6 (by decide)
  refine ⟨⟨fun k' hk' => ?_, Nat.le_trans h.low hsz, ⟨(hcell _ _ _ h.walk.1 (by decide) (by decide)).trans h.walk.1, .inl h.walk.2⟩, ⟨owns_same h.path.1 (fun g e => by obtain ⟨c, e2⟩ := owns_ty h.path.1 g e; exact hcell g _ _ e2 (by decide) (by decide)), fun g e => .inl (h.path.2 g e)⟩, ⟨owns_same h.met.1 (fun g e => by obtain ⟨c, e2⟩ := owns_ty h.met.1 g e; exact hcell g _ _ e2 (by decide) (by decide)), fun g e => .inl (h.met.2.1 g e), h.met.2.2⟩, ⟨(hcell _ _ _ h.file.1 (by decide) (by decide)).trans h.file.1, fun e => h.file.2 ((hM _ (Array.getElem?_eq_some_iff.1 h.file.1).1).1 e)⟩, ⟨h.fns.1.go (by obtain ⟨es, cl, e⟩ := h.fns.1.obj; exact hmap _ es cl e), .inl h.fns.2⟩, ⟨sb, c1, c2.go hkM (fun x hx => by obtain ⟨es, cl, e⟩ := c2.maps x hx; exact hmap _ es cl e) hM⟩, h.maps, ⟨?_, h.bds.nodup, ?_, ?_⟩⟩, ⟨g3.os.trans hgr.os, g3.tape.trans hgr.tape, g3.output.trans hgr.output, hsz, hkM, fun k' hk' => ?_⟩⟩
  · rcases hk' with e | e
    · exact ⟨(h.lt k' e).1, Nat.lt_of_lt_of_le (h.lt k' e).2 hsz⟩
    · exact hown3.lt k' e
  · show bx.length = (Bn.addUse s.bds k q).length
    rw [addUse_len, h.bds.len]
  · intro k' b' d' e1 e2
    rcases addUse_at s.bds k k' q d' e2 with ⟨hne, e3⟩ | ⟨rfl, d0, e3, rfl⟩
    · obtain ⟨h1, h2⟩ := hother k' b' e1 hne
      exact (h.bds.each k' b' d' e1 e3).go hkM h1 (fun g hg => (h2 g hg).1) hM
    · rw [hb] at e1
      rw [hd] at e3
      cases e1; cases e3
      refine ⟨pv0, uv', rows ++ [v], hbox3, .inl hMb, hn, hpath.go hkM hM, by rw [List.length_append]; exact hown3, fun g hg => .inr hg, fun j v' u e4 e5 => ?_⟩
      have hlr : rows.length = d.uses.length := by have := huv.1; omega
      by_cases hj : j < rows.length
      · rw [List.getElem?_append_left hj] at e4
        rw [List.getElem?_append_left (by omega)] at e5
        exact (hrows j v' u e4 e5).go hkM hM
      · have hj' : j = rows.length := by
          have := (List.getElem?_eq_some_iff.1 e4).1
          simp at this; omega
        rw [hj', List.getElem?_concat_length] at e4
        rw [hj', hlr, List.getElem?_concat_length] at e5
        cases e4; cases e5
        exact hv.go hkM hM
  · intro k1 k2 b1 b2 g e1 e2 e3 e4
    by_cases h1 : k1 = k
    · subst h1
      rw [hb] at e1; cases e1
      by_cases h2 : k2 = k1
      · exact h2.symm
      · obtain ⟨a1, a2⟩ := hother k2 b2 e2 h2
        rw [usesBlock_go a1] at e4
        rw [hub3] at e3
        rcases hat with e5 | e5
        · exact h.bds.apart k1 k2 b b2 g hb e2 (hub.trans (e5 ▸ e3)) e4
        · have := (a2 g e4).2
          rw [e5] at e3
          have : w.heap.size = g := by simpa using e3
          omega
    · obtain ⟨a1, a2⟩ := hother k1 b1 e1 h1
      rw [usesBlock_go a1] at e3
      by_cases h2 : k2 = k
      · subst h2
        rw [hb] at e2; cases e2
        rw [hub3] at e4
        rcases hat with e5 | e5
        · exact h.bds.apart k1 k2 b1 b g e1 hb e3 (hub.trans (e5 ▸ e4))
        · have := (a2 g e3).2
          rw [e5] at e4
          have : w.heap.size = g := by simpa using e4
          omega
      · obtain ⟨a3, -⟩ := hother k2 b2 e2 h2
        rw [usesBlock_go a3] at e4
        exact h.bds.apart k1 k2 b1 b2 g e1 e2 e3 e4
  · rcases hk' with e | e
    · exact .inl e
    · rcases hat with e5 | e5
      · exact .inl (hMu k' (e5 ▸ e))
      · rw [e5] at e
        have : w.heap.size = k' := by simpa using e
        exact .inr (by omega)
end Go.Proofs.YtnndgjnihhafbaaGreatDoor

/-
  The walk of binder: the path and the name of a node, in a box of its own.
-/
namespace Go.Proofs.YtnndgjnihhafbaaGreatDoor
open Go.RowKit Go.Shelf Go.WideMaps
open Bn (Sc Bd St)

attribute [local go_sem] Oper.semAt_some

/-- What binder tells: a box that is new, the path's own copy. -/
def BinderNew (t : Tr) (p : List Nat) (w : World) (e : Ending) (w' : World) : Prop :=
  ∃ (b : Nat) (v : Value), e = .returned (ptrV b) ∧ w.heap.size ≤ b ∧ Below w.heap.size w w' ∧ w'.heap[b]? = some (.cells #[v, .string (Ln.bs t.t), .slice none 0 0, .int .i64 (if t.k = 2 then Bn.params t else 0 : Nat)] 133 (0, 0)) ∧ w'.ownsRow w.heap.size 3 1 v p.length (p.map numV)
theorem box_store {W : World} {b : Nat} {c0 c1 c2 c3 : Value} (h : W.heap[b]? = some (.cells #[c0, c1, c2, c3] 133 (0, 0))) (u : Value) : (W.setCell ⟨b, 3, none⟩ u).heap[b]? = some (.cells #[c0, c1, c2, u] 133 (0, 0)) ∧ W.grownBy (W.setCell ⟨b, 3, none⟩ u) (some b) := ⟨heap_setCell_same W b 3 _ _ u h, grown_set W b 3 u⟩
theorem params_slice {S : Nat → Prop} {w : World} {v : Value} {t : Tr} (h : RowR S w v t.kids) (h2 : t.kids ≠ []) : ∃ b off n c a2 c2, v = .slice (some ⟨b, off, none⟩) n c ∧ 0 < n ∧ S b ∧ w.cell? ⟨b, off + 3, none⟩ = some (.slice a2 (Bn.params t) c2) := by
  obtain ⟨xs, ao, cap, b, off, e1, e2, -, e4, -, e6⟩ := h.parts
  have hl : 0 < t.kids.length := List.length_pos_iff.2 h2
  obtain ⟨rfl, hS⟩ := e4 hl
  cases xs with
  | nil => rw [e1] at hl; simp at hl
  | cons x r =>
    obtain ⟨-, hr, -, -, -, h3⟩ := e6 0 x rfl
    rw [show off + 0 * 4 + 3 = off + 3 by omega] at h3
    obtain ⟨xs2, ao2, cap2, _, _, f1, f2, -⟩ := hr.parts
    have e : Bn.params t = x.kids.length := by
      unfold Bn.params
      rw [e1]
      rfl
    rw [f2] at h3
    exact ⟨b, off, _, cap, ao2, cap2, e2, hl, hS, by rw [e]; exact h3⟩

set_option maxRecDepth 100000 in
set_option maxHeartbeats 4000000 in
theorem binder_any (wb n : Nat) (sv pv mv : Value) (i : Nat) (p : List Nat) (t : Tr) (val : Value) (w : World) (hw : w.heap[wb]? = some (.cells #[sv, pv, .int .i64 i, mv] 86 (0, 0))) (hp : w.ownsRow n 3 1 pv p.length (p.map numV)) (hpl : p.length ≤ 1000000)
    (hn : NodeR (lowS w.heap.size) w val t) (ht : t.t.length ≤ 1000000) (h2 : t.k = 2 → t.kids ≠ []) : Calls Tryz.prog 62 #[ptrV wb, val] w fun e w' => BinderNew t p w e w' := by
  obtain ⟨⟨k, tx, nn, kv, kids⟩, rfl, rfl, hf, hr⟩ := hn
  simp only [N1.cells, N1.tr, Tr.k, Tr.t, Tr.kids] at *
  obtain ⟨ka, kc, rfl⟩ : ∃ ka kc, kv = .slice ka kids.length kc := by
    obtain ⟨_, ao, cap, _, _, _, e, -⟩ := hr.parts
    exact ⟨ao, cap, e⟩
  obtain ⟨X, hX⟩ : ∃ X, X = w.alloc (.cells #[.int .u8 k, .string (Ln.bs tx), .int .i64 nn, .slice ka kids.length kc] 25) := ⟨_, rfl⟩
  have bX : Below w.heap.size w X := hX ▸ below_new w _
  have xn : X.heap[w.heap.size]? = some (.cells #[.int .u8 k, .string (Ln.bs tx), .int .i64 nn, .slice ka kids.length kc] 25 (0, 0)) := by rw [hX]; exact World.alloc_heap_new w _
  have xw := (bX.block _ (Array.getElem?_eq_some_iff.1 hw).1).trans hw
  have HP : Hid (X.ownsRow n 3 1 pv p.length (p.map numV)) := owns_below hp bX
  have HRX : Hid (RowR (lowS X.heap.size) X (.slice ka kids.length kc) kids) := hr.at bX
  have HCF : Hid (∀ z, Below X.heap.size X z → z.cell? ⟨w.heap.size, 0, none⟩ = some (.int .u8 k) ∧ z.cell? ⟨w.heap.size, 1, none⟩ = some (.string (Ln.bs tx)) ∧ z.cell? ⟨w.heap.size, 2, none⟩ = some (.int .i64 nn) ∧ z.cell? ⟨w.heap.size, 3, none⟩ = some (.slice ka kids.length kc) ∧ z.cell? ⟨wb, 1, none⟩ = some pv) := fun z hz => by
    have y1 := (hz.block _ (Array.getElem?_eq_some_iff.1 xn).1).trans xn
    have y2 := (hz.block _ (Array.getElem?_eq_some_iff.1 xw).1).trans xw
    exact ⟨cells_at y1 rfl, cells_at y1 rfl, cells_at y1 rfl, cells_at y1 rfl, cells_at y2 rfl⟩
  have HBX : Hid (Below w.heap.size w X ∧ w.heap.size < X.heap.size) := ⟨bX, (Array.getElem?_eq_some_iff.1 xn).1⟩
  have HT : Hid (tx.length ≤ 1000000) := ht
  have hsz : (Ln.bs tx).size ≤ 281474976710656 := by rw [Ln.bs_size]; omega
  have HSZ : Hid (_) := hsz
  have HPL : Hid (p.length ≤ 1000000) := hpl
  have H2 : Hid (k = 2 → kids ≠ []) := h2
  have HD0 : Hid (Below X.heap.size X X.drew) := below_draw X 1
  clear hw hp bX xn xw hr ht hf h2 hpl hsz
  refine (callsIn_wide (n := 3)).1 ?_
  refine callsIn_of_wp Tryz.func62 rfl trivial ?_ rfl
  simp only [Tryz.ntmps62, List.size_toArray, List.length_cons, List.length_nil, Nat.reduceAdd, Nat.reduceSub, Array.replicate_succ, Array.replicate_zero, List.push_toArray, List.append_toArray, List.nil_append, List.cons_append]
  gi_wp2
  rw [← hX]
  clear hX

  refine region_lex (fun z => Below X.heap.size X z) 4 8 rfl (by kernel_rfl) (by kernel_rfl) (by kernel_rfl) (by kernel_rfl) (fun _ _ d _ _ h => by cases d <;> exact h) HD0.out ?_
  simp only [List.take_succ_cons, List.take_zero]
  iterate 4 (first
    | (apply lexC_want
       · rfl
       · exact fun _ => rfl
       · (intro w' hw'; obtain ⟨f0, f1, f2, f3, f4⟩ := HCF.out w' hw'; go_simp; try rfl)
       simp only [Act.put, List.setIfInBounds_toArray, List.set_cons_zero, List.set_cons_succ])
    | (apply lexC_skip
       · rfl
       · exact fun _ => rfl
       simp only [Act.put, List.setIfInBounds_toArray, List.set_cons_zero, List.set_cons_succ]))
  refine lexC_nil ?_
  refine anyC_take (i := 5) (v := .pointer (some ⟨w.heap.size, 1, none⟩)) rfl rfl (by kernel_rfl) (by kernel_rfl) (by kernel_rfl) (fun _ _ d _ _ h => by cases d <;> exact h) HD0.out (by rfl) (fun _ => rfl) (by intro w' hw'; obtain ⟨f0, f1, f2, f3, f4⟩ := HCF.out w' hw'; go_simp; try rfl) ?_
  simp only [Act.put, List.setIfInBounds_toArray, List.set_cons_zero, List.set_cons_succ, List.getElem_toArray, List.getElem_cons_zero, List.getElem_cons_succ]
  refine anyC_take (i := 6) (v := .string (Ln.bs tx)) rfl rfl (by kernel_rfl) (by kernel_rfl) (by kernel_rfl) (fun _ _ d _ _ h => by cases d <;> exact h) HD0.out (by rfl) (fun _ => rfl) (by intro w' hw'; obtain ⟨f0, f1, f2, f3, f4⟩ := HCF.out w' hw'; go_simp; try rfl) ?_
  simp only [Act.put, List.setIfInBounds_toArray, List.set_cons_zero, List.set_cons_succ, List.getElem_toArray, List.getElem_cons_zero, List.getElem_cons_succ]
  refine anyC_one (i := 4) (by kernel_rfl) rfl (by rfl) (fun K1 hK1 => ?_)
  go_simp
  refine ⟨trivial, ?_⟩
  refine (callsIn_wide.2 (iclone_any n pv p X.drew HP.out HPL.out)).mono ?_
  rintro e w1 ⟨v, rfl, ho, b1⟩
  obtain ⟨va, vc, hv⟩ := slice_shape ho
  obtain ⟨N, hN⟩ : ∃ N, N = p.length := ⟨_, rfl⟩
  have HN : Hid (N = p.length) := hN
  rw [← hN] at hv
  subst hv
  clear hN
  have D1 : Below X.heap.size X w1 := HD0.out.trans b1
  have HO1 : Hid (w1.ownsRow w.heap.size 3 1 (.slice va N vc) p.length (p.map numV)) := ⟨ho.1, ho.2.imp id (fun ⟨g, cap, cur, a1, a2, a3⟩ => ⟨g, cap, cur, a1, Nat.le_trans (Nat.le_of_lt HBX.out.2) a2, a3⟩)⟩
  refine hK1 _ _ D1 ?_
  clear hK1
  clear ho b1
  refine anyC_one (i := 7) (by kernel_rfl) rfl (by rfl) (fun K2 hK2 => ?_)
  go_simp
  refine ⟨trivial, ?_⟩
  refine (callsIn_wide.2 (clone_any _ w1 HSZ.out)).mono ?_
  rintro e w2 ⟨rfl, b2⟩
  have D2 : Below X.heap.size X w2 := below_then D1 b2
  have HO : Hid (w2.ownsRow w.heap.size 3 1 (.slice va N vc) p.length (p.map numV)) := owns_below HO1.out b2
  refine hK2 _ _ D2 ?_
  clear hK2
  clear b2 HO1 D1
  refine anyC_more 8 2 2 4 rfl (by kernel_rfl) rfl (by decide) (by kernel_rfl) (fun _ _ d _ _ h => by cases d <;> exact h) D2 ?_
  simp only [List.drop_succ_cons, List.drop_zero, List.take_succ_cons, List.take_zero]
  iterate 2 (first
    | (apply lexC_want
       · rfl
       · exact fun _ => rfl
       · (intro w' hw'; obtain ⟨f0, f1, f2, f3, f4⟩ := HCF.out w' hw'; go_simp; try rfl)
       simp only [Act.put, List.setIfInBounds_toArray, List.set_cons_zero, List.set_cons_succ])
    | (apply lexC_skip
       · rfl
       · exact fun _ => rfl
       simp only [Act.put, List.setIfInBounds_toArray, List.set_cons_zero, List.set_cons_succ]))
  refine lexC_nil ?_
  obtain ⟨Y, hY⟩ : ∃ Y, Y = w2.alloc (.cells #[.slice va N vc, .string (Ln.bs tx), .slice none 0 0, .int .i64 0] 133) := ⟨_, rfl⟩
  have bY : Below w2.heap.size w2 Y := hY ▸ below_new w2 _
  have yb : Y.heap[w2.heap.size]? = some (.cells #[.slice va N vc, .string (Ln.bs tx), .slice none 0 0, .int .i64 0] 133 (0, 0)) := by rw [hY]; exact World.alloc_heap_new w2 _
  have oY : Y.ownsRow w.heap.size 3 1 (.slice va N vc) p.length (p.map numV) := owns_below HO.out bY
  have BXY : Below X.heap.size X Y := below_then D2 bY
  obtain ⟨q, hq⟩ : ∃ q, q = w2.heap.size := ⟨_, rfl⟩
  have hwq : w.heap.size ≤ q := by rw [hq]; have := (D2).size; have := HBX.out.2; omega
  refine anyC_one (i := 10) (by kernel_rfl) rfl (by rfl) (fun K3 hK3 => ?_)
  go_simp
  rw [← hY, ← hq]
  rw [← hq] at yb
  refine hK3 _ _ BXY ?_
  clear hK3
  have HQ : Hid (w.heap.size ≤ q) := hwq
  clear hY hq hwq
  refine anyC_more 11 1 0 1 rfl (by kernel_rfl) rfl (by decide) (by kernel_rfl) (fun _ _ d _ _ h => by cases d <;> exact h) BXY ?_
  simp only [List.drop_succ_cons, List.drop_zero, List.take_succ_cons, List.take_zero]
  iterate 1 (first
    | (apply lexC_want
       · rfl
       · exact fun _ => rfl
       · (intro w' hw'; obtain ⟨f0, f1, f2, f3, f4⟩ := HCF.out w' hw'; go_simp; try rfl)
       simp only [Act.put, List.setIfInBounds_toArray, List.set_cons_zero, List.set_cons_succ])
    | (apply lexC_skip
       · rfl
       · exact fun _ => rfl
       simp only [Act.put, List.setIfInBounds_toArray, List.set_cons_zero, List.set_cons_succ]))
  refine lexC_nil ?_
  refine anyC_done (by kernel_rfl) ?_
  obtain ⟨f0, f1, f2, f3, f4⟩ := HCF.out Y BXY
  have HY : Hid (Y.heap[q]? = some (.cells #[.slice va N vc, .string (Ln.bs tx), .slice none 0 0, .int .i64 0] 133 (0, 0)) ∧ Y.ownsRow w.heap.size 3 1 (.slice va N vc) p.length (p.map numV) ∧ Below w.heap.size w Y ∧ Below X.heap.size X Y) := ⟨yb, oY, below_then HBX.out.1 BXY, BXY⟩
  clear oY bY BXY HO
  by_cases hk : k = 2
  case pos =>
    have e2 : (k == 2) = true := by simpa using hk
    obtain ⟨kb, ko, kn, kcc, a2, c2, hsl, hn0, hS, hcell⟩ := params_slice (t := .mk k tx nn kids) HRX.out (H2.out hk)
    injection hsl with hsl1 hsl2 hsl3
    subst hsl1 hsl2 hsl3
    have hcY : Y.cell? ⟨kb, ko + 3, none⟩ = some (.slice a2 (Bn.params (.mk k tx nn kids)) c2) := (HY.out.2.2.2.cell (p := ⟨kb, ko + 3, none⟩) hS).trans hcell
    have hnI : (0 : Int) < kids.length := by omega
    obtain ⟨pn, hpn⟩ : ∃ n, n = Bn.params (.mk k tx nn kids) := ⟨_, rfl⟩
    have y3 : Y.cell? ⟨q, 3, none⟩ = some (.int .i64 0) := cells_at yb rfl
    have yf : Y.frozen? ⟨q, 3, none⟩ = false := frozen_of_row Y _ 3 _ _ yb
    obtain ⟨s1, s2⟩ := box_store yb (.int .i64 (pn : Nat))
    obtain ⟨Z, hZ⟩ : ∃ Z, Z = Y.setCell ⟨q, 3, none⟩ (.int .i64 (pn : Nat)) := ⟨_, rfl⟩
    rw [← hZ] at s1 s2
    rw [← hpn] at hcY
    have oZ : Z.ownsRow w.heap.size 3 1 (.slice va N vc) p.length (p.map numV) := owns_same HY.out.2.1 (fun g hg => s2.block g (HY.out.2.1.lt g hg).2 (fun e => by
      have e : g = q := by simpa using e
      obtain ⟨c9, e9⟩ := owns_ty HY.out.2.1 g hg
      rw [e, yb] at e9
      injection e9 with e9
      injection e9 with _ e9 _
      exact absurd e9 (by decide)))
    have HF : Hid (BinderNew (.mk k tx nn kids) p w (.returned (ptrV q)) Z) := ⟨q, _, rfl, HQ.out, ⟨s2.os.trans HY.out.2.2.1.os, s2.tape.trans HY.out.2.2.1.tape, s2.output.trans HY.out.2.2.1.output, Nat.le_trans HY.out.2.2.1.size s2.size, fun j hj => (s2.block j (Nat.lt_of_lt_of_le hj HY.out.2.2.1.size) (by have := HQ.out; simp; omega)).trans (HY.out.2.2.1.block j hj)⟩, by rw [if_pos (show (Tr.mk k tx nn kids).k = 2 from hk), ← hpn]; exact s1, oZ⟩
    clear hk s1 s2 oZ hcell hS hpn yb hn0
    gi_wp2
    rw [← hZ]
    go_ret
    exact HF.out
  case neg =>
    have e2 : (k == 2) = false := by simpa using hk
    have HF : Hid (BinderNew (.mk k tx nn kids) p w (.returned (ptrV q)) Y) := ⟨q, _, rfl, HQ.out, HY.out.2.2.1, by rw [if_neg (show ¬ (Tr.mk k tx nn kids).k = 2 from hk)]; exact yb, HY.out.2.1⟩
    clear hk yb
    gi_wp2
    go_ret
    exact HF.out
end Go.Proofs.YtnndgjnihhafbaaGreatDoor

/-
  A file's walk in memory: its boxes, scopes and binders; who stays where another block turns.
-/
import Derived.Test.YtnndgjnihhafbaaGreatDoorBnMath
import Derived.Test.YtnndgjnihhafbaaGreatDoorBaseAll
import Derived.Maps.Own
import Derived.Maps.OwnSet
import Derived.Maps.Views
import Derived.Maps.AppendAt
namespace Go.Proofs.YtnndgjnihhafbaaGreatDoor
open Go.RowKit Go.Shelf Go.WideMaps
open Bn (Sc Bd St)

abbrev ptrV (b : Nat) : Value := .pointer (some ⟨b, 0, none⟩)
/-- How a pointer reads in a map. -/
def RP : Value → Option (DataW Unit × List MemPlace)
  | .pointer none => some (.lit (.int .i64 0), [])
  | .pointer (some ⟨b, 0, none⟩) => some (.lit (.int .i64 ((b : Int) + 1)), [])
  | _ => none
theorem RP_inv {v : Value} {z : Int} {ps : List MemPlace} (h : RP v = some (.lit (.int .i64 z), ps)) : (z = 0 ∧ v = .pointer none) ∨ ∃ b : Nat, z = (b : Int) + 1 ∧ v = ptrV b := by
  unfold RP at h
  split at h
  · injection h with h; injection h with h _; injection h with h; injection h with _ h; exact .inl ⟨h.symm, rfl⟩
  · next b => injection h with h; injection h with h _; injection h with h; injection h with _ h; exact .inr ⟨b, h.symm, rfl⟩
  · cases h
/-- What a number of a binder is as a pointer. -/
def bptr (bx : List Nat) : Option Nat → Value
  | none => .pointer none
  | some k => ptrV (bx.getD k 0)
def dOf (bx : List Nat) : Sc → DataW Unit
  | [] => .map []
  | x :: r => (dOf bx r).put (.string x.1) (.lit (.int .i64 ((bx.getD x.2 0 : Nat) + 1)))
theorem dOf_map (bx : List Nat) : ∀ sc, Maps.IsMap (dOf bx sc)
  | [] => Maps.isMap_empty
  | _ :: r => (dOf_map bx r).put _ _
theorem dOf_at (bx : List Nat) (q : List UInt8) (z : DataW Unit) : ∀ sc, (dOf bx sc).atKey (.string q) z = match Bn.find sc q with | none => z | some k => .lit (.int .i64 ((bx.getD k 0 : Nat) + 1))
  | [] => rfl
  | x :: r => by
    rw [dOf, Bn.find]
    by_cases h : x.1 = q
    · rw [if_pos h, h]
      exact Maps.atKey_put_same (dOf_map bx r) (by trivial) _ _
    · rw [if_neg h, Maps.atKey_put_other (fun e => h (by injection e with e; exact e.symm))]
      exact dOf_at bx q z r
theorem dOf_more (bx : List Nat) (b : Nat) : ∀ sc : Sc, (∀ x ∈ sc, x.2 < bx.length) → dOf (bx ++ [b]) sc = dOf bx sc
  | [], _ => rfl
  | x :: r, h => by
    have hx := h x (by simp)
    rw [dOf, dOf, dOf_more bx b r (fun y hy => h y (by simp [hy]))]
    have e : (bx ++ [b]).getD x.2 0 = bx.getD x.2 0 := by
      rw [List.getD_eq_getElem?_getD, List.getD_eq_getElem?_getD, List.getElem?_append_left hx]
    rw [e]

/-- A map of names. -/
def MapAt (bx : List Nat) (w : World) (m : Nat) (sc : Sc) : Prop := (∃ k, k ≤ sc.length ∧ w.ownsMap Tryz.prog 9 RP m k (dOf bx sc)) ∧ ∀ x ∈ sc, x.2 < bx.length
set_option maxRecDepth 100000 in
theorem zeroPtr (w : World) : (zeroValue 95).run Tryz.prog w = .ok (.pointer none) w := by rfl
theorem MapAt.lt {bx : List Nat} {w : World} {m : Nat} {sc : Sc} (h : MapAt bx w m sc) : m < w.heap.size := by
  obtain ⟨⟨k, -, h⟩, -⟩ := h; exact h.lt
theorem MapAt.obj {bx : List Nat} {w : World} {m : Nat} {sc : Sc} (h : MapAt bx w m sc) : ∃ es c, w.heap[m]? = some (.map es c) := by
  obtain ⟨⟨k, -, es, c, h, -⟩, -⟩ := h; exact ⟨es, c, h⟩
theorem MapAt.go {bx : List Nat} {w w' : World} {m : Nat} {sc : Sc} (h : MapAt bx w m sc) (hk : w'.heap[m]? = w.heap[m]?) : MapAt bx w' m sc := by
  obtain ⟨⟨k, h1, es, c, h2, h3⟩, h4⟩ := h
  exact ⟨⟨k, h1, es, c, hk.trans h2, h3⟩, h4⟩
theorem MapAt.more {bx : List Nat} {w : World} {m : Nat} {sc : Sc} (h : MapAt bx w m sc) (b : Nat) : MapAt (bx ++ [b]) w m sc := by
  obtain ⟨⟨k, h1, h2⟩, h3⟩ := h
  exact ⟨⟨k, h1, by rw [dOf_more bx b sc h3]; exact h2⟩, fun x hx => by have := h3 x hx; simp; omega⟩
theorem MapAt.new (bx : List Nat) (w : World) : MapAt bx (w.alloc (.map #[] 0)) w.heap.size [] := ⟨⟨0, Nat.le_refl _, World.ownsMap_made _ _ _ _⟩, fun x hx => by cases hx⟩
theorem MapAt.look {bx : List Nat} {w : World} {m : Nat} {sc : Sc} (h : MapAt bx w m sc) (q : List UInt8) (hq : q.length ≤ 1000000) :
    (Instr.lookup 88 (.map (some m)) (.string (Ln.bs q)) false).run Tryz.prog w = .ok (bptr bx (Bn.find sc q)) w := by
  obtain ⟨⟨k, -, h⟩, -⟩ := h
  have hkey : keyOf Tryz.prog 9 (.string (Ln.bs q)) = some (.string q) := by
    have h := keyOf_string_mk (P := Tryz.prog) Tryz.underlying9 (s := Ln.bs q) (by rw [Ln.bs_size]; unfold maxLen; omega)
    rw [h]; rfl
  obtain ⟨v, ps, hrun, hv⟩ := h.lookup (Maps.string_keyed Tryz.underlying9) Tryz.underlying88 (zeroPtr w) (zd := .lit (.int .i64 0)) (zp := []) rfl hkey
  rw [dOf_at] at hv
  rw [hrun]
  cases hf : Bn.find sc q with
  | none =>
    rw [hf] at hv
    rcases RP_inv hv with ⟨-, rfl⟩ | ⟨b, hb, -⟩
    · rfl
    · omega
  | some j =>
    rw [hf] at hv
    rcases RP_inv hv with ⟨hb, -⟩ | ⟨b, hb, rfl⟩
    · omega
    · have : b = bx.getD j 0 := by omega
      rw [this]; rfl
theorem MapAt.put {bx : List Nat} {w : World} {m : Nat} {sc : Sc} (h : MapAt bx w m sc) (q : List UInt8) (hq : q.length ≤ 1000000) (k : Nat) (hk : k < bx.length) (hs : sc.length ≤ 1000000000) :
    ∃ w', (Instr.mapUpdate 88 (.map (some m)) (.string (Ln.bs q)) (ptrV (bx.getD k 0))).run Tryz.prog w = .ok () w' ∧ MapAt bx w' m ((q, k) :: sc) ∧ w.grownBy w' (some m) := by
  obtain ⟨⟨n, h1, h⟩, h3⟩ := h
  have hkey : keyOf Tryz.prog 9 (.string (Ln.bs q)) = some (.string q) := by
    have h := keyOf_string_mk (P := Tryz.prog) Tryz.underlying9 (s := Ln.bs q) (by rw [Ln.bs_size]; unfold maxLen; omega)
    rw [h]; rfl
  obtain ⟨w', hrun, ho, hg⟩ := h.update (Maps.string_keyed Tryz.underlying9) Tryz.underlying88 (by unfold maxLen; omega) hkey (val := ptrV (bx.getD k 0)) (d := .lit (.int .i64 ((bx.getD k 0 : Nat) + 1))) (ps := []) rfl
  exact ⟨w', hrun, ⟨⟨n + 1, by simp; omega, ho⟩, fun x hx => by
    rcases List.mem_cons.1 hx with rfl | hx
    · exact hk
    · exact h3 x hx⟩, hg⟩

/-- The scopes, the innermost one first, as the value that holds the first of them. -/
def Chain (fb : Nat) (bx : List Nat) (M : Nat → Prop) (w : World) : List (Nat × Nat) → List Sc → Value → Prop
  | [], [], v => v = .iface 87 (ptrV fb)
  | x :: c, sc :: r, v => v = .iface 83 (ptrV x.1) ∧ ¬ M x.1 ∧ M x.2 ∧ MapAt bx w x.2 sc ∧ ∃ u, w.heap[x.1]? = some (.cells #[u, .map (some x.2)] 130 (0, 0)) ∧ Chain fb bx M w c r u
  | _, _, _ => False
theorem Chain.go {fb : Nat} {bx : List Nat} {M M' : Nat → Prop} {w w' : World} : ∀ {c : List (Nat × Nat)} {r : List Sc} {v : Value}, Chain fb bx M w c r v → (∀ k, k < w.heap.size → ¬ M k → w'.heap[k]? = w.heap[k]?) → (∀ x ∈ c, w'.heap[x.2]? = w.heap[x.2]?) → (∀ k, k < w.heap.size → (M' k ↔ M k)) → Chain fb bx M' w' c r v
  | [], [], _, h, _, _, _ => h
  | [], _ :: _, _, h, _, _, _ => h.elim
  | _ :: _, [], _, h, _, _, _ => h.elim
  | x :: c, sc :: r, v, ⟨h1, h2, h3, h4, u, h5, h6⟩, hk, hx, hM => by
    have l1 := (Array.getElem?_eq_some_iff.1 h5).1
    exact ⟨h1, fun e => h2 ((hM _ l1).1 e), (hM _ h4.lt).2 h3, h4.go (hx x (by simp)), u, (hk _ l1 h2).trans h5, Chain.go h6 hk (fun y hy => hx y (by simp [hy])) hM⟩
theorem Chain.more {fb : Nat} {bx : List Nat} {M : Nat → Prop} {w : World} (b : Nat) : ∀ {c : List (Nat × Nat)} {r : List Sc} {v : Value}, Chain fb bx M w c r v → Chain fb (bx ++ [b]) M w c r v
  | [], [], _, h => h
  | [], _ :: _, _, h => h.elim
  | _ :: _, [], _, h => h.elim
  | _ :: _, _ :: _, _, ⟨h1, h2, h3, h4, u, h5, h6⟩ => ⟨h1, h2, h3, h4.more b, u, h5, Chain.more b h6⟩
theorem Chain.maps {fb : Nat} {bx : List Nat} {M : Nat → Prop} {w : World} : ∀ {c : List (Nat × Nat)} {r : List Sc} {v : Value}, Chain fb bx M w c r v → ∀ x ∈ c, ∃ es k, w.heap[x.2]? = some (.map es k)
  | [], _, _, _ => fun x hx => by cases hx
  | _ :: _, [], _, h => h.elim
  | _ :: _, _ :: _, _, ⟨_, _, _, h4, _, _, h6⟩ => fun x hx => by
    rcases List.mem_cons.1 hx with rfl | hx
    · exact h4.obj
    · exact Chain.maps h6 x hx
theorem Chain.len {fb : Nat} {bx : List Nat} {M : Nat → Prop} {w : World} : ∀ {c : List (Nat × Nat)} {r : List Sc} {v : Value}, Chain fb bx M w c r v → c.length = r.length
  | [], [], _, _ => rfl
  | [], _ :: _, _, h => h.elim
  | _ :: _, [], _, h => h.elim
  | _ :: _, _ :: _, _, ⟨_, _, _, _, _, _, h6⟩ => by simp [Chain.len h6]

/-- A row of numbers that nothing turns. -/
def CRow (n : Nat) (M : Nat → Prop) (w : World) (v : Value) (p : List Nat) : Prop := w.ownsRow n 3 1 v p.length (p.map numV) ∧ ∀ g, v.ownBlock = some g → ¬ M g
theorem owns_same {n e size k : Nat} {w w' : World} {v : Value} {xs : List Value} (h : w.ownsRow n e size v k xs) (hk : ∀ g, v.ownBlock = some g → w'.heap[g]? = w.heap[g]?) : w'.ownsRow n e size v k xs := by
  refine ⟨h.1, ?_⟩
  rcases h.2 with h0 | ⟨g, cap, cur, rfl, hb, hg, r⟩
  · exact .inl h0
  · exact .inr ⟨g, cap, cur, rfl, hb, (hk g rfl).trans hg, r⟩
theorem owns_ty {n e size k : Nat} {w : World} {v : Value} {xs : List Value} (h : w.ownsRow n e size v k xs) : ∀ g, v.ownBlock = some g → ∃ c, w.heap[g]? = some (.cells c e (0, 0)) := by
  intro g hg
  rcases h.2 with ⟨rfl, _⟩ | ⟨g', cap, cur, rfl, hb, h2, -⟩
  · cases hg
  · cases hg; exact ⟨cur, h2⟩
theorem CRow.go {n : Nat} {M M' : Nat → Prop} {w w' : World} {v : Value} {p : List Nat} (h : CRow n M w v p) (hk : ∀ k, k < w.heap.size → ¬ M k → w'.heap[k]? = w.heap[k]?) (hM : ∀ k, k < w.heap.size → (M' k ↔ M k)) : CRow n M' w' v p :=
  ⟨owns_same h.1 (fun g hg => hk g (h.1.lt g hg).2 (h.2 g hg)), fun g hg e => h.2 g hg ((hM g (h.1.lt g hg).2).1 e)⟩

/-- Where the row of a binder's uses lies. -/
def usesBlock (w : World) (b : Nat) : Option Nat := match w.heap[b]? with | some (.cells c _ _) => (match c[2]? with | some v => v.ownBlock | none => none) | _ => none
/-- A binder. -/
def BdAt (n : Nat) (M : Nat → Prop) (w : World) (b : Nat) (d : Bd) : Prop := ∃ pv uv rows, w.heap[b]? = some (.cells #[pv, .string (Ln.bs d.name), uv, .int .i64 d.params] 133 (0, 0)) ∧ M b ∧ d.name.length ≤ 1000000 ∧ CRow n M w pv d.path ∧ w.ownsRow n 44 1 uv d.uses.length rows ∧ (∀ g, uv.ownBlock = some g → M g) ∧ ∀ (j : Nat) (v : Value) (u : List Nat), rows[j]? = some v → d.uses[j]? = some u → CRow n M w v u
theorem BdAt.lt {n : Nat} {M : Nat → Prop} {w : World} {b : Nat} {d : Bd} (h : BdAt n M w b d) : b < w.heap.size := by
  obtain ⟨pv, uv, rows, h, -⟩ := h; exact (Array.getElem?_eq_some_iff.1 h).1
theorem BdAt.go {n : Nat} {M M' : Nat → Prop} {w w' : World} {b : Nat} {d : Bd} (h : BdAt n M w b d) (hk : ∀ k, k < w.heap.size → ¬ M k → w'.heap[k]? = w.heap[k]?) (hb : w'.heap[b]? = w.heap[b]?) (hu : ∀ g, usesBlock w b = some g → w'.heap[g]? = w.heap[g]?) (hM : ∀ k, k < w.heap.size → (M' k ↔ M k)) : BdAt n M' w' b d := by
  obtain ⟨pv, uv, rows, h1, h2, h3, h4, h5, h6, h7⟩ := h
  have hub : usesBlock w b = uv.ownBlock := by unfold usesBlock; rw [h1]; rfl
  refine ⟨pv, uv, rows, hb.trans h1, (hM _ (Array.getElem?_eq_some_iff.1 h1).1).2 h2, h3, h4.go hk hM, owns_same h5 (fun g hg => hu g (hub.trans hg)), fun g hg => (hM g (h5.lt g hg).2).2 (h6 g hg), fun j v u e1 e2 => (h7 j v u e1 e2).go hk hM⟩

/-- All binders. -/
structure BdsAt (n : Nat) (M : Nat → Prop) (bx : List Nat) (bds : List Bd) (w : World) : Prop where
  len : bx.length = bds.length
  nodup : bx.Nodup
  each : ∀ (k b : Nat) (d : Bd), bx[k]? = some b → bds[k]? = some d → BdAt n M w b d
  apart : ∀ (k k' b b' g : Nat), bx[k]? = some b → bx[k']? = some b' → usesBlock w b = some g → usesBlock w b' = some g → k = k'
theorem usesBlock_go {w w' : World} {b : Nat} (h : w'.heap[b]? = w.heap[b]?) : usesBlock w' b = usesBlock w b := by unfold usesBlock; rw [h]
theorem BdsAt.ty {n : Nat} {M : Nat → Prop} {bx : List Nat} {bds : List Bd} {w : World} (h : BdsAt n M bx bds w) {k b : Nat} (hb : bx[k]? = some b) : (∃ c, w.heap[b]? = some (.cells c 133 (0, 0))) ∧ ∀ g, usesBlock w b = some g → ∃ c, w.heap[g]? = some (.cells c 44 (0, 0)) := by
  have hl := (List.getElem?_eq_some_iff.1 hb).1
  obtain ⟨pv, uv, rows, h1, -, -, -, h5, -⟩ := h.each k b (bds[k]'(by have := h.len; omega)) hb (List.getElem?_eq_getElem _)
  have hub : usesBlock w b = uv.ownBlock := by unfold usesBlock; rw [h1]; rfl
  exact ⟨⟨_, h1⟩, fun g hg => owns_ty h5 g (hub.symm.trans hg)⟩
/-- All binders stay, where neither one of them nor its uses turn. -/
theorem BdsAt.go {n : Nat} {M M' : Nat → Prop} {bx : List Nat} {bds : List Bd} {w w' : World} (h : BdsAt n M bx bds w) (hk : ∀ k, k < w.heap.size → ¬ M k → w'.heap[k]? = w.heap[k]?) (hT : ∀ (k : Nat) (c : Array Value), w.heap[k]? = some (.cells c 133 (0, 0)) → w'.heap[k]? = w.heap[k]?) (hU : ∀ (k : Nat) (c : Array Value), w.heap[k]? = some (.cells c 44 (0, 0)) → w'.heap[k]? = w.heap[k]?) (hM : ∀ k, k < w.heap.size → (M' k ↔ M k)) : BdsAt n M' bx bds w' := by
  have hb : ∀ k b, bx[k]? = some b → w'.heap[b]? = w.heap[b]? := fun k b e => by obtain ⟨⟨c, h1⟩, -⟩ := h.ty e; exact hT b c h1
  refine ⟨h.len, h.nodup, fun k b d (e1 : bx[k]? = some b) e2 => (h.each k b d e1 e2).go hk (hb k b e1) (fun g hg => by
    obtain ⟨-, h2⟩ := h.ty e1
    obtain ⟨c, h3⟩ := h2 g hg
    exact hU g c h3) hM, fun k k' b b' g (e1 : bx[k]? = some b) (e2 : bx[k']? = some b') e3 e4 => ?_⟩
  rw [usesBlock_go (hb k b e1)] at e3
  rw [usesBlock_go (hb k' b' e2)] at e4
  exact h.apart k k' b b' g e1 e2 e3 e4

/-- Where a walk lies. -/
structure Ad where
  n : Nat
  wb : Nat
  fb : Nat
  fm : Nat
/-- A walk, as far as it has come: M is what it may turn. -/
structure BAt (A : Ad) (M : Nat → Prop) (bx : List Nat) (ch : List (Nat × Nat)) (s : St) (p : List Nat) (i : Nat) (w : World) (pv mv sv : Value) : Prop where
  lt : ∀ k, M k → A.n ≤ k ∧ k < w.heap.size
  low : A.n ≤ w.heap.size
  walk : w.heap[A.wb]? = some (.cells #[sv, pv, .int .i64 i, mv] 86 (0, 0)) ∧ M A.wb
  path : w.ownsRow A.n 3 1 pv p.length (p.map numV) ∧ ∀ g, pv.ownBlock = some g → M g
  met : w.ownsRow A.n 95 1 mv s.met.length (s.met.map fun k => ptrV (bx.getD k 0)) ∧ (∀ g, mv.ownBlock = some g → M g) ∧ ∀ k ∈ s.met, k < bx.length
  file : w.heap[A.fb]? = some (.cells #[.map (some A.fm), .func (.func 57) #[ptrV A.wb] #[]] 91 (0, 0)) ∧ ¬ M A.fb
  fns : MapAt bx w A.fm s.fns ∧ M A.fm
  chain : ∃ sb, sv = ptrV sb ∧ Chain A.fb bx M w ch s.own (.iface 83 (ptrV sb))
  maps : (A.fm :: ch.map (·.2)).Nodup
  bds : BdsAt A.n M bx s.bds w
/-- What a walk leaves alone; what it may turn thereafter. -/
structure Foot (M M' : Nat → Prop) (w w' : World) : Prop where
  os : w'.os = w.os
  tape : w'.tape = w.tape
  output : w'.output = w.output
  size : w.heap.size ≤ w'.heap.size
  block : ∀ k, k < w.heap.size → ¬ M k → w'.heap[k]? = w.heap[k]?
  new : ∀ k, M' k → M k ∨ w.heap.size ≤ k
theorem Foot.refl (M : Nat → Prop) (w : World) : Foot M M w w := ⟨rfl, rfl, rfl, Nat.le_refl _, fun _ _ _ => rfl, fun _ h => .inl h⟩
theorem Foot.trans {M M1 M2 : Nat → Prop} {w w1 w2 : World} (h : Foot M M1 w w1) (k : Foot M1 M2 w1 w2) : Foot M M2 w w2 :=
  ⟨k.os.trans h.os, k.tape.trans h.tape, k.output.trans h.output, Nat.le_trans h.size k.size, fun j hj hM => (k.block j (Nat.lt_of_lt_of_le hj h.size) (fun e => by
    rcases h.new j e with e | e
    · exact hM e
    · omega)).trans (h.block j hj hM), fun j hj => by
    rcases k.new j hj with e | e
    · exact h.new j e
    · exact .inr (Nat.le_trans h.size e)⟩
theorem Foot.of_below {M : Nat → Prop} {w w' : World} (h : Below w.heap.size w w') : Foot M M w w' := ⟨h.os, h.tape, h.output, h.size, fun k hk _ => h.block k hk, fun _ h => .inl h⟩
theorem Foot.of_grown {M M' : Nat → Prop} {w w' : World} {b : Nat} (h : w.grownBy w' (some b)) (hb : M b) (hn : ∀ k, M' k → M k ∨ w.heap.size ≤ k) : Foot M M' w w' :=
  ⟨h.os, h.tape, h.output, h.size, fun k hk hM => h.block k hk (fun e => hM (by cases e; exact hb)), hn⟩
theorem Foot.below {M M' : Nat → Prop} {w w' : World} {n : Nat} (h : Foot M M' w w') (hn : n ≤ w.heap.size) (hM : ∀ k, M k → n ≤ k) : Below n w w' :=
  ⟨h.os, h.tape, h.output, h.size, fun k hk => h.block k (by omega) (fun e => by have := hM k e; omega)⟩

/-- A walk stays, where only new blocks come. -/
theorem BAt.below {A : Ad} {M : Nat → Prop} {bx : List Nat} {ch : List (Nat × Nat)} {s : St} {p : List Nat} {i : Nat} {w w' : World} {pv mv sv : Value} (h : BAt A M bx ch s p i w pv mv sv) (hb : Below w.heap.size w w') : BAt A M bx ch s p i w' pv mv sv := by
  have hk : ∀ k, k < w.heap.size → w'.heap[k]? = w.heap[k]? := hb.block
  have hg : ∀ {o : Obj} {k : Nat}, w.heap[k]? = some o → w'.heap[k]? = w.heap[k]? := fun h => hk _ (Array.getElem?_eq_some_iff.1 h).1
  obtain ⟨sb, c1, c2⟩ := h.chain
  refine ⟨fun k hM => ⟨(h.lt k hM).1, Nat.lt_of_lt_of_le (h.lt k hM).2 hb.size⟩, Nat.le_trans h.low hb.size, ⟨(hg h.walk.1).trans h.walk.1, h.walk.2⟩, ⟨owns_same h.path.1 (fun g e => hk g (h.path.1.lt g e).2), h.path.2⟩, ⟨owns_same h.met.1 (fun g e => hk g (h.met.1.lt g e).2), h.met.2⟩, ⟨(hg h.file.1).trans h.file.1, h.file.2⟩, ⟨h.fns.1.go (hk _ h.fns.1.lt), h.fns.2⟩, ⟨sb, c1, c2.go (fun k hl _ => hk k hl) (fun x hx => by obtain ⟨es, c, e⟩ := c2.maps x hx; exact hg e) (fun _ _ => Iff.rfl)⟩, h.maps, h.bds.go (fun k hl _ => hk k hl) (fun k c e => hg e) (fun k c e => hg e) (fun _ _ => Iff.rfl)⟩

/-- A walk stays but for one block, of this type, that is its walk's, its path's or its row of those met. -/
theorem BAt.turn {A : Ad} {M M' : Nat → Prop} {bx : List Nat} {ch : List (Nat × Nat)} {s : St} {p p' : List Nat} {i i' : Nat} {w w' : World} {pv mv sv pv' mv' sv' : Value} {b : Nat} {c : Array Value} {T : TypeId} (h : BAt A M bx ch s p i w pv mv sv)
    (hg : w.grownBy w' (some b)) (hb : w.heap[b]? = some (.cells c T (0, 0))) (hM : M b) (h1 : T ≠ 133) (h2 : T ≠ 44) (hM1 : ∀ k, k < w.heap.size → (M' k ↔ M k)) (hM2 : ∀ k, M' k → k < w'.heap.size)
    (hw : w'.heap[A.wb]? = some (.cells #[sv', pv', .int .i64 i', mv'] 86 (0, 0))) (hp : w'.ownsRow A.n 3 1 pv' p'.length (p'.map numV) ∧ ∀ g, pv'.ownBlock = some g → M' g) (hm : w'.ownsRow A.n 95 1 mv' s.met.length (s.met.map fun k => ptrV (bx.getD k 0)) ∧ ∀ g, mv'.ownBlock = some g → M' g)
    (hs : sv' = sv) : BAt A M' bx ch s p' i' w' pv' mv' sv' := by
  have hk : ∀ k, k < w.heap.size → k ≠ b → w'.heap[k]? = w.heap[k]? := fun k hl hne => hg.block k hl (by simpa using hne)
  have hkM : ∀ k, k < w.heap.size → ¬ M k → w'.heap[k]? = w.heap[k]? := fun k hl hn => hk k hl (fun e => hn (e ▸ hM))
  have hmap : ∀ (k : Nat) es cl, w.heap[k]? = some (.map es cl) → w'.heap[k]? = w.heap[k]? := fun k es cl e => hk k (Array.getElem?_eq_some_iff.1 e).1 (fun e2 => by rw [e2, hb] at e; cases e)
  have hty : ∀ (k : Nat) c2 T2, w.heap[k]? = some (.cells c2 T2 (0, 0)) → T ≠ T2 → w'.heap[k]? = w.heap[k]? := fun k c2 T2 e hne => hk k (Array.getElem?_eq_some_iff.1 e).1 (fun e2 => by rw [e2, hb] at e; injection e with e; injection e with _ e _; exact hne e)
  have hwl := (Array.getElem?_eq_some_iff.1 h.walk.1).1
  obtain ⟨sb, c1, c2⟩ := h.chain
  refine ⟨fun k hk' => ⟨?_, hM2 k hk'⟩, Nat.le_trans h.low hg.size, ⟨hw, (hM1 _ hwl).2 h.walk.2⟩, hp, ⟨hm.1, hm.2, h.met.2.2⟩, ⟨(hkM _ (Array.getElem?_eq_some_iff.1 h.file.1).1 h.file.2).trans h.file.1, fun e => h.file.2 ((hM1 _ (Array.getElem?_eq_some_iff.1 h.file.1).1).1 e)⟩, ⟨h.fns.1.go (by obtain ⟨es, cl, e⟩ := h.fns.1.obj; exact hmap _ es cl e), (hM1 _ h.fns.1.lt).2 h.fns.2⟩, ⟨sb, hs.trans c1, c2.go hkM (fun x hx => by obtain ⟨es, cl, e⟩ := c2.maps x hx; exact hmap _ es cl e) hM1⟩, h.maps, h.bds.go hkM (fun k c e => hty k c _ e h1) (fun k c e => hty k c _ e h2) hM1⟩
  by_cases hl : k < w.heap.size
  · exact (h.lt k ((hM1 k hl).1 hk')).1
  · have := h.low; omega
end Go.Proofs.YtnndgjnihhafbaaGreatDoor

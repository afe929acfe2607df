/-
  Several texts in one, as they are: BnLook, BnTold, BnCatch, BnStart.
-/
import Derived.Test.YtnndgjnihhafbaaGreatDoorBnLk1
import Derived.Test.YtnndgjnihhafbaaGreatDoorBnLk2
import Derived.Test.YtnndgjnihhafbaaGreatDoorBnLk3
import Derived.Test.YtnndgjnihhafbaaGreatDoorBnLk4
import Derived.Defers
import Derived.Recover
import Derived.Laws.Pointers

/-
  The walk of look, at every node.
-/
namespace Go.Proofs.YtnndgjnihhafbaaGreatDoor
open Go.RowKit Go.Shelf Go.WideMaps
open Bn (Sc Bd St After)

attribute [local go_sem] Oper.semAt_some


set_option maxRecDepth 100000 in
theorem enter_look (args : Array Value) (w : World) : (callFunc 64 args).run Tryz.prog w = .ok (.enter 64 args) w := by rfl
theorem look_any {A : Ad} {S : Nat → Prop} (hSn : ∀ b, S b → b < A.n) (m : Nat) (t : Tr) (val : Value) (M : Nat → Prop) (bx : List Nat) (ch : List (Nat × Nat)) (s : St) (p : List Nat) (i : Nat) (w : World) (hr : Tr.right m t = true) (hbd : Tr.Bd [t]) (hn : NodeR S w val t) (hB : BW A M bx ch s p i w) (hch : ch ≠ []) (hcl : ch.length ≤ 50) (hpl : p.length ≤ 1000) (hmass : s.mass ≤ 10000000) :
    Calls Tryz.prog 64 #[ptrV A.wb, val] w fun e w' => LookEnd A Bn.look2 M bx ch s p i t w e w' := by
  by_cases h2 : t.k = 2
  · exact look_func hSn m t val M bx ch s p i w hr hbd hn hB hch hcl hpl hmass h2
  by_cases h5 : t.k = 5
  · exact look_block hSn m t val M bx ch s p i w hr hbd hn hB hch hcl hpl hmass h5
  by_cases h4 : t.k = 4
  · exact look_param hSn m t val M bx ch s p i w hr hbd hn hB hch hcl hpl hmass h4
  by_cases h6 : t.k = 6
  · exact look_var hSn m t val M bx ch s p i w hr hbd hn hB hch hcl hpl hmass h6
  by_cases h22 : t.k = 22
  · exact look_name hSn m t val M bx ch s p i w hr hbd hn hB hch hcl hpl hmass h22
  by_cases h25 : t.k = 25
  · exact look_call hSn m t val M bx ch s p i w hr hbd hn hB hch hcl hpl hmass h25
  exact look_other hSn m t val M bx ch s p i w hr hbd hn hB hch hcl hpl hmass h2 h5 h4 h6 h22 h25
theorem look_look {A : Ad} {S : Nat → Prop} (hSn : ∀ b, S b → b < A.n) : LookAt A Bn.look2 S (fun _ _ => True) 64 #[ptrV A.wb] #[] where
  enter := enter_look
  mass := fun _ _ _ _ _ h => Bn.mass_look2 h
  stab := fun _ _ _ _ _ _ => trivial
  run := fun m t val M bx ch s p i w hr hbd hn hB _ hch hcl hpl hmass => look_any hSn m t val M bx ch s p i w hr hbd hn hB hch hcl hpl hmass
end Go.Proofs.YtnndgjnihhafbaaGreatDoor

/-
  The walk of told: the binders in the order in which they were met.
-/
namespace Go.Proofs.YtnndgjnihhafbaaGreatDoor
open Go.RowKit Go.Shelf Go.WideMaps
open Bn (Sc Bd St)

attribute [local go_sem] Oper.semAt_some

/-- Binders as they are told: three cells each. -/
def BTold (n : Nat) (w : World) : List Value → List Bd → Prop
  | [], [] => True
  | pv :: nm :: uv :: r, d :: l => (nm = .string (Ln.bs d.name) ∧ d.name.length ≤ 1000000 ∧ w.ownsRow n 3 1 pv d.path.length (d.path.map numV) ∧ ∃ rows, w.ownsRow n 44 1 uv d.uses.length rows ∧ ∀ (j : Nat) (v : Value) (u : List Nat), rows[j]? = some v → d.uses[j]? = some u → w.ownsRow n 3 1 v u.length (u.map numV)) ∧ BTold n w r l
  | _, _ => False
theorem owns_at {n e size k m : Nat} {w w' : World} {v : Value} {xs : List Value} (h : w.ownsRow n e size v k xs) (hb : Below m w w') (hm : w.heap.size ≤ m) : w'.ownsRow n e size v k xs := owns_same h fun g hg => hb.block g (Nat.lt_of_lt_of_le (h.lt g hg).2 hm)
theorem BTold.at {n m : Nat} {w w' : World} (hb : Below m w w') (hm : w.heap.size ≤ m) : ∀ {cs : List Value} {l : List Bd}, BTold n w cs l → BTold n w' cs l
  | [], [], _ => trivial
  | [], _ :: _, h => h.elim
  | [_], _, h => by simp [BTold] at h
  | [_, _], _, h => by simp [BTold] at h
  | _ :: _ :: _ :: _, [], h => h.elim
  | pv :: nm :: uv :: r, d :: l, ⟨⟨h1, h2, h3, rows, h4, h5⟩, h6⟩ => ⟨⟨h1, h2, owns_at h3 hb hm, rows, owns_at h4 hb hm, fun j v u e1 e2 => owns_at (h5 j v u e1 e2) hb hm⟩, BTold.at hb hm h6⟩
theorem BTold.snoc {n : Nat} {w : World} {pv uv : Value} {d : Bd} (hd : d.name.length ≤ 1000000 ∧ w.ownsRow n 3 1 pv d.path.length (d.path.map numV) ∧ ∃ rows, w.ownsRow n 44 1 uv d.uses.length rows ∧ ∀ (j : Nat) (v : Value) (u : List Nat), rows[j]? = some v → d.uses[j]? = some u → w.ownsRow n 3 1 v u.length (u.map numV)) :
    ∀ {cs : List Value} {l : List Bd}, BTold n w cs l → BTold n w (cs ++ [pv, .string (Ln.bs d.name), uv]) (l ++ [d])
  | [], [], _ => ⟨⟨rfl, hd⟩, trivial⟩
  | [], _ :: _, h => h.elim
  | [_], _, h => by simp [BTold] at h
  | [_, _], _, h => by simp [BTold] at h
  | _ :: _ :: _ :: _, [], h => h.elim
  | _ :: _ :: _ :: _, _ :: _, ⟨h1, h6⟩ => ⟨h1, BTold.snoc hd h6⟩
theorem BdAt.told {n : Nat} {M : Nat → Prop} {w : World} {b : Nat} {d : Bd} (h : BdAt n M w b d) : ∃ pv uv, w.heap[b]? = some (.cells #[pv, .string (Ln.bs d.name), uv, .int .i64 d.params] 133 (0, 0)) ∧ d.name.length ≤ 1000000 ∧ w.ownsRow n 3 1 pv d.path.length (d.path.map numV) ∧ ∃ rows, w.ownsRow n 44 1 uv d.uses.length rows ∧ ∀ (j : Nat) (v : Value) (u : List Nat), rows[j]? = some v → d.uses[j]? = some u → w.ownsRow n 3 1 v u.length (u.map numV) := by
  obtain ⟨pv, uv, rows, h1, -, h3, h4, h5, -, h7⟩ := h
  exact ⟨pv, uv, h1, h3, h4.1, rows, h5, fun j v u e1 e2 => (h7 j v u e1 e2).1⟩
theorem info_binder : (Tryz.prog.info? 46).map (fun i => (i.zero, i.size, i.bytes)) = some (some (.agg #[.slice none 0 0, .string ⟨#[]⟩, .slice none 0 0]), 3, 64) := by kernel_rfl
theorem met_take {α : Type} {f : Nat → Option α} {l : List Nat} {k mk : Nat} {d : α} (h : l[k]? = some mk) (hd : f mk = some d) : (l.take (k + 1)).filterMap f = (l.take k).filterMap f ++ [d] := by
  rw [List.take_add_one, h, List.filterMap_append]
  simp [hd]

set_option maxRecDepth 100000 in
set_option maxHeartbeats 4000000 in
theorem told_any {A : Ad} {M : Nat → Prop} {bx : List Nat} {ch : List (Nat × Nat)} {s : St} {p : List Nat} {i : Nat} {w : World} (h0 : BW A M bx ch s p i w) (hml : s.met.length ≤ 10000000) :
    Calls Tryz.prog 65 #[ptrV A.wb] w fun e w' => ∃ v cs, e = .returned v ∧ Below w.heap.size w w' ∧ w'.ownsRow w.heap.size 46 3 v s.met.length cs ∧ BTold A.n w' cs (s.met.filterMap (s.bds[·]?)) := by
  obtain ⟨pv, mv, sv, h⟩ := h0
  obtain ⟨ma, mc, hms⟩ := slice_shape h.met.1
  subst hms
  have hcell : ∀ (k mk : Nat), s.met[k]? = some mk → ∃ g d pv uv, ma = some ⟨g, 0, none⟩ ∧ g < w.heap.size ∧ w.cell? ⟨g, k, none⟩ = some (ptrV (bx.getD mk 0)) ∧ s.bds[mk]? = some d ∧ w.heap[bx.getD mk 0]? = some (.cells #[pv, .string (Ln.bs d.name), uv, .int .i64 d.params] 133 (0, 0)) ∧ d.name.length ≤ 1000000 ∧ w.ownsRow A.n 3 1 pv d.path.length (d.path.map numV) ∧ ∃ rows, w.ownsRow A.n 44 1 uv d.uses.length rows ∧ ∀ (j : Nat) (v : Value) (u : List Nat), rows[j]? = some v → d.uses[j]? = some u → w.ownsRow A.n 3 1 v u.length (u.map numV) := fun k mk hk => by
    have hkl := (List.getElem?_eq_some_iff.1 hk).1
    have hml := h.met.2.2 mk (List.mem_of_getElem? hk)
    have hbk := List.getElem?_eq_getElem hml
    have hdk := List.getElem?_eq_getElem (show mk < s.bds.length by rw [← h.bds.len]; exact hml)
    obtain ⟨pv0, uv0, e1, e2⟩ := (h.bds.each mk _ _ hbk hdk).told
    rcases h.met.1.2 with ⟨e, h9⟩ | ⟨g, cap, cur, e, hb, hg, r⟩
    · omega
    · injection e with e3 e4 e5
      subst e3 e5
      have hc := h.met.1.cellAt k (by rw [Nat.mul_one]; exact hkl)
      rw [List.getElem?_map, hk] at hc
      refine ⟨g, _, pv0, uv0, rfl, (Array.getElem?_eq_some_iff.1 hg).1, hc, hdk, ?_⟩
      rw [getD_of hbk]
      exact ⟨e1, e2⟩
  obtain ⟨i0, hi, hz0, hz1, hz2⟩ := info_parts info_binder
  have c3 : w.cell? ⟨A.wb, 3, none⟩ = some (.slice ma s.met.length mc) := cells_at h.walk.1 rfl
  have HCE : Hid (_) := hcell
  obtain ⟨N, hN⟩ : ∃ N, N = s.met.length := ⟨_, rfl⟩
  rw [← hN] at c3 hml ⊢
  have HNN : Hid (N = s.met.length) := hN
  obtain ⟨n0, hn0⟩ : ∃ n0, n0 = A.n := ⟨_, rfl⟩
  have HN0 : Hid (n0 = A.n) := hn0
  rw [← hn0]
  clear h hcell hN hn0
  go_enter Tryz.func65, Tryz.ntmps65
  go_wp2
  go_loopw [3, 11] (fun t i wr => ∃ (k : Nat) (cs : List Value), k ≤ N ∧ i = .int .i64 k ∧ wr.ownsRow w.heap.size 46 3 t k cs ∧ Below w.heap.size w wr ∧ BTold n0 w cs ((s.met.take k).filterMap (s.bds[·]?))) (fun _ i _ => N - (intOf i).toNat)
  case atStart => exact ⟨0, [], Nat.zero_le _, rfl, World.ownsRow_nil _ _ _ _, Below.refl _ _, by rw [List.take_zero]; trivial⟩
  case round =>
    obtain ⟨k, cs, hk, rfl, hown, hB, hT⟩ := hrel
    by_cases hlt : k < N
    · obtain ⟨mk, hmk⟩ : ∃ mk, s.met[k]? = some mk := ⟨s.met[k]'(by rw [← HNN.out]; exact hlt), List.getElem?_eq_getElem _⟩
      obtain ⟨g, d, dp, du, rfl, hgl, hcl, hbd, hbox, hd1, hd2⟩ := HCE.out k mk hmk
      have g1 : wr.cell? ⟨g, k, none⟩ = some (ptrV (bx.getD mk 0)) := (hB.cell (p := ⟨g, k, none⟩) hgl).trans hcl
      have hboxr := (hB.block _ (Array.getElem?_eq_some_iff.1 hbox).1).trans hbox
      have d0 : wr.cell? ⟨bx.getD mk 0, 0, none⟩ = some dp := cells_at hboxr rfl
      have d1 : wr.cell? ⟨bx.getD mk 0, 1, none⟩ = some (.string (Ln.bs d.name)) := cells_at hboxr rfl
      have d2 : wr.cell? ⟨bx.getD mk 0, 2, none⟩ = some du := cells_at hboxr rfl
      have HH : Hid (BTold n0 w (cs ++ [dp, .string (Ln.bs d.name), du]) ((s.met.take (k + 1)).filterMap (s.bds[·]?))) := by
        show BTold _ _ _ _
        rw [met_take hmk hbd]
        exact hT.snoc ⟨hd1, HN0.out ▸ hd2⟩
      obtain ⟨bk, hbk⟩ : ∃ b, b = bx.getD mk 0 := ⟨_, rfl⟩
      rw [← hbk] at g1 d0 d1 d2
      obtain ⟨nm, hnm⟩ : ∃ v, v = Value.string (Ln.bs d.name) := ⟨_, rfl⟩
      rw [← hnm] at d1 HH
      have h1c : dp.oneCell' = true ∧ nm.oneCell' = true ∧ du.oneCell' = true := by
        obtain ⟨rows, hu, -⟩ := hd2.2
        obtain ⟨_, _, e1⟩ := slice_shape hd2.1
        obtain ⟨_, _, e2⟩ := slice_shape hu
        rw [e1, e2, hnm]
        exact ⟨rfl, rfl, rfl⟩
      have hsz : cs.length = k * 3 := hown.1
      clear hT hgl hcl hbd hbox hd1 hd2 hboxr hbk hnm hmk
      go_wp2_with (first
        | (at_builtin; refine wpList_append_own _ rfl _ _ 34 rfl w.heap.size 46 i0 (.agg #[.slice none 0 0, .string ⟨#[]⟩, .slice none 0 0]) 3 64 Tryz.underlying34 hi hz0 hz1 hz2 rfl (by decide) _ _ _ rfl (hown.alloc _) ⟨wr.heap.size, 0, none⟩ 1 1 [dp, nm, du] rfl rfl (cells_new wr [dp, nm, du] 46) (by intro u hu; simp at hu; rcases hu with rfl | rfl | rfl; exact h1c.1; exact h1c.2.1; exact h1c.2.2) (by unfold maxLen; omega) (by omega) (by have := hB.size; simp; omega) ?_; intro v' w2 hown' hgrow _))
      go_roundw
      case rel =>
        refine ⟨k + 1, _, by omega, by go_num, hown', ?_, HH.out⟩
        exact (hB.alloc hB.size _).grown hgrow (by have := hB.size; simp; omega) (fun q hq => (hown.lt q hq).1)
      case measure => simp [intOf]; omega
    · have hke : k = N := by omega
      subst hke
      have HQ : Hid (BTold n0 wr cs (s.met.filterMap (s.bds[·]?))) := by
        rw [HNN.out, List.take_length] at hT
        exact hT.at hB (Nat.le_refl _)
      clear hT HCE
      go_wp2
      go_ret
      exact ⟨_, cs, rfl, hB, hown, HQ.out⟩
end Go.Proofs.YtnndgjnihhafbaaGreatDoor

/-
  The walks of bound's deferred closure: what was thrown becomes the fault.
-/
namespace Go.Proofs.YtnndgjnihhafbaaGreatDoor
open Go.RowKit Go.Shelf

attribute [local go_sem] Oper.semAt_some

theorem bassert_yes (E i : Int) (xT : TypeId) (w : World) : (Instr.typeAssert (.iface 31 (.agg #[.int .i64 E, .int .i64 i])) xT 31 true).run Tryz.prog w = .ok (.tuple #[.agg #[.int .i64 E, .int .i64 i], .bool true]) w := by
  simp [Instr.typeAssert, run_underlying Tryz.underlying31, go_sem, Result.andThen]
theorem bassert_no (xT : TypeId) (w : World) : (Instr.typeAssert .nilIface xT 31 true).run Tryz.prog w = .ok (.tuple #[.agg #[.int .i64 0, .int .i64 0], .bool false]) w := by
  simp [Instr.typeAssert, run_underlying Tryz.underlying31, go_sem, Result.andThen]

set_option maxRecDepth 100000 in
set_option maxHeartbeats 1000000 in
theorem bcatch_idle (pf pe : Addr) (w : World) :
    CallsD Tryz.prog 56 #[.pointer (some pf), .pointer (some pe)] .returning w fun e u' w' => e = .returned (.tuple #[]) ∧ u' = .returning ∧ Below w.heap.size w w' := by
  have HB : Hid (Below w.heap.size w (w.alloc (.cells #[.int .i64 0, .int .i64 0] 31))) := below_new w _
  refine callsD_of_wpS Tryz.func56 rfl fun c₀ cs hu => ?_
  apply wpS_seq
  apply wpS_region
  simp [wpOpsS, go_sem, recoverD, hu, Tryz.ntmps56, Exit.thenS, bassert_no]
  apply wpS_seq
  apply wpS_region
  simp [wpOpsS, go_sem, Exit.thenS]
  refine wpS_cond (t := false) (by simp [Act.eval, Array.replicate]) ?_
  simp only [Bool.false_eq_true, if_false]
  refine wpS_of_wp (wp_skip ?_)
  have hB := HB.out
  cases c₀
  simp_all [bodyPostS, results, Tryz.results56]

/-- What the closure leaves: no binders, and the fault. -/
def BCaught (fb eb E i : Nat) (w w' : World) : Prop :=
  w'.heap[fb]? = some (.cells #[.slice none 0 0] 34 (0, 0)) ∧ w'.heap[eb]? = some (.cells #[.int .i64 E, .int .i64 i] 31 (0, 0)) ∧ (w'.os = w.os ∧ w'.tape = w.tape ∧ w'.output = w.output ∧ w.heap.size ≤ w'.heap.size ∧ ∀ k, k < w.heap.size → k ≠ fb → k ≠ eb → w'.heap[k]? = w.heap[k]?)

set_option maxRecDepth 100000 in
set_option maxHeartbeats 2000000 in
theorem bcatch_panicking (fb eb : Nat) (E i : Nat) (c0 d0 d1 : Value) (older : List PanicEntry) (w : World) (hf : w.heap[fb]? = some (.cells #[c0] 34 (0, 0))) (he : w.heap[eb]? = some (.cells #[d0, d1] 31 (0, 0))) :
    CallsD Tryz.prog 56 #[.pointer (some ⟨fb, 0, none⟩), .pointer (some ⟨eb, 0, none⟩)] (.panicking ({ v := .iface 31 (.agg #[.int .i64 E, .int .i64 i]), recovered := false } :: older)) w fun e u' w' =>
      e = .returned (.tuple #[]) ∧ u' = .panicking ({ v := .iface 31 (.agg #[.int .i64 E, .int .i64 i]), recovered := true } :: older) ∧ BCaught fb eb E i w w' := by
  have hfl := (Array.getElem?_eq_some_iff.1 hf).1
  have hel := (Array.getElem?_eq_some_iff.1 he).1
  have hne : fb ≠ eb := by
    rintro rfl
    rw [hf] at he
    injection he with q
    injection q with _ q _
    revert q
    decide
  obtain ⟨X, hX⟩ : ∃ X, X = w.alloc (.cells #[.int .i64 E, .int .i64 i] 31) := ⟨_, rfl⟩
  have bX : Below w.heap.size w X := hX ▸ below_new w _
  have hXf := (bX.block fb hfl).trans hf
  have hXe := (bX.block eb hel).trans he
  obtain ⟨Z, hZ⟩ : ∃ Z, Z = X.setCell ⟨fb, 0, none⟩ (.slice none 0 0) := ⟨_, rfl⟩
  have hZr : Z.heap[fb]? = some (.cells #[.slice none 0 0] 34 (0, 0)) := by rw [hZ]; exact heap_setCell_same X fb 0 _ _ _ hXf
  have gz : X.grownBy Z (some fb) := hZ ▸ grown_set X fb 0 _
  have hZe := (gz.block eb (Nat.lt_of_lt_of_le hel bX.size) (by simpa using hne.symm)).trans hXe
  have u1 := heap_setCell_same Z eb 0 _ 31 (.int .i64 E) hZe
  have u2 := heap_setCell_same _ eb 1 _ 31 (.int .i64 i) u1
  have g1 := (grown_set Z eb 0 (.int .i64 E)).trans (grown_set _ eb 1 (.int .i64 i))
  obtain ⟨Q, hQ⟩ : ∃ Q, Q = (Z.setCell ⟨eb, 0, none⟩ (.int .i64 E)).setCell ⟨eb, 1, none⟩ (.int .i64 i) := ⟨_, rfl⟩
  rw [← hQ] at u2 g1
  have HC : Hid (BCaught fb eb E i w Q) := by
    refine ⟨(g1.block fb (by have := gz.size; have := bX.size; omega) (by simpa using hne)).trans hZr, u2, g1.os.trans (gz.os.trans bX.os), g1.tape.trans (gz.tape.trans bX.tape), g1.output.trans (gz.output.trans bX.output), by have := g1.size; have := gz.size; have := bX.size; omega, fun k hk h1 h2 => ?_⟩
    exact (g1.block k (by have := gz.size; have := bX.size; omega) (by simpa using h2)).trans ((gz.block k (by have := bX.size; omega) (by simpa using h1)).trans (bX.block k hk))
  have HD : Hid (BCaught fb eb E i w Q.drew) := ⟨HC.out.1, HC.out.2.1, HC.out.2.2⟩
  have hbV : Below w.heap.size w (w.alloc (.cells #[.int .i64 E, .int .i64 i] 31)) := below_new w _
  have hVf := (hbV.block fb hfl).trans hf
  have hVe := (hbV.block eb hel).trans he
  have v0 : (w.alloc (.cells #[.int .i64 E, .int .i64 i] 31)).cell? ⟨fb, 0, none⟩ = some c0 := cells_at hVf rfl
  have x0 : (w.alloc (.cells #[.int .i64 E, .int .i64 i] 31)).cell? ⟨eb, 0, none⟩ = some d0 := cells_at hVe rfl
  have x1 : (w.alloc (.cells #[.int .i64 E, .int .i64 i] 31)).cell? ⟨eb, 1, none⟩ = some d1 := cells_at hVe rfl
  have vf : ∀ j, (w.alloc (.cells #[.int .i64 E, .int .i64 i] 31)).frozen? ⟨fb, j, none⟩ = false := fun j => frozen_of_row _ _ j _ _ hVf
  have xf : ∀ j, (w.alloc (.cells #[.int .i64 E, .int .i64 i] 31)).frozen? ⟨eb, j, none⟩ = false := fun j => frozen_of_row _ _ j _ _ hVe
  have hne2 : eb ≠ fb := hne.symm
  have hn3 : w.heap.size ≠ fb := by omega
  have hn4 : w.heap.size ≠ eb := by omega
  rw [hZ, hX] at hQ
  clear hf he hfl hel bX hXf hXe hZr gz hZe u1 u2 g1 hZ hX hbV hVf hVe
  refine callsD_of_wpS Tryz.func56 rfl fun c₀ cs hu => ?_
  apply wpS_seq
  apply wpS_region
  simp [wpOpsS, go_sem, recoverD, hu, Tryz.ntmps56, Exit.thenS, bassert_yes]
  apply wpS_seq
  apply wpS_region
  simp [wpOpsS, go_sem, Exit.thenS]
  refine wpS_cond (t := true) (by simp [Act.eval, Array.replicate]) ?_
  simp only [if_true]
  refine wpS_of_wp ?_
  simp only [Array.replicate_succ, Array.replicate_zero, List.push_toArray, List.append_toArray, List.nil_append, List.cons_append, List.setIfInBounds_toArray, List.set_cons_zero, List.set_cons_succ]
  go_region
  rw [← hQ]
  clear hQ v0 x0 x1 vf xf HC
  simp [bodyPostS, results, Tryz.results56]
  exact HD.out
end Go.Proofs.YtnndgjnihhafbaaGreatDoor

/-
  A walk at its start.
-/
namespace Go.Proofs.YtnndgjnihhafbaaGreatDoor
open Go.RowKit Go.Shelf Go.WideMaps
open Bn (Sc Bd St)

/-- What a walk may turn at its start. -/
def M0 (b : Nat) (k : Nat) : Prop := k = b ∨ k = b + 2 ∨ k = b + 5
theorem start_walk {W : World} (n : Nat) (hn : n ≤ W.heap.size) : ∃ Y5 Z, Y5 = ((((W.alloc (.cells #[.pointer none, .slice none 0 0, .int .i64 0, .slice none 0 0] 86)).alloc (.cells #[ptrV W.heap.size] 82)).alloc (.map #[] 0)).alloc (.cells #[.map (some (W.heap.size + 1 + 1)), .func (.func 57) #[ptrV W.heap.size] #[]] 91)).alloc (.cells #[ptrV (W.heap.size + 1 + 1 + 1)] 87) ∧
    Z = (scopeNew Y5.drew (.iface 87 (ptrV (W.heap.size + 1 + 1 + 1)))).setCell ⟨W.heap.size, 0, none⟩ (ptrV (W.heap.size + 1 + 1 + 1 + 1 + 1 + 1)) ∧ Below W.heap.size W Y5 ∧ Below W.heap.size W Z ∧ Y5.heap.size = W.heap.size + 1 + 1 + 1 + 1 + 1 ∧
    Y5.heap[W.heap.size]? = some (.cells #[.pointer none, .slice none 0 0, .int .i64 0, .slice none 0 0] 86 (0, 0)) ∧ (scopeNew Y5.drew (.iface 87 (ptrV (W.heap.size + 1 + 1 + 1)))).heap[W.heap.size]? = some (.cells #[.pointer none, .slice none 0 0, .int .i64 0, .slice none 0 0] 86 (0, 0)) ∧
    Y5.heap[W.heap.size + 1]? = some (.cells #[ptrV W.heap.size] 82 (0, 0)) ∧ Y5.heap[W.heap.size + 1 + 1 + 1 + 1]? = some (.cells #[ptrV (W.heap.size + 1 + 1 + 1)] 87 (0, 0)) ∧
    Z.heap[W.heap.size + 1]? = some (.cells #[ptrV W.heap.size] 82 (0, 0)) ∧ Z.heap[W.heap.size + 1 + 1 + 1 + 1]? = some (.cells #[ptrV (W.heap.size + 1 + 1 + 1)] 87 (0, 0)) ∧
    BAt ⟨n, W.heap.size, W.heap.size + 1 + 1 + 1, W.heap.size + 1 + 1⟩ (M0 W.heap.size) [] [(W.heap.size + 1 + 1 + 1 + 1 + 1 + 1, W.heap.size + 1 + 1 + 1 + 1 + 1)] ⟨[], [], [[]], []⟩ [] 0 Z (.slice none 0 0) (.slice none 0 0) (ptrV (W.heap.size + 1 + 1 + 1 + 1 + 1 + 1)) := by
  obtain ⟨Y1, h1⟩ : ∃ Y, Y = W.alloc (.cells #[.pointer none, .slice none 0 0, .int .i64 0, .slice none 0 0] 86) := ⟨_, rfl⟩
  obtain ⟨Y2, h2⟩ : ∃ Y, Y = Y1.alloc (.cells #[ptrV W.heap.size] 82) := ⟨_, rfl⟩
  obtain ⟨Y3, h3⟩ : ∃ Y, Y = Y2.alloc (.map #[] 0) := ⟨_, rfl⟩
  obtain ⟨Y4, h4⟩ : ∃ Y, Y = Y3.alloc (.cells #[.map (some (W.heap.size + 1 + 1)), .func (.func 57) #[ptrV W.heap.size] #[]] 91) := ⟨_, rfl⟩
  obtain ⟨Y5, h5⟩ : ∃ Y, Y = Y4.alloc (.cells #[ptrV (W.heap.size + 1 + 1 + 1)] 87) := ⟨_, rfl⟩
  rw [← h1, ← h2, ← h3, ← h4, ← h5]
  have s1 : Y1.heap.size = W.heap.size + 1 := by rw [h1, World.size_alloc]
  have s2 : Y2.heap.size = W.heap.size + 1 + 1 := by rw [h2, World.size_alloc, s1]
  have s3 : Y3.heap.size = W.heap.size + 1 + 1 + 1 := by rw [h3, World.size_alloc, s2]
  have s4 : Y4.heap.size = W.heap.size + 1 + 1 + 1 + 1 := by rw [h4, World.size_alloc, s3]
  have s5 : Y5.heap.size = W.heap.size + 1 + 1 + 1 + 1 + 1 := by rw [h5, World.size_alloc, s4]
  have b1 : Below W.heap.size W Y1 := h1 ▸ below_new W _
  have b2 : Below Y1.heap.size Y1 Y2 := h2 ▸ below_new Y1 _
  have b3 : Below Y2.heap.size Y2 Y3 := h3 ▸ below_new Y2 _
  have b4 : Below Y3.heap.size Y3 Y4 := h4 ▸ below_new Y3 _
  have b5 : Below Y4.heap.size Y4 Y5 := h5 ▸ below_new Y4 _
  have bD : Below Y5.heap.size Y5 Y5.drew := below_draw Y5 1
  have sD : Y5.drew.heap.size = Y5.heap.size := rfl
  obtain ⟨U, hU⟩ : ∃ U, U = scopeNew Y5.drew (.iface 87 (ptrV (W.heap.size + 1 + 1 + 1))) := ⟨_, rfl⟩
  have bU : Below Y5.drew.heap.size Y5.drew U := hU ▸ scopeNew_below _ _
  obtain ⟨hUb, hUs⟩ := scopeNew_box Y5.drew (.iface 87 (ptrV (W.heap.size + 1 + 1 + 1)))
  have hUm := scopeNew_map [] Y5.drew (.iface 87 (ptrV (W.heap.size + 1 + 1 + 1)))
  rw [← hU] at hUb hUs hUm
  rw [sD, s5] at hUb hUs hUm
  have hmap3 : MapAt [] Y3 (W.heap.size + 1 + 1) [] := by rw [h3, ← s2]; exact MapAt.new [] Y2
  have up : ∀ (k : Nat) (o : Obj), k < Y5.heap.size → Y5.heap[k]? = some o → U.heap[k]? = some o := fun k o hk e => ((bU.block k hk).trans (bD.block k hk)).trans e
  have y0 : Y5.heap[W.heap.size]? = some (.cells #[.pointer none, .slice none 0 0, .int .i64 0, .slice none 0 0] 86 (0, 0)) := (b5.block _ (by omega)).trans ((b4.block _ (by omega)).trans ((b3.block _ (by omega)).trans ((b2.block _ (by omega)).trans (by rw [h1]; exact World.alloc_heap_new W _))))
  have y1 : Y5.heap[W.heap.size + 1]? = some (.cells #[ptrV W.heap.size] 82 (0, 0)) := (b5.block _ (by omega)).trans ((b4.block _ (by omega)).trans ((b3.block _ (by omega)).trans (by rw [h2, ← s1]; exact World.alloc_heap_new Y1 _)))
  have y3 : Y5.heap[W.heap.size + 1 + 1 + 1]? = some (.cells #[.map (some (W.heap.size + 1 + 1)), .func (.func 57) #[ptrV W.heap.size] #[]] 91 (0, 0)) := (b5.block _ (by omega)).trans (by rw [h4, ← s3]; exact World.alloc_heap_new Y3 _)
  have y4 : Y5.heap[W.heap.size + 1 + 1 + 1 + 1]? = some (.cells #[ptrV (W.heap.size + 1 + 1 + 1)] 87 (0, 0)) := by rw [h5, ← s4]; exact World.alloc_heap_new Y4 _
  obtain ⟨Z, hZ⟩ : ∃ Z, Z = U.setCell ⟨W.heap.size, 0, none⟩ (ptrV (W.heap.size + 1 + 1 + 1 + 1 + 1 + 1)) := ⟨_, rfl⟩
  have gZ : U.grownBy Z (some W.heap.size) := hZ ▸ grown_set U _ 0 _
  have sZ : Z.heap.size = U.heap.size := by rw [hZ, World.size_setCell]
  have upZ : ∀ (k : Nat) (o : Obj), k < U.heap.size → k ≠ W.heap.size → U.heap[k]? = some o → Z.heap[k]? = some o := fun k o hk hne e => (gZ.block k hk (by simpa using hne)).trans e
  have z0 : Z.heap[W.heap.size]? = some (.cells #[ptrV (W.heap.size + 1 + 1 + 1 + 1 + 1 + 1), .slice none 0 0, .int .i64 0, .slice none 0 0] 86 (0, 0)) := by rw [hZ]; exact heap_setCell_same U _ 0 _ _ _ (up _ _ (by omega) y0)
  have b05 : Below W.heap.size W Y5 := below_then (below_then (below_then (below_then b1 b2) b3) b4) b5
  have b0U : Below W.heap.size W U := below_then (below_then b05 bD) bU
  have b0Z : Below W.heap.size W Z := ⟨gZ.os.trans b0U.os, gZ.tape.trans b0U.tape, gZ.output.trans b0U.output, Nat.le_trans b0U.size gZ.size, fun k hk => (gZ.block k (by omega) (by simp; omega)).trans (b0U.block k hk)⟩
  have hm3 : MapAt [] Z (W.heap.size + 1 + 1) [] := hmap3.go ((gZ.block _ (by omega) (by simp; omega)).trans ((bU.block _ (by rw [sD]; omega)).trans ((bD.block _ (by omega)).trans ((b5.block _ (by omega)).trans (b4.block _ (by omega))))))
  have hm5 : MapAt [] Z (W.heap.size + 1 + 1 + 1 + 1 + 1) [] := hUm.go (gZ.block _ (by omega) (by simp; omega))
  refine ⟨Y5, Z, rfl, by rw [← hU]; exact hZ, b05, b0Z, s5, y0, by rw [← hU]; exact up _ _ (by omega) y0, y1, y4, upZ _ _ (by omega) (by omega) (up _ _ (by omega) y1), upZ _ _ (by omega) (by omega) (up _ _ (by omega) y4), ?_⟩
  refine ⟨fun k hk => ?_, by show n ≤ _; omega, ⟨z0, .inl rfl⟩, ⟨World.ownsRow_nil _ _ _ _, fun g hg => by cases hg⟩, ⟨World.ownsRow_nil _ _ _ _, (fun g hg => by cases hg), (fun k hk => by cases hk)⟩, ⟨upZ (W.heap.size + 1 + 1 + 1) _ (by omega) (by omega) (up _ _ (by omega) y3), fun e => by unfold M0 at e; simp only at e; omega⟩, ⟨hm3, .inr (.inl rfl)⟩, ⟨_, rfl, rfl, fun e => by unfold M0 at e; simp only at e; omega, .inr (.inr rfl), hm5, _, upZ (W.heap.size + 1 + 1 + 1 + 1 + 1 + 1) _ (by omega) (by omega) hUb, rfl⟩, ?_, ⟨rfl, List.nodup_nil, fun k b d e => by simp at e, fun k k' b b' g e => by simp at e⟩⟩
  · unfold M0 at hk
    show n ≤ k ∧ _
    omega
  · simp
end Go.Proofs.YtnndgjnihhafbaaGreatDoor

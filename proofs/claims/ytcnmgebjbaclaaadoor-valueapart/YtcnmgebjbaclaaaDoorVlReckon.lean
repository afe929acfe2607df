/-
  The walk of reckoned: what a sign makes of operands, or the error that a panic brought.
-/
import Derived.Test.YtcnmgebjbaclaaaDoorVlMap
import Derived.Defers
import Derived.Recover
import Derived.Laws.Pointers
namespace Go.Proofs.YtcnmgebjbaclaaaDoor
open Go.RowKit Go.Shelf Go.WideMaps
open Vl (V Res)

attribute [local go_sem] Oper.semAt_some

theorem vassert_yes (n : Int) (xT : TypeId) (w : World) : (Instr.typeAssert (.iface 41 (.int .i64 n)) xT 41 true).run Tryd.prog w = .ok (.tuple #[.int .i64 n, .bool true]) w := by
  simp [Instr.typeAssert, run_underlying Tryd.underlying41, go_sem, Result.andThen]
theorem vassert_no (xT : TypeId) (w : World) : (Instr.typeAssert .nilIface xT 41 true).run Tryd.prog w = .ok (.tuple #[.int .i64 0, .bool false]) w := by
  simp [Instr.typeAssert, run_underlying Tryd.underlying41, go_sem, Result.andThen]

set_option maxRecDepth 100000 in
set_option maxHeartbeats 1000000 in
theorem vcatch_idle (pt pe : Addr) (w : World) :
    CallsD Tryd.prog 49 #[.pointer (some pt), .pointer (some pe)] .returning w fun e u' w' => e = .returned (.tuple #[]) ∧ u' = .returning ∧ w' = w := by
  refine callsD_of_wpS Tryd.func49 rfl fun c₀ cs hu => ?_
  apply wpS_seq
  apply wpS_region
  simp [wpOpsS, go_sem, recoverD, hu, Tryd.ntmps49, Exit.thenS, vassert_no]
  apply wpS_seq
  apply wpS_region
  simp [wpOpsS, go_sem, Exit.thenS]
  refine wpS_cond (t := false) (by simp [Act.eval, Array.replicate]) ?_
  simp only [Bool.false_eq_true, if_false]
  refine wpS_of_wp (wp_skip ?_)
  cases c₀
  simp_all [bodyPostS, results, Tryd.results49]

/-- The two results' variables, written. -/
theorem vdoor {W : World} {n : Nat} {x0 x1 x2 y : Value} (d0 : W.heap[n]? = some (.cells #[x0, x1, x2] 25 (0, 0))) (d1 : W.heap[n + 1]? = some (.cells #[y] 41 (0, 0))) (a b c e : Value) :
    (∀ j, W.frozen? ⟨n, j, none⟩ = false) ∧ W.cell? ⟨n, 0, none⟩ = some x0 ∧ W.cell? ⟨n, 1, none⟩ = some x1 ∧ W.cell? ⟨n, 2, none⟩ = some x2 ∧
    ∃ Q, Q = (((W.setCell ⟨n, 0, none⟩ a).setCell ⟨n, 1, none⟩ b).setCell ⟨n, 2, none⟩ c) ∧ Q.cell? ⟨n + 1, 0, none⟩ = some y ∧ Q.frozen? ⟨n + 1, 0, none⟩ = false ∧
    ∃ R, R = Q.setCell ⟨n + 1, 0, none⟩ e ∧ R.cell? ⟨n, 0, none⟩ = some a ∧ R.cell? ⟨n, 1, none⟩ = some b ∧ R.cell? ⟨n, 2, none⟩ = some c ∧ R.cell? ⟨n + 1, 0, none⟩ = some e ∧ Below n W R := by
  obtain ⟨Q, hQ, hq, hbq⟩ := store_value d0 (Nat.le_refl _) a b c
  have g := ((grown_set W n 0 a).trans (grown_set _ n 1 b)).trans (grown_set _ n 2 c)
  rw [← hQ] at g
  have l0 := (Array.getElem?_eq_some_iff.1 d0).1
  have l1 := (Array.getElem?_eq_some_iff.1 d1).1
  have a1 := (g.block (n + 1) l1 (by simp)).trans d1
  have a2 := heap_setCell_same _ (n + 1) 0 _ _ e a1
  have g2 := grown_set Q (n + 1) 0 e
  have hq2 := (g2.block n (Nat.lt_of_lt_of_le l0 g.size) (by simp)).trans hq
  refine ⟨fun j => frozen_of_row _ _ j _ _ d0, vcells_at d0 rfl, vcells_at d0 rfl, vcells_at d0 rfl, Q, hQ, vcells_at a1 rfl, frozen_of_row _ _ 0 _ _ a1, _, rfl, vcells_at hq2 rfl, vcells_at hq2 rfl, vcells_at hq2 rfl, vcells_at a2 rfl, ?_⟩
  exact ⟨g2.os.trans g.os, g2.tape.trans g.tape, g2.output.trans g.output, Nat.le_trans g.size g2.size, fun j hj => (g2.block j (by have := g.size; omega) (fun e => by cases e; omega)).trans (g.block j (by omega) (fun e => by cases e; omega))⟩

set_option maxRecDepth 100000 in
set_option maxHeartbeats 2000000 in
theorem vcatch_panicking (n : Nat) (x0 x1 x2 y : Value) (E : Int) (older : List PanicEntry) (W : World) (d0 : W.heap[n]? = some (.cells #[x0, x1, x2] 25 (0, 0))) (d1 : W.heap[n + 1]? = some (.cells #[y] 41 (0, 0))) :
    CallsD Tryd.prog 49 #[boxP n, boxP (n + 1)] (.panicking ({ v := .iface 41 (.int .i64 E), recovered := false } :: older)) W fun e u' w' =>
      e = .returned (.tuple #[]) ∧ u' = .panicking ({ v := .iface 41 (.int .i64 E), recovered := true } :: older) ∧ w'.cell? ⟨n, 0, none⟩ = some (.int .u8 0) ∧ w'.cell? ⟨n, 1, none⟩ = some (.int .i64 0) ∧ w'.cell? ⟨n, 2, none⟩ = some (.slice none 0 0) ∧ w'.cell? ⟨n + 1, 0, none⟩ = some (.int .i64 E) ∧ Below n W w' := by
  obtain ⟨zf, c0, c1, c2, Q, hQ, q0, qf, R, hR, r0, r1, r2, r3, hb⟩ := vdoor d0 d1 (.int .u8 0) (.int .i64 0) (.slice none 0 0) (.int .i64 E)
  have HR : Hid (R.cell? ⟨n, 0, none⟩ = some (.int .u8 0) ∧ R.cell? ⟨n, 1, none⟩ = some (.int .i64 0) ∧ R.cell? ⟨n, 2, none⟩ = some (.slice none 0 0) ∧ R.cell? ⟨n + 1, 0, none⟩ = some (.int .i64 E) ∧ Below n W R) := ⟨r0, r1, r2, r3, hb⟩
  rw [hQ] at q0 qf hR
  clear hQ r0 r1 r2 r3 hb d0 d1
  refine callsD_of_wpS Tryd.func49 rfl fun c₀ cs hu => ?_
  apply wpS_seq
  apply wpS_region
  simp [wpOpsS, go_sem, recoverD, hu, Tryd.ntmps49, Exit.thenS, vassert_yes]
  apply wpS_seq
  apply wpS_region
  simp [wpOpsS, go_sem, Exit.thenS]
  refine wpS_cond (t := true) (by simp [Act.eval, Array.replicate]) ?_
  simp only [if_true]
  apply wpS_region
  simp [wpOpsS, go_sem, zf, c0, c1, c2, q0, qf, bodyPostS, results, Tryd.results49]
  rw [← hR]
  exact HR.out.2.2.2.2

/-- What a sign's closure ends with. -/
def Makes (r : Res) (e : Ending) : Prop :=
  match r with
  | .err E => e = thrown E
  | r => e = .returned (vV r.k r.n nilV)
/-- What is told of it. -/
def RTold (r : Res) (e : Ending) : Prop := e = .returned (.tuple #[vV r.k r.n nilV, .int .i64 r.e])

set_option maxRecDepth 100000 in
set_option maxHeartbeats 8000000 in
theorem reckoned_box (t c b m : Nat) (kn rr tt : Bool) (r : Res) (q : ByteArray) (rv : Value) (w : World) (hgg : ∀ args w, (callFunc c args).run Tryd.prog w = .ok (.enter c args) w)
    (HL : ∀ W, Below w.heap.size w W → (Instr.lookup 54 (.map (some m)) (.string q) true).run Tryd.prog W = .ok (.tuple #[if kn then .agg #[fnV t, .func (.func c) #[] #[boxP b]] else zeroOp, .bool kn]) W)
    (HR : ∀ W, Below w.heap.size w W → Calls Tryd.prog 51 #[fnV 11, rv] W fun e w' => e = .returned (.bool rr) ∧ Below W.heap.size W w')
    (HT : kn = true → rr = true → ∀ W, Below w.heap.size w W → Calls Tryd.prog 51 #[fnV t, rv] W fun e w' => e = .returned (.bool tt) ∧ Below W.heap.size W w')
    (HM : kn = true → rr = true → tt = true → ∀ W, Below w.heap.size w W → Calls Tryd.prog c #[rv, boxP b] W fun e w' => Makes r e ∧ Below W.heap.size W w') :
    Calls Tryd.prog 34 #[.map (some m), .string q, rv] w fun e w' => RTold (if kn && rr then if tt then r else .err 200 else .err 2) e ∧ Below w.heap.size w w' := by
  have hmf : ∀ (fn : Fn) (first cap : Array Value) (w : World), (Instr.makeFunc fn first cap).run Tryd.prog w = .ok (.func fn first cap) w := fun _ _ _ _ => rfl
  have hstf := fun (a : Addr) (fn : Fn) (c1 c2 : Array Value) (w : World) => run_store Tryd.prog w a (.func fn c1 c2) .plain rfl
  have hstn := fun (a : Addr) (w : World) => run_store Tryd.prog w a .nilFunc .plain rfl
  obtain ⟨V, hV⟩ : ∃ V, V = (w.alloc (.cells #[.int .u8 0, .int .i64 0, .slice none 0 0] 25)).alloc (.cells #[.int .i64 0] 41) := ⟨_, rfl⟩
  have bV : Below w.heap.size w V := hV ▸ below_two w _ _
  have sV : V.heap.size = w.heap.size + 1 + 1 := by rw [hV, World.size_alloc, World.size_alloc]
  have n0 : V.heap[w.heap.size]? = some (.cells #[.int .u8 0, .int .i64 0, .slice none 0 0] 25 (0, 0)) := by
    rw [hV, (below_new (w.alloc _) _).block _ (by rw [World.size_alloc]; omega)]; exact World.alloc_heap_new w _
  have n1 : V.heap[w.heap.size + 1]? = some (.cells #[.int .i64 0] 41 (0, 0)) := by
    rw [hV]
    have := World.alloc_heap_new (w.alloc (.cells #[.int .u8 0, .int .i64 0, .slice none 0 0] 25)) (.cells #[.int .i64 0] 41)
    rw [World.size_alloc] at this
    exact this
  have hl := HL V bV
  rw [hV] at hl
  obtain ⟨X, hX⟩ : ∃ X, X = V.alloc (.cells (if kn then #[fnV t, .func (.func c) #[] #[boxP b]] else #[.nilFunc, .nilFunc]) 67) := ⟨_, rfl⟩
  have bX : Below V.heap.size V X := hX ▸ below_new V _
  have nX : X.heap[w.heap.size + 1 + 1]? = some (.cells (if kn then #[fnV t, .func (.func c) #[] #[boxP b]] else #[.nilFunc, .nilFunc]) 67 (0, 0)) := by
    rw [← sV, hX]; exact World.alloc_heap_new V _
  have m0 := (bX.block _ (by omega)).trans n0
  have m1 := (bX.block _ (by omega)).trans n1
  have GX : Hid (∀ Y, Below X.heap.size X Y → Below w.heap.size w Y ∧ Y.heap[w.heap.size]? = some (.cells #[.int .u8 0, .int .i64 0, .slice none 0 0] 25 (0, 0)) ∧ Y.heap[w.heap.size + 1]? = some (.cells #[.int .i64 0] 41 (0, 0))) := fun Y hY =>
    ⟨below_then (below_then bV bX) hY, (hY.block _ (Array.getElem?_eq_some_iff.1 m0).1).trans m0, (hY.block _ (Array.getElem?_eq_some_iff.1 m1).1).trans m1⟩
  have HRR : Hid (_) := HR
  have HTT : Hid (_) := HT
  have HMM : Hid (_) := HM
  -- a panic, caught
  have HPA : Hid (∀ (E : Int) (Y : World), Below X.heap.size X Y → CallsD Tryd.prog 49 #[boxP w.heap.size, boxP (w.heap.size + 1)] (.panicking [{ v := .iface 41 (.int .i64 E), recovered := false }]) Y fun e u' w' =>
      e = .returned (.tuple #[]) ∧ u' = .panicking [{ v := .iface 41 (.int .i64 E), recovered := true }] ∧ w'.cell? ⟨w.heap.size, 0, none⟩ = some (.int .u8 0) ∧ w'.cell? ⟨w.heap.size, 1, none⟩ = some (.int .i64 0) ∧ w'.cell? ⟨w.heap.size, 2, none⟩ = some (.slice none 0 0) ∧ w'.cell? ⟨w.heap.size + 1, 0, none⟩ = some (.int .i64 E) ∧ Below w.heap.size w w') := by
    intro E Y hY
    obtain ⟨g1, g2, g3⟩ := GX.out Y hY
    refine (vcatch_panicking w.heap.size _ _ _ _ E [] Y g2 g3).mono ?_
    rintro e u' w' ⟨e1, e2, e3, e4, e5, e6, e7⟩
    exact ⟨e1, e2, e3, e4, e5, e6, g1.trans e7⟩
  have hX2 := hX
  rw [hV] at hX2
  cases kn with
  | false =>
    simp only [Bool.false_eq_true, if_false, Bool.false_and] at hl hX2 ⊢
    clear HL HR HT HM bV sV n0 n1 hV hX bX nX m0 m1 HTT HMM HRR
    go_enter_defers Tryd.func34, Tryd.ntmps34
    go_wp2_with fail
    rw [← hX2]
    clear hX2 hl
    refine Calls.mono (must_no _ _) ?_
    rintro e w1 ⟨rfl, rfl⟩
    refine leaves_cons (f := 49) (args := #[boxP w.heap.size, boxP (w.heap.size + 1)]) (by simp) (by simp [go_sem]) ?_
    refine (HPA.out 2 _ (Below.refl _ _)).mono ?_
    rintro e u' w'' ⟨rfl, rfl, q0, q1, q2, q3, hq⟩
    simp [Leaves, settle, results, Tryd.results34, go_sem, q0, q1, q2, q3]
    exact ⟨rfl, hq⟩
  | true =>
    simp only [if_true, Bool.true_and] at hl hX2 nX ⊢
    have x0 : X.cell? ⟨w.heap.size + 1 + 1, 0, none⟩ = some (fnV t) := vcells_at nX rfl
    have x1 : X.cell? ⟨w.heap.size + 1 + 1, 1, none⟩ = some (.func (.func c) #[] #[boxP b]) := vcells_at nX rfl
    have HX : Hid (X.cell? ⟨w.heap.size + 1 + 1, 0, none⟩ = some (fnV t) ∧ X.cell? ⟨w.heap.size + 1 + 1, 1, none⟩ = some (.func (.func c) #[] #[boxP b]) ∧ Below w.heap.size w X) := ⟨x0, x1, below_then bV bX⟩
    clear HL HR HT HM bV sV n0 n1 hV hX bX nX m0 m1 x0 x1
    go_enter_defers Tryd.func34, Tryd.ntmps34
    go_wp2_with fail
    rw [← hX2]
    clear hX2 hl
    refine Calls.mono (HRR.out X HX.out.2.2) ?_
    rintro e w1 ⟨rfl, hb1⟩
    have H1 : Hid (Below X.heap.size X w1) := hb1
    clear hb1 HRR
    cases rr with
    | false =>
      clear HTT HMM
      go_wp2_with fail
      refine Calls.mono (must_no _ _) ?_
      rintro e w2 ⟨rfl, rfl⟩
      refine leaves_cons (f := 49) (args := #[boxP w.heap.size, boxP (w.heap.size + 1)]) (by simp) (by simp [go_sem]) ?_
      refine (HPA.out 2 _ H1.out).mono ?_
      rintro e u' w'' ⟨rfl, rfl, q0, q1, q2, q3, hq⟩
      simp [Leaves, settle, results, Tryd.results34, go_sem, q0, q1, q2, q3]
      exact ⟨rfl, hq⟩
    | true =>
      have y0 := cell_some_below HX.out.1 H1.out
      have y1 := cell_some_below HX.out.2.1 H1.out
      go_wp2_with (go_at_call 50; refine (must_yes _ _).mono ?_; rintro e w' ⟨rfl, rfl⟩)
      refine Calls.mono (HTT.out (by trivial) (by trivial) _ (GX.out _ H1.out).1) ?_
      rintro e w2 ⟨rfl, hb2⟩
      have H2 : Hid (Below X.heap.size X w2) := below_then H1.out hb2
      clear y0 y1 hb2 HTT
      cases tt with
      | false =>
        clear HMM
        go_wp2_with fail
        refine Calls.mono (must_no _ _) ?_
        rintro e w3 ⟨rfl, rfl⟩
        refine leaves_cons (f := 49) (args := #[boxP w.heap.size, boxP (w.heap.size + 1)]) (by simp) (by simp [go_sem]) ?_
        refine (HPA.out 200 _ H2.out).mono ?_
        rintro e u' w'' ⟨rfl, rfl, q0, q1, q2, q3, hq⟩
        simp [Leaves, settle, results, Tryd.results34, go_sem, q0, q1, q2, q3]
        exact ⟨rfl, hq⟩
      | true =>
        have y0 := cell_some_below HX.out.1 H2.out
        have y1 := cell_some_below HX.out.2.1 H2.out
        go_wp2_with (go_at_call 50; refine (must_yes _ _).mono ?_; rintro e w' ⟨rfl, rfl⟩)
        refine Calls.mono (HMM.out (by trivial) (by trivial) (by trivial) _ (GX.out _ H2.out).1) ?_
        rintro e w3 ⟨hmk, hb3⟩
        have H3 : Hid (Below X.heap.size X w3) := below_then H2.out hb3
        clear y0 y1 hb3 HMM
        cases r with
        | err E =>
          obtain rfl := hmk
          refine leaves_cons (f := 49) (args := #[boxP w.heap.size, boxP (w.heap.size + 1)]) (by simp) (by simp [go_sem]) ?_
          refine (HPA.out E _ H3.out).mono ?_
          rintro e u' w'' ⟨rfl, rfl, q0, q1, q2, q3, hq⟩
          simp [Leaves, settle, results, Tryd.results34, go_sem, q0, q1, q2, q3]
          exact ⟨rfl, hq⟩
        | int z =>
          obtain rfl := hmk
          simp only [Res.k, Res.n]
          obtain ⟨g1, g2, g3⟩ := GX.out _ H3.out
          obtain ⟨zf, c0, c1, c2, Q, hQ, q0, qf, R, hR, r0, r1, r2, r3, hb⟩ := vdoor g2 g3 (.int .u8 1) (.int .i64 (z)) (.slice none 0 0) (.int .i64 0)
          rw [hQ] at q0 qf hR
          have HRB : Hid (Below w.heap.size w R) := g1.trans hb
          have HRC : Hid (_) := And.intro r0 (And.intro r1 (And.intro r2 r3))
          clear g1 g2 g3 hQ r0 r1 r2 r3 hb
          go_wp2_with fail
          rw [← hR]
          clear hR c0 c1 c2 zf q0 qf
          obtain ⟨r0, r1, r2, r3⟩ := HRC.out
          refine leaves_cons (f := 49) (args := #[boxP w.heap.size, boxP (w.heap.size + 1)]) (by simp) (by simp [go_sem]) ?_
          refine (vcatch_idle _ _ _).mono ?_
          rintro e u' w'' ⟨rfl, rfl, rfl⟩
          simp [Leaves, settle, results, Tryd.results34, go_sem, r0, r1, r2, r3]
          exact ⟨rfl, HRB.out⟩
        | bool z =>
          obtain rfl := hmk
          simp only [Res.k, Res.n]
          obtain ⟨g1, g2, g3⟩ := GX.out _ H3.out
          obtain ⟨zf, c0, c1, c2, Q, hQ, q0, qf, R, hR, r0, r1, r2, r3, hb⟩ := vdoor g2 g3 (.int .u8 2) (.int .i64 (Vl.one z)) (.slice none 0 0) (.int .i64 0)
          rw [hQ] at q0 qf hR
          have HRB : Hid (Below w.heap.size w R) := g1.trans hb
          have HRC : Hid (_) := And.intro r0 (And.intro r1 (And.intro r2 r3))
          clear g1 g2 g3 hQ r0 r1 r2 r3 hb
          go_wp2_with fail
          rw [← hR]
          clear hR c0 c1 c2 zf q0 qf
          obtain ⟨r0, r1, r2, r3⟩ := HRC.out
          refine leaves_cons (f := 49) (args := #[boxP w.heap.size, boxP (w.heap.size + 1)]) (by simp) (by simp [go_sem]) ?_
          refine (vcatch_idle _ _ _).mono ?_
          rintro e u' w'' ⟨rfl, rfl, rfl⟩
          simp [Leaves, settle, results, Tryd.results34, go_sem, r0, r1, r2, r3]
          exact ⟨rfl, HRB.out⟩
set_option maxRecDepth 100000 in
set_option maxHeartbeats 8000000 in
theorem reckoned_plain (t c m : Nat) (kn rr tt : Bool) (r : Res) (q : ByteArray) (rv : Value) (w : World) (hgg : ∀ args w, (callFunc c args).run Tryd.prog w = .ok (.enter c args) w)
    (HL : ∀ W, Below w.heap.size w W → (Instr.lookup 54 (.map (some m)) (.string q) true).run Tryd.prog W = .ok (.tuple #[if kn then .agg #[fnV t, .func (.func c) #[] #[]] else zeroOp, .bool kn]) W)
    (HR : ∀ W, Below w.heap.size w W → Calls Tryd.prog 51 #[fnV 11, rv] W fun e w' => e = .returned (.bool rr) ∧ Below W.heap.size W w')
    (HT : kn = true → rr = true → ∀ W, Below w.heap.size w W → Calls Tryd.prog 51 #[fnV t, rv] W fun e w' => e = .returned (.bool tt) ∧ Below W.heap.size W w')
    (HM : kn = true → rr = true → tt = true → ∀ W, Below w.heap.size w W → Calls Tryd.prog c #[rv] W fun e w' => Makes r e ∧ Below W.heap.size W w') :
    Calls Tryd.prog 34 #[.map (some m), .string q, rv] w fun e w' => RTold (if kn && rr then if tt then r else .err 200 else .err 2) e ∧ Below w.heap.size w w' := by
  have hmf : ∀ (fn : Fn) (first cap : Array Value) (w : World), (Instr.makeFunc fn first cap).run Tryd.prog w = .ok (.func fn first cap) w := fun _ _ _ _ => rfl
  have hstf := fun (a : Addr) (fn : Fn) (c1 c2 : Array Value) (w : World) => run_store Tryd.prog w a (.func fn c1 c2) .plain rfl
  have hstn := fun (a : Addr) (w : World) => run_store Tryd.prog w a .nilFunc .plain rfl
  obtain ⟨V, hV⟩ : ∃ V, V = (w.alloc (.cells #[.int .u8 0, .int .i64 0, .slice none 0 0] 25)).alloc (.cells #[.int .i64 0] 41) := ⟨_, rfl⟩
  have bV : Below w.heap.size w V := hV ▸ below_two w _ _
  have sV : V.heap.size = w.heap.size + 1 + 1 := by rw [hV, World.size_alloc, World.size_alloc]
  have n0 : V.heap[w.heap.size]? = some (.cells #[.int .u8 0, .int .i64 0, .slice none 0 0] 25 (0, 0)) := by
    rw [hV, (below_new (w.alloc _) _).block _ (by rw [World.size_alloc]; omega)]; exact World.alloc_heap_new w _
  have n1 : V.heap[w.heap.size + 1]? = some (.cells #[.int .i64 0] 41 (0, 0)) := by
    rw [hV]
    have := World.alloc_heap_new (w.alloc (.cells #[.int .u8 0, .int .i64 0, .slice none 0 0] 25)) (.cells #[.int .i64 0] 41)
    rw [World.size_alloc] at this
    exact this
  have hl := HL V bV
  rw [hV] at hl
  obtain ⟨X, hX⟩ : ∃ X, X = V.alloc (.cells (if kn then #[fnV t, .func (.func c) #[] #[]] else #[.nilFunc, .nilFunc]) 67) := ⟨_, rfl⟩
  have bX : Below V.heap.size V X := hX ▸ below_new V _
  have nX : X.heap[w.heap.size + 1 + 1]? = some (.cells (if kn then #[fnV t, .func (.func c) #[] #[]] else #[.nilFunc, .nilFunc]) 67 (0, 0)) := by
    rw [← sV, hX]; exact World.alloc_heap_new V _
  have m0 := (bX.block _ (by omega)).trans n0
  have m1 := (bX.block _ (by omega)).trans n1
  have GX : Hid (∀ Y, Below X.heap.size X Y → Below w.heap.size w Y ∧ Y.heap[w.heap.size]? = some (.cells #[.int .u8 0, .int .i64 0, .slice none 0 0] 25 (0, 0)) ∧ Y.heap[w.heap.size + 1]? = some (.cells #[.int .i64 0] 41 (0, 0))) := fun Y hY =>
    ⟨below_then (below_then bV bX) hY, (hY.block _ (Array.getElem?_eq_some_iff.1 m0).1).trans m0, (hY.block _ (Array.getElem?_eq_some_iff.1 m1).1).trans m1⟩
  have HRR : Hid (_) := HR
  have HTT : Hid (_) := HT
  have HMM : Hid (_) := HM
  -- a panic, caught
  have HPA : Hid (∀ (E : Int) (Y : World), Below X.heap.size X Y → CallsD Tryd.prog 49 #[boxP w.heap.size, boxP (w.heap.size + 1)] (.panicking [{ v := .iface 41 (.int .i64 E), recovered := false }]) Y fun e u' w' =>
      e = .returned (.tuple #[]) ∧ u' = .panicking [{ v := .iface 41 (.int .i64 E), recovered := true }] ∧ w'.cell? ⟨w.heap.size, 0, none⟩ = some (.int .u8 0) ∧ w'.cell? ⟨w.heap.size, 1, none⟩ = some (.int .i64 0) ∧ w'.cell? ⟨w.heap.size, 2, none⟩ = some (.slice none 0 0) ∧ w'.cell? ⟨w.heap.size + 1, 0, none⟩ = some (.int .i64 E) ∧ Below w.heap.size w w') := by
    intro E Y hY
    obtain ⟨g1, g2, g3⟩ := GX.out Y hY
    refine (vcatch_panicking w.heap.size _ _ _ _ E [] Y g2 g3).mono ?_
    rintro e u' w' ⟨e1, e2, e3, e4, e5, e6, e7⟩
    exact ⟨e1, e2, e3, e4, e5, e6, g1.trans e7⟩
  have hX2 := hX
  rw [hV] at hX2
  cases kn with
  | false =>
    simp only [Bool.false_eq_true, if_false, Bool.false_and] at hl hX2 ⊢
    clear HL HR HT HM bV sV n0 n1 hV hX bX nX m0 m1 HTT HMM HRR
    go_enter_defers Tryd.func34, Tryd.ntmps34
    go_wp2_with fail
    rw [← hX2]
    clear hX2 hl
    refine Calls.mono (must_no _ _) ?_
    rintro e w1 ⟨rfl, rfl⟩
    refine leaves_cons (f := 49) (args := #[boxP w.heap.size, boxP (w.heap.size + 1)]) (by simp) (by simp [go_sem]) ?_
    refine (HPA.out 2 _ (Below.refl _ _)).mono ?_
    rintro e u' w'' ⟨rfl, rfl, q0, q1, q2, q3, hq⟩
    simp [Leaves, settle, results, Tryd.results34, go_sem, q0, q1, q2, q3]
    exact ⟨rfl, hq⟩
  | true =>
    simp only [if_true, Bool.true_and] at hl hX2 nX ⊢
    have x0 : X.cell? ⟨w.heap.size + 1 + 1, 0, none⟩ = some (fnV t) := vcells_at nX rfl
    have x1 : X.cell? ⟨w.heap.size + 1 + 1, 1, none⟩ = some (.func (.func c) #[] #[]) := vcells_at nX rfl
    have HX : Hid (X.cell? ⟨w.heap.size + 1 + 1, 0, none⟩ = some (fnV t) ∧ X.cell? ⟨w.heap.size + 1 + 1, 1, none⟩ = some (.func (.func c) #[] #[]) ∧ Below w.heap.size w X) := ⟨x0, x1, below_then bV bX⟩
    clear HL HR HT HM bV sV n0 n1 hV hX bX nX m0 m1 x0 x1
    go_enter_defers Tryd.func34, Tryd.ntmps34
    go_wp2_with fail
    rw [← hX2]
    clear hX2 hl
    refine Calls.mono (HRR.out X HX.out.2.2) ?_
    rintro e w1 ⟨rfl, hb1⟩
    have H1 : Hid (Below X.heap.size X w1) := hb1
    clear hb1 HRR
    cases rr with
    | false =>
      clear HTT HMM
      go_wp2_with fail
      refine Calls.mono (must_no _ _) ?_
      rintro e w2 ⟨rfl, rfl⟩
      refine leaves_cons (f := 49) (args := #[boxP w.heap.size, boxP (w.heap.size + 1)]) (by simp) (by simp [go_sem]) ?_
      refine (HPA.out 2 _ H1.out).mono ?_
      rintro e u' w'' ⟨rfl, rfl, q0, q1, q2, q3, hq⟩
      simp [Leaves, settle, results, Tryd.results34, go_sem, q0, q1, q2, q3]
      exact ⟨rfl, hq⟩
    | true =>
      have y0 := cell_some_below HX.out.1 H1.out
      have y1 := cell_some_below HX.out.2.1 H1.out
      go_wp2_with (go_at_call 50; refine (must_yes _ _).mono ?_; rintro e w' ⟨rfl, rfl⟩)
      refine Calls.mono (HTT.out (by trivial) (by trivial) _ (GX.out _ H1.out).1) ?_
      rintro e w2 ⟨rfl, hb2⟩
      have H2 : Hid (Below X.heap.size X w2) := below_then H1.out hb2
      clear y0 y1 hb2 HTT
      cases tt with
      | false =>
        clear HMM
        go_wp2_with fail
        refine Calls.mono (must_no _ _) ?_
        rintro e w3 ⟨rfl, rfl⟩
        refine leaves_cons (f := 49) (args := #[boxP w.heap.size, boxP (w.heap.size + 1)]) (by simp) (by simp [go_sem]) ?_
        refine (HPA.out 200 _ H2.out).mono ?_
        rintro e u' w'' ⟨rfl, rfl, q0, q1, q2, q3, hq⟩
        simp [Leaves, settle, results, Tryd.results34, go_sem, q0, q1, q2, q3]
        exact ⟨rfl, hq⟩
      | true =>
        have y0 := cell_some_below HX.out.1 H2.out
        have y1 := cell_some_below HX.out.2.1 H2.out
        go_wp2_with (go_at_call 50; refine (must_yes _ _).mono ?_; rintro e w' ⟨rfl, rfl⟩)
        refine Calls.mono (HMM.out (by trivial) (by trivial) (by trivial) _ (GX.out _ H2.out).1) ?_
        rintro e w3 ⟨hmk, hb3⟩
        have H3 : Hid (Below X.heap.size X w3) := below_then H2.out hb3
        clear y0 y1 hb3 HMM
        cases r with
        | err E =>
          obtain rfl := hmk
          refine leaves_cons (f := 49) (args := #[boxP w.heap.size, boxP (w.heap.size + 1)]) (by simp) (by simp [go_sem]) ?_
          refine (HPA.out E _ H3.out).mono ?_
          rintro e u' w'' ⟨rfl, rfl, q0, q1, q2, q3, hq⟩
          simp [Leaves, settle, results, Tryd.results34, go_sem, q0, q1, q2, q3]
          exact ⟨rfl, hq⟩
        | int z =>
          obtain rfl := hmk
          simp only [Res.k, Res.n]
          obtain ⟨g1, g2, g3⟩ := GX.out _ H3.out
          obtain ⟨zf, c0, c1, c2, Q, hQ, q0, qf, R, hR, r0, r1, r2, r3, hb⟩ := vdoor g2 g3 (.int .u8 1) (.int .i64 (z)) (.slice none 0 0) (.int .i64 0)
          rw [hQ] at q0 qf hR
          have HRB : Hid (Below w.heap.size w R) := g1.trans hb
          have HRC : Hid (_) := And.intro r0 (And.intro r1 (And.intro r2 r3))
          clear g1 g2 g3 hQ r0 r1 r2 r3 hb
          go_wp2_with fail
          rw [← hR]
          clear hR c0 c1 c2 zf q0 qf
          obtain ⟨r0, r1, r2, r3⟩ := HRC.out
          refine leaves_cons (f := 49) (args := #[boxP w.heap.size, boxP (w.heap.size + 1)]) (by simp) (by simp [go_sem]) ?_
          refine (vcatch_idle _ _ _).mono ?_
          rintro e u' w'' ⟨rfl, rfl, rfl⟩
          simp [Leaves, settle, results, Tryd.results34, go_sem, r0, r1, r2, r3]
          exact ⟨rfl, HRB.out⟩
        | bool z =>
          obtain rfl := hmk
          simp only [Res.k, Res.n]
          obtain ⟨g1, g2, g3⟩ := GX.out _ H3.out
          obtain ⟨zf, c0, c1, c2, Q, hQ, q0, qf, R, hR, r0, r1, r2, r3, hb⟩ := vdoor g2 g3 (.int .u8 2) (.int .i64 (Vl.one z)) (.slice none 0 0) (.int .i64 0)
          rw [hQ] at q0 qf hR
          have HRB : Hid (Below w.heap.size w R) := g1.trans hb
          have HRC : Hid (_) := And.intro r0 (And.intro r1 (And.intro r2 r3))
          clear g1 g2 g3 hQ r0 r1 r2 r3 hb
          go_wp2_with fail
          rw [← hR]
          clear hR c0 c1 c2 zf q0 qf
          obtain ⟨r0, r1, r2, r3⟩ := HRC.out
          refine leaves_cons (f := 49) (args := #[boxP w.heap.size, boxP (w.heap.size + 1)]) (by simp) (by simp [go_sem]) ?_
          refine (vcatch_idle _ _ _).mono ?_
          rintro e u' w'' ⟨rfl, rfl, rfl⟩
          simp [Leaves, settle, results, Tryd.results34, go_sem, r0, r1, r2, r3]
          exact ⟨rfl, HRB.out⟩
end Go.Proofs.YtcnmgebjbaclaaaDoor

/-
  The walk of shift.taken: what two hunks are by the way that is open.
-/
import Derived.Test.YtflnakjffgobmaaShOpen
namespace Go.Proofs.Ytflnakjffgobmaa
open Go.RowKit Go.Shelf

attribute [local go_sem] Oper.semAt_some

/-- What is told: two hunks and no error, or none and an error's number. -/
def shRes (r : Except Nat (Hn.H × Hn.H)) : Hn.H × Hn.H × Nat :=
  match r with
  | .error c => (⟨0, [], []⟩, ⟨0, [], []⟩, c)
  | .ok (a, b) => (a, b, 0)
/-- Two hunks that are told, in memory of their own. -/
def ShPost (r : Except Nat (Hn.H × Hn.H)) (w : World) (e : Ending) (w' : World) : Prop :=
  ∃ (A B : HA) (c : Nat), e = .returned (.tuple #[A.val, B.val, .int .i64 c]) ∧ (A.h, B.h, c) = shRes r ∧ A.Ok w.heap.size w' ∧ B.Ok w.heap.size w' ∧ (bla [A, B]).Nodup ∧ Below w.heap.size w w'
/-- The zero hunk. -/
def zeroHA : HA := ⟨0, .slice none 0 0, .slice none 0 0, [], []⟩
theorem zeroHA_ok (B : Nat) (w : World) : zeroHA.Ok B w := ⟨World.ownsRow_nil _ _ _ _, World.ownsRow_nil _ _ _ _⟩
/-- What a way leads to. -/
def wayTo (a b : Hn.H) : Except Nat (Hn.H × Hn.H) := Hn.told a b
theorem bla_two (A B : HA) : bla [A, B] = bla [A] ++ bla [B] := by
  unfold bla
  rw [← List.filterMap_append]; rfl
theorem bla_ok {A : HA} {B : Nat} {w : World} (h : A.Ok B w) : ∀ b ∈ bla [A], B ≤ b ∧ b < w.heap.size := by
  intro b hb
  simp only [bla, List.flatMap_cons, List.flatMap_nil, List.append_nil] at hb
  obtain ⟨v, hv, hb⟩ := List.mem_filterMap.1 hb
  simp only [List.mem_cons, List.not_mem_nil, or_false] at hv
  rcases hv with rfl | rfl
  · exact h.1.lt b hb
  · exact h.2.lt b hb
/-- A hunk's variable, written with what it holds. -/
theorem hbox_same {W : World} {b : Nat} {x : HA} (h : HBox W b x) : HBox (((W.setCell ⟨b, 0, none⟩ (.int .i64 x.at_)).setCell ⟨b, 1, none⟩ x.vo).setCell ⟨b, 2, none⟩ x.vn) b x := three_cells h _ _ _
/-- A hunk's variable, written. -/
theorem hbox_put {W : World} {b : Nat} {x : HA} (h : HBox W b x) (y : HA) : ∃ Z, Z = ((W.setCell ⟨b, 0, none⟩ (.int .i64 y.at_)).setCell ⟨b, 1, none⟩ y.vo).setCell ⟨b, 2, none⟩ y.vn ∧ HBox Z b y ∧ W.grownBy Z (some b) ∧ ∀ (B n : Nat) (v : Value) (xs : List Value), W.ownsRow B 9 1 v n xs → Z.ownsRow B 9 1 v n xs := set_three h _ _ _
theorem hbox_facts {W : World} {b : Nat} {x : HA} (h : HBox W b x) (u0 u1 : Value) : W.cell? ⟨b, 0, none⟩ = some (.int .i64 x.at_) ∧ (W.setCell ⟨b, 0, none⟩ u0).cell? ⟨b, 1, none⟩ = some x.vo ∧ ((W.setCell ⟨b, 0, none⟩ u0).setCell ⟨b, 1, none⟩ u1).cell? ⟨b, 2, none⟩ = some x.vn ∧ ∀ j, W.frozen? ⟨b, j, none⟩ = false := by
  have h1 := heap_setCell_same W b 0 _ 41 u0 h
  have h2 := heap_setCell_same _ b 1 _ 41 u1 h1
  refine ⟨?_, ?_, ?_, fun j => frozen_of_row W b j _ _ h⟩
  · rw [Lib.cell_of_heap h]; rfl
  · rw [Lib.cell_of_heap h1]; rfl
  · rw [Lib.cell_of_heap h2]; rfl

/-- It can be moved so. -/
def HA.Good (x : HA) (d : Int) : Prop := x.Small ∧ x.Thin ∧ (-9223372036854775808 ≤ x.at_ + d ∧ x.at_ + d ≤ 9223372036854775807) ∧ x.Fits

/-- A variable that holds a hunk that goes on. -/
def MBox (W : World) (b : Nat) (x0 x1 x2 x3 : Value) : Prop := W.heap[b]? = some (.cells #[x0, x1, x2, x3] 84 (0, 0))
theorem MBox.below {W W' : World} {b : Nat} {x0 x1 x2 x3 : Value} (h : MBox W b x0 x1 x2 x3) (hb : Below W.heap.size W W') : MBox W' b x0 x1 x2 x3 := (hb.block b (Array.getElem?_eq_some_iff.1 h).1).trans h
theorem MBox.grown {W W' : World} {b c : Nat} {x0 x1 x2 x3 : Value} (h : MBox W b x0 x1 x2 x3) (hg : W.grownBy W' (some c)) (hne : b ≠ c) : MBox W' b x0 x1 x2 x3 := (hg.block b (Array.getElem?_eq_some_iff.1 h).1 (by simp [hne])).trans h
theorem HBox.grown {W W' : World} {b c : Nat} {x : HA} (h : HBox W b x) (hg : W.grownBy W' (some c)) (hne : b ≠ c) : HBox W' b x := (hg.block b (Array.getElem?_eq_some_iff.1 h).1 (by simp [hne])).trans h
theorem below_grown {n c : Nat} {w W W' : World} (h : Below n w W) (hg : W.grownBy W' (some c)) (hc : n ≤ c) (hn : n ≤ W.heap.size) : Below n w W' := h.trans ⟨hg.os, hg.tape, hg.output, hg.size, fun j hj => hg.block j (by omega) (fun e => by cases e; omega)⟩
/-- Two hunks in a row of their own. -/
theorem haLow_two (w : World) (x y : HA) (hx : x.Low w.heap.size w) (hy : y.Low w.heap.size w) :
    HaLow (w.alloc (.cells #[.int .i64 x.at_, x.vo, x.vn, .int .i64 y.at_, y.vo, y.vn] 41)).heap.size (w.alloc (.cells #[.int .i64 x.at_, x.vo, x.vn, .int .i64 y.at_, y.vo, y.vn] 41)) (.slice (some ⟨w.heap.size, 0, none⟩) 2 2) [x, y] := by
  refine ⟨CellsLow.lit w [.int .i64 x.at_, x.vo, x.vn, .int .i64 y.at_, y.vo, y.vn] 41 2, fun z hz => ?_⟩
  have hb := below_nw w (.cells #[.int .i64 x.at_, x.vo, x.vn, .int .i64 y.at_, y.vo, y.vn] 41)
  simp only [List.mem_cons, List.not_mem_nil, or_false] at hz
  rcases hz with rfl | rfl
  · exact (hx.below hb (Nat.le_refl _)).mono hb.size
  · exact (hy.below hb (Nat.le_refl _)).mono hb.size
theorem fits_moved {x y : HA} {d : Int} (h : y.h = Hn.moved x.h d) (g : x.Good d) : y.Fits := by
  obtain ⟨p, vo, vn, L1, L2⟩ := x
  obtain ⟨p', vo', vn', M1, M2⟩ := y
  simp only [HA.h, Hn.moved, Hn.H.mk.injEq] at h
  obtain ⟨rfl, rfl, rfl⟩ := h
  obtain ⟨⟨s1, s2⟩, ⟨t1, t2⟩, ⟨d1, d2⟩, -⟩ := g
  simp only at s1 s2 t1 t2 d1 d2
  exact ⟨⟨d1, d2⟩, ⟨by show M1.length ≤ _; omega, by show M2.length ≤ _; omega⟩, fun s hs => by have := t1 s hs; omega, fun s hs => by have := t2 s hs; omega⟩
theorem wrongs_two (x y : HA) : wrongs [x, y] = !(Hn.right x.h && Hn.right y.h) := by simp [wrongs]

set_option maxRecDepth 100000 in
theorem index_way0 (a b c d : Value) (w : World) : (Instr.index 89 (.agg #[a, b, c, d]) (.int .i64 0)).run Try.prog w = .ok (.agg #[a, b]) w := by rfl
set_option maxRecDepth 100000 in
theorem index_way1 (a b c d : Value) (w : World) : (Instr.index 89 (.agg #[a, b, c, d]) (.int .i64 1)).run Try.prog w = .ok (.agg #[c, d]) w := by rfl

set_option maxRecDepth 100000 in
set_option maxHeartbeats 8000000 in
theorem taken_any (k1 k2 k3 k4 : Nat) (p1 p2 p3 p4 : Array Value) (o1 o2 : Bool) (A1 B1 A2 B2 : HA) (d1 e1 d2 e2 : Int) (w : World) (hf1 : ∀ w, (callFunc k1 p1).run Try.prog w = .ok (.enter k1 p1) w) (hf2 : ∀ w, (callFunc k2 p2).run Try.prog w = .ok (.enter k2 p2) w) (hf3 : ∀ w, (callFunc k3 p3).run Try.prog w = .ok (.enter k3 p3) w) (hf4 : ∀ w, (callFunc k4 p4).run Try.prog w = .ok (.enter k4 p4) w)
    (H1 : ∀ W, Below w.heap.size w W → Calls Try.prog k1 p1 W fun e W' => e = .returned (.bool o1) ∧ Below W.heap.size W W')
    (H2 : o1 = true → ∀ W, Below w.heap.size w W → Calls Try.prog k2 p2 W fun e W' => e = .returned (.tuple #[movV A1 d1, movV B1 e1]) ∧ Below W.heap.size W W')
    (H3 : o1 = false → ∀ W, Below w.heap.size w W → Calls Try.prog k3 p3 W fun e W' => e = .returned (.bool o2) ∧ Below W.heap.size W W')
    (H4 : o1 = false → o2 = true → ∀ W, Below w.heap.size w W → Calls Try.prog k4 p4 W fun e W' => e = .returned (.tuple #[movV A2 d2, movV B2 e2]) ∧ Below W.heap.size W W')
    (LA1 : A1.Low w.heap.size w) (LB1 : B1.Low w.heap.size w) (LA2 : A2.Low w.heap.size w) (LB2 : B2.Low w.heap.size w) (GA1 : A1.Good d1) (GB1 : B1.Good e1) (GA2 : A2.Good d2) (GB2 : B2.Good e2) :
    Calls Try.prog 51 #[.agg #[.func (.func k1) #[] p1, .func (.func k2) #[] p2, .func (.func k3) #[] p3, .func (.func k4) #[] p4]] w
      fun e w' => ShPost (if o1 then Hn.told (Hn.moved A1.h d1) (Hn.moved B1.h e1) else if o2 then Hn.told (Hn.moved A2.h d2) (Hn.moved B2.h e2) else .error 130) w e w' := by
  have HH1 : Hid (_) := H1
  have HH2 : Hid (_) := H2
  have HH3 : Hid (_) := H3
  have HH4 : Hid (_) := H4
  clear H1 H2 H3 H4
  have hstf := fun (a : Addr) (fn : Fn) (c1 c2 : Array Value) (w : World) => run_store Try.prog w a (.func fn c1 c2) .plain rfl
  have hi0 := index_way0 (.func (.func k1) #[] p1) (.func (.func k2) #[] p2) (.func (.func k3) #[] p3) (.func (.func k4) #[] p4)
  have hi1 := index_way1 (.func (.func k1) #[] p1) (.func (.func k2) #[] p2) (.func (.func k3) #[] p3) (.func (.func k4) #[] p4)
  have TA1 : Hid (∀ W, Below w.heap.size w W → _) := fun W hW => told_any A1 d1 w.heap.size W (LA1.below hW (Nat.le_refl _)) hW.size GA1.1 GA1.2.1 GA1.2.2.1
  have TB1 : Hid (∀ W, Below w.heap.size w W → _) := fun W hW => told_any B1 e1 w.heap.size W (LB1.below hW (Nat.le_refl _)) hW.size GB1.1 GB1.2.1 GB1.2.2.1
  have TA2 : Hid (∀ W, Below w.heap.size w W → _) := fun W hW => told_any A2 d2 w.heap.size W (LA2.below hW (Nat.le_refl _)) hW.size GA2.1 GA2.2.1 GA2.2.2.1
  have TB2 : Hid (∀ W, Below w.heap.size w W → _) := fun W hW => told_any B2 e2 w.heap.size W (LB2.below hW (Nat.le_refl _)) hW.size GB2.1 GB2.2.1 GB2.2.2.1
  have SA1 : Hid (_) := LA1.shape
  have SB1 : Hid (_) := LB1.shape
  have SA2 : Hid (_) := LA2.shape
  have SB2 : Hid (_) := LB2.shape
  have FG1 : Hid (_) := GA1
  have FG2 : Hid (_) := GB1
  have FG3 : Hid (_) := GA2
  have FG4 : Hid (_) := GB2
  clear LA1 LB1 LA2 LB2 GA1 GB1 GA2 GB2
  obtain ⟨X, hX⟩ : ∃ X, X = ((w.alloc (.cells #[.func (.func k1) #[] p1, .func (.func k2) #[] p2, .func (.func k3) #[] p3, .func (.func k4) #[] p4] 89)).alloc (.cells #[.int .i64 0, .slice none 0 0, .slice none 0 0] 41)).alloc (.cells #[.int .i64 0, .slice none 0 0, .slice none 0 0] 41) := ⟨_, rfl⟩
  have bX : Below w.heap.size w X := by rw [hX]; exact ((below_nw w _).alloc (by simp) _).alloc (by simp; omega) _
  have sX : X.heap.size = w.heap.size + 1 + 1 + 1 := by rw [hX]; simp
  have x1 : HBox X (w.heap.size + 1) zeroHA := by
    have h := World.alloc_heap_new (w.alloc (.cells #[.func (.func k1) #[] p1, .func (.func k2) #[] p2, .func (.func k3) #[] p3, .func (.func k4) #[] p4] 89)) (.cells #[.int .i64 0, .slice none 0 0, .slice none 0 0] 41)
    rw [World.size_alloc] at h
    rw [hX]; exact ((below_nw _ _).block _ (by simp)).trans h
  have x2 : HBox X (w.heap.size + 1 + 1) zeroHA := by
    have h := World.alloc_heap_new ((w.alloc (.cells #[.func (.func k1) #[] p1, .func (.func k2) #[] p2, .func (.func k3) #[] p3, .func (.func k4) #[] p4] 89)).alloc (.cells #[.int .i64 0, .slice none 0 0, .slice none 0 0] 41)) (.cells #[.int .i64 0, .slice none 0 0, .slice none 0 0] 41)
    rw [World.size_alloc, World.size_alloc] at h
    rw [hX]; exact h
  have ST : Hid (Below w.heap.size w X ∧ HBox X (w.heap.size + 1) zeroHA ∧ HBox X (w.heap.size + 1 + 1) zeroHA) := ⟨bX, x1, x2⟩
  clear bX x1 x2 sX
  refine (callsIn_wide (n := 3)).1 ?_
  refine callsIn_of_wp Try.func51 rfl trivial ?_ rfl
  simp only [Try.ntmps51, List.size_toArray, List.length_cons, List.length_nil, Nat.reduceAdd, Nat.reduceSub, Array.replicate_succ, Array.replicate_zero, List.push_toArray, List.append_toArray, List.nil_append, List.cons_append]
  gi_wp2
  rw [← hX]
  clear hX
  gi_loopw [10] (fun i wr => ∃ k : Nat, k ≤ 2 ∧ i = .int .i64 k ∧ (0 < k → o1 = false) ∧ (1 < k → o2 = false) ∧ Below w.heap.size w wr ∧ HBox wr (w.heap.size + 1) zeroHA ∧ HBox wr (w.heap.size + 1 + 1) zeroHA) (fun i _ => 2 - (intOf i).toNat)
  case atStart => exact ⟨0, by omega, rfl, fun h => absurd h (by omega), fun h => absurd h (by omega), ST.out.1, ST.out.2.1, ST.out.2.2⟩
  case round =>
    clear ST
    obtain ⟨k, hk, rfl, ho1, ho2, hb, z1, z2⟩ := hrel
    have Z1 : Hid (HBox wr (w.heap.size + 1) zeroHA) := z1
    have Z2 : Hid (HBox wr (w.heap.size + 1 + 1) zeroHA) := z2
    have HB : Hid (Below w.heap.size w wr) := hb
    clear z1 z2 hb
    match k, hk with
    | 0, _ =>
      clear ho1 ho2
      have b0 : Below w.heap.size w (wr.alloc (.cells #[.func (.func k1) #[] p1, .func (.func k2) #[] p2] 88)) := below_then HB.out (below_nw wr _)
      have OP : Hid (_) := HH1.out _ b0
      have HB0 : Hid (Below wr.heap.size wr (wr.alloc (.cells #[.func (.func k1) #[] p1, .func (.func k2) #[] p2] 88))) := below_nw wr _
      have hz0 : (wr.alloc (.cells #[.func (.func k1) #[] p1, .func (.func k2) #[] p2] 88)).heap[wr.heap.size]? = some (.cells #[.func (.func k1) #[] p1, .func (.func k2) #[] p2] 88 (0, 0)) := World.alloc_heap_new wr _
      have HZ0 : Hid (_) := hz0
      clear b0 hz0
      gi_wp2_with fail
      refine ⟨trivial, ?_⟩
      refine (callsIn_wide.2 OP.out).mono ?_
      rintro e w1 ⟨rfl, b1⟩
      have BB1 : Hid (Below wr.heap.size wr w1) := below_then HB0.out b1
      have hw1 : w1.heap[wr.heap.size]? = some (.cells #[.func (.func k1) #[] p1, .func (.func k2) #[] p2] 88 (0, 0)) := (b1.block _ (Array.getElem?_eq_some_iff.1 HZ0.out).1).trans HZ0.out
      have hg1 : w1.cell? ⟨wr.heap.size, 1, none⟩ = some (.func (.func k2) #[] p2) := by rw [Lib.cell_of_heap hw1]; rfl
      have WB1 : Hid (Below w.heap.size w w1) := below_then HB.out BB1.out
      have Y1 : Hid (HBox w1 (w.heap.size + 1) zeroHA) := HBox.below Z1.out BB1.out
      have Y2 : Hid (HBox w1 (w.heap.size + 1 + 1) zeroHA) := HBox.below Z2.out BB1.out
      clear OP b1 hw1 HB0 HZ0 Z1 Z2
      cases hoo : o1 with
      | false =>
        subst hoo
        gi_wp2
        go_roundw
        case rel => exact ⟨1, by omega, by go_num, fun _ => trivial, fun h => absurd h (by omega), WB1.out, Y1.out, Y2.out⟩
        case measure => simp [intOf]
      | true =>
        subst hoo
        have GO : Hid (_) := HH2.out rfl w1 WB1.out
        obtain ⟨⟨va1, vc1, ve1⟩, va2, vc2, ve2⟩ := SA1.out
        obtain ⟨⟨ua1, uc1, ue1⟩, ua2, uc2, ue2⟩ := SB1.out
        have movA : movV A1 d1 = .agg #[.int .i64 A1.at_, .slice va1 A1.old.length vc1, .slice va2 A1.new.length vc2, .int .i64 d1] := by unfold movV; rw [ve1, ve2]
        have movB : movV B1 e1 = .agg #[.int .i64 B1.at_, .slice ua1 B1.old.length uc1, .slice ua2 B1.new.length uc2, .int .i64 e1] := by unfold movV; rw [ue1, ue2]
        rw [movA, movB] at GO
        have MA : Hid (_) := movA
        have MB : Hid (_) := movB
        clear movA movB ve1 ve2 ue1 ue2
        gi_wp2_with fail
        refine ⟨trivial, ?_⟩
        refine (callsIn_wide.2 GO.out).mono ?_
        rintro e w2 ⟨rfl, b2⟩
        obtain ⟨V, hV⟩ : ∃ V, V = (w2.alloc (.cells #[.int .i64 A1.at_, .slice va1 A1.old.length vc1, .slice va2 A1.new.length vc2, .int .i64 d1] 84)).alloc (.cells #[.int .i64 B1.at_, .slice ua1 B1.old.length uc1, .slice ua2 B1.new.length uc2, .int .i64 e1] 84) := ⟨_, rfl⟩
        obtain ⟨m0, m1⟩ := two_mov hV (Below.refl _ V)
        have bV : Below w2.heap.size w2 V := by rw [hV]; exact (below_nw w2 _).alloc (by simp) _
        have BV : Hid (Below w.heap.size w (V.drewN 1)) := below_drewN (below_then WB1.out (below_then b2 bV)) 1
        have X1 : Hid (HBox (V.drewN 1) (w.heap.size + 1) zeroHA) := ((HBox.below Y1.out b2).below (below_drewN bV 1))
        have X2 : Hid (HBox (V.drewN 1) (w.heap.size + 1 + 1) zeroHA) := ((HBox.below Y2.out b2).below (below_drewN bV 1))
        have lt2 : w.heap.size + 1 + 1 < w2.heap.size := ((HBox.below Y2.out b2)).lt
        have M0 : Hid (MBox (V.drewN 1) w2.heap.size (.int .i64 A1.at_) (.slice va1 A1.old.length vc1) (.slice va2 A1.new.length vc2) (.int .i64 d1)) := m0
        have M1 : Hid (MBox (V.drewN 1) (w2.heap.size + 1) (.int .i64 B1.at_) (.slice ua1 B1.old.length uc1) (.slice ua2 B1.new.length uc2) (.int .i64 e1)) := m1
        have TA := TA1.out
        rw [MA.out] at TA
        have TAA : Hid (_) := TA
        have TB := TB1.out
        rw [MB.out] at TB
        have TBB : Hid (_) := TB
        clear GO b2 m0 m1 bV TA TB Y1 Y2 hg1
        gi_wp2_with fail
        rw [← hV]
        clear hV
        refine region_lex (fun W => MBox W w2.heap.size (.int .i64 A1.at_) (.slice va1 A1.old.length vc1) (.slice va2 A1.new.length vc2) (.int .i64 d1) ∧ MBox W (w2.heap.size + 1) (.int .i64 B1.at_) (.slice ua1 B1.old.length uc1) (.slice ua2 B1.new.length uc2) (.int .i64 e1)) 1 5 rfl (by kernel_rfl) (by kernel_rfl) (by kernel_rfl) (by kernel_rfl) (fun _ _ d _ _ h => by cases d <;> exact h) ⟨M0.out, M1.out⟩ ?_
        simp only [List.take_succ_cons, List.take_zero]
        apply lexC_want
        · rfl
        · exact fun _ => rfl
        · intro w' hw'; obtain ⟨q0, q1, q2, q3⟩ := mov_cells hw'.1; go_simp; try rfl
        simp only [Act.put, List.setIfInBounds_toArray, List.set_cons_zero, List.set_cons_succ]
        refine lexC_nil ?_
        refine anyC_take (i := 2) (v := .agg #[.int .i64 B1.at_, .slice ua1 B1.old.length uc1, .slice ua2 B1.new.length uc2, .int .i64 e1]) rfl rfl (by kernel_rfl) (by kernel_rfl) (by kernel_rfl) (fun _ _ d _ _ h => by cases d <;> exact h) ⟨M0.out, M1.out⟩ (by rfl) (fun _ => rfl) (by intro w' hw'; obtain ⟨q0, q1, q2, q3⟩ := mov_cells hw'.2; go_simp; try rfl) ?_
        refine anyC_one (i := 1) (by kernel_rfl) rfl (by rfl) (fun K1 hK1 => ?_)
        go_simp
        refine ⟨trivial, ?_⟩
        refine (callsIn_wide.2 (TAA.out _ BV.out)).mono ?_
        rintro e w3 ⟨y, rfl, hy, oky, ndy, b3⟩
        have BW3 : Below w.heap.size w w3 := below_then BV.out b3
        refine hK1 _ _ ⟨MBox.below M0.out b3, MBox.below M1.out b3⟩ ?_
        clear hK1
        refine anyC_one (i := 3) (by kernel_rfl) rfl (by rfl) (fun K2 hK2 => ?_)
        go_simp
        refine ⟨trivial, ?_⟩
        refine (callsIn_wide.2 (TBB.out _ BW3)).mono ?_
        rintro e w4 ⟨z, rfl, hz, okz, ndz, b4⟩
        have b34 := below_then b3 b4
        have BW4 : Below w.heap.size w w4 := below_then BV.out b34
        have M04 := MBox.below M0.out b34
        have M14 := MBox.below M1.out b34
        refine hK2 _ _ ⟨M04, M14⟩ ?_
        clear hK2
        have X14 := HBox.below X1.out b34
        have X24 := HBox.below X2.out b34
        have oky4 : y.Ok w.heap.size w4 := ⟨owns_base (owns_below oky.1 b4) BV.out.size, owns_base (owns_below oky.2 b4) BV.out.size⟩
        have okz4 : z.Ok w.heap.size w4 := ⟨owns_base okz.1 BW3.size, owns_base okz.2 BW3.size⟩
        have nd : (bla [y, z]).Nodup := by
          rw [bla_two, List.nodup_append]
          refine ⟨ndy, ndz, fun a ha b hb e => ?_⟩
          have h1 := (bla_ok oky a ha).2
          have h2 := (bla_ok okz b hb).1
          omega
        have FY : Hid (y.Fits) := fits_moved hy FG1.out
        have FZ : Hid (z.Fits) := fits_moved hz FG2.out
        have OKY : Hid (y.Ok w.heap.size w4) := oky4
        have OKZ : Hid (z.Ok w.heap.size w4) := okz4
        have ND : Hid ((bla [y, z]).Nodup) := nd
        have HY : Hid (y.h = _) := hy
        have HZ : Hid (z.h = _) := hz
        obtain ⟨ya, yc, ye⟩ := slice_shape oky.1
        obtain ⟨yb, yd, yf⟩ := slice_shape oky.2
        obtain ⟨za, zc, ze⟩ := slice_shape okz.1
        obtain ⟨zb, zd, zf⟩ := slice_shape okz.2
        have BW4h : Hid (Below w.heap.size w w4) := BW4
        clear oky okz oky4 okz4 nd ndy ndz hy hz b3 b4 b34 BW3 BW4 TAA TBB
        obtain ⟨yp, yo, yn, Y1, Y2⟩ := y
        obtain ⟨zp, zo, zn, U1, U2⟩ := z
        simp only at ye yf ze zf
        subst ye yf ze zf
        simp only [HA.val]
        obtain ⟨f0, f1, f2, ff⟩ := hbox_facts X14 (.int .i64 yp) (.slice ya Y1.length yc)
        obtain ⟨W5, hW5, h5, g5, o5⟩ := hbox_put X14 ⟨yp, .slice ya Y1.length yc, .slice yb Y2.length yd, Y1, Y2⟩
        simp only [zeroHA] at f0 f1 f2
        have sz4 : w.heap.size + 1 + 1 < w4.heap.size := HBox.lt X24
        have X25 : HBox W5 (w.heap.size + 1 + 1) zeroHA := X24.grown g5 (by omega)
        have M05 := M04.grown g5 (show w2.heap.size ≠ w.heap.size + 1 by omega)
        have M15 := M14.grown g5 (show w2.heap.size + 1 ≠ w.heap.size + 1 by omega)
        have BW5 : Hid (Below w.heap.size w W5) := below_grown BW4h.out g5 (by omega) (by omega)
        refine anyC_one (i := 4) (by kernel_rfl) rfl (by rfl) (fun K3 hK3 => ?_)
        go_simp
        rw [← hW5]
        refine hK3 _ _ ⟨M05, M15⟩ ?_
        clear hK3 f0 f1 f2 ff X14 X24 M04 M14 hW5
        obtain ⟨f0, f1, f2, ff⟩ := hbox_facts X25 (.int .i64 zp) (.slice za U1.length zc)
        obtain ⟨W6, hW6, h6, g6, o6⟩ := hbox_put X25 ⟨zp, .slice za U1.length zc, .slice zb U2.length zd, U1, U2⟩
        simp only [zeroHA] at f0 f1 f2
        have M06 := M05.grown g6 (show w2.heap.size ≠ w.heap.size + 1 + 1 by omega)
        have M16 := M15.grown g6 (show w2.heap.size + 1 ≠ w.heap.size + 1 + 1 by omega)
        have H56 : Hid (HBox W6 (w.heap.size + 1) ⟨yp, .slice ya Y1.length yc, .slice yb Y2.length yd, Y1, Y2⟩) := h5.grown g6 (by omega)
        have H66 : Hid (HBox W6 (w.heap.size + 1 + 1) ⟨zp, .slice za U1.length zc, .slice zb U2.length zd, U1, U2⟩) := h6
        have BW6 : Hid (Below w.heap.size w W6) := below_grown BW5.out g6 (by omega) (by have := BW5.out.size; omega)
        have OKY6 : Hid (HA.Ok w.heap.size ⟨yp, .slice ya Y1.length yc, .slice yb Y2.length yd, Y1, Y2⟩ W6) := ⟨o6 _ _ _ _ (o5 _ _ _ _ OKY.out.1), o6 _ _ _ _ (o5 _ _ _ _ OKY.out.2)⟩
        have OKZ6 : Hid (HA.Ok w.heap.size ⟨zp, .slice za U1.length zc, .slice zb U2.length zd, U1, U2⟩ W6) := ⟨o6 _ _ _ _ (o5 _ _ _ _ OKZ.out.1), o6 _ _ _ _ (o5 _ _ _ _ OKZ.out.2)⟩
        refine anyC_one (i := 5) (by kernel_rfl) rfl (by rfl) (fun K4 hK4 => ?_)
        go_simp
        rw [← hW6]
        refine hK4 _ _ ⟨M06, M16⟩ ?_
        clear hK4 f0 f1 f2 ff X25 M05 M15 hW6 M06 M16 h5 h6 g5 g6 o5 o6 OKY OKZ BW4h BW5
        refine anyC_done (by kernel_rfl) ?_
        obtain ⟨c0, c1, c2⟩ := HBox.cells H56.out
        obtain ⟨c3, c4, c5⟩ := HBox.cells H66.out
        simp only at c0 c1 c2 c3 c4 c5
        have WR : Hid (_) := wrong_any [⟨yp, .slice ya Y1.length yc, .slice yb Y2.length yd, Y1, Y2⟩, ⟨zp, .slice za U1.length zc, .slice zb U2.length zd, U1, U2⟩] _ _ _ (haLow_two W6 _ _ (HA.Ok.low OKY6.out) (HA.Ok.low OKZ6.out)) (Nat.le_refl _) (fun q hq => by
          simp only [List.mem_cons, List.not_mem_nil, or_false] at hq
          rcases hq with rfl | rfl
          · exact FY.out
          · exact FZ.out) (by simp)
        simp only at WR
        have bN : Hid (Below W6.heap.size W6 _) := below_nw W6 (.cells #[.int .i64 yp, .slice ya Y1.length yc, .slice yb Y2.length yd, .int .i64 zp, .slice za U1.length zc, .slice zb U2.length zd] 41)
        gi_wp2_with fail
        refine ⟨trivial, ?_⟩
        refine (callsIn_wide.2 WR.out).mono ?_
        rintro e w7 ⟨rfl, b7⟩
        have b67 := below_then bN.out b7
        have HY7 : Hid (HBox w7 (w.heap.size + 1) ⟨yp, .slice ya Y1.length yc, .slice yb Y2.length yd, Y1, Y2⟩) := HBox.below H56.out b67
        have HZ7 : Hid (HBox w7 (w.heap.size + 1 + 1) ⟨zp, .slice za U1.length zc, .slice zb U2.length zd, U1, U2⟩) := HBox.below H66.out b67
        have BW7 : Hid (Below w.heap.size w w7) := below_then BW6.out b67
        have OY7 : Hid (HA.Ok w.heap.size ⟨yp, .slice ya Y1.length yc, .slice yb Y2.length yd, Y1, Y2⟩ w7) := HA.Ok.below OKY6.out b67
        have OZ7 : Hid (HA.Ok w.heap.size ⟨zp, .slice za U1.length zc, .slice zb U2.length zd, U1, U2⟩ w7) := HA.Ok.below OKZ6.out b67
        clear WR b7 b67 bN H56 H66 BW6 OKY6 OKZ6 c0 c1 c2 c3 c4 c5
        rw [wrongs_two, HY.out, HZ.out]
        cases hr : (Hn.right (Hn.moved A1.h d1) && Hn.right (Hn.moved B1.h e1)) with
        | false =>
          have HR : Hid (Hn.told (Hn.moved A1.h d1) (Hn.moved B1.h e1) = .error 130) := by
            show Hn.told (Hn.moved A1.h d1) (Hn.moved B1.h e1) = .error 130
            simp [Hn.told, hr]
          obtain ⟨f0, f1, f2, ff⟩ := hbox_facts HY7.out (.int .i64 0) (.slice none 0 0)
          obtain ⟨W8, hW8, h8, g8, -⟩ := hbox_put HY7.out zeroHA
          have X8 : HBox W8 (w.heap.size + 1 + 1) _ := HBox.grown HZ7.out g8 (by omega)
          have BW8 : Below w.heap.size w W8 := below_grown BW7.out g8 (by omega) BW7.out.size
          obtain ⟨f3, f4, f5, fg⟩ := hbox_facts X8 (.int .i64 0) (.slice none 0 0)
          obtain ⟨W9, hW9, h9, g9, -⟩ := hbox_put X8 zeroHA
          have X9 : HBox W9 (w.heap.size + 1) zeroHA := h8.grown g9 (by omega)
          have BW9 : Hid (Below w.heap.size w W9) := below_grown BW8 g9 (by omega) BW8.size
          simp only at f0 f1 f2 f3 f4 f5
          have hW9' := hW9
          simp only [zeroHA] at hW8 hW9
          rw [hW8] at hW9 f3 f4 f5 fg
          obtain ⟨c0, c1, c2⟩ := X9.cells
          obtain ⟨c3, c4, c5⟩ := h9.cells
          simp only [zeroHA] at c0 c1 c2 c3 c4 c5
          clear hr HY HZ hW9' g8 g9 X8 BW8 h8 h9 X9 hW8
          gi_wp2
          rw [← hW9]
          refine bodyPost_ret (v := .tuple #[.agg #[.int .i64 0, .slice none 0 0, .slice none 0 0], .agg #[.int .i64 0, .slice none 0 0, .slice none 0 0], .int .i64 130]) (by simp [results, Try.results51, go_sem, c0, c1, c2, c3, c4, c5]) rfl ?_
          rw [HR.out]
          exact ⟨zeroHA, zeroHA, 130, rfl, rfl, zeroHA_ok _ _, zeroHA_ok _ _, by decide, BW9.out⟩
        | true =>
          have HR : Hid (Hn.told (Hn.moved A1.h d1) (Hn.moved B1.h e1) = .ok (Hn.moved A1.h d1, Hn.moved B1.h e1)) := by
            show Hn.told (Hn.moved A1.h d1) (Hn.moved B1.h e1) = .ok (Hn.moved A1.h d1, Hn.moved B1.h e1)
            rw [Hn.told, if_pos hr]
          clear hr
          gi_wp2_with fail
          refine region_lex (fun W => HBox W (w.heap.size + 1) ⟨yp, .slice ya Y1.length yc, .slice yb Y2.length yd, Y1, Y2⟩ ∧ HBox W (w.heap.size + 1 + 1) ⟨zp, .slice za U1.length zc, .slice zb U2.length zd, U1, U2⟩) 2 3 rfl (by kernel_rfl) (by kernel_rfl) (by kernel_rfl) (by kernel_rfl) (fun _ _ d _ _ h => by cases d <;> exact h) ⟨HY7.out, HZ7.out⟩ ?_
          simp only [List.take_succ_cons, List.take_zero]
          apply lexC_want
          · rfl
          · exact fun _ => rfl
          · intro w' hw'; obtain ⟨q0, q1, q2⟩ := hw'.1.cells; go_simp; try rfl
          simp only [Act.put, List.setIfInBounds_toArray, List.set_cons_zero, List.set_cons_succ]
          apply lexC_want
          · rfl
          · exact fun _ => rfl
          · intro w' hw'; obtain ⟨q0, q1, q2⟩ := hw'.2.cells; go_simp; try rfl
          simp only [Act.put, List.setIfInBounds_toArray, List.set_cons_zero, List.set_cons_succ]
          refine lexC_nil ?_
          obtain ⟨V7, hV7⟩ : ∃ V, V = w7.drew := ⟨_, rfl⟩
          have Y7 : HBox V7 (w.heap.size + 1) ⟨yp, .slice ya Y1.length yc, .slice yb Y2.length yd, Y1, Y2⟩ := by rw [hV7]; exact HY7.out
          have Z7 : HBox V7 (w.heap.size + 1 + 1) ⟨zp, .slice za U1.length zc, .slice zb U2.length zd, U1, U2⟩ := by rw [hV7]; exact HZ7.out
          have BV7 : Below w.heap.size w V7 := by rw [hV7]; exact below_drewN BW7.out 1
          have OYV : HA.Ok w.heap.size ⟨yp, .slice ya Y1.length yc, .slice yb Y2.length yd, Y1, Y2⟩ V7 := by rw [hV7]; exact OY7.out
          have OZV : HA.Ok w.heap.size ⟨zp, .slice za U1.length zc, .slice zb U2.length zd, U1, U2⟩ V7 := by rw [hV7]; exact OZ7.out
          rw [← hV7]
          clear hV7
          obtain ⟨f0, f1, f2, ff⟩ := hbox_facts Y7 (.int .i64 yp) (.slice ya Y1.length yc)
          obtain ⟨W8, hW8, h8, g8, o8⟩ := hbox_put Y7 ⟨yp, .slice ya Y1.length yc, .slice yb Y2.length yd, Y1, Y2⟩
          have X8 : HBox W8 (w.heap.size + 1 + 1) _ := Z7.grown g8 (by omega)
          have BW8 : Below w.heap.size w W8 := below_grown BV7 g8 (by omega) BV7.size
          simp only at f0 f1 f2 hW8
          refine anyC_one (i := 2) (by kernel_rfl) rfl (by rfl) (fun K5 hK5 => ?_)
          go_simp
          rw [← hW8]
          refine hK5 _ _ ⟨h8, X8⟩ ?_
          clear hK5 f0 f1 f2 ff hW8
          obtain ⟨f0, f1, f2, ff⟩ := hbox_facts X8 (.int .i64 zp) (.slice za U1.length zc)
          obtain ⟨W9, hW9, h9, g9, o9⟩ := hbox_put X8 ⟨zp, .slice za U1.length zc, .slice zb U2.length zd, U1, U2⟩
          have X9 : HBox W9 (w.heap.size + 1) _ := h8.grown g9 (by omega)
          have BW9 : Below w.heap.size w W9 := below_grown BW8 g9 (by omega) BW8.size
          simp only at f0 f1 f2 hW9
          refine anyC_one (i := 3) (by kernel_rfl) rfl (by rfl) (fun K6 hK6 => ?_)
          go_simp
          rw [← hW9]
          refine hK6 _ _ ⟨X9, h9⟩ ?_
          clear hK6 f0 f1 f2 ff hW9
          refine anyC_one (i := 4) (by kernel_rfl) rfl (by rfl) (fun K7 hK7 => ?_)
          go_simp
          refine hK7 _ _ ⟨X9, h9⟩ ?_
          clear hK7
          refine anyC_done (by kernel_rfl) ?_
          obtain ⟨c0, c1, c2⟩ := X9.cells
          obtain ⟨c3, c4, c5⟩ := h9.cells
          simp only at c0 c1 c2 c3 c4 c5
          have HF : Hid (HA.Ok w.heap.size ⟨yp, .slice ya Y1.length yc, .slice yb Y2.length yd, Y1, Y2⟩ W9 ∧ HA.Ok w.heap.size ⟨zp, .slice za U1.length zc, .slice zb U2.length zd, U1, U2⟩ W9 ∧ Below w.heap.size w W9) := ⟨⟨o9 _ _ _ _ (o8 _ _ _ _ OYV.1), o9 _ _ _ _ (o8 _ _ _ _ OYV.2)⟩, ⟨o9 _ _ _ _ (o8 _ _ _ _ OZV.1), o9 _ _ _ _ (o8 _ _ _ _ OZV.2)⟩, BW9⟩
          clear X9 h9 X8 h8 g8 g9 o8 o9 BW8 BW9 Y7 Z7 BV7 OYV OZV
          gi_wp2
          refine bodyPost_ret (v := .tuple #[.agg #[.int .i64 yp, .slice ya Y1.length yc, .slice yb Y2.length yd], .agg #[.int .i64 zp, .slice za U1.length zc, .slice zb U2.length zd], .int .i64 0]) (by simp [results, Try.results51, go_sem, c0, c1, c2, c3, c4, c5]) rfl ?_
          rw [HR.out]
          refine ⟨_, _, 0, rfl, ?_, HF.out.1, HF.out.2.1, ND.out, HF.out.2.2⟩
          rw [HY.out, HZ.out]; rfl
    | 1, _ =>
      have hoo1 := ho1 (by omega)
      subst hoo1
      clear ho1 ho2
      have b0 : Below w.heap.size w (wr.alloc (.cells #[.func (.func k3) #[] p3, .func (.func k4) #[] p4] 88)) := below_then HB.out (below_nw wr _)
      have OP : Hid (_) := HH3.out rfl _ b0
      have HB0 : Hid (Below wr.heap.size wr (wr.alloc (.cells #[.func (.func k3) #[] p3, .func (.func k4) #[] p4] 88))) := below_nw wr _
      have hz0 : (wr.alloc (.cells #[.func (.func k3) #[] p3, .func (.func k4) #[] p4] 88)).heap[wr.heap.size]? = some (.cells #[.func (.func k3) #[] p3, .func (.func k4) #[] p4] 88 (0, 0)) := World.alloc_heap_new wr _
      have HZ0 : Hid (_) := hz0
      clear b0 hz0
      gi_wp2_with fail
      refine ⟨trivial, ?_⟩
      refine (callsIn_wide.2 OP.out).mono ?_
      rintro e w1 ⟨rfl, b1⟩
      have BB1 : Hid (Below wr.heap.size wr w1) := below_then HB0.out b1
      have hw1 : w1.heap[wr.heap.size]? = some (.cells #[.func (.func k3) #[] p3, .func (.func k4) #[] p4] 88 (0, 0)) := (b1.block _ (Array.getElem?_eq_some_iff.1 HZ0.out).1).trans HZ0.out
      have hg1 : w1.cell? ⟨wr.heap.size, 1, none⟩ = some (.func (.func k4) #[] p4) := by rw [Lib.cell_of_heap hw1]; rfl
      have WB1 : Hid (Below w.heap.size w w1) := below_then HB.out BB1.out
      have Y1 : Hid (HBox w1 (w.heap.size + 1) zeroHA) := HBox.below Z1.out BB1.out
      have Y2 : Hid (HBox w1 (w.heap.size + 1 + 1) zeroHA) := HBox.below Z2.out BB1.out
      clear OP b1 hw1 HB0 HZ0 Z1 Z2
      cases hoo : o2 with
      | false =>
        subst hoo
        gi_wp2
        go_roundw
        case rel => exact ⟨2, by omega, by go_num, fun _ => trivial, fun _ => trivial, WB1.out, Y1.out, Y2.out⟩
        case measure => simp [intOf]
      | true =>
        subst hoo
        have GO : Hid (_) := HH4.out (by first | exact rfl | trivial) (by first | exact rfl | trivial) w1 WB1.out
        obtain ⟨⟨va1, vc1, ve1⟩, va2, vc2, ve2⟩ := SA2.out
        obtain ⟨⟨ua1, uc1, ue1⟩, ua2, uc2, ue2⟩ := SB2.out
        have movA : movV A2 d2 = .agg #[.int .i64 A2.at_, .slice va1 A2.old.length vc1, .slice va2 A2.new.length vc2, .int .i64 d2] := by unfold movV; rw [ve1, ve2]
        have movB : movV B2 e2 = .agg #[.int .i64 B2.at_, .slice ua1 B2.old.length uc1, .slice ua2 B2.new.length uc2, .int .i64 e2] := by unfold movV; rw [ue1, ue2]
        rw [movA, movB] at GO
        have MA : Hid (_) := movA
        have MB : Hid (_) := movB
        clear movA movB ve1 ve2 ue1 ue2
        gi_wp2_with fail
        refine ⟨trivial, ?_⟩
        refine (callsIn_wide.2 GO.out).mono ?_
        rintro e w2 ⟨rfl, b2⟩
        obtain ⟨V, hV⟩ : ∃ V, V = (w2.alloc (.cells #[.int .i64 A2.at_, .slice va1 A2.old.length vc1, .slice va2 A2.new.length vc2, .int .i64 d2] 84)).alloc (.cells #[.int .i64 B2.at_, .slice ua1 B2.old.length uc1, .slice ua2 B2.new.length uc2, .int .i64 e2] 84) := ⟨_, rfl⟩
        obtain ⟨m0, m1⟩ := two_mov hV (Below.refl _ V)
        have bV : Below w2.heap.size w2 V := by rw [hV]; exact (below_nw w2 _).alloc (by simp) _
        have BV : Hid (Below w.heap.size w (V.drewN 1)) := below_drewN (below_then WB1.out (below_then b2 bV)) 1
        have X1 : Hid (HBox (V.drewN 1) (w.heap.size + 1) zeroHA) := ((HBox.below Y1.out b2).below (below_drewN bV 1))
        have X2 : Hid (HBox (V.drewN 1) (w.heap.size + 1 + 1) zeroHA) := ((HBox.below Y2.out b2).below (below_drewN bV 1))
        have lt2 : w.heap.size + 1 + 1 < w2.heap.size := ((HBox.below Y2.out b2)).lt
        have M0 : Hid (MBox (V.drewN 1) w2.heap.size (.int .i64 A2.at_) (.slice va1 A2.old.length vc1) (.slice va2 A2.new.length vc2) (.int .i64 d2)) := m0
        have M1 : Hid (MBox (V.drewN 1) (w2.heap.size + 1) (.int .i64 B2.at_) (.slice ua1 B2.old.length uc1) (.slice ua2 B2.new.length uc2) (.int .i64 e2)) := m1
        have TA := TA2.out
        rw [MA.out] at TA
        have TAA : Hid (_) := TA
        have TB := TB2.out
        rw [MB.out] at TB
        have TBB : Hid (_) := TB
        clear GO b2 m0 m1 bV TA TB Y1 Y2 hg1
        gi_wp2_with fail
        rw [← hV]
        clear hV
        refine region_lex (fun W => MBox W w2.heap.size (.int .i64 A2.at_) (.slice va1 A2.old.length vc1) (.slice va2 A2.new.length vc2) (.int .i64 d2) ∧ MBox W (w2.heap.size + 1) (.int .i64 B2.at_) (.slice ua1 B2.old.length uc1) (.slice ua2 B2.new.length uc2) (.int .i64 e2)) 1 5 rfl (by kernel_rfl) (by kernel_rfl) (by kernel_rfl) (by kernel_rfl) (fun _ _ d _ _ h => by cases d <;> exact h) ⟨M0.out, M1.out⟩ ?_
        simp only [List.take_succ_cons, List.take_zero]
        apply lexC_want
        · rfl
        · exact fun _ => rfl
        · intro w' hw'; obtain ⟨q0, q1, q2, q3⟩ := mov_cells hw'.1; go_simp; try rfl
        simp only [Act.put, List.setIfInBounds_toArray, List.set_cons_zero, List.set_cons_succ]
        refine lexC_nil ?_
        refine anyC_take (i := 2) (v := .agg #[.int .i64 B2.at_, .slice ua1 B2.old.length uc1, .slice ua2 B2.new.length uc2, .int .i64 e2]) rfl rfl (by kernel_rfl) (by kernel_rfl) (by kernel_rfl) (fun _ _ d _ _ h => by cases d <;> exact h) ⟨M0.out, M1.out⟩ (by rfl) (fun _ => rfl) (by intro w' hw'; obtain ⟨q0, q1, q2, q3⟩ := mov_cells hw'.2; go_simp; try rfl) ?_
        refine anyC_one (i := 1) (by kernel_rfl) rfl (by rfl) (fun K1 hK1 => ?_)
        go_simp
        refine ⟨trivial, ?_⟩
        refine (callsIn_wide.2 (TAA.out _ BV.out)).mono ?_
        rintro e w3 ⟨y, rfl, hy, oky, ndy, b3⟩
        have BW3 : Below w.heap.size w w3 := below_then BV.out b3
        refine hK1 _ _ ⟨MBox.below M0.out b3, MBox.below M1.out b3⟩ ?_
        clear hK1
        refine anyC_one (i := 3) (by kernel_rfl) rfl (by rfl) (fun K2 hK2 => ?_)
        go_simp
        refine ⟨trivial, ?_⟩
        refine (callsIn_wide.2 (TBB.out _ BW3)).mono ?_
        rintro e w4 ⟨z, rfl, hz, okz, ndz, b4⟩
        have b34 := below_then b3 b4
        have BW4 : Below w.heap.size w w4 := below_then BV.out b34
        have M04 := MBox.below M0.out b34
        have M14 := MBox.below M1.out b34
        refine hK2 _ _ ⟨M04, M14⟩ ?_
        clear hK2
        have X14 := HBox.below X1.out b34
        have X24 := HBox.below X2.out b34
        have oky4 : y.Ok w.heap.size w4 := ⟨owns_base (owns_below oky.1 b4) BV.out.size, owns_base (owns_below oky.2 b4) BV.out.size⟩
        have okz4 : z.Ok w.heap.size w4 := ⟨owns_base okz.1 BW3.size, owns_base okz.2 BW3.size⟩
        have nd : (bla [y, z]).Nodup := by
          rw [bla_two, List.nodup_append]
          refine ⟨ndy, ndz, fun a ha b hb e => ?_⟩
          have h1 := (bla_ok oky a ha).2
          have h2 := (bla_ok okz b hb).1
          omega
        have FY : Hid (y.Fits) := fits_moved hy FG3.out
        have FZ : Hid (z.Fits) := fits_moved hz FG4.out
        have OKY : Hid (y.Ok w.heap.size w4) := oky4
        have OKZ : Hid (z.Ok w.heap.size w4) := okz4
        have ND : Hid ((bla [y, z]).Nodup) := nd
        have HY : Hid (y.h = _) := hy
        have HZ : Hid (z.h = _) := hz
        obtain ⟨ya, yc, ye⟩ := slice_shape oky.1
        obtain ⟨yb, yd, yf⟩ := slice_shape oky.2
        obtain ⟨za, zc, ze⟩ := slice_shape okz.1
        obtain ⟨zb, zd, zf⟩ := slice_shape okz.2
        have BW4h : Hid (Below w.heap.size w w4) := BW4
        clear oky okz oky4 okz4 nd ndy ndz hy hz b3 b4 b34 BW3 BW4 TAA TBB
        obtain ⟨yp, yo, yn, Y1, Y2⟩ := y
        obtain ⟨zp, zo, zn, U1, U2⟩ := z
        simp only at ye yf ze zf
        subst ye yf ze zf
        simp only [HA.val]
        obtain ⟨f0, f1, f2, ff⟩ := hbox_facts X14 (.int .i64 yp) (.slice ya Y1.length yc)
        obtain ⟨W5, hW5, h5, g5, o5⟩ := hbox_put X14 ⟨yp, .slice ya Y1.length yc, .slice yb Y2.length yd, Y1, Y2⟩
        simp only [zeroHA] at f0 f1 f2
        have sz4 : w.heap.size + 1 + 1 < w4.heap.size := HBox.lt X24
        have X25 : HBox W5 (w.heap.size + 1 + 1) zeroHA := X24.grown g5 (by omega)
        have M05 := M04.grown g5 (show w2.heap.size ≠ w.heap.size + 1 by omega)
        have M15 := M14.grown g5 (show w2.heap.size + 1 ≠ w.heap.size + 1 by omega)
        have BW5 : Hid (Below w.heap.size w W5) := below_grown BW4h.out g5 (by omega) (by omega)
        refine anyC_one (i := 4) (by kernel_rfl) rfl (by rfl) (fun K3 hK3 => ?_)
        go_simp
        rw [← hW5]
        refine hK3 _ _ ⟨M05, M15⟩ ?_
        clear hK3 f0 f1 f2 ff X14 X24 M04 M14 hW5
        obtain ⟨f0, f1, f2, ff⟩ := hbox_facts X25 (.int .i64 zp) (.slice za U1.length zc)
        obtain ⟨W6, hW6, h6, g6, o6⟩ := hbox_put X25 ⟨zp, .slice za U1.length zc, .slice zb U2.length zd, U1, U2⟩
        simp only [zeroHA] at f0 f1 f2
        have M06 := M05.grown g6 (show w2.heap.size ≠ w.heap.size + 1 + 1 by omega)
        have M16 := M15.grown g6 (show w2.heap.size + 1 ≠ w.heap.size + 1 + 1 by omega)
        have H56 : Hid (HBox W6 (w.heap.size + 1) ⟨yp, .slice ya Y1.length yc, .slice yb Y2.length yd, Y1, Y2⟩) := h5.grown g6 (by omega)
        have H66 : Hid (HBox W6 (w.heap.size + 1 + 1) ⟨zp, .slice za U1.length zc, .slice zb U2.length zd, U1, U2⟩) := h6
        have BW6 : Hid (Below w.heap.size w W6) := below_grown BW5.out g6 (by omega) (by have := BW5.out.size; omega)
        have OKY6 : Hid (HA.Ok w.heap.size ⟨yp, .slice ya Y1.length yc, .slice yb Y2.length yd, Y1, Y2⟩ W6) := ⟨o6 _ _ _ _ (o5 _ _ _ _ OKY.out.1), o6 _ _ _ _ (o5 _ _ _ _ OKY.out.2)⟩
        have OKZ6 : Hid (HA.Ok w.heap.size ⟨zp, .slice za U1.length zc, .slice zb U2.length zd, U1, U2⟩ W6) := ⟨o6 _ _ _ _ (o5 _ _ _ _ OKZ.out.1), o6 _ _ _ _ (o5 _ _ _ _ OKZ.out.2)⟩
        refine anyC_one (i := 5) (by kernel_rfl) rfl (by rfl) (fun K4 hK4 => ?_)
        go_simp
        rw [← hW6]
        refine hK4 _ _ ⟨M06, M16⟩ ?_
        clear hK4 f0 f1 f2 ff X25 M05 M15 hW6 M06 M16 h5 h6 g5 g6 o5 o6 OKY OKZ BW4h BW5
        refine anyC_done (by kernel_rfl) ?_
        obtain ⟨c0, c1, c2⟩ := HBox.cells H56.out
        obtain ⟨c3, c4, c5⟩ := HBox.cells H66.out
        simp only at c0 c1 c2 c3 c4 c5
        have WR : Hid (_) := wrong_any [⟨yp, .slice ya Y1.length yc, .slice yb Y2.length yd, Y1, Y2⟩, ⟨zp, .slice za U1.length zc, .slice zb U2.length zd, U1, U2⟩] _ _ _ (haLow_two W6 _ _ (HA.Ok.low OKY6.out) (HA.Ok.low OKZ6.out)) (Nat.le_refl _) (fun q hq => by
          simp only [List.mem_cons, List.not_mem_nil, or_false] at hq
          rcases hq with rfl | rfl
          · exact FY.out
          · exact FZ.out) (by simp)
        simp only at WR
        have bN : Hid (Below W6.heap.size W6 _) := below_nw W6 (.cells #[.int .i64 yp, .slice ya Y1.length yc, .slice yb Y2.length yd, .int .i64 zp, .slice za U1.length zc, .slice zb U2.length zd] 41)
        gi_wp2_with fail
        refine ⟨trivial, ?_⟩
        refine (callsIn_wide.2 WR.out).mono ?_
        rintro e w7 ⟨rfl, b7⟩
        have b67 := below_then bN.out b7
        have HY7 : Hid (HBox w7 (w.heap.size + 1) ⟨yp, .slice ya Y1.length yc, .slice yb Y2.length yd, Y1, Y2⟩) := HBox.below H56.out b67
        have HZ7 : Hid (HBox w7 (w.heap.size + 1 + 1) ⟨zp, .slice za U1.length zc, .slice zb U2.length zd, U1, U2⟩) := HBox.below H66.out b67
        have BW7 : Hid (Below w.heap.size w w7) := below_then BW6.out b67
        have OY7 : Hid (HA.Ok w.heap.size ⟨yp, .slice ya Y1.length yc, .slice yb Y2.length yd, Y1, Y2⟩ w7) := HA.Ok.below OKY6.out b67
        have OZ7 : Hid (HA.Ok w.heap.size ⟨zp, .slice za U1.length zc, .slice zb U2.length zd, U1, U2⟩ w7) := HA.Ok.below OKZ6.out b67
        clear WR b7 b67 bN H56 H66 BW6 OKY6 OKZ6 c0 c1 c2 c3 c4 c5
        rw [wrongs_two, HY.out, HZ.out]
        cases hr : (Hn.right (Hn.moved A2.h d2) && Hn.right (Hn.moved B2.h e2)) with
        | false =>
          have HR : Hid (Hn.told (Hn.moved A2.h d2) (Hn.moved B2.h e2) = .error 130) := by
            show Hn.told (Hn.moved A2.h d2) (Hn.moved B2.h e2) = .error 130
            simp [Hn.told, hr]
          obtain ⟨f0, f1, f2, ff⟩ := hbox_facts HY7.out (.int .i64 0) (.slice none 0 0)
          obtain ⟨W8, hW8, h8, g8, -⟩ := hbox_put HY7.out zeroHA
          have X8 : HBox W8 (w.heap.size + 1 + 1) _ := HBox.grown HZ7.out g8 (by omega)
          have BW8 : Below w.heap.size w W8 := below_grown BW7.out g8 (by omega) BW7.out.size
          obtain ⟨f3, f4, f5, fg⟩ := hbox_facts X8 (.int .i64 0) (.slice none 0 0)
          obtain ⟨W9, hW9, h9, g9, -⟩ := hbox_put X8 zeroHA
          have X9 : HBox W9 (w.heap.size + 1) zeroHA := h8.grown g9 (by omega)
          have BW9 : Hid (Below w.heap.size w W9) := below_grown BW8 g9 (by omega) BW8.size
          simp only at f0 f1 f2 f3 f4 f5
          have hW9' := hW9
          simp only [zeroHA] at hW8 hW9
          rw [hW8] at hW9 f3 f4 f5 fg
          obtain ⟨c0, c1, c2⟩ := X9.cells
          obtain ⟨c3, c4, c5⟩ := h9.cells
          simp only [zeroHA] at c0 c1 c2 c3 c4 c5
          clear hr HY HZ hW9' g8 g9 X8 BW8 h8 h9 X9 hW8
          gi_wp2
          rw [← hW9]
          refine bodyPost_ret (v := .tuple #[.agg #[.int .i64 0, .slice none 0 0, .slice none 0 0], .agg #[.int .i64 0, .slice none 0 0, .slice none 0 0], .int .i64 130]) (by simp [results, Try.results51, go_sem, c0, c1, c2, c3, c4, c5]) rfl ?_
          rw [HR.out]
          exact ⟨zeroHA, zeroHA, 130, rfl, rfl, zeroHA_ok _ _, zeroHA_ok _ _, by decide, BW9.out⟩
        | true =>
          have HR : Hid (Hn.told (Hn.moved A2.h d2) (Hn.moved B2.h e2) = .ok (Hn.moved A2.h d2, Hn.moved B2.h e2)) := by
            show Hn.told (Hn.moved A2.h d2) (Hn.moved B2.h e2) = .ok (Hn.moved A2.h d2, Hn.moved B2.h e2)
            rw [Hn.told, if_pos hr]
          clear hr
          gi_wp2_with fail
          refine region_lex (fun W => HBox W (w.heap.size + 1) ⟨yp, .slice ya Y1.length yc, .slice yb Y2.length yd, Y1, Y2⟩ ∧ HBox W (w.heap.size + 1 + 1) ⟨zp, .slice za U1.length zc, .slice zb U2.length zd, U1, U2⟩) 2 3 rfl (by kernel_rfl) (by kernel_rfl) (by kernel_rfl) (by kernel_rfl) (fun _ _ d _ _ h => by cases d <;> exact h) ⟨HY7.out, HZ7.out⟩ ?_
          simp only [List.take_succ_cons, List.take_zero]
          apply lexC_want
          · rfl
          · exact fun _ => rfl
          · intro w' hw'; obtain ⟨q0, q1, q2⟩ := hw'.1.cells; go_simp; try rfl
          simp only [Act.put, List.setIfInBounds_toArray, List.set_cons_zero, List.set_cons_succ]
          apply lexC_want
          · rfl
          · exact fun _ => rfl
          · intro w' hw'; obtain ⟨q0, q1, q2⟩ := hw'.2.cells; go_simp; try rfl
          simp only [Act.put, List.setIfInBounds_toArray, List.set_cons_zero, List.set_cons_succ]
          refine lexC_nil ?_
          obtain ⟨V7, hV7⟩ : ∃ V, V = w7.drew := ⟨_, rfl⟩
          have Y7 : HBox V7 (w.heap.size + 1) ⟨yp, .slice ya Y1.length yc, .slice yb Y2.length yd, Y1, Y2⟩ := by rw [hV7]; exact HY7.out
          have Z7 : HBox V7 (w.heap.size + 1 + 1) ⟨zp, .slice za U1.length zc, .slice zb U2.length zd, U1, U2⟩ := by rw [hV7]; exact HZ7.out
          have BV7 : Below w.heap.size w V7 := by rw [hV7]; exact below_drewN BW7.out 1
          have OYV : HA.Ok w.heap.size ⟨yp, .slice ya Y1.length yc, .slice yb Y2.length yd, Y1, Y2⟩ V7 := by rw [hV7]; exact OY7.out
          have OZV : HA.Ok w.heap.size ⟨zp, .slice za U1.length zc, .slice zb U2.length zd, U1, U2⟩ V7 := by rw [hV7]; exact OZ7.out
          rw [← hV7]
          clear hV7
          obtain ⟨f0, f1, f2, ff⟩ := hbox_facts Y7 (.int .i64 yp) (.slice ya Y1.length yc)
          obtain ⟨W8, hW8, h8, g8, o8⟩ := hbox_put Y7 ⟨yp, .slice ya Y1.length yc, .slice yb Y2.length yd, Y1, Y2⟩
          have X8 : HBox W8 (w.heap.size + 1 + 1) _ := Z7.grown g8 (by omega)
          have BW8 : Below w.heap.size w W8 := below_grown BV7 g8 (by omega) BV7.size
          simp only at f0 f1 f2 hW8
          refine anyC_one (i := 2) (by kernel_rfl) rfl (by rfl) (fun K5 hK5 => ?_)
          go_simp
          rw [← hW8]
          refine hK5 _ _ ⟨h8, X8⟩ ?_
          clear hK5 f0 f1 f2 ff hW8
          obtain ⟨f0, f1, f2, ff⟩ := hbox_facts X8 (.int .i64 zp) (.slice za U1.length zc)
          obtain ⟨W9, hW9, h9, g9, o9⟩ := hbox_put X8 ⟨zp, .slice za U1.length zc, .slice zb U2.length zd, U1, U2⟩
          have X9 : HBox W9 (w.heap.size + 1) _ := h8.grown g9 (by omega)
          have BW9 : Below w.heap.size w W9 := below_grown BW8 g9 (by omega) BW8.size
          simp only at f0 f1 f2 hW9
          refine anyC_one (i := 3) (by kernel_rfl) rfl (by rfl) (fun K6 hK6 => ?_)
          go_simp
          rw [← hW9]
          refine hK6 _ _ ⟨X9, h9⟩ ?_
          clear hK6 f0 f1 f2 ff hW9
          refine anyC_one (i := 4) (by kernel_rfl) rfl (by rfl) (fun K7 hK7 => ?_)
          go_simp
          refine hK7 _ _ ⟨X9, h9⟩ ?_
          clear hK7
          refine anyC_done (by kernel_rfl) ?_
          obtain ⟨c0, c1, c2⟩ := X9.cells
          obtain ⟨c3, c4, c5⟩ := h9.cells
          simp only at c0 c1 c2 c3 c4 c5
          have HF : Hid (HA.Ok w.heap.size ⟨yp, .slice ya Y1.length yc, .slice yb Y2.length yd, Y1, Y2⟩ W9 ∧ HA.Ok w.heap.size ⟨zp, .slice za U1.length zc, .slice zb U2.length zd, U1, U2⟩ W9 ∧ Below w.heap.size w W9) := ⟨⟨o9 _ _ _ _ (o8 _ _ _ _ OYV.1), o9 _ _ _ _ (o8 _ _ _ _ OYV.2)⟩, ⟨o9 _ _ _ _ (o8 _ _ _ _ OZV.1), o9 _ _ _ _ (o8 _ _ _ _ OZV.2)⟩, BW9⟩
          clear X9 h9 X8 h8 g8 g9 o8 o9 BW8 BW9 Y7 Z7 BV7 OYV OZV
          gi_wp2
          refine bodyPost_ret (v := .tuple #[.agg #[.int .i64 yp, .slice ya Y1.length yc, .slice yb Y2.length yd], .agg #[.int .i64 zp, .slice za U1.length zc, .slice zb U2.length zd], .int .i64 0]) (by simp [results, Try.results51, go_sem, c0, c1, c2, c3, c4, c5]) rfl ?_
          rw [HR.out]
          refine ⟨_, _, 0, rfl, ?_, HF.out.1, HF.out.2.1, ND.out, HF.out.2.2⟩
          rw [HY.out, HZ.out]; rfl
    | 2, _ =>
      have hoo1 := ho1 (by omega)
      have hoo2 := ho2 (by omega)
      subst hoo1 hoo2
      obtain ⟨f0, f1, f2, ff⟩ := hbox_facts Z1.out (.int .i64 0) (.slice none 0 0)
      obtain ⟨W8, hW8, h8, g8, -⟩ := hbox_put Z1.out zeroHA
      have X8 : HBox W8 (w.heap.size + 1 + 1) _ := HBox.grown Z2.out g8 (by omega)
      have BW8 : Below w.heap.size w W8 := below_grown HB.out g8 (by omega) HB.out.size
      obtain ⟨f3, f4, f5, fg⟩ := hbox_facts X8 (.int .i64 0) (.slice none 0 0)
      obtain ⟨W9, hW9, h9, g9, -⟩ := hbox_put X8 zeroHA
      have X9 : HBox W9 (w.heap.size + 1) zeroHA := h8.grown g9 (by omega)
      have BW9 : Hid (Below w.heap.size w W9) := below_grown BW8 g9 (by omega) BW8.size
      simp only [zeroHA] at f0 f1 f2 f3 f4 f5
      simp only [zeroHA] at hW8 hW9
      rw [hW8] at hW9 f3 f4 f5 fg
      obtain ⟨c0, c1, c2⟩ := X9.cells
      obtain ⟨c3, c4, c5⟩ := h9.cells
      simp only [zeroHA] at c0 c1 c2 c3 c4 c5
      clear g8 g9 X8 BW8 h8 h9 X9 hW8 ho1 ho2
      gi_wp2
      rw [← hW9]
      refine bodyPost_ret (v := .tuple #[.agg #[.int .i64 0, .slice none 0 0, .slice none 0 0], .agg #[.int .i64 0, .slice none 0 0, .slice none 0 0], .int .i64 130]) (by simp [results, Try.results51, go_sem, c0, c1, c2, c3, c4, c5]) rfl ?_
      exact ⟨zeroHA, zeroHA, 130, rfl, rfl, zeroHA_ok _ _, zeroHA_ok _ _, by decide, BW9.out⟩

end Go.Proofs.Ytflnakjffgobmaa

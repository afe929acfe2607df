/-
  The walks of Binary and Unary.
-/
import Derived.Test.YtcnmgebjbaclaaaDoorVlReckon
namespace Go.Proofs.YtcnmgebjbaclaaaDoor
open Go.RowKit Go.Shelf Go.WideMaps
open Vl (V Res)

attribute [local go_sem] Oper.semAt_some

theorem VA.Low.shape {N : Nat} {w : World} {x : VA} (h : x.Low N w) : ∃ ao cap, x.vs = .slice ao x.r.length cap := by
  obtain ⟨⟨ao, cap, b, off, e, -⟩, -⟩ := h
  exact ⟨ao, cap, e⟩
set_option maxRecDepth 100000 in
theorem allRight_any (xs : List VA) (v : Value) (w : World) (hv : VsLow w.heap.size w v xs) (hl : xs.length ≤ 1000000000000000) :
    Calls Tryd.prog 51 #[fnV 11, v] w fun e w' => e = .returned (.bool (xs.all fun x => Vl.right x.v)) ∧ Below w.heap.size w w' :=
  all_any 11 Vl.right xs v w hv hl (fun _ _ => rfl) fun x hx W hW => by
    obtain ⟨ao, cap, e⟩ := (hv.2 x hx).shape
    rw [VA.val, e]
    exact right_any x.k x.n ao x.r cap (hv.2 x hx).2 W
set_option maxRecDepth 100000 in
theorem allInt_any (xs : List VA) (v : Value) (w : World) (hv : VsLow w.heap.size w v xs) (hl : xs.length ≤ 1000000000000000) :
    Calls Tryd.prog 51 #[fnV 43, v] w fun e w' => e = .returned (.bool (xs.all fun x => Vl.isInt x.v)) ∧ Below w.heap.size w w' :=
  all_any 43 Vl.isInt xs v w hv hl (fun _ _ => rfl) fun x _ W _ => isInt_any x.k x.n x.vs W
set_option maxRecDepth 100000 in
theorem allBool_any (xs : List VA) (v : Value) (w : World) (hv : VsLow w.heap.size w v xs) (hl : xs.length ≤ 1000000000000000) :
    Calls Tryd.prog 51 #[fnV 45, v] w fun e w' => e = .returned (.bool (xs.all fun x => Vl.isBool x.v)) ∧ Below w.heap.size w w' :=
  all_any 45 Vl.isBool xs v w hv hl (fun _ _ => rfl) fun x _ W _ => isBool_any x.k x.n x.vs W
/-- Operands in a row of their own. -/
structure Row2 (w : World) (rb : Nat) (a b : VA) : Prop where
  cells : ∀ j u, (vaCells [a, b])[j]? = some u → w.cell? ⟨rb, j, none⟩ = some u
  lt : rb < w.heap.size
  la : a.Low w.heap.size w
  lb : b.Low w.heap.size w
theorem Row2.at {w W : World} {rb : Nat} {a b : VA} (h : Row2 w rb a b) (hb : Below w.heap.size w W) : Row2 W rb a b :=
  ⟨fun j u hu => cell_some_below (h.cells j u hu) hb, Nat.lt_of_lt_of_le h.lt hb.size, h.la.at hb, h.lb.at hb⟩
theorem Row2.low {w : World} {rb cap : Nat} {a b : VA} (h : Row2 w rb a b) (hc : 2 ≤ cap) : VsLow w.heap.size w (.slice (some ⟨rb, 0, none⟩) 2 cap) [a, b] :=
  ⟨⟨_, cap, rb, 0, rfl, ⟨hc, fun e => by cases e⟩, fun _ => ⟨rfl, h.lt⟩, fun j x hj => by rw [Nat.zero_add]; exact h.cells j x hj⟩, fun x hx => by
    rcases List.mem_cons.1 hx with rfl | hx
    · exact h.la
    · rw [List.mem_singleton] at hx; subst hx; exact h.lb⟩

set_option maxRecDepth 100000 in
theorem reckonedBin_any (q : List UInt8) (hq : q.length ≤ 1000000) (a b : VA) (w0 w : World) (B m rb cap : Nat) (hc : 2 ≤ cap) (hO : OI B w0 w m binE) (hr : Row2 w rb a b) :
    Calls Tryd.prog 34 #[.map (some m), .string (Ln.bs q), .slice (some ⟨rb, 0, none⟩) 2 cap] w fun e w' => RTold (Vl.bin q a.v b.v) e ∧ Below w.heap.size w w' := by
  have hR := fun W (hW : Below w.heap.size w W) => allRight_any [a, b] _ W ((hr.at hW).low hc) (by simp)
  have hI := fun W (hW : Below w.heap.size w W) => allInt_any [a, b] _ W ((hr.at hW).low hc) (by simp)
  have hB := fun W (hW : Below w.heap.size w W) => allBool_any [a, b] _ W ((hr.at hW).low hc) (by simp)
  by_cases h0 : q = [124, 124]
  · subst h0
    obtain ⟨fb, hl, hf⟩ : ∃ fb, (∀ W, Below w.heap.size w W → (Instr.lookup 54 (.map (some m)) (.string (Ln.bs [124, 124])) true).run Tryd.prog W = .ok (.tuple #[opV 45 80 fb, .bool true]) W) ∧ w.cell? ⟨fb, 0, none⟩ = some (fnV 57) := hO.look [124, 124] hq
    exact reckoned_box 45 80 fb m true _ ([a, b].all fun x => Vl.isBool x.v) (Vl.makes 0 a.v b.v) _ _ w (fun _ _ => rfl) hl hR (fun _ _ => hB) (fun _ _ _ W hW =>
      judges1_any 57 fb rb cap a b (Vl.judge 0 a.v b.v) W (cell_some_below hf hW) (fun _ _ => rfl) (hr.at hW).cells fun W2 hW2 => judge0_any W2 a.val b.val a.v b.v ((hr.at (below_then hW hW2)).la.vat) ((hr.at (below_then hW hW2)).lb.vat) hr.la.2 hr.lb.2)
  by_cases h1 : q = [38, 38]
  · subst h1
    obtain ⟨fb, hl, hf⟩ : ∃ fb, (∀ W, Below w.heap.size w W → (Instr.lookup 54 (.map (some m)) (.string (Ln.bs [38, 38])) true).run Tryd.prog W = .ok (.tuple #[opV 45 80 fb, .bool true]) W) ∧ w.cell? ⟨fb, 0, none⟩ = some (fnV 58) := hO.look [38, 38] hq
    exact reckoned_box 45 80 fb m true _ ([a, b].all fun x => Vl.isBool x.v) (Vl.makes 1 a.v b.v) _ _ w (fun _ _ => rfl) hl hR (fun _ _ => hB) (fun _ _ _ W hW =>
      judges1_any 58 fb rb cap a b (Vl.judge 1 a.v b.v) W (cell_some_below hf hW) (fun _ _ => rfl) (hr.at hW).cells fun W2 hW2 => judge1_any W2 a.val b.val a.v b.v ((hr.at (below_then hW hW2)).la.vat) ((hr.at (below_then hW hW2)).lb.vat) hr.la.2 hr.lb.2)
  by_cases h2 : q = [61, 61]
  · subst h2
    obtain ⟨fb, hl, hf⟩ : ∃ fb, (∀ W, Below w.heap.size w W → (Instr.lookup 54 (.map (some m)) (.string (Ln.bs [61, 61])) true).run Tryd.prog W = .ok (.tuple #[opV 11 80 fb, .bool true]) W) ∧ w.cell? ⟨fb, 0, none⟩ = some (fnV 59) := hO.look [61, 61] hq
    exact reckoned_box 11 80 fb m true _ true (Vl.makes 2 a.v b.v) _ _ w (fun _ _ => rfl) hl hR (fun _ hrr W hW => by rw [← hrr]; exact hR W hW) (fun _ _ _ W hW =>
      judges1_any 59 fb rb cap a b (Vl.judge 2 a.v b.v) W (cell_some_below hf hW) (fun _ _ => rfl) (hr.at hW).cells fun W2 hW2 => judge2_any W2 a.val b.val a.v b.v ((hr.at (below_then hW hW2)).la.vat) ((hr.at (below_then hW hW2)).lb.vat) hr.la.2 hr.lb.2)
  by_cases h3 : q = [33, 61]
  · subst h3
    obtain ⟨fb, hl, hf⟩ : ∃ fb, (∀ W, Below w.heap.size w W → (Instr.lookup 54 (.map (some m)) (.string (Ln.bs [33, 61])) true).run Tryd.prog W = .ok (.tuple #[opV 11 80 fb, .bool true]) W) ∧ w.cell? ⟨fb, 0, none⟩ = some (fnV 60) := hO.look [33, 61] hq
    exact reckoned_box 11 80 fb m true _ true (Vl.makes 3 a.v b.v) _ _ w (fun _ _ => rfl) hl hR (fun _ hrr W hW => by rw [← hrr]; exact hR W hW) (fun _ _ _ W hW =>
      judges1_any 60 fb rb cap a b (Vl.judge 3 a.v b.v) W (cell_some_below hf hW) (fun _ _ => rfl) (hr.at hW).cells fun W2 hW2 => judge3_any W2 a.val b.val a.v b.v ((hr.at (below_then hW hW2)).la.vat) ((hr.at (below_then hW hW2)).lb.vat) hr.la.2 hr.lb.2)
  by_cases h4 : q = [60]
  · subst h4
    obtain ⟨fb, hl, hf⟩ : ∃ fb, (∀ W, Below w.heap.size w W → (Instr.lookup 54 (.map (some m)) (.string (Ln.bs [60])) true).run Tryd.prog W = .ok (.tuple #[opV 43 80 fb, .bool true]) W) ∧ w.cell? ⟨fb, 0, none⟩ = some (fnV 61) := hO.look [60] hq
    exact reckoned_box 43 80 fb m true _ ([a, b].all fun x => Vl.isInt x.v) (Vl.makes 4 a.v b.v) _ _ w (fun _ _ => rfl) hl hR (fun _ _ => hI) (fun _ _ _ W hW =>
      judges1_any 61 fb rb cap a b (Vl.judge 4 a.v b.v) W (cell_some_below hf hW) (fun _ _ => rfl) (hr.at hW).cells fun W2 hW2 => judge4_any W2 a.val b.val a.v b.v ((hr.at (below_then hW hW2)).la.vat) ((hr.at (below_then hW hW2)).lb.vat) hr.la.2 hr.lb.2)
  by_cases h5 : q = [60, 61]
  · subst h5
    obtain ⟨fb, hl, hf⟩ : ∃ fb, (∀ W, Below w.heap.size w W → (Instr.lookup 54 (.map (some m)) (.string (Ln.bs [60, 61])) true).run Tryd.prog W = .ok (.tuple #[opV 43 80 fb, .bool true]) W) ∧ w.cell? ⟨fb, 0, none⟩ = some (fnV 62) := hO.look [60, 61] hq
    exact reckoned_box 43 80 fb m true _ ([a, b].all fun x => Vl.isInt x.v) (Vl.makes 5 a.v b.v) _ _ w (fun _ _ => rfl) hl hR (fun _ _ => hI) (fun _ _ _ W hW =>
      judges1_any 62 fb rb cap a b (Vl.judge 5 a.v b.v) W (cell_some_below hf hW) (fun _ _ => rfl) (hr.at hW).cells fun W2 hW2 => judge5_any W2 a.val b.val a.v b.v ((hr.at (below_then hW hW2)).la.vat) ((hr.at (below_then hW hW2)).lb.vat) hr.la.2 hr.lb.2)
  by_cases h6 : q = [62]
  · subst h6
    obtain ⟨fb, hl, hf⟩ : ∃ fb, (∀ W, Below w.heap.size w W → (Instr.lookup 54 (.map (some m)) (.string (Ln.bs [62])) true).run Tryd.prog W = .ok (.tuple #[opV 43 80 fb, .bool true]) W) ∧ w.cell? ⟨fb, 0, none⟩ = some (fnV 63) := hO.look [62] hq
    exact reckoned_box 43 80 fb m true _ ([a, b].all fun x => Vl.isInt x.v) (Vl.makes 6 a.v b.v) _ _ w (fun _ _ => rfl) hl hR (fun _ _ => hI) (fun _ _ _ W hW =>
      judges1_any 63 fb rb cap a b (Vl.judge 6 a.v b.v) W (cell_some_below hf hW) (fun _ _ => rfl) (hr.at hW).cells fun W2 hW2 => judge6_any W2 a.val b.val a.v b.v ((hr.at (below_then hW hW2)).la.vat) ((hr.at (below_then hW hW2)).lb.vat) hr.la.2 hr.lb.2)
  by_cases h7 : q = [62, 61]
  · subst h7
    obtain ⟨fb, hl, hf⟩ : ∃ fb, (∀ W, Below w.heap.size w W → (Instr.lookup 54 (.map (some m)) (.string (Ln.bs [62, 61])) true).run Tryd.prog W = .ok (.tuple #[opV 43 80 fb, .bool true]) W) ∧ w.cell? ⟨fb, 0, none⟩ = some (fnV 64) := hO.look [62, 61] hq
    exact reckoned_box 43 80 fb m true _ ([a, b].all fun x => Vl.isInt x.v) (Vl.makes 7 a.v b.v) _ _ w (fun _ _ => rfl) hl hR (fun _ _ => hI) (fun _ _ _ W hW =>
      judges1_any 64 fb rb cap a b (Vl.judge 7 a.v b.v) W (cell_some_below hf hW) (fun _ _ => rfl) (hr.at hW).cells fun W2 hW2 => judge7_any W2 a.val b.val a.v b.v ((hr.at (below_then hW hW2)).la.vat) ((hr.at (below_then hW hW2)).lb.vat) hr.la.2 hr.lb.2)
  by_cases h8 : q = [43]
  · subst h8
    obtain ⟨fb, hl, hf⟩ : ∃ fb, (∀ W, Below w.heap.size w W → (Instr.lookup 54 (.map (some m)) (.string (Ln.bs [43])) true).run Tryd.prog W = .ok (.tuple #[opV 43 82 fb, .bool true]) W) ∧ w.cell? ⟨fb, 0, none⟩ = some (fnV 66) := hO.look [43] hq
    exact reckoned_box 43 82 fb m true _ ([a, b].all fun x => Vl.isInt x.v) (Vl.makes 8 a.v b.v) _ _ w (fun _ _ => rfl) hl hR (fun _ _ => hI) (fun _ _ _ W hW =>
      counts1_any 66 fb rb cap a b _ W (cell_some_below hf hW) (fun _ _ => rfl) (hr.at hW).cells fun W2 hW2 => count8_any a.n b.n W2)
  by_cases h9 : q = [45]
  · subst h9
    obtain ⟨fb, hl, hf⟩ : ∃ fb, (∀ W, Below w.heap.size w W → (Instr.lookup 54 (.map (some m)) (.string (Ln.bs [45])) true).run Tryd.prog W = .ok (.tuple #[opV 43 82 fb, .bool true]) W) ∧ w.cell? ⟨fb, 0, none⟩ = some (fnV 67) := hO.look [45] hq
    exact reckoned_box 43 82 fb m true _ ([a, b].all fun x => Vl.isInt x.v) (Vl.makes 9 a.v b.v) _ _ w (fun _ _ => rfl) hl hR (fun _ _ => hI) (fun _ _ _ W hW =>
      counts1_any 67 fb rb cap a b _ W (cell_some_below hf hW) (fun _ _ => rfl) (hr.at hW).cells fun W2 hW2 => count9_any a.n b.n W2)
  by_cases h10 : q = [42]
  · subst h10
    obtain ⟨fb, hl, hf⟩ : ∃ fb, (∀ W, Below w.heap.size w W → (Instr.lookup 54 (.map (some m)) (.string (Ln.bs [42])) true).run Tryd.prog W = .ok (.tuple #[opV 43 82 fb, .bool true]) W) ∧ w.cell? ⟨fb, 0, none⟩ = some (fnV 68) := hO.look [42] hq
    exact reckoned_box 43 82 fb m true _ ([a, b].all fun x => Vl.isInt x.v) (Vl.makes 10 a.v b.v) _ _ w (fun _ _ => rfl) hl hR (fun _ _ => hI) (fun _ _ _ W hW =>
      counts1_any 68 fb rb cap a b _ W (cell_some_below hf hW) (fun _ _ => rfl) (hr.at hW).cells fun W2 hW2 => count10_any a.n b.n W2)
  by_cases h11 : q = [47]
  · subst h11
    obtain ⟨fb, hl, hf⟩ : ∃ fb, (∀ W, Below w.heap.size w W → (Instr.lookup 54 (.map (some m)) (.string (Ln.bs [47])) true).run Tryd.prog W = .ok (.tuple #[opV 43 82 fb, .bool true]) W) ∧ w.cell? ⟨fb, 0, none⟩ = some (fnV 69) := hO.look [47] hq
    by_cases hz : b.n = 0
    · have hm : Vl.makes 11 a.v b.v = .err 202 := if_pos hz
      refine reckoned_box 43 82 fb m true _ ([a, b].all fun x => Vl.isInt x.v) (Vl.makes 11 a.v b.v) _ _ w (fun _ _ => rfl) hl hR (fun _ _ => hI) (fun _ _ _ W hW => ?_)
      rw [hm]
      exact counts1_no 69 fb rb cap a b 202 W (cell_some_below hf hW) (fun _ _ => rfl) (hr.at hW).cells fun W2 hW2 => by rw [hz]; exact count11_no a.n W2
    · have hm : Vl.makes 11 a.v b.v = .int (Vl.wrap (a.n.tdiv b.n)) := if_neg hz
      refine reckoned_box 43 82 fb m true _ ([a, b].all fun x => Vl.isInt x.v) (Vl.makes 11 a.v b.v) _ _ w (fun _ _ => rfl) hl hR (fun _ _ => hI) (fun _ _ _ W hW => ?_)
      rw [hm]
      exact counts1_any 69 fb rb cap a b _ W (cell_some_below hf hW) (fun _ _ => rfl) (hr.at hW).cells fun W2 hW2 => count11_any a.n b.n hz W2
  by_cases h12 : q = [37]
  · subst h12
    obtain ⟨fb, hl, hf⟩ : ∃ fb, (∀ W, Below w.heap.size w W → (Instr.lookup 54 (.map (some m)) (.string (Ln.bs [37])) true).run Tryd.prog W = .ok (.tuple #[opV 43 82 fb, .bool true]) W) ∧ w.cell? ⟨fb, 0, none⟩ = some (fnV 71) := hO.look [37] hq
    by_cases hz : b.n = 0
    · have hm : Vl.makes 12 a.v b.v = .err 202 := if_pos hz
      refine reckoned_box 43 82 fb m true _ ([a, b].all fun x => Vl.isInt x.v) (Vl.makes 12 a.v b.v) _ _ w (fun _ _ => rfl) hl hR (fun _ _ => hI) (fun _ _ _ W hW => ?_)
      rw [hm]
      exact counts1_no 71 fb rb cap a b 202 W (cell_some_below hf hW) (fun _ _ => rfl) (hr.at hW).cells fun W2 hW2 => by rw [hz]; exact count12_no a.n W2
    · have hm : Vl.makes 12 a.v b.v = .int (a.n.tmod b.n) := if_neg hz
      refine reckoned_box 43 82 fb m true _ ([a, b].all fun x => Vl.isInt x.v) (Vl.makes 12 a.v b.v) _ _ w (fun _ _ => rfl) hl hR (fun _ _ => hI) (fun _ _ _ W hW => ?_)
      rw [hm]
      exact counts1_any 71 fb rb cap a b _ W (cell_some_below hf hW) (fun _ _ => rfl) (hr.at hW).cells fun W2 hW2 => count12_any a.n b.n hz W2
  have hn : findE binE q = none := by
    simp only [binE, findE]
    rw [if_neg (fun e => h12 e.symm), if_neg (fun e => h11 e.symm), if_neg (fun e => h10 e.symm), if_neg (fun e => h9 e.symm), if_neg (fun e => h8 e.symm), if_neg (fun e => h7 e.symm), if_neg (fun e => h6 e.symm), if_neg (fun e => h5 e.symm), if_neg (fun e => h4 e.symm), if_neg (fun e => h3 e.symm), if_neg (fun e => h2 e.symm), if_neg (fun e => h1 e.symm), if_neg (fun e => h0 e.symm)]
  have ho : Vl.opOf q = 13 := by
    simp only [Vl.opOf, Vl.signs, Vl.place]
    rw [if_neg (fun e => h0 e.symm), if_neg (fun e => h1 e.symm), if_neg (fun e => h2 e.symm), if_neg (fun e => h3 e.symm), if_neg (fun e => h4 e.symm), if_neg (fun e => h5 e.symm), if_neg (fun e => h6 e.symm), if_neg (fun e => h7 e.symm), if_neg (fun e => h8 e.symm), if_neg (fun e => h9 e.symm), if_neg (fun e => h10 e.symm), if_neg (fun e => h11 e.symm), if_neg (fun e => h12 e.symm)]
  have hl := hO.look q hq
  rw [hn] at hl
  have hb2 : Vl.bin q a.v b.v = .err 2 := by unfold Vl.bin; rw [ho]; rfl
  rw [hb2]
  exact reckoned_box 43 43 0 m false _ true (.err 2) _ _ w (fun _ _ => rfl) hl hR (fun h => by cases h) (fun h => by cases h)

structure Row1 (w : World) (rb : Nat) (a : VA) : Prop where
  cells : ∀ j u, (vaCells [a])[j]? = some u → w.cell? ⟨rb, j, none⟩ = some u
  lt : rb < w.heap.size
  la : a.Low w.heap.size w
theorem Row1.at {w W : World} {rb : Nat} {a : VA} (h : Row1 w rb a) (hb : Below w.heap.size w W) : Row1 W rb a :=
  ⟨fun j u hu => cell_some_below (h.cells j u hu) hb, Nat.lt_of_lt_of_le h.lt hb.size, h.la.at hb⟩
theorem Row1.low {w : World} {rb cap : Nat} {a : VA} (h : Row1 w rb a) (hc : 1 ≤ cap) : VsLow w.heap.size w (.slice (some ⟨rb, 0, none⟩) 1 cap) [a] :=
  ⟨⟨_, cap, rb, 0, rfl, ⟨hc, fun e => by cases e⟩, fun _ => ⟨rfl, h.lt⟩, fun j x hj => by rw [Nat.zero_add]; exact h.cells j x hj⟩, fun x hx => by
    rw [List.mem_singleton] at hx; subst hx; exact h.la⟩
set_option maxRecDepth 100000 in
theorem reckonedUn_any (q : List UInt8) (hq : q.length ≤ 1000000) (a : VA) (w : World) (m rb cap : Nat) (hc : 1 ≤ cap) (hO : OpsAt w m unL) (hr : Row1 w rb a) :
    Calls Tryd.prog 34 #[.map (some m), .string (Ln.bs q), .slice (some ⟨rb, 0, none⟩) 1 cap] w fun e w' => RTold (Vl.un q a.v) e ∧ Below w.heap.size w w' := by
  have hR := fun W (hW : Below w.heap.size w W) => allRight_any [a] _ W ((hr.at hW).low hc) (by simp)
  have hI := fun W (hW : Below w.heap.size w W) => allInt_any [a] _ W ((hr.at hW).low hc) (by simp)
  have hB := fun W (hW : Below w.heap.size w W) => allBool_any [a] _ W ((hr.at hW).low hc) (by simp)
  have hl := fun W (hW : Below w.heap.size w W) => (hO.at hW).look q hq
  by_cases h0 : q = [45]
  · subst h0
    exact reckoned_plain 43 52 m true _ ([a].all fun x => Vl.isInt x.v) (.int (Vl.wrap (-a.n))) _ _ w (fun _ _ => rfl) hl hR (fun _ _ => hI) (fun _ _ _ W hW => unary1_any rb cap a W (hr.at hW).cells)
  by_cases h1 : q = [33]
  · subst h1
    exact reckoned_plain 45 54 m true _ ([a].all fun x => Vl.isBool x.v) (.bool (a.n == 0)) _ _ w (fun _ _ => rfl) hl hR (fun _ _ => hB) (fun _ _ _ W hW => unary2_any rb cap a W (hr.at hW).cells)
  have hn : findOp unL q = none := by
    simp only [unL, findOp]
    rw [if_neg (fun e => h1 e.symm), if_neg (fun e => h0 e.symm)]
  have ho : Vl.unOf q = 2 := by
    simp only [Vl.unOf, Vl.place]
    rw [if_neg (fun e => h0 e.symm), if_neg (fun e => h1 e.symm)]
  rw [hn] at hl
  have hb2 : Vl.un q a.v = .err 2 := by unfold Vl.un; rw [ho]; rfl
  rw [hb2]
  exact reckoned_plain 43 43 m false _ true (.err 2) _ _ w (fun _ _ => rfl) hl hR (fun h => by cases h) (fun h => by cases h)

theorem row_of {w : World} {xs : List VA} {rb : Nat} (h : w.heap[rb]? = some (.cells (vaCells xs).toArray 25 (0, 0))) : ∀ j u, (vaCells xs)[j]? = some u → w.cell? ⟨rb, j, none⟩ = some u := fun j u hu => vcells_at h (by simpa using hu)
/-- The result's variable, written and told. -/
theorem rdoor {W : World} {n : Nat} {x0 x1 x2 : Value} (d0 : W.heap[n]? = some (.cells #[x0, x1, x2] 25 (0, 0))) (a b c : Value) :
    (∀ j, W.frozen? ⟨n, j, none⟩ = false) ∧ W.cell? ⟨n, 0, none⟩ = some x0 ∧ W.cell? ⟨n, 1, none⟩ = some x1 ∧ W.cell? ⟨n, 2, none⟩ = some x2 ∧
    ∃ Q, Q = (((W.setCell ⟨n, 0, none⟩ a).setCell ⟨n, 1, none⟩ b).setCell ⟨n, 2, none⟩ c) ∧ Q.cell? ⟨n, 0, none⟩ = some a ∧ Q.cell? ⟨n, 1, none⟩ = some b ∧ Q.cell? ⟨n, 2, none⟩ = some c ∧ Below n W Q := by
  obtain ⟨Q, hQ, hq, hbq⟩ := store_value d0 (Nat.le_refl _) a b c
  exact ⟨fun j => frozen_of_row _ _ j _ _ d0, vcells_at d0 rfl, vcells_at d0 rfl, vcells_at d0 rfl, Q, hQ, vcells_at hq rfl, vcells_at hq rfl, vcells_at hq rfl, hbq⟩
set_option maxRecDepth 100000 in
set_option maxHeartbeats 8000000 in
theorem unary_any (q : List UInt8) (hq : q.length ≤ 1000000) (a : VA) (w : World) (ha : a.Low w.heap.size w) :
    Calls Tryd.prog 22 #[.string (Ln.bs q), a.val] w fun e w' => RTold (Vl.un q a.v) e ∧ Below w.heap.size w w' := by
  obtain ⟨V0, hV0⟩ : ∃ V, V = w.alloc (.cells #[.int .u8 a.k, .int .i64 a.n, a.vs] 25) := ⟨_, rfl⟩
  have b0 : Below w.heap.size w V0 := hV0 ▸ below_new w _
  have s0 : V0.heap.size = w.heap.size + 1 := by rw [hV0, World.size_alloc]
  obtain ⟨V, hV⟩ : ∃ V, V = V0.alloc (.cells #[.int .u8 0, .int .i64 0, .slice none 0 0] 25) := ⟨_, rfl⟩
  have bb : Below V0.heap.size V0 V := hV ▸ below_new V0 _
  have sV : V.heap.size = V0.heap.size + 1 := by rw [hV, World.size_alloc]
  have bV : Below w.heap.size w V := below_then b0 bb
  have n0 : V.heap[w.heap.size]? = some (.cells #[.int .u8 a.k, .int .i64 a.n, a.vs] 25 (0, 0)) := (bb.block _ (by omega)).trans <| (by rw [hV0]; exact World.alloc_heap_new w _)
  have nr : V.heap[w.heap.size + 1]? = some (.cells #[.int .u8 0, .int .i64 0, .slice none 0 0] 25 (0, 0)) := by rw [hV, ← s0]; exact World.alloc_heap_new V0 _
  have HF : Hid (∀ (Y : World) (m rb : Nat), OpsAt Y m unL → Below V.heap.size V Y → Y.heap[rb]? = some (.cells #[.int .u8 a.k, .int .i64 a.n, a.vs] 25 (0, 0)) →
      Calls Tryd.prog 34 #[.map (some m), .string (Ln.bs q), .slice (some ⟨rb, 0, none⟩) 1 1] Y fun e w' => RTold (Vl.un q a.v) e ∧ Below V.heap.size V w') := by
    intro Y m rb ho hY hrow
    have bw := below_then bV hY
    refine (reckonedUn_any q hq a Y m rb 1 (Nat.le_refl _) ho ⟨row_of hrow, (Array.getElem?_eq_some_iff.1 hrow).1, ha.at bw⟩).mono ?_
    rintro e w' ⟨h2, h3⟩
    exact ⟨h2, below_then hY h3⟩
  have HC : Hid (∀ W, Below V.heap.size V W → (fun z => Below w.heap.size w z ∧ z.heap[w.heap.size]? = some (.cells #[.int .u8 a.k, .int .i64 a.n, a.vs] 25 (0, 0))) W) := fun W hW => ⟨below_then bV hW, (hW.block _ (by omega)).trans n0⟩
  have HN : Hid (∀ W, Below V.heap.size V W → W.heap[w.heap.size + 1]? = some (.cells #[.int .u8 0, .int .i64 0, .slice none 0 0] 25 (0, 0))) := fun W hW => (hW.block _ (by omega)).trans nr
  have HE : Hid (∃ z, z = Vl.un q a.v) := ⟨_, rfl⟩
  have HBV : Hid (Below w.heap.size w V ∧ w.heap.size + 1 < V.heap.size) := ⟨bV, by omega⟩
  have HU : Hid (_) := unaries_any
  have hVV : V = (w.alloc (.cells #[.int .u8 a.k, .int .i64 a.n, a.vs] 25)).alloc (.cells #[.int .u8 0, .int .i64 0, .slice none 0 0] 25) := by rw [hV, hV0]
  obtain ⟨ak, an, av, ar⟩ := a
  simp only [VA.val] at hVV HF HC ⊢
  obtain ⟨z, hz⟩ := HE.out
  rw [← hz] at HF
  rw [← hz]
  clear hz HE bV sV nr bb hV n0 s0 b0 hV0 ha
  refine (callsIn_wide (n := 3)).1 ?_
  refine callsIn_of_wp Tryd.func22 rfl trivial ?_ rfl
  simp only [Tryd.ntmps22, List.size_toArray, List.length_cons, List.length_nil, Nat.reduceAdd, Nat.reduceSub, Array.replicate_succ, Array.replicate_zero, List.push_toArray, List.append_toArray, List.nil_append, List.cons_append]
  gi_wp2
  rw [← hVV]
  clear hVV
  have hVd := below_draw V 1
  have hVd' : Below V.heap.size V V.drew := hVd
  refine region_lex (fun z => Below w.heap.size w z ∧ z.heap[w.heap.size]? = some (.cells #[.int .u8 ak, .int .i64 an, av] 25 (0, 0))) 0 9 rfl (by kernel_rfl) (by kernel_rfl) (by kernel_rfl) (by kernel_rfl) (fun _ _ d _ _ h => by cases d <;> exact h) (HC.out _ hVd') ?_
  refine lexC_nil ?_
  refine anyC_take (i := 1) (v := .string (Ln.bs q)) rfl rfl (by kernel_rfl) (by kernel_rfl) (by kernel_rfl) (fun _ _ d _ _ h => by cases d <;> exact h) (HC.out _ hVd') (by rfl) (fun _ => rfl) (by intro w' hw'; go_simp; try rfl) ?_
  refine anyC_take (i := 2) (v := .agg #[.int .u8 ak, .int .i64 an, av]) rfl rfl (by kernel_rfl) (by kernel_rfl) (by kernel_rfl) (fun _ _ d _ _ h => by cases d <;> exact h) (HC.out _ hVd') (by rfl) (fun _ => rfl) (by intro w' hw'; have f0 := vcells_at hw'.2 (o := 0) rfl; have f1 := vcells_at hw'.2 (o := 1) rfl; have f2 := vcells_at hw'.2 (o := 2) rfl; go_simp; try rfl) ?_
  refine anyC_two (i := 0) (j := 3) (by kernel_rfl) rfl rfl (by rfl) (by rfl) (fun K1 hK1 => ?_) (fun K1 hK1 => ?_)
  · go_simp
    refine ⟨trivial, ?_⟩
    refine (callsIn_wide.2 (HU.out V.drew)).mono ?_
    rintro e w1 ⟨m, rfl, ho, hb1⟩
    have hvw : Below V.heap.size V w1 := below_then hVd' hb1
    refine hK1 _ _ (HC.out _ hvw) ?_
    refine anyC_one (i := 3) (by kernel_rfl) rfl (by rfl) (fun K2 hK2 => ?_)
    obtain ⟨Y, hY⟩ : ∃ Y, Y = w1.alloc (.cells #[.int .u8 ak, .int .i64 an, av] 25) := ⟨_, rfl⟩
    have hbY : Below w1.heap.size w1 Y := hY ▸ below_new w1 _
    have hrow : Y.heap[w1.heap.size]? = some (.cells #[.int .u8 ak, .int .i64 an, av] 25 (0, 0)) := by rw [hY]; exact World.alloc_heap_new w1 _
    have hVY : Below V.heap.size V Y := below_then hvw hbY
    have HRC : Hid (_) := HF.out Y m w1.heap.size (ho.at hbY) hVY hrow
    clear ho hbY hrow hb1
    go_simp
    rw [← hY]
    clear hY
    refine hK2 _ _ (HC.out _ hVY) ?_
    refine anyC_one (i := 4) (by kernel_rfl) rfl (by rfl) (fun K3 hK3 => ?_)
    go_simp
    refine ⟨trivial, ?_⟩
    refine (callsIn_wide.2 HRC.out).mono ?_
    rintro e w2 ⟨he, hb2⟩
    unfold RTold at he
    subst he
    refine hK3 _ _ (HC.out _ hb2) ?_
    refine anyC_take (i := 5) (v := vV z.k z.n nilV) rfl rfl (by kernel_rfl) (by kernel_rfl) (by kernel_rfl) (fun _ _ d _ _ h => by cases d <;> exact h) (HC.out _ hb2) (by rfl) (fun _ => rfl) (by intro w' hw'; go_simp; try rfl) ?_
    refine anyC_take (i := 6) (v := .int .i64 z.e) rfl rfl (by kernel_rfl) (by kernel_rfl) (by kernel_rfl) (fun _ _ d _ _ h => by cases d <;> exact h) (HC.out _ hb2) (by rfl) (fun _ => rfl) (by intro w' hw'; go_simp; try rfl) ?_
    refine anyC_one (i := 7) (by kernel_rfl) rfl (by rfl) (fun K4 hK4 => ?_)
    obtain ⟨zf, d0, d1, d2, Q, hQ, e0, e1, e2, hb3⟩ := rdoor (HN.out _ hb2) (.int .u8 z.k) (.int .i64 z.n) (.slice none 0 0)
    have hwb : Below w.heap.size w Q := (HC.out _ hb2).1.trans (hb3.mono (by omega))
    have HQ : Hid (Below w.heap.size w Q ∧ Q.heap[w.heap.size]? = some (.cells #[.int .u8 ak, .int .i64 an, av] 25 (0, 0))) := ⟨hwb, (hb3.block _ (by omega)).trans (HC.out _ hb2).2⟩
    clear hwb hb3
    go_simp
    rw [← hQ]
    clear hQ d0 d1 d2 zf
    refine hK4 _ _ HQ.out ?_
    refine anyC_one (i := 8) (by kernel_rfl) rfl (by rfl) (fun K5 hK5 => ?_)
    go_simp
    refine hK5 _ _ HQ.out ?_
    refine anyC_done (by kernel_rfl) ?_
    clear hb2
    gi_wp2
    refine bodyPost_ret (v := .tuple #[vV z.k z.n nilV, .int .i64 z.e]) ?_ rfl ⟨rfl, HQ.out.1⟩
    simp [results, Tryd.results22, go_sem, e0, e1, e2]
  · obtain ⟨Y, hY⟩ : ∃ Y, Y = (V.alloc (.cells #[.int .u8 ak, .int .i64 an, av] 25)).drew := ⟨_, rfl⟩
    have hbY : Below V.heap.size V Y := hY ▸ below_then (below_new V _) (below_draw _ 1)
    have hrow : Y.heap[V.heap.size]? = some (.cells #[.int .u8 ak, .int .i64 an, av] 25 (0, 0)) := by rw [hY]; exact World.alloc_heap_new V _
    have hVY : Below V.heap.size V Y := hbY
    have HRW : Hid (_) := hrow
    clear hbY hrow
    go_simp
    rw [← hY]
    clear hY
    refine hK1 _ _ (HC.out _ hVY) ?_
    refine anyC_one (i := 0) (by kernel_rfl) rfl (by rfl) (fun K2 hK2 => ?_)
    go_simp
    refine ⟨trivial, ?_⟩
    refine (callsIn_wide.2 (HU.out Y)).mono ?_
    rintro e w1 ⟨m, rfl, ho, hb1⟩
    have hvw : Below V.heap.size V w1 := below_then hVY hb1
    have HRC : Hid (_) := HF.out w1 m V.heap.size (ho) hvw ((hb1.block _ (Array.getElem?_eq_some_iff.1 HRW.out).1).trans HRW.out)
    clear ho hb1 HRW
    refine hK2 _ _ (HC.out _ hvw) ?_
    refine anyC_one (i := 4) (by kernel_rfl) rfl (by rfl) (fun K3 hK3 => ?_)
    go_simp
    refine ⟨trivial, ?_⟩
    refine (callsIn_wide.2 HRC.out).mono ?_
    rintro e w2 ⟨he, hb2⟩
    unfold RTold at he
    subst he
    refine hK3 _ _ (HC.out _ hb2) ?_
    refine anyC_take (i := 5) (v := vV z.k z.n nilV) rfl rfl (by kernel_rfl) (by kernel_rfl) (by kernel_rfl) (fun _ _ d _ _ h => by cases d <;> exact h) (HC.out _ hb2) (by rfl) (fun _ => rfl) (by intro w' hw'; go_simp; try rfl) ?_
    refine anyC_take (i := 6) (v := .int .i64 z.e) rfl rfl (by kernel_rfl) (by kernel_rfl) (by kernel_rfl) (fun _ _ d _ _ h => by cases d <;> exact h) (HC.out _ hb2) (by rfl) (fun _ => rfl) (by intro w' hw'; go_simp; try rfl) ?_
    refine anyC_one (i := 7) (by kernel_rfl) rfl (by rfl) (fun K4 hK4 => ?_)
    obtain ⟨zf, d0, d1, d2, Q, hQ, e0, e1, e2, hb3⟩ := rdoor (HN.out _ hb2) (.int .u8 z.k) (.int .i64 z.n) (.slice none 0 0)
    have hwb : Below w.heap.size w Q := (HC.out _ hb2).1.trans (hb3.mono (by omega))
    have HQ : Hid (Below w.heap.size w Q ∧ Q.heap[w.heap.size]? = some (.cells #[.int .u8 ak, .int .i64 an, av] 25 (0, 0))) := ⟨hwb, (hb3.block _ (by omega)).trans (HC.out _ hb2).2⟩
    clear hwb hb3
    go_simp
    rw [← hQ]
    clear hQ d0 d1 d2 zf
    refine hK4 _ _ HQ.out ?_
    refine anyC_one (i := 8) (by kernel_rfl) rfl (by rfl) (fun K5 hK5 => ?_)
    go_simp
    refine hK5 _ _ HQ.out ?_
    refine anyC_done (by kernel_rfl) ?_
    clear hb2
    gi_wp2
    refine bodyPost_ret (v := .tuple #[vV z.k z.n nilV, .int .i64 z.e]) ?_ rfl ⟨rfl, HQ.out.1⟩
    simp [results, Tryd.results22, go_sem, e0, e1, e2]
set_option maxRecDepth 100000 in
set_option maxHeartbeats 8000000 in
theorem binary_any (q : List UInt8) (hq : q.length ≤ 1000000) (a b : VA) (w : World) (ha : a.Low w.heap.size w) (hb : b.Low w.heap.size w) :
    Calls Tryd.prog 23 #[.string (Ln.bs q), a.val, b.val] w fun e w' => RTold (Vl.bin q a.v b.v) e ∧ Below w.heap.size w w' := by
  obtain ⟨V0, hV0⟩ : ∃ V, V = w.alloc (.cells #[.int .u8 a.k, .int .i64 a.n, a.vs] 25) := ⟨_, rfl⟩
  have b0 : Below w.heap.size w V0 := hV0 ▸ below_new w _
  have s0 : V0.heap.size = w.heap.size + 1 := by rw [hV0, World.size_alloc]
  obtain ⟨V1, hV1⟩ : ∃ V, V = V0.alloc (.cells #[.int .u8 b.k, .int .i64 b.n, b.vs] 25) := ⟨_, rfl⟩
  have b1 : Below V0.heap.size V0 V1 := hV1 ▸ below_new V0 _
  have s1 : V1.heap.size = V0.heap.size + 1 := by rw [hV1, World.size_alloc]
  obtain ⟨V, hV⟩ : ∃ V, V = V1.alloc (.cells #[.int .u8 0, .int .i64 0, .slice none 0 0] 25) := ⟨_, rfl⟩
  have bb : Below V1.heap.size V1 V := hV ▸ below_new V1 _
  have sV : V.heap.size = V1.heap.size + 1 := by rw [hV, World.size_alloc]
  have bV : Below w.heap.size w V := below_then (below_then b0 b1) bb
  have n0 : V.heap[w.heap.size]? = some (.cells #[.int .u8 a.k, .int .i64 a.n, a.vs] 25 (0, 0)) := (bb.block _ (by omega)).trans <| (b1.block _ (by omega)).trans <| (by rw [hV0]; exact World.alloc_heap_new w _)
  have n1 : V.heap[w.heap.size + 1]? = some (.cells #[.int .u8 b.k, .int .i64 b.n, b.vs] 25 (0, 0)) := (bb.block _ (by omega)).trans <| (by rw [hV1, ← s0]; exact World.alloc_heap_new V0 _)
  have nr : V.heap[w.heap.size + 1 + 1]? = some (.cells #[.int .u8 0, .int .i64 0, .slice none 0 0] 25 (0, 0)) := by rw [hV, ← s0, ← s1]; exact World.alloc_heap_new V1 _
  have HF : Hid (∀ (Y : World) (m rb : Nat), OI V.heap.size V Y m binE → Below V.heap.size V Y → Y.heap[rb]? = some (.cells #[.int .u8 a.k, .int .i64 a.n, a.vs, .int .u8 b.k, .int .i64 b.n, b.vs] 25 (0, 0)) →
      Calls Tryd.prog 34 #[.map (some m), .string (Ln.bs q), .slice (some ⟨rb, 0, none⟩) 2 2] Y fun e w' => RTold (Vl.bin q a.v b.v) e ∧ Below V.heap.size V w') := by
    intro Y m rb ho hY hrow
    have bw := below_then bV hY
    refine (reckonedBin_any q hq a b V Y V.heap.size m rb 2 (Nat.le_refl _) ho ⟨row_of hrow, (Array.getElem?_eq_some_iff.1 hrow).1, ha.at bw, hb.at bw⟩).mono ?_
    rintro e w' ⟨h2, h3⟩
    exact ⟨h2, below_then hY h3⟩
  have HC : Hid (∀ W, Below V.heap.size V W → (fun z => Below w.heap.size w z ∧ z.heap[w.heap.size]? = some (.cells #[.int .u8 a.k, .int .i64 a.n, a.vs] 25 (0, 0)) ∧ z.heap[w.heap.size + 1]? = some (.cells #[.int .u8 b.k, .int .i64 b.n, b.vs] 25 (0, 0))) W) := fun W hW => ⟨below_then bV hW, (hW.block _ (by omega)).trans n0, (hW.block _ (by omega)).trans n1⟩
  have HN : Hid (∀ W, Below V.heap.size V W → W.heap[w.heap.size + 1 + 1]? = some (.cells #[.int .u8 0, .int .i64 0, .slice none 0 0] 25 (0, 0))) := fun W hW => (hW.block _ (by omega)).trans nr
  have HE : Hid (∃ z, z = Vl.bin q a.v b.v) := ⟨_, rfl⟩
  have HBV : Hid (Below w.heap.size w V ∧ w.heap.size + 1 + 1 < V.heap.size) := ⟨bV, by omega⟩
  have HU : Hid (_) := binaries_any
  have hVV : V = ((w.alloc (.cells #[.int .u8 a.k, .int .i64 a.n, a.vs] 25)).alloc (.cells #[.int .u8 b.k, .int .i64 b.n, b.vs] 25)).alloc (.cells #[.int .u8 0, .int .i64 0, .slice none 0 0] 25) := by rw [hV, hV1, hV0]
  obtain ⟨ak, an, av, ar⟩ := a
  obtain ⟨bk, bn, bv, br⟩ := b
  simp only [VA.val] at hVV HF HC ⊢
  obtain ⟨z, hz⟩ := HE.out
  rw [← hz] at HF
  rw [← hz]
  clear hz HE bV sV nr bb hV n1 s1 b1 hV1 n0 s0 b0 hV0 ha hb
  refine (callsIn_wide (n := 3)).1 ?_
  refine callsIn_of_wp Tryd.func23 rfl trivial ?_ rfl
  simp only [Tryd.ntmps23, List.size_toArray, List.length_cons, List.length_nil, Nat.reduceAdd, Nat.reduceSub, Array.replicate_succ, Array.replicate_zero, List.push_toArray, List.append_toArray, List.nil_append, List.cons_append]
  gi_wp2
  rw [← hVV]
  clear hVV
  have hVd := below_draw V 1
  have hVd' : Below V.heap.size V V.drew := hVd
  refine region_lex (fun z => Below w.heap.size w z ∧ z.heap[w.heap.size]? = some (.cells #[.int .u8 ak, .int .i64 an, av] 25 (0, 0)) ∧ z.heap[w.heap.size + 1]? = some (.cells #[.int .u8 bk, .int .i64 bn, bv] 25 (0, 0))) 0 10 rfl (by kernel_rfl) (by kernel_rfl) (by kernel_rfl) (by kernel_rfl) (fun _ _ d _ _ h => by cases d <;> exact h) (HC.out _ hVd') ?_
  refine lexC_nil ?_
  refine anyC_take (i := 1) (v := .string (Ln.bs q)) rfl rfl (by kernel_rfl) (by kernel_rfl) (by kernel_rfl) (fun _ _ d _ _ h => by cases d <;> exact h) (HC.out _ hVd') (by rfl) (fun _ => rfl) (by intro w' hw'; go_simp; try rfl) ?_
  refine anyC_take (i := 2) (v := .agg #[.int .u8 ak, .int .i64 an, av]) rfl rfl (by kernel_rfl) (by kernel_rfl) (by kernel_rfl) (fun _ _ d _ _ h => by cases d <;> exact h) (HC.out _ hVd') (by rfl) (fun _ => rfl) (by intro w' hw'; have f0 := vcells_at hw'.2.1 (o := 0) rfl; have f1 := vcells_at hw'.2.1 (o := 1) rfl; have f2 := vcells_at hw'.2.1 (o := 2) rfl; go_simp; try rfl) ?_
  refine anyC_take (i := 3) (v := .agg #[.int .u8 bk, .int .i64 bn, bv]) rfl rfl (by kernel_rfl) (by kernel_rfl) (by kernel_rfl) (fun _ _ d _ _ h => by cases d <;> exact h) (HC.out _ hVd') (by rfl) (fun _ => rfl) (by intro w' hw'; have f0 := vcells_at hw'.2.2 (o := 0) rfl; have f1 := vcells_at hw'.2.2 (o := 1) rfl; have f2 := vcells_at hw'.2.2 (o := 2) rfl; go_simp; try rfl) ?_
  refine anyC_two (i := 0) (j := 4) (by kernel_rfl) rfl rfl (by rfl) (by rfl) (fun K1 hK1 => ?_) (fun K1 hK1 => ?_)
  · go_simp
    refine ⟨trivial, ?_⟩
    refine (callsIn_wide.2 (HU.out V.drew)).mono ?_
    rintro e w1 ⟨m, rfl, ho⟩
    have hvw : Below V.heap.size V w1 := below_then hVd' ho.2.1
    refine hK1 _ _ (HC.out _ hvw) ?_
    refine anyC_one (i := 4) (by kernel_rfl) rfl (by rfl) (fun K2 hK2 => ?_)
    obtain ⟨Y, hY⟩ : ∃ Y, Y = w1.alloc (.cells #[.int .u8 ak, .int .i64 an, av, .int .u8 bk, .int .i64 bn, bv] 25) := ⟨_, rfl⟩
    have hbY : Below w1.heap.size w1 Y := hY ▸ below_new w1 _
    have hrow : Y.heap[w1.heap.size]? = some (.cells #[.int .u8 ak, .int .i64 an, av, .int .u8 bk, .int .i64 bn, bv] 25 (0, 0)) := by rw [hY]; exact World.alloc_heap_new w1 _
    have hVY : Below V.heap.size V Y := below_then hvw hbY
    have HRC : Hid (_) := HF.out Y m w1.heap.size (⟨ho.1, hVY, (ho.at hbY).2.2⟩) hVY hrow
    clear ho hbY hrow
    go_simp
    rw [← hY]
    clear hY
    refine hK2 _ _ (HC.out _ hVY) ?_
    refine anyC_one (i := 5) (by kernel_rfl) rfl (by rfl) (fun K3 hK3 => ?_)
    go_simp
    refine ⟨trivial, ?_⟩
    refine (callsIn_wide.2 HRC.out).mono ?_
    rintro e w2 ⟨he, hb2⟩
    unfold RTold at he
    subst he
    refine hK3 _ _ (HC.out _ hb2) ?_
    refine anyC_take (i := 6) (v := vV z.k z.n nilV) rfl rfl (by kernel_rfl) (by kernel_rfl) (by kernel_rfl) (fun _ _ d _ _ h => by cases d <;> exact h) (HC.out _ hb2) (by rfl) (fun _ => rfl) (by intro w' hw'; go_simp; try rfl) ?_
    refine anyC_take (i := 7) (v := .int .i64 z.e) rfl rfl (by kernel_rfl) (by kernel_rfl) (by kernel_rfl) (fun _ _ d _ _ h => by cases d <;> exact h) (HC.out _ hb2) (by rfl) (fun _ => rfl) (by intro w' hw'; go_simp; try rfl) ?_
    refine anyC_one (i := 8) (by kernel_rfl) rfl (by rfl) (fun K4 hK4 => ?_)
    obtain ⟨zf, d0, d1, d2, Q, hQ, e0, e1, e2, hb3⟩ := rdoor (HN.out _ hb2) (.int .u8 z.k) (.int .i64 z.n) (.slice none 0 0)
    have hwb : Below w.heap.size w Q := (HC.out _ hb2).1.trans (hb3.mono (by omega))
    have HQ : Hid (Below w.heap.size w Q ∧ Q.heap[w.heap.size]? = some (.cells #[.int .u8 ak, .int .i64 an, av] 25 (0, 0)) ∧ Q.heap[w.heap.size + 1]? = some (.cells #[.int .u8 bk, .int .i64 bn, bv] 25 (0, 0))) := ⟨hwb, (hb3.block _ (by omega)).trans (HC.out _ hb2).2.1, (hb3.block _ (by omega)).trans (HC.out _ hb2).2.2⟩
    clear hwb hb3
    go_simp
    rw [← hQ]
    clear hQ d0 d1 d2 zf
    refine hK4 _ _ HQ.out ?_
    refine anyC_one (i := 9) (by kernel_rfl) rfl (by rfl) (fun K5 hK5 => ?_)
    go_simp
    refine hK5 _ _ HQ.out ?_
    refine anyC_done (by kernel_rfl) ?_
    clear hb2
    gi_wp2
    refine bodyPost_ret (v := .tuple #[vV z.k z.n nilV, .int .i64 z.e]) ?_ rfl ⟨rfl, HQ.out.1⟩
    simp [results, Tryd.results23, go_sem, e0, e1, e2]
  · obtain ⟨Y, hY⟩ : ∃ Y, Y = (V.alloc (.cells #[.int .u8 ak, .int .i64 an, av, .int .u8 bk, .int .i64 bn, bv] 25)).drew := ⟨_, rfl⟩
    have hbY : Below V.heap.size V Y := hY ▸ below_then (below_new V _) (below_draw _ 1)
    have hrow : Y.heap[V.heap.size]? = some (.cells #[.int .u8 ak, .int .i64 an, av, .int .u8 bk, .int .i64 bn, bv] 25 (0, 0)) := by rw [hY]; exact World.alloc_heap_new V _
    have hVY : Below V.heap.size V Y := hbY
    have HRW : Hid (_) := hrow
    clear hbY hrow
    go_simp
    rw [← hY]
    clear hY
    refine hK1 _ _ (HC.out _ hVY) ?_
    refine anyC_one (i := 0) (by kernel_rfl) rfl (by rfl) (fun K2 hK2 => ?_)
    go_simp
    refine ⟨trivial, ?_⟩
    refine (callsIn_wide.2 (HU.out Y)).mono ?_
    rintro e w1 ⟨m, rfl, ho⟩
    have hb1 := ho.2.1
    have hvw : Below V.heap.size V w1 := below_then hVY hb1
    have HRC : Hid (_) := HF.out w1 m V.heap.size (⟨Nat.le_trans hVY.size ho.1, hvw, ho.2.2⟩) hvw ((hb1.block _ (Array.getElem?_eq_some_iff.1 HRW.out).1).trans HRW.out)
    clear ho hb1 HRW
    refine hK2 _ _ (HC.out _ hvw) ?_
    refine anyC_one (i := 5) (by kernel_rfl) rfl (by rfl) (fun K3 hK3 => ?_)
    go_simp
    refine ⟨trivial, ?_⟩
    refine (callsIn_wide.2 HRC.out).mono ?_
    rintro e w2 ⟨he, hb2⟩
    unfold RTold at he
    subst he
    refine hK3 _ _ (HC.out _ hb2) ?_
    refine anyC_take (i := 6) (v := vV z.k z.n nilV) rfl rfl (by kernel_rfl) (by kernel_rfl) (by kernel_rfl) (fun _ _ d _ _ h => by cases d <;> exact h) (HC.out _ hb2) (by rfl) (fun _ => rfl) (by intro w' hw'; go_simp; try rfl) ?_
    refine anyC_take (i := 7) (v := .int .i64 z.e) rfl rfl (by kernel_rfl) (by kernel_rfl) (by kernel_rfl) (fun _ _ d _ _ h => by cases d <;> exact h) (HC.out _ hb2) (by rfl) (fun _ => rfl) (by intro w' hw'; go_simp; try rfl) ?_
    refine anyC_one (i := 8) (by kernel_rfl) rfl (by rfl) (fun K4 hK4 => ?_)
    obtain ⟨zf, d0, d1, d2, Q, hQ, e0, e1, e2, hb3⟩ := rdoor (HN.out _ hb2) (.int .u8 z.k) (.int .i64 z.n) (.slice none 0 0)
    have hwb : Below w.heap.size w Q := (HC.out _ hb2).1.trans (hb3.mono (by omega))
    have HQ : Hid (Below w.heap.size w Q ∧ Q.heap[w.heap.size]? = some (.cells #[.int .u8 ak, .int .i64 an, av] 25 (0, 0)) ∧ Q.heap[w.heap.size + 1]? = some (.cells #[.int .u8 bk, .int .i64 bn, bv] 25 (0, 0))) := ⟨hwb, (hb3.block _ (by omega)).trans (HC.out _ hb2).2.1, (hb3.block _ (by omega)).trans (HC.out _ hb2).2.2⟩
    clear hwb hb3
    go_simp
    rw [← hQ]
    clear hQ d0 d1 d2 zf
    refine hK4 _ _ HQ.out ?_
    refine anyC_one (i := 9) (by kernel_rfl) rfl (by rfl) (fun K5 hK5 => ?_)
    go_simp
    refine hK5 _ _ HQ.out ?_
    refine anyC_done (by kernel_rfl) ?_
    clear hb2
    gi_wp2
    refine bodyPost_ret (v := .tuple #[vV z.k z.n nilV, .int .i64 z.e]) ?_ rfl ⟨rfl, HQ.out.1⟩
    simp [results, Tryd.results23, go_sem, e0, e1, e2]
end Go.Proofs.YtcnmgebjbaclaaaDoor

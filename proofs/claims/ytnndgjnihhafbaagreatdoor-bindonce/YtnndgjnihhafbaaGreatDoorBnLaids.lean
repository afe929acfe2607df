/-
  Several texts in one, as they are: LxLaid, BnLaid, TrArg.
-/
import Derived.Test.YtnndgjnihhafbaaGreatDoorLexAll
import Derived.Test.YtnndgjnihhafbaaGreatDoorBaseAll
import Derived.Test.YtnndgjnihhafbaaGreatDoorTrAll
import Derived.Deep.Slices
import Derived.Deep.Strs
import Derived.SizedLaws
import Derived.Lib.SmallJoins

/-
  The table of signs, out of the row's own condition.
-/
namespace Go.Proofs.YtnndgjnihhafbaaGreatDoor
open Go.ChangeShapes Go.WideShapes Go.ChangeAt Go.RowKit

theorem gSigns : Tryz.prog.globalNamed "clerestory/lex.signs" = some 0 := by kernel_rfl
theorem tSigns : (Tryz.prog.globals[0]?).map (·.type) = some 54 := by kernel_rfl

theorem strs_inj {H : Type} (ss : List ByteArray) (L : List (List UInt8)) (h : strs (H := H) ss = L.map fun l => .lit (.string l)) : ss.map (fun s => s.data.toList) = L := by
  unfold strs at h
  have h2 := congrArg (List.map (fun d : DataW H => match d with | .lit (.string l) => l | _ => [])) h
  rw [List.map_map, List.map_map] at h2
  have e1 : ∀ (M : List (List UInt8)), M.map ((fun d : DataW H => match d with | .lit (.string l) => l | _ => []) ∘ fun l => .lit (.string l)) = M := fun M => by
    have : ((fun d : DataW H => match d with | .lit (.string l) => l | _ => []) ∘ fun l => .lit (.string l)) = id := by funext l; rfl
    rw [this, List.map_id]
  rw [e1] at h2
  rw [← h2]
  apply List.map_congr_left
  intro s _
  rfl

end Go.Proofs.YtnndgjnihhafbaaGreatDoor

/-
  The table of signs, where more is laid.
-/
namespace Go.Proofs.YtnndgjnihhafbaaGreatDoor
open Go.ChangeShapes Go.WideShapes Go.ChangeAt Go.RowKit

theorem signs_laid6 {W : World} (h : laidMetH Tryz.prog Rows.bindFreshRow.laid W) : SignsAt W.heap.size W := by
  rw [MakeChecks.laidMetH_plain _ _ _ (by kernel_rfl)] at h
  obtain ⟨ps, ⟨_, _, _, _, _, _, _, _, _, _, ⟨_, _, _, _, _, _, _, _, _, _, ⟨_, _, _, _, _, _, _, _, _, _, ⟨_, _, _, _, _, _, _, _, _, _, ⟨_, _, _, _, _, _, _, _, _, _, ⟨g0, t0, cs0, f0, p0, q0, hg0, ht0, hv0, hd0, _, _⟩, _⟩, _⟩, _⟩, _⟩, _⟩, _, _⟩ := h
  obtain rfl := Option.some.inj (gSigns.symm.trans hg0)
  obtain rfl := Option.some.inj (tSigns.symm.trans ht0)
  rcases open_strings Tryz.underlying54 Tryz.underlying9 (by kernel_rfl) hd0 with ⟨_, hx⟩ | ⟨x, l, c, ss, hcs, _, hl, hm, hz, hzz, hcell, hwz⟩
  · simp [Rows.laid_clerestory_lex_signs] at hx
  · have e0 := (Prod.mk.inj hzz).1
    have e1 : strs (H := Unit) (ss.take l) = Lx.signs.map fun l => .lit (.string l) := by
      simp only [Rows.laid_clerestory_lex_signs, DataW.slice.injEq] at e0
      exact e0.1.symm
    have hsg := strs_inj _ _ e1
    have hlen : (ss.take l).length = Lx.signs.length := by rw [← hsg, List.length_map]
    have hlt : l ≤ ss.length := by rw [hz]; split <;> omega
    have hll : l = Lx.signs.length := by rw [← hlen, List.length_take, Nat.min_eq_left hlt]
    have hc0 : W.cell? ⟨0, 0, none⟩ = some (.slice (some x) l c) := by
      have := World.var?_cell hg0 hv0 0
      rw [Array.eq_one_of_toList hcs] at this
      simpa using this
    refine ⟨by have := World.block_lt_of_cell? _ _ hc0; exact Nat.lt_of_le_of_lt (Nat.zero_le _) this, .slice (some x) l c, hc0, ?_⟩
    unfold RowLow
    rw [← hll]
    refine cells_arg (by rw [List.length_map, ← hll]) hl (fun j u hu => ?_)
    rw [List.getElem?_map, ← hsg, List.getElem?_map, List.getElem?_take] at hu
    split at hu
    · have hj : j < ss.length := by omega
      rw [List.getElem?_eq_getElem hj] at hu
      simp only [Option.map_some, Option.some.injEq] at hu
      rw [hcell j hj, ← hu]
      simp [List.getD, List.getElem?_eq_getElem hj, txtV, Ln.bs_of]
    · simp at hu

end Go.Proofs.YtnndgjnihhafbaaGreatDoor

/-
  Arguments that are nodes, opened; with what the statement's own reach says of their lengths.
-/
namespace Go.Proofs.YtnndgjnihhafbaaGreatDoor
open Go.ChangeShapes Go.WideShapes Go.ChangeAt Go.RowKit Go.Deep Go.Joins

theorem bytesN : Tryz.prog.bytesOf 25 = 56 := by kernel_rfl
theorem cellsN : Tryz.prog.cellsOf 25 = 4 := by kernel_rfl
theorem cellsK : Tryz.prog.cellsOf 22 = 1 := by kernel_rfl
theorem cellsT : Tryz.prog.cellsOf 9 = 1 := by kernel_rfl
theorem cellsL : Tryz.prog.cellsOf 2 = 1 := by kernel_rfl
theorem cellsR : Tryz.prog.cellsOf 23 = 1 := by kernel_rfl

theorem wt_part {H : Type} {t : TypeId} {fs : Array Field} {parts : List (DataW H)} (hu : Tryz.prog.underlying t = some (.struct fs)) {j : Nat} {f : Field} {d : DataW H} (hf : fs.toList[j]? = some f) (hd : parts[j]? = some d) : ∀ n ∈ d.weights Tryz.prog f.type, n ∈ (DataW.agg parts).weights Tryz.prog t := by
  intro n hn
  have h := DataW.weights_mem_each (P := Tryz.prog) (ts := fs.toList.map (·.type)) (ds := parts) (j := j) (t := f.type) (d := d) (by rw [List.getElem?_map, hf]; rfl) hd n hn
  simp only [DataW.weights, hu]
  exact h
theorem wt_elem {H : Type} {e : TypeId} : ∀ (ds : List (DataW H)) (d : DataW H), d ∈ ds → ∀ n ∈ d.weights Tryz.prog e, n ∈ DataW.weightsAll Tryz.prog e ds
  | [], d, hd, _, _ => by cases hd
  | x :: r, d, hd, n, hn => by
    simp only [DataW.weightsAll, List.mem_append]
    rcases List.mem_cons.1 hd with rfl | hd
    · exact .inl hn
    · exact .inr (wt_elem r d hd n hn)

/-- A node, opened. -/
theorem node_open {H : Type} {enc : TypeId × Value → H} {W : World} {sp : Nat → Bool} {held : Bool} {base : Nat} : ∀ (m : Nat) (fuel : Nat) (cs : List Value) (z : DataW H × List MemPlace), SizeOf.sizeOf z.1 < m → DataW.trod enc Tryz.prog W base sp held fuel 25 cs = some z → (∀ n ∈ z.1.weights Tryz.prog 25, n ≤ reachBytes) →
    ∃ x : N1, cs = x.cells ∧ x.Fit ∧ RowR (lowS W.heap.size) W x.v x.kids := by
  intro m
  induction m with
  | zero => intro fuel cs z h; omega
  | succ m ih =>
    intro fuel cs z hm h hw
    obtain ⟨y0, y1, y2, y3, n, rfl, hl, t0, t1, t2, t3⟩ := trod_struct4 Tryz.underlying25 h
    simp only [cellsN] at hl
    simp only [cellsK, cellsT, cellsL, cellsR] at t0 t1 t2 t3
    obtain ⟨p, e0, -, hp⟩ := DataW.trod_int Tryz.underlying22 t0
    obtain ⟨q, e2, -, hq⟩ := DataW.trod_int Tryz.underlying2 t2
    obtain ⟨s, e1, -, hs⟩ := DataW.trod_string Tryz.underlying9 t1
    have w3 := wt_part (H := H) (parts := [y0.1, y1.1, y2.1, y3.1]) Tryz.underlying25 (j := 3) rfl (d := y3.1) rfl
    have hrow : ∃ (v : Value) (kids : List Tr), (cs.drop 3).take 1 = [v] ∧ RowR (lowS W.heap.size) W v kids := by
      rcases open_slice Tryz.underlying23 t3 with ⟨hcs, _⟩ | ⟨a, len, cap, mm, n', D, Pl, hcs, hb, hl', hmx, hm', hz, heach⟩
      · refine ⟨_, [], hcs, .mk [] rfl ⟨none, 0, 0, 0, rfl, ⟨Nat.le_refl _, fun _ => rfl⟩, fun h => absurd h (by simp), fun j u hu => by simp [n1Cells] at hu⟩ (by simp) (by simp) (by simp)⟩
      · have w4 : ∀ n ∈ (DataW.slice ((List.range len).map D) ((List.range (mm - len)).map fun j => D (len + j))).weights Tryz.prog 23, n ∈ (DataW.agg [y0.1, y1.1, y2.1, y3.1]).weights Tryz.prog 25 := fun n hn => w3 n (by rw [hz]; exact hn)
        simp only [cellsN] at heach
        have hlm : len ≤ mm := by rw [hm']; split <;> omega
        have hsz3 : ∀ i, i < len → SizeOf.sizeOf (D i) < m := fun i hi => by
          have h1 : SizeOf.sizeOf (D i) < SizeOf.sizeOf ((List.range len).map D) := List.sizeOf_lt_of_mem (List.mem_map.2 ⟨i, List.mem_range.2 hi, rfl⟩)
          have h2 : SizeOf.sizeOf y3.1 < SizeOf.sizeOf [y0.1, y1.1, y2.1, y3.1] := List.sizeOf_lt_of_mem (by simp)
          have h3 : y3.1 = .slice ((List.range len).map D) ((List.range (mm - len)).map fun j => D (len + j)) := by rw [hz]
          have h4 : SizeOf.sizeOf y3.1 = 1 + SizeOf.sizeOf ((List.range len).map D) + SizeOf.sizeOf ((List.range (mm - len)).map fun j => D (len + j)) := by rw [h3]; exact DataW.slice.sizeOf_spec _ _
          have h5 : SizeOf.sizeOf (DataW.agg [y0.1, y1.1, y2.1, y3.1]) = 1 + SizeOf.sizeOf [y0.1, y1.1, y2.1, y3.1] := DataW.agg.sizeOf_spec _
          have hm5 : SizeOf.sizeOf (DataW.agg [y0.1, y1.1, y2.1, y3.1]) < m + 1 := hm
          omega
        have hwl : len * 56 ≤ reachBytes := by
          have h9 := hw ((((List.range len).map D).length + ((List.range (mm - len)).map fun j => D (len + j)).length) * 56) (w4 _ (by
            simp [DataW.weights, Tryz.underlying23, bytesN]))
          simp at h9
          omega
        have each : ∀ k, k ≤ len → ∃ xs : List N1, xs.length = k ∧ (∀ (j : Nat) (u : Value), (n1Cells xs)[j]? = some u → W.cell? (a.add j) = some u) ∧ ∀ x ∈ xs, x.Fit ∧ RowR (lowS W.heap.size) W x.v x.kids := by
          intro k
          induction k with
          | zero => intro _; exact ⟨[], rfl, fun j u hu => by simp [n1Cells] at hu, fun x hx => by simp at hx⟩
          | succ k ihk =>
            intro hk
            obtain ⟨xs, e1', e2', e3'⟩ := ihk (by omega)
            obtain ⟨cs', hc', ht'⟩ := heach k (by omega)
            obtain ⟨x, rfl, x1, x2⟩ := ih n' cs' (D k, Pl k) (hsz3 k (by omega)) ht' (fun r hr => hw r (w4 r (by
              simp only [DataW.weights, Tryz.underlying23, List.mem_cons, List.mem_append]
              exact .inr (.inl (wt_elem _ (D k) (List.mem_map.2 ⟨k, List.mem_range.2 (by omega), rfl⟩) r hr)))))
            obtain ⟨-, -, hcc⟩ := World.cells?_some hc'
            refine ⟨xs ++ [x], by simp [e1'], fun j u hu => ?_, fun y hy => ?_⟩
            · have hle : (n1Cells xs).length = k * 4 := by rw [n1Cells_len, e1']
              have he : n1Cells (xs ++ [x]) = n1Cells xs ++ x.cells := by rw [n1Cells_append]; simp [n1Cells]
              rw [he] at hu
              by_cases hj : j < k * 4
              · rw [List.getElem?_append_left (by omega)] at hu
                exact e2' j u hu
              · rw [List.getElem?_append_right (by omega), hle] at hu
                have hj4 : j - k * 4 < 4 := by have := (List.getElem?_eq_some_iff.1 hu).1; simpa [N1.cells] using this
                have h9 := hcc (j - k * 4) hj4
                rw [hu] at h9
                have ha : (a.add (k * 4)).add (j - k * 4) = a.add j := by
                  rw [Addr.add_add]; congr 1; omega
                rw [ha] at h9
                exact h9
            · rcases List.mem_append.1 hy with hy | hy
              · exact e3' y hy
              · rw [List.mem_singleton] at hy; subst hy
                exact ⟨x1, x2⟩
        obtain ⟨xs, e1', e2', e3'⟩ := each len (Nat.le_refl _)
        have hlen : xs.length ≤ 1000000000000000 := by unfold reachBytes at hwl; omega
        refine ⟨_, xs.map N1.tr, hcs, .mk xs rfl ?_ hlen (fun x hx => (e3' x hx).1) (fun x hx => (e3' x hx).2)⟩
        subst e1'
        cases xs with
        | nil => exact ⟨some a, cap, 0, 0, rfl, ⟨hl', fun e => by cases e⟩, fun h => absurd h (by simp), fun j x hx => by simp [n1Cells] at hx⟩
        | cons y r =>
          obtain ⟨b, off, spot⟩ := a
          have h0 := e2' 0 (.int .u8 y.k) rfl
          have hspot : spot = none := by simpa [Addr.add] using World.cell?_spot h0
          subst hspot
          have hlt : b < W.heap.size := by simpa [Addr.add] using World.block_lt_of_cell? _ _ h0
          refine ⟨_, cap, b, off, rfl, ⟨hl', fun e => by cases e⟩, fun _ => ⟨rfl, hlt⟩, fun j x hx => ?_⟩
          have := e2' j x hx
          rwa [Go.WideShapes.add_plain] at this
    obtain ⟨v, kids, e3, hr⟩ := hrow
    refine ⟨⟨p, s.data.toList, q, v, kids⟩, ?_, ⟨?_, ?_, ?_⟩, hr⟩
    · match cs, hl with
      | [u0, u1, u2, u3], _ =>
        simp at e0 e1 e2 e3
        rw [e0, e1, e2, e3]
        rfl
    · simp only [Lit.wf, IntKind.min, IntKind.max, IntKind.signed, IntKind.bits, Bool.and_eq_true] at hp
      show 0 ≤ p ∧ p ≤ 255
      simp at hp
      omega
    · exact hs
    · simp only [Lit.wf, IntKind.min, IntKind.max, IntKind.signed, IntKind.bits, Bool.and_eq_true, decide_eq_true_eq, if_true] at hq
      show -9223372036854775808 ≤ q ∧ q ≤ 9223372036854775807
      omega

/-- An argument that is a node. -/
theorem node_arg {H : Type} {enc : TypeId × Value → H} {W : World} {sp : Nat → Bool} {held : Bool} {base fuel : Nat} {cs : Array Value} {z : DataW H × List MemPlace} (h : DataW.trod enc Tryz.prog W base sp held fuel 25 (Value.agg cs).cells.toList = some z) (hw : ∀ n ∈ z.1.weights Tryz.prog 25, n ≤ reachBytes) :
    ∃ t, NodeR (lowS W.heap.size) W (.agg cs) t := by
  obtain ⟨x, e, hf, hr⟩ := node_open _ fuel _ z (Nat.lt_succ_self _) h hw
  have e' : cs = x.cells.toArray := by
    have : cs.toList = x.cells := e
    rw [← this]
  exact ⟨x.tr, x, by rw [e'], rfl, hf, hr⟩
end Go.Proofs.YtnndgjnihhafbaaGreatDoor

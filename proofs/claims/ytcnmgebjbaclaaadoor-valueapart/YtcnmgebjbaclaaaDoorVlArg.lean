/-
  Arguments that are values or rows of values, opened; with what the statement's own reach says of their lengths.
-/
import Derived.Test.YtcnmgebjbaclaaaDoorArgs
import Derived.Test.YtcnmgebjbaclaaaDoorVlMakes
import Derived.Deep.Slices
import Derived.Deep.Strs
import Derived.SizedLaws
namespace Go.Proofs.YtcnmgebjbaclaaaDoor
open Go.ChangeShapes Go.WideShapes Go.ChangeAt Go.RowKit Go.Deep

theorem bytesI : Tryd.prog.bytesOf 2 = 8 := by kernel_rfl
theorem cellsV : Tryd.prog.cellsOf 25 = 3 := by kernel_rfl
theorem cellsK : Tryd.prog.cellsOf 22 = 1 := by kernel_rfl
theorem cellsI : Tryd.prog.cellsOf 2 = 1 := by kernel_rfl
theorem cellsL : Tryd.prog.cellsOf 23 = 1 := by kernel_rfl

theorem weights_part {H : Type} {t : TypeId} {fs : Array Field} {parts : List (DataW H)} (hu : Tryd.prog.underlying t = some (.struct fs)) {j : Nat} {f : Field} {d : DataW H} (hf : fs.toList[j]? = some f) (hd : parts[j]? = some d) : ∀ n ∈ d.weights Tryd.prog f.type, n ∈ (DataW.agg parts).weights Tryd.prog t := by
  intro n hn
  have h := DataW.weights_mem_each (P := Tryd.prog) (ts := fs.toList.map (·.type)) (ds := parts) (j := j) (t := f.type) (d := d) (by rw [List.getElem?_map, hf]; rfl) hd n hn
  simp only [DataW.weights, hu]
  exact h
/-- A row of numbers, its length by its weight. -/
theorem longs_open {H : Type} {enc : TypeId × Value → H} {W : World} {base : Nat} {sp : Nat → Bool} {held : Bool} {fuel : Nat} {cs : List Value} {z : DataW H × List MemPlace} (h : DataW.trod enc Tryd.prog W base sp held fuel 23 cs = some z) (hw : ∀ n ∈ z.1.weights Tryd.prog 23, n ≤ reachBytes) :
    ∃ (v : Value) (L : List Int), cs = [v] ∧ CellsLow W.heap.size W v L.length (L.map (Value.int .i64)) ∧ L.length ≤ 1000000000000000 ∧ ∀ x ∈ L, -9223372036854775808 ≤ x ∧ x ≤ 9223372036854775807 := by
  rcases open_ints Tryd.underlying23 Tryd.underlying2 (by kernel_rfl) h with ⟨hcs, _⟩ | ⟨x, l, c, zs, hcs, _, hl, hm, hz, hzz, hcell, hwz⟩
  · subst hcs
    exact ⟨_, [], rfl, ⟨none, 0, 0, 0, rfl, ⟨Nat.le_refl _, fun _ => rfl⟩, fun h => absurd h (by simp), fun j x hx => by simp at hx⟩, by simp, fun x hx => by simp at hx⟩
  · subst hcs
    have hlen : l ≤ zs.length := by rw [hz]; split <;> omega
    have hll : (zs.take l).length = l := by rw [List.length_take, Nat.min_eq_left hlen]
    refine ⟨_, zs.take l, rfl, ?_, ?_, fun y hy => ?_⟩
    · rw [hll]
      refine cells_arg (by rw [List.length_map, hll]) hl (fun j u hu => ?_)
      rw [List.getElem?_map, List.getElem?_take] at hu
      split at hu
      · have hj : j < zs.length := by omega
        rw [List.getElem?_eq_getElem hj] at hu
        simp only [Option.map_some, Option.some.injEq] at hu
        rw [hcell j hj, ← hu]
        simp [List.getD, List.getElem?_eq_getElem hj]
      · simp at hu
    · have h9 := hw (((lits (H := H) .i64 (zs.take l)).length + (lits (H := H) .i64 (zs.drop l)).length) * 8) (by
        rw [hzz]
        simp [DataW.weights, Tryd.underlying23, bytesI])
      simp [lits] at h9
      unfold reachBytes at h9
      rw [hll]
      omega
    · have h9 := hwz y (List.mem_of_mem_take hy)
      simp [Lit.wf, IntKind.min, IntKind.max, IntKind.bits, IntKind.signed] at h9
      omega

/-- A value, opened. -/
theorem value_open {H : Type} {enc : TypeId × Value → H} {W : World} {base : Nat} {sp : Nat → Bool} {held : Bool} {fuel : Nat} {cs : List Value} {z : DataW H × List MemPlace} (h : DataW.trod enc Tryd.prog W base sp held fuel 25 cs = some z) (hw : ∀ n ∈ z.1.weights Tryd.prog 25, n ≤ reachBytes) :
    ∃ x : VA, cs = [.int .u8 x.k, .int .i64 x.n, x.vs] ∧ x.Low W.heap.size W ∧ V.Fit x.v := by
  obtain ⟨y0, y1, y2, n, rfl, hl, t0, t1, t2⟩ := trod_struct3 Tryd.underlying25 h
  simp only [cellsV] at hl
  simp only [cellsK, cellsI, cellsL] at t0 t1 t2
  have w2 := weights_part (H := H) (parts := [y0.1, y1.1, y2.1]) Tryd.underlying25 (j := 2) rfl (d := y2.1) rfl
  obtain ⟨p, e0, -, hp⟩ := DataW.trod_int Tryd.underlying22 t0
  obtain ⟨q, e1, -, hq⟩ := DataW.trod_int Tryd.underlying2 t1
  obtain ⟨v, L, e2, r2, m2, s2⟩ := longs_open t2 (fun k hk => hw k (w2 k hk))
  have hp' : 0 ≤ p ∧ p ≤ 255 := by
    have h9 := hp
    simp [Lit.wf, IntKind.min, IntKind.max, IntKind.bits, IntKind.signed] at h9
    omega
  have hq' : -9223372036854775808 ≤ q ∧ q ≤ 9223372036854775807 := by
    have h9 := hq
    simp [Lit.wf, IntKind.min, IntKind.max, IntKind.bits, IntKind.signed] at h9
    omega
  refine ⟨⟨p, q, v, L⟩, ?_, ⟨r2, m2⟩, ⟨hp'.1, hp'.2, hq'.1, hq'.2, s2, m2⟩⟩
  match cs, hl with
  | [u0, u1, u2], _ =>
    simp at e0 e1 e2
    rw [e0, e1, e2]

theorem value_arg {H : Type} {enc : TypeId × Value → H} {W : World} {base : Nat} {sp : Nat → Bool} {held : Bool} {fuel : Nat} {cs : Array Value} {z : DataW H × List MemPlace} (h : DataW.trod enc Tryd.prog W base sp held fuel 25 (Value.agg cs).cells.toList = some z) (hw : ∀ n ∈ z.1.weights Tryd.prog 25, n ≤ reachBytes) :
    ∃ x : VA, cs = #[.int .u8 x.k, .int .i64 x.n, x.vs] ∧ x.Low W.heap.size W ∧ V.Fit x.v := by
  obtain ⟨x, e, h1, h2⟩ := value_open h hw
  have e' : cs.toList = [.int .u8 x.k, .int .i64 x.n, x.vs] := e
  exact ⟨x, by rw [← Array.toArray_toList (xs := cs), e'], h1, h2⟩

end Go.Proofs.YtcnmgebjbaclaaaDoor

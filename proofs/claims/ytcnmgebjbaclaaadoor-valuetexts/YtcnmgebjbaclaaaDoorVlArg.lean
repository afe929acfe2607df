/-
  Arguments that are values or rows of values, opened; with what the statement's own reach says of their lengths.
-/
import Derived.Test.YtcnmgebjbaclaaaDoorArgs
import Derived.Test.YtcnmgebjbaclaaaDoorVlMakes
import Derived.Deep.Slices
import Derived.Deep.Strs
import Derived.SizedLaws
namespace Go.Proofs.YtcnmgebjbaclaaaDoor
open Go.ChangeShapes Go.WideShapes Go.ChangeAt Go.RowKit Go.Deep

theorem bytesI : Tryd.prog.bytesOf 2 = 8 := by kernel_rfl
theorem bytesV : Tryd.prog.bytesOf 25 = 40 := by kernel_rfl
theorem cellsV : Tryd.prog.cellsOf 25 = 3 := by kernel_rfl
theorem cellsK : Tryd.prog.cellsOf 22 = 1 := by kernel_rfl
theorem cellsI : Tryd.prog.cellsOf 2 = 1 := by kernel_rfl
theorem cellsL : Tryd.prog.cellsOf 23 = 1 := by kernel_rfl

theorem weights_part {H : Type} {t : TypeId} {fs : Array Field} {parts : List (DataW H)} (hu : Tryd.prog.underlying t = some (.struct fs)) {j : Nat} {f : Field} {d : DataW H} (hf : fs.toList[j]? = some f) (hd : parts[j]? = some d) : ∀ n ∈ d.weights Tryd.prog f.type, n ∈ (DataW.agg parts).weights Tryd.prog t := by
  intro n hn
  have h := DataW.weights_mem_each (P := Tryd.prog) (ts := fs.toList.map (·.type)) (ds := parts) (j := j) (t := f.type) (d := d) (by rw [List.getElem?_map, hf]; rfl) hd n hn
  simp only [DataW.weights, hu]
  exact h
theorem weights_elem {H : Type} {e : TypeId} : ∀ (ds : List (DataW H)) (d : DataW H), d ∈ ds → ∀ n ∈ d.weights Tryd.prog e, n ∈ DataW.weightsAll Tryd.prog e ds
  | [], d, hd, _, _ => by cases hd
  | x :: r, d, hd, n, hn => by
    simp only [DataW.weightsAll, List.mem_append]
    rcases List.mem_cons.1 hd with rfl | hd
    · exact .inl hn
    · exact .inr (weights_elem r d hd n hn)

/-- A row of numbers, its length by its weight. -/
theorem longs_open {H : Type} {enc : TypeId × Value → H} {W : World} {base : Nat} {sp : Nat → Bool} {held : Bool} {fuel : Nat} {cs : List Value} {z : DataW H × List MemPlace} (h : DataW.trod enc Tryd.prog W base sp held fuel 23 cs = some z) (hw : ∀ n ∈ z.1.weights Tryd.prog 23, n ≤ reachBytes) :
    ∃ (v : Value) (L : List Int), cs = [v] ∧ CellsLow W.heap.size W v L.length (L.map (Value.int .i64)) ∧ L.length ≤ 1000000000000000 ∧ ∀ x ∈ L, -9223372036854775808 ≤ x ∧ x ≤ 9223372036854775807 := by
  rcases open_ints Tryd.underlying23 Tryd.underlying2 (by kernel_rfl) h with ⟨hcs, _⟩ | ⟨x, l, c, zs, hcs, _, hl, hm, hz, hzz, hcell, hwz⟩
  · subst hcs
    exact ⟨_, [], rfl, ⟨none, 0, 0, 0, rfl, ⟨Nat.le_refl _, fun _ => rfl⟩, fun h => absurd h (by simp), fun j x hx => by simp at hx⟩, by simp, fun x hx => by simp at hx⟩
  · subst hcs
    have hlen : l ≤ zs.length := by rw [hz]; split <;> omega
    have hll : (zs.take l).length = l := by rw [List.length_take, Nat.min_eq_left hlen]
    refine ⟨_, zs.take l, rfl, ?_, ?_, fun y hy => ?_⟩
    · rw [hll]
      refine cells_arg (by rw [List.length_map, hll]) hl (fun j u hu => ?_)
      rw [List.getElem?_map, List.getElem?_take] at hu
      split at hu
      · have hj : j < zs.length := by omega
        rw [List.getElem?_eq_getElem hj] at hu
        simp only [Option.map_some, Option.some.injEq] at hu
        rw [hcell j hj, ← hu]
        simp [List.getD, List.getElem?_eq_getElem hj]
      · simp at hu
    · have h9 := hw (((lits (H := H) .i64 (zs.take l)).length + (lits (H := H) .i64 (zs.drop l)).length) * 8) (by
        rw [hzz]
        simp [DataW.weights, Tryd.underlying23, bytesI])
      simp [lits] at h9
      unfold reachBytes at h9
      rw [hll]
      omega
    · have h9 := hwz y (List.mem_of_mem_take hy)
      simp [Lit.wf, IntKind.min, IntKind.max, IntKind.bits, IntKind.signed] at h9
      omega

/-- A value, opened. -/
theorem value_open {H : Type} {enc : TypeId × Value → H} {W : World} {base : Nat} {sp : Nat → Bool} {held : Bool} {fuel : Nat} {cs : List Value} {z : DataW H × List MemPlace} (h : DataW.trod enc Tryd.prog W base sp held fuel 25 cs = some z) (hw : ∀ n ∈ z.1.weights Tryd.prog 25, n ≤ reachBytes) :
    ∃ x : VA, cs = [.int .u8 x.k, .int .i64 x.n, x.vs] ∧ x.Low W.heap.size W ∧ V.Fit x.v := by
  obtain ⟨y0, y1, y2, n, rfl, hl, t0, t1, t2⟩ := trod_struct3 Tryd.underlying25 h
  simp only [cellsV] at hl
  simp only [cellsK, cellsI, cellsL] at t0 t1 t2
  have w2 := weights_part (H := H) (parts := [y0.1, y1.1, y2.1]) Tryd.underlying25 (j := 2) rfl (d := y2.1) rfl
  obtain ⟨p, e0, -, hp⟩ := DataW.trod_int Tryd.underlying22 t0
  obtain ⟨q, e1, -, hq⟩ := DataW.trod_int Tryd.underlying2 t1
  obtain ⟨v, L, e2, r2, m2, s2⟩ := longs_open t2 (fun k hk => hw k (w2 k hk))
  have hp' : 0 ≤ p ∧ p ≤ 255 := by
    have h9 := hp
    simp [Lit.wf, IntKind.min, IntKind.max, IntKind.bits, IntKind.signed] at h9
    omega
  have hq' : -9223372036854775808 ≤ q ∧ q ≤ 9223372036854775807 := by
    have h9 := hq
    simp [Lit.wf, IntKind.min, IntKind.max, IntKind.bits, IntKind.signed] at h9
    omega
  refine ⟨⟨p, q, v, L⟩, ?_, ⟨r2, m2⟩, ⟨hp'.1, hp'.2, hq'.1, hq'.2, s2, m2⟩⟩
  match cs, hl with
  | [u0, u1, u2], _ =>
    simp at e0 e1 e2
    rw [e0, e1, e2]

/-- A row of values, opened. -/
theorem values_arg {H : Type} {enc : TypeId × Value → H} {W : World} {a0 : Option Addr} {len0 cap0 base : Nat} {sp : Nat → Bool} {held : Bool} {fuel : Nat} {z : DataW H × List MemPlace} (h : DataW.trod enc Tryd.prog W base sp held fuel 31 (Value.slice a0 len0 cap0).cells.toList = some z) (hw : ∀ n ∈ z.1.weights Tryd.prog 31, n ≤ reachBytes) :
    ∃ xs : List VA, xs.length = len0 ∧ VsLow W.heap.size W (.slice a0 len0 cap0) xs ∧ xs.length ≤ 1000000000000000 ∧ ∀ x ∈ xs, V.Fit x.v := by
  rcases open_slice Tryd.underlying31 h with ⟨hcs, _⟩ | ⟨a, len, cap, m, n, D, Pl, hcs, hb, hl, hmx, hm, hz, heach⟩
  · simp [Value.cells] at hcs
    obtain ⟨rfl, rfl, rfl⟩ := hcs
    exact ⟨[], rfl, ⟨⟨none, 0, 0, 0, rfl, ⟨Nat.le_refl _, fun _ => rfl⟩, fun h => absurd h (by simp), fun j x hx => by simp [vaCells] at hx⟩, fun x hx => by simp at hx⟩, by simp, fun x hx => by simp at hx⟩
  · simp [Value.cells] at hcs
    obtain ⟨rfl, rfl, rfl⟩ := hcs
    rw [hz] at hw
    simp only [cellsV] at heach
    have hlm : len0 ≤ m := by rw [hm]; split <;> omega
    have hwl : len0 * 40 ≤ reachBytes := by
      have h9 := hw ((((List.range len0).map D).length + ((List.range (m - len0)).map fun j => D (len0 + j)).length) * 40) (by
        simp [DataW.weights, Tryd.underlying31, bytesV])
      simp at h9
      omega
    have each : ∀ k, k ≤ len0 → ∃ xs : List VA, xs.length = k ∧ (∀ (j : Nat) (u : Value), (vaCells xs)[j]? = some u → W.cell? (a.add j) = some u) ∧ ∀ x ∈ xs, x.Low W.heap.size W ∧ V.Fit x.v := by
      intro k
      induction k with
      | zero => intro _; exact ⟨[], rfl, fun j u hu => by simp [vaCells] at hu, fun x hx => by simp at hx⟩
      | succ k ih =>
        intro hk
        obtain ⟨xs, e1, e2, e3⟩ := ih (by omega)
        obtain ⟨cs', hc', ht'⟩ := heach k (by omega)
        obtain ⟨x, rfl, x1, x2⟩   := value_open ht' (fun q hq => hw q (by
          simp only [DataW.weights, Tryd.underlying31, List.mem_cons, List.mem_append]
          exact .inr (.inl (weights_elem _ (D k) (List.mem_map.2 ⟨k, List.mem_range.2 (by omega), rfl⟩) q hq))))
        obtain ⟨-, -, hcc⟩ := World.cells?_some hc'
        refine ⟨xs ++ [x], by simp [e1], fun j u hu => ?_, fun y hy => ?_⟩
        · have hle : (vaCells xs).length = k * 3 := by rw [vaCells_len, e1]
          have he : vaCells (xs ++ [x]) = vaCells xs ++ [.int .u8 x.k, .int .i64 x.n, x.vs] := by simp [vaCells, VA.cells]
          rw [he] at hu
          by_cases hj : j < k * 3
          · rw [List.getElem?_append_left (by omega)] at hu
            exact e2 j u hu
          · rw [List.getElem?_append_right (by omega), hle] at hu
            have hj3 : j - k * 3 < 3 := by have := (List.getElem?_eq_some_iff.1 hu).1; simpa using this
            have h9 := hcc (j - k * 3) hj3
            rw [hu] at h9
            have ha : (a.add (k * 3)).add (j - k * 3) = a.add j := by
              rw [Addr.add_add]; congr 1; omega
            rw [ha] at h9
            exact h9
        · rcases List.mem_append.1 hy with hy | hy
          · exact e3 y hy
          · rw [List.mem_singleton] at hy; subst hy
            exact ⟨x1, x2⟩
    obtain ⟨xs, e1, e2, e3⟩ := each len0 (Nat.le_refl _)
    have hlen : xs.length ≤ 1000000000000000 := by unfold reachBytes at hwl; omega
    refine ⟨xs, e1, ⟨?_, fun x hx => (e3 x hx).1⟩, hlen, fun x hx => (e3 x hx).2⟩
    subst e1
    cases xs with
    | nil => exact ⟨some a, cap0, 0, 0, rfl, ⟨hl, fun e => by cases e⟩, fun h => absurd h (by simp), fun j x hx => by simp [vaCells] at hx⟩
    | cons y r =>
      obtain ⟨b, off, spot⟩ := a
      have h0 := e2 0 (.int .u8 y.k) rfl
      have hspot : spot = none := by simpa [Addr.add] using World.cell?_spot h0
      subst hspot
      have hlt : b < W.heap.size := by simpa [Addr.add] using World.block_lt_of_cell? _ _ h0
      refine ⟨_, cap0, b, off, rfl, ⟨hl, fun e => by cases e⟩, fun _ => ⟨rfl, hlt⟩, fun j x hx => ?_⟩
      have := e2 j x hx
      rwa [Go.WideShapes.add_plain] at this

end Go.Proofs.YtcnmgebjbaclaaaDoor

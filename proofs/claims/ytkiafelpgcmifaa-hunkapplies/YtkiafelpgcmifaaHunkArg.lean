/-
  Arguments that are rows of hunks, opened; with what the statement's own reach says of their lengths.
-/
import Derived.Test.YtkiafelpgcmifaaArgs
import Derived.Test.YtkiafelpgcmifaaHnGreat
import Derived.Deep.Slices
import Derived.Deep.Strs
import Derived.SizedLaws
namespace Go.Proofs.Ytkiafelpgcmifaa
open Go.ChangeShapes Go.WideShapes Go.ChangeAt Go.RowKit Go.Deep Go.Deep

theorem bytes9 : Try.prog.bytesOf 9 = 16 := by kernel_rfl
theorem bytesH : Try.prog.bytesOf 40 = 56 := by kernel_rfl
theorem cellsH : Try.prog.cellsOf 40 = 3 := by kernel_rfl
theorem cellsS : Try.prog.cellsOf 22 = 1 := by kernel_rfl
theorem cellsI : Try.prog.cellsOf 3 = 1 := by kernel_rfl

/-- A row of texts, its length by its weight. -/
theorem texts_open {H : Type} {enc : TypeId × Value → H} {W : World} {base : Nat} {sp : Nat → Bool} {held : Bool} {fuel : Nat} {cs : List Value} {z : DataW H × List MemPlace} (h : DataW.trod enc Try.prog W base sp held fuel 22 cs = some z) (hw : ∀ n ∈ z.1.weights Try.prog 22, n ≤ reachBytes) :
    ∃ (ao : Option Addr) (len cap : Nat) (L : List (List UInt8)), cs = [.slice ao len cap] ∧ L.length = len ∧ RowLow W.heap.size W (.slice ao len cap) L ∧ L.length ≤ 1000000000000000 ∧ ∀ x ∈ L, x.length ≤ 9223372036854775807 := by
  have h' := h
  rcases open_strings Try.underlying22 Try.underlying9 (by kernel_rfl) h with ⟨hcs, _⟩ | ⟨x, l, c, ss, hcs, _, hl, hm, hz, hzz, hcell, hwz⟩
  · subst hcs
    obtain ⟨L, e1, e2, e3, e4⟩ := strings_arg (a0 := none) (len0 := 0) (cap0 := 0) h'
    exact ⟨none, 0, 0, L, rfl, e1, e2, by omega, e4⟩
  · subst hcs
    obtain ⟨L, e1, e2, e3, e4⟩ := strings_arg (a0 := some x) (len0 := l) (cap0 := c) h'
    refine ⟨some x, l, c, L, rfl, e1, e2, ?_, e4⟩
    have hlen : l ≤ ss.length := by rw [hz]; split <;> omega
    have h9 := hw (((strs (H := H) (ss.take l)).length + (strs (H := H) (ss.drop l)).length) * 16) (by
      rw [hzz]
      simp [DataW.weights, Try.underlying22, bytes9])
    simp [strs] at h9
    unfold reachBytes at h9
    omega

theorem weights_part {H : Type} {t : TypeId} {fs : Array Field} {parts : List (DataW H)} (hu : Try.prog.underlying t = some (.struct fs)) {j : Nat} {f : Field} {d : DataW H} (hf : fs.toList[j]? = some f) (hd : parts[j]? = some d) : ∀ n ∈ d.weights Try.prog f.type, n ∈ (DataW.agg parts).weights Try.prog t := by
  intro n hn
  have h := DataW.weights_mem_each (P := Try.prog) (ts := fs.toList.map (·.type)) (ds := parts) (j := j) (t := f.type) (d := d) (by rw [List.getElem?_map, hf]; rfl) hd n hn
  simp only [DataW.weights, hu]
  exact h

/-- A hunk, opened. -/
theorem hunk_open {H : Type} {enc : TypeId × Value → H} {W : World} {base : Nat} {sp : Nat → Bool} {held : Bool} {fuel : Nat} {cs : List Value} {z : DataW H × List MemPlace} (h : DataW.trod enc Try.prog W base sp held fuel 40 cs = some z) (hw : ∀ n ∈ z.1.weights Try.prog 40, n ≤ reachBytes) :
    ∃ x : HA, cs = [.int .i64 x.at_, x.vo, x.vn] ∧ x.Low W.heap.size W ∧ x.Fits ∧ x.Mach := by
  obtain ⟨y0, y1, y2, n, rfl, hl, t0, t1, t2⟩ := trod_struct3 Try.underlying40 h
  simp only [cellsH] at hl
  simp only [cellsS, cellsI] at t0 t1 t2
  have w1 := weights_part (H := H) (parts := [y0.1, y1.1, y2.1]) Try.underlying40 (j := 1) rfl (d := y1.1) rfl
  have w2 := weights_part (H := H) (parts := [y0.1, y1.1, y2.1]) Try.underlying40 (j := 2) rfl (d := y2.1) rfl
  obtain ⟨p, e0, -, hp⟩ := DataW.trod_int Try.underlying3 t0
  obtain ⟨a1, n1, c1, L1, e1, l1, r1, m1, s1⟩ := texts_open t1 (fun k hk => hw k (w1 k hk))
  obtain ⟨a2, n2, c2, L2, e2, l2, r2, m2, s2⟩ := texts_open t2 (fun k hk => hw k (w2 k hk))
  refine ⟨⟨p, .slice a1 n1 c1, .slice a2 n2 c2, L1, L2⟩, ?_, ⟨r1, r2⟩, ⟨?_, ⟨by show L1.length ≤ _; omega, by show L2.length ≤ _; omega⟩, s1, s2⟩, ⟨m1, m2⟩⟩
  · match cs, hl with
    | [u0, u1, u2], _ =>
      simp at e0 e1 e2
      rw [e0, e1, e2]
  · simp only [Lit.wf, IntKind.min, IntKind.max, IntKind.signed, IntKind.bits, Bool.and_eq_true, decide_eq_true_eq, if_true] at hp
    show -9223372036854775808 ≤ p ∧ p ≤ 9223372036854775807
    omega

theorem weights_elem {H : Type} {e : TypeId} : ∀ (ds : List (DataW H)) (d : DataW H), d ∈ ds → ∀ n ∈ d.weights Try.prog e, n ∈ DataW.weightsAll Try.prog e ds
  | [], d, hd, _, _ => by cases hd
  | x :: r, d, hd, n, hn => by
    simp only [DataW.weightsAll, List.mem_append]
    rcases List.mem_cons.1 hd with rfl | hd
    · exact .inl hn
    · exact .inr (weights_elem r d hd n hn)

theorem haCells_len (xs : List HA) : (haCells xs).length = xs.length * 3 := by
  induction xs with
  | nil => rfl
  | cons y r ih =>
    have e : haCells (y :: r) = [.int .i64 y.at_, y.vo, y.vn] ++ haCells r := rfl
    rw [e, List.length_append, ih]
    simp; omega

/-- A row of hunks, opened. -/
theorem hunks_open {H : Type} {enc : TypeId × Value → H} {W : World} {a0 : Option Addr} {len0 cap0 base : Nat} {sp : Nat → Bool} {held : Bool} {fuel : Nat} {z : DataW H × List MemPlace} (h : DataW.trod enc Try.prog W base sp held fuel 23 (Value.slice a0 len0 cap0).cells.toList = some z) (hw : ∀ n ∈ z.1.weights Try.prog 23, n ≤ reachBytes) :
    ∃ xs : List HA, xs.length = len0 ∧ HaLow W.heap.size W (.slice a0 len0 cap0) xs ∧ xs.length ≤ 1000000000000000 ∧ ∀ x ∈ xs, x.Fits ∧ x.Mach := by
  rcases open_slice Try.underlying23 h with ⟨hcs, _⟩ | ⟨a, len, cap, m, n, D, Pl, hcs, hb, hl, hmx, hm, hz, heach⟩
  · simp [Value.cells] at hcs
    obtain ⟨rfl, rfl, rfl⟩ := hcs
    exact ⟨[], rfl, ⟨⟨none, 0, 0, 0, rfl, ⟨Nat.le_refl _, fun _ => rfl⟩, fun h => absurd h (by simp), fun j x hx => by simp [haCells] at hx⟩, fun x hx => by simp at hx⟩, by simp, fun x hx => by simp at hx⟩
  · simp [Value.cells] at hcs
    obtain ⟨rfl, rfl, rfl⟩ := hcs
    rw [hz] at hw
    simp only [cellsH] at heach
    have hlm : len0 ≤ m := by rw [hm]; split <;> omega
    have hwl : len0 * 56 ≤ reachBytes := by
      have h9 := hw ((((List.range len0).map D).length + ((List.range (m - len0)).map fun j => D (len0 + j)).length) * 56) (by
        simp [DataW.weights, Try.underlying23, bytesH])
      simp at h9
      omega
    have each : ∀ k, k ≤ len0 → ∃ xs : List HA, xs.length = k ∧ (∀ (j : Nat) (u : Value), (haCells xs)[j]? = some u → W.cell? (a.add j) = some u) ∧ ∀ x ∈ xs, x.Low W.heap.size W ∧ x.Fits ∧ x.Mach := by
      intro k
      induction k with
      | zero => intro _; exact ⟨[], rfl, fun j u hu => by simp [haCells] at hu, fun x hx => by simp at hx⟩
      | succ k ih =>
        intro hk
        obtain ⟨xs, e1, e2, e3⟩ := ih (by omega)
        obtain ⟨cs', hc', ht'⟩ := heach k (by omega)
        obtain ⟨x, rfl, x1, x2, x3⟩ := hunk_open ht' (fun q hq => hw q (by
          simp only [DataW.weights, Try.underlying23, List.mem_cons, List.mem_append]
          exact .inr (.inl (weights_elem _ (D k) (List.mem_map.2 ⟨k, List.mem_range.2 (by omega), rfl⟩) q hq))))
        obtain ⟨-, -, hcc⟩ := World.cells?_some hc'
        refine ⟨xs ++ [x], by simp [e1], fun j u hu => ?_, fun y hy => ?_⟩
        · have hle : (haCells xs).length = k * 3 := by rw [haCells_len, e1]
          have he : haCells (xs ++ [x]) = haCells xs ++ [.int .i64 x.at_, x.vo, x.vn] := by simp [haCells]
          rw [he] at hu
          by_cases hj : j < k * 3
          · rw [List.getElem?_append_left (by omega)] at hu
            exact e2 j u hu
          · rw [List.getElem?_append_right (by omega), hle] at hu
            have hj3 : j - k * 3 < 3 := by have := (List.getElem?_eq_some_iff.1 hu).1; simpa using this
            have h9 := hcc (j - k * 3) hj3
            rw [hu] at h9
            have ha : (a.add (k * 3)).add (j - k * 3) = a.add j := by
              rw [Addr.add_add]; congr 1; omega
            rw [ha] at h9
            exact h9
        · rcases List.mem_append.1 hy with hy | hy
          · exact e3 y hy
          · rw [List.mem_singleton] at hy; subst hy
            exact ⟨x1, x2, x3⟩
    obtain ⟨xs, e1, e2, e3⟩ := each len0 (Nat.le_refl _)
    have hlen : xs.length ≤ 1000000000000000 := by unfold reachBytes at hwl; omega
    refine ⟨xs, e1, ⟨?_, fun x hx => (e3 x hx).1⟩, hlen, fun x hx => (e3 x hx).2⟩
    subst e1
    cases xs with
    | nil => exact ⟨some a, cap0, 0, 0, rfl, ⟨hl, fun e => by cases e⟩, fun h => absurd h (by simp), fun j x hx => by simp [haCells] at hx⟩
    | cons y r =>
      obtain ⟨b, off, spot⟩ := a
      have h0 := e2 0 (.int .i64 y.at_) rfl
      have hspot : spot = none := by simpa [Addr.add] using World.cell?_spot h0
      subst hspot
      have hlt : b < W.heap.size := by simpa [Addr.add] using World.block_lt_of_cell? _ _ h0
      refine ⟨_, cap0, b, off, rfl, ⟨hl, fun e => by cases e⟩, fun _ => ⟨rfl, hlt⟩, fun j x hx => ?_⟩
      have := e2 j x hx
      rwa [Go.WideShapes.add_plain] at this

end Go.Proofs.Ytkiafelpgcmifaa

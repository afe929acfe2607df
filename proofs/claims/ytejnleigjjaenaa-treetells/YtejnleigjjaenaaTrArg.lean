/-
  Arguments that are nodes, opened; with what the statement's own reach says of their lengths.
-/
import Derived.Test.YtejnleigjjaenaaArgs
import Derived.Test.YtejnleigjjaenaaTrBase
import Derived.Deep.Slices
import Derived.Deep.Strs
import Derived.SizedLaws
import Derived.Lib.SmallJoins
namespace Go.Proofs.Ytejnleigjjaenaa
open Go.ChangeShapes Go.WideShapes Go.ChangeAt Go.RowKit Go.Deep Go.Joins

theorem bytesN : Try.prog.bytesOf 25 = 56 := by kernel_rfl
theorem cellsN : Try.prog.cellsOf 25 = 4 := by kernel_rfl
theorem cellsK : Try.prog.cellsOf 22 = 1 := by kernel_rfl
theorem cellsT : Try.prog.cellsOf 9 = 1 := by kernel_rfl
theorem cellsL : Try.prog.cellsOf 2 = 1 := by kernel_rfl
theorem cellsR : Try.prog.cellsOf 23 = 1 := by kernel_rfl

theorem wt_part {H : Type} {t : TypeId} {fs : Array Field} {parts : List (DataW H)} (hu : Try.prog.underlying t = some (.struct fs)) {j : Nat} {f : Field} {d : DataW H} (hf : fs.toList[j]? = some f) (hd : parts[j]? = some d) : ∀ n ∈ d.weights Try.prog f.type, n ∈ (DataW.agg parts).weights Try.prog t := by
  intro n hn
  have h := DataW.weights_mem_each (P := Try.prog) (ts := fs.toList.map (·.type)) (ds := parts) (j := j) (t := f.type) (d := d) (by rw [List.getElem?_map, hf]; rfl) hd n hn
  simp only [DataW.weights, hu]
  exact h
theorem wt_elem {H : Type} {e : TypeId} : ∀ (ds : List (DataW H)) (d : DataW H), d ∈ ds → ∀ n ∈ d.weights Try.prog e, n ∈ DataW.weightsAll Try.prog e ds
  | [], d, hd, _, _ => by cases hd
  | x :: r, d, hd, n, hn => by
    simp only [DataW.weightsAll, List.mem_append]
    rcases List.mem_cons.1 hd with rfl | hd
    · exact .inl hn
    · exact .inr (wt_elem r d hd n hn)

/-- A node, opened. -/
theorem node_open {H : Type} {enc : TypeId × Value → H} {W : World} {sp : Nat → Bool} {held : Bool} {base : Nat} : ∀ (m : Nat) (fuel : Nat) (cs : List Value) (z : DataW H × List MemPlace), SizeOf.sizeOf z.1 < m → DataW.trod enc Try.prog W base sp held fuel 25 cs = some z → (∀ n ∈ z.1.weights Try.prog 25, n ≤ reachBytes) →
    ∃ x : N1, cs = x.cells ∧ x.Fit ∧ RowR (lowS W.heap.size) W x.v x.kids := by
  intro m
  induction m with
  | zero => intro fuel cs z h; omega
  | succ m ih =>
    intro fuel cs z hm h hw
    obtain ⟨y0, y1, y2, y3, n, rfl, hl, t0, t1, t2, t3⟩ := trod_struct4 Try.underlying25 h
    simp only [cellsN] at hl
    simp only [cellsK, cellsT, cellsL, cellsR] at t0 t1 t2 t3
    obtain ⟨p, e0, -, hp⟩ := DataW.trod_int Try.underlying22 t0
    obtain ⟨q, e2, -, hq⟩ := DataW.trod_int Try.underlying2 t2
    obtain ⟨s, e1, -, hs⟩ := DataW.trod_string Try.underlying9 t1
    have w3 := wt_part (H := H) (parts := [y0.1, y1.1, y2.1, y3.1]) Try.underlying25 (j := 3) rfl (d := y3.1) rfl
    have hrow : ∃ (v : Value) (kids : List Tr), (cs.drop 3).take 1 = [v] ∧ RowR (lowS W.heap.size) W v kids := by
      rcases open_slice Try.underlying23 t3 with ⟨hcs, _⟩ | ⟨a, len, cap, mm, n', D, Pl, hcs, hb, hl', hmx, hm', hz, heach⟩
      · refine ⟨_, [], hcs, .mk [] rfl ⟨none, 0, 0, 0, rfl, ⟨Nat.le_refl _, fun _ => rfl⟩, fun h => absurd h (by simp), fun j u hu => by simp [n1Cells] at hu⟩ (by simp) (by simp) (by simp)⟩
      · have w4 : ∀ n ∈ (DataW.slice ((List.range len).map D) ((List.range (mm - len)).map fun j => D (len + j))).weights Try.prog 23, n ∈ (DataW.agg [y0.1, y1.1, y2.1, y3.1]).weights Try.prog 25 := fun n hn => w3 n (by rw [hz]; exact hn)
        simp only [cellsN] at heach
        have hlm : len ≤ mm := by rw [hm']; split <;> omega
        have hsz3 : ∀ i, i < len → SizeOf.sizeOf (D i) < m := fun i hi => by
          have h1 : SizeOf.sizeOf (D i) < SizeOf.sizeOf ((List.range len).map D) := List.sizeOf_lt_of_mem (List.mem_map.2 ⟨i, List.mem_range.2 hi, rfl⟩)
          have h2 : SizeOf.sizeOf y3.1 < SizeOf.sizeOf [y0.1, y1.1, y2.1, y3.1] := List.sizeOf_lt_of_mem (by simp)
          have h3 : y3.1 = .slice ((List.range len).map D) ((List.range (mm - len)).map fun j => D (len + j)) := by rw [hz]
          have h4 : SizeOf.sizeOf y3.1 = 1 + SizeOf.sizeOf ((List.range len).map D) + SizeOf.sizeOf ((List.range (mm - len)).map fun j => D (len + j)) := by rw [h3]; exact DataW.slice.sizeOf_spec _ _
          have h5 : SizeOf.sizeOf (DataW.agg [y0.1, y1.1, y2.1, y3.1]) = 1 + SizeOf.sizeOf [y0.1, y1.1, y2.1, y3.1] := DataW.agg.sizeOf_spec _
          have hm5 : SizeOf.sizeOf (DataW.agg [y0.1, y1.1, y2.1, y3.1]) < m + 1 := hm
          omega
        have hwl : len * 56 ≤ reachBytes := by
          have h9 := hw ((((List.range len).map D).length + ((List.range (mm - len)).map fun j => D (len + j)).length) * 56) (w4 _ (by
            simp [DataW.weights, Try.underlying23, bytesN]))
          simp at h9
          omega
        have each : ∀ k, k ≤ len → ∃ xs : List N1, xs.length = k ∧ (∀ (j : Nat) (u : Value), (n1Cells xs)[j]? = some u → W.cell? (a.add j) = some u) ∧ ∀ x ∈ xs, x.Fit ∧ RowR (lowS W.heap.size) W x.v x.kids := by
          intro k
          induction k with
          | zero => intro _; exact ⟨[], rfl, fun j u hu => by simp [n1Cells] at hu, fun x hx => by simp at hx⟩
          | succ k ihk =>
            intro hk
            obtain ⟨xs, e1', e2', e3'⟩ := ihk (by omega)
            obtain ⟨cs', hc', ht'⟩ := heach k (by omega)
            obtain ⟨x, rfl, x1, x2⟩ := ih n' cs' (D k, Pl k) (hsz3 k (by omega)) ht' (fun r hr => hw r (w4 r (by
              simp only [DataW.weights, Try.underlying23, List.mem_cons, List.mem_append]
              exact .inr (.inl (wt_elem _ (D k) (List.mem_map.2 ⟨k, List.mem_range.2 (by omega), rfl⟩) r hr)))))
            obtain ⟨-, -, hcc⟩ := World.cells?_some hc'
            refine ⟨xs ++ [x], by simp [e1'], fun j u hu => ?_, fun y hy => ?_⟩
            · have hle : (n1Cells xs).length = k * 4 := by rw [n1Cells_len, e1']
              have he : n1Cells (xs ++ [x]) = n1Cells xs ++ x.cells := by rw [n1Cells_append]; simp [n1Cells]
              rw [he] at hu
              by_cases hj : j < k * 4
              · rw [List.getElem?_append_left (by omega)] at hu
                exact e2' j u hu
              · rw [List.getElem?_append_right (by omega), hle] at hu
                have hj4 : j - k * 4 < 4 := by have := (List.getElem?_eq_some_iff.1 hu).1; simpa [N1.cells] using this
                have h9 := hcc (j - k * 4) hj4
                rw [hu] at h9
                have ha : (a.add (k * 4)).add (j - k * 4) = a.add j := by
                  rw [Addr.add_add]; congr 1; omega
                rw [ha] at h9
                exact h9
            · rcases List.mem_append.1 hy with hy | hy
              · exact e3' y hy
              · rw [List.mem_singleton] at hy; subst hy
                exact ⟨x1, x2⟩
        obtain ⟨xs, e1', e2', e3'⟩ := each len (Nat.le_refl _)
        have hlen : xs.length ≤ 1000000000000000 := by unfold reachBytes at hwl; omega
        refine ⟨_, xs.map N1.tr, hcs, .mk xs rfl ?_ hlen (fun x hx => (e3' x hx).1) (fun x hx => (e3' x hx).2)⟩
        subst e1'
        cases xs with
        | nil => exact ⟨some a, cap, 0, 0, rfl, ⟨hl', fun e => by cases e⟩, fun h => absurd h (by simp), fun j x hx => by simp [n1Cells] at hx⟩
        | cons y r =>
          obtain ⟨b, off, spot⟩ := a
          have h0 := e2' 0 (.int .u8 y.k) rfl
          have hspot : spot = none := by simpa [Addr.add] using World.cell?_spot h0
          subst hspot
          have hlt : b < W.heap.size := by simpa [Addr.add] using World.block_lt_of_cell? _ _ h0
          refine ⟨_, cap, b, off, rfl, ⟨hl', fun e => by cases e⟩, fun _ => ⟨rfl, hlt⟩, fun j x hx => ?_⟩
          have := e2' j x hx
          rwa [Go.WideShapes.add_plain] at this
    obtain ⟨v, kids, e3, hr⟩ := hrow
    refine ⟨⟨p, s.data.toList, q, v, kids⟩, ?_, ⟨?_, ?_, ?_⟩, hr⟩
    · match cs, hl with
      | [u0, u1, u2, u3], _ =>
        simp at e0 e1 e2 e3
        rw [e0, e1, e2, e3]
        rfl
    · simp only [Lit.wf, IntKind.min, IntKind.max, IntKind.signed, IntKind.bits, Bool.and_eq_true] at hp
      show 0 ≤ p ∧ p ≤ 255
      simp at hp
      omega
    · exact hs
    · simp only [Lit.wf, IntKind.min, IntKind.max, IntKind.signed, IntKind.bits, Bool.and_eq_true, decide_eq_true_eq, if_true] at hq
      show -9223372036854775808 ≤ q ∧ q ≤ 9223372036854775807
      omega

/-- An argument that is a node. -/
theorem node_arg {H : Type} {enc : TypeId × Value → H} {W : World} {sp : Nat → Bool} {held : Bool} {base fuel : Nat} {cs : Array Value} {z : DataW H × List MemPlace} (h : DataW.trod enc Try.prog W base sp held fuel 25 (Value.agg cs).cells.toList = some z) (hw : ∀ n ∈ z.1.weights Try.prog 25, n ≤ reachBytes) :
    ∃ t, NodeR (lowS W.heap.size) W (.agg cs) t := by
  obtain ⟨x, e, hf, hr⟩ := node_open _ fuel _ z (Nat.lt_succ_self _) h hw
  have e' : cs = x.cells.toArray := by
    have : cs.toList = x.cells := e
    rw [← this]
  exact ⟨x.tr, x, by rw [e'], rfl, hf, hr⟩
end Go.Proofs.Ytejnleigjjaenaa

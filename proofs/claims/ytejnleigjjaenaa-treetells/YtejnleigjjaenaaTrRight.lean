/-
  The walks of what a right node is.
-/
import Derived.Test.YtejnleigjjaenaaTrRows
namespace Go.Proofs.Ytejnleigjjaenaa
open Go.RowKit Go.Shelf

attribute [local go_sem] Oper.semAt_some

/-- A row of kinds, as it lies in memory. -/
def KindsLow (w : World) (v : Value) (l : List Int) : Prop := CellsLow w.heap.size w v l.length (l.map (Value.int .u8))
theorem KindsLow.parts {w : World} {v : Value} {l : List Int} (h : KindsLow w v l) : ∃ ao cap b off, v = .slice ao l.length cap ∧ l.length ≤ cap ∧ (0 < l.length → ao = some ⟨b, off, none⟩) ∧ ∀ (j : Nat) (x : Int), l[j]? = some x → w.cell? ⟨b, off + j, none⟩ = some (.int .u8 x) := by
  obtain ⟨ao, cap, b, off, hv, hc, ha, hx⟩ := h
  exact ⟨ao, cap, b, off, hv, hc.1, fun h => (ha h).1, fun j x hj => hx j _ (by rw [List.getElem?_map, hj]; rfl)⟩

set_option maxRecDepth 100000 in
set_option maxHeartbeats 4000000 in
theorem endless_any (l : List Int) (v : Value) (w : World) (h : KindsLow w v l) (hl : l.length ≤ 3) : Calls Try.prog 63 #[v] w fun e w' => e = .returned (.bool (Tr.endless l)) ∧ w' = w := by
  obtain ⟨ao, cap, b, off, rfl, hcap, ha, hx⟩ := h.parts
  match l, hl with
  | [], _ =>
    simp only [List.length_nil]
    go_enter Try.func63, Try.ntmps63
    go_wp2
    go_ret
    exact ⟨rfl, rfl⟩
  | [x], _ =>
    have h0 := hx 0 x rfl
    have e := ha (by simp)
    subst e
    simp only [List.length_cons, List.length_nil, Nat.reduceAdd, Nat.add_zero] at h0 ⊢
    go_enter Try.func63, Try.ntmps63
    go_wp2
    go_ret
    refine ⟨congrArg (fun b => Ending.returned (.bool b)) ?_, rfl⟩
    rw [Bool.eq_iff_iff]; simp [Tr.endless]
  | [x, y], _ =>
    have h0 := hx 1 y rfl
    have e := ha (by simp)
    subst e
    simp only [List.length_cons, List.length_nil, Nat.reduceAdd] at h0 ⊢
    go_enter Try.func63, Try.ntmps63
    go_wp2
    go_ret
    refine ⟨congrArg (fun b => Ending.returned (.bool b)) ?_, rfl⟩
    rw [Bool.eq_iff_iff]; simp [Tr.endless]
  | [x, y, z], _ =>
    have h0 := hx 2 z rfl
    have e := ha (by simp)
    subst e
    simp only [List.length_cons, List.length_nil, Nat.reduceAdd] at h0 ⊢
    go_enter Try.func63, Try.ntmps63
    go_wp2
    go_ret
    refine ⟨congrArg (fun b => Ending.returned (.bool b)) ?_, rfl⟩
    rw [Bool.eq_iff_iff]; simp [Tr.endless]

set_option maxRecDepth 100000 in
set_option maxHeartbeats 4000000 in
theorem holds_any (l : List Int) (v : Value) (c : Nat) (w : World) (h : KindsLow w v l) (hl : l.length ≤ 3) : Calls Try.prog 45 #[v, .int .i64 c] w fun e w' => e = .returned (.bool (Tr.holdsRow l c)) ∧ w' = w := by
  have HE : Hid (_) := endless_any l v w h hl
  obtain ⟨ao, cap, b, off, rfl, hcap, ha, hx⟩ := h.parts
  clear h ha hx
  unfold Tr.holdsRow
  obtain ⟨n, hn⟩ : ∃ n, n = l.length := ⟨_, rfl⟩
  rw [← hn] at HE hl ⊢
  clear hn hcap
  go_enter Try.func45, Try.ntmps45
  go_wp2_with fail
  refine Calls.mono HE.out ?_
  rintro e w1 ⟨rfl, rfl⟩
  clear HE
  cases hE : Tr.endless l
  · go_wp2
    go_ret
    refine ⟨congrArg (fun b => Ending.returned (.bool b)) ?_, rfl⟩
    rw [Bool.eq_iff_iff, hE]; simp
    omega
  · go_wp2
    go_ret
    exact ⟨by rw [hE]; rfl, rfl⟩

set_option maxRecDepth 100000 in
set_option maxHeartbeats 4000000 in
theorem fits_in (l : List Int) (v : Value) (kid y : Int) (q : Nat) (w : World) (h : KindsLow w v l) (hl : l.length ≤ 3) (hE : Tr.endless l = false) (hq : l[q]? = some y) :
    Calls Try.prog 46 #[v, .int .u8 kid, .int .i64 q] w fun e w' => e = .returned (.bool (Tr.stands y kid)) ∧ w' = w := by
  have HE : Hid (_) := endless_any l v w h hl
  obtain ⟨ao, cap, b, off, rfl, hcap, ha, hx⟩ := h.parts
  rw [hE] at HE
  have hql := (List.getElem?_eq_some_iff.1 hq).1
  have ea := ha (by omega)
  subst ea
  have h0 := hx q y hq
  have HSF : Hid (_) := fun w => stands_any y kid w
  obtain ⟨n, hn⟩ : ∃ n, n = l.length := ⟨_, rfl⟩
  rw [← hn] at HE hql ⊢
  have d1 : decide ((0 : Int) ≤ q) = true := decide_eq_true (by omega)
  have d2 : decide ((q : Int) < n) = true := decide_eq_true (by omega)
  clear h hn hx ha hE hq hl hcap
  go_enter Try.func46, Try.ntmps46
  go_wp2_with fail
  refine Calls.mono HE.out ?_
  rintro e w1 ⟨rfl, rfl⟩
  go_wp2_with fail
  refine Calls.mono (HSF.out w1) ?_
  rintro e w2 ⟨rfl, rfl⟩
  go_wp2
  go_ret
  exact ⟨rfl, rfl⟩

set_option maxRecDepth 100000 in
set_option maxHeartbeats 4000000 in
theorem fits_out (l : List Int) (v : Value) (kid a : Int) (w : World) (h : KindsLow w v l) (hl : l.length ≤ 3) (hE : Tr.endless l = false) (hin : ¬ (0 ≤ a ∧ a < l.length)) :
    Calls Try.prog 46 #[v, .int .u8 kid, .int .i64 a] w fun e w' => e = .returned (.bool false) ∧ w' = w := by
  have HE : Hid (_) := endless_any l v w h hl
  obtain ⟨ao, cap, b, off, rfl, hcap, ha, hx⟩ := h.parts
  rw [hE] at HE
  obtain ⟨n, hn⟩ : ∃ n, n = l.length := ⟨_, rfl⟩
  rw [← hn] at HE hin ⊢
  clear h hn hx ha hE hl hcap
  by_cases h0 : 0 ≤ a
  · have d1 : decide ((0 : Int) ≤ a) = true := decide_eq_true h0
    have d2 : decide (a < (n : Int)) = false := decide_eq_false (by omega)
    go_enter Try.func46, Try.ntmps46
    go_wp2_with fail
    refine Calls.mono HE.out ?_
    rintro e w1 ⟨rfl, rfl⟩
    go_wp2
    go_ret
    exact ⟨rfl, rfl⟩
  · have d1 : decide ((0 : Int) ≤ a) = false := decide_eq_false h0
    go_enter Try.func46, Try.ntmps46
    go_wp2_with fail
    refine Calls.mono HE.out ?_
    rintro e w1 ⟨rfl, rfl⟩
    go_wp2
    go_ret
    exact ⟨rfl, rfl⟩

set_option maxRecDepth 100000 in
set_option maxHeartbeats 4000000 in
theorem fits_more (x y : Int) (v : Value) (kid a : Int) (w : World) (h : KindsLow w v [x, y]) (hE : Tr.endless [x, y] = true) :
    Calls Try.prog 46 #[v, .int .u8 kid, .int .i64 a] w fun e w' => e = .returned (.bool (decide (0 ≤ a) && Tr.stands x kid)) ∧ w' = w := by
  have HE : Hid (_) := endless_any _ v w h (by simp)
  obtain ⟨ao, cap, b, off, rfl, hcap, ha, hx⟩ := h.parts
  rw [hE] at HE
  have ea := ha (by simp)
  subst ea
  have h0 := hx 0 x rfl
  simp only [Nat.add_zero] at h0
  have HSF : Hid (_) := fun w => stands_any x kid w
  have hc2 : 2 ≤ cap := hcap
  clear hx ha hE hcap h
  simp only [List.length_cons, List.length_nil, Nat.reduceAdd] at HE ⊢
  by_cases h9 : 0 ≤ a
  · have d1 : decide ((0 : Int) ≤ a) = true := decide_eq_true h9
    have hmin : min a 0 = 0 := by omega
    go_enter Try.func46, Try.ntmps46
    go_wp2_with fail
    refine Calls.mono HE.out ?_
    rintro e w1 ⟨rfl, rfl⟩
    go_wp2_with fail
    refine Calls.mono (HSF.out w1) ?_
    rintro e w2 ⟨rfl, rfl⟩
    go_wp2
    go_ret
    exact ⟨by rw [d1]; rfl, rfl⟩
  · have d1 : decide ((0 : Int) ≤ a) = false := decide_eq_false h9
    have hmin : min a 0 = a := by omega
    go_enter Try.func46, Try.ntmps46
    go_wp2_with fail
    refine Calls.mono HE.out ?_
    rintro e w1 ⟨rfl, rfl⟩
    go_wp2
    go_ret
    exact ⟨by rw [d1]; rfl, rfl⟩

/-- Rows of the table: at most three, and endless ones of two. -/
def Tr.okRow (l : List Int) : Prop := l.length ≤ 3 ∧ (Tr.endless l = true → l.length = 2)
theorem fits_any (l : List Int) (v : Value) (kid a : Int) (w : World) (h : KindsLow w v l) (hl : Tr.okRow l) :
    Calls Try.prog 46 #[v, .int .u8 kid, .int .i64 a] w fun e w' => e = .returned (.bool (Tr.fitsRow l kid a)) ∧ w' = w := by
  unfold Tr.fitsRow
  cases hE : Tr.endless l
  · simp only [Bool.false_eq_true, if_false]
    by_cases hin : 0 ≤ a ∧ a < l.length
    · obtain ⟨q, rfl⟩ : ∃ q : Nat, a = q := ⟨a.toNat, by omega⟩
      have hq : q < l.length := by omega
      have eg : l.getD ((q : Int).toNat) 0 = l[q] := by simp [List.getD, List.getElem?_eq_getElem hq]
      rw [eg, decide_eq_true hin.1, decide_eq_true hin.2]
      exact fits_in l v kid l[q] q w h hl.1 hE (List.getElem?_eq_getElem hq)
    · have hr : (decide (0 ≤ a) && decide (a < (l.length : Int)) && Tr.stands (l.getD a.toNat 0) kid) = false := by
        rw [Bool.and_eq_false_iff]; left
        rw [Bool.and_eq_false_iff]
        by_cases h0 : 0 ≤ a
        · right; exact decide_eq_false (by omega)
        · left; exact decide_eq_false h0
      rw [hr]
      exact fits_out l v kid a w h hl.1 hE hin
  · have hl2 := hl.2 hE
    match l, hl2 with
    | [x, y], _ => exact fits_more x y v kid a w h hE

set_option maxRecDepth 100000 in
set_option maxHeartbeats 4000000 in
theorem num_any (k n : Int) (t : ByteArray) (kv : Value) (w : World) : Calls Try.prog 25 #[.agg #[.int .u8 k, .string t, .int .i64 n, kv]] w fun e w' => e = .returned (.bool (Tr.numOk k n)) ∧ Below w.heap.size w w' := by
  unfold Tr.numOk
  by_cases h20 : k = 20
  · subst h20
    go_enter Try.func25, Try.ntmps25
    go_wp2
    go_ret
    exact ⟨rfl, below_new w _⟩
  · by_cases h21 : k = 21
    · subst h21
      go_enter Try.func25, Try.ntmps25
      go_wp2
      · go_ret
        exact ⟨rfl, below_new w _⟩
      · go_ret
        rename_i hn0
        refine ⟨congrArg (fun b => Ending.returned (.bool b)) ?_, below_new w _⟩
        rw [Bool.eq_iff_iff]
        simp [hn0]
    · rw [if_neg h20, if_neg h21]
      have d0 : decide (k = 20) = false := decide_eq_false h20
      have d1 : decide (k = 21) = false := decide_eq_false h21
      go_enter Try.func25, Try.ntmps25
      go_wp2
      go_ret
      exact ⟨rfl, below_new w _⟩

set_option maxRecDepth 100000 in
set_option maxHeartbeats 4000000 in
theorem text_any (k n : Int) (t : List UInt8) (kv : Value) (w : World) (ht : t.length ≤ 9223372036854775807) : Calls Try.prog 24 #[.agg #[.int .u8 k, .string (Ln.bs t), .int .i64 n, kv]] w fun e w' => e = .returned (.bool (Tr.textOk k t)) ∧ Below w.heap.size w w' := by
  obtain ⟨X, hX⟩ : ∃ X, X = w.alloc (.cells #[.int .u8 k, .string (Ln.bs t), .int .i64 n, kv] 25) := ⟨_, rfl⟩
  have hB : Below w.heap.size w X := hX ▸ below_new w _
  have hn := World.alloc_heap_new w (.cells #[.int .u8 k, .string (Ln.bs t), .int .i64 n, kv] 25)
  rw [← hX] at hn
  have c0 : X.cell? ⟨w.heap.size, 0, none⟩ = some (.int .u8 k) := cells_at hn rfl
  have c1 : X.cell? ⟨w.heap.size, 1, none⟩ = some (.string (Ln.bs t)) := cells_at hn rfl
  have NM : Hid (_) := name_any (Ln.bs t) (by rw [Ln.bs_size]; exact ht) X
  have HB : Hid (Below w.heap.size w X) := hB
  clear hn hB
  unfold Tr.textOk
  cases hb : Tr.bears k
  · simp only [Bool.false_eq_true, if_false]
    have BE : Hid (∀ w, Calls Try.prog 31 #[.int .u8 k] w fun e w' => e = .returned (.bool false) ∧ w' = w) := fun w => by have := bears_any k w; rwa [hb] at this
    clear NM
    by_cases h23 : k = 23
    · subst h23
      rw [if_pos rfl]
      have hT : (Ln.bs t).toList = t := by rw [Lib.toList_data]; rfl
      have HE : Hid (Below w.heap.size w X ∧ X.cell? ⟨w.heap.size, 0, none⟩ = some (.int .u8 23) ∧ X.cell? ⟨w.heap.size, 1, none⟩ = some (.string (Ln.bs t))) := ⟨HB.out, c0, c1⟩
      by_cases t1 : t = [45]
      · have q1 : (t == [45]) = true := by rw [t1]; rfl
        have r1 : (decide (t = [45]) || decide (t = [33])) = true := by rw [t1]; rfl
        rw [r1]
        clear t1 r1
        go_enter Try.func24, Try.ntmps24
        go_wp2_with fail
        rw [← hX]
        clear hX
        refine (BE.out X).mono ?_
        rintro e w1 ⟨rfl, rfl⟩
        go_wp2
        all_goals (go_ret; first | exact ⟨rfl, HB.out⟩ | (exfalso; simp_all; done))
      · have q1 : (t == [45]) = false := by simpa using t1
        have r1 : (decide (t = [45]) || decide (t = [33])) = (t == [33]) := by rw [decide_eq_false t1, Bool.false_or, Bool.eq_iff_iff]; simp
        rw [r1]
        clear t1 r1
        go_enter Try.func24, Try.ntmps24
        go_wp2_with fail
        rw [← hX]
        clear hX
        refine (BE.out X).mono ?_
        rintro e w1 ⟨rfl, rfl⟩
        go_wp2
        all_goals (go_ret; first | exact ⟨rfl, HB.out⟩ | (exfalso; simp_all; done) | (refine ⟨congrArg (fun b => Ending.returned (.bool b)) ?_, HB.out⟩; simp_all))
    · rw [if_neg h23]
      have d3 : decide (k = 23) = false := decide_eq_false h23
      by_cases h24 : k = 24
      · subst h24
        rw [if_pos rfl]
        obtain ⟨Y, hY⟩ : ∃ Y, Y = X.alloc (.cells #[.string ⟨#[124, 124]⟩, .string ⟨#[38, 38]⟩, .string ⟨#[61, 61]⟩, .string ⟨#[33, 61]⟩, .string ⟨#[60]⟩, .string ⟨#[60, 61]⟩, .string ⟨#[62]⟩, .string ⟨#[62, 61]⟩, .string ⟨#[43]⟩, .string ⟨#[45]⟩, .string ⟨#[42]⟩, .string ⟨#[47]⟩, .string ⟨#[37]⟩] 9) := ⟨_, rfl⟩
        have hr : RowLow Y.heap.size Y (.slice (some ⟨X.heap.size, 0, none⟩) 13 13) Tr.signs := by
          rw [hY]; exact CellsLow.lit X (Tr.signs.map txtV) 9 13
        have HC : Hid (_) := contains_any Tr.signs _ _ (Ln.bs t) Y hr (by decide)
        have hbY : Below w.heap.size w Y := below_then HB.out (hY ▸ below_new X _)
        have HBY : Hid (Below w.heap.size w Y) := hbY
        have c1Y : Y.cell? ⟨w.heap.size, 1, none⟩ = some (.string (Ln.bs t)) := by
          have hlt : w.heap.size < X.heap.size := by rw [hX, World.size_alloc]; omega
          exact (World.cell?_of_block (w := X) (a := ⟨w.heap.size, 1, none⟩) ((hY ▸ below_new X _ : Below X.heap.size X Y).block _ hlt)).trans c1
        have hhas : has Tr.signs (Ln.bs t).data.toList = Tr.signs.contains t := rfl
        rw [hhas] at HC
        obtain ⟨p1, hp1⟩ : ∃ p, p = Tr.signs.contains t := ⟨_, rfl⟩
        rw [← hp1] at HC ⊢
        clear hp1 hr hbY
        rw [hY] at c1Y
        go_enter Try.func24, Try.ntmps24
        go_wp2_with fail
        rw [← hX]
        clear hX
        refine (BE.out X).mono ?_
        rintro e w1 ⟨rfl, rfl⟩
        go_wp2_with fail
        rw [← hY]
        clear hY
        refine Calls.mono HC.out ?_
        rintro e w2 ⟨rfl, rfl⟩
        go_wp2
        go_ret
        exact ⟨rfl, HBY.out⟩
      · rw [if_neg h24]
        have d4 : decide (k = 24) = false := decide_eq_false h24
        have hT : (Ln.bs t).toList = t := by rw [Lib.toList_data]; rfl
        go_enter Try.func24, Try.ntmps24
        go_wp2_with fail
        rw [← hX]
        clear hX
        refine (BE.out X).mono ?_
        rintro e w1 ⟨rfl, rfl⟩
        go_wp2
        go_ret
        refine ⟨congrArg (fun b => Ending.returned (.bool b)) ?_, HB.out⟩
        cases t <;> rfl
  · have BE : Hid (∀ w, Calls Try.prog 31 #[.int .u8 k] w fun e w' => e = .returned (.bool true) ∧ w' = w) := fun w => by have := bears_any k w; rwa [hb] at this
    rw [if_pos rfl]
    go_enter Try.func24, Try.ntmps24
    go_wp2_with fail
    rw [← hX]
    clear hX
    refine (BE.out X).mono ?_
    rintro e w1 ⟨rfl, rfl⟩
    go_wp2_with fail
    refine Calls.mono NM.out ?_
    rintro e w2 ⟨rfl, hb2⟩
    have HB2 : Hid (Below w.heap.size w w2) := below_then HB.out hb2
    clear hb2
    go_wp2
    go_ret
    exact ⟨rfl, HB2.out⟩
end Go.Proofs.Ytejnleigjjaenaa

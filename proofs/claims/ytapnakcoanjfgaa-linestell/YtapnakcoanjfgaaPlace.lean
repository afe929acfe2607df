/-
  The walk of lines.Place: the line and the column of the place, or of the nearest one.
-/
import Derived.Test.YtapnakcoanjfgaaSplit
namespace Go.Proofs.Ytapnakcoanjfgaa
open Go.RowKit Go.Shelf

attribute [local go_sem] Oper.semAt_some

def lineN (xs : List Str) : Nat := (xs.filter fun x => Ln.endsL x.1.data.toList).length
def colN (xs : List Str) : Nat := xs.foldl (fun c x => if Ln.endsL x.1.data.toList then c else x.1.size) 0
theorem lineN_yes (xs : List Str) (x : Str) (h : Ln.endsL x.1.data.toList = true) : lineN (xs ++ [x]) = lineN xs + 1 := by simp [lineN, h]
theorem lineN_no (xs : List Str) (x : Str) (h : Ln.endsL x.1.data.toList = false) : lineN (xs ++ [x]) = lineN xs := by simp [lineN, h]
theorem colN_yes (xs : List Str) (x : Str) (h : Ln.endsL x.1.data.toList = true) : colN (xs ++ [x]) = colN xs := by simp [colN, h]
theorem colN_no (xs : List Str) (x : Str) (h : Ln.endsL x.1.data.toList = false) : colN (xs ++ [x]) = x.1.size := by simp [colN, h]
theorem lineN_le (xs : List Str) : lineN xs ≤ xs.length := List.length_filter_le _ _

theorem lineN_foldr (L : List (List UInt8)) : ∀ xs : List Str, vals xs = L.map Ln.bs → lineN xs = L.foldr (fun x n => Ln.lineF x n) 0 := by
  induction L with
  | nil => intro xs h; have : xs = [] := List.map_eq_nil_iff.1 (h.trans rfl); subst this; rfl
  | cons a L ih =>
    intro xs h
    cases xs with
    | nil => simp [vals] at h
    | cons x xs =>
      have h1 : x.1 = Ln.bs a ∧ vals xs = L.map Ln.bs := by unfold vals at h ⊢; rw [List.map_cons, List.map_cons, List.cons.injEq] at h; exact h
      rw [List.foldr_cons, ← ih xs h1.2]
      unfold lineN Ln.lineF
      rw [List.filter_cons, h1.1, Ln.bs_toList]
      split <;> simp
theorem colN_foldl (L : List (List UInt8)) : ∀ (xs : List Str) (c : Nat), vals xs = L.map Ln.bs → xs.foldl (fun c x => if Ln.endsL x.1.data.toList then c else x.1.size) c = L.foldl (fun c x => Ln.colF x c) c := by
  induction L with
  | nil => intro xs c h; have : xs = [] := List.map_eq_nil_iff.1 (h.trans rfl); subst this; rfl
  | cons a L ih =>
    intro xs c h
    cases xs with
    | nil => simp [vals] at h
    | cons x xs =>
      have h1 : x.1 = Ln.bs a ∧ vals xs = L.map Ln.bs := by unfold vals at h ⊢; rw [List.map_cons, List.map_cons, List.cons.injEq] at h; exact h
      rw [List.foldl_cons, List.foldl_cons, ih xs _ h1.2, h1.1, Ln.bs_toList, Ln.bs_size]
      rfl

theorem place_xs (s : ByteArray) (xs : List Str) (hx : vals xs = (Ln.splitL s.data.toList).map Ln.bs) : lineN xs = Ln.cntL s.data.toList ∧ colN xs = Ln.colL s.data.toList := by
  have h := Ln.place_fold s.data.toList
  exact ⟨(lineN_foldr _ xs hx).trans h.1, (colN_foldl _ xs 0 hx).trans h.2⟩

set_option maxRecDepth 100000 in
set_option maxHeartbeats 2000000 in
theorem place_any (s : ByteArray) (hs : s.size ≤ 4398046511104) (at0 : Int) (w : World) :
    Calls Try.prog 9 #[.string s, .int .i64 at0] w fun e W' => e = .returned (.tuple #[.int .i64 (Ln.cntL (s.data.toList.take (min (max at0 0) s.size).toNat)), .int .i64 (Ln.colL (s.data.toList.take (min (max at0 0) s.size).toNat))]) ∧ Below w.heap.size w W' := by
  obtain ⟨t, htd⟩ : ∃ t, t = s.extract 0 (min (max at0 0) (s.size : Int)).toNat := ⟨_, rfl⟩
  have htl : t.data.toList = s.data.toList.take (min (max at0 0) s.size).toNat := by rw [htd, Lib.extract_data]; simp
  have hts : t.size ≤ s.size := by rw [htd, ByteArray.size_extract]; omega
  have hts1 : t.size ≤ maxLen := by unfold maxLen; omega
  obtain ⟨xs, hx⟩ := lines_str t hts1
  have hlen : xs.length ≤ 4398046511104 := by
    have h1 := congrArg List.length hx
    unfold vals at h1
    rw [List.length_map, List.length_map] at h1
    have h2 := Ln.splitL_len t.data.toList
    have h3 : t.data.toList.length = t.size := rfl
    omega
  have hfin := place_xs t xs hx
  rw [htl] at hfin
  rw [← hfin.1, ← hfin.2]
  have HT : Hid (t = s.extract 0 (min (max at0 0) (s.size : Int)).toNat) := htd
  clear htd htl hfin
  refine (callsIn_wide (n := 3)).1 ?_
  refine callsIn_of_wp_marks Try.func9 rfl trivial ?_ rfl
  simp only [Try.ntmps9, List.size_toArray, List.length_cons, List.length_nil, Nat.reduceAdd, Nat.reduceSub, Array.replicate_succ, Array.replicate_zero, List.push_toArray, List.append_toArray, List.nil_append, List.cons_append]
  gi_wp2_with (first
    | (refine ⟨trivial, ?_⟩; gi_at_call 23; refine (each_in _ _ _).mono ?_; rintro e w' ⟨rfl, rfl⟩))
  rw [← HT.out]
  clear HT
  generalize min (max at0 0) (s.size : Int) = m
  have b0 := Boxed.new w 3 (.int .i64 0)
  have b1 := Boxed.new (w.alloc (.cells #[.int .i64 0] 3)) 3 (.int .i64 0)
  have b2 := Boxed.new ((w.alloc (.cells #[.int .i64 0] 3)).alloc (.cells #[.int .i64 0] 3)) 9 (.string t)
  simp only [World.size_alloc] at b1 b2
  have hB0 : Below w.heap.size w (((w.alloc (.cells #[.int .i64 0] 3)).alloc (.cells #[.int .i64 0] 3)).alloc (.cells #[.string t] 9)) := (((Below.refl _ w).alloc (Nat.le_refl _) _).alloc (by simp) _).alloc (by simp; omega) _
  refine wpIn_rangeFunc_ownF rfl (by omega) (gf := 31) (lb := #[.pointer (some ⟨w.heap.size + 1 + 1, 0, none⟩)]) rfl trivial (enters_of Try.func31 (by kernel_rfl) rfl)
    (each_stops (3 - 1) (by omega) (w.heap.size + 1 + 1) w.heap.size t hts1 xs hx _ (by simp) b2.cell) belowK_t (belowK_b (by simp; omega)) (Below.refl _ _) (fun _ => rfl)
    (fun pre W => (Boxed W w.heap.size 3 (.int .i64 (lineN pre)) ∧ Boxed W (w.heap.size + 1) 3 (.int .i64 (colN pre))) ∧ Below w.heap.size w W)
    (fun _ _ _ => False)
    (OwnFrom.and (OwnFrom.and (Own.from (boxed_own _ _ (fun pre => .int .i64 (lineN pre))) _) (Own.from (boxed_own _ _ (fun pre => .int .i64 (colN pre))) _)) (ownFrom_below (Nat.le_refl _) (by simp; omega)))
    (fun _ _ _ _ _ hs _ _ => hs)
    ⟨⟨(b0.alloc _).alloc _, b1.alloc _⟩, hB0⟩
    (fun x => { tmps := #[Value.string s, Value.int IntKind.i64 m, undef, undef,
          Value.pointer (some { block := w.heap.size, off := 0 }),
          Value.pointer (some { block := w.heap.size + 1, off := 0 }), .string x.1, Value.int IntKind.i64 at0,
          Value.int IntKind.i64 (max at0 0), Value.string s, Value.int IntKind.i64 ↑s.size,
          Value.int IntKind.i64 m, Value.string s,
          Value.int IntKind.i64 m, Value.string t,
          Value.func (Fn.func 31) #[] #[Value.pointer (some { block := w.heap.size + 1 + 1, off := 0 })], .string x.1, undef,
          undef, undef, undef, undef, undef, undef, undef], defers := [] }) ?assign ?body ?done ?stop
  case assign =>
    intro l x W K hK
    gi_wp2
    exact hK
  case body =>
    rintro l pre x W ⟨⟨p1, p2⟩, hB⟩ hlt
    have hc1 := p1.cell
    have hf1 := p1.frozen
    have hc2 := p2.cell
    have hf2 := p2.frozen
    have hln := lineN_le pre
    cases hE : Ln.endsL x.1.data.toList with
    | true =>
      have HE : Hid (Ln.endsL x.1.data.toList = true) := hE
      clear hE
      gi_wp2_with (refine ⟨trivial, ?_⟩; gi_at_call 24; refine (CallsIn.inRound l (callsIn_wide.2 (ended_any x.1 _ x.2))).mono ?_; rintro e w' ⟨rfl, rfl⟩; rw [HE.out])
      exact ⟨KeepsOthers.setCell _ _ _, (Below.refl w.heap.size _).setCell (p := ⟨w.heap.size, 0, none⟩) (Nat.le_refl _) _,
        ⟨by rw [lineN_yes pre x HE.out]; exact p1.set _, by rw [colN_yes pre x HE.out]; exact p2.other (by omega) _⟩, hB.setCell (p := ⟨w.heap.size, 0, none⟩) (Nat.le_refl _) _⟩
    | false =>
      have HE : Hid (Ln.endsL x.1.data.toList = false) := hE
      clear hE
      gi_wp2_with (refine ⟨trivial, ?_⟩; gi_at_call 24; refine (CallsIn.inRound l (callsIn_wide.2 (ended_any x.1 _ x.2))).mono ?_; rintro e w' ⟨rfl, rfl⟩; rw [HE.out])
      exact ⟨KeepsOthers.setCell _ _ _, (Below.refl w.heap.size _).setCell (p := ⟨w.heap.size + 1, 0, none⟩) (by simp) _,
        ⟨by rw [lineN_no pre x HE.out]; exact p1.other (by omega) _, by rw [colN_no pre x HE.out]; exact p2.set _⟩, hB.setCell (p := ⟨w.heap.size + 1, 0, none⟩) (by simp) _⟩
  case done =>
    rintro D ys W hD rfl ⟨⟨p1, p2⟩, hB⟩ hK
    have hc1 := p1.cell
    have hf1 := p1.frozen
    have hc2 := p2.cell
    have hf2 := p2.frozen
    gi_wp2
    gi_region
    all_goals gi_wp2
    obtain ⟨W2, hW2⟩ : ∃ W2, W2 = ((W.setCell ⟨w.heap.size, 0, none⟩ (.int .i64 (lineN ys))).setCell ⟨w.heap.size + 1, 0, none⟩ (.int .i64 (colN ys))).drew := ⟨_, rfl⟩
    have q1 : Boxed W2 w.heap.size 3 (.int .i64 (lineN ys)) := by rw [hW2]; exact (p1.set (.int .i64 (lineN ys))).other (by omega) _
    have q2 : Boxed W2 (w.heap.size + 1) 3 (.int .i64 (colN ys)) := by rw [hW2]; exact (p2.other (by omega) _).set _
    have hK2 : W2.heap[D]? = some (.deferred (some [])) := by rw [hW2]; exact ((KeepsOthers.setCell W ⟨w.heap.size, 0, none⟩ (.int .i64 (lineN ys))).trans (KeepsOthers.setCell _ ⟨w.heap.size + 1, 0, none⟩ (.int .i64 (colN ys)))).same D _ hK rfl
    have hB2 : Below w.heap.size w W2 := by rw [hW2]; exact Below.drew ((hB.setCell (p := ⟨w.heap.size, 0, none⟩) (Nat.le_refl _) _).setCell (p := ⟨w.heap.size + 1, 0, none⟩) (by simp) _)
    rw [← hW2]
    clear hW2
    have r1 := (q1.kept (grownBy_putObj' W2 D (.deferred none)) (fun e => by cases e; rw [show W2.heap[w.heap.size]? = _ from q1] at hK2; cases hK2)).cell
    have r2 := (q2.kept (grownBy_putObj' W2 D (.deferred none)) (fun e => by cases e; rw [show W2.heap[w.heap.size + 1]? = _ from q2] at hK2; cases hK2)).cell
    refine ⟨by simp, .inl ⟨_, _, rfl, run_takeDeferred hK2, ?_⟩⟩
    refine ⟨.tuple #[.int .i64 (lineN ys), .int .i64 (colN ys)], ?_, rfl, hB2.trans (belowK_b (w := w) (Nat.le_refl _) W2 D _ _ (by simp at hD; omega) hK2 rfl rfl)⟩
    simp [results, Try.f9, go_sem, r1, r2]
  case stop =>
    rintro D c pre W _ _ h _
    exact h.elim

end Go.Proofs.Ytapnakcoanjfgaa

/-
  The walk of lines.behind: the place behind the first lines, and whether there are so many.
-/
import Derived.Test.YtapnakcoanjfgaaPlace
namespace Go.Proofs.Ytapnakcoanjfgaa
open Go.RowKit Go.Shelf

attribute [local go_sem] Oper.semAt_some

theorem w64 (n : Int) (h : -9223372036854775808 ≤ n ∧ n ≤ 9223372036854775807) : wrap64 n = n := by unfold wrap64; omega
def sumW (xs : List Str) : Int := xs.foldl (fun a x => wrap64 (a + x.1.size)) 0
theorem sumW_snoc (xs : List Str) (x : Str) : sumW (xs ++ [x]) = wrap64 (sumW xs + x.1.size) := by simp [sumW]
theorem sumW_fold (L : List (List UInt8)) : ∀ (xs : List Str) (a : Int), vals xs = L.map Ln.bs → 0 ≤ a → a + L.flatten.length ≤ 9223372036854775807 → xs.foldl (fun a x => wrap64 (a + x.1.size)) a = a + L.flatten.length := by
  induction L with
  | nil => intro xs a h _ _; have : xs = [] := List.map_eq_nil_iff.1 (h.trans rfl); subst this; simp
  | cons y L ih =>
    intro xs a h h0 h1
    cases xs with
    | nil => simp [vals] at h
    | cons x xs =>
      have h2 : x.1 = Ln.bs y ∧ vals xs = L.map Ln.bs := by unfold vals at h ⊢; rw [List.map_cons, List.map_cons, List.cons.injEq] at h; exact h
      rw [List.flatten_cons, List.length_append] at h1 ⊢
      rw [List.foldl_cons, h2.1, Ln.bs_size, w64 _ (by omega), ih xs _ h2.2 (by omega) (by omega)]
      omega
theorem sumW_eq (L : List (List UInt8)) (xs : List Str) (h : vals xs = L.map Ln.bs) (h1 : L.flatten.length ≤ 9223372036854775807) : sumW xs = L.flatten.length := by
  unfold sumW; rw [sumW_fold L xs 0 h (by omega) (by omega)]; omega

/-- The answer's second part. -/
def behB (l : List UInt8) (c : Int) : Bool := decide (0 ≤ c ∧ c ≤ (Ln.splitL l).length)

theorem beh_done (l : List UInt8) (hl : l.length ≤ 4398046511104) (xs : List Str) (hx : vals xs = (Ln.splitL l).map Ln.bs) (c : Int) (h : xs = [] ∨ (xs.length : Int) ≤ c) :
    sumW xs = Ln.behindL l c.toNat ∧ ((c - xs.length == 0) = behB l c) := by
  have hlen : xs.length = (Ln.splitL l).length := by
    have h1 := congrArg List.length hx
    unfold vals at h1
    rwa [List.length_map, List.length_map] at h1
  rw [sumW_eq _ xs hx (by rw [Ln.splitL_flatten]; omega)]
  have h2 : (c - xs.length == 0) = behB l c := by
    unfold behB
    rw [Bool.eq_iff_iff]
    simp only [beq_iff_eq, decide_eq_true_eq]
    rcases h with rfl | h
    · simp at hlen ⊢; rw [← hlen]; simp; omega
    · omega
  refine ⟨?_, h2⟩
  unfold Ln.behindL
  rw [List.take_of_length_le]
  rcases h with rfl | h
  · simp at hlen; omega
  · omega

theorem beh_stop (l : List UInt8) (hl : l.length ≤ 4398046511104) (xs : List Str) (hx : vals xs = (Ln.splitL l).map Ln.bs) (c : Int) (p : List Str) (x : Str) (hp : p ++ [x] <+: xs) (h : p = [] ∨ (p.length : Int) ≤ c) (hc : c - p.length ≤ 0) :
    sumW p = Ln.behindL l c.toNat ∧ ((c - p.length == 0) = behB l c) := by
  have hlen : xs.length = (Ln.splitL l).length := by
    have h1 := congrArg List.length hx
    unfold vals at h1
    rwa [List.length_map, List.length_map] at h1
  obtain ⟨r, hr⟩ := hp
  have hpl : p.length < xs.length := by rw [← hr]; simp
  have hpv : vals p = ((Ln.splitL l).take p.length).map Ln.bs := by
    rw [List.map_take, ← hx, ← hr]
    unfold vals
    simp
  have hbl : ((Ln.splitL l).take p.length).flatten.length ≤ l.length := Ln.behindL_le l p.length
  rw [sumW_eq _ p hpv (by omega)]
  have hcp : c.toNat = p.length := by
    rcases h with rfl | h
    · simp at hc ⊢; omega
    · omega
  refine ⟨by rw [hcp]; rfl, ?_⟩
  unfold behB
  rw [Bool.eq_iff_iff]
  simp only [beq_iff_eq, decide_eq_true_eq]
  rcases h with rfl | h
  · simp at hc ⊢; omega
  · omega

set_option maxRecDepth 100000 in
set_option maxHeartbeats 2000000 in
theorem behind_any (s : ByteArray) (hs : s.size ≤ 4398046511104) (c : Int) (hc0 : -9223372036854775808 ≤ c) (hc1 : c ≤ 9223372036854775807) (w : World) :
    Calls Try.prog 25 #[.string s, .int .i64 c] w fun e W' => e = .returned (.tuple #[.int .i64 (Ln.behindL s.data.toList c.toNat), .bool (behB s.data.toList c)]) ∧ Below w.heap.size w W' := by
  have hs1 : s.size ≤ maxLen := by unfold maxLen; omega
  obtain ⟨xs, hx⟩ := lines_str s hs1
  have hlen : xs.length ≤ 4398046511104 := by
    have h1 := congrArg List.length hx
    unfold vals at h1
    rw [List.length_map, List.length_map] at h1
    have h2 := Ln.splitL_len s.data.toList
    have h3 : s.data.toList.length = s.size := rfl
    omega
  refine (callsIn_wide (n := 3)).1 ?_
  refine callsIn_of_wp_marks Try.func25 rfl trivial ?_ rfl
  simp only [Try.ntmps25, List.size_toArray, List.length_cons, List.length_nil, Nat.reduceAdd, Nat.reduceSub, Array.replicate_succ, Array.replicate_zero, List.push_toArray, List.append_toArray, List.nil_append, List.cons_append]
  gi_wp2_with (first
    | (refine ⟨trivial, ?_⟩; gi_at_call 23; refine (each_in _ _ _).mono ?_; rintro e w' ⟨rfl, rfl⟩))
  have b0 := Boxed.new w 3 (.int .i64 0)
  have b1 := Boxed.new (w.alloc (.cells #[.int .i64 0] 3)) 3 (.int .i64 c)
  have b2 := Boxed.new ((w.alloc (.cells #[.int .i64 0] 3)).alloc (.cells #[.int .i64 c] 3)) 9 (.string s)
  simp only [World.size_alloc] at b1 b2
  have hB0 : Below w.heap.size w (((w.alloc (.cells #[.int .i64 0] 3)).alloc (.cells #[.int .i64 c] 3)).alloc (.cells #[.string s] 9)) := (((Below.refl _ w).alloc (Nat.le_refl _) _).alloc (by simp) _).alloc (by simp; omega) _
  refine wpIn_rangeFunc_ownF rfl (by omega) (gf := 31) (lb := #[.pointer (some ⟨w.heap.size + 1 + 1, 0, none⟩)]) rfl trivial (enters_of Try.func31 (by kernel_rfl) rfl)
    (each_stops (3 - 1) (by omega) (w.heap.size + 1 + 1) w.heap.size s hs1 xs hx _ (by simp) b2.cell) belowK_t (belowK_b (by simp; omega)) (Below.refl _ _) (fun _ => rfl)
    (fun pre W => ((Boxed W w.heap.size 3 (.int .i64 (sumW pre)) ∧ Boxed W (w.heap.size + 1) 3 (.int .i64 (c - pre.length))) ∧ (pre = [] ∨ (pre.length : Int) ≤ c)) ∧ Below w.heap.size w W)
    (fun cd pre W => (∃ p : List Str × Str, (Boxed W w.heap.size 3 (.int .i64 (sumW p.1)) ∧ Boxed W (w.heap.size + 1) 3 (.int .i64 (c - p.1.length))) ∧ (cd = .exit 0 ∧ pre = p.1 ++ [p.2] ∧ (p.1 = [] ∨ (p.1.length : Int) ≤ c) ∧ c - p.1.length ≤ 0)) ∧ Below w.heap.size w W)
    (OwnFrom.and (OwnFrom.and (OwnFrom.and (Own.from (boxed_own _ _ (fun pre => .int .i64 (sumW pre))) _) (Own.from (boxed_own _ _ (fun pre : List Str => .int .i64 (c - pre.length))) _)) (ownFrom_pure _ _)) (ownFrom_below (Nat.le_refl _) (by simp; omega)))
    (fun cd => OwnFrom.and (fun s A B row hs hg hr => by
      obtain ⟨p, ⟨q1, q2⟩, q3⟩ := hs
      exact ⟨p, ⟨(Own.from (boxed_own w.heap.size 3 (fun _ : Unit => .int .i64 (sumW p.1))) _) () A B row q1 hg hr, (Own.from (boxed_own (w.heap.size + 1) 3 (fun _ : Unit => .int .i64 (c - p.1.length))) _) () A B row q2 hg hr⟩, q3⟩) (ownFrom_below (Nat.le_refl _) (by simp; omega)))
    ⟨⟨⟨(b0.alloc _).alloc _, by simpa using b1.alloc _⟩, .inl rfl⟩, hB0⟩
    (fun x => { tmps := #[Value.string s, Value.int IntKind.i64 c, undef, undef, .int .i64 0, .bool false,
          Value.pointer (some { block := w.heap.size, off := 0 }),
          Value.pointer (some { block := w.heap.size + 1, off := 0 }), .string x.1, Value.int IntKind.i64 c,
          Value.string s,
          Value.func (Fn.func 31) #[] #[Value.pointer (some { block := w.heap.size + 1 + 1, off := 0 })], .string x.1, undef,
          undef, undef, undef, undef, undef, undef, undef, undef, undef, undef], defers := [] }) ?assign ?body ?done ?stop
  case assign =>
    intro l x W K hK
    gi_wp2
    exact hK
  case body =>
    rintro l pre x W ⟨⟨⟨p1, p2⟩, hpc⟩, hB⟩ hlt
    have h1 := p1.cell
    have h2 := p1.frozen
    have h3 := p2.cell
    have h4 := p2.frozen
    by_cases hle : c - pre.length ≤ 0
    · gi_wp2
      exact ⟨KeepsOthers.refl _, ⟨(pre, x), ⟨p1, p2⟩, rfl, rfl, hpc, hle⟩, hB⟩
    · have HC : Hid (pre = [] ∨ (pre.length : Int) ≤ c) := hpc
      clear hpc
      gi_wp2
      refine ⟨(KeepsOthers.setCell _ _ _).trans (KeepsOthers.setCell _ _ _), ((Below.refl w.heap.size _).setCell (p := ⟨w.heap.size, 0, none⟩) (Nat.le_refl _) _).setCell (p := ⟨w.heap.size + 1, 0, none⟩) (by simp) _,
        ⟨⟨?_, ?_⟩, .inr (by rw [List.length_append, List.length_singleton]; omega)⟩, (hB.setCell (p := ⟨w.heap.size, 0, none⟩) (Nat.le_refl _) _).setCell (p := ⟨w.heap.size + 1, 0, none⟩) (by simp) _⟩
      · rw [sumW_snoc]; exact (p1.set _).other (by omega) _
      · rw [show c - ((pre ++ [x]).length : Int) = c - pre.length - 1 from by rw [List.length_append, List.length_singleton]; omega]
        exact (p2.other (by omega) _).set _
  case done =>
    rintro D ys W hD rfl ⟨⟨⟨p1, p2⟩, hpc⟩, hB⟩ hK
    have h1 := p1.cell
    have h3 := p2.cell
    have hfin := beh_done s.data.toList hs ys hx c hpc
    have H1 : Hid (sumW ys = Ln.behindL s.data.toList c.toNat) := hfin.1
    have H2 : Hid ((c - ys.length == 0) = behB s.data.toList c) := hfin.2
    clear hfin hpc
    gi_wp2
    gi_region
    all_goals gi_wp2
    have hK2 : W.drew.heap[D]? = some (.deferred (some [])) := hK
    refine ⟨by simp, .inl ⟨_, _, rfl, run_takeDeferred hK2, ?_⟩⟩
    refine ⟨.tuple #[.int .i64 (sumW ys), .bool (c - ys.length == 0)], ?_, by rw [H1.out, H2.out], (Below.drew hB).trans (belowK_b (w := w) (Nat.le_refl _) _ D _ _ (by simp at hD; omega) hK2 rfl rfl)⟩
    simp [results, Try.f25, go_sem]
  case stop =>
    rintro D cd pre W hD hpre ⟨⟨⟨p, x⟩, ⟨p1, p2⟩, rfl, rfl, hpc, hle⟩, hB⟩ hK
    have h1 := p1.cell
    have h3 := p2.cell
    have hfin := beh_stop s.data.toList hs xs hx c p x hpre hpc hle
    have H1 : Hid (sumW p = Ln.behindL s.data.toList c.toNat) := hfin.1
    have H2 : Hid ((c - p.length == 0) = behB s.data.toList c) := hfin.2
    clear hfin hpc hle
    gi_wp2
    gi_region
    all_goals gi_wp2
    have hK2 : W.drew.heap[D]? = some (.deferred (some [])) := hK
    refine ⟨by simp, .inl ⟨_, _, rfl, run_takeDeferred hK2, ?_⟩⟩
    refine ⟨.tuple #[.int .i64 (sumW p), .bool (c - p.length == 0)], ?_, by rw [H1.out, H2.out], (Below.drew hB).trans (belowK_b (w := w) (Nat.le_refl _) _ D _ _ (by simp at hD; omega) hK2 rfl rfl)⟩
    simp [results, Try.f25, go_sem]

end Go.Proofs.Ytapnakcoanjfgaa

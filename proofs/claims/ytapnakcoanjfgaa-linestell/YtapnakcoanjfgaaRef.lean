/-
  The walks of the document's answer, clerestoryref01: Place, At, Split and Span.
-/
import Derived.Test.YtapnakcoanjfgaaKept
namespace Go.Proofs.Ytapnakcoanjfgaa
open Go.RowKit

theorem take_snoc (s : ByteArray) (k : Nat) (h : k < s.size) : s.data.toList.take (k + 1) = s.data.toList.take k ++ [s[k]] := by
  rw [List.take_succ_eq_append_getElem (by simpa using h)]; rfl
theorem drop_cons (s : ByteArray) (k : Nat) (h : k < s.size) : s.data.toList.drop k = s[k] :: s.data.toList.drop (k + 1) :=
  List.drop_eq_getElem_cons (by simpa using h)
theorem is10 (c : UInt8) : ((c.toNat : Int) == 10) = decide (c = 10) := by
  rw [Bool.eq_iff_iff]
  simp only [beq_iff_eq, decide_eq_true_eq]
  constructor
  · intro h; apply UInt8.toNat_inj.1; have : (10 : UInt8).toNat = 10 := rfl; omega
  · intro h; rw [h]; rfl
theorem cnt_len (l : List UInt8) : Ln.cntL l ≤ l.length := by
  induction l with
  | nil => simp [Ln.cntL]
  | cons c r ih => simp only [Ln.cntL, List.length_cons]; split <;> omega
theorem col_len (l : List UInt8) : Ln.colL l ≤ l.length := by
  have h := (Ln.place_at l l.length (Nat.le_refl _)).2
  rw [List.take_length] at h
  omega

set_option maxRecDepth 100000 in
set_option maxHeartbeats 1000000 in
theorem refPlace_any (s : ByteArray) (hs : s.size ≤ 4398046511104) (at0 : Int) (w : World) :
    Calls Try.prog 10 #[.string s, .int .i64 at0] w fun e w' => e = .returned (.tuple #[.int .i64 (Ln.cntL (s.data.toList.take (min (max at0 0) s.size).toNat)), .int .i64 (Ln.colL (s.data.toList.take (min (max at0 0) s.size).toNat))]) ∧ w' = w := by
  obtain ⟨m, hm⟩ : ∃ m : Nat, min (max at0 0) (s.size : Int) = m := ⟨(min (max at0 0) (s.size : Int)).toNat, by omega⟩
  have hms : m ≤ s.size := by omega
  rw [hm, Int.toNat_natCast]
  have HM : Hid (min (max at0 0) (s.size : Int) = m) := hm
  clear hm
  go_enter Try.func10, Try.ntmps10
  go_wp2
  rw [HM.out]
  go_loop [6, 7, 8] (fun a b i => ∃ k : Nat, k ≤ m ∧ i = .int .i64 k ∧ a = .int .i64 (Ln.cntL (s.data.toList.take k)) ∧ b = .int .i64 (Ln.colL (s.data.toList.take k))) (fun _ _ i => m - (intOf i).toNat)
  case atStart => exact ⟨0, Nat.zero_le _, rfl, rfl, rfl⟩
  case round =>
    obtain ⟨k, hk, rfl, rfl, rfl⟩ := hrel
    by_cases hlt : k < m
    · have hks : k < s.size := by omega
      have h1 := cnt_len (s.data.toList.take k)
      have h2 := col_len (s.data.toList.take k)
      have h3 : (s.data.toList.take k).length ≤ k := List.length_take_le _ _
      have ht := take_snoc s k hks
      by_cases h10 : s[k] = 10
      · have hb : ((s[k].toNat : Int) == 10) = true := by rw [is10]; exact decide_eq_true h10
        have H1 : Hid (Ln.cntL (s.data.toList.take (k + 1)) = Ln.cntL (s.data.toList.take k) + 1) := by show _ = _; rw [ht, Ln.cntL_snoc, if_pos h10]
        have H2 : Hid (Ln.colL (s.data.toList.take (k + 1)) = 0) := by show _ = _; rw [ht, Ln.colL_snoc, if_pos h10]
        clear ht h10
        go_wp2
        go_round
        case rel => exact ⟨k + 1, by omega, by go_num, congrArg (Value.int .i64) (by rw [H1.out]; omega), congrArg (Value.int .i64) (by rw [H2.out]; rfl)⟩
        case measure => simp [intOf]; omega
      · have hb : ((s[k].toNat : Int) == 10) = false := by rw [is10]; exact decide_eq_false h10
        have H1 : Hid (Ln.cntL (s.data.toList.take (k + 1)) = Ln.cntL (s.data.toList.take k)) := by show _ = _; rw [ht, Ln.cntL_snoc, if_neg h10]
        have H2 : Hid (Ln.colL (s.data.toList.take (k + 1)) = Ln.colL (s.data.toList.take k) + 1) := by show _ = _; rw [ht, Ln.colL_snoc, if_neg h10]
        clear ht h10
        go_wp2
        go_round
        case rel => exact ⟨k + 1, by omega, by go_num, congrArg (Value.int .i64) (by rw [H1.out]), congrArg (Value.int .i64) (by rw [H2.out]; omega)⟩
        case measure => simp [intOf]; omega
    · have hke : k = m := by omega
      subst hke
      go_wp2
      go_ret2
      exact ⟨rfl, rfl⟩

set_option maxRecDepth 100000 in
set_option maxHeartbeats 1000000 in
theorem refAt_yes (s : ByteArray) (hs : s.size ≤ 4398046511104) (n c : Nat) (w : World) (h : Ln.atOk s.data.toList n c) :
    Calls Try.prog 12 #[.string s, .int .i64 n, .int .i64 c] w fun e w' => e = .returned (.tuple #[.int .i64 ((Ln.behindL s.data.toList n : Int) + (c : Int)), .int .i64 0]) ∧ w' = w := by
  have hp := Ln.at_place s.data.toList n c h
  obtain ⟨p, hpd⟩ : ∃ p, p = Ln.behindL s.data.toList n + c := ⟨_, rfl⟩
  rw [← hpd] at hp
  have hps : p ≤ s.size := hp.1
  have hinj : ∀ q, q < p → ¬ (Ln.cntL (s.data.toList.take q) = n ∧ Ln.colL (s.data.toList.take q) = c) := by
    intro q hq he
    have h1 : q = p := Ln.place_inj s.data.toList q p (by have := hp.1; omega) hp.1 (by rw [hp.2.1, he.1]) (by rw [hp.2.2, he.2])
    omega
  have HP : Hid (p = Ln.behindL s.data.toList n + c) := hpd
  have HI : Hid (∀ q, q < p → ¬ (Ln.cntL (s.data.toList.take q) = n ∧ Ln.colL (s.data.toList.take q) = c)) := hinj
  have H2 : Hid (Ln.cntL (s.data.toList.take p) = n ∧ Ln.colL (s.data.toList.take p) = c) := hp.2
  clear hp hpd hinj h
  go_enter Try.func12, Try.ntmps12
  go_wp2
  go_loop [8] (fun i => ∃ k : Nat, k ≤ p ∧ i = .int .i64 k) (fun i => p - (intOf i).toNat)
  case atStart => exact ⟨0, Nat.zero_le _, rfl⟩
  case round =>
    obtain ⟨k, hk, rfl⟩ := hrel
    have hcl : (min (max (k : Int) 0) (s.size : Int)).toNat = k := by omega
    have HCL : Hid ((min (max (k : Int) 0) (s.size : Int)).toNat = k) := hcl
    clear hcl
    by_cases hlt : k < p
    · have hne := HI.out k hlt
      by_cases hcn : Ln.cntL (s.data.toList.take k) = n
      · have hcc : ¬ Ln.colL (s.data.toList.take k) = c := fun e => hne ⟨hcn, e⟩
        have b1 : ((Ln.cntL (s.data.toList.take k) : Int) == (n : Int)) = true := by rw [beq_iff_eq]; omega
        have b2 : ((Ln.colL (s.data.toList.take k) : Int) == (c : Int)) = false := by rw [beq_eq_false_iff_ne]; omega
        have b3 : (Ln.colL (s.data.toList.take k) == c) = false := by rw [beq_eq_false_iff_ne]; omega
        have b4 : (Ln.cntL (s.data.toList.take k) == n) = true := by rw [beq_iff_eq]; omega
        clear hne hcn hcc
        go_wp2_with (go_at_call 10; refine (refPlace_any s hs _ _).mono ?_; rintro e w' ⟨rfl, rfl⟩; rw [HCL.out])
        go_round
        case rel => exact ⟨k + 1, by omega, by go_num⟩
        case measure => simp [intOf]; omega
      · have b1 : ((Ln.cntL (s.data.toList.take k) : Int) == (n : Int)) = false := by rw [beq_eq_false_iff_ne]; omega
        have b4 : (Ln.cntL (s.data.toList.take k) == n) = false := by rw [beq_eq_false_iff_ne]; omega
        clear hne hcn
        go_wp2_with (go_at_call 10; refine (refPlace_any s hs _ _).mono ?_; rintro e w' ⟨rfl, rfl⟩; rw [HCL.out])
        go_round
        case rel => exact ⟨k + 1, by omega, by go_num⟩
        case measure => simp [intOf]; omega
    · have hke : k = p := by omega
      subst hke
      go_wp2_with (go_at_call 10; refine (refPlace_any s hs _ _).mono ?_; rintro e w' ⟨rfl, rfl⟩; rw [HCL.out, H2.out.1, H2.out.2])
      go_ret2
      exact ⟨by rw [HP.out]; rfl, rfl⟩

set_option maxRecDepth 100000 in
set_option maxHeartbeats 1000000 in
theorem refAt_no (s : ByteArray) (hs : s.size ≤ 4398046511104) (n c : Int) (w : World) (h : ¬ (0 ≤ n ∧ 0 ≤ c ∧ Ln.atOk s.data.toList n.toNat c.toNat)) :
    Calls Try.prog 12 #[.string s, .int .i64 n, .int .i64 c] w fun e w' => e = .returned (.tuple #[.int .i64 0, .int .i64 6]) ∧ w' = w := by
  have hinj : ∀ q, q ≤ s.size → ¬ ((Ln.cntL (s.data.toList.take q) : Int) = n ∧ (Ln.colL (s.data.toList.take q) : Int) = c) := by
    rintro q hq ⟨rfl, rfl⟩
    have h1 := (Ln.place_at s.data.toList q hq).1
    exact h ⟨by omega, by omega, by rw [Int.toNat_natCast, Int.toNat_natCast]; exact h1⟩
  have HI : Hid (∀ q, q ≤ s.size → ¬ ((Ln.cntL (s.data.toList.take q) : Int) = n ∧ (Ln.colL (s.data.toList.take q) : Int) = c)) := hinj
  clear hinj h
  go_enter Try.func12, Try.ntmps12
  go_wp2
  go_loop [8] (fun i => ∃ k : Nat, k ≤ s.size + 1 ∧ i = .int .i64 k) (fun i => s.size + 1 - (intOf i).toNat)
  case atStart => exact ⟨0, Nat.zero_le _, rfl⟩
  case round =>
    obtain ⟨k, hk, rfl⟩ := hrel
    by_cases hlt : k ≤ s.size
    · have hcl : (min (max (k : Int) 0) (s.size : Int)).toNat = k := by omega
      have HCL : Hid ((min (max (k : Int) 0) (s.size : Int)).toNat = k) := hcl
      clear hcl
      have hne := HI.out k hlt
      by_cases hcn : (Ln.cntL (s.data.toList.take k) : Int) = n
      · have hcc : ¬ (Ln.colL (s.data.toList.take k) : Int) = c := fun e => hne ⟨hcn, e⟩
        have b1 : ((Ln.cntL (s.data.toList.take k) : Int) == n) = true := by rw [beq_iff_eq]; exact hcn
        have b2 : ((Ln.colL (s.data.toList.take k) : Int) == c) = false := by rw [beq_eq_false_iff_ne]; exact hcc
        clear hne hcn hcc
        go_wp2_with (go_at_call 10; refine (refPlace_any s hs _ _).mono ?_; rintro e w' ⟨rfl, rfl⟩; rw [HCL.out])
        go_round
        case rel => exact ⟨k + 1, by omega, by go_num⟩
        case measure => simp [intOf]; omega
      · have b1 : ((Ln.cntL (s.data.toList.take k) : Int) == n) = false := by rw [beq_eq_false_iff_ne]; exact hcn
        clear hne hcn
        go_wp2_with (go_at_call 10; refine (refPlace_any s hs _ _).mono ?_; rintro e w' ⟨rfl, rfl⟩; rw [HCL.out])
        go_round
        case rel => exact ⟨k + 1, by omega, by go_num⟩
        case measure => simp [intOf]; omega
    · go_wp2
      go_ret2
      exact ⟨rfl, rfl⟩

/-- A text without byte 10 ahead of another. -/
theorem split_open (cur : List UInt8) (h : ∀ c ∈ cur, c ≠ 10) : Ln.splitL cur = if cur = [] then [] else [cur] := by
  induction cur with
  | nil => rfl
  | cons c r ih =>
    have h1 := ih (fun x hx => h x (List.mem_cons_of_mem _ hx))
    have hc := h c (by simp)
    unfold Ln.splitL
    rw [if_neg hc, h1]
    by_cases hr : r = []
    · subst hr; simp
    · rw [if_neg hr]; simp
theorem split_closed (cur r : List UInt8) (h : ∀ c ∈ cur, c ≠ 10) : Ln.splitL (cur ++ 10 :: r) = (cur ++ [10]) :: Ln.splitL r := by
  induction cur with
  | nil => simp [Ln.splitL]
  | cons c cur ih =>
    have h1 := ih (fun x hx => h x (List.mem_cons_of_mem _ hx))
    have hc := h c (by simp)
    rw [List.cons_append]
    conv => lhs; unfold Ln.splitL
    rw [if_neg hc, h1]
    simp

theorem extract_one (s : ByteArray) (k : Nat) (h : k < s.size) : s.extract k (k + 1) = Ln.bs [s[k]] := by
  rw [Lib.extract_eq, drop_cons s k h]
  simp [Ln.bs]

set_option maxRecDepth 100000 in
set_option maxHeartbeats 2000000 in
theorem refSplit_any (s : ByteArray) (hs : s.size ≤ 100000) (w : World) :
    Calls Try.prog 17 #[.string s] w fun e w' => ∃ v, e = .returned v ∧ w'.ownsRow w.heap.size 9 1 v (Ln.splitL s.data.toList).length ((Ln.splitL s.data.toList).map txtV) ∧ Below w.heap.size w w' := by
  obtain ⟨i0, hi, hz0, hz1, hz2⟩ := info_parts info9
  go_enter Try.func17, Try.ntmps17
  go_wp2
  go_loopw [3, 4, 5] (fun t l i wr => ∃ (k : Nat) (D : List (List UInt8)) (cur : List UInt8), k ≤ s.size ∧ i = .int .i64 k ∧ l = .string (Ln.bs cur) ∧ Hid ((∀ c ∈ cur, c ≠ 10) ∧ D ++ Ln.splitL (cur ++ s.data.toList.drop k) = Ln.splitL s.data.toList) ∧ cur.length ≤ k ∧ D.length ≤ k ∧ wr.ownsRow w.heap.size 9 1 t D.length (D.map txtV) ∧ Below w.heap.size w wr) (fun _ _ i _ => s.size - (intOf i).toNat)
  case atStart => exact ⟨0, [], [], Nat.zero_le _, rfl, rfl, ⟨by simp, by simp⟩, Nat.le_refl _, Nat.le_refl _, World.ownsRow_nil _ _ _ _, Below.refl _ _⟩
  case round =>
    obtain ⟨k, D, cur, hk, rfl, rfl, HS, hcl, hdl, hown, hB⟩ := hrel
    by_cases hlt : k < s.size
    · have hd := drop_cons s k hlt
      have HX : Hid (s.extract k (k + 1) = Ln.bs [s[k]]) := extract_one s k hlt
      have hsz : (Ln.bs cur).size + (s.extract k (k + 1)).size ≤ 140737488355328 := by rw [HX.out, Ln.bs_size, Ln.bs_size]; simp; omega
      by_cases h10 : s[k] = 10
      · have hb : ((s[k].toNat : Int) == 10) = true := by rw [is10]; exact decide_eq_true h10
        have HN : Hid ((D ++ [cur ++ [10]]) ++ Ln.splitL ([] ++ s.data.toList.drop (k + 1)) = Ln.splitL s.data.toList) := by
          show _ = _
          have h2 := HS.out.2
          rw [hd, h10, split_closed _ _ HS.out.1] at h2
          rw [← h2]; simp
        have HE : Hid (Ln.bs cur ++ s.extract k (k + 1) = Ln.bs (cur ++ [10])) := by show _ = _; rw [HX.out, bs_append, h10]
        clear hd h10
        go_wp2_with (at_builtin; refine wpList_append_own _ rfl _ _ 33 rfl w.heap.size 9 i0 (.string ⟨#[]⟩) 1 16 Try.underlying33 hi hz0 hz1 hz2 rfl (by decide) _ _ _ rfl (hown.alloc _) ⟨wr.heap.size, 0, none⟩ 1 1 [.string (Ln.bs cur ++ s.extract k (k + 1))] rfl rfl (cell_one_new _ _ _) (by simp [Value.oneCell']) (by unfold maxLen; omega) (by omega) (by have := hB.size; simp; omega) ?_; intro v' w1 hown' hgrow _)
        go_roundw
        case rel =>
          refine ⟨k + 1, D ++ [cur ++ [10]], [], by omega, by go_num, rfl, ⟨by simp, HN.out⟩, by simp, by simp; omega, ?_, ?_⟩
          · rw [HE.out] at hown'
            rw [List.length_append, List.map_append]; exact hown'
          · exact (hB.alloc hB.size _).grown hgrow (by have := hB.size; simp; omega) (fun q hq => (hown.lt q hq).1)
        case measure => simp [intOf]; omega
      · have hb : ((s[k].toNat : Int) == 10) = false := by rw [is10]; exact decide_eq_false h10
        have HN : Hid ((∀ c ∈ cur ++ [s[k]], c ≠ 10) ∧ D ++ Ln.splitL ((cur ++ [s[k]]) ++ s.data.toList.drop (k + 1)) = Ln.splitL s.data.toList) := by
          refine ⟨?_, ?_⟩
          · intro c hc
            rcases List.mem_append.1 hc with hc | hc
            · exact HS.out.1 c hc
            · simp at hc; rw [hc]; exact h10
          · have h2 := HS.out.2
            rw [hd] at h2
            rw [← h2]; simp
        have HE : Hid (Ln.bs cur ++ s.extract k (k + 1) = Ln.bs (cur ++ [s[k]])) := by show _ = _; rw [HX.out, bs_append]
        clear hd h10
        go_wp2
        go_roundw
        case rel => exact ⟨k + 1, D, cur ++ [s[k]], by omega, by go_num, by rw [HE.out], HN.out, by simp; omega, by omega, hown, hB⟩
        case measure => simp [intOf]; omega
    · have hke : k = s.size := by omega
      have hfin : D ++ (if cur = [] then [] else [cur]) = Ln.splitL s.data.toList := by
        have h2 := HS.out.2
        rw [hke, show s.data.toList.drop s.size = [] from List.drop_of_length_le (Nat.le_refl _), List.append_nil, split_open _ HS.out.1] at h2
        exact h2
      by_cases hce : cur = []
      · subst hce
        rw [if_pos rfl, List.append_nil] at hfin
        have HF : Hid (D = Ln.splitL s.data.toList) := hfin
        have hbe : (Ln.bs []) = ⟨#[]⟩ := rfl
        clear hfin
        go_wp2
        go_ret
        exact ⟨_, rfl, by rw [← HF.out]; exact hown, hB⟩
      · rw [if_neg hce] at hfin
        have HF : Hid (D ++ [cur] = Ln.splitL s.data.toList) := hfin
        have hne : (Ln.bs cur).toList ≠ [] := by rw [Lib.toList_data, Ln.bs_toList]; exact hce
        have hb2 : (!(Ln.bs cur).toList.isEmpty) = true := by simpa using hne
        clear hfin hce
        go_wp2_with (at_builtin; refine wpList_append_own _ rfl _ _ 33 rfl w.heap.size 9 i0 (.string ⟨#[]⟩) 1 16 Try.underlying33 hi hz0 hz1 hz2 rfl (by decide) _ _ _ rfl (hown.alloc _) ⟨wr.heap.size, 0, none⟩ 1 1 [.string (Ln.bs cur)] rfl rfl (cell_one_new _ _ _) (by simp [Value.oneCell']) (by unfold maxLen; omega) (by omega) (by have := hB.size; simp; omega) ?_; intro v' w1 hown' hgrow _)
        go_ret
        refine ⟨_, rfl, ?_, (hB.alloc hB.size _).grown hgrow (by have := hB.size; simp; omega) (fun q hq => (hown.lt q hq).1)⟩
        rw [← HF.out, List.length_append, List.map_append]; exact hown'

set_option maxRecDepth 100000 in
set_option maxHeartbeats 1000000 in
theorem refSpan_no (s : ByteArray) (hs : s.size ≤ 100000) (n m : Int) (w : World) (h : ¬ (0 ≤ n ∧ n ≤ m ∧ m ≤ (Ln.splitL s.data.toList).length)) :
    Calls Try.prog 14 #[.string s, .int .i64 n, .int .i64 m] w fun e w' => e = .returned (spanV 0 0 2) ∧ Below w.heap.size w w' := by
  obtain ⟨L, hL⟩ : ∃ L, L = Ln.splitL s.data.toList := ⟨_, rfl⟩
  rw [← hL] at h
  have hcase : n < 0 ∨ (0 ≤ n ∧ m < n) ∨ (0 ≤ n ∧ n ≤ m ∧ (L.length : Int) < m) := by omega
  have HL : Hid (L = Ln.splitL s.data.toList) := hL
  clear h hL
  rcases hcase with h1 | ⟨h1, h2⟩ | ⟨h1, h2, h3⟩
  all_goals
    go_enter Try.func14, Try.ntmps14
    go_wp2_with fail
    refine (refSplit_any s hs _).mono ?_
    rintro e w1 ⟨v, rfl, hown, hb1⟩
    rw [← HL.out] at hown
    obtain ⟨ao, cap, b, off, rfl, _, _⟩ := (RowLow.of_owns hown).parts
    obtain ⟨hlt, c0, c1, f0, f1⟩ := two_new hb1 (Below.refl _ w1)
    clear hown
    go_wp2
    exact bodyPost_ret (v := spanV 0 0 2) (by simp [results, Try.results14, go_sem, spanV, c0, c1]) rfl ⟨rfl, two_below hb1 (Below.refl _ w1) _ _⟩

set_option maxRecDepth 100000 in
set_option maxHeartbeats 4000000 in
theorem refSpan_yes (s : ByteArray) (hs : s.size ≤ 100000) (n m : Nat) (w : World) (h1 : n ≤ m) (h2 : m ≤ (Ln.splitL s.data.toList).length) :
    Calls Try.prog 14 #[.string s, .int .i64 n, .int .i64 m] w fun e w' => e = .returned (spanV (Ln.behindL s.data.toList n) (Ln.behindL s.data.toList m) 0) ∧ Below w.heap.size w w' := by
  obtain ⟨L, hL⟩ : ∃ L, L = Ln.splitL s.data.toList := ⟨_, rfl⟩
  have hp1 : Ln.behindL s.data.toList n = (Ln.bs (L.take n).flatten).size := by rw [hL]; rfl
  have hp2 : Ln.behindL s.data.toList m = (Ln.bs (L.take m).flatten).size := by rw [hL]; rfl
  rw [hp1, hp2]
  rw [← hL] at h2
  have hll : L.length ≤ 100000 := by
    have h1 := Ln.splitL_len s.data.toList
    rw [← hL] at h1
    exact Nat.le_trans h1 hs
  have hfl : L.flatten.length ≤ 100000 := by rw [hL, Ln.splitL_flatten]; exact hs
  have hf1 := take_flat_le L n
  have hf2 := take_flat_le L m
  have HL : Hid (L = Ln.splitL s.data.toList) := hL
  clear hp1 hp2 hL
  go_enter Try.func14, Try.ntmps14
  go_wp2_with fail
  refine (refSplit_any s hs _).mono ?_
  rintro e w1 ⟨v, rfl, hown, hb1⟩
  rw [← HL.out] at hown
  have hlow := RowLow.of_owns hown
  obtain ⟨ao, cap, rfl, hcap⟩ : ∃ ao cap, v = .slice ao L.length cap ∧ L.length ≤ cap := by
    rcases hown.2 with ⟨rfl, h0⟩ | ⟨g, cap, cur, rfl, _, _, hnc, _⟩
    · exact ⟨none, 0, by rw [h0], by omega⟩
    · exact ⟨_, cap, rfl, hnc⟩
  obtain ⟨hlt, c0, c1, f0, f1⟩ := two_new hb1 (Below.refl _ w1)
  have hcl : ∀ (k : Nat), k ≤ L.length → ∀ (wd : World), wd.heap = w1.heap → RowAt wd (.slice ao k cap) (L.take k) := by
    intro k hk wd hwd
    have hlen : (L.take k).length = k := by rw [List.length_take]; omega
    rcases hlow with ⟨rfl, _⟩ | ⟨b, off, cap', _, hv, hc⟩
    · have : k = 0 := by simpa using hk
      subst this
      exact .inl ⟨rfl, _, _, rfl⟩
    · injection hv with e1 e2 e3
      subst e1
      refine .inr ⟨b, off, cap, by rw [hlen], fun j x hx => ?_⟩
      rw [List.getElem?_take] at hx
      split at hx
      · have := hc j x hx
        unfold World.cell? at this ⊢
        rw [hwd]; exact this
      · simp at hx
  have HCL : Hid (∀ (k : Nat), k ≤ L.length → ∀ (wd : World), wd.heap = w1.heap → RowAt wd (.slice ao k cap) (L.take k)) := hcl
  clear hcl hlow hown
  have i1 : (0 : Int) ≤ (n : Int) := by omega
  have i2 : (n : Int) ≤ (m : Int) := by omega
  have i3 : (m : Int) ≤ (L.length : Int) := by omega
  have i4 : (m : Int) ≤ (cap : Int) := by omega
  have i5 : (n : Int) ≤ (cap : Int) := by omega
  have hk1 : n ≤ L.length := by omega
  have hk2 : m ≤ L.length := by omega
  have hq1 : (L.take n).flatten.length ≤ 140737488355328 := by omega
  have hq2 : (L.take m).flatten.length ≤ 140737488355328 := by omega
  have ht1 : (L.take n).length ≤ 9223372036854775807 := by rw [List.length_take]; omega
  have ht2 : (L.take m).length ≤ 9223372036854775807 := by rw [List.length_take]; omega
  go_wp2_with fail
  go_region_with (first
    | (go_at_call_of 20 (Value.slice ao n cap); refine (refJoin_any (L.take n) _ _ ?_ hq1 ht1).mono ?_; exact HCL.out n hk1 _ rfl; rintro e w' ⟨rfl, rfl⟩)
    | (go_at_call_of 20 (Value.slice ao m cap); refine (refJoin_any (L.take m) _ _ ?_ hq2 ht2).mono ?_; exact HCL.out m hk2 _ rfl; rintro e w' ⟨rfl, rfl⟩))
  all_goals go_wp2
  all_goals exact bodyPost_ret (v := spanV (Ln.bs (L.take n).flatten).size (Ln.bs (L.take m).flatten).size 0) (by simp [results, Try.results14, go_sem, spanV, c0, c1]) rfl ⟨rfl, Below.drew (two_below hb1 (Below.refl _ w1) _ _)⟩

end Go.Proofs.Ytapnakcoanjfgaa

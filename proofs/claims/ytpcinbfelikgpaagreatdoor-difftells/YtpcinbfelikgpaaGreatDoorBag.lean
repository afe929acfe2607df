/-
  The bag of all lists that were found (clerestorykit): a list of texts put into it, a hunk, a row of hunks.
-/
import Derived.Test.YtpcinbfelikgpaaGreatDoorMarkHunks
namespace Go.Proofs.YtpcinbfelikgpaaGreatDoor
open Go.RowKit Go.Shelf

attribute [local go_sem] Oper.semAt_some

theorem below_nw (A : World) (o : Obj) : Below A.heap.size A (A.alloc o) := (Below.refl _ A).alloc (Nat.le_refl _) _
/-- What lay below B is as it was; and whatever holds texts or hunks. -/
def KeepSH (B : Nat) (W W' : World) : Prop := Below B W W' ∧ ∀ (k : Nat) (c : Array Value) (t : TypeId) (fr : Nat × Nat), W.heap[k]? = some (.cells c t fr) → t = 9 ∨ t = 39 → W'.heap[k]? = some (.cells c t fr)
theorem KeepSH.refl (B : Nat) (W : World) : KeepSH B W W := ⟨Below.refl _ _, fun _ _ _ _ h _ => h⟩
theorem KeepSH.trans {B : Nat} {W X Y : World} (h : KeepSH B W X) (k : KeepSH B X Y) : KeepSH B W Y := ⟨h.1.trans k.1, fun j c t fr hj h1 => k.2 j c t fr (h.2 j c t fr hj h1) h1⟩
theorem KeepSH.of_below {B : Nat} {W X : World} (h : Below W.heap.size W X) (hn : B ≤ W.heap.size) : KeepSH B W X :=
  ⟨h.mono hn, fun j _ _ _ hj _ => (h.block j (Array.getElem?_eq_some_iff.1 hj).1).trans hj⟩
theorem KeepSH.owns {B B' k size : Nat} {e : TypeId} {W X : World} (h : KeepSH B W X) {v : Value} {xs : List Value} (ho : W.ownsRow B' e size v k xs) (h1 : e = 9 ∨ e = 39) : X.ownsRow B' e size v k xs := by
  refine ⟨ho.1, ?_⟩
  rcases ho.2 with h0 | ⟨g, cap, cur, hv, hb, hg, h3⟩
  · exact .inl h0
  · exact .inr ⟨g, cap, cur, hv, hb, h.2 g _ _ _ hg h1, h3⟩
theorem KeepSH.of_grown {e : TypeId} {B n size : Nat} {W W' : World} {v : Value} {xs : List Value} (hrow : W.ownsRow B e size v n xs) (hg : W.grownBy W' v.ownBlock) (hn : B ≤ W.heap.size) (h1 : e ≠ 9) (h2 : e ≠ 39) : KeepSH B W W' := by
  have h := KeepT.of_grown hrow hg hn
  exact ⟨h.1, fun j c t fr hj h3 => h.2 j c t fr hj (fun e0 => by
    rcases h3 with h3 | h3
    · exact h1 (e0.symm.trans h3)
    · exact h2 (e0.symm.trans h3))⟩
theorem KeepSH.of_set {B b : Nat} {W : World} {c : Array Value} {t : TypeId} (h : W.heap[b]? = some (.cells c t (0, 0))) (hB : B ≤ b) (h1 : t ≠ 9) (h2 : t ≠ 39) (i : Nat) (u : Value) : KeepSH B W (W.setCell ⟨b, i, none⟩ u) := by
  have hg := grown_set W b i u
  refine ⟨⟨hg.os, hg.tape, hg.output, hg.size, fun k hk => hg.block k (by have := (Array.getElem?_eq_some_iff.1 h).1; omega) (fun e => by cases e; omega)⟩, fun j c' t' fr hj h3 => ?_⟩
  refine (hg.block j (Array.getElem?_eq_some_iff.1 hj).1 (fun e0 => ?_)).trans hj
  injection e0 with e0
  subst e0
  rw [h] at hj
  injection hj with q
  injection q with _ q _
  rcases h3 with h3 | h3
  · exact h1 (q.trans h3)
  · exact h2 (q.trans h3)

/-- The cells of a bag of texts and of hunks. -/
def bagC (tv hv : Value) : Array Value := #[.slice none 0 0, .slice none 0 0, .slice none 0 0, .slice none 0 0, tv, .slice none 0 0, .slice none 0 0, .slice none 0 0, .slice none 0 0, .slice none 0 0, .slice none 0 0, .slice none 0 0, hv, .slice none 0 0, .slice none 0 0, .slice none 0 0, .slice none 0 0, .slice none 0 0, .slice none 0 0, .slice none 0 0, .slice none 0 0]
/-- The bag at block b holds these lists of texts, and these of hunks. -/
def BagIs (B b : Nat) (T H : List Value) (W : World) : Prop :=
  ∃ tv hv, W.heap[b]? = some (.cells (bagC tv hv) 75 (0, 0)) ∧ B ≤ b ∧ W.ownsRow B 22 1 tv T.length T ∧ W.ownsRow B 28 1 hv H.length H
theorem owns_set {W : World} {B b n size : Nat} {e t : TypeId} {v : Value} {xs : List Value} {c : Array Value} (ho : W.ownsRow B e size v n xs) (h : W.heap[b]? = some (.cells c t (0, 0))) (ht : t ≠ e) (i : Nat) (u : Value) : (W.setCell ⟨b, i, none⟩ u).ownsRow B e size v n xs := by
  refine ho.kept (grown_set W b i u) ?_
  rcases ho.2 with ⟨rfl, _⟩ | ⟨g, cap, cur, rfl, _, hg, _⟩
  · exact .inl rfl
  · right
    intro e0
    have : g = b := by simpa [Value.ownBlock] using e0
    subst this
    rw [h] at hg
    injection hg with q
    injection q with _ q _
    exact ht q
theorem heap_grown {W W' : World} {B b n size : Nat} {e t : TypeId} {v : Value} {xs : List Value} {c : Array Value} (ho : W.ownsRow B e size v n xs) (hg : W.grownBy W' v.ownBlock) (h : W.heap[b]? = some (.cells c t (0, 0))) (ht : t ≠ e) : W'.heap[b]? = some (.cells c t (0, 0)) := by
  refine (hg.block b (Array.getElem?_eq_some_iff.1 h).1 (fun e0 => ?_)).trans h
  rcases ho.2 with ⟨rfl, _⟩ | ⟨g, cap, cur, rfl, _, hgb, _⟩
  · cases e0
  · obtain rfl : b = g := by simpa [Value.ownBlock] using e0
    rw [h] at hgb
    injection hgb with q
    injection q with _ q _
    exact ht q

theorem infoTs : (Tryz.prog.info? 22).map (fun i => (i.zero, i.size, i.bytes)) = some (some (.slice none 0 0), 1, 24) := by kernel_rfl
theorem infoHs : (Tryz.prog.info? 28).map (fun i => (i.zero, i.size, i.bytes)) = some (some (.slice none 0 0), 1, 24) := by kernel_rfl

set_option maxRecDepth 100000 in
set_option maxHeartbeats 4000000 in
theorem putTexts_any (B b : Nat) (T H : List Value) (ao : Option Addr) (n cap : Nat) (w : World) (hbag : BagIs B b T H w) (hB : B ≤ w.heap.size) (hT : T.length ≤ 100000) :
    Calls Tryz.prog 56 #[.pointer (some ⟨b, 0, none⟩), .slice ao n cap] w fun e w' => e = .returned (.tuple #[]) ∧ BagIs B b (T ++ [.slice ao n cap]) H w' ∧ KeepSH B w w' := by
  obtain ⟨tv, hv, h0, hBb, h1, h2⟩ := hbag
  obtain ⟨i0, hi, hz0, hz1, hz2⟩ := info_parts infoTs
  have c4 : w.cell? ⟨b, 4, none⟩ = some tv := by rw [Lib.cell_of_heap h0]; rfl
  obtain ⟨X, hX⟩ : ∃ X, X = w.alloc (.cells #[.slice ao n cap] 22) := ⟨_, rfl⟩
  have bX : Below w.heap.size w X := by rw [hX]; exact below_nw w _
  have hsrc : ∀ (j : Nat) (u : Value), [Value.slice ao n cap][j]? = some u → X.cell? ((⟨w.heap.size, 0, none⟩ : Addr).add j) = some u := by rw [hX]; exact cells_new w [.slice ao n cap] 22
  obtain ⟨v', W', hrun, hown, hgr, -⟩ := run_append_own (P := Tryz.prog) X B 58 58 22 i0 (.slice none 0 0) 1 24 Tryz.underlying58 hi hz0 hz1 hz2 rfl (by decide) tv T.length T (owns_below h1 bX) ⟨w.heap.size, 0, none⟩ 1 1 [.slice ao n cap] rfl hsrc (by simp [Value.oneCell']) (by unfold maxLen; omega) (by omega) (by have := bX.size; omega)
  obtain ⟨gv, cv, rfl⟩ := ownsRow_succ hown
  have h0' : W'.heap[b]? = some (.cells (bagC tv hv) 75 (0, 0)) := heap_grown (owns_below h1 bX) hgr ((bX.block b (Array.getElem?_eq_some_iff.1 h0).1).trans h0) (by decide)
  have c4' : W'.cell? ⟨b, 4, none⟩ = some tv := by rw [Lib.cell_of_heap h0']; rfl
  have f4' : W'.frozen? ⟨b, 4, none⟩ = false := frozen_of_row W' b 4 _ _ h0'
  have HF : Hid (BagIs B b (T ++ [.slice ao n cap]) H (W'.setCell ⟨b, 4, none⟩ (.slice (some ⟨gv, 0, none⟩) (T.length + 1) cv)) ∧ KeepSH B w (W'.setCell ⟨b, 4, none⟩ (.slice (some ⟨gv, 0, none⟩) (T.length + 1) cv))) := by
    refine ⟨⟨_, hv, heap_setCell_same W' b 4 _ _ _ h0', hBb, ?_, ?_⟩, ?_⟩
    · rw [List.length_append]; exact owns_set hown h0' (by decide) 4 _
    · exact owns_set ((owns_below h2 bX).kept hgr (by
        rcases h1.2 with ⟨e, _⟩ | ⟨g, cp, cur, e, _, hg, _⟩
        · rw [e]
          rcases h2.2 with ⟨e, _⟩ | ⟨g, cp, cur, e, _⟩
          · exact .inl (by rw [e]; rfl)
          · exact .inr (by rw [e]; simp [Value.ownBlock])
        · rcases h2.2 with ⟨e', _⟩ | ⟨g', cp', cur', e', _, hg', _⟩
          · exact .inl (by rw [e']; rfl)
          · right
            rw [e, e']
            intro q
            have : g' = g := by simpa [Value.ownBlock] using q
            subst this
            rw [hg] at hg'
            injection hg' with q
            injection q with _ q _
            exact absurd q (by decide))) h0' (by decide) 4 _
    · exact ((KeepSH.of_below bX hB).trans (KeepSH.of_grown (owns_below h1 bX) hgr (Nat.le_trans hB bX.size) (by decide) (by decide))).trans (KeepSH.of_set h0' hBb (by decide) (by decide) 4 _)
  clear h0 h1 h2 hown hgr h0' hsrc bX
  subst hX
  refine (callsIn_wide (n := 3)).1 ?_
  refine callsIn_of_wp Tryz.func56 rfl trivial ?_ rfl
  simp only [Tryz.ntmps56, List.size_toArray, List.length_cons, List.length_nil, Nat.reduceAdd, Nat.reduceSub, Array.replicate_succ, Array.replicate_zero, List.push_toArray, List.append_toArray, List.nil_append, List.cons_append]
  gi_wp2_with (gi_at_builtin; refine list_append rfl _ _ 58 rfl _ _ _ _ rfl rfl hrun ?_)
  go_end0
  exact ⟨rfl, HF.out⟩

theorem bag_draw {B b : Nat} {T H : List Value} {w : World} (h : BagIs B b T H w) (k : Nat) : BagIs B b T H (w.drewN k) := h
theorem bag_below' {B b : Nat} {T H : List Value} {w w' : World} (h : BagIs B b T H w) (hb : Below w.heap.size w w') : BagIs B b T H w' := by
  obtain ⟨tv, hv, h0, hBb, h1, h2⟩ := h
  exact ⟨tv, hv, (hb.block b (Array.getElem?_eq_some_iff.1 h0).1).trans h0, hBb, owns_below h1 hb, owns_below h2 hb⟩

set_option maxRecDepth 100000 in
set_option maxHeartbeats 4000000 in
theorem oneHunk_any (B b : Nat) (T H : List Value) (x : HV) (a1 a2 : Option Addr) (n1 n2 c1 c2 : Nat) (h1 : x.vo = .slice a1 n1 c1) (h2 : x.vn = .slice a2 n2 c2) (w : World) (hbag : BagIs B b T H w) (hB : B ≤ w.heap.size) (hT : T.length ≤ 99990) :
    Calls Tryz.prog 32 #[.pointer (some ⟨b, 0, none⟩), x.val] w fun e w' => e = .returned (.tuple #[]) ∧ BagIs B b (T ++ [x.vo, x.vn]) H w' ∧ KeepSH B w w' := by
  obtain ⟨k, vo, vn, L1, L2⟩ := x
  simp only at h1 h2
  subst h1 h2
  simp only [HV.val, hkV]
  obtain ⟨X, hX⟩ : ∃ X, X = w.alloc (.cells #[.int .i64 k, .slice a1 n1 c1, .slice a2 n2 c2] 39) := ⟨_, rfl⟩
  have bX : Below w.heap.size w X := by rw [hX]; exact below_nw w _
  have HG : Hid (BagIs B b T H X) := bag_below' hbag bX
  have KX : Hid (KeepSH B w X) := KeepSH.of_below bX hB
  have hBX : B ≤ X.heap.size := Nat.le_trans hB bX.size
  have sX : w.heap.size < X.heap.size := by rw [hX]; simp
  have hXh : X.heap[w.heap.size]? = some (.cells #[.int .i64 k, .slice a1 n1 c1, .slice a2 n2 c2] 39 (0, 0)) := by rw [hX]; exact World.alloc_heap_new w _
  have HH : Hid (_) := hXh
  clear hbag bX hXh
  go_enter Tryz.func32, Tryz.ntmps32
  go_wp2_with fail
  rw [← hX]
  refine (putTexts_any B b T H a1 n1 c1 X HG.out hBX (by omega)).mono ?_
  rintro e w1 ⟨rfl, hb1, k1⟩
  have hw1 : w1.heap[w.heap.size]? = some (.cells #[.int .i64 k, .slice a1 n1 c1, .slice a2 n2 c2] 39 (0, 0)) := k1.2 _ _ _ _ HH.out (.inr rfl)
  have c2' : w1.cell? ⟨w.heap.size, 2, none⟩ = some (.slice a2 n2 c2) := by rw [Lib.cell_of_heap hw1]; rfl
  have H1 : Hid (_) := hb1
  have K1 : Hid (_) := k1
  have hB1 : B ≤ w1.heap.size := Nat.le_trans hBX k1.1.size
  clear hb1 k1 hw1 HG HH
  go_wp2_with fail
  refine (putTexts_any B b (T ++ [Value.slice a1 n1 c1]) H a2 n2 c2 w1 H1.out hB1 (by simp; omega)).mono ?_
  rintro e w2 ⟨rfl, hb2, k2⟩
  go_wp2
  go_end0
  refine ⟨rfl, ?_, (KX.out.trans K1.out).trans k2⟩
  rw [List.append_assoc] at hb2
  exact hb2

/-- The lists of texts of a row of hunks. -/
def txts (xs : List HV) : List Value := xs.flatMap fun x => [x.vo, x.vn]
theorem txts_succ (xs : List HV) (k : Nat) (x : HV) (h : xs[k]? = some x) : txts (xs.take (k + 1)) = txts (xs.take k) ++ [x.vo, x.vn] := by
  rw [List.take_add_one, h]; simp [txts]
theorem txts_len (xs : List HV) : (txts xs).length = 2 * xs.length := by
  induction xs with
  | nil => rfl
  | cons x r ih => simp [txts] at ih ⊢; omega

set_option maxRecDepth 100000 in
set_option maxHeartbeats 4000000 in
theorem putHunks_any (B b B' : Nat) (T H : List Value) (v : Value) (xs : List HV) (w : World) (hv : w.ownsRow B' 39 3 v xs.length (hkCells xs)) (hok : ∀ x ∈ xs, HV.Ok B' x w) (hbag : BagIs B b T H w) (hB : B ≤ w.heap.size) (hT : T.length + 2 * xs.length ≤ 99990) (hH : H.length ≤ 100000) :
    Calls Tryz.prog 24 #[.pointer (some ⟨b, 0, none⟩), v] w fun e w' => e = .returned (.tuple #[]) ∧ BagIs B b (T ++ txts xs) (H ++ [v]) w' ∧ KeepSH B w w' := by
  obtain ⟨ao, cap, rfl⟩ := slice_shape hv
  obtain ⟨n, hn⟩ : ∃ n, n = xs.length := ⟨_, rfl⟩
  obtain ⟨tv, hv0, h0, hBb, h1, h2⟩ := hbag
  obtain ⟨i0, hi, hz0, hz1, hz2⟩ := info_parts infoHs
  have c12 : w.cell? ⟨b, 12, none⟩ = some hv0 := by rw [Lib.cell_of_heap h0]; rfl
  have HV0 : Hid (w.ownsRow B' 39 3 (.slice ao n cap) n (hkCells xs)) := by rw [hn]; exact hv
  have HOK : Hid (_) := hok
  have HN : Hid (n = xs.length) := hn
  rw [← hn] at hT ⊢
  clear hv hok hn
  obtain ⟨X, hX⟩ : ∃ X, X = w.alloc (.cells #[.slice ao n cap] 28) := ⟨_, rfl⟩
  have bX : Below w.heap.size w X := by rw [hX]; exact below_nw w _
  have hsrc : ∀ (j : Nat) (u : Value), [Value.slice ao n cap][j]? = some u → X.cell? ((⟨w.heap.size, 0, none⟩ : Addr).add j) = some u := by rw [hX]; exact cells_new w [.slice ao n cap] 28
  obtain ⟨v', W', hrun, hown, hgr, -⟩ := run_append_own (P := Tryz.prog) X B 34 34 28 i0 (.slice none 0 0) 1 24 Tryz.underlying34 hi hz0 hz1 hz2 rfl (by decide) hv0 H.length H (owns_below h2 bX) ⟨w.heap.size, 0, none⟩ 1 1 [.slice ao n cap] rfl hsrc (by simp [Value.oneCell']) (by unfold maxLen; omega) (by omega) (by have := bX.size; omega)
  obtain ⟨gv, cv, rfl⟩ := ownsRow_succ hown
  have h0' : W'.heap[b]? = some (.cells (bagC tv hv0) 75 (0, 0)) := heap_grown (owns_below h2 bX) hgr ((bX.block b (Array.getElem?_eq_some_iff.1 h0).1).trans h0) (by decide)
  have c12' : W'.cell? ⟨b, 12, none⟩ = some hv0 := by rw [Lib.cell_of_heap h0']; rfl
  have f12' : W'.frozen? ⟨b, 12, none⟩ = false := frozen_of_row W' b 12 _ _ h0'
  obtain ⟨Z, hZ⟩ : ∃ Z, Z = W'.setCell ⟨b, 12, none⟩ (.slice (some ⟨gv, 0, none⟩) (H.length + 1) cv) := ⟨_, rfl⟩
  have HF : Hid (BagIs B b T (H ++ [.slice ao n cap]) Z ∧ KeepSH B w Z) := by
    rw [hZ]
    refine ⟨⟨tv, _, heap_setCell_same W' b 12 _ _ _ h0', hBb, ?_, ?_⟩, ?_⟩
    · exact owns_set ((owns_below h1 bX).kept hgr (by
        rcases h2.2 with ⟨e, _⟩ | ⟨g, cp, cur, e, _, hg, _⟩
        · rw [e]
          rcases h1.2 with ⟨e, _⟩ | ⟨g, cp, cur, e, _⟩
          · exact .inl (by rw [e]; rfl)
          · exact .inr (by rw [e]; simp [Value.ownBlock])
        · rcases h1.2 with ⟨e', _⟩ | ⟨g', cp', cur', e', _, hg', _⟩
          · exact .inl (by rw [e']; rfl)
          · right
            rw [e, e']
            intro q
            have : g' = g := by simpa [Value.ownBlock] using q
            subst this
            rw [hg] at hg'
            injection hg' with q
            injection q with _ q _
            exact absurd q (by decide))) h0' (by decide) 12 _
    · rw [List.length_append]; exact owns_set hown h0' (by decide) 12 _
    · exact ((KeepSH.of_below bX hB).trans (KeepSH.of_grown (owns_below h2 bX) hgr (Nat.le_trans hB bX.size) (by decide) (by decide))).trans (KeepSH.of_set h0' hBb (by decide) (by decide) 12 _)
  clear h0 h1 h2 hown hgr h0' hsrc bX
  subst hX
  refine (callsIn_wide (n := 3)).1 ?_
  refine callsIn_of_wp Tryz.func24 rfl trivial ?_ rfl
  simp only [Tryz.ntmps24, List.size_toArray, List.length_cons, List.length_nil, Nat.reduceAdd, Nat.reduceSub, Array.replicate_succ, Array.replicate_zero, List.push_toArray, List.append_toArray, List.nil_append, List.cons_append]
  gi_wp2_with (gi_at_builtin; refine list_append rfl _ _ 34 rfl _ _ _ _ rfl rfl hrun ?_)
  rw [← hZ]
  clear hZ hrun c12 c12' f12'
  gi_loopw [4] (fun v wr => ∃ k : Nat, k ≤ n ∧ v = .int .i64 k ∧ BagIs B b (T ++ txts (xs.take k)) (H ++ [.slice ao n cap]) wr ∧ KeepSH B w wr) (fun v _ => n - (intOf v).toNat)
  case atStart => exact ⟨0, by omega, rfl, by simpa [txts] using HF.out.1, HF.out.2⟩
  case round =>
    clear HF
    obtain ⟨k, hk, rfl, hbag, hks⟩ := hrel
    by_cases hlt : k < n
    · obtain ⟨x, hx⟩ : ∃ x, xs[k]? = some x := ⟨xs[k]'(by have := HN.out; omega), List.getElem?_eq_getElem (by have := HN.out; omega)⟩
      have hrow := hks.owns HV0.out (.inr rfl)
      obtain ⟨g, rfl⟩ : ∃ g, ao = some ⟨g, 0, none⟩ := by
        rcases hrow.2 with ⟨e1, e2⟩ | ⟨g, cap, cur, e1, _⟩
        · omega
        · injection e1 with e1 _ _
          exact ⟨g, e1⟩
      obtain ⟨g0, g1, g2⟩ := hkCells_get xs k x hx
      have hcl := hrow.1
      have c0 : wr.cell? ⟨g, k * 3, none⟩ = some (.int .i64 x.at_) := (hrow.cellAt _ (by omega)).trans g0
      have c1 : wr.cell? ⟨g, k * 3 + 1, none⟩ = some x.vo := (hrow.cellAt _ (by omega)).trans g1
      have c2 : wr.cell? ⟨g, k * 3 + 2, none⟩ = some x.vn := (hrow.cellAt _ (by omega)).trans g2
      obtain ⟨o1, o2⟩ := HOK.out x (List.mem_of_getElem? hx)
      obtain ⟨a1, s1, e1⟩ := slice_shape o1
      obtain ⟨a2, s2, e2⟩ := slice_shape o2
      have hBw : B ≤ wr.heap.size := Nat.le_trans hB hks.1.size
      have hlen : (T ++ txts (xs.take k)).length ≤ 99990 := by
        rw [List.length_append, txts_len, List.length_take]; have := HN.out; omega
      have ON : Hid (_) := oneHunk_any B b (T ++ txts (xs.take k)) (H ++ [.slice (some ⟨g, 0, none⟩) n cap]) x a1 a2 _ _ s1 s2 e1 e2 wr hbag hBw hlen
      have HK : Hid (KeepSH B w wr) := hks
      have HX : Hid (_) := hx
      clear hbag hks hrow g0 g1 g2 hcl o1 o2 e1 e2 hx hlen
      gi_wp2_with fail
      refine ⟨trivial, ?_⟩
      refine (callsIn_wide.2 ON.out).mono ?_
      rintro e w1 ⟨rfl, hb1, k1⟩
      gi_wp2
      go_roundw
      case rel =>
        refine ⟨k + 1, by omega, by go_num, ?_, HK.out.trans k1⟩
        rw [txts_succ xs k x HX.out, ← List.append_assoc]
        exact hb1
      case measure => simp [intOf]; omega
    · have hkn : k = xs.length := by have := HN.out; omega
      have HB : Hid (BagIs B b (T ++ txts xs) (H ++ [.slice ao n cap]) wr ∧ KeepSH B w wr) := by
        rw [hkn, List.take_length] at hbag
        exact ⟨hbag, hks⟩
      clear hbag hks hkn
      gi_wp2
      go_end0
      exact ⟨rfl, HB.out⟩

end Go.Proofs.YtpcinbfelikgpaaGreatDoor

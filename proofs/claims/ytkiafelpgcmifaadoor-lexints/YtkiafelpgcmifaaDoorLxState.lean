/-
  A lexer at work: what it holds, what stays; the walks of takeAll and put.
-/
import Derived.Test.YtkiafelpgcmifaaDoorLxRead
namespace Go.Proofs.YtkiafelpgcmifaaDoor
open Go.RowKit Go.Shelf

attribute [local go_sem] Oper.semAt_some

/-- What lay below B is as it was; and whatever holds no tokens, but block b. -/
def KeepL (B b : Nat) (W W' : World) : Prop := Below B W W' ∧ ∀ (k : Nat) (c : Array Value) (t : TypeId) (fr : Nat × Nat), W.heap[k]? = some (.cells c t fr) → t ≠ 38 → k ≠ b → W'.heap[k]? = some (.cells c t fr)
theorem KeepL.refl (B b : Nat) (W : World) : KeepL B b W W := ⟨Below.refl _ _, fun _ _ _ _ h _ _ => h⟩
theorem KeepL.trans {B b : Nat} {W X Y : World} (h : KeepL B b W X) (k : KeepL B b X Y) : KeepL B b W Y := ⟨h.1.trans k.1, fun j c t fr hj h1 h2 => k.2 j c t fr (h.2 j c t fr hj h1 h2) h1 h2⟩
theorem KeepL.of_below {B b : Nat} {W X : World} (h : Below W.heap.size W X) (hn : B ≤ W.heap.size) : KeepL B b W X :=
  ⟨h.mono hn, fun j _ _ _ hj _ _ => (h.block j (Array.getElem?_eq_some_iff.1 hj).1).trans hj⟩
theorem KeepL.of_grown {B b n : Nat} {W W' : World} {v : Value} {xs : List Value} (hrow : W.ownsRow B 38 3 v n xs) (hg : W.grownBy W' v.ownBlock) (hn : B ≤ W.heap.size) : KeepL B b W W' := by
  have h := KeepT.of_grown hrow hg hn
  exact ⟨h.1, fun j c t fr hj h1 _ => h.2 j c t fr hj h1⟩
theorem KeepL.of_box {B b : Nat} {W W' : World} (hB : B ≤ b) (hW : B ≤ W.heap.size) (hg : W.grownBy W' (some b)) : KeepL B b W W' := by
  refine ⟨⟨hg.os, hg.tape, hg.output, hg.size, fun k hk => hg.block k (by omega) (fun e => by cases e; omega)⟩, fun j c t fr hj _ h2 => ?_⟩
  exact (hg.block j (Array.getElem?_eq_some_iff.1 hj).1 (fun e => h2 (by cases e; rfl))).trans hj

/-- The cells of tokens. -/
def tokC (t : Lx.Tok) : List Value := [.int .u8 t.kind, txtV t.text, .int .i64 t.at_]
def tokCells (ts : List Lx.Tok) : List Value := ts.flatMap tokC
theorem tokCells_snoc (ts : List Lx.Tok) (t : Lx.Tok) : tokCells (ts ++ [t]) = tokCells ts ++ tokC t := by simp [tokCells]
theorem infoTok : (Tryd.prog.info? 38).map (fun i => (i.zero, i.size, i.bytes)) = some (some (.agg #[.int .u8 0, .string ⟨#[]⟩, .int .i64 0]), 3, 32) := by kernel_rfl

/-- A lexer of s: where it stands, what it told so far, its fault. -/
structure LSt (B b : Nat) (s : ByteArray) (k : Nat) (acc : List Lx.Tok) (e f : Nat) (W : World) : Prop where
  row : ∃ tv, LexAt b s k tv e f W ∧ W.ownsRow B 38 3 tv acc.length (tokCells acc)
  low : B ≤ b
theorem LSt.lt {B b k e f : Nat} {s : ByteArray} {acc : List Lx.Tok} {W : World} (h : LSt B b s k acc e f W) : b < W.heap.size := by
  obtain ⟨tv, h1, -⟩ := h.row; exact h1.lt
theorem LSt.size {B b k e f : Nat} {s : ByteArray} {acc : List Lx.Tok} {W : World} (h : LSt B b s k acc e f W) : B ≤ W.heap.size := by
  have := h.lt; have := h.low; omega
theorem LSt.below {B b k e f : Nat} {s : ByteArray} {acc : List Lx.Tok} {W W' : World} (h : LSt B b s k acc e f W) (hb : Below W.heap.size W W') : LSt B b s k acc e f W' := by
  obtain ⟨tv, h1, h2⟩ := h.row
  exact ⟨⟨tv, (hb.block _ h1.lt).trans h1, owns_below h2 hb⟩, h.low⟩
/-- A cell of the lexer is set. -/
theorem owns_box {B b k e f n : Nat} {s : ByteArray} {tv v : Value} {xs : List Value} {W W' : World} (h : LexAt b s k tv e f W) (ho : W.ownsRow B 38 3 v n xs) (hg : W.grownBy W' (some b)) : W'.ownsRow B 38 3 v n xs := by
  refine ⟨ho.1, ?_⟩
  rcases ho.2 with h0 | ⟨g, cap, cur, hv, h1, hgb, h2⟩
  · exact .inl h0
  · refine .inr ⟨g, cap, cur, hv, h1, (hg.block g (Array.getElem?_eq_some_iff.1 hgb).1 (fun e1 => ?_)).trans hgb, h2⟩
    have e2 : g = b := Option.some.inj e1
    unfold LexAt at h
    rw [e2, h] at hgb
    cases hgb

theorem extract_rest (r : ByteArray) (k : Nat) : (r.extract k r.size).data.toList = r.data.toList.drop k := by
  rw [Lib.extract_data]
  apply List.take_of_length_le
  simp
theorem extract_part (r : ByteArray) (k n : Nat) : (r.extract k (k + n)).data.toList = (r.data.toList.drop k).take n := by
  rw [Lib.extract_data, Nat.add_sub_cancel_left]
theorem size_rest (r : ByteArray) (k : Nat) (hs : r.size ≤ maxLen) : (r.extract k r.size).size ≤ maxLen := by
  rw [ByteArray.size_extract]; omega
theorem grown_draws {W W' : World} {o : Option Nat} (h : W.grownBy W' o) (d : Nat) : W.grownBy (W'.drewN d) o := ⟨h.os, h.tape, h.output, h.size, h.block⟩
theorem grown_drawn {W W' : World} {o : Option Nat} {d : Nat} (h : (W.drewN d).grownBy W' o) : W.grownBy W' o := ⟨h.os, h.tape, h.output, h.size, h.block⟩

set_option maxRecDepth 100000 in
set_option maxHeartbeats 1000000 in
theorem takeAll_ld (B b k e f : Nat) (s : ByteArray) (acc : List Lx.Tok) (w : World) (h : LSt B b s k acc e f w) (hk : k ≤ s.size) (hs : s.size ≤ maxLen) :
    Calls Tryd.prog 35 #[.pointer (some ⟨b, 0, none⟩), .func (.func 40) #[] #[]] w fun r w' => r = .returned (.string (s.extract k (k + Lx.lead Lx.ldI (s.data.toList.drop k)))) ∧ LSt B b s (k + Lx.lead Lx.ldI (s.data.toList.drop k)) acc e f w' ∧ KeepL B b w w' := by
  obtain ⟨tv, h1, h2⟩ := h.row
  have hsz := h.size
  have hlow := h.low
  obtain ⟨n, hn⟩ : ∃ n, n = Lx.lead Lx.ldI (s.data.toList.drop k) := ⟨_, rfl⟩
  have hnk : k + n ≤ s.size := by
    have h3 := Lx.lead_le Lx.ldI (s.data.toList.drop k)
    have h4 : s.data.toList.length = s.size := rfl
    rw [← hn, List.length_drop, h4] at h3
    omega
  have HL : Hid (∀ w, Calls Tryd.prog 44 #[.string (s.extract k s.size), .func (.func 40) #[] #[]] w fun e w' => e = .returned (.int .i64 n) ∧ w' = w) := fun w => by
    have := lead_ld (s.extract k s.size) (size_rest s k hs) w
    rw [extract_rest, ← hn] at this
    exact this
  rw [← hn]
  clear hn h
  go_enter Tryd.func35, Tryd.ntmps35
  go_wp2_with fail
  refine (left_any b k e f s tv w h1 hk).mono ?_
  rintro r w1 ⟨rfl, d1, rfl⟩
  go_wp2_with fail
  refine (HL.out _).mono ?_
  rintro r w2 ⟨rfl, rfl⟩
  go_wp2_with fail
  refine (take_any b k e f n s tv (w.drewN d1) h1 hnk hs).mono ?_
  rintro r w3 ⟨rfl, d3, rfl⟩
  have h1' : LexAt b s k tv e f (w.drewN d1) := h1
  have hg : w.grownBy (((w.drewN d1).setCell ⟨b, 1, none⟩ (.int .i64 ((k + n : Nat) : Int))).drewN d3) (some b) := grown_draws (grown_drawn (grown_set (w.drewN d1) b 1 _)) d3
  have HF : Hid (LSt B b s (k + n) acc e f (((w.drewN d1).setCell ⟨b, 1, none⟩ (.int .i64 ((k + n : Nat) : Int))).drewN d3) ∧ KeepL B b w (((w.drewN d1).setCell ⟨b, 1, none⟩ (.int .i64 ((k + n : Nat) : Int))).drewN d3)) := ⟨⟨⟨tv, h1'.put (k + n), owns_box h1 h2 hg⟩, hlow⟩, KeepL.of_box hlow hsz hg⟩
  obtain ⟨X, hX⟩ : ∃ X, X = (((w.drewN d1).setCell ⟨b, 1, none⟩ (.int .i64 ((k + n : Nat) : Int))).drewN d3) := ⟨_, rfl⟩
  rw [← hX] at HF ⊢
  clear hX hg h1' h1 h2
  go_wp2
  go_ret
  exact ⟨rfl, HF.out⟩

set_option maxRecDepth 100000 in
set_option maxHeartbeats 1000000 in
theorem takeAll_blank (B b k e f : Nat) (s : ByteArray) (acc : List Lx.Tok) (w : World) (h : LSt B b s k acc e f w) (hk : k ≤ s.size) (hs : s.size ≤ maxLen) :
    Calls Tryd.prog 35 #[.pointer (some ⟨b, 0, none⟩), .func (.func 36) #[] #[]] w fun r w' => r = .returned (.string (s.extract k (k + Lx.lead Lx.blankI (s.data.toList.drop k)))) ∧ LSt B b s (k + Lx.lead Lx.blankI (s.data.toList.drop k)) acc e f w' ∧ KeepL B b w w' := by
  obtain ⟨tv, h1, h2⟩ := h.row
  have hsz := h.size
  have hlow := h.low
  obtain ⟨n, hn⟩ : ∃ n, n = Lx.lead Lx.blankI (s.data.toList.drop k) := ⟨_, rfl⟩
  have hnk : k + n ≤ s.size := by
    have h3 := Lx.lead_le Lx.blankI (s.data.toList.drop k)
    have h4 : s.data.toList.length = s.size := rfl
    rw [← hn, List.length_drop, h4] at h3
    omega
  have HL : Hid (∀ w, Calls Tryd.prog 44 #[.string (s.extract k s.size), .func (.func 36) #[] #[]] w fun e w' => e = .returned (.int .i64 n) ∧ w' = w) := fun w => by
    have := lead_blank (s.extract k s.size) (size_rest s k hs) w
    rw [extract_rest, ← hn] at this
    exact this
  rw [← hn]
  clear hn h
  go_enter Tryd.func35, Tryd.ntmps35
  go_wp2_with fail
  refine (left_any b k e f s tv w h1 hk).mono ?_
  rintro r w1 ⟨rfl, d1, rfl⟩
  go_wp2_with fail
  refine (HL.out _).mono ?_
  rintro r w2 ⟨rfl, rfl⟩
  go_wp2_with fail
  refine (take_any b k e f n s tv (w.drewN d1) h1 hnk hs).mono ?_
  rintro r w3 ⟨rfl, d3, rfl⟩
  have h1' : LexAt b s k tv e f (w.drewN d1) := h1
  have hg : w.grownBy (((w.drewN d1).setCell ⟨b, 1, none⟩ (.int .i64 ((k + n : Nat) : Int))).drewN d3) (some b) := grown_draws (grown_drawn (grown_set (w.drewN d1) b 1 _)) d3
  have HF : Hid (LSt B b s (k + n) acc e f (((w.drewN d1).setCell ⟨b, 1, none⟩ (.int .i64 ((k + n : Nat) : Int))).drewN d3) ∧ KeepL B b w (((w.drewN d1).setCell ⟨b, 1, none⟩ (.int .i64 ((k + n : Nat) : Int))).drewN d3)) := ⟨⟨⟨tv, h1'.put (k + n), owns_box h1 h2 hg⟩, hlow⟩, KeepL.of_box hlow hsz hg⟩
  obtain ⟨X, hX⟩ : ∃ X, X = (((w.drewN d1).setCell ⟨b, 1, none⟩ (.int .i64 ((k + n : Nat) : Int))).drewN d3) := ⟨_, rfl⟩
  rw [← hX] at HF ⊢
  clear hX hg h1' h1 h2
  go_wp2
  go_ret
  exact ⟨rfl, HF.out⟩

set_option maxRecDepth 100000 in
set_option maxHeartbeats 1000000 in
theorem takeAll_inLine (B b k e f : Nat) (s : ByteArray) (acc : List Lx.Tok) (w : World) (h : LSt B b s k acc e f w) (hk : k ≤ s.size) (hs : s.size ≤ maxLen) :
    Calls Tryd.prog 35 #[.pointer (some ⟨b, 0, none⟩), .func (.func 39) #[] #[]] w fun r w' => r = .returned (.string (s.extract k (k + Lx.lead Lx.inLineI (s.data.toList.drop k)))) ∧ LSt B b s (k + Lx.lead Lx.inLineI (s.data.toList.drop k)) acc e f w' ∧ KeepL B b w w' := by
  obtain ⟨tv, h1, h2⟩ := h.row
  have hsz := h.size
  have hlow := h.low
  obtain ⟨n, hn⟩ : ∃ n, n = Lx.lead Lx.inLineI (s.data.toList.drop k) := ⟨_, rfl⟩
  have hnk : k + n ≤ s.size := by
    have h3 := Lx.lead_le Lx.inLineI (s.data.toList.drop k)
    have h4 : s.data.toList.length = s.size := rfl
    rw [← hn, List.length_drop, h4] at h3
    omega
  have HL : Hid (∀ w, Calls Tryd.prog 44 #[.string (s.extract k s.size), .func (.func 39) #[] #[]] w fun e w' => e = .returned (.int .i64 n) ∧ w' = w) := fun w => by
    have := lead_inLine (s.extract k s.size) (size_rest s k hs) w
    rw [extract_rest, ← hn] at this
    exact this
  rw [← hn]
  clear hn h
  go_enter Tryd.func35, Tryd.ntmps35
  go_wp2_with fail
  refine (left_any b k e f s tv w h1 hk).mono ?_
  rintro r w1 ⟨rfl, d1, rfl⟩
  go_wp2_with fail
  refine (HL.out _).mono ?_
  rintro r w2 ⟨rfl, rfl⟩
  go_wp2_with fail
  refine (take_any b k e f n s tv (w.drewN d1) h1 hnk hs).mono ?_
  rintro r w3 ⟨rfl, d3, rfl⟩
  have h1' : LexAt b s k tv e f (w.drewN d1) := h1
  have hg : w.grownBy (((w.drewN d1).setCell ⟨b, 1, none⟩ (.int .i64 ((k + n : Nat) : Int))).drewN d3) (some b) := grown_draws (grown_drawn (grown_set (w.drewN d1) b 1 _)) d3
  have HF : Hid (LSt B b s (k + n) acc e f (((w.drewN d1).setCell ⟨b, 1, none⟩ (.int .i64 ((k + n : Nat) : Int))).drewN d3) ∧ KeepL B b w (((w.drewN d1).setCell ⟨b, 1, none⟩ (.int .i64 ((k + n : Nat) : Int))).drewN d3)) := ⟨⟨⟨tv, h1'.put (k + n), owns_box h1 h2 hg⟩, hlow⟩, KeepL.of_box hlow hsz hg⟩
  obtain ⟨X, hX⟩ : ∃ X, X = (((w.drewN d1).setCell ⟨b, 1, none⟩ (.int .i64 ((k + n : Nat) : Int))).drewN d3) := ⟨_, rfl⟩
  rw [← hX] at HF ⊢
  clear hX hg h1' h1 h2
  go_wp2
  go_ret
  exact ⟨rfl, HF.out⟩

set_option maxRecDepth 100000 in
set_option maxHeartbeats 4000000 in
theorem put_any (B b k e f kind : Nat) (s x : ByteArray) (acc : List Lx.Tok) (w : World) (h : LSt B b s k acc e f w) (hx : x.size ≤ k) (hk : k ≤ 1000000) (hl : acc.length ≤ 1000000) :
    Calls Tryd.prog 21 #[.pointer (some ⟨b, 0, none⟩), .int .u8 kind, .string x] w fun r w' => r = .returned (.tuple #[]) ∧ LSt B b s k (acc ++ [⟨kind, x.data.toList, k - x.size⟩]) e f w' ∧ KeepL B b w w' := by
  obtain ⟨i0, hi, hz0, hz1, hz2⟩ := info_parts infoTok
  have hBw := h.size
  have hlow := h.low
  obtain ⟨tv, h1, h2⟩ := h.row
  obtain ⟨at7, c7, rfl⟩ := slice_shape h2
  have H1 : Hid (_) := h1
  have H2 : Hid (_) := h2
  obtain ⟨c0, c1, c2, -⟩ := h1.cells
  have hblt := h1.lt
  clear h h1 h2
  have hsub : IntKind.i64.wrap ((k : Int) - (x.size : Int)) = (k : Int) - (x.size : Int) := by rw [IntKind.wrap_i64]; omega
  refine (callsIn_wide (n := 3)).1 ?_
  refine callsIn_of_wp Tryd.func21 rfl trivial ?_ rfl
  simp only [Tryd.ntmps21, List.size_toArray, List.length_cons, List.length_nil, Nat.reduceAdd, Nat.reduceSub, Array.replicate_succ, Array.replicate_zero, List.push_toArray, List.append_toArray, List.nil_append, List.cons_append]
  gi_wp2
  refine region_lex (fun w' => w'.cell? ⟨b, 1, none⟩ = some (.int .i64 k)) 4 17 rfl (by kernel_rfl) (by kernel_rfl) (by kernel_rfl) (by kernel_rfl) (fun _ _ d _ _ h => by cases d <;> exact h) c1 ?_
  simp only [List.take_succ_cons, List.take_zero]
  iterate 4 (first
    | (apply lexC_want
       · rfl
       · exact fun _ => rfl
       · (intro w' hw'; go_simp; try rfl)
       simp only [Act.put, List.setIfInBounds_toArray, List.set_cons_zero, List.set_cons_succ])
    | (apply lexC_skip
       · rfl
       · exact fun _ => rfl
       simp only [Act.put, List.setIfInBounds_toArray, List.set_cons_zero, List.set_cons_succ]))
  refine lexC_nil ?_
  refine anyC_take (i := 5) (v := .int .u8 kind) rfl rfl (by kernel_rfl) (by kernel_rfl) (by kernel_rfl) (fun _ _ d _ _ h => by cases d <;> exact h) c1 (by rfl) (fun _ => rfl) (by intro w' hw'; go_simp; try rfl) ?_
  refine anyC_take (i := 6) (v := .string x) rfl rfl (by kernel_rfl) (by kernel_rfl) (by kernel_rfl) (fun _ _ d _ _ h => by cases d <;> exact h) c1 (by rfl) (fun _ => rfl) (by intro w' hw'; go_simp; try rfl) ?_
  refine anyC_take (i := 7) (v := .pointer (some ⟨b, 0, none⟩)) rfl rfl (by kernel_rfl) (by kernel_rfl) (by kernel_rfl) (fun _ _ d _ _ h => by cases d <;> exact h) c1 (by rfl) (fun _ => rfl) (by intro w' hw'; go_simp; try rfl) ?_
  refine anyC_take (i := 8) (v := .pointer (some ⟨b, 0, none⟩)) rfl rfl (by kernel_rfl) (by kernel_rfl) (by kernel_rfl) (fun _ _ d _ _ h => by cases d <;> exact h) c1 (by rfl) (fun _ => rfl) (by intro w' hw'; go_simp; try rfl) ?_
  refine anyC_take (i := 9) (v := .pointer (some ⟨b, 0, none⟩)) rfl rfl (by kernel_rfl) (by kernel_rfl) (by kernel_rfl) (fun _ _ d _ _ h => by cases d <;> exact h) c1 (by rfl) (fun _ => rfl) (by intro w' hw'; go_simp; try rfl) ?_
  refine anyC_take (i := 10) (v := .pointer (some ⟨b, 1, none⟩)) rfl rfl (by kernel_rfl) (by kernel_rfl) (by kernel_rfl) (fun _ _ d _ _ h => by cases d <;> exact h) c1 (by rfl) (fun _ => rfl) (by intro w' hw'; go_simp; try rfl) ?_
  refine anyC_take (i := 11) (v := .int .i64 k) rfl rfl (by kernel_rfl) (by kernel_rfl) (by kernel_rfl) (fun _ _ d _ _ h => by cases d <;> exact h) c1 (by rfl) (fun _ => rfl) (by intro w' hw'; go_simp; try rfl) ?_
  refine anyC_take (i := 12) (v := .string x) rfl rfl (by kernel_rfl) (by kernel_rfl) (by kernel_rfl) (fun _ _ d _ _ h => by cases d <;> exact h) c1 (by rfl) (fun _ => rfl) (by intro w' hw'; go_simp; try rfl) ?_
  refine anyC_take (i := 13) (v := .int .i64 x.size) rfl rfl (by kernel_rfl) (by kernel_rfl) (by kernel_rfl) (fun _ _ d _ _ h => by cases d <;> exact h) c1 (by rfl) (fun _ => rfl) (by intro w' hw'; go_simp; try rfl) ?_
  refine anyC_take (i := 14) (v := .int .i64 ((k : Int) - (x.size : Int))) rfl rfl (by kernel_rfl) (by kernel_rfl) (by kernel_rfl) (fun _ _ d _ _ h => by cases d <;> exact h) c1 (by rfl) (fun _ => rfl) (by intro w' hw'; go_simp; try rfl) ?_
  refine anyC_take (i := 15) (v := .agg #[.int .u8 kind, .string x, .int .i64 ((k : Int) - (x.size : Int))]) rfl rfl (by kernel_rfl) (by kernel_rfl) (by kernel_rfl) (fun _ _ d _ _ h => by cases d <;> exact h) c1 (by rfl) (fun _ => rfl) (by intro w' hw'; go_simp; try rfl) ?_
  obtain ⟨X, hX⟩ : ∃ X, X = (w.alloc (.cells #[.int .u8 kind, .string x, .int .i64 ((k : Int) - (x.size : Int))] 38)).drew := ⟨_, rfl⟩
  have bX : Below w.heap.size w X := by rw [hX]; exact below_drewN (below_nw w _) 1
  have hcn : ∀ (j : Nat) (u : Value), [Value.int .u8 kind, .string x, .int .i64 ((k : Int) - (x.size : Int))][j]? = some u → X.cell? ((⟨w.heap.size, 0, none⟩ : Addr).add j) = some u := by rw [hX]; exact cells_new w [.int .u8 kind, .string x, .int .i64 ((k : Int) - (x.size : Int))] 38
  obtain ⟨v', W', hrun, hown, hgr, -⟩ := run_append_own (P := Tryd.prog) X B 23 23 38 i0 (.agg #[.int .u8 0, .string ⟨#[]⟩, .int .i64 0]) 3 32 Tryd.underlying23 hi hz0 hz1 hz2 rfl (by decide) (.slice at7 acc.length c7) _ _ (owns_below H2.out bX) ⟨w.heap.size, 0, none⟩ 1 1 [.int .u8 kind, .string x, .int .i64 ((k : Int) - (x.size : Int))] rfl hcn (by simp [Value.oneCell']) (by unfold maxLen; omega) (by omega) (by have := bX.size; omega)
  obtain ⟨gv, cv, rfl⟩ := ownsRow_succ hown
  have hh1 : X.heap[b]? = some (.cells (lxC s k (.slice at7 acc.length c7) e f) 44 (0, 0)) := (bX.block b hblt).trans H1.out
  have hh2 : W'.heap[b]? = some (.cells (lxC s k (.slice at7 acc.length c7) e f) 44 (0, 0)) := heap_grown (owns_below H2.out bX) hgr hh1 (by decide)
  have L1 : LexAt b s k (.slice at7 acc.length c7) e f X := hh1
  have L2 : LexAt b s k (.slice at7 acc.length c7) e f W' := hh2
  obtain ⟨-, p1, p2, -⟩ := L1.cells
  obtain ⟨-, g1, g2, -⟩ := L2.cells
  have f2 := L2.frozen 2
  have hgs := grown_set W' b 2 (.slice (some ⟨gv, 0, none⟩) (acc.length + 1) cv)
  have hBX : B ≤ X.heap.size := Nat.le_trans hBw bX.size
  have LS : LexAt b s k (.slice (some ⟨gv, 0, none⟩) (acc.length + 1) cv) e f (W'.setCell ⟨b, 2, none⟩ (.slice (some ⟨gv, 0, none⟩) (acc.length + 1) cv)) := heap_setCell_same W' b 2 _ 44 _ hh2
  obtain ⟨-, s1, -⟩ := LS.cells
  have HFIN : Hid (LSt B b s k (acc ++ [⟨kind, x.data.toList, k - x.size⟩]) e f (W'.setCell ⟨b, 2, none⟩ (.slice (some ⟨gv, 0, none⟩) (acc.length + 1) cv)) ∧ KeepL B b w (W'.setCell ⟨b, 2, none⟩ (.slice (some ⟨gv, 0, none⟩) (acc.length + 1) cv))) := by
    refine ⟨⟨⟨.slice (some ⟨gv, 0, none⟩) (acc.length + 1) cv, LS, ?_⟩, hlow⟩, (KeepL.of_below bX hBw).trans ((KeepL.of_grown (owns_below H2.out bX) hgr hBX).trans (KeepL.of_box hlow (Nat.le_trans hBX hgr.size) hgs))⟩
    have h9 := owns_box L2 hown hgs
    have e8 : (acc ++ [(⟨kind, x.data.toList, k - x.size⟩ : Lx.Tok)]).length = acc.length + 1 := by simp
    rw [e8, tokCells_snoc]
    have e9 : tokC ⟨kind, x.data.toList, k - x.size⟩ = [.int .u8 kind, .string x, .int .i64 ((k : Int) - (x.size : Int))] := by
      show [Value.int .u8 kind, txtV x.data.toList, .int .i64 ((k - x.size : Nat) : Int)] = _
      rw [show ((k - x.size : Nat) : Int) = (k : Int) - (x.size : Int) by omega]; rfl
    rw [e9]
    exact h9
  clear hown hgr hh1 hh2 H1 H2 bX L1 L2 LS hgs hcn
  refine anyC_two (i := 4) (j := 16) (by kernel_rfl) rfl rfl (by rfl) (by rfl) (fun K1 hK1 => ?_) (fun K1 hK1 => ?_)
  · go_simp
    refine hK1 _ _ c1 ?_
    clear hK1
    refine anyC_one (i := 16) (by kernel_rfl) rfl (by rfl) (fun K2 hK2 => ?_)
    go_simp
    rw [← hX]
    refine hK2 _ _ p1 ?_
    clear hK2 hX
    obtain ⟨Y, hY⟩ : ∃ Y, Y = W'.setCell ⟨b, 2, none⟩ (.slice (some ⟨gv, 0, none⟩) (acc.length + 1) cv) := ⟨_, rfl⟩
    rw [← hY] at HFIN s1
    refine anyC_one (i := 17) (by kernel_rfl) rfl (by rfl) (fun K4 hK4 => ?_)
    refine op_append _ _ 23 rfl _ _ _ _ rfl rfl hrun (hK4 _ _ g1 ?_)
    clear hK4
    refine anyC_one (i := 18) (by kernel_rfl) rfl (by rfl) (fun K5 hK5 => ?_)
    go_simp
    refine hK5 _ _ g1 ?_
    clear hK5
    refine anyC_one (i := 19) (by kernel_rfl) rfl (by rfl) (fun K6 hK6 => ?_)
    go_simp
    refine hK6 _ _ g1 ?_
    clear hK6
    refine anyC_one (i := 20) (by kernel_rfl) rfl (by rfl) (fun K7 hK7 => ?_)
    go_simp
    rw [← hY]
    refine hK7 _ _ s1 ?_
    clear hK7
    refine anyC_done (by kernel_rfl) ?_
    gi_wp2
    go_end0
    exact ⟨rfl, HFIN.out⟩
  · go_simp
    rw [← hX]
    refine hK1 _ _ p1 ?_
    clear hK1 hX
    refine anyC_one (i := 4) (by kernel_rfl) rfl (by rfl) (fun K2 hK2 => ?_)
    go_simp
    refine hK2 _ _ p1 ?_
    clear hK2
    obtain ⟨Y, hY⟩ : ∃ Y, Y = W'.setCell ⟨b, 2, none⟩ (.slice (some ⟨gv, 0, none⟩) (acc.length + 1) cv) := ⟨_, rfl⟩
    rw [← hY] at HFIN s1
    refine anyC_one (i := 17) (by kernel_rfl) rfl (by rfl) (fun K4 hK4 => ?_)
    refine op_append _ _ 23 rfl _ _ _ _ rfl rfl hrun (hK4 _ _ g1 ?_)
    clear hK4
    refine anyC_one (i := 18) (by kernel_rfl) rfl (by rfl) (fun K5 hK5 => ?_)
    go_simp
    refine hK5 _ _ g1 ?_
    clear hK5
    refine anyC_one (i := 19) (by kernel_rfl) rfl (by rfl) (fun K6 hK6 => ?_)
    go_simp
    refine hK6 _ _ g1 ?_
    clear hK6
    refine anyC_one (i := 20) (by kernel_rfl) rfl (by rfl) (fun K7 hK7 => ?_)
    go_simp
    rw [← hY]
    refine hK7 _ _ s1 ?_
    clear hK7
    refine anyC_done (by kernel_rfl) ?_
    gi_wp2
    go_end0
    exact ⟨rfl, HFIN.out⟩

end Go.Proofs.YtkiafelpgcmifaaDoor

/-
  The walks of the verifier's own functions about lent rows: markText, LentTexts, KeptTexts; and clerestoryref01.Join.
-/
import Derived.Test.YtapnakcoanjfgaaJoin
import Derived.Laws.AppendOwnNone
import Derived.Deep.RegionHeld3
import Derived.Deep.DrawnRows
namespace Go.Proofs.Ytapnakcoanjfgaa
open Go.RowKit

/-- The mark number k. -/
def mk (k : Nat) : List UInt8 := [35, 1, 0, 0, 47, UInt8.ofNat k, 0, 0]

set_option maxRecDepth 100000 in
set_option maxHeartbeats 1000000 in
theorem mark_any (k : Nat) (hk : k < 12) (w : World) :
    Calls Try.prog 28 #[.int .i64 1, .int .i64 k] w fun e w' => e = .returned (.string (Ln.bs (mk k))) ∧ Below w.heap.size w w' := by
  obtain ⟨X, hX⟩ : ∃ X, X = w.alloc (Obj.cells #[Value.int IntKind.u8 35, Value.int IntKind.u8 1, Value.int IntKind.u8 0, Value.int IntKind.u8 0, Value.int IntKind.u8 47, Value.int IntKind.u8 ↑k, Value.int IntKind.u8 (↑k / 256), Value.int IntKind.u8 (↑k / 65536)] 5) := ⟨_, rfl⟩
  have hXh : X.heap[w.heap.size]? = some (Obj.cells #[Value.int IntKind.u8 35, Value.int IntKind.u8 1, Value.int IntKind.u8 0, Value.int IntKind.u8 0, Value.int IntKind.u8 47, Value.int IntKind.u8 ↑k, Value.int IntKind.u8 (↑k / 256), Value.int IntKind.u8 (↑k / 65536)] 5 (0, 0)) := by rw [hX]; exact World.alloc_heap_new w _
  have e1 : ((k : Int) / 256) = 0 := by omega
  have e2 : ((k : Int) / 65536) = 0 := by omega
  have e3 : ((UInt8.ofNat k).toNat : Int) = (k : Int) := by rw [UInt8.toNat_ofNat']; omega
  have hcv : (convert 52 9 (.slice (some ⟨w.heap.size, 0, none⟩) 8 8)).run Try.prog X = .ok (.string (Ln.bs (mk k))) X := by
    have h := run_convert_bytes_back (P := Try.prog) X 52 9 5 ⟨w.heap.size, 0, none⟩ 8 (mk k) Try.underlying52 Try.underlying5 Try.underlying9 (by
      intro j hj
      have ha : (⟨w.heap.size, 0, none⟩ : Addr).add j = ⟨w.heap.size, j, none⟩ := by cases j <;> simp [Addr.add]
      rw [ha, Lib.cell_of_heap hXh]
      match j, hj with
      | 0, _ => rfl
      | 1, _ => rfl
      | 2, _ => rfl
      | 3, _ => rfl
      | 4, _ => rfl
      | 5, _ => exact congrArg (fun n => some (Value.int .u8 n)) e3.symm
      | 6, _ => exact congrArg (fun n => some (Value.int .u8 n)) e1
      | 7, _ => exact congrArg (fun n => some (Value.int .u8 n)) e2
      | j + 8, hj => simp [mk] at hj; omega)
    exact h
  have hB : Below w.heap.size w X := by rw [hX]; exact (Below.refl _ w).alloc (Nat.le_refl _) _
  have HB : Hid (Below w.heap.size w X) := hB
  have HX : Hid (X = w.alloc (Obj.cells #[Value.int IntKind.u8 35, Value.int IntKind.u8 1, Value.int IntKind.u8 0, Value.int IntKind.u8 0, Value.int IntKind.u8 47, Value.int IntKind.u8 ↑k, Value.int IntKind.u8 (↑k / 256), Value.int IntKind.u8 (↑k / 65536)] 5)) := hX
  have HC : Hid ((convert 52 9 (.slice (some ⟨w.heap.size, 0, none⟩) 8 8)).run Try.prog X = .ok (.string (Ln.bs (mk k))) X) := hcv
  clear hX hXh e1 e2 e3 hB hcv
  go_enter Try.func28, Try.ntmps28
  go_wp2
  rw [← HX.out, HC.out]
  simp only [Result.andThen]
  rw [Oper.upon_value]
  go_wp2
  go_ret
  exact ⟨rfl, HB.out⟩

theorem bs_append (a b : List UInt8) : Ln.bs a ++ Ln.bs b = Ln.bs (a ++ b) := by
  apply ByteArray.ext
  simp [Ln.bs]
theorem ret_str {a b : List UInt8} (h : a = b) : Ending.returned (.string (Ln.bs a)) = .returned (.string (Ln.bs b)) := by rw [h]

set_option maxRecDepth 100000 in
set_option maxHeartbeats 1000000 in
theorem refJoin_any (L : List (List UInt8)) (v : Value) (w : World) (hrow : RowAt w v L) (hlen : L.flatten.length ≤ 140737488355328) (hl : L.length ≤ 9223372036854775807) :
    Calls Try.prog 20 #[v] w fun e w' => e = .returned (.string (Ln.bs L.flatten)) ∧ w' = w := by
  obtain ⟨ao, cap, b, off, rfl, hao, hc⟩ := hrow.parts
  clear hrow
  go_enter Try.func20, Try.ntmps20
  go_wp2
  go_loop [3, 4] (fun t i => ∃ k : Nat, k ≤ L.length ∧ i = .int .i64 k ∧ t = .string (Ln.bs (L.take k).flatten)) (fun _ i => L.length - (intOf i).toNat)
  case atStart => exact ⟨0, Nat.zero_le _, rfl, rfl⟩
  case round =>
    obtain ⟨k, hk, rfl, rfl⟩ := hrel
    by_cases hlt : k < L.length
    · obtain ⟨x, hx⟩ : ∃ x, L[k]? = some x := ⟨L[k], List.getElem?_eq_getElem hlt⟩
      obtain rfl := hao (by omega)
      have g1 := hc k x hx
      have HF : Hid ((L.take (k + 1)).flatten = (L.take k).flatten ++ x) := take_flat L k x hx
      have hfe := take_flat_le L (k + 1)
      rw [HF.out, List.length_append] at hfe
      clear hc hao hx
      have hsz : (Ln.bs (L.take k).flatten).size + (Ln.bs x).size ≤ 140737488355328 := by rw [Ln.bs_size, Ln.bs_size]; omega
      go_wp2
      go_round
      case rel => exact ⟨k + 1, by omega, by go_num, by rw [bs_append, HF.out]⟩
      case measure => simp [intOf]; omega
    · clear hc hao
      go_wp2
      go_ret
      have hke : k = L.length := by omega
      exact ⟨ret_str (by rw [hke, List.take_length]), rfl⟩

/-- An argument that is a row of texts. -/
def ArgRow (w : World) (v : Value) (L : List (List UInt8)) : Prop :=
  (v = .slice none 0 0 ∧ L = []) ∨ ∃ a cap, v = .slice (some a) L.length cap ∧ ∀ (j : Nat) (x : List UInt8), L[j]? = some x → w.cell? (a.add j) = some (.string (Ln.bs x))

def marks (k : Nat) : List (List UInt8) := (List.range k).map mk
theorem marks_succ (k : Nat) : marks (k + 1) = marks k ++ [mk k] := by simp [marks, List.range_succ]

theorem owns_below {W W' : World} {B k : Nat} {e : TypeId} {v : Value} {xs : List Value} (h : W.ownsRow B e 1 v k xs) (hb : Below W.heap.size W W') : W'.ownsRow B e 1 v k xs := by
  refine ⟨h.1, ?_⟩
  rcases h.2 with h0 | ⟨g, cap, cur, hv, h1, hg, h2⟩
  · exact .inl h0
  · exact .inr ⟨g, cap, cur, hv, h1, (hb.block g (Array.getElem?_eq_some_iff.1 hg).1).trans hg, h2⟩

theorem txt_one (L : List (List UInt8)) : ∀ u ∈ L.map txtV, u.oneCell' = true := by
  intro u hu
  obtain ⟨x, _, rfl⟩ := List.mem_map.1 hu
  rfl

theorem src_cells {w w1 : World} {a : Addr} {L : List (List UInt8)} (hc : ∀ (j : Nat) (x : List UInt8), L[j]? = some x → w.cell? (a.add j) = some (.string (Ln.bs x))) (hB : Below w.heap.size w w1) :
    ∀ (j : Nat) (u : Value), (L.map txtV)[j]? = some u → w1.cell? (a.add j) = some u := by
  intro j u hu
  rw [List.getElem?_map] at hu
  obtain ⟨x, hx, rfl⟩ := Option.map_eq_some_iff.1 hu
  have h := hc j x hx
  exact (hB.cell (World.block_lt_of_cell? _ _ h)).trans h

set_option maxRecDepth 100000 in
set_option maxHeartbeats 2000000 in
theorem lent_some (L : List (List UInt8)) (a : Addr) (cap : Nat) (w : World) (hc : ∀ (j : Nat) (x : List UInt8), L[j]? = some x → w.cell? (a.add j) = some (.string (Ln.bs x))) (hL : L.length ≤ 5000) :
    Calls Try.prog 18 #[.slice (some a) L.length cap] w fun e w' => ∃ g cap, e = .returned (.slice (some ⟨g, 0, none⟩) L.length cap) ∧ w'.ownsRow w.heap.size 9 1 (.slice (some ⟨g, 0, none⟩) (L.length + 12) cap) (L.length + 12) ((L ++ marks 12).map txtV) ∧ Below w.heap.size w w' := by
  obtain ⟨i0, hi, hz0, hz1, hz2⟩ := info_parts info9
  go_enter Try.func18, Try.ntmps18
  go_wp2_with (first
    | (at_make; refine wpList_make_own _ rfl _ _ 33 rfl w.heap.size 9 i0 (.string ⟨#[]⟩) 1 Try.underlying33 hi hz0 hz1 _ _ _ (L.length + 12) rfl rfl (by omega) (by rw [hz2]; omega) (by unfold maxLen; omega) (Nat.le_refl _) ?_; intro w1 hown1 hg1; have hB1 := (Below.refl w.heap.size w).grown hg1 (Nat.le_refl _) (by simp))
    | (at_builtin; refine wpList_append_own _ rfl _ _ 33 rfl w.heap.size 9 i0 (.string ⟨#[]⟩) 1 16 Try.underlying33 hi hz0 hz1 hz2 rfl (by decide) _ _ _ rfl hown1 a L.length cap (L.map txtV) rfl (by simp) (src_cells hc hB1) (txt_one L) (by unfold maxLen; omega) (by omega) hB1.size ?_; intro v2 w2 hown2 hg2 _))
  have hB2 := hB1.grown hg2 hB1.size (fun q hq => (hown1.lt q hq).1)
  have hown3 : w2.ownsRow w.heap.size 9 1 v2 (L.length + 0) ((L ++ marks 0).map txtV) := by simpa [marks] using hown2
  clear hown1 hg1 hg2 hB1 hown2 hc
  go_loopw [3, 4] (fun t i wr => ∃ k : Nat, k ≤ 12 ∧ i = .int .i64 k ∧ wr.ownsRow w.heap.size 9 1 t (L.length + k) ((L ++ marks k).map txtV) ∧ Below w.heap.size w wr) (fun _ i _ => 12 - (intOf i).toNat)
  case atStart => exact ⟨0, by omega, rfl, hown3, hB2⟩
  case round =>
    obtain ⟨k, hk, rfl, hown, hB⟩ := hrel
    by_cases hlt : k < 12
    · go_wp2_with (first
        | (go_at_call 28; refine (mark_any k hlt _).mono ?_; rintro e wm ⟨rfl, hbm⟩; have hownm := owns_below hown hbm; have hBm := hB.trans (hbm.mono hB.size))
        | (at_builtin; refine wpList_append_own _ rfl _ _ 33 rfl w.heap.size 9 i0 (.string ⟨#[]⟩) 1 16 Try.underlying33 hi hz0 hz1 hz2 rfl (by decide) _ _ _ rfl (hownm.alloc _) ⟨wm.heap.size, 0, none⟩ 1 1 [.string (Ln.bs (mk k))] rfl rfl (cell_one_new _ _ _) (by simp [Value.oneCell']) (by unfold maxLen; omega) (by omega) (by have := hBm.size; simp; omega) ?_; intro v' w1 hown' hgrow _))
      go_roundw
      case rel =>
        refine ⟨k + 1, by omega, by go_num, ?_, ?_⟩
        · rw [marks_succ, ← List.append_assoc, List.map_append]; exact hown'
        · exact (hBm.alloc hBm.size _).grown hgrow (by have := hBm.size; simp; omega) (fun q hq => (hownm.lt q hq).1)
      case measure => simp [intOf]; omega
    · have hke : k = 12 := by omega
      subst hke
      obtain ⟨g, cap, rfl⟩ := ownsRow_succ hown
      have hcap : (L.length : Int) ≤ (cap : Int) := by
        rcases hown.2 with ⟨h0, _⟩ | ⟨g', cap', cur, he, _, _, hnc, _⟩
        · cases h0
        · injection he with _ _ e3; omega
      go_wp2
      go_ret
      exact ⟨g, cap, by simp, hown, hB⟩

set_option maxRecDepth 100000 in
set_option maxHeartbeats 2000000 in
theorem lent_nil (L : List (List UInt8)) (hL : L = []) (w : World) :
    Calls Try.prog 18 #[.slice none 0 0] w fun e w' => ∃ g cap, e = .returned (.slice (some ⟨g, 0, none⟩) 0 cap) ∧ w'.ownsRow w.heap.size 9 1 (.slice (some ⟨g, 0, none⟩) (L.length + 12) cap) (L.length + 12) ((L ++ marks 12).map txtV) ∧ Below w.heap.size w w' := by
  obtain ⟨i0, hi, hz0, hz1, hz2⟩ := info_parts info9
  have HL : Hid (L = []) := hL
  have hL0 : L.length ≤ 0 := by rw [hL]; exact Nat.le_refl _
  clear hL
  go_enter Try.func18, Try.ntmps18
  go_wp2_with (first
    | (at_make; refine wpList_make_own _ rfl _ _ 33 rfl w.heap.size 9 i0 (.string ⟨#[]⟩) 1 Try.underlying33 hi hz0 hz1 _ _ _ 12 rfl rfl (by omega) (by rw [hz2]; omega) (by unfold maxLen; omega) (Nat.le_refl _) ?_; intro w1 hown1 hg1; have hB1 := (Below.refl w.heap.size w).grown hg1 (Nat.le_refl _) (by simp))
    | (at_builtin; refine wpList_append_own_none rfl _ _ 33 rfl w.heap.size 9 i0 1 Try.underlying33 hi _ _ _ rfl hown1 rfl ?_))
  have hown3 : w1.ownsRow w.heap.size 9 1 (.slice (some ⟨w.heap.size, 0, none⟩) 0 12) (L.length + 0) ((L ++ marks 0).map txtV) := by rw [HL.out]; exact hown1
  have hB2 := hB1
  clear hown1 hg1 hB1
  go_loopw [3, 4] (fun t i wr => ∃ k : Nat, k ≤ 12 ∧ i = .int .i64 k ∧ wr.ownsRow w.heap.size 9 1 t (L.length + k) ((L ++ marks k).map txtV) ∧ Below w.heap.size w wr) (fun _ i _ => 12 - (intOf i).toNat)
  case atStart => exact ⟨0, by omega, rfl, hown3, hB2⟩
  case round =>
    obtain ⟨k, hk, rfl, hown, hB⟩ := hrel
    by_cases hlt : k < 12
    · go_wp2_with (first
        | (go_at_call 28; refine (mark_any k hlt _).mono ?_; rintro e wm ⟨rfl, hbm⟩; have hownm := owns_below hown hbm; have hBm := hB.trans (hbm.mono hB.size))
        | (at_builtin; refine wpList_append_own _ rfl _ _ 33 rfl w.heap.size 9 i0 (.string ⟨#[]⟩) 1 16 Try.underlying33 hi hz0 hz1 hz2 rfl (by decide) _ _ _ rfl (hownm.alloc _) ⟨wm.heap.size, 0, none⟩ 1 1 [.string (Ln.bs (mk k))] rfl rfl (cell_one_new _ _ _) (by simp [Value.oneCell']) (by unfold maxLen; omega) (by omega) (by have := hBm.size; simp; omega) ?_; intro v' w1 hown' hgrow _))
      go_roundw
      case rel =>
        refine ⟨k + 1, by omega, by go_num, ?_, ?_⟩
        · rw [marks_succ, ← List.append_assoc, List.map_append]; exact hown'
        · exact (hBm.alloc hBm.size _).grown hgrow (by have := hBm.size; simp; omega) (fun q hq => (hownm.lt q hq).1)
      case measure => simp [intOf]; omega
    · have hke : k = 12 := by omega
      subst hke
      obtain ⟨g, cap, rfl⟩ := ownsRow_succ hown
      have hcap : (L.length : Int) ≤ (cap : Int) := by
        rcases hown.2 with ⟨h0, _⟩ | ⟨g', cap', cur, he, _, _, hnc, _⟩
        · cases h0
        · injection he with _ _ e3; omega
      go_wp2
      go_ret
      exact ⟨g, cap, by simp, hown, hB⟩

/-- LentTexts, whatever the row. -/
theorem lent_any (L : List (List UInt8)) (v : Value) (w : World) (hrow : ArgRow w v L) (hL : L.length ≤ 5000) :
    Calls Try.prog 18 #[v] w fun e w' => ∃ g cap, e = .returned (.slice (some ⟨g, 0, none⟩) L.length cap) ∧ w'.ownsRow w.heap.size 9 1 (.slice (some ⟨g, 0, none⟩) (L.length + 12) cap) (L.length + 12) ((L ++ marks 12).map txtV) ∧ Below w.heap.size w w' := by
  rcases hrow with ⟨rfl, rfl⟩ | ⟨a, cap, rfl, hc⟩
  · exact lent_nil [] rfl w
  · exact lent_some L a cap w hc hL

end Go.Proofs.Ytapnakcoanjfgaa

/-
  The function that yields lines (each, and the function that it makes): every line of the text, in order, or a beginning of them.
-/
import Derived.Test.YtapnakcoanjfgaaClone
import Derived.RangeFuncNested
import Derived.RangeFuncBound
import Derived.RangeFuncCalls
import Derived.RangeFuncLeaves
import Derived.RangeFuncBox
import Derived.Shelf.Abstract
import Derived.Shelf.RegionOpen
import Derived.OwnWalkIn
import Derived.TacticsInMore
import Derived.LoopNIn
import Derived.LoopIn
import Derived.Maps.AppendAt
namespace Go.Proofs.Ytapnakcoanjfgaa
open Go.RowKit Go.Shelf

attribute [local go_sem] Oper.semAt_some

/-- A string that Go can hold. -/
abbrev Str := { x : ByteArray // x.size ≤ maxLen }
def strLen : Value → Nat
  | .string r => r.size
  | _ => 0

/-- The texts of a row of strings. -/
def vals (tl : List Str) : List ByteArray := tl.map (·.1)
theorem data_ne (r : ByteArray) (h : 0 < r.size) : r.data.toList ≠ [] := by
  intro e
  have h2 := Ln.size_eq r
  rw [e] at h2
  rw [h2] at h
  exact absurd h (by decide)

theorem extract_first (r : ByteArray) : r.extract 0 (Ln.lsz r.data.toList) = Ln.bs (r.data.toList.take (Ln.lsz r.data.toList)) := by
  rw [Lib.extract_eq]; simp [Ln.bs]
theorem extract_rest (r : ByteArray) (k : Nat) : (r.extract k r.size).data.toList = r.data.toList.drop k := by
  rw [Lib.extract_data]
  apply List.take_of_length_le
  simp

theorem lines_cons (r : ByteArray) (h : 0 < r.size) (tl : List Str) (ht : vals tl = (Ln.splitL r.data.toList).map Ln.bs) :
    ∃ (hp : (r.extract 0 (Ln.lsz r.data.toList)).size ≤ maxLen) (tl' : List Str), tl = ⟨r.extract 0 (Ln.lsz r.data.toList), hp⟩ :: tl' ∧ vals tl' = (Ln.splitL (r.extract (Ln.lsz r.data.toList) r.size).data.toList).map Ln.bs := by
  have hne := data_ne r h
  rw [Ln.splitL_step _ hne, List.map_cons] at ht
  unfold vals at ht ⊢
  cases tl with
  | nil => simp at ht
  | cons x tl' =>
    rw [List.map_cons, List.cons.injEq] at ht
    obtain ⟨xv, xp⟩ := x
    have hxv : xv = r.extract 0 (Ln.lsz r.data.toList) := by rw [extract_first]; exact ht.1
    subst hxv
    exact ⟨xp, tl', rfl, by rw [extract_rest]; exact ht.2⟩

set_option maxRecDepth 100000 in
set_option maxHeartbeats 2000000 in
theorem each1_in (n : Nat) (hn : 1 ≤ n) (l Bn n₀ : Nat) (s : ByteArray) (hs : s.size ≤ maxLen) (xs : List Str) (hx : vals xs = (Ln.splitL s.data.toList).map Ln.bs) (J Jx : List Str → World → Prop)
    (hY : ∀ pre x W, J pre W → pre.length < xs.length → YieldAt Fence.wide (n - 1) Try.prog l #[.string x.1] W fun e W' =>
      (e = .returned (.bool true) ∧ J (pre ++ [x]) W' ∧ Below n₀ W W') ∨ (e = .returned (.bool false) ∧ Jx (pre ++ [x]) W'))
    (W : World) (hBn : W.cell? ⟨Bn, 0, none⟩ = some (.string s)) (h0 : J [] W) :
    CallsIn Fence.wide n Try.prog 31 #[.func (.yield l) #[] #[], .pointer (some ⟨Bn, 0, none⟩)] W fun e W' => (∃ v, e = .returned v) ∧
      ((∃ ys, ys = xs ∧ J ys W') ∨ (∃ pre, pre <+: xs ∧ Jx pre W')) := by
  refine callsIn_of_wp Try.func31 rfl trivial ?_ rfl
  simp only [Try.ntmps31, List.size_toArray, List.length_cons, List.length_nil, Nat.reduceAdd, Nat.reduceSub, Array.replicate_succ, Array.replicate_zero, List.push_toArray, List.append_toArray, List.nil_append, List.cons_append]
  gi_wp2
  gi_loopw [3] (fun p wr => ∃ (pre tl : List Str) (r : ByteArray), p = .string r ∧ r.size ≤ maxLen ∧ xs = pre ++ tl ∧ vals tl = (Ln.splitL r.data.toList).map Ln.bs ∧ J pre wr)
    (fun p _ => strLen p)
  case atStart =>
    exact ⟨[], xs, s, rfl, hs, rfl, hx, h0⟩
  case round =>
    obtain ⟨pre, tl, r, rfl, hr, hxs, htl, hJs⟩ := hrel
    by_cases hz : r.size = 0
    · have hre : r = ⟨#[]⟩ := by
        apply ByteArray.ext
        exact Array.eq_empty_of_size_eq_zero hz
      subst hre
      have htl0 : tl = [] := List.map_eq_nil_iff.1 (htl.trans rfl)
      subst htl0
      have HX : Hid (xs = pre ++ []) := hxs
      clear hxs
      gi_wp2
      go_end0
      exact ⟨⟨_, rfl⟩, .inl (by rw [HX.out, List.append_nil]; exact hJs)⟩
    · obtain ⟨hp, tl', rfl, htl'⟩ := lines_cons r (by omega) tl htl
      have hlt : pre.length < xs.length := by rw [hxs]; simp
      obtain ⟨fn, tmps, assign, body, hy, hR⟩ := hY pre ⟨r.extract 0 (Ln.lsz r.data.toList), hp⟩ wr hJs hlt
      dsimp only at hy
      have hb : r.toList ≠ [] := by rw [Lib.toList_data]; exact data_ne r (by omega)
      have hb2 : (!r.toList.isEmpty) = true := by simpa using hb
      have hl := Ln.lsz_le r.data.toList
      have hlp : 0 < Ln.lsz r.data.toList := Ln.lsz_pos _ (by rw [← Lib.toList_data]; exact hb)
      have hl2 : Ln.lsz r.data.toList ≤ r.size := hl
      have hr1 : r.size ≤ 9223372036854775807 := hr
      have HT : Hid (vals tl' = (Ln.splitL (r.extract (Ln.lsz r.data.toList) r.size).data.toList).map Ln.bs) := htl'
      have HX : Hid (xs = pre ++ ⟨r.extract 0 (Ln.lsz r.data.toList), hp⟩ :: tl') := hxs
      clear hl htl hxs htl' hx
      gi_wp2_with (refine ⟨trivial, ?_⟩; gi_at_call 32; refine (callsIn_wide.2 (lineSize_any _ _ hr)).mono ?_; rintro e w' ⟨rfl, rfl⟩)
      refine hR.mono ?_
      rintro e W3 (⟨rfl, hJ3, hk3⟩ | ⟨rfl, hJx3⟩)
      · gi_wp2
        go_roundw
        case rel => exact ⟨pre ++ [⟨r.extract 0 (Ln.lsz r.data.toList), hp⟩], tl', _, rfl, extract_size_le _ _ _ hr, by rw [HX.out]; simp, HT.out, hJ3⟩
        case measure => simp only [strLen, ByteArray.size_extract]; omega
      · gi_wp2
        refine bodyPost_ret (results_none rfl _ _ _) rfl ?_
        exact ⟨⟨_, rfl⟩, .inr ⟨pre ++ [⟨r.extract 0 (Ln.lsz r.data.toList), hp⟩], ⟨tl', by rw [HX.out]; simp⟩, hJx3⟩⟩

set_option maxHeartbeats 1000000 in
theorem each_in (n : Nat) (s : ByteArray) (w : World) :
    CallsIn Fence.wide n Try.prog 23 #[.string s] w fun e w' => e = .returned (.func (.func 31) #[] #[.pointer (some ⟨w.heap.size, 0, none⟩)]) ∧ w' = w.alloc (.cells #[.string s] 9) := by
  refine callsIn_of_wp Try.func23 rfl trivial ?_ rfl
  simp only [Try.ntmps23, List.size_toArray, List.length_cons, List.length_nil, Nat.reduceAdd, Nat.reduceSub, Array.replicate_succ, Array.replicate_zero, List.push_toArray, List.append_toArray, List.nil_append, List.cons_append]
  gi_wp2
  go_ret
  exact ⟨rfl, rfl⟩

theorem each_stops (n : Nat) (hn : 1 ≤ n) (Bn n₀ : Nat) (s : ByteArray) (hs : s.size ≤ maxLen) (xs : List Str) (hx : vals xs = (Ln.splitL s.data.toList).map Ln.bs) (w : World) (hBn : Bn < w.heap.size)
    (hc : w.cell? ⟨Bn, 0, none⟩ = some (.string s)) :
    SeqStopsK Fence.wide n Try.prog 31 #[.pointer (some ⟨Bn, 0, none⟩)] (fun x : Str => #[Value.string x.1]) (Below n₀) (fun ys => ys = xs) (fun pre => pre <+: xs) xs.length w := fun l J Jx W hW _ _ hY h0 =>
  each1_in n hn l Bn n₀ s hs xs hx J Jx hY W ((hW.cell (p := ⟨Bn, 0, none⟩) hBn).trans hc) h0

theorem mem_le (x : List UInt8) : ∀ L : List (List UInt8), x ∈ L → x.length ≤ L.flatten.length
  | [], h => by simp at h
  | y :: L, h => by
    rw [List.flatten_cons, List.length_append]
    rcases List.mem_cons.1 h with rfl | h
    · omega
    · have := mem_le x L h; omega
/-- The lines of a text that Go can hold are strings that it can hold. -/
theorem lines_str (s : ByteArray) (hs : s.size ≤ maxLen) : ∃ xs : List Str, vals xs = (Ln.splitL s.data.toList).map Ln.bs := by
  have h : ∀ y ∈ (Ln.splitL s.data.toList).map Ln.bs, y.size ≤ maxLen := by
    intro y hy
    obtain ⟨x, hx, rfl⟩ := List.mem_map.1 hy
    have h1 : x.length ≤ (Ln.splitL s.data.toList).flatten.length := by
      exact mem_le _ _ hx
    rw [Ln.splitL_flatten] at h1
    rw [Ln.bs_size]
    exact Nat.le_trans h1 hs
  refine ⟨((Ln.splitL s.data.toList).map Ln.bs).attachWith _ h, ?_⟩
  unfold vals
  have := List.attachWith_map_val (f := id) h
  rw [List.map_id] at this
  exact this

end Go.Proofs.Ytapnakcoanjfgaa

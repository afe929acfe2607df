/-
  The walks of value.Text and of what it calls: the texts of values.
-/
import Derived.Test.YtcnmgebjbaclaaaDoorVlBinary
import Derived.Test.YtcnmgebjbaclaaaDoorVlShelf
import Derived.Test.YtcnmgebjbaclaaaDoorAppend
import Derived.Lib.LaidTab
import Derived.Lib.ItoaLen
namespace Go.Proofs.YtcnmgebjbaclaaaDoor
open Go.RowKit Go.Shelf
open Vl (V Res)

attribute [local go_sem] Oper.semAt_some

/-- The table of the powers of ten. -/
def TabW (w : World) : Prop := Lib.TabIs Tryd.prog w "internal/strconv.uint64pow10" .u64 Lib.pow10Tab
theorem gTab : (Tryd.prog.globalNamed "internal/strconv.uint64pow10").isSome = true := by kernel_rfl
theorem TabW.at {w w' : World} (h : TabW w) (hb : Below w.heap.size w w') : TabW w' := by
  obtain ⟨g, hg⟩ := Option.isSome_iff_exists.1 gTab
  unfold TabW Lib.TabIs World.var? at h ⊢
  rw [hg] at h ⊢
  simp only [Option.bind_some] at h ⊢
  have hlt : g < w.heap.size := by
    rcases Nat.lt_or_ge g w.heap.size with h' | h'
    · exact h'
    · rw [Array.getElem?_eq_none h'] at h; cases h
  rw [hb.block g hlt]
  exact h

namespace Vl
def join (l : List (List UInt8)) : List UInt8 := Lib.join l [32]
/-- P11.4, of one value. -/
def text (v : V) : List UInt8 :=
  if right v = false then [63] else if v.k = 1 then Lib.itoa v.n else if v.k = 2 then (if v.n = 1 then [116, 114, 117, 101] else [102, 97, 108, 115, 101])
  else [91] ++ join (v.r.map Lib.itoa) ++ [93]
/-- P11.4. -/
def texts (l : List V) : List UInt8 := join (l.map text)
end Vl
theorem grow_below (w : World) (k : Nat) (os : Array Obj) : Below w.heap.size w (Sort.grow (w.drewN k) os) :=
  ⟨rfl, rfl, rfl, by show w.heap.size ≤ (w.heap ++ os).size; simp, fun j hj => by show (w.heap ++ os)[j]? = _; rw [Array.getElem?_append_left hj]⟩

set_option maxRecDepth 100000 in
set_option maxHeartbeats 2000000 in
theorem digits_any (n : Int) (h0 : -9223372036854775808 ≤ n) (h1 : n ≤ 9223372036854775807) (w : World) (ht : TabW w) :
    Calls Tryd.prog 44 #[.int .i64 n] w fun e w' => e = .returned (.string (Ln.bs (Lib.itoa n))) ∧ Below w.heap.size w w' := by
  have HF : Hid (_) := formatInt_ok n h0 h1 w ht
  go_enter Tryd.func44, Tryd.ntmps44
  go_wp2_with fail
  refine Calls.mono HF.out ?_
  rintro e w1 ⟨rfl, k, os, rfl⟩
  go_wp2
  go_ret
  exact ⟨rfl, grow_below w k os⟩
set_option maxRecDepth 100000 in
set_option maxHeartbeats 2000000 in
theorem fmtBool_any (b : Bool) (w : World) : Calls Tryd.prog 46 #[.bool b] w fun e w' => e = .returned (.string (Ln.bs (if b then [116, 114, 117, 101] else [102, 97, 108, 115, 101]))) ∧ w' = w := by
  cases b <;> (go_enter Tryd.func46, Tryd.ntmps46; go_wp2; go_ret; exact ⟨rfl, rfl⟩)
theorem join_bs (L : List (List UInt8)) : (L.map Ln.bs).map (·.data.toList) = L := by
  rw [List.map_map]
  have : ((fun s : ByteArray => s.data.toList) ∘ Ln.bs) = id := by funext l; rfl
  rw [this, List.map_id]
set_option maxRecDepth 100000 in
set_option maxHeartbeats 2000000 in
theorem joined_any (L : List (List UInt8)) (v : Value) (m : Nat) (w : World) (hm : m ≤ w.heap.size) (hrow : RowLow m w v L) (hl : L.length ≤ 1000000000) (hj : (Vl.join L).length ≤ 140737488355328) :
    Calls Tryd.prog 32 #[v] w fun e w' => e = .returned (.string (Ln.bs (Vl.join L))) ∧ Below w.heap.size w w' := by
  have HJ : Hid (Calls Tryd.prog 47 #[v, .string ⟨#[32]⟩] w fun e w' => e = .returned (.string (Ln.bs (Vl.join L))) ∧ Below w.heap.size w w') := by
    obtain ⟨ao, cap, b, off, rfl, ⟨hc, -⟩, ha, hx⟩ := hrow.parts
    cases L with
    | nil =>
      refine (join_none ao cap ⟨#[32]⟩ w).mono ?_
      rintro e w' ⟨rfl, rfl⟩
      exact ⟨rfl, Below.refl _ _⟩
    | cons x r =>
      obtain ⟨rfl, hb⟩ := ha (by simp)
      have h1 := join_some b off cap ((x :: r).map Ln.bs) ⟨#[32]⟩ w (fun j y hy => by
        rw [List.getElem?_map] at hy
        cases hg : (x :: r)[j]? with
        | none => rw [hg] at hy; cases hy
        | some z => rw [hg] at hy; injection hy with hy; rw [← hy]; exact hx j z hg) (by omega) (by rw [List.length_map]; omega) (by rw [List.length_map]; exact hc) (by rw [join_bs]; exact hj)
      rw [join_bs, List.length_map] at h1
      exact h1
  clear hrow hj
  go_enter Tryd.func32, Tryd.ntmps32
  go_wp2_with fail
  refine Calls.mono HJ.out ?_
  rintro e w1 ⟨rfl, hb⟩
  go_wp2
  go_ret
  exact ⟨rfl, hb⟩
end Go.Proofs.YtcnmgebjbaclaaaDoor

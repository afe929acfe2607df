/-
  The walk of shift.wrong: is one of the hunks not right?
-/
import Derived.Test.YtflnakjffgobmaaHnApply
import Derived.Test.YtflnakjffgobmaaShMath
import Derived.Test.YtflnakjffgobmaaLows
namespace Go.Proofs.Ytflnakjffgobmaa
open Go.RowKit Go.Shelf

attribute [local go_sem] Oper.semAt_some

/-- Is one of the hunks not right? -/
def wrongs (xs : List HA) : Bool := xs.any fun x => !Hn.right x.h
theorem wrongs_drop (xs : List HA) (k : Nat) (x : HA) (hx : xs[k]? = some x) : wrongs (xs.drop k) = (!Hn.right x.h || wrongs (xs.drop (k + 1))) := by
  have hk : k < xs.length := (List.getElem?_eq_some_iff.1 hx).1
  have e : xs.drop k = x :: xs.drop (k + 1) := by rw [List.drop_eq_getElem_cons hk, (List.getElem?_eq_some_iff.1 hx).2]
  rw [e]; rfl

set_option maxRecDepth 100000 in
set_option maxHeartbeats 1000000 in
theorem wrong1_any (x : HA) (m : Nat) (w : World) (hx : x.Low m w) (hm : m ≤ w.heap.size) (hf : x.Fits) :
    Calls Try.prog 92 #[x.val] w fun e w' => e = .returned (.bool (!Hn.right x.h)) ∧ Below w.heap.size w w' := by
  obtain ⟨X, hX⟩ : ∃ X, X = w.alloc (.cells #[.int .i64 x.at_, x.vo, x.vn] 41) := ⟨_, rfl⟩
  have bX : Below w.heap.size w X := by rw [hX]; exact below_nw w _
  have RG : Hid (_) := right_any x m X (hx.below bX hm) (Nat.le_trans hm bX.size) hf
  have BX : Hid (Below w.heap.size w X) := bX
  obtain ⟨a1, c1, b1, o1, e1, -, -, -⟩ := hx.1.parts
  obtain ⟨a2, c2, b2, o2, e2, -, -, -⟩ := hx.2.parts
  obtain ⟨p, vo, vn, L1, L2⟩ := x
  simp only at e1 e2
  subst e1 e2
  clear hx bX
  simp only [HA.val, HA.h] at RG hX ⊢
  go_enter Try.func92, Try.ntmps92
  go_wp2_with fail
  rw [← hX]
  refine Calls.mono RG.out ?_
  rintro e w1 ⟨rfl, b1⟩
  go_wp2
  go_ret
  exact ⟨rfl, below_then BX.out b1⟩

set_option maxRecDepth 100000 in
set_option maxHeartbeats 2000000 in
theorem indexWrong_any (xs : List HA) (v : Value) (m : Nat) (w : World) (hv : HaLow m w v xs) (hm : m ≤ w.heap.size) (hf : ∀ x ∈ xs, x.Fits) (hl : xs.length ≤ 1000000) :
    Calls Try.prog 120 #[v, .func (.func 92) #[] #[]] w fun e w' => ∃ r : Int, e = .returned (.int .i64 r) ∧ wrongs xs = decide (0 ≤ r) ∧ Below w.heap.size w w' := by
  obtain ⟨⟨ao, cap, b, off, rfl, -, hao, hc⟩, hlow⟩ := hv
  go_enter Try.func120, Try.ntmps120
  go_wp2
  go_loopw [8] (fun i wr => ∃ (k : Nat), k ≤ xs.length ∧ i = .int .i64 k ∧ wrongs xs = wrongs (xs.drop k) ∧ Below w.heap.size w wr) (fun i _ => xs.length - (intOf i).toNat)
  case atStart => exact ⟨0, Nat.zero_le _, rfl, rfl, Below.refl _ _⟩
  case round =>
    obtain ⟨k, hk, rfl, hj, hb⟩ := hrel
    by_cases hlt : k < xs.length
    · obtain ⟨x, hx⟩ : ∃ x, xs[k]? = some x := ⟨xs[k], List.getElem?_eq_getElem hlt⟩
      obtain ⟨rfl, hbm⟩ := hao (by omega)
      obtain ⟨g0, g1, g2⟩ := haCells_get xs k x hx
      have c0 : wr.cell? ⟨b, off + k * 3, none⟩ = some (.int .i64 x.at_) := (hb.cell (p := ⟨b, off + k * 3, none⟩) (by show b < _; omega)).trans (hc _ _ g0)
      have c1 : wr.cell? ⟨b, off + k * 3 + 1, none⟩ = some x.vo := (hb.cell (p := ⟨b, off + k * 3 + 1, none⟩) (by show b < _; omega)).trans (hc _ _ g1)
      have c2 : wr.cell? ⟨b, off + k * 3 + 2, none⟩ = some x.vn := (hb.cell (p := ⟨b, off + k * 3 + 2, none⟩) (by show b < _; omega)).trans (hc _ _ g2)
      have hm2 := List.mem_of_getElem? hx
      have xl := (hlow x hm2).below hb hm
      have HJ : Hid (wrongs xs = (!Hn.right x.h || wrongs (xs.drop (k + 1)))) := hj.trans (wrongs_drop xs k x hx)
      obtain ⟨a1, cp1, bb1, oo1, e1, -, -, -⟩ := xl.1.parts
      obtain ⟨a2, cp2, bb2, oo2, e2, -, -, -⟩ := xl.2.parts
      have W1 : Hid (_) := wrong1_any x m wr xl (Nat.le_trans hm hb.size) (hf x hm2)
      have HB : Hid (Below w.heap.size w wr) := hb
      obtain ⟨p, vo, vn, L1, L2⟩ := x
      simp only [HA.val, HA.h] at c0 c1 c2 e1 e2 HJ W1
      subst e1 e2
      clear hc hao hlow hj hx g0 g1 g2 hf hb xl hm2
      go_wp2_with fail
      refine Calls.mono W1.out ?_
      rintro e w1 ⟨rfl, b1⟩
      have BW : Hid (Below w.heap.size w w1) := below_then HB.out b1
      clear W1 HB b1 c0 c1 c2
      cases hr : Hn.right ⟨p, L1, L2⟩ with
      | false =>
        rw [hr] at HJ
        go_wp2
        go_ret
        exact ⟨k, rfl, by rw [HJ.out]; simp, BW.out⟩
      | true =>
        rw [hr] at HJ
        go_wp2
        go_roundw
        case rel => exact ⟨k + 1, by omega, by go_num, HJ.out, BW.out⟩
        case measure => simp [intOf]; omega
    · have HR : Hid (wrongs xs = false) := by
        show wrongs xs = false
        rw [hj, List.drop_eq_nil_of_le (by omega)]; rfl
      clear hc hao hlow hj
      go_wp2
      go_ret
      exact ⟨-1, rfl, by rw [HR.out]; rfl, hb⟩

set_option maxRecDepth 100000 in
set_option maxHeartbeats 1000000 in
theorem wrong_any (xs : List HA) (v : Value) (m : Nat) (w : World) (hv : HaLow m w v xs) (hm : m ≤ w.heap.size) (hf : ∀ x ∈ xs, x.Fits) (hl : xs.length ≤ 1000000) :
    Calls Try.prog 50 #[v] w fun e w' => e = .returned (.bool (wrongs xs)) ∧ Below w.heap.size w w' := by
  have IX : Hid (_) := indexWrong_any xs v m w hv hm hf hl
  obtain ⟨⟨ao, cap, b, off, rfl, -, hao, hc⟩, hlow⟩ := hv
  clear hao hc hlow hf
  have CF : Calls Try.prog 91 #[.slice ao xs.length cap, .func (.func 92) #[] #[]] w fun e w' => e = .returned (.bool (wrongs xs)) ∧ Below w.heap.size w w' := by
    go_enter Try.func91, Try.ntmps91
    go_wp2_with fail
    refine Calls.mono IX.out ?_
    rintro e w1 ⟨r, rfl, hr, b1⟩
    have HR : Hid (_) := hr
    clear hr
    go_wp2
    go_ret
    exact ⟨ret_bool HR.out.symm, b1⟩
  have CF2 : Hid (_) := CF
  clear CF IX
  go_enter Try.func50, Try.ntmps50
  go_wp2_with fail
  refine Calls.mono CF2.out ?_
  rintro e w1 ⟨rfl, b1⟩
  go_wp2
  go_ret
  exact ⟨rfl, b1⟩

end Go.Proofs.Ytflnakjffgobmaa

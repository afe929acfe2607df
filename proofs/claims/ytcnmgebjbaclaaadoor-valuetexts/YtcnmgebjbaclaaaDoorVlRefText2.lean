/-
  The walk of the document's own text of a row of values.
-/
import Derived.Test.YtcnmgebjbaclaaaDoorVlRefText
namespace Go.Proofs.YtcnmgebjbaclaaaDoor
open Go.RowKit Go.Shelf
open Vl (V Res)

attribute [local go_sem] Oper.semAt_some

set_option maxRecDepth 100000 in
set_option maxHeartbeats 8000000 in
theorem rText_any (xs : List VA) (v : Value) (w : World) (hv : VsLow w.heap.size w v xs) (hl : xs.length ≤ 1000) (hf : ∀ x ∈ xs, V.Fit x.v) (ht : TabW w) :
    Calls Tryd.prog 16 #[v] w fun e w' => e = .returned (.string (Ln.bs (Vl.texts (xs.map VA.v)))) ∧ Below w.heap.size w w' := by
  obtain ⟨⟨ao, cap, b, off, rfl, -, hao, hc⟩, hlow⟩ := hv
  have HC : Hid (_) := hc
  have HLO : Hid (∀ x ∈ xs, x.Low w.heap.size w) := hlow
  have HF : Hid (∀ x ∈ xs, V.Fit x.v) := hf
  have HTB : Hid (TabW w) := ht
  have HLEN : Hid (∀ j, (Vl.join ((xs.take j).map fun x => Vl.text x.v)).length ≤ 1000 * 23001) := by
    show ∀ j, _
    intro j
    have h9 := join_len 23000 ((xs.take j).map fun x => Vl.text x.v) (fun y hy => by
      obtain ⟨z, hz, rfl⟩ := List.mem_map.1 hy
      exact text_len z.v (hf z (List.mem_of_mem_take hz)))
    rw [List.length_map, List.length_take] at h9
    have : min j xs.length * (23000 + 1) ≤ 1000 * (23000 + 1) := Nat.mul_le_mul_right _ (by omega)
    omega
  clear hc hlow hf ht
  go_enter Tryd.func16, Tryd.ntmps16
  go_wp2
  go_loopw [3, 4] (fun s i wr => ∃ j : Nat, j ≤ xs.length ∧ i = .int .i64 j ∧ s = .string (Ln.bs (Vl.join ((xs.take j).map fun x => Vl.text x.v))) ∧ Below w.heap.size w wr) (fun _ i _ => xs.length - (intOf i).toNat)
  case atStart => exact ⟨0, Nat.zero_le _, rfl, rfl, Below.refl _ _⟩
  case round =>
    obtain ⟨j, hj, rfl, rfl, hB⟩ := hrel
    by_cases hlt : j < xs.length
    · obtain ⟨x, hx⟩ : ∃ x, xs[j]? = some x := ⟨xs[j], List.getElem?_eq_getElem hlt⟩
      obtain ⟨rfl, hbm⟩ := hao (by omega)
      obtain ⟨g0, g1, g2⟩ := vaCells_get xs j x hx
      have c0 : wr.cell? ⟨b, off + j * 3, none⟩ = some (.int .u8 x.k) := cell_some_below (HC.out _ _ g0) hB
      have c1 : wr.cell? ⟨b, off + j * 3 + 1, none⟩ = some (.int .i64 x.n) := cell_some_below (HC.out _ _ g1) hB
      have c2 : wr.cell? ⟨b, off + j * 3 + 2, none⟩ = some x.vs := cell_some_below (HC.out _ _ g2) hB
      have hm := List.mem_of_getElem? hx
      obtain ⟨sa, sc, hsv⟩ := (HLO.out x hm).shape
      obtain ⟨D, hD⟩ : ∃ D, D = Ln.bs (Vl.text x.v) := ⟨_, rfl⟩
      have s3 : D.size ≤ 23000 := by rw [hD, Ln.bs_size]; exact text_len x.v (HF.out x hm)
      have HFI : Hid (Calls Tryd.prog 33 #[x.val] wr fun e w' => e = .returned (.string D) ∧ Below wr.heap.size wr w') := by rw [hD]; exact rone_any x wr ((HLO.out x hm).at hB) (HF.out x hm) (HTB.out.at hB)
      obtain ⟨S, hS⟩ : ∃ S, S = Ln.bs (Vl.join ((xs.take j).map fun x => Vl.text x.v)) := ⟨_, rfl⟩
      have hSs : S.size ≤ 1000 * 23001 := by rw [hS, Ln.bs_size]; exact HLEN.out j
      have HNEW : Hid (Ln.bs (Vl.join ((xs.take (j + 1)).map fun x => Vl.text x.v)) = if j = 0 then S ++ D else S ++ Ln.bs [32] ++ D) := by
        show _ = _
        rw [hD]
        have e : xs.take (j + 1) = xs.take j ++ [x] := by rw [List.take_add_one, hx]; rfl
        rw [e, List.map_append, List.map_cons, List.map_nil, join_snoc, List.length_map, List.length_take, hS]
        by_cases h0 : j = 0
        · subst h0
          rw [if_pos (by simp), if_pos rfl, bs_cat]; rfl
        · rw [if_neg (by omega), if_neg h0, bs_cat, bs_cat]; simp
      rw [← hS]
      obtain ⟨xk, xn, xv, xr⟩ := x
      simp only at hsv
      subst hsv
      simp only [VA.val] at HFI c0 c1 c2
      clear hx hS hD g0 g1 g2 hm
      by_cases hj0 : j = 0
      · subst hj0
        simp only [Nat.zero_mul, Nat.add_zero] at c0 c1 c2
        go_wp2_with fail
        refine Calls.mono HFI.out ?_
        rintro e w3 ⟨rfl, hb3⟩
        clear c0 c1 c2
        go_wp2
        go_roundw
        case rel => exact ⟨1, by omega, by go_num, by rw [HNEW.out]; simp, below_then hB hb3⟩
        case measure => simp [intOf]; omega
      · have hjp : decide ((0 : Int) < (j : Int)) = true := by simp; omega
        go_wp2_with fail
        refine Calls.mono HFI.out ?_
        rintro e w3 ⟨rfl, hb3⟩
        clear c0 c1 c2
        go_wp2
        go_roundw
        case rel => exact ⟨j + 1, by omega, by go_num, by rw [HNEW.out, if_neg hj0]; rfl, below_then hB hb3⟩
        case measure => simp [intOf]; omega
    · have hke : j = xs.length := by omega
      subst hke
      rw [List.take_length]
      go_wp2
      go_ret
      refine ⟨?_, hB⟩
      unfold Vl.texts
      rw [List.map_map]; rfl
end Go.Proofs.YtcnmgebjbaclaaaDoor

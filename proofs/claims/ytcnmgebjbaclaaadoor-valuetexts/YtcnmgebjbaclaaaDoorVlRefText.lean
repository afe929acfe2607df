/-
  The walks of the document's own texts of values.
-/
import Derived.Test.YtcnmgebjbaclaaaDoorVlText2
import Derived.Test.YtcnmgebjbaclaaaDoorVlRef
namespace Go.Proofs.YtcnmgebjbaclaaaDoor
open Go.RowKit Go.Shelf
open Vl (V Res)

attribute [local go_sem] Oper.semAt_some

theorem join_snoc (l : List (List UInt8)) (x : List UInt8) : Vl.join (l ++ [x]) = if l.length = 0 then x else Vl.join l ++ 32 :: x := by
  unfold Vl.join
  induction l with
  | nil => simp [Lib.join]
  | cons a r ih =>
    cases r with
    | nil => simp [Lib.join, List.intercalate, List.intersperse]
    | cons b s =>
      have hj : ∀ t : List (List UInt8), Lib.join (a :: b :: t) [32] = a ++ ([32] ++ Lib.join (b :: t) [32]) := fun t => by simp [Lib.join, List.intercalate, List.intersperse]
      rw [List.cons_append, List.cons_append, hj, ← List.cons_append, ih, hj]
      simp

set_option maxRecDepth 100000 in
set_option maxHeartbeats 8000000 in
theorem rone_any (x : VA) (w : World) (hx : x.Low w.heap.size w) (hf : V.Fit x.v) (ht : TabW w) :
    Calls Tryd.prog 33 #[x.val] w fun e w' => e = .returned (.string (Ln.bs (Vl.text x.v))) ∧ Below w.heap.size w w' := by
  obtain ⟨⟨ao, cap, b, off, e1, -, hao, hc⟩, hrl⟩ := hx
  obtain ⟨k, n, vs, r⟩ := x
  simp only at e1 hao hc hrl
  subst e1
  have hn0 : -9223372036854775808 ≤ n := hf.n0
  have hn1 : n ≤ 9223372036854775807 := hf.n1
  have HR0 : Hid (∀ z ∈ r, -9223372036854775808 ≤ z ∧ z ≤ 9223372036854775807) := hf.r0
  have HC : Hid (∀ (j : Nat) (z : Int), r[j]? = some z → w.cell? ⟨b, off + j, none⟩ = some (.int .i64 z)) := fun j z hz => hc j _ (by rw [List.getElem?_map, hz]; rfl)
  have HRR : Hid (∀ W, Calls Tryd.prog 12 #[vV k n (.slice ao r.length cap)] W fun e w' => e = .returned (.bool (Vl.right ⟨k, n, r⟩)) ∧ Below W.heap.size W w') := rright_any k n ao r cap hrl
  have HTX : Hid (Vl.text ⟨k, n, r⟩ = if Vl.right ⟨k, n, r⟩ = false then [63] else if k = 1 then Lib.itoa n else if k = 2 then (if n = 1 then [116, 114, 117, 101] else [102, 97, 108, 115, 101]) else [91] ++ Vl.join (r.map Lib.itoa) ++ [93]) := rfl
  have HTB : Hid (TabW w) := ht
  have HL : Hid (Vl.right ⟨k, n, r⟩ = true → k ≠ 1 → k ≠ 2 → r.length ≤ 1024) := by
    show _ → _ → _ → _
    intro h h1 h2
    unfold Vl.right at h
    simp only [h1, h2, if_false] at h
    split at h
    · simp at h; exact h.2
    · cases h
  obtain ⟨T, hT⟩ : ∃ t, t = Vl.text ⟨k, n, r⟩ := ⟨_, rfl⟩
  have hv : VA.v ⟨k, n, .slice ao r.length cap, r⟩ = ⟨k, n, r⟩ := rfl
  rw [hv, ← hT]
  rw [← hT] at HTX
  obtain ⟨R, hR⟩ : ∃ x, x = Vl.right ⟨k, n, r⟩ := ⟨_, rfl⟩
  rw [← hR] at HTX HRR HL
  clear hT hv hf ht hc hR
  obtain ⟨X, hX⟩ : ∃ X, X = w.alloc (.cells #[.int .u8 k, .int .i64 n, .slice ao r.length cap] 25) := ⟨_, rfl⟩
  have HX : Hid (Below w.heap.size w X ∧ X.heap[w.heap.size]? = some (.cells #[.int .u8 k, .int .i64 n, .slice ao r.length cap] 25 (0, 0)) ∧ w.heap.size < X.heap.size) := by rw [hX]; exact ⟨below_new w _, World.alloc_heap_new w _, by rw [World.size_alloc]; omega⟩
  simp only [VA.val]
  go_enter Tryd.func33, Tryd.ntmps33
  go_wp2_with fail
  rw [← hX]
  clear hX
  refine Calls.mono (HRR.out X) ?_
  rintro e w1 ⟨rfl, hb1⟩
  have H1 : Hid (Below w.heap.size w w1 ∧ w1.heap[w.heap.size]? = some (.cells #[.int .u8 k, .int .i64 n, .slice ao r.length cap] 25 (0, 0)) ∧ w.heap.size < w1.heap.size) := ⟨below_then HX.out.1 hb1, (hb1.block _ HX.out.2.2).trans HX.out.2.1, Nat.lt_of_lt_of_le HX.out.2.2 hb1.size⟩
  clear hb1 HX HRR
  cases R with
  | false =>
    go_wp2
    go_ret
    rw [HTX.out]
    exact ⟨rfl, H1.out.1⟩
  | true =>
    have HTX2 : Hid (T = if k = 1 then Lib.itoa n else if k = 2 then (if n = 1 then [116, 114, 117, 101] else [102, 97, 108, 115, 101]) else [91] ++ Vl.join (r.map Lib.itoa) ++ [93]) := HTX.out
    clear HTX
    have c0 := vcells_at H1.out.2.1 (o := 0) rfl
    have c1 := vcells_at H1.out.2.1 (o := 1) rfl
    have c2 := vcells_at H1.out.2.1 (o := 2) rfl
    by_cases hk2 : k = 2
    · subst hk2
      by_cases hn : n = 1
      · subst hn
        go_wp2
        go_ret
        rw [HTX2.out]
        exact ⟨rfl, H1.out.1⟩
      · have HN : Hid (n ≠ 1) := hn
        have hnb : (n == 1) = false := by simpa using hn
        have HTF : Hid (T = [102, 97, 108, 115, 101]) := by
          show T = _
          rw [HTX2.out]; simp [hn]
        clear hn
        go_wp2
        all_goals go_ret
        all_goals rw [HTF.out]
        all_goals exact ⟨rfl, H1.out.1⟩
    · have hk2b : (k == 2) = false := by simpa using hk2
      have HK2 : Hid (k ≠ 2) := hk2
      clear hk2
      by_cases hk1 : k = 1
      · subst hk1
        clear HK2
        go_wp2_with fail
        refine Calls.mono (formatInt_ok n hn0 hn1 _ (HTB.out.at H1.out.1)) ?_
        rintro e w3 ⟨rfl, kk, os, rfl⟩
        go_wp2
        go_ret
        rw [HTX2.out]
        exact ⟨rfl, below_then H1.out.1 (grow_below _ kk os)⟩
      · have hk1b : (k == 1) = false := by simpa using hk1
        have HTX3 : Hid (T = [91] ++ Vl.join (r.map Lib.itoa) ++ [93]) := by
          show T = _
          rw [HTX2.out, if_neg hk1, if_neg HK2.out]
        have hrl2 : r.length ≤ 1024 := HL.out rfl hk1 HK2.out
        clear hk1 HTX2 HK2
        go_wp2
        have HH : Hid (_) := H1.out.2.1
        clear c0 c1 c2
        go_loopw [3, 4] (fun s i wr => ∃ j : Nat, j ≤ r.length ∧ i = .int .i64 j ∧ s = .string (Ln.bs (91 :: Vl.join ((r.take j).map Lib.itoa))) ∧ Below w1.heap.size w1 wr) (fun _ i _ => r.length - (intOf i).toNat)
        case atStart => exact ⟨0, Nat.zero_le _, rfl, rfl, Below.refl _ _⟩
        case round =>
          obtain ⟨j, hj, rfl, rfl, hB⟩ := hrel
          have c2 := vcells_at ((hB.block _ H1.out.2.2).trans HH.out) (o := 2) rfl
          by_cases hlt : j < r.length
          · obtain ⟨z, hz⟩ : ∃ z, r[j]? = some z := ⟨r[j], List.getElem?_eq_getElem hlt⟩
            obtain ⟨rfl, hbm⟩ := hao (by omega)
            have cz : wr.cell? ⟨b, off + j, none⟩ = some (.int .i64 z) := cell_some_below (HC.out _ _ hz) (below_then H1.out.1 hB)
            obtain ⟨z0, z1⟩ := HR0.out z (List.mem_of_getElem? hz)
            obtain ⟨D, hD⟩ : ∃ D, D = Ln.bs (Lib.itoa z) := ⟨_, rfl⟩
            have s3 : D.size ≤ 21 := by rw [hD, Ln.bs_size]; exact Lib.itoa_length_le z z0 z1
            have HFI : Hid (∀ W, TabW W → Calls Tryd.prog 48 #[.int .i64 z, .int .i64 10] W fun e w' => e = .returned (.string D) ∧ ∃ k os, w' = Sort.grow (W.drewN k) os) := fun W hW => by rw [hD]; exact formatInt_ok z z0 z1 W hW
            have HS : Hid (_) := (show (Vl.join ((r.take j).map Lib.itoa)).length ≤ 1024 * 22 from by
              have h9 := join_len 21 ((r.take j).map Lib.itoa) (fun y hy => by
                obtain ⟨z, hz, rfl⟩ := List.mem_map.1 hy
                have := HR0.out z (List.mem_of_mem_take hz)
                exact Lib.itoa_length_le z this.1 this.2)
              rw [List.length_map, List.length_take] at h9
              omega)
            obtain ⟨S, hS⟩ : ∃ S, S = Ln.bs (91 :: Vl.join ((r.take j).map Lib.itoa)) := ⟨_, rfl⟩
            have hSs : S.size ≤ 30000 := by rw [hS, Ln.bs_size, List.length_cons]; have := HS.out; omega
            have HNEW : Hid (Ln.bs (91 :: Vl.join ((r.take (j + 1)).map Lib.itoa)) = if j = 0 then S ++ D else S ++ Ln.bs [32] ++ D) := by
              show _ = _
              rw [hD]
              have e : r.take (j + 1) = r.take j ++ [z] := by rw [List.take_add_one, hz]; rfl
              rw [e, List.map_append, List.map_cons, List.map_nil, join_snoc, List.length_map, List.length_take, hS]
              by_cases h0 : j = 0
              · subst h0
                rw [if_pos (by simp), if_pos rfl, bs_cat]; rfl
              · rw [if_neg (by omega), if_neg h0, bs_cat, bs_cat]; simp
            rw [← hS]
            clear hz hS HS hD
            by_cases hj0 : j = 0
            · subst hj0
              rw [Nat.add_zero] at cz
              go_wp2_with fail
              refine Calls.mono (HFI.out _ (HTB.out.at (below_then H1.out.1 hB))) ?_
              rintro e w3 ⟨rfl, kk, os, rfl⟩
              clear c2 cz
              go_wp2
              go_roundw
              case rel => exact ⟨1, by omega, by go_num, by rw [HNEW.out]; simp, below_then hB (grow_below _ kk os)⟩
              case measure => simp [intOf]; omega
            · have hjp : decide ((0 : Int) < (j : Int)) = true := by simp; omega
              go_wp2_with fail
              refine Calls.mono (HFI.out _ (HTB.out.at (below_then H1.out.1 hB))) ?_
              rintro e w3 ⟨rfl, kk, os, rfl⟩
              clear c2 cz
              go_wp2
              go_roundw
              case rel => exact ⟨j + 1, by omega, by go_num, by rw [HNEW.out, if_neg hj0]; rfl, below_then hB (grow_below _ kk os)⟩
              case measure => simp [intOf]; omega
          · have hke : j = r.length := by omega
            subst hke
            rw [List.take_length]
            have HS : Hid (_) := (show (Vl.join (r.map Lib.itoa)).length ≤ 1024 * 22 from by
              have h9 := join_len 21 (r.map Lib.itoa) (fun y hy => by
                obtain ⟨z, hz, rfl⟩ := List.mem_map.1 hy
                have := HR0.out z hz
                exact Lib.itoa_length_le z this.1 this.2)
              rw [List.length_map] at h9
              omega)
            obtain ⟨S, hS⟩ : ∃ S, S = Ln.bs (91 :: Vl.join (r.map Lib.itoa)) := ⟨_, rfl⟩
            have hSs : S.size ≤ 30000 := by rw [hS, Ln.bs_size, List.length_cons]; have := HS.out; omega
            rw [← hS]
            have HSS : Hid (_) := hS
            clear hS HS
            go_wp2
            go_ret
            rw [HTX3.out, HSS.out]
            refine ⟨?_, below_then H1.out.1 hB⟩
            have q2 : (⟨#[93]⟩ : ByteArray) = Ln.bs [93] := rfl
            rw [q2, bs_cat]; rfl
end Go.Proofs.YtcnmgebjbaclaaaDoor

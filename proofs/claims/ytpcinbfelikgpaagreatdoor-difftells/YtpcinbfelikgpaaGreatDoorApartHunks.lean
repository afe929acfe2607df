/-
  The walk of clerestorykit.ApartHunks: rows of hunks, each with its lines in memory of its own, lie apart.
-/
import Derived.Test.YtpcinbfelikgpaaGreatDoorApartBag
namespace Go.Proofs.YtpcinbfelikgpaaGreatDoor
open Go.RowKit Go.Shelf

attribute [local go_sem] Oper.semAt_some

/-- The lists of texts of rows of hunks, with their lengths. -/
def hvRows (xs : List HV) : List (Value × Nat) := xs.flatMap fun x => [(x.vo, x.old.length), (x.vn, x.new.length)]
def txtRows (Rs : List (Value × List HV)) : List (Value × Nat) := Rs.flatMap fun p => hvRows p.2
def hkRows (Rs : List (Value × List HV)) : List (Value × Nat) := Rs.map fun p => (p.1, p.2.length)
theorem hvRows_fst (xs : List HV) : (hvRows xs).map Prod.fst = txts xs := by
  induction xs with
  | nil => rfl
  | cons x r ih => simp [hvRows, txts] at ih ⊢; exact ih
theorem txtRows_fst (Rs : List (Value × List HV)) : (txtRows Rs).map Prod.fst = Rs.flatMap fun p => txts p.2 := by
  induction Rs with
  | nil => rfl
  | cons x r ih => rw [txtRows, List.flatMap_cons, List.map_append, hvRows_fst, List.flatMap_cons]; exact congrArg _ ih
theorem BagIs.mono {B B' b : Nat} {T H : List Value} {W : World} (h : BagIs B b T H W) (hb : B' ≤ B) : BagIs B' b T H W := by
  obtain ⟨tv, hv, h0, h1, h2, h3⟩ := h
  exact ⟨tv, hv, h0, Nat.le_trans hb h1, owns_base h2 hb, owns_base h3 hb⟩
theorem own_txt {B : Nat} {Rs : List (Value × List HV)} {W : World} (hrow : ∀ p ∈ Rs, W.ownsRow B 39 3 p.1 p.2.length (hkCells p.2) ∧ ∀ x ∈ p.2, HV.Ok B x W) : Own 9 1 B (txtRows Rs) W (fun _ _ => True) := fun j p hp => by
  have hm := List.mem_of_getElem? hp
  obtain ⟨q, hq, hm⟩ := List.mem_flatMap.1 hm
  obtain ⟨x, hx, hm⟩ := List.mem_flatMap.1 hm
  obtain ⟨o1, o2⟩ := (hrow q hq).2 x hx
  simp only [List.mem_cons, List.not_mem_nil, or_false] at hm
  rcases hm with rfl | rfl
  · exact ⟨_, o1, trivial⟩
  · exact ⟨_, o2, trivial⟩
theorem own_hk {B : Nat} {Rs : List (Value × List HV)} {W : World} (hrow : ∀ p ∈ Rs, W.ownsRow B 39 3 p.1 p.2.length (hkCells p.2) ∧ ∀ x ∈ p.2, HV.Ok B x W) : Own 39 3 B (hkRows Rs) W (fun _ _ => True) := fun j p hp => by
  have hm := List.mem_of_getElem? hp
  obtain ⟨q, hq, rfl⟩ := List.mem_map.1 hm
  exact ⟨_, (hrow q hq).1, trivial⟩

/-- A row that lay there stays, where all that lay there stays. -/
theorem owns_lt {W W' : World} {B k size : Nat} {e : TypeId} {v : Value} {xs : List Value} (h : W.ownsRow B e size v k xs) (hb : Below W.heap.size W W') : W'.ownsRow B e size v k xs := owns_below h hb

set_option maxRecDepth 100000 in
set_option maxHeartbeats 8000000 in
theorem apartHunks_any (B : Nat) (Rs : List (Value × List HV)) (T capT : Nat) (w : World) (hcell : ∀ (k : Nat) (p : Value × List HV), Rs[k]? = some p → w.cell? ⟨T, k, none⟩ = some p.1) (hrow : ∀ p ∈ Rs, w.ownsRow B 39 3 p.1 p.2.length (hkCells p.2) ∧ ∀ x ∈ p.2, HV.Ok B x w) (hAT : Apart (txtRows Rs)) (hAH : Apart (hkRows Rs)) (hB : B ≤ w.heap.size) (hn : Rs.length ≤ 10) (hl : ∀ p ∈ Rs, p.2.length ≤ 4000) (hx : ∀ p ∈ Rs, ∀ x ∈ p.2, x.old.length ≤ 1000000 ∧ x.new.length ≤ 1000000) :
    Calls Tryz.prog 15 #[.slice (some ⟨T, 0, none⟩) Rs.length capT] w fun e w' => e = .returned (.bool true) ∧ Below B w w' := by
  obtain ⟨n, hnn⟩ : ∃ n, n = Rs.length := ⟨_, rfl⟩
  have hlen : ∀ k, (((Rs.take k).flatMap fun p => txts p.2)).length ≤ k * 8000 := by
    intro k
    induction k with
    | zero => simp
    | succ k ih =>
      rw [List.take_add_one, List.flatMap_append, List.length_append]
      cases hk : Rs[k]? with
      | none => simp only [Option.toList_none, List.flatMap_nil, List.length_nil]; omega
      | some p =>
        have := hl p (List.mem_of_getElem? hk)
        simp only [Option.toList_some, List.flatMap_cons, List.flatMap_nil, List.append_nil, txts_len]; omega
  have HL : Hid (_) := hlen
  have HN : Hid (n = Rs.length) := hnn
  have HC : Hid (_) := hcell
  have HR : Hid (∀ p ∈ Rs, w.ownsRow B 39 3 p.1 p.2.length (hkCells p.2) ∧ ∀ x ∈ p.2, HV.Ok B x w) := hrow
  have HAT : Hid (Apart (txtRows Rs)) := hAT
  have HAH : Hid (Apart (hkRows Rs)) := hAH
  have HLE : Hid (_) := hl
  have HX : Hid (_) := hx
  rw [← hnn] at hn ⊢
  clear hlen hcell hrow hAT hAH hl hx hnn
  obtain ⟨X, hX⟩ : ∃ X, X = w.alloc (.cells (bagC (.slice none 0 0) (.slice none 0 0)) 75) := ⟨_, rfl⟩
  have bX : Below w.heap.size w X := by rw [hX]; exact below_nw w _
  have hXh : X.heap[w.heap.size]? = some (.cells (bagC (.slice none 0 0) (.slice none 0 0)) 75 (0, 0)) := by rw [hX]; exact World.alloc_heap_new w _
  have HBG : Hid (BagIs w.heap.size w.heap.size [] [] X) := ⟨_, _, hXh, Nat.le_refl _, World.ownsRow_nil _ _ _ _, World.ownsRow_nil _ _ _ _⟩
  have sX : w.heap.size < X.heap.size := by rw [hX]; simp
  have HBX : Hid (_) := bX
  clear bX hXh
  refine (callsIn_wide (n := 3)).1 ?_
  refine callsIn_of_wp Tryz.func15 rfl trivial ?_ rfl
  simp only [Tryz.ntmps15, List.size_toArray, List.length_cons, List.length_nil, Nat.reduceAdd, Nat.reduceSub, Array.replicate_succ, Array.replicate_zero, List.push_toArray, List.append_toArray, List.nil_append, List.cons_append]
  gi_wp2
  unfold bagC at hX
  rw [← hX]
  clear hX
  gi_loopw [4] (fun v wr => ∃ k : Nat, k ≤ n ∧ v = .int .i64 k ∧ BagIs w.heap.size w.heap.size ((Rs.take k).flatMap fun p => txts p.2) ((Rs.take k).map Prod.fst) wr ∧ Below w.heap.size w wr ∧ w.heap.size < wr.heap.size) (fun v _ => n - (intOf v).toNat)
  case atStart => exact ⟨0, by omega, rfl, HBG.out, HBX.out, sX⟩
  case round =>
    clear HBG HBX
    obtain ⟨k, hk, rfl, hbag, hbw, hsw⟩ := hrel
    by_cases hlt : k < n
    · obtain ⟨p, hp⟩ : ∃ p, Rs[k]? = some p := ⟨Rs[k]'(by have := HN.out; omega), List.getElem?_eq_getElem (by have := HN.out; omega)⟩
      have cT0 := HC.out k p hp
      have cT : wr.cell? ⟨T, k, none⟩ = some p.1 := (hbw.cell (p := ⟨T, k, none⟩) (by simpa using World.block_lt_of_cell? _ _ cT0)).trans cT0
      obtain ⟨r1, r2⟩ := HR.out p (List.mem_of_getElem? hp)
      have hpl := HLE.out p (List.mem_of_getElem? hp)
      have hlk := HL.out k
      have PH : Hid (_) := putHunks_any w.heap.size w.heap.size B ((Rs.take k).flatMap fun p => txts p.2) ((Rs.take k).map Prod.fst) p.1 p.2 wr (owns_lt r1 hbw) (fun x hx => ⟨owns_lt (r2 x hx).1 hbw, owns_lt (r2 x hx).2 hbw⟩) hbag (Nat.le_of_lt hsw) (by omega) (by simp; omega)
      have HP : Hid (_) := hp
      obtain ⟨v, xs⟩ := p
      simp only at cT PH HP r1
      obtain ⟨ao, cap, rfl⟩ := slice_shape r1
      clear hbag cT0 r1 r2 hpl hlk hp
      gi_wp2_with fail
      refine ⟨trivial, ?_⟩
      refine (callsIn_wide.2 PH.out).mono ?_
      rintro e w1 ⟨rfl, hb1, k1⟩
      gi_wp2
      go_roundw
      case rel =>
        refine ⟨k + 1, by omega, by go_num, ?_, hbw.trans k1.1, Nat.lt_of_lt_of_le hsw k1.1.size⟩
        rw [List.take_add_one, HP.out]
        simpa using hb1
      case measure => simp [intOf]; omega
    · have hkn : k = Rs.length := by have := HN.out; omega
      rw [hkn, List.take_length, ← txtRows_fst] at hbag
      have hrw : ∀ p ∈ Rs, wr.ownsRow B 39 3 p.1 p.2.length (hkCells p.2) ∧ ∀ x ∈ p.2, HV.Ok B x wr := fun p hp =>
        ⟨owns_lt (HR.out p hp).1 hbw, fun x hx => ⟨owns_lt ((HR.out p hp).2 x hx).1 hbw, owns_lt ((HR.out p hp).2 x hx).2 hbw⟩⟩
      have lT : (txtRows Rs).length ≤ 100000 := by
        have h1 := HL.out Rs.length
        rw [List.take_length, ← txtRows_fst, List.length_map] at h1
        have := HN.out; omega
      have hbag2 : BagIs w.heap.size w.heap.size ((txtRows Rs).map Prod.fst) ((hkRows Rs).map Prod.fst) wr := by
        have e : (hkRows Rs).map Prod.fst = Rs.map Prod.fst := by simp [hkRows]
        rw [e]; exact hbag
      have AP : Hid (_) := apart_any B w.heap.size (txtRows Rs) (hkRows Rs) wr (hbag2.mono hB) (by omega) HAT.out HAH.out (own_txt hrw) (own_hk hrw) lT (by have := HN.out; simp [hkRows]; omega)
        (fun p hp => by
          obtain ⟨q, hq, hm⟩ := List.mem_flatMap.1 hp
          obtain ⟨x, hx, hm⟩ := List.mem_flatMap.1 hm
          have := HX.out q hq x hx
          simp only [List.mem_cons, List.not_mem_nil, or_false] at hm
          rcases hm with rfl | rfl <;> simp only <;> omega)
        (fun p hp => by
          obtain ⟨q, hq, rfl⟩ := List.mem_map.1 hp
          have := HLE.out q hq
          simp only; omega)
      clear hbag hrw lT hbag2 hkn
      gi_wp2_with fail
      refine ⟨trivial, ?_⟩
      refine (callsIn_wide.2 AP.out).mono ?_
      rintro e w1 ⟨rfl, hb1⟩
      gi_wp2
      exact bodyPost_ret (results_tmp rfl _ _ _) rfl ⟨rfl, (hbw.mono hB).trans hb1⟩

end Go.Proofs.YtpcinbfelikgpaaGreatDoor

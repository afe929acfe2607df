/-
  The walks of through and each, whole.
-/
import Derived.Test.YtejnleigjjaenaaTrEach
namespace Go.Proofs.Ytejnleigjjaenaa
open Go.RowKit Go.Shelf

attribute [local go_sem] Oper.semAt_some

set_option maxRecDepth 100000 in
set_option maxHeartbeats 4000000 in
theorem through_any {n c0 g : Nat} {lb : Array Value} {Inv : List Job → World → Prop} (D : Doing n g lb Inv) (hgg : ∀ args w, (callFunc g args).run Try.prog w = .ok (.enter g args) w) (v : Value) (ts : List Tr) (w : World)
    (hc0 : n ≤ c0) (hbox : w.heap[c0]? = some (.cells #[.func (.func g) #[] lb] 51 (0, 0))) (hi : Inv [⟨v, 0, ts⟩] w) (hts : Tr.sizes ts ≤ 500000) :
    Calls Try.prog 52 #[v, .func (.func 53) #[] #[.pointer (some ⟨c0, 0, none⟩)]] w fun e w' => e = .returned (.tuple #[]) ∧ Inv [] w' := by
  have hc0w := (Array.getElem?_eq_some_iff.1 hbox).1
  obtain ⟨ao, cap, rfl, hlen, -⟩ := D.read hi
  obtain ⟨L, hL⟩ : ∃ L, L = 0 + ts.length := ⟨_, rfl⟩
  rw [← hL] at hi ⊢
  clear hL hlen
  obtain ⟨A1, h1⟩ : ∃ A, A = w.alloc (.cells #[.func (.func 53) #[] #[.pointer (some ⟨c0, 0, none⟩)]] 75) := ⟨_, rfl⟩
  obtain ⟨A2, h2⟩ : ∃ A, A = A1.alloc (.cells #[.slice ao L cap] 23) := ⟨_, rfl⟩
  obtain ⟨A3, h3⟩ : ∃ A, A = A2.alloc (.cells #[.slice (some ⟨w.heap.size + 1, 0, none⟩) 1 1] 83) := ⟨_, rfl⟩
  obtain ⟨A4, h4⟩ : ∃ A, A = A3.alloc (.cells #[.int .i64 0] 3) := ⟨_, rfl⟩
  obtain ⟨X, hX⟩ : ∃ X, X = A4.alloc (.cells #[.func (.func 67) #[] #[.pointer (some ⟨w.heap.size + 1 + 1 + 1, 0, none⟩), .pointer (some ⟨w.heap.size + 1 + 1, 0, none⟩), .pointer (some ⟨w.heap.size, 0, none⟩), .pointer (some ⟨w.heap.size + 1 + 1 + 1 + 1, 0, none⟩)]] 74) := ⟨_, rfl⟩
  have DN : Hid (_) := fun ts' => down_any (c0 := c0) (b0 := w.heap.size) (b2 := w.heap.size + 1 + 1) (b3 := w.heap.size + 1 + 1 + 1) (b4 := w.heap.size + 1 + 1 + 1 + 1) D hgg (Tr.sizes ts') ts' (Nat.le_refl _)
  have s1 : A1.heap.size = w.heap.size + 1 := by rw [h1, World.size_alloc]
  have s2 : A2.heap.size = w.heap.size + 1 + 1 := by rw [h2, World.size_alloc, s1]
  have s3 : A3.heap.size = w.heap.size + 1 + 1 + 1 := by rw [h3, World.size_alloc, s2]
  have s4 : A4.heap.size = w.heap.size + 1 + 1 + 1 + 1 := by rw [h4, World.size_alloc, s3]
  have n1 := World.alloc_heap_new w (.cells #[.func (.func 53) #[] #[.pointer (some ⟨c0, 0, none⟩)]] 75)
  have n2 := World.alloc_heap_new A1 (.cells #[.slice ao L cap] 23)
  have n3 := World.alloc_heap_new A2 (.cells #[.slice (some ⟨w.heap.size + 1, 0, none⟩) 1 1] 83)
  have n4 := World.alloc_heap_new A3 (.cells #[.int .i64 0] 3)
  have n5 := World.alloc_heap_new A4 (.cells #[.func (.func 67) #[] #[.pointer (some ⟨w.heap.size + 1 + 1 + 1, 0, none⟩), .pointer (some ⟨w.heap.size + 1 + 1, 0, none⟩), .pointer (some ⟨w.heap.size, 0, none⟩), .pointer (some ⟨w.heap.size + 1 + 1 + 1 + 1, 0, none⟩)]] 74)
  rw [← h1] at n1
  rw [← h2, s1] at n2
  rw [← h3, s2] at n3
  rw [← h4, s3] at n4
  rw [← hX, s4] at n5
  have b1 : Below w.heap.size w A1 := h1 ▸ below_new w _
  have b2 : Below A1.heap.size A1 A2 := h2 ▸ below_new A1 _
  have b3 : Below A2.heap.size A2 A3 := h3 ▸ below_new A2 _
  have b4 : Below A3.heap.size A3 A4 := h4 ▸ below_new A3 _
  have b5 : Below A4.heap.size A4 X := hX ▸ below_new A4 _
  have b45 := below_then b4 b5
  have b35 := below_then b3 b45
  have b25 := below_then b2 b35
  have bX : Below w.heap.size w X := below_then b1 b25
  have tX : TW n c0 w.heap.size (w.heap.size + 1 + 1) (w.heap.size + 1 + 1 + 1) (w.heap.size + 1 + 1 + 1 + 1) g lb 0 [.slice ao L cap] X := by
    refine ⟨⟨hc0, by omega, by omega, by omega, by omega⟩, (bX.block c0 hc0w).trans hbox, (b25.block _ (by omega)).trans n1, n5, (b5.block _ (by omega)).trans n4, _, (b45.block _ (by omega)).trans n3, ?_⟩
    exact ⟨rfl, .inr ⟨w.heap.size + 1, 1, #[.slice ao L cap], rfl, by omega, (b35.block _ (by omega)).trans n2, by simp, by unfold maxLen; omega, by simp, by simp⟩⟩
  have iX : Inv [⟨.slice ao L cap, 0, ts⟩] X := D.stab hi (KeepO.of_below bX (by omega))
  clear s1 s2 s3 s4 n1 n2 n3 n4 n5 b1 b2 b3 b4 b5 b45 b35 b25 bX
  have HTX : Hid (_) := tX
  have HIX : Hid (_) := iX
  clear tX iX hi hbox
  have hstf := fun (a : Addr) (fn : Fn) (c1 c2 : Array Value) (w : World) => run_store Try.prog w a (.func fn c1 c2) .plain rfl
  refine (callsIn_wide (n := 3)).1 ?_
  refine callsIn_of_wp Try.func52 rfl trivial ?_ rfl
  simp only [Try.ntmps52, List.size_toArray, List.length_cons, List.length_nil, Nat.reduceAdd, Nat.reduceSub, Array.replicate_succ, Array.replicate_zero, List.push_toArray, List.append_toArray, List.nil_append, List.cons_append]
  gi_wp2
  rw [← h1, ← h2, ← h3, ← h4, ← hX]
  clear hstf hX h1 h2 h3 h4
  gi_loopg [] (Tr.sizes ts + 1) (fun m wr => ∃ Q : List Job, mu Q = m ∧ m ≤ 500001 ∧ (∀ j ∈ Q, j.i = 0) ∧ TW n c0 w.heap.size (w.heap.size + 1 + 1) (w.heap.size + 1 + 1 + 1) (w.heap.size + 1 + 1 + 1 + 1) g lb 0 (Q.map Job.v) wr ∧ Inv Q wr)
  case atStart => exact ⟨[⟨.slice ao L cap, 0, ts⟩], by simp [mu], by omega, by simp, HTX.out, HIX.out⟩
  case round =>
    clear HTX HIX
    obtain ⟨Q, hmu, hm, hq, htw, hi⟩ := hrel
    obtain ⟨wv, hb2, hown⟩ := htw.wait
    obtain ⟨at7, c7, rfl⟩ := slice_shape hown
    have cW : wr.cell? ⟨w.heap.size + 1 + 1, 0, none⟩ = some (.slice at7 (Q.map Job.v).length c7) := by rw [Lib.cell_of_heap hb2]; rfl
    rcases List.eq_nil_or_concat Q with rfl | ⟨Q', j, rfl⟩
    · have HI : Hid (_) := hi
      clear hi htw hown hb2
      simp only [List.map_nil, List.length_nil] at cW
      gi_wp2
      go_end0
      exact ⟨rfl, HI.out⟩
    · simp only [List.concat_eq_append] at *
      obtain ⟨M, hM⟩ : ∃ M, M = (Q'.map Job.v).length := ⟨_, rfl⟩
      have eM : ((Q' ++ [j]).map Job.v).length = M + 1 := by rw [hM]; simp
      rw [eM] at cW hown hb2
      have hM2 : M ≤ 500001 := by
        rw [hM, List.length_map]
        have := mu_len (Q' ++ [j])
        rw [List.length_append] at this
        omega
      rcases hown.2 with ⟨hno, _⟩ | ⟨gb, cap7, cur, hv, hgn, hgb, hcap, hcm, hcs, htk⟩
      · cases hno
      cases hv
      have cJ : wr.cell? ⟨gb, M, none⟩ = some j.v := by
        have := hown.cells (g := gb) rfl M j.v (by rw [List.map_append, List.getElem?_append_right (by omega), hM]; simp)
        rwa [show (⟨gb, 0, none⟩ : Addr).add M = ⟨gb, M, none⟩ from by cases M <;> simp [Addr.add]] at this
      have hj0 : j.i = 0 := hq j (by simp)
      obtain ⟨jv, ji, jts⟩ := j
      simp only at hj0 cJ
      subst hj0
      have hj : Inv (⟨jv, 0, jts⟩ :: Q') wr := D.perm List.perm_append_comm hi
      obtain ⟨ao2, cap2, rfl, -, -⟩ := D.read hj
      obtain ⟨L2, hL2⟩ : ∃ L2, L2 = 0 + jts.length := ⟨_, rfl⟩
      rw [← hL2] at hj cJ
      have hmu' : mu Q' + (Tr.sizes jts + 1) = gk := by
        rw [mu_append] at hmu
        simpa [mu] using hmu
      have fW : wr.frozen? ⟨w.heap.size + 1 + 1, 0, none⟩ = false := frozen_of_row wr _ 0 _ _ hb2
      obtain ⟨X1, hX1⟩ : ∃ X1, X1 = wr.setCell ⟨w.heap.size + 1 + 1, 0, none⟩ (.slice (some ⟨gb, 0, none⟩) M c7) := ⟨_, rfl⟩
      have t1 : TW n c0 w.heap.size (w.heap.size + 1 + 1) (w.heap.size + 1 + 1 + 1) (w.heap.size + 1 + 1 + 1 + 1) g lb 0 (Q'.map Job.v) X1 := by
        rw [hX1]
        have h9 := owns_prefix (k := M) hown (by omega)
        rw [List.map_append, List.take_append_of_le_length (by omega), hM, List.take_length] at h9
        exact hM ▸ htw.setWait h9
      have i1 : Inv (⟨.slice ao2 L2 cap2, 0, jts⟩ :: Q') X1 := by
        rw [hX1]
        exact D.stab hj (KeepO.of_set hb2 (by decide) (by omega) 0 _)
      have cN : X1.cell? ⟨w.heap.size + 1 + 1 + 1 + 1, 0, none⟩ = some (.func (.func 67) #[] #[.pointer (some ⟨w.heap.size + 1 + 1 + 1, 0, none⟩), .pointer (some ⟨w.heap.size + 1 + 1, 0, none⟩), .pointer (some ⟨w.heap.size, 0, none⟩), .pointer (some ⟨w.heap.size + 1 + 1 + 1 + 1, 0, none⟩)]) := by rw [Lib.cell_of_heap t1.dwn]; rfl
      have HC : Hid (_) := DN.out jts 0 _ _ _ X1 (by omega) (by have := mu_len Q'; rw [List.length_map]; omega) t1 i1
      have HQ : Hid (∀ j ∈ Q', j.i = 0) := fun j hj => hq j (by simp [hj])
      have hcap7 : M ≤ c7 := by omega
      rw [hX1] at cN
      clear t1 i1 hj hi htw hown hb2 hgb hgn hcs htk hmu hq DN hL2 hM eM
      gi_wp2
      rw [← hX1]
      refine ⟨trivial, ?_⟩
      refine (callsIn_wide.2 HC.out).mono ?_
      rintro e w2 ⟨rfl, Q1, tw2, hi2, hq1, hmu2⟩
      rw [if_neg (by decide)] at hmu2
      have HF : Hid (∃ Q : List Job, mu Q = mu Q' + mu Q1 ∧ mu Q' + mu Q1 ≤ 500001 ∧ (∀ j ∈ Q, j.i = 0) ∧ TW n c0 w.heap.size (w.heap.size + 1 + 1) (w.heap.size + 1 + 1 + 1) (w.heap.size + 1 + 1 + 1 + 1) g lb 0 (Q.map Job.v) w2 ∧ Inv Q w2) := by
        refine ⟨Q' ++ Q1, mu_append _ _, by omega, fun j hj => ?_, by rw [List.map_append]; exact tw2, D.perm List.perm_append_comm hi2⟩
        rcases List.mem_append.1 hj with hj | hj
        · exact HQ.out j hj
        · exact hq1 j hj
      clear tw2 hi2 HC
      gi_wp2
      gi_roundg (mu Q' + mu Q1)
      case measure => omega
      case rel => exact HF.out

set_option maxRecDepth 100000 in
set_option maxHeartbeats 4000000 in
theorem each_any {g : Nat} {lb : Array Value} {Inv : List Job → World → Prop} (v : Value) (ts : List Tr) (w : World) (D : Doing w.heap.size g lb Inv) (hgg : ∀ args w, (callFunc g args).run Try.prog w = .ok (.enter g args) w)
    (hi : Inv [⟨v, 0, ts⟩] w) (hts : Tr.sizes ts ≤ 500000) :
    Calls Try.prog 28 #[v, .func (.func g) #[] lb] w fun e w' => e = .returned (.tuple #[]) ∧ Inv [] w' := by
  obtain ⟨ao, cap, rfl, -, -⟩ := D.read hi
  obtain ⟨L, hL⟩ : ∃ L, L = 0 + ts.length := ⟨_, rfl⟩
  rw [← hL] at hi ⊢
  clear hL
  obtain ⟨X, hX⟩ : ∃ X, X = w.alloc (.cells #[.func (.func g) #[] lb] 51) := ⟨_, rfl⟩
  have hb : X.heap[w.heap.size]? = some (.cells #[.func (.func g) #[] lb] 51 (0, 0)) := by rw [hX]; exact World.alloc_heap_new w _
  have HT : Hid (_) := through_any D hgg (.slice ao L cap) ts X (Nat.le_refl _) hb (D.stab hi (KeepO.of_below (hX ▸ below_new w _) (Nat.le_refl _))) hts
  clear hi hb D hgg
  go_enter Try.func28, Try.ntmps28
  go_wp2_with fail
  rw [← hX]
  refine Calls.mono HT.out ?_
  rintro e w1 ⟨rfl, h1⟩
  have H1 : Hid (_) := h1
  clear h1 HT
  go_wp2
  go_end0
  exact ⟨rfl, H1.out⟩
end Go.Proofs.Ytejnleigjjaenaa

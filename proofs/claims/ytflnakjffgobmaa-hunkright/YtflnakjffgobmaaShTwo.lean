/-
  The walks of shift.Commute and shift.Merge.
-/
import Derived.Test.YtflnakjffgobmaaShTaken
namespace Go.Proofs.Ytflnakjffgobmaa
open Go.RowKit Go.Shelf

attribute [local go_sem] Oper.semAt_some

theorem moved_zero (h : Hn.H) : Hn.moved h 0 = h := by
  cases h; simp [Hn.moved]
/-- What a hunk must be, to be gone through in time. -/
def HA.Fine (x : HA) : Prop := x.Small ∧ x.Thin ∧ x.Fits
theorem fine_good {x : HA} (h : x.Fine) (n : x.Near) {d : Int} (hd : -1000000 ≤ d ∧ d ≤ 1000000) : x.Good d := by
  obtain ⟨h1, h2, h3⟩ := h
  obtain ⟨n1, n2⟩ := n
  obtain ⟨d1, d2⟩ := hd
  exact ⟨h1, h2, ⟨by omega, by omega⟩, h3⟩
theorem more_bound {x : HA} (h : x.Fine) : (-1000000 ≤ Hn.more x.h ∧ Hn.more x.h ≤ 1000000) ∧ (-1000000 ≤ -Hn.more x.h ∧ -Hn.more x.h ≤ 1000000) := by
  obtain ⟨⟨s1, s2⟩, -⟩ := h
  simp only [Hn.more, HA.h]
  omega
theorem right_near {x : HA} (h : Hn.right x.h = true) : x.Near := right_bound h
/-- Blocks laid one behind the other. -/
theorem four_new (w : World) (x y : HA) : ∃ X, X = (((w.alloc (.cells #[.int .i64 x.at_, x.vo, x.vn] 41)).alloc (.cells #[.int .i64 y.at_, y.vo, y.vn] 41)).alloc (.cells #[.int .i64 0, .slice none 0 0, .slice none 0 0] 41)).alloc (.cells #[.int .i64 0, .slice none 0 0, .slice none 0 0] 41) ∧ Below w.heap.size w X ∧ HBox X w.heap.size x ∧ HBox X (w.heap.size + 1) y ∧ HBox X (w.heap.size + 1 + 1) zeroHA ∧ HBox X (w.heap.size + 1 + 1 + 1) zeroHA := by
  have h1 := HBox.new w x
  have b1 := below_nw w (.cells #[.int .i64 x.at_, x.vo, x.vn] 41)
  have h2 := HBox.new (w.alloc (.cells #[.int .i64 x.at_, x.vo, x.vn] 41)) y
  have b2 := below_nw (w.alloc (.cells #[.int .i64 x.at_, x.vo, x.vn] 41)) (.cells #[.int .i64 y.at_, y.vo, y.vn] 41)
  have h3 := HBox.new ((w.alloc (.cells #[.int .i64 x.at_, x.vo, x.vn] 41)).alloc (.cells #[.int .i64 y.at_, y.vo, y.vn] 41)) zeroHA
  have b3 := below_nw ((w.alloc (.cells #[.int .i64 x.at_, x.vo, x.vn] 41)).alloc (.cells #[.int .i64 y.at_, y.vo, y.vn] 41)) (.cells #[.int .i64 0, .slice none 0 0, .slice none 0 0] 41)
  have h4 := HBox.new (((w.alloc (.cells #[.int .i64 x.at_, x.vo, x.vn] 41)).alloc (.cells #[.int .i64 y.at_, y.vo, y.vn] 41)).alloc (.cells #[.int .i64 0, .slice none 0 0, .slice none 0 0] 41)) zeroHA
  have b4 := below_nw (((w.alloc (.cells #[.int .i64 x.at_, x.vo, x.vn] 41)).alloc (.cells #[.int .i64 y.at_, y.vo, y.vn] 41)).alloc (.cells #[.int .i64 0, .slice none 0 0, .slice none 0 0] 41)) (.cells #[.int .i64 0, .slice none 0 0, .slice none 0 0] 41)
  simp only [World.size_alloc] at h2 h3 h4
  exact ⟨_, rfl, below_then b1 (below_then b2 (below_then b3 b4)), ((h1.below b2).below b3).below b4, (h2.below b3).below b4, h3.below b4, h4⟩
/-- What is told, whatever it is: three values. -/
theorem ShPost.three {r : Except Nat (Hn.H × Hn.H)} {w w' : World} {e : Ending} (h : ShPost r w e w') : ∃ (A B : HA) (c : Nat) (a1 a2 a3 a4 : Option Addr) (c1 c2 c3 c4 : Nat), A.vo = .slice a1 A.old.length c1 ∧ A.vn = .slice a2 A.new.length c2 ∧ B.vo = .slice a3 B.old.length c3 ∧ B.vn = .slice a4 B.new.length c4 ∧ e = .returned (.tuple #[A.val, B.val, .int .i64 c]) ∧ (A.h, B.h, c) = shRes r ∧ A.Ok w.heap.size w' ∧ B.Ok w.heap.size w' ∧ (bla [A, B]).Nodup ∧ Below w.heap.size w w' := by
  obtain ⟨A, B, c, h1, h2, h3, h4, h5, h6⟩ := h
  obtain ⟨a1, c1, e1⟩ := slice_shape h3.1
  obtain ⟨a2, c2, e2⟩ := slice_shape h3.2
  obtain ⟨a3, c3, e3⟩ := slice_shape h4.1
  obtain ⟨a4, c4, e4⟩ := slice_shape h4.2
  exact ⟨A, B, c, a1, a2, a3, a4, c1, c2, c3, c4, e1, e2, e3, e4, h1, h2, h3, h4, h5, h6⟩

set_option maxRecDepth 100000 in
set_option maxHeartbeats 8000000 in
theorem commute_any (x y : HA) (m : Nat) (w : World) (hx : x.Low m w) (hy : y.Low m w) (hm : m ≤ w.heap.size) (fx : x.Fine) (fy : y.Fine) :
    Calls Try.prog 29 #[x.val, y.val] w fun e w' => ShPost (Hn.commute x.h y.h) w e w' := by
  have hmf : ∀ (fn : Fn) (first cap : Array Value) (w : World), (Instr.makeFunc fn first cap).run Try.prog w = .ok (.func fn first cap) w := fun _ _ _ _ => rfl
  obtain ⟨X, hX, bX, x0, x1, x2, x3⟩ := four_new w x y
  have lX := hx.below bX hm
  have lY := hy.below bX hm
  have bN := below_nw X (.cells #[.int .i64 x.at_, x.vo, x.vn, .int .i64 y.at_, y.vo, y.vn] 41)
  have WR : Hid (_) := wrong_any [x, y] _ _ _ (haLow_two X x y (lX.mono (Nat.le_trans hm bX.size)) (lY.mono (Nat.le_trans hm bX.size))) (Nat.le_refl _) (fun q hq => by
    simp only [List.mem_cons, List.not_mem_nil, or_false] at hq
    rcases hq with rfl | rfl
    · exact fx.2.2
    · exact fy.2.2) (by simp)
  have TK : Hid (∀ W, Below X.heap.size X W → Hn.right x.h = true → Hn.right y.h = true → Calls Try.prog 51 #[.agg #[.func (.func 52) #[] #[.pointer (some ⟨w.heap.size + 1, 0, none⟩), .pointer (some ⟨w.heap.size, 0, none⟩)], .func (.func 54) #[] #[.pointer (some ⟨w.heap.size + 1, 0, none⟩), .pointer (some ⟨w.heap.size, 0, none⟩)], .func (.func 56) #[] #[.pointer (some ⟨w.heap.size, 0, none⟩), .pointer (some ⟨w.heap.size + 1, 0, none⟩)], .func (.func 57) #[] #[.pointer (some ⟨w.heap.size + 1, 0, none⟩), .pointer (some ⟨w.heap.size, 0, none⟩)]]] W fun e w' => ShPost (Hn.commute x.h y.h) W e w') := fun W hW rx ry => by
    have nx := right_near rx
    have ny := right_near ry
    have qx := x0.below hW
    have qy := x1.below hW
    have hmX : m ≤ X.heap.size := Nat.le_trans hm bX.size
    have hmW : m ≤ W.heap.size := Nat.le_trans hmX hW.size
    have wX := lX.below hW hmX
    have wY := lY.below hW hmX
    have T := taken_any 52 54 56 57 #[.pointer (some ⟨w.heap.size + 1, 0, none⟩), .pointer (some ⟨w.heap.size, 0, none⟩)] #[.pointer (some ⟨w.heap.size + 1, 0, none⟩), .pointer (some ⟨w.heap.size, 0, none⟩)] #[.pointer (some ⟨w.heap.size, 0, none⟩), .pointer (some ⟨w.heap.size + 1, 0, none⟩)] #[.pointer (some ⟨w.heap.size + 1, 0, none⟩), .pointer (some ⟨w.heap.size, 0, none⟩)]
      (Hn.apart y.h x.h) (Hn.apart (Hn.inv x.h) y.h) y x y x 0 (Hn.more y.h) (-Hn.more x.h) 0 W (fun _ => rfl) (fun _ => rfl) (fun _ => rfl) (fun _ => rfl)
      (fun V hV => cm1 y x _ _ V (qy.below hV) (qx.below hV) wY.shape wX.shape ny fy.1 nx)
      (fun _ V hV => cm2 y x _ _ V (qy.below hV) (qx.below hV) wY.shape wX.shape fy.1)
      (fun _ V hV => cm3 x y _ _ m V (qx.below hV) (qy.below hV) (wX.below hV hmW) (Nat.le_trans hmW hV.size) wY.shape nx fx.1 fx.2.1 ny)
      (fun _ _ V hV => cm4 y x _ _ V (qy.below hV) (qx.below hV) wY.shape wX.shape fx.1)
      (wY.mono hmW) (wX.mono hmW) (wY.mono hmW) (wX.mono hmW) (fine_good fy ny (by omega)) (fine_good fx nx (more_bound fy).1) (fine_good fy ny (more_bound fx).2) (fine_good fx nx (by omega))
    rw [moved_zero, moved_zero] at T
    have e : Hn.commute x.h y.h = (if (Hn.apart y.h x.h) then Hn.told y.h (Hn.moved x.h (Hn.more y.h)) else if (Hn.apart (Hn.inv x.h) y.h) then Hn.told (Hn.moved y.h (-Hn.more x.h)) x.h else .error 130) := by
      unfold Hn.commute
      rw [rx, ry, Bool.and_self, if_pos rfl]
    rw [e]
    exact T
  have HM : Hid ((Hn.right x.h && Hn.right y.h) = false → Hn.commute x.h y.h = .error 4) := fun h => by
    unfold Hn.commute
    rw [h]; rfl
  have X0 : Hid (_) := x0
  have X2 : Hid (_) := x2
  have X3 : Hid (_) := x3
  have BX : Hid (Below w.heap.size w X) := bX
  have BN : Hid (_) := bN
  obtain ⟨c0, c1, c2⟩ := x0.cells
  obtain ⟨c3, c4, c5⟩ := x1.cells
  obtain ⟨⟨a1, k1, e1⟩, ⟨a2, k2, e2⟩⟩ := hx.shape
  obtain ⟨⟨a3, k3, e3⟩, ⟨a4, k4, e4⟩⟩ := hy.shape
  obtain ⟨p, vo, vn, L1, L2⟩ := x
  obtain ⟨q, uo, un, M1, M2⟩ := y
  simp only at e1 e2 e3 e4
  subst e1 e2 e3 e4
  clear hx hy lX lY x0 x1 x2 x3 bX bN fx fy
  simp only [HA.val] at hX WR BN c0 c1 c2 c3 c4 c5 ⊢
  have sX : Hid (X.heap.size = w.heap.size + 1 + 1 + 1 + 1) := by rw [Hid, hX]; simp
  go_enter Try.func29, Try.ntmps29
  go_wp2_with fail
  rw [← hX, ← sX.out]
  refine Calls.mono WR.out ?_
  rintro e w1 ⟨rfl, b1⟩
  have b01 : Below X.heap.size X w1 := below_then BN.out b1
  have TK1 : Hid (_) := TK.out w1 b01
  have Y2 : Hid (_) := HBox.below X2.out b01
  have Y3 : Hid (_) := HBox.below X3.out b01
  have BW1 : Hid (Below w.heap.size w w1) := below_then BX.out b01
  clear WR TK b1 b01 X2 X3 BX BN hX sX c0 c1 c2 c3 c4 c5 X0
  rw [wrongs_two]
  simp only [HA.h] at TK1 HM ⊢
  cases hr : (Hn.right ⟨p, L1, L2⟩ && Hn.right ⟨q, M1, M2⟩) with
  | false =>
    have HR : Hid (Hn.commute ⟨p, L1, L2⟩ ⟨q, M1, M2⟩ = .error 4) := HM.out hr
    obtain ⟨f0, f1, f2, ff⟩ := hbox_facts Y2.out (.int .i64 0) (.slice none 0 0)
    obtain ⟨W8, hW8, h8, g8, -⟩ := hbox_put Y2.out zeroHA
    have X8 : HBox W8 (w.heap.size + 1 + 1 + 1) _ := HBox.grown Y3.out g8 (by omega)
    have BW8 : Below w.heap.size w W8 := below_grown BW1.out g8 (by omega) BW1.out.size
    obtain ⟨f3, f4, f5, fg⟩ := hbox_facts X8 (.int .i64 0) (.slice none 0 0)
    obtain ⟨W9, hW9, h9, g9, -⟩ := hbox_put X8 zeroHA
    have X9 : HBox W9 (w.heap.size + 1 + 1) zeroHA := h8.grown g9 (by omega)
    have BW9 : Hid (Below w.heap.size w W9) := below_grown BW8 g9 (by omega) BW8.size
    simp only [zeroHA] at f0 f1 f2 f3 f4 f5
    simp only [zeroHA] at hW8 hW9
    rw [hW8] at hW9 f3 f4 f5 fg
    obtain ⟨c0, c1, c2⟩ := X9.cells
    obtain ⟨c3, c4, c5⟩ := h9.cells
    simp only [zeroHA] at c0 c1 c2 c3 c4 c5
    clear g8 g9 X8 BW8 h8 h9 X9 hW8 hr HM TK1
    go_wp2
    rw [← hW9]
    refine bodyPost_ret (v := .tuple #[.agg #[.int .i64 0, .slice none 0 0, .slice none 0 0], .agg #[.int .i64 0, .slice none 0 0, .slice none 0 0], .int .i64 4]) (by simp [results, Try.results29, go_sem, c0, c1, c2, c3, c4, c5]) rfl ?_
    show ShPost (Hn.commute ⟨p, L1, L2⟩ ⟨q, M1, M2⟩) w _ W9
    rw [HR.out]
    exact ⟨zeroHA, zeroHA, 4, rfl, rfl, zeroHA_ok _ _, zeroHA_ok _ _, by decide, BW9.out⟩
  | true =>
    rw [Bool.and_eq_true] at hr
    have TK2 : Hid (_) := TK1.out hr.1 hr.2
    clear TK1 hr HM
    go_wp2_with fail
    refine Calls.mono TK2.out ?_
    intro e w2 hp
    obtain ⟨A, B, c, a5, a6, a7, a8, k5, k6, k7, k8, e5, e6, e7, e8, rfl, hres, okA, okB, nd, b2⟩ := hp.three
    have Z2 := HBox.below Y2.out b2
    have Z3 := HBox.below Y3.out b2
    have BW2 : Below w.heap.size w w2 := below_then BW1.out b2
    have okA' : A.Ok w.heap.size w2 := ⟨owns_base okA.1 BW1.out.size, owns_base okA.2 BW1.out.size⟩
    have okB' : B.Ok w.heap.size w2 := ⟨owns_base okB.1 BW1.out.size, owns_base okB.2 BW1.out.size⟩
    obtain ⟨ap, ao, an, A1, A2⟩ := A
    obtain ⟨bp, bo, bn, B1, B2⟩ := B
    simp only at e5 e6 e7 e8
    subst e5 e6 e7 e8
    obtain ⟨f0, f1, f2, ff⟩ := hbox_facts Z2 (.int .i64 ap) (.slice a5 A1.length k5)
    obtain ⟨W8, hW8, h8, g8, o8⟩ := hbox_put Z2 ⟨ap, .slice a5 A1.length k5, .slice a6 A2.length k6, A1, A2⟩
    have X8 : HBox W8 (w.heap.size + 1 + 1 + 1) _ := Z3.grown g8 (by omega)
    have BW8 : Below w.heap.size w W8 := below_grown BW2 g8 (by omega) BW2.size
    obtain ⟨f3, f4, f5, fg⟩ := hbox_facts X8 (.int .i64 bp) (.slice a7 B1.length k7)
    obtain ⟨W9, hW9, h9, g9, o9⟩ := hbox_put X8 ⟨bp, .slice a7 B1.length k7, .slice a8 B2.length k8, B1, B2⟩
    have X9 : HBox W9 (w.heap.size + 1 + 1) _ := h8.grown g9 (by omega)
    have BW9 : Below w.heap.size w W9 := below_grown BW8 g9 (by omega) BW8.size
    have HF : Hid (HA.Ok w.heap.size ⟨ap, .slice a5 A1.length k5, .slice a6 A2.length k6, A1, A2⟩ W9 ∧ HA.Ok w.heap.size ⟨bp, .slice a7 B1.length k7, .slice a8 B2.length k8, B1, B2⟩ W9 ∧ Below w.heap.size w W9) := ⟨⟨o9 _ _ _ _ (o8 _ _ _ _ okA'.1), o9 _ _ _ _ (o8 _ _ _ _ okA'.2)⟩, ⟨o9 _ _ _ _ (o8 _ _ _ _ okB'.1), o9 _ _ _ _ (o8 _ _ _ _ okB'.2)⟩, BW9⟩
    have HRES : Hid (_) := hres
    have ND : Hid (_) := nd
    simp only [zeroHA] at f0 f1 f2 f3 f4 f5
    simp only at hW8 hW9
    rw [hW8] at hW9 f3 f4 f5 fg
    obtain ⟨c0, c1, c2⟩ := X9.cells
    obtain ⟨c3, c4, c5⟩ := h9.cells
    simp only at c0 c1 c2 c3 c4 c5
    clear g8 g9 X8 BW8 h8 h9 X9 hW8 TK2 hp okA okB okA' okB' nd hres b2 Z2 Z3 BW2 BW9 o8 o9 Y2 Y3
    simp only [HA.val]
    go_wp2
    rw [← hW9]
    refine bodyPost_ret (v := .tuple #[.agg #[.int .i64 ap, .slice a5 A1.length k5, .slice a6 A2.length k6], .agg #[.int .i64 bp, .slice a7 B1.length k7, .slice a8 B2.length k8], .int .i64 c]) (by simp [results, Try.results29, go_sem, c0, c1, c2, c3, c4, c5]) rfl ?_
    exact ⟨_, _, c, rfl, HRES.out, HF.out.1, HF.out.2.1, ND.out, HF.out.2.2⟩

set_option maxRecDepth 100000 in
set_option maxHeartbeats 8000000 in
theorem merge_any (x y : HA) (m : Nat) (w : World) (hx : x.Low m w) (hy : y.Low m w) (hm : m ≤ w.heap.size) (fx : x.Fine) (fy : y.Fine) :
    Calls Try.prog 32 #[x.val, y.val] w fun e w' => ShPost (Hn.merge x.h y.h) w e w' := by
  have hmf : ∀ (fn : Fn) (first cap : Array Value) (w : World), (Instr.makeFunc fn first cap).run Try.prog w = .ok (.func fn first cap) w := fun _ _ _ _ => rfl
  obtain ⟨X, hX, bX, x0, x1, x2, x3⟩ := four_new w x y
  have lX := hx.below bX hm
  have lY := hy.below bX hm
  have bN := below_nw X (.cells #[.int .i64 x.at_, x.vo, x.vn, .int .i64 y.at_, y.vo, y.vn] 41)
  have WR : Hid (_) := wrong_any [x, y] _ _ _ (haLow_two X x y (lX.mono (Nat.le_trans hm bX.size)) (lY.mono (Nat.le_trans hm bX.size))) (Nat.le_refl _) (fun q hq => by
    simp only [List.mem_cons, List.not_mem_nil, or_false] at hq
    rcases hq with rfl | rfl
    · exact fx.2.2
    · exact fy.2.2) (by simp)
  have TK : Hid (∀ W, Below X.heap.size X W → Hn.right x.h = true → Hn.right y.h = true → Calls Try.prog 51 #[.agg #[.func (.func 58) #[] #[.pointer (some ⟨w.heap.size, 0, none⟩), .pointer (some ⟨w.heap.size + 1, 0, none⟩)], .func (.func 59) #[] #[.pointer (some ⟨w.heap.size, 0, none⟩), .pointer (some ⟨w.heap.size + 1, 0, none⟩)], .func (.func 60) #[] #[.pointer (some ⟨w.heap.size + 1, 0, none⟩), .pointer (some ⟨w.heap.size, 0, none⟩)], .func (.func 61) #[] #[.pointer (some ⟨w.heap.size, 0, none⟩), .pointer (some ⟨w.heap.size + 1, 0, none⟩)]]] W fun e w' => ShPost (Hn.merge x.h y.h) W e w') := fun W hW rx ry => by
    have nx := right_near rx
    have ny := right_near ry
    have qx := x0.below hW
    have qy := x1.below hW
    have hmX : m ≤ X.heap.size := Nat.le_trans hm bX.size
    have hmW : m ≤ W.heap.size := Nat.le_trans hmX hW.size
    have wX := lX.below hW hmX
    have wY := lY.below hW hmX
    have T := taken_any 58 59 60 61 #[.pointer (some ⟨w.heap.size, 0, none⟩), .pointer (some ⟨w.heap.size + 1, 0, none⟩)] #[.pointer (some ⟨w.heap.size, 0, none⟩), .pointer (some ⟨w.heap.size + 1, 0, none⟩)] #[.pointer (some ⟨w.heap.size + 1, 0, none⟩), .pointer (some ⟨w.heap.size, 0, none⟩)] #[.pointer (some ⟨w.heap.size, 0, none⟩), .pointer (some ⟨w.heap.size + 1, 0, none⟩)]
      (Hn.apart x.h y.h) (Hn.apart y.h x.h) x y x y 0 (Hn.more x.h) (Hn.more y.h) 0 W (fun _ => rfl) (fun _ => rfl) (fun _ => rfl) (fun _ => rfl)
      (fun V hV => mg1 x y _ _ V (qx.below hV) (qy.below hV) wX.shape wY.shape nx fx.1 ny)
      (fun _ V hV => mg2 x y _ _ V (qx.below hV) (qy.below hV) wX.shape wY.shape fx.1)
      (fun _ V hV => mg3 y x _ _ V (qy.below hV) (qx.below hV) wY.shape wX.shape ny fy.1 nx)
      (fun _ _ V hV => mg4 x y _ _ V (qx.below hV) (qy.below hV) wX.shape wY.shape fy.1)
      (wX.mono hmW) (wY.mono hmW) (wX.mono hmW) (wY.mono hmW) (fine_good fx nx (by omega)) (fine_good fy ny (more_bound fx).1) (fine_good fx nx (more_bound fy).1) (fine_good fy ny (by omega))
    rw [moved_zero, moved_zero] at T
    have e : Hn.merge x.h y.h = (if (Hn.apart x.h y.h) then Hn.told x.h (Hn.moved y.h (Hn.more x.h)) else if (Hn.apart y.h x.h) then Hn.told (Hn.moved x.h (Hn.more y.h)) y.h else .error 130) := by
      unfold Hn.merge
      rw [rx, ry, Bool.and_self, if_pos rfl]
    rw [e]
    exact T
  have HM : Hid ((Hn.right x.h && Hn.right y.h) = false → Hn.merge x.h y.h = .error 4) := fun h => by
    unfold Hn.merge
    rw [h]; rfl
  have X0 : Hid (_) := x0
  have X2 : Hid (_) := x2
  have X3 : Hid (_) := x3
  have BX : Hid (Below w.heap.size w X) := bX
  have BN : Hid (_) := bN
  obtain ⟨c0, c1, c2⟩ := x0.cells
  obtain ⟨c3, c4, c5⟩ := x1.cells
  obtain ⟨⟨a1, k1, e1⟩, ⟨a2, k2, e2⟩⟩ := hx.shape
  obtain ⟨⟨a3, k3, e3⟩, ⟨a4, k4, e4⟩⟩ := hy.shape
  obtain ⟨p, vo, vn, L1, L2⟩ := x
  obtain ⟨q, uo, un, M1, M2⟩ := y
  simp only at e1 e2 e3 e4
  subst e1 e2 e3 e4
  clear hx hy lX lY x0 x1 x2 x3 bX bN fx fy
  simp only [HA.val] at hX WR BN c0 c1 c2 c3 c4 c5 ⊢
  have sX : Hid (X.heap.size = w.heap.size + 1 + 1 + 1 + 1) := by rw [Hid, hX]; simp
  go_enter Try.func32, Try.ntmps32
  go_wp2_with fail
  rw [← hX, ← sX.out]
  refine Calls.mono WR.out ?_
  rintro e w1 ⟨rfl, b1⟩
  have b01 : Below X.heap.size X w1 := below_then BN.out b1
  have TK1 : Hid (_) := TK.out w1 b01
  have Y2 : Hid (_) := HBox.below X2.out b01
  have Y3 : Hid (_) := HBox.below X3.out b01
  have BW1 : Hid (Below w.heap.size w w1) := below_then BX.out b01
  clear WR TK b1 b01 X2 X3 BX BN hX sX c0 c1 c2 c3 c4 c5 X0
  rw [wrongs_two]
  simp only [HA.h] at TK1 HM ⊢
  cases hr : (Hn.right ⟨p, L1, L2⟩ && Hn.right ⟨q, M1, M2⟩) with
  | false =>
    have HR : Hid (Hn.merge ⟨p, L1, L2⟩ ⟨q, M1, M2⟩ = .error 4) := HM.out hr
    obtain ⟨f0, f1, f2, ff⟩ := hbox_facts Y2.out (.int .i64 0) (.slice none 0 0)
    obtain ⟨W8, hW8, h8, g8, -⟩ := hbox_put Y2.out zeroHA
    have X8 : HBox W8 (w.heap.size + 1 + 1 + 1) _ := HBox.grown Y3.out g8 (by omega)
    have BW8 : Below w.heap.size w W8 := below_grown BW1.out g8 (by omega) BW1.out.size
    obtain ⟨f3, f4, f5, fg⟩ := hbox_facts X8 (.int .i64 0) (.slice none 0 0)
    obtain ⟨W9, hW9, h9, g9, -⟩ := hbox_put X8 zeroHA
    have X9 : HBox W9 (w.heap.size + 1 + 1) zeroHA := h8.grown g9 (by omega)
    have BW9 : Hid (Below w.heap.size w W9) := below_grown BW8 g9 (by omega) BW8.size
    simp only [zeroHA] at f0 f1 f2 f3 f4 f5
    simp only [zeroHA] at hW8 hW9
    rw [hW8] at hW9 f3 f4 f5 fg
    obtain ⟨c0, c1, c2⟩ := X9.cells
    obtain ⟨c3, c4, c5⟩ := h9.cells
    simp only [zeroHA] at c0 c1 c2 c3 c4 c5
    clear g8 g9 X8 BW8 h8 h9 X9 hW8 hr HM TK1
    go_wp2
    rw [← hW9]
    refine bodyPost_ret (v := .tuple #[.agg #[.int .i64 0, .slice none 0 0, .slice none 0 0], .agg #[.int .i64 0, .slice none 0 0, .slice none 0 0], .int .i64 4]) (by simp [results, Try.results32, go_sem, c0, c1, c2, c3, c4, c5]) rfl ?_
    show ShPost (Hn.merge ⟨p, L1, L2⟩ ⟨q, M1, M2⟩) w _ W9
    rw [HR.out]
    exact ⟨zeroHA, zeroHA, 4, rfl, rfl, zeroHA_ok _ _, zeroHA_ok _ _, by decide, BW9.out⟩
  | true =>
    rw [Bool.and_eq_true] at hr
    have TK2 : Hid (_) := TK1.out hr.1 hr.2
    clear TK1 hr HM
    go_wp2_with fail
    refine Calls.mono TK2.out ?_
    intro e w2 hp
    obtain ⟨A, B, c, a5, a6, a7, a8, k5, k6, k7, k8, e5, e6, e7, e8, rfl, hres, okA, okB, nd, b2⟩ := hp.three
    have Z2 := HBox.below Y2.out b2
    have Z3 := HBox.below Y3.out b2
    have BW2 : Below w.heap.size w w2 := below_then BW1.out b2
    have okA' : A.Ok w.heap.size w2 := ⟨owns_base okA.1 BW1.out.size, owns_base okA.2 BW1.out.size⟩
    have okB' : B.Ok w.heap.size w2 := ⟨owns_base okB.1 BW1.out.size, owns_base okB.2 BW1.out.size⟩
    obtain ⟨ap, ao, an, A1, A2⟩ := A
    obtain ⟨bp, bo, bn, B1, B2⟩ := B
    simp only at e5 e6 e7 e8
    subst e5 e6 e7 e8
    obtain ⟨f0, f1, f2, ff⟩ := hbox_facts Z2 (.int .i64 ap) (.slice a5 A1.length k5)
    obtain ⟨W8, hW8, h8, g8, o8⟩ := hbox_put Z2 ⟨ap, .slice a5 A1.length k5, .slice a6 A2.length k6, A1, A2⟩
    have X8 : HBox W8 (w.heap.size + 1 + 1 + 1) _ := Z3.grown g8 (by omega)
    have BW8 : Below w.heap.size w W8 := below_grown BW2 g8 (by omega) BW2.size
    obtain ⟨f3, f4, f5, fg⟩ := hbox_facts X8 (.int .i64 bp) (.slice a7 B1.length k7)
    obtain ⟨W9, hW9, h9, g9, o9⟩ := hbox_put X8 ⟨bp, .slice a7 B1.length k7, .slice a8 B2.length k8, B1, B2⟩
    have X9 : HBox W9 (w.heap.size + 1 + 1) _ := h8.grown g9 (by omega)
    have BW9 : Below w.heap.size w W9 := below_grown BW8 g9 (by omega) BW8.size
    have HF : Hid (HA.Ok w.heap.size ⟨ap, .slice a5 A1.length k5, .slice a6 A2.length k6, A1, A2⟩ W9 ∧ HA.Ok w.heap.size ⟨bp, .slice a7 B1.length k7, .slice a8 B2.length k8, B1, B2⟩ W9 ∧ Below w.heap.size w W9) := ⟨⟨o9 _ _ _ _ (o8 _ _ _ _ okA'.1), o9 _ _ _ _ (o8 _ _ _ _ okA'.2)⟩, ⟨o9 _ _ _ _ (o8 _ _ _ _ okB'.1), o9 _ _ _ _ (o8 _ _ _ _ okB'.2)⟩, BW9⟩
    have HRES : Hid (_) := hres
    have ND : Hid (_) := nd
    simp only [zeroHA] at f0 f1 f2 f3 f4 f5
    simp only at hW8 hW9
    rw [hW8] at hW9 f3 f4 f5 fg
    obtain ⟨c0, c1, c2⟩ := X9.cells
    obtain ⟨c3, c4, c5⟩ := h9.cells
    simp only at c0 c1 c2 c3 c4 c5
    clear g8 g9 X8 BW8 h8 h9 X9 hW8 TK2 hp okA okB okA' okB' nd hres b2 Z2 Z3 BW2 BW9 o8 o9 Y2 Y3
    simp only [HA.val]
    go_wp2
    rw [← hW9]
    refine bodyPost_ret (v := .tuple #[.agg #[.int .i64 ap, .slice a5 A1.length k5, .slice a6 A2.length k6], .agg #[.int .i64 bp, .slice a7 B1.length k7, .slice a8 B2.length k8], .int .i64 c]) (by simp [results, Try.results32, go_sem, c0, c1, c2, c3, c4, c5]) rfl ?_
    exact ⟨_, _, c, rfl, HRES.out, HF.out.1, HF.out.2.1, ND.out, HF.out.2.2⟩

end Go.Proofs.Ytflnakjffgobmaa

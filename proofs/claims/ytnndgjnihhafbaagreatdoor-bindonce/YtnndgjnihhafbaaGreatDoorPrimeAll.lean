/-
  Several texts in one, as they are: PsInt, PsPrime, PsSuffix.
-/
import Derived.Test.YtnndgjnihhafbaaGreatDoorListAll
import Derived.Test.YtnndgjnihhafbaaGreatDoorPsShelf
import Derived.Test.YtnndgjnihhafbaaGreatDoorLxInt
import Derived.Lib.AtoiErrMem

/-
  Numbers: what strconv.ParseInt tells of them; the walk of integer.
-/
namespace Go.Proofs.YtnndgjnihhafbaaGreatDoor
open Go.RowKit Go.Shelf

attribute [local go_sem] Oper.semAt_some
attribute [local simp] Ps.go Ps.opn Ps.want Ps.name Ps.bnd Ps.bad N1.tr

theorem uintM_val : ∀ (l : List UInt8) (n : Nat), (∀ b ∈ l, 48 ≤ b.toNat ∧ b.toNat ≤ 57) → l.foldl (fun n b => 10 * n + (b.toNat - 48)) n ≤ 9223372036854775807 → Lib.parseUintM (2 ^ 64 - 1) n l = .ok (l.foldl (fun n b => 10 * n + (b.toNat - 48)) n)
  | [], _, _, _ => rfl
  | b :: l, n, hd, hv => by
    have hb := hd b List.mem_cons_self
    rw [List.foldl_cons] at hv ⊢
    have h1 := Lx.val_from (10 * n + (b.toNat - 48)) l
    have h2 : 1 ≤ 10 ^ l.length := Nat.pow_pos (by decide)
    have h3 : 10 * n + (b.toNat - 48) ≤ (10 * n + (b.toNat - 48)) * 10 ^ l.length := Nat.le_mul_of_pos_right _ h2
    rw [Lib.parseUintM, if_pos hb, if_neg (by omega), if_neg (by omega), show n * 10 + (b.toNat - 48) = 10 * n + (b.toNat - 48) by omega]
    exact uintM_val l _ (fun c hc => hd c (List.mem_cons_of_mem _ hc)) hv
theorem int_val (l : List UInt8) (h : Lx.isInt l = true) : Lib.parseIntB 64 l = .ok (Lx.val l) ∧ Lx.val l ≤ 9223372036854775807 := by
  unfold Lx.isInt at h
  simp only [Bool.and_eq_true, decide_eq_true_eq] at h
  obtain ⟨⟨⟨h1, -⟩, h3⟩, h4⟩ := h
  refine ⟨?_, h4⟩
  have hd := Lx.digits_of_lead h3
  cases l with
  | nil => exact absurd rfl h1
  | cons c r =>
    have hc := hd c List.mem_cons_self
    have hu := uintM_val (c :: r) 0 hd h4
    have hB : Lib.parseUintB 64 (c :: r) = .ok (Lx.val (c :: r)) := by
      unfold Lib.parseUintB
      rw [if_neg (by simp)]
      exact hu
    unfold Lib.parseIntB
    simp only
    rw [if_neg (by omega), hB]
    simp only
    rw [if_neg (by omega), if_neg (by omega), if_neg (by omega)]

set_option maxRecDepth 100000 in
set_option maxHeartbeats 4000000 in
theorem pinteger_any : ∀ (b lv : Nat) (l : List Lx.Tok) (w : World), OkL l → lv ≤ 120 → PAt b l lv w → (Ps.hd l).kind = 3 → Calls Tryz.prog 183 #[.pointer (some ⟨b, 0, none⟩)] w fun e w' => w.grownBy w' (some b) ∧ PEnd b lv .prime l w e w' := by
  intro b lv l w hl hlv hP hk3
  obtain ⟨A, hA⟩ : ∃ A, A = w.alloc (.cells #[.int .u8 0, .string ⟨#[]⟩, .int .i64 0, .slice none 0 0] 25) := ⟨_, rfl⟩
  have FR : Hid (Frm w b A) := hA ▸ Frm.new hP
  have PA : Hid (PAt b l lv A) := hA ▸ hP.below (below_new w _)
  clear hP 
  go_enter Tryz.func183, Tryz.ntmps183
  go_wp2_with fail
  rw [← hA]
  clear hA
  obtain ⟨ol2, ln3⟩ := hl.tail (.inl (by rw [hk3]; decide))
  have HT1 : Hid (_) := ptake_any b (lv) l A PA.out hl ol2
  refine Calls.mono HT1.out ?_
  rintro e w4 ⟨rfl, hg5, hp6⟩
  replace FR : Hid (Frm w b w4) := FR.out.go hg5
  replace PA : Hid (PAt b l.tail (lv) w4) := hp6
  clear HT1 hg5 hp6
  obtain ⟨hpi, hvl⟩ := int_val (Ps.hd l).text (hl.hd.2.2 hk3)
  have tl0 : (Ps.hd l).text.length ≤ 1000000 := hl.hd.1
  have HI : Hid (_) := parseInt_ok (Ln.bs (Ps.hd l).text) (by rw [Ln.bs_size]; omega) (Lx.val (Ps.hd l).text) hpi w4
  go_wp2_with fail
  refine Calls.mono HI.out ?_
  rintro e wi ⟨rfl, hwi⟩
  have hbi : Below w4.heap.size w4 wi := by
    rcases hwi with rfl | ⟨t, rfl⟩
    · exact Below.refl _ _
    · exact Lib.bytesWorld_below _ _ _
  replace FR : Hid (Frm w b wi) := FR.out.go (grown_low hbi)
  replace PA : Hid (PAt b l.tail (lv) wi) := PA.out.below hbi
  clear HI hwi hbi
  have Nx : Hid (NF w wi ⟨20, [], (Lx.val (Ps.hd l).text : Nat), .slice none 0 0, []⟩ []) := NF.leaf w wi [] 20 [] (Lx.val (Ps.hd l).text : Nat) (by omega) (by simp) (by omega)
  obtain ⟨p0, p1, p2, p3, pf, Z, hZ, ⟨r0, r1, r2, r3⟩, z1, z2, z3⟩ := FR.out.fin PA.out Nx.out
  have HF : Hid (w.grownBy Z (some b) ∧ PEnd b lv .prime l w (.returned (.agg #[.int .u8 20, .string (Ln.bs []), .int .i64 (Lx.val (Ps.hd l).text : Nat), .slice none 0 0])) Z) := ⟨z1, .inr ⟨_, _, _, ⟨1, by simp [hk3]⟩, ol2, by omega, z2, rfl, z3⟩⟩
  clear z1 z2 z3
  rw [show Ln.bs [] = (⟨#[]⟩ : ByteArray) from rfl] at p2 p3 hZ r1 HF
  go_wp2
  rw [← hZ]
  refine bodyPost_ret (v := .agg #[.int .u8 20, .string ⟨#[]⟩, .int .i64 (Lx.val (Ps.hd l).text : Nat), .slice none 0 0]) (by simp [results, Tryz.results183, go_sem, r0, r1, r2, r3]) rfl HF.out
end Go.Proofs.YtnndgjnihhafbaaGreatDoor

/-
  The walk of prime.
-/
namespace Go.Proofs.YtnndgjnihhafbaaGreatDoor
open Go.RowKit Go.Shelf

attribute [local go_sem] Oper.semAt_some
attribute [local simp] Ps.go Ps.opn Ps.want Ps.name Ps.bnd Ps.bad N1.tr

set_option maxRecDepth 100000 in
set_option maxHeartbeats 4000000 in
theorem pprime_of (m : Nat) (hN : ∀ (b lv : Nat) (l : List Lx.Tok) (w : World), OkL l → l.length ≤ m + 1 → lv ≤ 120 → PAt b l lv w → (Ps.hd l).kind = 1 → Calls Tryz.prog 184 #[.pointer (some ⟨b, 0, none⟩)] w fun e w' => w.grownBy w' (some b) ∧ PEnd b lv .prime l w e w') (hAr : PDoes 185 .array [] (m + 1)) (hW : PDoes 180 (.within [40] [41]) [.string (Ln.bs [40]), .string (Ln.bs [41])] (m + 1)) : PDoes 182 .prime [] (m + 1) := by
  intro b lv l w hl hm hlv hP
  obtain ⟨A, hA⟩ : ∃ A, A = w.alloc (.cells #[.int .u8 0, .string ⟨#[]⟩, .int .i64 0, .slice none 0 0] 25) := ⟨_, rfl⟩
  have FR : Hid (Frm w b A) := hA ▸ Frm.new hP
  have PA : Hid (PAt b l lv A) := hA ▸ hP.below (below_new w _)
  have HhN : Hid (_) := hN
  clear hN
  have HhAr : Hid (PDoes 185 .array [] (m + 1)) := hAr
  have HhW : Hid (PDoes 180 (.within [40] [41]) [.string (Ln.bs [40]), .string (Ln.bs [41])] (m + 1)) := hW
  clear hP hAr hW
  go_enter Tryz.func182, Tryz.ntmps182
  go_wp2_with fail
  rw [← hA]
  clear hA
  have HX1 : Hid (_) := pnext_any b (lv) l A PA.out hl
  refine Calls.mono HX1.out ?_
  rintro e w2 ⟨rfl, hb3⟩
  replace FR : Hid (Frm w b w2) := FR.out.go (grown_low hb3)
  replace PA : Hid (PAt b l (lv) w2) := PA.out.below hb3
  clear HX1 hb3
  have hf0 := tok_f0 (Ps.hd l).kind (Ln.bs (Ps.hd l).text) (Ps.hd l).at_
  by_cases hk3 : (Ps.hd l).kind = 3
  case pos =>
    have d3 : (((Ps.hd l).kind : Int) == 3) = true := by rw [hk3]; rfl
    have K3 : Hid ((Ps.hd l).kind = 3) := hk3
    clear hk3
    go_wp2_with fail
    have HC4 : Hid (_) := pinteger_any b lv l w2 hl hlv PA.out K3.out
    refine Calls.mono HC4.out ?_
    rintro e w5 ⟨hg6, ⟨E, i, ⟨n7, hn8⟩, rfl⟩ | ⟨t, l13, v, ⟨n7, hn8⟩, ol9, ln10, hp11, rfl, nd12⟩⟩
    · skip
      exact ⟨rfl, FR.out.grown.trans hg6, .inl ⟨_, _, ⟨n7, hn8⟩, rfl⟩⟩
    obtain ⟨xk, xt, xn, xa, xL, xc, xkids, rfl, rfl, nf⟩ := NF.of_end (X := []) nd12 FR.out (by simp)
    replace FR : Hid (Frm w b w5) := FR.out.go hg6
    replace PA : Hid (PAt b l13 (lv) w5) := hp11
    have Nx : Hid (NF w w5 ⟨xk, xt, xn, .slice xa xL xc, xkids⟩ []) := nf
    clear nf HC4 hg6 hp11 nd12
    obtain ⟨p0, p1, p2, p3, pf, Z, hZ, ⟨r0, r1, r2, r3⟩, z1, z2, z3⟩ := FR.out.fin PA.out Nx.out
    have HF : Hid (w.grownBy Z (some b) ∧ PEnd b lv .prime l w (.returned (.agg #[.int .u8 xk, .string (Ln.bs xt), .int .i64 xn, .slice xa xL xc])) Z) := ⟨z1, .inr ⟨_, _, _, ⟨n7, hn8⟩, ol9, by omega, z2, rfl, z3⟩⟩
    clear z1 z2 z3 
    go_wp2
    rw [← hZ]
    refine bodyPost_ret (v := .agg #[.int .u8 xk, .string (Ln.bs xt), .int .i64 xn, .slice xa xL xc]) (by simp [results, Tryz.results182, go_sem, r0, r1, r2, r3]) rfl HF.out
  have d3 : (((Ps.hd l).kind : Int) == 3) = false := by simpa using (by omega : ¬ ((Ps.hd l).kind : Int) = 3)
  by_cases hk1 : (Ps.hd l).kind = 1
  case pos =>
    have d1 : (((Ps.hd l).kind : Int) == 1) = true := by rw [hk1]; rfl
    have K1 : Hid ((Ps.hd l).kind = 1) := hk1
    clear hk1
    go_wp2_with fail
    have HC4 : Hid (_) := HhN.out b lv l w2 hl hm hlv PA.out K1.out
    refine Calls.mono HC4.out ?_
    rintro e w5 ⟨hg6, ⟨E, i, ⟨n7, hn8⟩, rfl⟩ | ⟨t, l13, v, ⟨n7, hn8⟩, ol9, ln10, hp11, rfl, nd12⟩⟩
    · skip
      exact ⟨rfl, FR.out.grown.trans hg6, .inl ⟨_, _, ⟨n7, hn8⟩, rfl⟩⟩
    obtain ⟨xk, xt, xn, xa, xL, xc, xkids, rfl, rfl, nf⟩ := NF.of_end (X := []) nd12 FR.out (by simp)
    replace FR : Hid (Frm w b w5) := FR.out.go hg6
    replace PA : Hid (PAt b l13 (lv) w5) := hp11
    have Nx : Hid (NF w w5 ⟨xk, xt, xn, .slice xa xL xc, xkids⟩ []) := nf
    clear nf HC4 hg6 hp11 nd12
    obtain ⟨p0, p1, p2, p3, pf, Z, hZ, ⟨r0, r1, r2, r3⟩, z1, z2, z3⟩ := FR.out.fin PA.out Nx.out
    have HF : Hid (w.grownBy Z (some b) ∧ PEnd b lv .prime l w (.returned (.agg #[.int .u8 xk, .string (Ln.bs xt), .int .i64 xn, .slice xa xL xc])) Z) := ⟨z1, .inr ⟨_, _, _, ⟨n7, hn8⟩, ol9, by omega, z2, rfl, z3⟩⟩
    clear z1 z2 z3 
    go_wp2
    rw [← hZ]
    refine bodyPost_ret (v := .agg #[.int .u8 xk, .string (Ln.bs xt), .int .i64 xn, .slice xa xL xc]) (by simp [results, Tryz.results182, go_sem, r0, r1, r2, r3]) rfl HF.out
  have d1 : (((Ps.hd l).kind : Int) == 1) = false := by simpa using (by omega : ¬ ((Ps.hd l).kind : Int) = 1)
  go_wp2_with fail
  have HX4 : Hid (_) := pnext_any b (lv) l w2 PA.out hl
  refine Calls.mono HX4.out ?_
  rintro e w5 ⟨rfl, hb6⟩
  replace FR : Hid (Frm w b w5) := FR.out.go (grown_low hb6)
  replace PA : Hid (PAt b l (lv) w5) := PA.out.below hb6
  clear HX4 hb6
  clear hf0 d3 d1
  have hf1 := tok_f1 (Ps.hd l).kind (Ln.bs (Ps.hd l).text) (Ps.hd l).at_
  have hT : (Ln.bs (Ps.hd l).text).toList = (Ps.hd l).text := by rw [Lib.toList_data]; rfl
  by_cases ht0 : (Ps.hd l).text = [116, 114, 117, 101]
  case pos =>
    have q0 : ((Ps.hd l).text == [116, 114, 117, 101]) = true := by rw [ht0]; rfl
    have HT0 : Hid ((Ps.hd l).text = [116, 114, 117, 101]) := ht0
    clear ht0
    go_wp2_with fail
    obtain ⟨ol8, ln9⟩ := hl.tail (.inr (by rw [HT0.out]; decide))
    have HT7 : Hid (_) := ptake_any b (lv) l w5 PA.out hl ol8
    refine Calls.mono HT7.out ?_
    rintro e w10 ⟨rfl, hg11, hp12⟩
    replace FR : Hid (Frm w b w10) := FR.out.go hg11
    replace PA : Hid (PAt b l.tail (lv) w10) := hp12
    clear HT7 hg11 hp12
    have Nx : Hid (NF w w10 ⟨21, [], 1, .slice none 0 0, []⟩ []) := NF.leaf w w10 [] 21 [] 1 (by omega) (by simp) (by omega)
    obtain ⟨p0, p1, p2, p3, pf, Z, hZ, ⟨r0, r1, r2, r3⟩, z1, z2, z3⟩ := FR.out.fin PA.out Nx.out
    have HF : Hid (w.grownBy Z (some b) ∧ PEnd b lv .prime l w (.returned (.agg #[.int .u8 21, .string (Ln.bs []), .int .i64 1, .slice none 0 0])) Z) := ⟨z1, .inr ⟨_, _, _, ⟨1, by simp [hk3, hk1, HT0.out]⟩, ol8, by omega, z2, rfl, z3⟩⟩
    clear z1 z2 z3 
    rw [show Ln.bs [] = (⟨#[]⟩ : ByteArray) from rfl] at p2 p3 hZ r1 HF
    go_wp2
    rw [← hZ]
    refine bodyPost_ret (v := .agg #[.int .u8 21, .string ⟨#[]⟩, .int .i64 1, .slice none 0 0]) (by simp [results, Tryz.results182, go_sem, r0, r1, r2, r3]) rfl HF.out
  have q0 : ((Ps.hd l).text == [116, 114, 117, 101]) = false := by simpa using ht0
  by_cases ht1 : (Ps.hd l).text = [102, 97, 108, 115, 101]
  case pos =>
    have q1 : ((Ps.hd l).text == [102, 97, 108, 115, 101]) = true := by rw [ht1]; rfl
    have HT1 : Hid ((Ps.hd l).text = [102, 97, 108, 115, 101]) := ht1
    clear ht1
    go_wp2_with fail
    obtain ⟨ol8, ln9⟩ := hl.tail (.inr (by rw [HT1.out]; decide))
    have HT7 : Hid (_) := ptake_any b (lv) l w5 PA.out hl ol8
    refine Calls.mono HT7.out ?_
    rintro e w10 ⟨rfl, hg11, hp12⟩
    replace FR : Hid (Frm w b w10) := FR.out.go hg11
    replace PA : Hid (PAt b l.tail (lv) w10) := hp12
    clear HT7 hg11 hp12
    have Nx : Hid (NF w w10 ⟨21, [], 0, .slice none 0 0, []⟩ []) := NF.leaf w w10 [] 21 [] 0 (by omega) (by simp) (by omega)
    obtain ⟨p0, p1, p2, p3, pf, Z, hZ, ⟨r0, r1, r2, r3⟩, z1, z2, z3⟩ := FR.out.fin PA.out Nx.out
    have HF : Hid (w.grownBy Z (some b) ∧ PEnd b lv .prime l w (.returned (.agg #[.int .u8 21, .string (Ln.bs []), .int .i64 0, .slice none 0 0])) Z) := ⟨z1, .inr ⟨_, _, _, ⟨1, by simp [hk3, hk1, HT1.out]⟩, ol8, by omega, z2, rfl, z3⟩⟩
    clear z1 z2 z3 
    rw [show Ln.bs [] = (⟨#[]⟩ : ByteArray) from rfl] at p2 p3 hZ r1 HF
    go_wp2
    rw [← hZ]
    refine bodyPost_ret (v := .agg #[.int .u8 21, .string ⟨#[]⟩, .int .i64 0, .slice none 0 0]) (by simp [results, Tryz.results182, go_sem, r0, r1, r2, r3]) rfl HF.out
  have q1 : ((Ps.hd l).text == [102, 97, 108, 115, 101]) = false := by simpa using ht1
  by_cases ht2 : (Ps.hd l).text = [91]
  case pos =>
    have q2 : ((Ps.hd l).text == [91]) = true := by rw [ht2]; rfl
    have HT2 : Hid ((Ps.hd l).text = [91]) := ht2
    clear ht2
    go_wp2_with fail
    have HC7 : Hid (_) := HhAr.out b lv l w5 hl hm hlv PA.out
    refine Calls.mono HC7.out ?_
    rintro e w8 ⟨hg9, ⟨E, i, ⟨n10, hn11⟩, rfl⟩ | ⟨t, l16, v, ⟨n10, hn11⟩, ol12, ln13, hp14, rfl, nd15⟩⟩
    · skip
      exact ⟨rfl, FR.out.grown.trans hg9, .inl ⟨_, _, ⟨n10 + 1, by have e0 := Ps.go_le (show n10 ≤ n10 by omega) hn11; simp [hk3, hk1, HT2.out, e0]⟩, rfl⟩⟩
    obtain ⟨xk, xt, xn, xa, xL, xc, xkids, rfl, rfl, nf⟩ := NF.of_end (X := []) nd15 FR.out (by simp)
    replace FR : Hid (Frm w b w8) := FR.out.go hg9
    replace PA : Hid (PAt b l16 (lv) w8) := hp14
    have Nx : Hid (NF w w8 ⟨xk, xt, xn, .slice xa xL xc, xkids⟩ []) := nf
    clear nf HC7 hg9 hp14 nd15
    obtain ⟨p0, p1, p2, p3, pf, Z, hZ, ⟨r0, r1, r2, r3⟩, z1, z2, z3⟩ := FR.out.fin PA.out Nx.out
    have HF : Hid (w.grownBy Z (some b) ∧ PEnd b lv .prime l w (.returned (.agg #[.int .u8 xk, .string (Ln.bs xt), .int .i64 xn, .slice xa xL xc])) Z) := ⟨z1, .inr ⟨_, _, _, ⟨n10 + 1, by have e0 := Ps.go_le (show n10 ≤ n10 by omega) hn11; simp [hk3, hk1, HT2.out, e0]⟩, ol12, by omega, z2, rfl, z3⟩⟩
    clear z1 z2 z3 
    go_wp2
    rw [← hZ]
    refine bodyPost_ret (v := .agg #[.int .u8 xk, .string (Ln.bs xt), .int .i64 xn, .slice xa xL xc]) (by simp [results, Tryz.results182, go_sem, r0, r1, r2, r3]) rfl HF.out
  have q2 : ((Ps.hd l).text == [91]) = false := by simpa using ht2
  by_cases ht3 : (Ps.hd l).text = [108, 101, 110]
  case pos =>
    have q3 : ((Ps.hd l).text == [108, 101, 110]) = true := by rw [ht3]; rfl
    have HT3 : Hid ((Ps.hd l).text = [108, 101, 110]) := ht3
    clear ht3
    go_wp2_with fail
    obtain ⟨ol8, ln9⟩ := hl.tail (.inr (by rw [HT3.out]; decide))
    have HT7 : Hid (_) := ptake_any b (lv) l w5 PA.out hl ol8
    refine Calls.mono HT7.out ?_
    rintro e w10 ⟨rfl, hg11, hp12⟩
    replace FR : Hid (Frm w b w10) := FR.out.go hg11
    replace PA : Hid (PAt b l.tail (lv) w10) := hp12
    clear HT7 hg11 hp12
    go_wp2_with fail
    have HC13 : Hid (_) := HhW.out b (lv) l.tail w10 ol8 (by omega) (by omega) PA.out
    refine Calls.mono HC13.out ?_
    rintro e w14 ⟨hg15, ⟨E, i, ⟨n16, hn17⟩, rfl⟩ | ⟨t, l24, v, ⟨n16, hn17⟩, ol20, ln21, hp22, rfl, nd23⟩⟩
    · skip
      exact ⟨rfl, FR.out.grown.trans hg15, .inl ⟨_, _, ⟨n16 + 1, by have e0 := Ps.go_le (show n16 ≤ n16 by omega) hn17; simp [hk3, hk1, HT3.out, e0]⟩, rfl⟩⟩
    obtain ⟨xk, xt, xn, xa, xL, xc, xkids, rfl, rfl, nf⟩ := NF.of_end (X := []) nd23 FR.out (by simp)
    replace FR : Hid (Frm w b w14) := FR.out.go hg15
    replace PA : Hid (PAt b l24 (lv) w14) := hp22
    have Nx : Hid (NF w w14 ⟨xk, xt, xn, .slice xa xL xc, xkids⟩ []) := nf
    clear nf HC13 hg15 hp22 nd23
    obtain ⟨R25, hR25⟩ : ∃ V, V = w14.alloc (.cells #[.int .u8 xk, .string (Ln.bs xt), .int .i64 xn, .slice xa xL xc] 25) := ⟨_, rfl⟩
    have bR25 : Below w14.heap.size w14 R25 := hR25 ▸ below_new w14 _
    have hX : ∀ q ∈ ([] : List Nat), q < w14.heap.size := by
      intro q hq
      cases hq
    have nk : NF w R25 ⟨28, [], 0, .slice (some ⟨w14.heap.size, 0, none⟩) 1 1, [N1.tr ⟨xk, xt, xn, .slice xa xL xc, xkids⟩]⟩ [] := by
      rw [hR25]
      refine NF.kids FR.out [⟨xk, xt, xn, .slice xa xL xc, xkids⟩] (fun z hz => ?_) hX (by simp) 28 [] 0 (by omega) (by simp) (by omega)
      simp only [List.mem_cons, List.not_mem_nil, or_false] at hz
      subst hz
      exact Nx.out
    replace Nx : Hid (NF w R25 ⟨xk, xt, xn, .slice xa xL xc, xkids⟩ []) := Nx.out.go (grown_low bR25) FR.out.low
    replace FR : Hid (Frm w b R25) := FR.out.go (grown_low bR25)
    replace PA : Hid (PAt b l24 (lv) R25) := PA.out.below bR25
    have Nz : Hid (NF w R25 ⟨28, [], 0, .slice (some ⟨w14.heap.size, 0, none⟩) 1 1, [N1.tr ⟨xk, xt, xn, .slice xa xL xc, xkids⟩]⟩ []) := nk
    clear nk hX bR25
    go_wp2_with fail
    rw [← hR25]
    clear hR25
    have HD26 : Hid (_) := pnode_any 28 (Ln.bs []) (some ⟨w14.heap.size, 0, none⟩) 1 1 R25
    refine Calls.mono HD26.out ?_
    rintro e w27 ⟨rfl, hb28⟩
    replace Nx : Hid (NF w w27 ⟨xk, xt, xn, .slice xa xL xc, xkids⟩ []) := Nx.out.go (grown_low hb28) FR.out.low
    replace Nz : Hid (NF w w27 ⟨28, [], 0, .slice (some ⟨w14.heap.size, 0, none⟩) 1 1, [N1.tr ⟨xk, xt, xn, .slice xa xL xc, xkids⟩]⟩ []) := Nz.out.go (grown_low hb28) FR.out.low
    replace FR : Hid (Frm w b w27) := FR.out.go (grown_low hb28)
    replace PA : Hid (PAt b l24 (lv) w27) := PA.out.below hb28
    clear HD26 hb28
    obtain ⟨p0, p1, p2, p3, pf, Z, hZ, ⟨r0, r1, r2, r3⟩, z1, z2, z3⟩ := FR.out.fin PA.out Nz.out
    have HF : Hid (w.grownBy Z (some b) ∧ PEnd b lv .prime l w (.returned (.agg #[.int .u8 28, .string (Ln.bs []), .int .i64 0, .slice (some ⟨w14.heap.size, 0, none⟩) 1 1])) Z) := ⟨z1, .inr ⟨_, _, _, ⟨n16 + 1, by have e0 := Ps.go_le (show n16 ≤ n16 by omega) hn17; simp [hk3, hk1, HT3.out, e0]⟩, ol20, by omega, z2, rfl, z3⟩⟩
    clear z1 z2 z3 
    go_wp2
    rw [← hZ]
    refine bodyPost_ret (v := .agg #[.int .u8 28, .string (Ln.bs []), .int .i64 0, .slice (some ⟨w14.heap.size, 0, none⟩) 1 1]) (by simp [results, Tryz.results182, go_sem, r0, r1, r2, r3]) rfl HF.out
  have q3 : ((Ps.hd l).text == [108, 101, 110]) = false := by simpa using ht3
  by_cases ht4 : (Ps.hd l).text = [114, 101, 97, 100]
  case pos =>
    have q4 : ((Ps.hd l).text == [114, 101, 97, 100]) = true := by rw [ht4]; rfl
    have HT4 : Hid ((Ps.hd l).text = [114, 101, 97, 100]) := ht4
    clear ht4
    go_wp2_with fail
    obtain ⟨ol8, ln9⟩ := hl.tail (.inr (by rw [HT4.out]; decide))
    have HT7 : Hid (_) := ptake_any b (lv) l w5 PA.out hl ol8
    refine Calls.mono HT7.out ?_
    rintro e w10 ⟨rfl, hg11, hp12⟩
    replace FR : Hid (Frm w b w10) := FR.out.go hg11
    replace PA : Hid (PAt b l.tail (lv) w10) := hp12
    clear HT7 hg11 hp12
    obtain ⟨V13, hV13⟩ : ∃ V, V = w10.alloc (.cells #[.string ⟨#[40]⟩] 9) := ⟨_, rfl⟩
    have bV13 : Below w10.heap.size w10 V13 := hV13 ▸ below_new w10 _
    have rV13 : RowLow V13.heap.size V13 (.slice (some ⟨w10.heap.size, 0, none⟩) 1 1) [[40]] := by rw [hV13]; exact CellsLow.lit w10 [txtV [40]] 9 1
    replace FR : Hid (Frm w b V13) := FR.out.go (grown_low bV13)
    replace PA : Hid (PAt b l.tail (lv) V13) := PA.out.below bV13
    clear bV13
    go_wp2_with fail
    rw [← hV13]
    clear hV13
    cases hs14 : Ps.sees l.tail [[40]]
    · skip
      have HO15 : Hid (_) := popen_no b (lv) _ l.tail [[40]] _ V13 PA.out ol8 rV13 (Nat.le_refl _) (by simp) hs14
      refine Calls.mono HO15.out ?_
      rintro e u17 ⟨rfl, hg16⟩
      exact ⟨rfl, FR.out.grown.trans hg16, .inl ⟨_, _, ⟨1, by simp [hk3, hk1, HT4.out, hs14]⟩, rfl⟩⟩
    by_cases h12018 : lv = 120
    · skip
      have PB : Hid (PAt b l.tail 120 V13) := by have := PA.out; rwa [h12018] at this
      have HO15 : Hid (_) := popen_deep b _ l.tail [[40]] _ V13 PB.out ol8 rV13 (Nat.le_refl _) (by simp) hs14
      refine Calls.mono HO15.out ?_
      rintro e u20 ⟨rfl, hg19⟩
      exact ⟨rfl, FR.out.grown.trans hg19, .inl ⟨_, _, ⟨1, by simp [hk3, hk1, HT4.out, hs14, h12018]⟩, rfl⟩⟩
    obtain ⟨ol21, ln22⟩ := ol8.sees hs14 (by decide)
    have HO15 : Hid (_) := popen_yes b (lv) _ l.tail [[40]] _ V13 PA.out ol8 rV13 (Nat.le_refl _) (by simp) hs14 (by decide) (by omega)
    refine Calls.mono HO15.out ?_
    rintro e w23 ⟨rfl, hg24, hp25⟩
    replace FR : Hid (Frm w b w23) := FR.out.go hg24
    replace PA : Hid (PAt b l.tail.tail (lv + 1) w23) := hp25
    clear HO15 hg24 hp25 rV13
    go_wp2_with fail
    cases hs26 : Ps.sees l.tail.tail [[41]]
    · skip
      have HW27 : Hid (_) := pclose_no b (lv + 1) l.tail.tail [41] w23 PA.out ol21 hs26
      refine Calls.mono HW27.out ?_
      rintro e u29 ⟨rfl, hg28⟩
      exact ⟨rfl, FR.out.grown.trans hg28, .inl ⟨_, _, ⟨1, by simp [hk3, hk1, HT4.out, hs14, h12018, hs26]⟩, rfl⟩⟩
    obtain ⟨ol30, ln31⟩ := ol21.sees hs26 (nil_not [41] (by decide))
    have HW27 : Hid (_) := pclose_yes b (lv) l.tail.tail [41] w23 PA.out ol21 hs26 (by decide) (by omega)
    refine Calls.mono HW27.out ?_
    rintro e w32 ⟨rfl, hg33, hp34⟩
    replace FR : Hid (Frm w b w32) := FR.out.go hg33
    replace PA : Hid (PAt b l.tail.tail.tail (lv) w32) := hp34
    clear HW27 hg33 hp34
    have Nz : Hid (NF w w32 ⟨29, [], 0, .slice none 0 0, []⟩ []) := NF.leaf w w32 [] 29 [] 0 (by omega) (by simp) (by omega)
    go_wp2_with fail
    have HD35 : Hid (_) := pnode_any 29 (Ln.bs []) none 0 0 w32
    refine Calls.mono HD35.out ?_
    rintro e w36 ⟨rfl, hb37⟩
    replace Nz : Hid (NF w w36 ⟨29, [], 0, .slice none 0 0, []⟩ []) := Nz.out.go (grown_low hb37) FR.out.low
    replace FR : Hid (Frm w b w36) := FR.out.go (grown_low hb37)
    replace PA : Hid (PAt b l.tail.tail.tail (lv) w36) := PA.out.below hb37
    clear HD35 hb37
    obtain ⟨p0, p1, p2, p3, pf, Z, hZ, ⟨r0, r1, r2, r3⟩, z1, z2, z3⟩ := FR.out.fin PA.out Nz.out
    have HF : Hid (w.grownBy Z (some b) ∧ PEnd b lv .prime l w (.returned (.agg #[.int .u8 29, .string (Ln.bs []), .int .i64 0, .slice none 0 0])) Z) := ⟨z1, .inr ⟨_, _, _, ⟨1, by simp [hk3, hk1, HT4.out, hs14, h12018, hs26]⟩, ol30, by omega, z2, rfl, z3⟩⟩
    clear z1 z2 z3 
    go_wp2
    rw [← hZ]
    refine bodyPost_ret (v := .agg #[.int .u8 29, .string (Ln.bs []), .int .i64 0, .slice none 0 0]) (by simp [results, Tryz.results182, go_sem, r0, r1, r2, r3]) rfl HF.out
  have q4 : ((Ps.hd l).text == [114, 101, 97, 100]) = false := by simpa using ht4
  go_wp2_with fail
  have HC7 : Hid (_) := HhW.out b lv l w5 hl hm hlv PA.out
  refine Calls.mono HC7.out ?_
  rintro e w8 ⟨hg9, ⟨E, i, ⟨n10, hn11⟩, rfl⟩ | ⟨t, l16, v, ⟨n10, hn11⟩, ol12, ln13, hp14, rfl, nd15⟩⟩
  · skip
    exact ⟨rfl, FR.out.grown.trans hg9, .inl ⟨_, _, ⟨n10 + 1, by have e0 := Ps.go_le (show n10 ≤ n10 by omega) hn11; simp [hk3, hk1, ht0, ht1, ht2, ht3, ht4, e0]⟩, rfl⟩⟩
  obtain ⟨xk, xt, xn, xa, xL, xc, xkids, rfl, rfl, nf⟩ := NF.of_end (X := []) nd15 FR.out (by simp)
  replace FR : Hid (Frm w b w8) := FR.out.go hg9
  replace PA : Hid (PAt b l16 (lv) w8) := hp14
  have Nx : Hid (NF w w8 ⟨xk, xt, xn, .slice xa xL xc, xkids⟩ []) := nf
  clear nf HC7 hg9 hp14 nd15
  obtain ⟨p0, p1, p2, p3, pf, Z, hZ, ⟨r0, r1, r2, r3⟩, z1, z2, z3⟩ := FR.out.fin PA.out Nx.out
  have HF : Hid (w.grownBy Z (some b) ∧ PEnd b lv .prime l w (.returned (.agg #[.int .u8 xk, .string (Ln.bs xt), .int .i64 xn, .slice xa xL xc])) Z) := ⟨z1, .inr ⟨_, _, _, ⟨n10 + 1, by have e0 := Ps.go_le (show n10 ≤ n10 by omega) hn11; simp [hk3, hk1, ht0, ht1, ht2, ht3, ht4, e0]⟩, ol12, by omega, z2, rfl, z3⟩⟩
  clear z1 z2 z3 
  go_wp2
  rw [← hZ]
  refine bodyPost_ret (v := .agg #[.int .u8 xk, .string (Ln.bs xt), .int .i64 xn, .slice xa xL xc]) (by simp [results, Tryz.results182, go_sem, r0, r1, r2, r3]) rfl HF.out
end Go.Proofs.YtnndgjnihhafbaaGreatDoor

/-
  The walk of suffix: an index behind another one.
-/
namespace Go.Proofs.YtnndgjnihhafbaaGreatDoor
open Go.RowKit Go.Shelf

attribute [local go_sem] Oper.semAt_some
attribute [local simp] Ps.go Ps.opn Ps.want Ps.name Ps.bnd Ps.bad N1.tr

/-- A node in its box, over which another one is set. -/
theorem BX.put {w W : World} {b lv q : Nat} {l : List Lx.Tok} {x : N1} {k : Int} {tx : List UInt8} {n : Int} {v : Value} {kids : List Tr} {X : List Nat} (hB : BX w W q x) (hF : Frm w b W) (hP : PAt b l lv W) (hx : NF w W ⟨k, tx, n, v, kids⟩ X) (hq : q ∈ X) :
    (∃ c0, W.cell? ⟨q, 0, none⟩ = some c0) ∧ (∃ c1, (W.setCell ⟨q, 0, none⟩ (.int .u8 k)).cell? ⟨q, 1, none⟩ = some c1) ∧ (∃ c2, ((W.setCell ⟨q, 0, none⟩ (.int .u8 k)).setCell ⟨q, 1, none⟩ (.string (Ln.bs tx))).cell? ⟨q, 2, none⟩ = some c2) ∧ (∃ c3, (((W.setCell ⟨q, 0, none⟩ (.int .u8 k)).setCell ⟨q, 1, none⟩ (.string (Ln.bs tx))).setCell ⟨q, 2, none⟩ (.int .i64 n)).cell? ⟨q, 3, none⟩ = some c3) ∧ (∀ j, W.frozen? ⟨q, j, none⟩ = false) ∧
      ∃ Z, Z = (((W.setCell ⟨q, 0, none⟩ (.int .u8 k)).setCell ⟨q, 1, none⟩ (.string (Ln.bs tx))).setCell ⟨q, 2, none⟩ (.int .i64 n)).setCell ⟨q, 3, none⟩ v ∧ W.grownBy Z (some q) ∧ Frm w b Z ∧ PAt b l lv Z ∧ BX w Z q ⟨k, tx, n, v, kids⟩ ∧ NF w Z ⟨k, tx, n, v, kids⟩ X := by
  obtain ⟨hlt, hb⟩ := hB
  obtain ⟨p0, p1, p2, p3, pf, Z, hZ, hZr, gz⟩ := box_put hb (.int .u8 k) (.string (Ln.bs tx)) (.int .i64 n) v
  refine ⟨⟨_, p0⟩, ⟨_, p1⟩, ⟨_, p2⟩, ⟨_, p3⟩, pf, Z, hZ, gz, ⟨hF.low, grown_new hF.grown gz (by omega), (gz.block _ hF.lt (by simp; omega)).trans hF.box⟩, hP.beside gz hb, ⟨hlt, hZr⟩, hx.set gz hq⟩

set_option maxRecDepth 100000 in
set_option maxHeartbeats 4000000 in
theorem psuffix_of (m : Nat) (hPr : PDoes 182 .prime [] (m + 1)) (hW : PDoes 180 (.within [91] [93]) [.string (Ln.bs [91]), .string (Ln.bs [93])] (m + 1)) : PDoes 181 .suffix [] (m + 1) := by
  intro b lv l w hl hm hlv hP
  obtain ⟨A, hA⟩ : ∃ A, A = w.alloc (.cells #[.int .u8 0, .string ⟨#[]⟩, .int .i64 0, .slice none 0 0] 25) := ⟨_, rfl⟩
  have FR : Hid (Frm w b A) := hA ▸ Frm.new hP
  have PA : Hid (PAt b l lv A) := hA ▸ hP.below (below_new w _)
  have HC : Hid (_) := hPr b lv l A hl hm hlv PA.out
  have HhW : Hid (PDoes 180 (.within [91] [93]) [.string (Ln.bs [91]), .string (Ln.bs [93])] (m + 1)) := hW
  clear hP hPr hW
  go_enter Tryz.func181, Tryz.ntmps181
  go_wp2_with fail
  rw [← hA]
  clear hA
  refine Calls.mono HC.out ?_
  rintro e w1 ⟨hg1, ⟨E, i, ⟨n1, hn1⟩, rfl⟩ | ⟨t, l1, v, ⟨n1, hn1⟩, ol1, ln1, hp1, rfl, nd1⟩⟩
  · exact ⟨rfl, FR.out.grown.trans hg1, .inl ⟨_, _, ⟨n1 + 1, by simp [hn1]⟩, rfl⟩⟩
  obtain ⟨xk, xt, xn, xa, xL, xc, xkids, rfl, rfl, nf⟩ := NF.of_end (X := []) nd1 FR.out (by simp)
  have F1 : Frm w b w1 := FR.out.go hg1
  obtain ⟨Y, hY⟩ : ∃ Y, Y = w1.alloc (.cells #[.int .u8 xk, .string (Ln.bs xt), .int .i64 xn, .slice xa xL xc] 25) := ⟨_, rfl⟩
  have bY : Below w1.heap.size w1 Y := hY ▸ below_new w1 _
  have hlow := F1.low
  have ST : Hid (Frm w b Y ∧ PAt b l1 lv Y ∧ BX w Y w1.heap.size ⟨xk, xt, xn, .slice xa xL xc, xkids⟩ ∧ NF w Y ⟨xk, xt, xn, .slice xa xL xc, xkids⟩ [w1.heap.size] ∧ ∀ r, Ps.Eats (.idx [.mk xk xt xn xkids]) l1 lv r → Ps.Eats .suffix l lv r) := by
    refine ⟨F1.below bY, hp1.below bY, by rw [hY]; exact BX.new F1 ⟨xk, xt, xn, .slice xa xL xc, xkids⟩, (nf.ex (Nat.le_refl _)).go (b := b) (grown_low bY) hlow, fun r hr => ?_⟩
    obtain ⟨n2, hn2⟩ := hr
    exact ⟨n1 + n2 + 1, by have e0 := Ps.go_le (show n1 ≤ n1 + n2 by omega) hn1; have e1 := Ps.go_le (show n2 ≤ n1 + n2 by omega) hn2; simp [e0, e1]⟩
  obtain ⟨q, hq⟩ : ∃ q, q = w1.heap.size := ⟨_, rfl⟩
  rw [← hq] at ST
  clear HC hg1 hp1 nd1 nf F1 bY FR PA
  go_wp2
  rw [← hY, ← hq]
  clear hY hq
  go_loopg [] (l1.length) (fun g wr => ∃ (k : Int) (tx : List UInt8) (n : Int) (a : Option Addr) (L c : Nat) (kids : List Tr) (l2 : List Lx.Tok), g = l2.length ∧ OkL l2 ∧ l2.length ≤ l1.length ∧ Frm w b wr ∧ PAt b l2 lv wr ∧ BX w wr q ⟨k, tx, n, .slice a L c, kids⟩ ∧ NF w wr ⟨k, tx, n, .slice a L c, kids⟩ [q] ∧ ∀ r, Ps.Eats (.idx [.mk k tx n kids]) l2 lv r → Ps.Eats .suffix l lv r)
  case atStart => exact ⟨_, _, _, _, _, _, _, l1, rfl, ol1, Nat.le_refl _, ST.out.1, ST.out.2.1, ST.out.2.2.1, ST.out.2.2.2.1, ST.out.2.2.2.2⟩
  case round =>
    clear ST
    obtain ⟨k, tx, n, a, L, c, kids, l2, hgk, ol2, ln2, hF, hP, hB, hN, hE⟩ := hrel
    obtain ⟨V, hV⟩ : ∃ V, V = wr.alloc (.cells #[.string ⟨#[91]⟩] 9) := ⟨_, rfl⟩
    have bV : Below wr.heap.size wr V := hV ▸ below_new wr _
    have rV : RowLow V.heap.size V (.slice (some ⟨wr.heap.size, 0, none⟩) 1 1) [[91]] := by rw [hV]; exact CellsLow.lit wr [txtV [91]] 9 1
    have HS : Hid (_) := psees_any b lv _ l2 [[91]] _ V (hP.below bV) ol2 rV (Nat.le_refl _) (by simp)
    have FR : Hid (Frm w b V) := hF.below bV
    have PA : Hid (PAt b l2 lv V) := hP.below bV
    have BQ : Hid (BX w V q ⟨k, tx, n, .slice a L c, kids⟩) := hB.go (b := b) (grown_low bV) hlow
    have NX : Hid (NF w V ⟨k, tx, n, .slice a L c, kids⟩ [q]) := hN.go (b := b) (grown_low bV) hlow
    have HE : Hid (∀ r, Ps.Eats (.idx [.mk k tx n kids]) l2 lv r → Ps.Eats .suffix l lv r) := hE
    clear hF hP hB hN hE bV rV
    go_wp2_with fail
    rw [← hV]
    clear hV
    refine Calls.mono HS.out ?_
    rintro e w2 ⟨rfl, hb2⟩
    replace FR : Hid (Frm w b w2) := FR.out.below hb2
    replace PA : Hid (PAt b l2 lv w2) := PA.out.below hb2
    replace BQ : Hid (BX w w2 q ⟨k, tx, n, .slice a L c, kids⟩) := BQ.out.go (b := b) (grown_low hb2) hlow
    replace NX : Hid (NF w w2 ⟨k, tx, n, .slice a L c, kids⟩ [q]) := NX.out.go (b := b) (grown_low hb2) hlow
    clear HS hb2
    obtain ⟨f0, f1, f2, f3⟩ := BQ.out.cs
    cases hs : Ps.sees l2 [[91]]
    case false =>
      obtain ⟨p0, p1, p2, p3, pf, Z, hZ, ⟨r0, r1, r2, r3⟩, z1, z2, z3⟩ := FR.out.fin PA.out NX.out
      have HF : Hid (w.grownBy Z (some b) ∧ PEnd b lv .suffix l w (.returned (.agg #[.int .u8 k, .string (Ln.bs tx), .int .i64 n, .slice a L c])) Z) := ⟨z1, .inr ⟨_, _, _, HE.out _ ⟨1, by simp [hs]⟩, ol2, by omega, z2, rfl, z3⟩⟩
      clear z1 z2 z3
      go_wp2
      rw [← hZ]
      refine bodyPost_ret (v := .agg #[.int .u8 k, .string (Ln.bs tx), .int .i64 n, .slice a L c]) (by simp [results, Tryz.results181, go_sem, r0, r1, r2, r3]) rfl HF.out
    case true =>
    have HI : Hid (_) := pindex_of (m + 1) HhW.out (newX (w.heap.size + 1) w2.heap.size [q]) b lv l2 (.mk k tx n kids) (.agg #[.int .u8 k, .string (Ln.bs tx), .int .i64 n, .slice a L c]) w2 ol2 (by omega) hlv PA.out (fun j hj => ⟨hj.2.1, by have := hj.1; omega⟩) ⟨⟨k, tx, n, .slice a L c, kids⟩, rfl, rfl, NX.out.fit, NX.out.row⟩
    go_wp2_with fail
    refine Calls.mono HI.out ?_
    rintro e w3 ⟨hg3, ⟨E, i, ⟨n2, hn2⟩, rfl⟩ | ⟨y, l3, v, ⟨n2, hn2⟩, ol3, ln3, hp3, rfl, nd3⟩⟩
    · exact ⟨rfl, FR.out.grown.trans hg3, .inl ⟨_, _, HE.out _ ⟨n2 + 1, by simp [hs, hn2]⟩, rfl⟩⟩
    obtain ⟨⟨yk, yt, yn, yv, ykids⟩, rfl, hyt, yf, yr⟩ := nd3
    obtain ⟨ya, yc, hyv⟩ := yr.slice
    simp only at hyv
    subst hyv
    simp only [N1.tr, Tr.mk.injEq] at hyt
    obtain ⟨rfl, rfl, rfl, rfl⟩ := hyt
    have F3 : Frm w b w3 := FR.out.go hg3
    have B3 := BQ.out.go hg3 hlow
    have hqlt := BQ.out.lt
    have hlt2 := FR.out.lt
    have N3 : NF w w3 ⟨26, [], 0, .slice ya [Tr.mk k tx n kids, y].length yc, [Tr.mk k tx n kids, y]⟩ [q] := by
      refine ⟨yf, yr.mono (fun j hj => ?_)⟩
      rcases hj with hj | hj
      · exact ⟨hj.1, Nat.lt_of_lt_of_le hj.2.1 hg3.size, hj.2.2⟩
      · refine ⟨by have := hj.1; omega, hj.2, fun e => ?_⟩
        have := hj.1
        simp only [List.mem_singleton] at e
        omega
    obtain ⟨⟨c0, p0⟩, ⟨c1, p1⟩, ⟨c2, p2⟩, ⟨c3, p3⟩, pf, Z, hZ, gz, FZ, PZ, BZ, NZ⟩ := B3.put F3 hp3 N3 (by simp)
    have HZ : Hid (Frm w b Z ∧ PAt b l3 lv Z ∧ BX w Z q ⟨26, [], 0, .slice ya [Tr.mk k tx n kids, y].length yc, [Tr.mk k tx n kids, y]⟩ ∧ NF w Z ⟨26, [], 0, .slice ya [Tr.mk k tx n kids, y].length yc, [Tr.mk k tx n kids, y]⟩ [q]) := ⟨FZ, PZ, BZ, NZ⟩
    simp only [N1.cells, List.length_cons, List.length_nil, Nat.zero_add, Nat.reduceAdd] at p1 p2 p3 hZ ⊢
    clear HI hg3 hp3 yf yr F3 B3 N3 FZ PZ BZ NZ gz f0 f1 f2 f3
    go_wp2
    rw [← hZ]
    go_roundg l3.length
    case measure => omega
    case rel =>
      refine ⟨26, [], 0, ya, 2, yc, [Tr.mk k tx n kids, y], l3, rfl, ol3, by omega, HZ.out.1, HZ.out.2.1, HZ.out.2.2.1, HZ.out.2.2.2, fun r hr => HE.out r ?_⟩
      obtain ⟨n3, hn3⟩ := hr
      exact ⟨n2 + n3 + 1, by have e0 := Ps.go_le (show n2 ≤ n2 + n3 by omega) hn2; have e1 := Ps.go_le (show n3 ≤ n2 + n3 by omega) hn3; simp [hs, e0, e1]⟩
end Go.Proofs.YtnndgjnihhafbaaGreatDoor

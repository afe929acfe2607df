/-
  The walk of the reader's block: a row of statements, in a node's box.
-/
import Derived.Test.YtfegodofbdlbeaaGreatDoorRsOr
import Derived.Test.YtfegodofbdlbeaaGreatDoorRsLists
import Derived.Test.YtfegodofbdlbeaaGreatDoorStmtAll
namespace Go.Proofs.YtfegodofbdlbeaaGreatDoor
open Go.RowKit Go.Shelf
open Rs (St)

attribute [local go_sem] Oper.semAt_some

/-- The reader stays, where a row of nodes is appended to. -/
theorem RAt.rowed {b a n : Nat} {L : List Lx.Tok} {s : St} {W Z : World} {v : Value} {xs : List Value} (h : RAt b L s W) (ho : W.ownsRow a 26 4 v n xs) (hz : W.grownBy Z v.ownBlock) : RAt b L s Z := by
  have hlt := h.lt
  obtain ⟨tb, cc, h1, ⟨tc, fr, h2⟩, h3, h4, h5, h6⟩ := h
  have h2l := (Array.getElem?_eq_some_iff.1 h2).1
  have hne : ∀ k (c : Array Value) (t : TypeId) (f : Nat × Nat), W.heap[k]? = some (.cells c t f) → t ≠ 26 → some k ≠ v.ownBlock := fun k c t f hk ht e => by
    rcases ho.2 with ⟨rfl, _⟩ | ⟨g, cap, cur, rfl, _, hgb, _⟩
    · cases e
    · obtain rfl : k = g := by simpa [Value.ownBlock] using e
      rw [hk] at hgb
      injection hgb with q
      injection q with _ q _
      exact ht q
  have hbn := hne b _ _ _ h3 (by decide)
  have htn := hne tb _ _ _ h2 (by decide)
  exact ⟨tb, cc, h1, ⟨tc, fr, (hz.block tb h2l htn).trans h2⟩, (hz.block b hlt hbn).trans h3, h4, h5, fun j u hu => (World.cell?_of_block (w := W) (a := ⟨tb, j, none⟩) (hz.block tb h2l htn)).trans (h6 j u hu)⟩
theorem RAt.len {b : Nat} {L : List Lx.Tok} {s : St} {W : World} (h : RAt b L s W) : L.length ≤ 100000000 := by
  obtain ⟨_, _, _, -, -, -, h, -⟩ := h
  exact h
theorem Rs.mu_le (L : List Lx.Tok) (s : St) : Rs.mu L s ≤ L.length + 1 := by
  unfold Rs.mu Rs.rest
  split
  · simp
  · omega

set_option maxRecDepth 100000 in
set_option maxHeartbeats 8000000 in
theorem rblock_of (m : Nat) (hst : ∀ m', m = m' + 1 → RDo 69 .stmt [] m') : RDo 42 .block [] m := by
  intro b L s w hK hG hR hm
  obtain ⟨A, hA⟩ : ∃ A, A = w.alloc (.cells #[.int .u8 0, .string ⟨#[]⟩, .int .i64 0, .slice none 0 0] 26) := ⟨_, rfl⟩
  have FR : Hid (Frm w b A) := hA ▸ RFrm.new hR
  have PA : Hid (RAt b L (s) A) := hA ▸ hR.below (below_new w _)
  have KN : Hid (Known L) := hK
  have GD : Hid (Rs.Good L (s)) := hG
  have G0 : Hid (Rs.Good L s) := hG
  have HM : Hid (s.E = 0 → (Rs.rest L s).length ≤ m) := hm
  have Hhst : Hid (∀ m', m = m' + 1 → RDo 69 .stmt [] m') := hst
  clear hR hK hG hm hst
  obtain ⟨i0, hi0, hz0, hz1, hz2⟩ := info_parts info_node
  go_enter Tryz.func42, Tryz.ntmps42
  have hlen := PA.out.len
  have hwA : w.heap.size < A.heap.size := FR.out.lt
  have sz1 : A.heap.size = w.heap.size + 1 := by rw [hA, World.size_alloc]
  obtain ⟨V2, hV2⟩ : ∃ V, V = A.alloc (.cells #[.int .u8 5, .string ⟨#[]⟩, .int .i64 0, .slice none 0 0] 26) := ⟨_, rfl⟩
  have bV2 : Below A.heap.size A V2 := hV2 ▸ below_new A _
  have BQ : Hid (V2.heap[A.heap.size]? = some (.cells #[.int .u8 5, .string ⟨#[]⟩, .int .i64 0, .slice none 0 0] 26 (0, 0))) := by rw [Hid, hV2]; exact World.alloc_heap_new A _
  rw [sz1] at BQ hwA
  replace FR : Hid (Frm w b V2) := FR.out.go (grown_low bV2)
  replace PA : Hid (RAt b L (s) V2) := PA.out.below bV2
  clear bV2 sz1
  obtain ⟨q, hq⟩ : ∃ q, q = w.heap.size + 1 := ⟨_, rfl⟩
  rw [← hq] at BQ hwA
  go_wp2_with fail
  rw [← hA, ← hV2]
  clear hA hV2
  rw [← hq]
  clear hq
  have HW3 : Hid (_) := rbegin_any b L (s) [123] V2 PA.out GD.out KN.out (by decide)
  refine Calls.mono HW3.out ?_
  rintro e w4 ⟨rfl, hst5⟩
  replace BQ : Hid (w4.heap[q]? = some (.cells #[.int .u8 5, .string ⟨#[]⟩, .int .i64 0, .slice none 0 0] 26 (0, 0))) := (hst5.1.block q (Array.getElem?_eq_some_iff.1 BQ.out).1 (by have := FR.out.low; simp; omega)).trans BQ.out
  replace FR : Hid (Frm w b w4) := FR.out.go hst5.1
  replace PA : Hid (RAt b L (Rs.begin L (s) [123]) w4) := hst5.2
  clear HW3 hst5
  replace GD : Hid (Rs.Good L (Rs.begin L (s) [123])) := Rs.begin_good GD.out (by decide)
  obtain ⟨s1, hs1⟩ : ∃ s1, s1 = Rs.begin L s [123] := ⟨_, rfl⟩
  have HS1 : Hid (s1 = Rs.begin L s [123]) := hs1
  rw [← hs1] at PA GD
  clear hs1
  have ST : Hid (Frm w b w4 ∧ RAt b L s1 w4 ∧ w4.heap[q]? = some (.cells #[.int .u8 5, .string ⟨#[]⟩, .int .i64 0, .slice none 0 0] 26 (0, 0)) ∧ Rw (q + 1) w4 (.slice none 0 0) [] ∧ Rs.Till L (.blk []) s1 (.blk (([] : List N1).map N1.tr)) s1 ∧ Rs.Sh L s1 s1 0) := ⟨FR.out, PA.out, BQ.out, Rw.nil _ _, Rs.Till.refl GD.out, Rs.Sh.refl s1⟩
  clear FR PA BQ GD
  go_wp2
  go_loopg [] (Rs.mu L s1) (fun g wr => ∃ (v : Value) (xs : List N1) (s2 : St), g = Rs.mu L s2 ∧ xs.length + Rs.mu L s2 ≤ 100000001 ∧ Frm w b wr ∧ RAt b L s2 wr ∧ wr.heap[q]? = some (.cells #[.int .u8 5, .string ⟨#[]⟩, .int .i64 0, v] 26 (0, 0)) ∧ Rw (q + 1) wr v xs ∧ Rs.Till L (.blk []) s1 (.blk (xs.map N1.tr)) s2 ∧ Rs.Sh L s1 s2 0)
  case atStart => exact ⟨_, [], s1, rfl, by have := Rs.mu_le L s1; simp; omega, ST.out⟩
  case round =>
    clear ST
    obtain ⟨v, xs, s2, hgk, hxl, hF, hP, hB, hRw, hT, hSh⟩ := hrel
    have FR : Hid (Frm w b wr) := hF
    have PA : Hid (RAt b L (s2) wr) := hP
    have BQ : Hid (wr.heap[q]? = some (.cells #[.int .u8 5, .string ⟨#[]⟩, .int .i64 0, v] 26 (0, 0))) := hB
    have RW : Hid (Rw (q + 1) wr v xs) := hRw
    have TL : Hid (Rs.Till L (.blk []) s1 (.blk (xs.map N1.tr)) s2) := hT
    have SH : Hid (Rs.Sh L s1 s2 0) := hSh
    have GD : Hid (Rs.Good L (s2)) := hT.good
    have GL : Hid (Rs.Good L s2) := hT.good
    clear hF hP hB hRw hT hSh
    have c3 := rcell3 PA.out GD.out
    by_cases hE : ¬ s2.E = 0
    case pos =>
      have e0 : ((s2.E : Int) == 0) = false := by simpa using hE
      have HD : Hid (s2.E ≠ 0) := hE
      clear hE
      have HEN : Hid (s2.E = 0 → Rs.isB L s2 [125] = true) := fun h => absurd h HD.out
      have RB : Hid (_) := Rs.rel_block G0.out (HS1.out ▸ TL.out) HEN.out
      go_wp2_with fail
      have HW6 : Hid (_) := rend_any b L (s2) [125] wr PA.out GD.out KN.out (by decide) (by decide)
      refine Calls.mono HW6.out ?_
      rintro e w7 ⟨rfl, hst8⟩
      replace BQ : Hid (w7.heap[q]? = some (.cells #[.int .u8 5, .string ⟨#[]⟩, .int .i64 0, v] 26 (0, 0))) := (hst8.1.block q (Array.getElem?_eq_some_iff.1 BQ.out).1 (by have := FR.out.low; simp; omega)).trans BQ.out
      replace RW : Hid (Rw (q + 1) w7 v xs) := RW.out.go hst8.1 (by have := FR.out.low; omega)
      replace FR : Hid (Frm w b w7) := FR.out.go hst8.1
      replace PA : Hid (RAt b L (Rs.endd L s2 [125]) w7) := hst8.2
      clear HW6 hst8
      have NZ : NF w w7 ⟨5, [], 0, v, xs.map N1.tr⟩ [] := RW.out.nf (by omega) (by omega) 5 (by omega)
      have d0 : w7.cell? ⟨q, 0, none⟩ = some (.int .u8 5) := cells_at BQ.out rfl
      have d1 : w7.cell? ⟨q, 1, none⟩ = some (.string ⟨#[]⟩) := cells_at BQ.out rfl
      have d2 : w7.cell? ⟨q, 2, none⟩ = some (.int .i64 0) := cells_at BQ.out rfl
      have d3 : w7.cell? ⟨q, 3, none⟩ = some (v) := cells_at BQ.out rfl
      obtain ⟨va, vc, hv⟩ := slice_shape RW.out.own
      obtain ⟨vL, hvL⟩ : ∃ N, N = xs.length := ⟨_, rfl⟩
      rw [← hvL] at hv
      subst hv
      have Nz : Hid (_) := NZ
      clear NZ hvL
      obtain ⟨p0, p1, p2, p3, pf, Z, hZ, ⟨r0, r1, r2, r3⟩, z1, z2, z3⟩ := FR.out.finR PA.out Nz.out
      have HF : Hid (w.grownBy Z (some b) ∧ REnd L .block b s w (.returned (.agg #[.int .u8 5, .string (Ln.bs []), .int .i64 0, .slice va vL vc])) Z) := ⟨z1, _, _, _, rfl, z2, RB.out, z3⟩
      clear z1 z2 z3 
      rw [show Ln.bs [] = (⟨#[]⟩ : ByteArray) from rfl] at p2 p3 hZ r1 HF
      go_wp2
      rw [← hZ]
      refine bodyPost_ret (v := .agg #[.int .u8 5, .string ⟨#[]⟩, .int .i64 0, .slice va vL vc]) (by simp [results, Tryz.results42, go_sem, r0, r1, r2, r3]) rfl HF.out
    have hE : s2.E = 0 := by simpa using hE
    have e0 : ((s2.E : Int) == 0) = true := by rw [hE]; rfl
    have H0 : Hid (s2.E = 0) := hE
    clear hE
    go_wp2_with fail
    have HI6 : Hid (_) := ris_any b L (s2) [125] wr PA.out GD.out KN.out (by decide)
    refine Calls.mono HI6.out ?_
    rintro e w8 ⟨rfl, hb9⟩
    replace BQ : Hid (w8.heap[q]? = some (.cells #[.int .u8 5, .string ⟨#[]⟩, .int .i64 0, v] 26 (0, 0))) := (hb9.block q (Array.getElem?_eq_some_iff.1 BQ.out).1).trans BQ.out
    replace RW : Hid (Rw (q + 1) w8 v xs) := RW.out.go (b := b) (grown_low hb9) (by have := FR.out.low; omega)
    replace FR : Hid (Frm w b w8) := FR.out.go (grown_low hb9)
    replace PA : Hid (RAt b L (s2) w8) := PA.out.below hb9
    clear HI6 hb9 c3 e0
    cases hs7 : Rs.isB L (s2) [125]
    · skip
      have HS : Hid (Rs.isB L s2 [125] = false) := hs7
      clear hs7
      have SS : Hid (Rs.Sh L s s2 1) := by have := (Rs.begin_sh (t := [123]) G0.out); rw [← HS1.out] at this; exact (this.trans SH.out).less (by omega)
      have hm1 := SS.out H0.out
      have hm2 := HM.out hm1.1
      have HST : Hid (RDo 69 .stmt [] (m - 1)) := Hhst.out (m - 1) (by omega)
      have HB : Hid ((Rs.rest L s2).length ≤ m - 1) := by show _ ≤ _; omega
      clear hm1 hm2
      have hqw : q < w8.heap.size := (Array.getElem?_eq_some_iff.1 BQ.out).1
      go_wp2_with fail
      have HC : Hid (_) := HST.out b L s2 w8 KN.out GD.out PA.out (fun _ => HB.out)
      refine Calls.mono HC.out ?_
      rintro e W5 ⟨hg5, ty, v9, s3, rfl, ra5, rel5, nd5⟩
      obtain ⟨⟨yk, yt, yn, yv, ykids⟩, rfl, rfl, yf, yr⟩ := nd5
      obtain ⟨ya, yc, hyv⟩ := yr.slice
      simp only at hyv
      subst hyv
      obtain ⟨yL, hyL⟩ : ∃ N, N = ykids.length := ⟨_, rfl⟩
      simp only [N1.cells]
      rw [← hyL] at yf yr ⊢
      clear hyL
      have FR5 : Hid (Frm w b W5) := FR.out.go hg5
      have BQ5 : Hid (W5.heap[q]? = some (.cells #[.int .u8 5, .string ⟨#[]⟩, .int .i64 0, v] 26 (0, 0))) := (hg5.block q (Array.getElem?_eq_some_iff.1 BQ.out).1 (by have := FR.out.low; simp; omega)).trans BQ.out
      have HY5 : Hid ((⟨yk, yt, yn, .slice ya yL yc, ykids⟩ : N1).Fit ∧ RowR (newS w8.heap.size W5.heap.size) W5 (.slice ya yL yc) ykids ∧ w8.grownBy W5 (some b) ∧ RAt b L s3 W5) := ⟨yf, yr, hg5, ra5⟩
      have RY : Hid (Rs.Rel L .stmt s2 (.mk yk yt yn ykids) s3) := rel5
      have S3 : Hid (Rs.Sh L s2 s3 1) := Rs.rel_shs (J := .stmt) trivial trivial rel5
      clear hg5 ra5 rel5 yf yr HC
      obtain ⟨Y, hY⟩ : ∃ Y, Y = W5.alloc (.cells #[.int .u8 yk, .string (Ln.bs yt), .int .i64 yn, .slice ya yL yc] 26) := ⟨_, rfl⟩
      have bY : Below W5.heap.size W5 Y := hY ▸ below_new W5 _
      have HYN : Hid (Y.heap[W5.heap.size]? = some (.cells #[.int .u8 yk, .string (Ln.bs yt), .int .i64 yn, .slice ya yL yc] 26 (0, 0))) := by rw [Hid, hY]; exact World.alloc_heap_new W5 _
      go_upto_region 5 with fail
      rw [← hY]
      have sY : Y.heap.size = W5.heap.size + 1 := by rw [hY, World.size_alloc]
      clear hY
      have f0 : Y.cell? ⟨W5.heap.size, 0, none⟩ = some (.int .u8 yk) := cells_at HYN.out rfl
      have f1 : Y.cell? ⟨W5.heap.size, 1, none⟩ = some (.string (Ln.bs yt)) := cells_at HYN.out rfl
      have f2 : Y.cell? ⟨W5.heap.size, 2, none⟩ = some (.int .i64 yn) := cells_at HYN.out rfl
      have f3 : Y.cell? ⟨W5.heap.size, 3, none⟩ = some (.slice ya yL yc) := cells_at HYN.out rfl
      have bR := below_nw Y (.cells #[.int .u8 yk, .string (Ln.bs yt), .int .i64 yn, .slice ya yL yc] 26)
      have SRC : Hid (_) := cells_new Y [.int .u8 yk, .string (Ln.bs yt), .int .i64 yn, .slice ya yL yc] 26
      rw [sY] at SRC
      have BQY : Y.heap[q]? = some (.cells #[.int .u8 5, .string ⟨#[]⟩, .int .i64 0, v] 26 (0, 0)) := (bY.block q (Array.getElem?_eq_some_iff.1 BQ5.out).1).trans BQ5.out
      have hlow := FR5.out.low
      have hq5 : w8.heap.size ≤ W5.heap.size := HY5.out.2.2.1.size
      have RW5 : Rw (q + 1) W5 v xs := RW.out.go HY5.out.2.2.1 (by omega)
      have RWY : Rw (q + 1) Y v xs := RW5.go (b := b) (grown_low bY) (by omega)
      have RWR : Hid (Rw (q + 1) (Y.alloc (.cells #[.int .u8 yk, .string (Ln.bs yt), .int .i64 yn, .slice ya yL yc] 26)) v xs) := RWY.go (b := b) (grown_low bR) (by omega)
      have BQR : Hid ((Y.alloc (.cells #[.int .u8 yk, .string (Ln.bs yt), .int .i64 yn, .slice ya yL yc] 26)).heap[q]? = some (.cells #[.int .u8 5, .string ⟨#[]⟩, .int .i64 0, v] 26 (0, 0))) := (bR.block q (Array.getElem?_eq_some_iff.1 BQY).1).trans BQY
      have vY : Y.cell? ⟨q, 3, none⟩ = some v := cells_at BQY rfl
      have vR : (Y.alloc (.cells #[.int .u8 yk, .string (Ln.bs yt), .int .i64 yn, .slice ya yL yc] 26)).cell? ⟨q, 3, none⟩ = some v := cells_at BQR.out rfl
      have FRR : Hid (Frm w b (Y.alloc (.cells #[.int .u8 yk, .string (Ln.bs yt), .int .i64 yn, .slice ya yL yc] 26))) := (FR5.out.below bY).below bR
      have PAR : Hid (RAt b L (s3) (Y.alloc (.cells #[.int .u8 yk, .string (Ln.bs yt), .int .i64 yn, .slice ya yL yc] 26))) := (HY5.out.2.2.2.below bY).below bR
      have GRR : Hid (w8.grownBy (Y.alloc (.cells #[.int .u8 yk, .string (Ln.bs yt), .int .i64 yn, .slice ya yL yc] 26)) (some b)) := grown_below (grown_below HY5.out.2.2.1 bY) bR
      have RYR : Hid (RowR (newS w8.heap.size (Y.alloc (.cells #[.int .u8 yk, .string (Ln.bs yt), .int .i64 yn, .slice ya yL yc] 26)).heap.size) (Y.alloc (.cells #[.int .u8 yk, .string (Ln.bs yt), .int .i64 yn, .slice ya yL yc] 26)) (.slice ya yL yc) ykids) := HY5.out.2.1.keep (fun k hk => (bR.block k (Nat.lt_of_lt_of_le hk.2 bY.size)).trans (bY.block k hk.2)) (fun _ hk => ⟨hk.1, Nat.lt_of_lt_of_le (Nat.lt_of_lt_of_le hk.2 bY.size) bR.size⟩)
      have HQS : Hid (q + 1 ≤ (Y.alloc (.cells #[.int .u8 yk, .string (Ln.bs yt), .int .i64 yn, .slice ya yL yc] 26)).heap.size) := by have := (Array.getElem?_eq_some_iff.1 BQR.out).1; exact this
      have HQW : Hid (q + 1 ≤ w8.heap.size) := hqw
      have HYF : Hid ((⟨yk, yt, yn, .slice ya yL yc, ykids⟩ : N1).Fit) := HY5.out.1
      clear BQY RW5 RWY bY bR HY5 FR5 BQ5 HYN hq5
      go_wp2_with (at_builtin; refine wpList_append_own_at _ rfl _ _ 24 rfl (q + 1) 26 i0 (.agg #[.int .u8 0, .string ⟨#[]⟩, .int .i64 0, .slice none 0 0]) 4 56 Tryz.underlying24 hi0 hz0 hz1 hz2 rfl (by decide) _ _ _ rfl RWR.out.own ⟨W5.heap.size + 1, 0, none⟩ 1 1 [.int .u8 yk, .string (Ln.bs yt), .int .i64 yn, .slice ya yL yc] rfl rfl SRC.out (by simp [Value.oneCell']) (by unfold maxLen; omega) (by omega) HQS.out ?_; intro v' W' hown' hgr _ hat; have BQN := box_rowed BQR.out RWR.out.own hgr (Nat.lt_succ_self q); have vc : W'.cell? ⟨q, 3, none⟩ = some v := cells_at BQN rfl; have vf : W'.frozen? ⟨q, 3, none⟩ = false := frozen_of_row W' _ 3 _ _ BQN; have RWN : Hid (Rw (q + 1) W' v' (xs ++ [⟨yk, yt, yn, .slice ya yL yc, ykids⟩])) := Rw.app RW.out GRR.out (by omega) HYF.out RYR.out HQW.out hown' hgr hat; have FRN : Hid (Frm w b W') := FRR.out.rowed RWR.out.own hgr (by omega); have PAN : Hid (RAt b L (s3) W') := PAR.out.rowed RWR.out.own hgr; have HBN : Hid (W'.heap[q]? = some (.cells #[.int .u8 5, .string ⟨#[]⟩, .int .i64 0, v] 26 (0, 0))) := BQN; obtain ⟨va', vc', hv'⟩ := slice_shape hown'; subst hv'; clear hown' hgr hat BQN)
      obtain ⟨Z, hZ⟩ : ∃ Z, Z = W'.setCell ⟨q, 3, none⟩ (.slice va' (xs.length + 1) vc') := ⟨_, rfl⟩
      have gZ : W'.grownBy Z (some q) := by rw [hZ]; exact grown_set W' _ _ _
      have HZ : Hid (Frm w b Z ∧ RAt b L s3 Z ∧ Z.heap[q]? = some (.cells #[.int .u8 5, .string ⟨#[]⟩, .int .i64 0, .slice va' (xs.length + 1) vc'] 26 (0, 0)) ∧ Rw (q + 1) Z (.slice va' (xs.length + 1) vc') (xs ++ [⟨yk, yt, yn, .slice ya yL yc, ykids⟩])) := ⟨FRN.out.set gZ (by omega), PAN.out.beside gZ HBN.out, by rw [hZ]; exact heap_setCell_same W' _ 3 _ _ _ HBN.out, RWN.out.go gZ (by omega)⟩
      clear gZ
      rw [← hZ]
      have hmu := Rs.mu_lt H0.out S3.out
      go_roundg (Rs.mu L s3)
      case measure => omega
      case rel => exact ⟨_, xs ++ [⟨yk, yt, yn, .slice ya yL yc, ykids⟩], s3, rfl, by simp; omega, HZ.out.1, HZ.out.2.1, HZ.out.2.2.1, HZ.out.2.2.2, by have := Rs.Till.blk TL.out H0.out HS.out RY.out; rw [List.map_append]; exact this, (SH.out.trans S3.out).less (by omega)⟩
    · skip
      have HS : Hid (Rs.isB L s2 [125] = true) := hs7
      clear hs7
      have HEN : Hid (s2.E = 0 → Rs.isB L s2 [125] = true) := fun _ => HS.out
      have RB : Hid (_) := Rs.rel_block G0.out (HS1.out ▸ TL.out) HEN.out
      go_wp2_with fail
      have HW10 : Hid (_) := rend_any b L (s2) [125] w8 PA.out GD.out KN.out (by decide) (by decide)
      refine Calls.mono HW10.out ?_
      rintro e w11 ⟨rfl, hst12⟩
      replace BQ : Hid (w11.heap[q]? = some (.cells #[.int .u8 5, .string ⟨#[]⟩, .int .i64 0, v] 26 (0, 0))) := (hst12.1.block q (Array.getElem?_eq_some_iff.1 BQ.out).1 (by have := FR.out.low; simp; omega)).trans BQ.out
      replace RW : Hid (Rw (q + 1) w11 v xs) := RW.out.go hst12.1 (by have := FR.out.low; omega)
      replace FR : Hid (Frm w b w11) := FR.out.go hst12.1
      replace PA : Hid (RAt b L (Rs.endd L s2 [125]) w11) := hst12.2
      clear HW10 hst12
      have NZ : NF w w11 ⟨5, [], 0, v, xs.map N1.tr⟩ [] := RW.out.nf (by omega) (by omega) 5 (by omega)
      have d0 : w11.cell? ⟨q, 0, none⟩ = some (.int .u8 5) := cells_at BQ.out rfl
      have d1 : w11.cell? ⟨q, 1, none⟩ = some (.string ⟨#[]⟩) := cells_at BQ.out rfl
      have d2 : w11.cell? ⟨q, 2, none⟩ = some (.int .i64 0) := cells_at BQ.out rfl
      have d3 : w11.cell? ⟨q, 3, none⟩ = some (v) := cells_at BQ.out rfl
      obtain ⟨va, vc, hv⟩ := slice_shape RW.out.own
      obtain ⟨vL, hvL⟩ : ∃ N, N = xs.length := ⟨_, rfl⟩
      rw [← hvL] at hv
      subst hv
      have Nz : Hid (_) := NZ
      clear NZ hvL
      obtain ⟨p0, p1, p2, p3, pf, Z, hZ, ⟨r0, r1, r2, r3⟩, z1, z2, z3⟩ := FR.out.finR PA.out Nz.out
      have HF : Hid (w.grownBy Z (some b) ∧ REnd L .block b s w (.returned (.agg #[.int .u8 5, .string (Ln.bs []), .int .i64 0, .slice va vL vc])) Z) := ⟨z1, _, _, _, rfl, z2, RB.out, z3⟩
      clear z1 z2 z3 
      rw [show Ln.bs [] = (⟨#[]⟩ : ByteArray) from rfl] at p2 p3 hZ r1 HF
      go_wp2
      rw [← hZ]
      refine bodyPost_ret (v := .agg #[.int .u8 5, .string ⟨#[]⟩, .int .i64 0, .slice va vL vc]) (by simp [results, Tryz.results42, go_sem, r0, r1, r2, r3]) rfl HF.out
end Go.Proofs.YtfegodofbdlbeaaGreatDoor

/-
  The walk of the reader's call: a row of expressions, in a node's box.
-/
import Derived.Test.YtfegodofbdlbeaaGreatDoorRsBlock
namespace Go.Proofs.YtfegodofbdlbeaaGreatDoor
open Go.RowKit Go.Shelf
open Rs (St)

attribute [local go_sem] Oper.semAt_some

theorem Rw.nfT {w W : World} {a : Nat} {v : Value} {xs : List N1} (h : Rw a W v xs) (hl : xs.length ≤ 1000000000) (ha : w.heap.size < a) (k : Int) (tx : List UInt8) (hk : 0 ≤ k ∧ k ≤ 255) (ht : tx.length ≤ 1000000) : NF w W ⟨k, tx, 0, v, xs.map N1.tr⟩ [] :=
  ⟨fit_of k tx _ _ hk ht, (h.row hl (Nat.le_refl a)).mono (fun q hq => ⟨by have := hq.1; omega, hq.2, fun e => by cases e⟩)⟩

set_option maxRecDepth 100000 in
set_option maxHeartbeats 8000000 in
theorem rcall_of (m : Nat) (nm : List UInt8) (hnm : nm.length ≤ 1000000) (hor : ∀ m', m = m' + 1 → RDo 90 (.bin 0) [] m') : RDo 93 (.call nm) [.string (Ln.bs nm)] m := by
  intro b L s w hK hG hR hm
  obtain ⟨A, hA⟩ : ∃ A, A = w.alloc (.cells #[.int .u8 0, .string ⟨#[]⟩, .int .i64 0, .slice none 0 0] 26) := ⟨_, rfl⟩
  have FR : Hid (Frm w b A) := hA ▸ RFrm.new hR
  have PA : Hid (RAt b L (s) A) := hA ▸ hR.below (below_new w _)
  have KN : Hid (Known L) := hK
  have GD : Hid (Rs.Good L (s)) := hG
  have G0 : Hid (Rs.Good L s) := hG
  have HM : Hid (s.E = 0 → (Rs.rest L s).length ≤ m) := hm
  have Hhor : Hid (∀ m', m = m' + 1 → RDo 90 (.bin 0) [] m') := hor
  clear hR hK hG hm hor
  obtain ⟨i0, hi0, hz0, hz1, hz2⟩ := info_parts info_node
  go_enter Tryz.func93, Tryz.ntmps93
  have hlen := PA.out.len
  have hwA : w.heap.size < A.heap.size := FR.out.lt
  have sz1 : A.heap.size = w.heap.size + 1 := by rw [hA, World.size_alloc]
  obtain ⟨V2, hV2⟩ : ∃ V, V = A.alloc (.cells #[.int .u8 25, .string (Ln.bs nm), .int .i64 0, .slice none 0 0] 26) := ⟨_, rfl⟩
  have bV2 : Below A.heap.size A V2 := hV2 ▸ below_new A _
  have BQ : Hid (V2.heap[A.heap.size]? = some (.cells #[.int .u8 25, .string (Ln.bs nm), .int .i64 0, .slice none 0 0] 26 (0, 0))) := by rw [Hid, hV2]; exact World.alloc_heap_new A _
  rw [sz1] at BQ hwA
  replace FR : Hid (Frm w b V2) := FR.out.go (grown_low bV2)
  replace PA : Hid (RAt b L (s) V2) := PA.out.below bV2
  clear bV2 sz1
  obtain ⟨q, hq⟩ : ∃ q, q = w.heap.size + 1 := ⟨_, rfl⟩
  rw [← hq] at BQ hwA
  go_wp2_with fail
  rw [← hA, ← hV2]
  clear hA hV2
  rw [← hq]
  clear hq
  have HW3 : Hid (_) := rbegin_any b L (s) [40] V2 PA.out GD.out KN.out (by decide)
  refine Calls.mono HW3.out ?_
  rintro e w4 ⟨rfl, hst5⟩
  replace BQ : Hid (w4.heap[q]? = some (.cells #[.int .u8 25, .string (Ln.bs nm), .int .i64 0, .slice none 0 0] 26 (0, 0))) := (hst5.1.block q (Array.getElem?_eq_some_iff.1 BQ.out).1 (by have := FR.out.low; simp; omega)).trans BQ.out
  replace FR : Hid (Frm w b w4) := FR.out.go hst5.1
  replace PA : Hid (RAt b L (Rs.begin L (s) [40]) w4) := hst5.2
  clear HW3 hst5
  replace GD : Hid (Rs.Good L (Rs.begin L (s) [40])) := Rs.begin_good GD.out (by decide)
  obtain ⟨s1, hs1⟩ : ∃ s1, s1 = Rs.begin L s [40] := ⟨_, rfl⟩
  have HS1 : Hid (s1 = Rs.begin L s [40]) := hs1
  rw [← hs1] at PA GD
  clear hs1
  go_wp2_with fail
  have HI6 : Hid (_) := ris_any b L s1 [41] w4 PA.out GD.out KN.out (by decide)
  refine Calls.mono HI6.out ?_
  rintro e w7 ⟨rfl, hb8⟩
  replace BQ : Hid (w7.heap[q]? = some (.cells #[.int .u8 25, .string (Ln.bs nm), .int .i64 0, .slice none 0 0] 26 (0, 0))) := (hb8.block q (Array.getElem?_eq_some_iff.1 BQ.out).1).trans BQ.out
  replace FR : Hid (Frm w b w7) := FR.out.go (grown_low hb8)
  replace PA : Hid (RAt b L (s1) w7) := PA.out.below hb8
  clear HI6 hb8
  have ST : Hid (Frm w b w7 ∧ RAt b L s1 w7 ∧ w7.heap[q]? = some (.cells #[.int .u8 25, .string (Ln.bs nm), .int .i64 0, .slice none 0 0] 26 (0, 0)) ∧ Rw (q + 1) w7 (.slice none 0 0) [] ∧ Rs.Tills L (Rs.Ins false) s1 (Rs.Nxt false (!Rs.isB L s1 [41]) (([] : List N1).map N1.tr)) s1 ∧ Rs.Sh L s1 s1 0) := ⟨FR.out, PA.out, BQ.out, Rw.nil _ _, Rs.list_start GD.out, Rs.Sh.refl s1⟩
  clear FR PA BQ GD
  go_wp2
  go_loopg [6] (Rs.mu L s1) (fun g sm wr => ∃ (more : Bool) (v : Value) (xs : List N1) (s2 : St), sm = .bool more ∧ g = Rs.mu L s2 ∧ xs.length + Rs.mu L s2 ≤ 100000001 ∧ Frm w b wr ∧ RAt b L s2 wr ∧ wr.heap[q]? = some (.cells #[.int .u8 25, .string (Ln.bs nm), .int .i64 0, v] 26 (0, 0)) ∧ Rw (q + 1) wr v xs ∧ Rs.Tills L (Rs.Ins false) s1 (Rs.Nxt false more (xs.map N1.tr)) s2 ∧ Rs.Sh L s1 s2 0)
  case atStart => exact ⟨_, _, [], s1, rfl, rfl, by have := Rs.mu_le L s1; simp; omega, ST.out⟩
  case round =>
    clear ST
    obtain ⟨more, v, xs, s2, rfl, hgk, hxl, hF, hP, hB, hRw, hT, hSh⟩ := hrel
    have FR : Hid (Frm w b wr) := hF
    have PA : Hid (RAt b L (s2) wr) := hP
    have BQ : Hid (wr.heap[q]? = some (.cells #[.int .u8 25, .string (Ln.bs nm), .int .i64 0, v] 26 (0, 0))) := hB
    have RW : Hid (Rw (q + 1) wr v xs) := hRw
    have TL : Hid (Rs.Tills L (Rs.Ins false) s1 (Rs.Nxt false more (xs.map N1.tr)) s2) := hT
    have SH : Hid (Rs.Sh L s1 s2 0) := hSh
    have GD : Hid (Rs.Good L (s2)) := hT.good
    have GL : Hid (Rs.Good L s2) := hT.good
    clear hF hP hB hRw hT hSh
    cases more
    · skip
      have HEN : Hid (s2.E = 0 → false = false) := fun _ => rfl
      have RB : Hid (_) := Rs.rel_callof (nm := nm) (Rs.rel_listed G0.out (HS1.out ▸ TL.out) HEN.out)
      go_wp2_with fail
      have HW9 : Hid (_) := rend_any b L (s2) [41] wr PA.out GD.out KN.out (by decide) (by decide)
      refine Calls.mono HW9.out ?_
      rintro e w10 ⟨rfl, hst11⟩
      replace BQ : Hid (w10.heap[q]? = some (.cells #[.int .u8 25, .string (Ln.bs nm), .int .i64 0, v] 26 (0, 0))) := (hst11.1.block q (Array.getElem?_eq_some_iff.1 BQ.out).1 (by have := FR.out.low; simp; omega)).trans BQ.out
      replace RW : Hid (Rw (q + 1) w10 v xs) := RW.out.go hst11.1 (by have := FR.out.low; omega)
      replace FR : Hid (Frm w b w10) := FR.out.go hst11.1
      replace PA : Hid (RAt b L (Rs.endd L s2 [41]) w10) := hst11.2
      clear HW9 hst11
      have NZ : NF w w10 ⟨25, nm, 0, v, xs.map N1.tr⟩ [] := RW.out.nfT (by omega) (by omega) 25 nm (by omega) hnm
      have d0 : w10.cell? ⟨q, 0, none⟩ = some (.int .u8 25) := cells_at BQ.out rfl
      have d1 : w10.cell? ⟨q, 1, none⟩ = some (.string (Ln.bs nm)) := cells_at BQ.out rfl
      have d2 : w10.cell? ⟨q, 2, none⟩ = some (.int .i64 0) := cells_at BQ.out rfl
      have d3 : w10.cell? ⟨q, 3, none⟩ = some (v) := cells_at BQ.out rfl
      obtain ⟨va, vc, hv⟩ := slice_shape RW.out.own
      obtain ⟨vL, hvL⟩ : ∃ N, N = xs.length := ⟨_, rfl⟩
      rw [← hvL] at hv
      subst hv
      have Nz : Hid (_) := NZ
      clear NZ hvL
      obtain ⟨p0, p1, p2, p3, pf, Z, hZ, ⟨r0, r1, r2, r3⟩, z1, z2, z3⟩ := FR.out.finR PA.out Nz.out
      have HF : Hid (w.grownBy Z (some b) ∧ REnd L (.call nm) b s w (.returned (.agg #[.int .u8 25, .string (Ln.bs nm), .int .i64 0, .slice va vL vc])) Z) := ⟨z1, _, _, _, rfl, z2, RB.out, z3⟩
      clear z1 z2 z3 
      go_wp2
      rw [← hZ]
      refine bodyPost_ret (v := .agg #[.int .u8 25, .string (Ln.bs nm), .int .i64 0, .slice va vL vc]) (by simp [results, Tryz.results93, go_sem, r0, r1, r2, r3]) rfl HF.out
    · skip
      have c3 := rcell3 PA.out GD.out
      by_cases hE : ¬ s2.E = 0
      case pos =>
        have e0 : ((s2.E : Int) == 0) = false := by simpa using hE
        have HD : Hid (s2.E ≠ 0) := hE
        clear hE
        have HEN : Hid (s2.E = 0 → true = false) := fun h => absurd h HD.out
        have RB : Hid (_) := Rs.rel_callof (nm := nm) (Rs.rel_listed G0.out (HS1.out ▸ TL.out) HEN.out)
        go_wp2_with fail
        have HW9 : Hid (_) := rend_any b L (s2) [41] wr PA.out GD.out KN.out (by decide) (by decide)
        refine Calls.mono HW9.out ?_
        rintro e w10 ⟨rfl, hst11⟩
        replace BQ : Hid (w10.heap[q]? = some (.cells #[.int .u8 25, .string (Ln.bs nm), .int .i64 0, v] 26 (0, 0))) := (hst11.1.block q (Array.getElem?_eq_some_iff.1 BQ.out).1 (by have := FR.out.low; simp; omega)).trans BQ.out
        replace RW : Hid (Rw (q + 1) w10 v xs) := RW.out.go hst11.1 (by have := FR.out.low; omega)
        replace FR : Hid (Frm w b w10) := FR.out.go hst11.1
        replace PA : Hid (RAt b L (Rs.endd L s2 [41]) w10) := hst11.2
        clear HW9 hst11
        have NZ : NF w w10 ⟨25, nm, 0, v, xs.map N1.tr⟩ [] := RW.out.nfT (by omega) (by omega) 25 nm (by omega) hnm
        have d0 : w10.cell? ⟨q, 0, none⟩ = some (.int .u8 25) := cells_at BQ.out rfl
        have d1 : w10.cell? ⟨q, 1, none⟩ = some (.string (Ln.bs nm)) := cells_at BQ.out rfl
        have d2 : w10.cell? ⟨q, 2, none⟩ = some (.int .i64 0) := cells_at BQ.out rfl
        have d3 : w10.cell? ⟨q, 3, none⟩ = some (v) := cells_at BQ.out rfl
        obtain ⟨va, vc, hv⟩ := slice_shape RW.out.own
        obtain ⟨vL, hvL⟩ : ∃ N, N = xs.length := ⟨_, rfl⟩
        rw [← hvL] at hv
        subst hv
        have Nz : Hid (_) := NZ
        clear NZ hvL
        obtain ⟨p0, p1, p2, p3, pf, Z, hZ, ⟨r0, r1, r2, r3⟩, z1, z2, z3⟩ := FR.out.finR PA.out Nz.out
        have HF : Hid (w.grownBy Z (some b) ∧ REnd L (.call nm) b s w (.returned (.agg #[.int .u8 25, .string (Ln.bs nm), .int .i64 0, .slice va vL vc])) Z) := ⟨z1, _, _, _, rfl, z2, RB.out, z3⟩
        clear z1 z2 z3 
        go_wp2
        rw [← hZ]
        refine bodyPost_ret (v := .agg #[.int .u8 25, .string (Ln.bs nm), .int .i64 0, .slice va vL vc]) (by simp [results, Tryz.results93, go_sem, r0, r1, r2, r3]) rfl HF.out
      have hE : s2.E = 0 := by simpa using hE
      have e0 : ((s2.E : Int) == 0) = true := by rw [hE]; rfl
      have H0 : Hid (s2.E = 0) := hE
      clear hE
      have SS : Hid (Rs.Sh L s s2 1) := by have := (Rs.begin_sh (t := [40]) G0.out); rw [← HS1.out] at this; exact (this.trans SH.out).less (by omega)
      have hm1 := SS.out H0.out
      have hm2 := HM.out hm1.1
      have HOR : Hid (RDo 90 (.bin 0) [] (m - 1)) := Hhor.out (m - 1) (by omega)
      have HB : Hid ((Rs.rest L s2).length ≤ m - 1) := by show _ ≤ _; omega
      clear hm1 hm2
      have hqw : q < wr.heap.size := (Array.getElem?_eq_some_iff.1 BQ.out).1
      go_wp2_with fail
      clear c3 e0
      have HC : Hid (_) := HOR.out b L s2 wr KN.out GD.out PA.out (fun _ => HB.out)
      refine Calls.mono HC.out ?_
      rintro e W5 ⟨hg5, ty, v9, s3, rfl, ra5, rel5, nd5⟩
      obtain ⟨⟨yk, yt, yn, yv, ykids⟩, rfl, rfl, yf, yr⟩ := nd5
      obtain ⟨ya, yc, hyv⟩ := yr.slice
      simp only at hyv
      subst hyv
      obtain ⟨yL, hyL⟩ : ∃ N, N = ykids.length := ⟨_, rfl⟩
      simp only [N1.cells]
      rw [← hyL] at yf yr ⊢
      clear hyL
      have FR5 : Hid (Frm w b W5) := FR.out.go hg5
      have BQ5 : Hid (W5.heap[q]? = some (.cells #[.int .u8 25, .string (Ln.bs nm), .int .i64 0, v] 26 (0, 0))) := (hg5.block q (Array.getElem?_eq_some_iff.1 BQ.out).1 (by have := FR.out.low; simp; omega)).trans BQ.out
      have HY5 : Hid ((⟨yk, yt, yn, .slice ya yL yc, ykids⟩ : N1).Fit ∧ RowR (newS wr.heap.size W5.heap.size) W5 (.slice ya yL yc) ykids ∧ wr.grownBy W5 (some b) ∧ RAt b L s3 W5) := ⟨yf, yr, hg5, ra5⟩
      have RY : Hid (Rs.Rel L (Rs.item false) s2 (.mk yk yt yn ykids) s3) := rel5
      have G3 : Hid (Rs.Good L s3) := rel5.good
      have S3 : Hid (Rs.Sh L s2 s3 1) := Rs.rel_shs (J := .bin 0) trivial trivial rel5
      clear hg5 ra5 rel5 yf yr HC
      obtain ⟨Y, hY⟩ : ∃ Y, Y = W5.alloc (.cells #[.int .u8 yk, .string (Ln.bs yt), .int .i64 yn, .slice ya yL yc] 26) := ⟨_, rfl⟩
      have bY : Below W5.heap.size W5 Y := hY ▸ below_new W5 _
      have HYN : Hid (Y.heap[W5.heap.size]? = some (.cells #[.int .u8 yk, .string (Ln.bs yt), .int .i64 yn, .slice ya yL yc] 26 (0, 0))) := by rw [Hid, hY]; exact World.alloc_heap_new W5 _
      go_upto_region 6 with fail
      rw [← hY]
      have sY : Y.heap.size = W5.heap.size + 1 := by rw [hY, World.size_alloc]
      clear hY
      have f0 : Y.cell? ⟨W5.heap.size, 0, none⟩ = some (.int .u8 yk) := cells_at HYN.out rfl
      have f1 : Y.cell? ⟨W5.heap.size, 1, none⟩ = some (.string (Ln.bs yt)) := cells_at HYN.out rfl
      have f2 : Y.cell? ⟨W5.heap.size, 2, none⟩ = some (.int .i64 yn) := cells_at HYN.out rfl
      have f3 : Y.cell? ⟨W5.heap.size, 3, none⟩ = some (.slice ya yL yc) := cells_at HYN.out rfl
      have bR := below_nw Y (.cells #[.int .u8 yk, .string (Ln.bs yt), .int .i64 yn, .slice ya yL yc] 26)
      have SRC : Hid (_) := cells_new Y [.int .u8 yk, .string (Ln.bs yt), .int .i64 yn, .slice ya yL yc] 26
      rw [sY] at SRC
      have BQY : Y.heap[q]? = some (.cells #[.int .u8 25, .string (Ln.bs nm), .int .i64 0, v] 26 (0, 0)) := (bY.block q (Array.getElem?_eq_some_iff.1 BQ5.out).1).trans BQ5.out
      have hlow := FR5.out.low
      have hq5 : wr.heap.size ≤ W5.heap.size := HY5.out.2.2.1.size
      have RW5 : Rw (q + 1) W5 v xs := RW.out.go HY5.out.2.2.1 (by omega)
      have RWY : Rw (q + 1) Y v xs := RW5.go (b := b) (grown_low bY) (by omega)
      have RWR : Hid (Rw (q + 1) (Y.alloc (.cells #[.int .u8 yk, .string (Ln.bs yt), .int .i64 yn, .slice ya yL yc] 26)) v xs) := RWY.go (b := b) (grown_low bR) (by omega)
      have BQR : Hid ((Y.alloc (.cells #[.int .u8 yk, .string (Ln.bs yt), .int .i64 yn, .slice ya yL yc] 26)).heap[q]? = some (.cells #[.int .u8 25, .string (Ln.bs nm), .int .i64 0, v] 26 (0, 0))) := (bR.block q (Array.getElem?_eq_some_iff.1 BQY).1).trans BQY
      have vY : Y.cell? ⟨q, 3, none⟩ = some v := cells_at BQY rfl
      have vR : (Y.alloc (.cells #[.int .u8 yk, .string (Ln.bs yt), .int .i64 yn, .slice ya yL yc] 26)).cell? ⟨q, 3, none⟩ = some v := cells_at BQR.out rfl
      have FRR : Hid (Frm w b (Y.alloc (.cells #[.int .u8 yk, .string (Ln.bs yt), .int .i64 yn, .slice ya yL yc] 26))) := (FR5.out.below bY).below bR
      have PAR : Hid (RAt b L (s3) (Y.alloc (.cells #[.int .u8 yk, .string (Ln.bs yt), .int .i64 yn, .slice ya yL yc] 26))) := (HY5.out.2.2.2.below bY).below bR
      have GRR : Hid (wr.grownBy (Y.alloc (.cells #[.int .u8 yk, .string (Ln.bs yt), .int .i64 yn, .slice ya yL yc] 26)) (some b)) := grown_below (grown_below HY5.out.2.2.1 bY) bR
      have RYR : Hid (RowR (newS wr.heap.size (Y.alloc (.cells #[.int .u8 yk, .string (Ln.bs yt), .int .i64 yn, .slice ya yL yc] 26)).heap.size) (Y.alloc (.cells #[.int .u8 yk, .string (Ln.bs yt), .int .i64 yn, .slice ya yL yc] 26)) (.slice ya yL yc) ykids) := HY5.out.2.1.keep (fun k hk => (bR.block k (Nat.lt_of_lt_of_le hk.2 bY.size)).trans (bY.block k hk.2)) (fun _ hk => ⟨hk.1, Nat.lt_of_lt_of_le (Nat.lt_of_lt_of_le hk.2 bY.size) bR.size⟩)
      have HQS : Hid (q + 1 ≤ (Y.alloc (.cells #[.int .u8 yk, .string (Ln.bs yt), .int .i64 yn, .slice ya yL yc] 26)).heap.size) := by have := (Array.getElem?_eq_some_iff.1 BQR.out).1; exact this
      have HQW : Hid (q + 1 ≤ wr.heap.size) := hqw
      have HYF : Hid ((⟨yk, yt, yn, .slice ya yL yc, ykids⟩ : N1).Fit) := HY5.out.1
      clear BQY RW5 RWY bY bR HY5 FR5 BQ5 HYN hq5
      go_wp2_with (at_builtin; refine wpList_append_own_at _ rfl _ _ 24 rfl (q + 1) 26 i0 (.agg #[.int .u8 0, .string ⟨#[]⟩, .int .i64 0, .slice none 0 0]) 4 56 Tryz.underlying24 hi0 hz0 hz1 hz2 rfl (by decide) _ _ _ rfl RWR.out.own ⟨W5.heap.size + 1, 0, none⟩ 1 1 [.int .u8 yk, .string (Ln.bs yt), .int .i64 yn, .slice ya yL yc] rfl rfl SRC.out (by simp [Value.oneCell']) (by unfold maxLen; omega) (by omega) HQS.out ?_; intro v' W' hown' hgr _ hat; have BQN := box_rowed BQR.out RWR.out.own hgr (Nat.lt_succ_self q); have vc : W'.cell? ⟨q, 3, none⟩ = some v := cells_at BQN rfl; have vf : W'.frozen? ⟨q, 3, none⟩ = false := frozen_of_row W' _ 3 _ _ BQN; have RWN : Hid (Rw (q + 1) W' v' (xs ++ [⟨yk, yt, yn, .slice ya yL yc, ykids⟩])) := Rw.app RW.out GRR.out (by omega) HYF.out RYR.out HQW.out hown' hgr hat; have FRN : Hid (Frm w b W') := FRR.out.rowed RWR.out.own hgr (by omega); have PAN : Hid (RAt b L (s3) W') := PAR.out.rowed RWR.out.own hgr; have HBN : Hid (W'.heap[q]? = some (.cells #[.int .u8 25, .string (Ln.bs nm), .int .i64 0, v] 26 (0, 0))) := BQN; obtain ⟨va', vc', hv'⟩ := slice_shape hown'; subst hv'; clear hown' hgr hat BQN)
      obtain ⟨Z, hZ⟩ : ∃ Z, Z = W'.setCell ⟨q, 3, none⟩ (.slice va' (xs.length + 1) vc') := ⟨_, rfl⟩
      have gZ : W'.grownBy Z (some q) := by rw [hZ]; exact grown_set W' _ _ _
      have FR : Hid (Frm w b Z) := FRN.out.set gZ (by omega)
      have PA : Hid (RAt b L (s3) Z) := PAN.out.beside gZ HBN.out
      have BQ : Hid (Z.heap[q]? = some (.cells #[.int .u8 25, .string (Ln.bs nm), .int .i64 0, .slice va' (xs.length + 1) vc'] 26 (0, 0))) := by rw [Hid, hZ]; exact heap_setCell_same W' _ 3 _ _ _ HBN.out
      have RW2 : Hid (Rw (q + 1) Z (.slice va' (xs.length + 1) vc') (xs ++ [⟨yk, yt, yn, .slice ya yL yc, ykids⟩])) := RWN.out.go gZ (by omega)
      have GD : Hid (Rs.Good L (s3)) := G3.out
      rw [← hZ]
      clear gZ hZ FRN PAN HBN RWN vc vf
      have HI9 : Hid (_) := ris_any b L s3 [44] Z PA.out GD.out KN.out (by decide)
      refine Calls.mono HI9.out ?_
      rintro e w9 ⟨rfl, hb9⟩
      replace BQ : Hid (w9.heap[q]? = some (.cells #[.int .u8 25, .string (Ln.bs nm), .int .i64 0, .slice va' (xs.length + 1) vc'] 26 (0, 0))) := (hb9.block q (Array.getElem?_eq_some_iff.1 BQ.out).1).trans BQ.out
      replace RW2 : Hid (Rw (q + 1) w9 (.slice va' (xs.length + 1) vc') (xs ++ [⟨yk, yt, yn, .slice ya yL yc, ykids⟩])) := RW2.out.go (b := b) (grown_low hb9) (by have := FR.out.low; omega)
      replace FR : Hid (Frm w b w9) := FR.out.go (grown_low hb9)
      replace PA : Hid (RAt b L (s3) w9) := PA.out.below hb9
      clear HI9 hb9
      have hmu := Rs.mu_lt H0.out S3.out
      cases hs9 : Rs.isB L s3 [44]
      · skip
        have TN : Hid (_) := Rs.list_item TL.out H0.out RY.out hs9
        clear hs9
        go_wp2
        go_roundg (Rs.mu L s3)
        case measure => omega
        case rel => exact ⟨false, _, _, s3, rfl, rfl, by simp; omega, FR.out, PA.out, BQ.out, RW2.out, by have := TN.out; rw [List.map_append]; exact this, (SH.out.trans S3.out).less (by omega)⟩
      · skip
        have TN : Hid (_) := Rs.list_comma TL.out H0.out RY.out hs9
        have GA : Hid (Rs.Good L (Rs.adv s3)) := Rs.isB_good G3.out hs9 (by decide)
        have SA : Hid (Rs.Sh L s2 (Rs.adv s3) 1) := (S3.out.trans (Rs.adv_sh G3.out)).less (by omega)
        clear hs9
        obtain ⟨k1, k2, k3, Y9, hY9, st⟩ := radv PA.out GD.out
        replace BQ : Hid (Y9.heap[q]? = some (.cells #[.int .u8 25, .string (Ln.bs nm), .int .i64 0, .slice va' (xs.length + 1) vc'] 26 (0, 0))) := (st.1.block q (Array.getElem?_eq_some_iff.1 BQ.out).1 (by have := FR.out.low; simp; omega)).trans BQ.out
        replace RW2 : Hid (Rw (q + 1) Y9 (.slice va' (xs.length + 1) vc') (xs ++ [⟨yk, yt, yn, .slice ya yL yc, ykids⟩])) := RW2.out.go st.1 (by have := FR.out.low; omega)
        replace FR : Hid (Frm w b Y9) := FR.out.go st.1
        replace PA : Hid (RAt b L (Rs.adv (s3)) Y9) := st.2
        clear st
        go_wp2
        rw [← hY9]
        have hmv := Rs.mu_lt H0.out SA.out
        go_roundg (Rs.mu L (Rs.adv s3))
        case measure => omega
        case rel => exact ⟨true, _, _, Rs.adv s3, rfl, rfl, by simp; omega, FR.out, PA.out, BQ.out, RW2.out, by have := TN.out; rw [List.map_append]; exact this, (SH.out.trans SA.out).less (by omega)⟩
end Go.Proofs.YtfegodofbdlbeaaGreatDoor

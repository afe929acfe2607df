/-
  The walk of the reader's function: parameters, a block.
-/
import Derived.Test.YtfegodofbdlbeaaGreatDoorRsStmt
namespace Go.Proofs.YtfegodofbdlbeaaGreatDoor
open Go.RowKit Go.Shelf
open Rs (St)

attribute [local go_sem] Oper.semAt_some

theorem Rw.nfX {w W : World} {a : Nat} {v : Value} {xs : List N1} {X : List Nat} (h : Rw a W v xs) (hl : xs.length ≤ 1000000000) (ha : w.heap.size < a) (k : Int) (tx : List UInt8) (hk : 0 ≤ k ∧ k ≤ 255) (ht : tx.length ≤ 1000000) (hX : ∀ x ∈ X, x < a) : NF w W ⟨k, tx, 0, v, xs.map N1.tr⟩ X :=
  ⟨fit_of k tx _ _ hk ht, (h.row hl (Nat.le_refl a)).mono (fun q hq => ⟨by have := hq.1; omega, hq.2, fun e => by have := hX _ e; have := hq.1; omega⟩)⟩
namespace Rs
open Ps (R Eats go)
theorem Tills.bndL {L : List Lx.Tok} {s s' s0 : St} {p : Bool} {acc : List Tr} {G : List Lx.Tok → Nat → R → Prop} {K : Nat → List Tr → List Lx.Tok → Nat → Option R} (h : Tills L G s0 (Ev fun m l lv => Ps.bnd (go m (.listed p) l lv) fun x l => K m x l lv) s) (hr : RelL L p s acc s') : Tills L G s0 (Ev fun m l lv => K m acc l lv) s' := by
  refine ⟨hr.good, h.kept.trans hr.kept, fun h0 => ?_⟩
  rcases h.live h0 with ⟨e, g⟩ | ⟨e, o, hq⟩
  · obtain ⟨k1, k2⟩ := hr.kept e
    exact .inl ⟨by rw [k1]; exact e, by rw [k1, k2]; exact g⟩
  · rcases hr.live e with ⟨e3, k, hk⟩ | ⟨e3, o3, k, hk⟩
    · exact .inl ⟨e3, hq _ ⟨k, fun m hm => by dsimp only; rw [Ps.go_le hm hk]; rfl⟩⟩
    · refine .inr ⟨e3, o3.trans o, fun q ⟨n, hn⟩ => hq q ⟨max k n, fun m hm => ?_⟩⟩
      have := hn m (by omega)
      rw [o3] at this
      dsimp only
      rw [Ps.go_le (show k ≤ m by omega) hk]
      exact this
theorem func_start {L : List Lx.Tok} {s : St} (hg : Good L s) : Tills L (Eats .func) s (Ev fun m l lv => Ps.want [102, 117, 110, 99] l fun l => Ps.name l fun tx l => Ps.bnd (go m (.listed true) l lv) fun x l => Ps.bnd (go m .block l lv) fun y l => some (.ok [.mk 2 tx 0 (.mk 3 [] 0 x :: y)] l)) s :=
  seq_start hg fun _ n => ⟨n + 1, by rw [go]⟩
end Rs

set_option maxRecDepth 100000 in
set_option maxHeartbeats 8000000 in
theorem rfunction_of (m : Nat) (hbl : RDo 42 .block [] m) : RDo 15 .func [] m := by
  intro b L s w hK hG hR hm
  obtain ⟨A, hA⟩ : ∃ A, A = w.alloc (.cells #[.int .u8 0, .string ⟨#[]⟩, .int .i64 0, .slice none 0 0] 26) := ⟨_, rfl⟩
  have FR : Hid (Frm w b A) := hA ▸ RFrm.new hR
  have PA : Hid (RAt b L (s) A) := hA ▸ hR.below (below_new w _)
  have KN : Hid (Known L) := hK
  have GD : Hid (Rs.Good L (s)) := hG
  have G0 : Hid (Rs.Good L s) := hG
  have HM : Hid (s.E = 0 → (Rs.rest L s).length ≤ m) := hm
  have Hhbl : Hid (RDo 42 .block [] m) := hbl
  clear hR hK hG hm hbl
  obtain ⟨i0, hi0, hz0, hz1, hz2⟩ := info_parts info_node
  go_enter Tryz.func15, Tryz.ntmps15
  have hlen := PA.out.len
  have HM0 : Hid (∀ q, Rs.Sh L s q 0 → q.E = 0 → (Rs.rest L q).length ≤ m) := fun q hq h0 => by have h1 := hq h0; have h2 := HM.out h1.1; omega
  have TT : Hid (_) := Rs.func_start G0.out
  have SH : Hid (Rs.Sh L s s 0) := Rs.Sh.refl s
  have GO : Hid (Rs.Good L (s)) := GD.out
  go_wp2_with fail
  rw [← hA]
  clear hA
  have HW1 : Hid (_) := rwant_any b L (s) [102, 117, 110, 99] A PA.out GD.out KN.out (by decide)
  refine Calls.mono HW1.out ?_
  rintro e w2 ⟨rfl, hst3⟩
  replace FR : Hid (Frm w b w2) := FR.out.go hst3.1
  replace PA : Hid (RAt b L (Rs.want L (s) [102, 117, 110, 99]) w2) := hst3.2
  clear HW1 hst3
  replace GD : Hid (Rs.Good L (Rs.want L (s) [102, 117, 110, 99])) := Rs.want_good GD.out (by decide)
  replace TT : Hid (_) := TT.out.want (t := [102, 117, 110, 99]) (by decide)
  replace SH : Hid (Rs.Sh L s (Rs.want L (s) [102, 117, 110, 99]) 0) := (SH.out.trans (Rs.want_sh GO.out)).less (by omega)
  clear GO
  go_wp2_with fail
  have HTL : Hid ((Rs.kindT L (Rs.want L (s) [102, 117, 110, 99]) 1).length ≤ 1000000) := kindT_len GD.out KN.out
  have HN4 : Hid (_) := rnamed_any 2 b L (Rs.want L (s) [102, 117, 110, 99]) w2 PA.out GD.out KN.out (by omega)
  refine Calls.mono HN4.out ?_
  rintro e w5 ⟨rfl, hst6⟩
  replace SH : Hid (Rs.Sh L s (Rs.kindS L (Rs.want L (s) [102, 117, 110, 99]) 1) 0) := (SH.out.trans (Rs.kindS_sh GD.out)).less (by omega)
  replace TT : Hid (_) := TT.out.name
  replace FR : Hid (Frm w b w5) := FR.out.go hst6.1
  replace PA : Hid (RAt b L (Rs.kindS L (Rs.want L (s) [102, 117, 110, 99]) 1) w5) := hst6.2
  clear HN4 hst6
  replace GD : Hid (Rs.Good L (Rs.kindS L (Rs.want L (s) [102, 117, 110, 99]) 1)) := TT.out.good
  obtain ⟨tx, htx⟩ : ∃ t, t = Rs.kindT L (Rs.want L (s) [102, 117, 110, 99]) 1 := ⟨_, rfl⟩
  rw [← htx] at HTL TT ⊢
  clear htx
  obtain ⟨u, hu⟩ : ∃ u, u = Rs.kindS L (Rs.want L (s) [102, 117, 110, 99]) 1 := ⟨_, rfl⟩
  rw [← hu] at PA GD SH TT
  clear hu
  have Nn : Hid (NF w w5 ⟨2, tx, 0, .slice none 0 0, []⟩ []) := NF.leaf w w5 [] 2 tx 0 (by omega) (HTL.out) (by omega)
  obtain ⟨Y7, hY7⟩ : ∃ V, V = w5.alloc (.cells #[.int .u8 2, .string (Ln.bs tx), .int .i64 0, .slice none 0 0] 26) := ⟨_, rfl⟩
  have bY7 : Below w5.heap.size w5 Y7 := hY7 ▸ below_new w5 _
  have nb : BX w Y7 (w5.heap.size) ⟨2, tx, 0, .slice none 0 0, []⟩ := by rw [hY7]; exact BX.new FR.out ⟨2, tx, 0, .slice none 0 0, []⟩
  replace Nn : Hid (NF w w5 ⟨2, tx, 0, .slice none 0 0, []⟩ [w5.heap.size]) := Nn.out.ex (Nat.le_refl _)
  replace Nn : Hid (NF w Y7 ⟨2, tx, 0, .slice none 0 0, []⟩ [w5.heap.size]) := Nn.out.go (grown_low bY7) FR.out.low
  replace FR : Hid (Frm w b Y7) := FR.out.go (grown_low bY7)
  replace PA : Hid (RAt b L (u) Y7) := PA.out.below bY7
  have Bn : Hid (BX w Y7 (w5.heap.size) ⟨2, tx, 0, .slice none 0 0, []⟩) := nb
  clear nb bY7
  obtain ⟨qf, hqf⟩ : ∃ q, q = w5.heap.size := ⟨_, rfl⟩
  go_upto_region 3 with fail
  rw [← hY7]
  clear hY7
  rw [← hqf] at Bn ⊢
  clear hqf
  obtain ⟨V8, hV8⟩ : ∃ V, V = Y7.alloc (.cells #[.int .u8 3, .string ⟨#[]⟩, .int .i64 0, .slice none 0 0] 26) := ⟨_, rfl⟩
  have bV8 : Below Y7.heap.size Y7 V8 := hV8 ▸ below_new Y7 _
  have BQ : Hid (V8.heap[Y7.heap.size]? = some (.cells #[.int .u8 3, .string ⟨#[]⟩, .int .i64 0, .slice none 0 0] 26 (0, 0))) := by rw [Hid, hV8]; exact World.alloc_heap_new Y7 _
  have hfq : qf < Y7.heap.size := Bn.out.lt
  have hwq : w.heap.size < Y7.heap.size := FR.out.lt
  clear Nn
  replace Bn : Hid (BX w V8 (qf) ⟨2, tx, 0, .slice none 0 0, []⟩) := Bn.out.go (grown_low bV8) FR.out.low
  replace FR : Hid (Frm w b V8) := FR.out.go (grown_low bV8)
  replace PA : Hid (RAt b L (u) V8) := PA.out.below bV8
  clear bV8
  obtain ⟨q, hq⟩ : ∃ q, q = Y7.heap.size := ⟨_, rfl⟩
  rw [← hq] at BQ hfq hwq
  go_wp2_with fail
  rw [← hV8]
  clear hV8
  rw [← hq]
  clear hq
  have GU : Hid (Rs.Good L u) := GD.out
  have HW9 : Hid (_) := rbegin_any b L (u) [40] V8 PA.out GD.out KN.out (by decide)
  refine Calls.mono HW9.out ?_
  rintro e w10 ⟨rfl, hst11⟩
  replace BQ : Hid (w10.heap[q]? = some (.cells #[.int .u8 3, .string ⟨#[]⟩, .int .i64 0, .slice none 0 0] 26 (0, 0))) := (hst11.1.block q (Array.getElem?_eq_some_iff.1 BQ.out).1 (by have := FR.out.low; simp; omega)).trans BQ.out
  replace Bn : Hid (BX w w10 (qf) ⟨2, tx, 0, .slice none 0 0, []⟩) := Bn.out.go hst11.1 FR.out.low
  replace FR : Hid (Frm w b w10) := FR.out.go hst11.1
  replace PA : Hid (RAt b L (Rs.begin L (u) [40]) w10) := hst11.2
  clear HW9 hst11
  replace GD : Hid (Rs.Good L (Rs.begin L (u) [40])) := Rs.begin_good GD.out (by decide)
  obtain ⟨s1, hs1⟩ : ∃ s1, s1 = Rs.begin L u [40] := ⟨_, rfl⟩
  have HS1 : Hid (s1 = Rs.begin L u [40]) := hs1
  rw [← hs1] at PA GD
  clear hs1
  go_wp2_with fail
  have HI12 : Hid (_) := ris_any b L s1 [41] w10 PA.out GD.out KN.out (by decide)
  refine Calls.mono HI12.out ?_
  rintro e w13 ⟨rfl, hb14⟩
  replace BQ : Hid (w13.heap[q]? = some (.cells #[.int .u8 3, .string ⟨#[]⟩, .int .i64 0, .slice none 0 0] 26 (0, 0))) := (hb14.block q (Array.getElem?_eq_some_iff.1 BQ.out).1).trans BQ.out
  replace Bn : Hid (BX w w13 (qf) ⟨2, tx, 0, .slice none 0 0, []⟩) := Bn.out.go (grown_low hb14) FR.out.low
  replace FR : Hid (Frm w b w13) := FR.out.go (grown_low hb14)
  replace PA : Hid (RAt b L (s1) w13) := PA.out.below hb14
  clear HI12 hb14
  have ST : Hid (Frm w b w13 ∧ RAt b L s1 w13 ∧ BX w w13 qf ⟨2, tx, 0, .slice none 0 0, []⟩ ∧ w13.heap[q]? = some (.cells #[.int .u8 3, .string ⟨#[]⟩, .int .i64 0, .slice none 0 0] 26 (0, 0)) ∧ Rw (q + 1) w13 (.slice none 0 0) [] ∧ Rs.Tills L (Rs.Ins true) s1 (Rs.Nxt true (!Rs.isB L s1 [41]) (([] : List N1).map N1.tr)) s1 ∧ Rs.Sh L s1 s1 0) := ⟨FR.out, PA.out, Bn.out, BQ.out, Rw.nil _ _, Rs.list_start GD.out, Rs.Sh.refl s1⟩
  clear FR PA Bn BQ GD
  go_wp2
  go_loopg [5] (Rs.mu L s1) (fun g sm wr => ∃ (more : Bool) (v : Value) (xs : List N1) (s2 : St), sm = .bool more ∧ g = Rs.mu L s2 ∧ xs.length + Rs.mu L s2 ≤ 100000001 ∧ Frm w b wr ∧ RAt b L s2 wr ∧ BX w wr qf ⟨2, tx, 0, .slice none 0 0, []⟩ ∧ wr.heap[q]? = some (.cells #[.int .u8 3, .string ⟨#[]⟩, .int .i64 0, v] 26 (0, 0)) ∧ Rw (q + 1) wr v xs ∧ Rs.Tills L (Rs.Ins true) s1 (Rs.Nxt true more (xs.map N1.tr)) s2 ∧ Rs.Sh L s1 s2 0)
  case atStart => exact ⟨_, _, [], s1, rfl, rfl, by have := Rs.mu_le L s1; simp; omega, ST.out⟩
  case round =>
    clear ST
    obtain ⟨more, v, xs, s2, rfl, hgk, hxl, hF, hP, hBn, hB, hRw, hT, hSh⟩ := hrel
    have FR : Hid (Frm w b wr) := hF
    have PA : Hid (RAt b L (s2) wr) := hP
    have Bn : Hid (BX w wr (qf) ⟨2, tx, 0, .slice none 0 0, []⟩) := hBn
    have BQ : Hid (wr.heap[q]? = some (.cells #[.int .u8 3, .string ⟨#[]⟩, .int .i64 0, v] 26 (0, 0))) := hB
    have RW : Hid (Rw (q + 1) wr v xs) := hRw
    have TL : Hid (Rs.Tills L (Rs.Ins true) s1 (Rs.Nxt true more (xs.map N1.tr)) s2) := hT
    have SL : Hid (Rs.Sh L s1 s2 0) := hSh
    have GD : Hid (Rs.Good L (s2)) := hT.good
    have GL : Hid (Rs.Good L s2) := hT.good
    clear hF hP hBn hB hRw hT hSh
    cases more
    · skip
      have HEN : Hid (s2.E = 0 → false = false) := fun _ => rfl
      have RB : Hid (_) := Rs.rel_listed GU.out (HS1.out ▸ TL.out) HEN.out
      replace TT : Hid (_) := TT.out.bndL RB.out
      have SB : Hid (Rs.Sh L u s2 0) := by have := (Rs.begin_sh (t := [40]) GU.out); rw [← HS1.out] at this; exact (this.trans SL.out).less (by omega)
      replace SH : Hid (Rs.Sh L s (Rs.endd L s2 [41]) 0) := ((SH.out.trans SB.out).trans (Rs.endd_sh GL.out)).less (by omega)
      go_wp2_with fail
      have HW15 : Hid (_) := rend_any b L (s2) [41] wr PA.out GD.out KN.out (by decide) (by decide)
      refine Calls.mono HW15.out ?_
      rintro e w16 ⟨rfl, hst17⟩
      replace BQ : Hid (w16.heap[q]? = some (.cells #[.int .u8 3, .string ⟨#[]⟩, .int .i64 0, v] 26 (0, 0))) := (hst17.1.block q (Array.getElem?_eq_some_iff.1 BQ.out).1 (by have := FR.out.low; simp; omega)).trans BQ.out
      replace RW : Hid (Rw (q + 1) w16 v xs) := RW.out.go hst17.1 (by have := FR.out.low; omega)
      replace Bn : Hid (BX w w16 (qf) ⟨2, tx, 0, .slice none 0 0, []⟩) := Bn.out.go hst17.1 FR.out.low
      replace FR : Hid (Frm w b w16) := FR.out.go hst17.1
      replace PA : Hid (RAt b L (Rs.endd L s2 [41]) w16) := hst17.2
      clear HW15 hst17
      replace GD : Hid (Rs.Good L (Rs.endd L s2 [41])) := TT.out.good
      have NZ : NF w w16 ⟨3, [], 0, v, xs.map N1.tr⟩ [q, qf] := RW.out.nfX (by omega) (by omega) 3 [] (by omega) (by simp) (by intro x hx; simp only [List.mem_cons, List.not_mem_nil, or_false] at hx; omega)
      obtain ⟨va, vc, hv⟩ := slice_shape RW.out.own
      obtain ⟨vL, hvL⟩ : ∃ N, N = xs.length := ⟨_, rfl⟩
      rw [← hvL] at hv
      subst hv
      have Np : Hid (NF w w16 ⟨3, [], 0, .slice va vL vc, (xs.map N1.tr)⟩ [q, qf]) := NZ
      have Bp : Hid (BX w w16 (q) ⟨3, [], 0, .slice va vL vc, (xs.map N1.tr)⟩) := ⟨hwq, BQ.out⟩
      have ltnp : qf < q := hfq
      have Nn : Hid (NF w w16 ⟨2, tx, 0, .slice none 0 0, []⟩ [q, qf]) := NF.leaf w w16 [q, qf] 2 tx 0 (by omega) HTL.out (by omega)
      clear NZ hvL RW BQ TL SL SB HS1 RB HEN
      go_wp2_with fail
      have HC18 : Hid (_) := Hhbl.out b L (Rs.endd L s2 [41]) w16 KN.out GD.out PA.out (HM0.out _ SH.out)
      refine Calls.mono HC18.out ?_
      rintro e w19 ⟨hg20, ty, vy, sy, rfl, ra21, rely, nd22⟩
      have hX : ∀ q0 ∈ ([q, qf] : List Nat), q0 < w16.heap.size := by
        intro q0 hq
        simp only [List.mem_cons, List.not_mem_nil, or_false] at hq
        rcases hq with rfl | rfl
        · exact Bp.out.lt
        · exact Bn.out.lt
      obtain ⟨yk, yt, yn, ya, yL, yc, ykids, rfl, rfl, nf⟩ := NF.of_end (X := [q, qf]) nd22 FR.out hX
      replace Np : Hid (NF w w19 ⟨3, [], 0, .slice va vL vc, (xs.map N1.tr)⟩ [q, qf]) := Np.out.go hg20 FR.out.low
      replace Nn : Hid (NF w w19 ⟨2, tx, 0, .slice none 0 0, []⟩ [q, qf]) := Nn.out.go hg20 FR.out.low
      replace Bp : Hid (BX w w19 (q) ⟨3, [], 0, .slice va vL vc, (xs.map N1.tr)⟩) := Bp.out.go hg20 FR.out.low
      replace Bn : Hid (BX w w19 (qf) ⟨2, tx, 0, .slice none 0 0, []⟩) := Bn.out.go hg20 FR.out.low
      replace FR : Hid (Frm w b w19) := FR.out.go hg20
      replace PA : Hid (RAt b L (sy) w19) := ra21
      have Ny : Hid (NF w w19 ⟨yk, yt, yn, .slice ya yL yc, ykids⟩ [q, qf]) := nf
      have RELy : Hid (Rs.Rel L (.block) (Rs.endd L s2 [41]) (.mk yk yt yn ykids) sy) := rely
      replace GD : Hid (Rs.Good L (sy)) := rely.good
      clear nf HC18 hg20 ra21 rely nd22 hX
      replace TT : Hid (_) := TT.out.bnd RELy.out
      replace SH : Hid (Rs.Sh L s (sy) 0) := (SH.out.trans (Rs.rel_sh (J := .block) trivial RELy.out)).less (by omega)
      have ltpy : q < w19.heap.size := by have := Bp.out.lt; omega
      have ltny : qf < w19.heap.size := by have := Bn.out.lt; omega
      obtain ⟨Y23, hY23⟩ : ∃ V, V = w19.alloc (.cells #[.int .u8 yk, .string (Ln.bs yt), .int .i64 yn, .slice ya yL yc] 26) := ⟨_, rfl⟩
      have bY23 : Below w19.heap.size w19 Y23 := hY23 ▸ below_new w19 _
      have nb : BX w Y23 (w19.heap.size) ⟨yk, yt, yn, .slice ya yL yc, ykids⟩ := by rw [hY23]; exact BX.new FR.out ⟨yk, yt, yn, .slice ya yL yc, ykids⟩
      replace Np : Hid (NF w w19 ⟨3, [], 0, .slice va vL vc, (xs.map N1.tr)⟩ [w19.heap.size, q, qf]) := Np.out.ex (Nat.le_refl _)
      replace Nn : Hid (NF w w19 ⟨2, tx, 0, .slice none 0 0, []⟩ [w19.heap.size, q, qf]) := Nn.out.ex (Nat.le_refl _)
      replace Ny : Hid (NF w w19 ⟨yk, yt, yn, .slice ya yL yc, ykids⟩ [w19.heap.size, q, qf]) := Ny.out.ex (Nat.le_refl _)
      replace Np : Hid (NF w Y23 ⟨3, [], 0, .slice va vL vc, (xs.map N1.tr)⟩ [w19.heap.size, q, qf]) := Np.out.go (grown_low bY23) FR.out.low
      replace Nn : Hid (NF w Y23 ⟨2, tx, 0, .slice none 0 0, []⟩ [w19.heap.size, q, qf]) := Nn.out.go (grown_low bY23) FR.out.low
      replace Ny : Hid (NF w Y23 ⟨yk, yt, yn, .slice ya yL yc, ykids⟩ [w19.heap.size, q, qf]) := Ny.out.go (grown_low bY23) FR.out.low
      replace Bp : Hid (BX w Y23 (q) ⟨3, [], 0, .slice va vL vc, (xs.map N1.tr)⟩) := Bp.out.go (grown_low bY23) FR.out.low
      replace Bn : Hid (BX w Y23 (qf) ⟨2, tx, 0, .slice none 0 0, []⟩) := Bn.out.go (grown_low bY23) FR.out.low
      replace FR : Hid (Frm w b Y23) := FR.out.go (grown_low bY23)
      replace PA : Hid (RAt b L (sy) Y23) := PA.out.below bY23
      have By : Hid (BX w Y23 (w19.heap.size) ⟨yk, yt, yn, .slice ya yL yc, ykids⟩) := nb
      clear nb bY23
      go_upto_region 14 with fail
      rw [← hY23]
      clear hY23
      obtain ⟨f24, f25, f26, f27⟩ := Bp.out.cs
      obtain ⟨f28, f29, f30, f31⟩ := By.out.cs
      obtain ⟨R32, hR32⟩ : ∃ V, V = Y23.alloc (.cells #[.int .u8 3, .string (Ln.bs []), .int .i64 0, .slice va vL vc, .int .u8 yk, .string (Ln.bs yt), .int .i64 yn, .slice ya yL yc] 26) := ⟨_, rfl⟩
      have bR32 : Below Y23.heap.size Y23 R32 := hR32 ▸ below_new Y23 _
      have hX : ∀ q0 ∈ ([w19.heap.size, q, qf] : List Nat), q0 < Y23.heap.size := by
        intro q0 hq
        simp only [List.mem_cons, List.not_mem_nil, or_false] at hq
        rcases hq with rfl | rfl | rfl
        · exact By.out.lt
        · exact Bp.out.lt
        · exact Bn.out.lt
      have nk : NF w R32 ⟨2, tx, 0, .slice (some ⟨Y23.heap.size, 0, none⟩) 2 2, [N1.tr ⟨3, [], 0, .slice va vL vc, (xs.map N1.tr)⟩, N1.tr ⟨yk, yt, yn, .slice ya yL yc, ykids⟩]⟩ [w19.heap.size, q, qf] := by
        rw [hR32]
        refine NF.kids FR.out [⟨3, [], 0, .slice va vL vc, (xs.map N1.tr)⟩, ⟨yk, yt, yn, .slice ya yL yc, ykids⟩] (fun z hz => ?_) hX (by simp) 2 tx 0 (by omega) (HTL.out) (by omega)
        simp only [List.mem_cons, List.not_mem_nil, or_false] at hz
        rcases hz with rfl | rfl
        · exact Np.out
        · exact Ny.out
      replace Np : Hid (NF w R32 ⟨3, [], 0, .slice va vL vc, (xs.map N1.tr)⟩ [w19.heap.size, q, qf]) := Np.out.go (grown_low bR32) FR.out.low
      replace Nn : Hid (NF w R32 ⟨2, tx, 0, .slice none 0 0, []⟩ [w19.heap.size, q, qf]) := Nn.out.go (grown_low bR32) FR.out.low
      replace Ny : Hid (NF w R32 ⟨yk, yt, yn, .slice ya yL yc, ykids⟩ [w19.heap.size, q, qf]) := Ny.out.go (grown_low bR32) FR.out.low
      replace By : Hid (BX w R32 (w19.heap.size) ⟨yk, yt, yn, .slice ya yL yc, ykids⟩) := By.out.go (grown_low bR32) FR.out.low
      replace Bp : Hid (BX w R32 (q) ⟨3, [], 0, .slice va vL vc, (xs.map N1.tr)⟩) := Bp.out.go (grown_low bR32) FR.out.low
      replace Bn : Hid (BX w R32 (qf) ⟨2, tx, 0, .slice none 0 0, []⟩) := Bn.out.go (grown_low bR32) FR.out.low
      replace FR : Hid (Frm w b R32) := FR.out.go (grown_low bR32)
      replace PA : Hid (RAt b L (sy) R32) := PA.out.below bR32
      have Nz : Hid (NF w R32 ⟨2, tx, 0, .slice (some ⟨Y23.heap.size, 0, none⟩) 2 2, [N1.tr ⟨3, [], 0, .slice va vL vc, (xs.map N1.tr)⟩, N1.tr ⟨yk, yt, yn, .slice ya yL yc, ykids⟩]⟩ [w19.heap.size, q, qf]) := nk
      clear nk hX bR32
      obtain ⟨t3, tf, Z1, hZ1, gz1, FZ, PZ, BZ, NZ⟩ := Bn.out.kids FR.out PA.out Nz.out (by simp)
      have HZ : Hid (_) := And.intro FZ (And.intro PZ (And.intro BZ NZ))
      clear FZ PZ BZ NZ gz1
      rw [hR32] at t3 tf hZ1
      go_upto_region 15 with fail
      rw [← hZ1]
      clear hZ1 t3 tf hR32
      replace FR : Hid (Frm w b Z1) := HZ.out.1
      replace PA : Hid (RAt b L (sy) Z1) := HZ.out.2.1
      have Bz := HZ.out.2.2.1
      replace Nz : Hid (_) := HZ.out.2.2.2
      obtain ⟨g0, g1, g2, g3⟩ := Bz.cs
      obtain ⟨p0, p1, p2, p3, pf, Z, hZ, ⟨r0, r1, r2, r3⟩, z1, z2, z3⟩ := FR.out.finR PA.out Nz.out
      have HF : Hid (w.grownBy Z (some b) ∧ REnd L .func b s w (.returned (.agg #[.int .u8 2, .string (Ln.bs tx), .int .i64 0, .slice (some ⟨Y23.heap.size, 0, none⟩) 2 2])) Z) := ⟨z1, _, _, _, rfl, z2, TT.out.done, z3⟩
      clear z1 z2 z3 
      go_wp2
      rw [← hZ]
      refine bodyPost_ret (v := .agg #[.int .u8 2, .string (Ln.bs tx), .int .i64 0, .slice (some ⟨Y23.heap.size, 0, none⟩) 2 2]) (by simp [results, Tryz.results15, go_sem, r0, r1, r2, r3]) rfl HF.out
    · skip
      have c3 := rcell3 PA.out GD.out
      by_cases hE : ¬ s2.E = 0
      case pos =>
        have e0 : ((s2.E : Int) == 0) = false := by simpa using hE
        have HD : Hid (s2.E ≠ 0) := hE
        clear hE
        have HEN : Hid (s2.E = 0 → true = false) := fun h => absurd h HD.out
        have RB : Hid (_) := Rs.rel_listed GU.out (HS1.out ▸ TL.out) HEN.out
        replace TT : Hid (_) := TT.out.bndL RB.out
        have SB : Hid (Rs.Sh L u s2 0) := by have := (Rs.begin_sh (t := [40]) GU.out); rw [← HS1.out] at this; exact (this.trans SL.out).less (by omega)
        replace SH : Hid (Rs.Sh L s (Rs.endd L s2 [41]) 0) := ((SH.out.trans SB.out).trans (Rs.endd_sh GL.out)).less (by omega)
        go_wp2_with fail
        have HW15 : Hid (_) := rend_any b L (s2) [41] wr PA.out GD.out KN.out (by decide) (by decide)
        refine Calls.mono HW15.out ?_
        rintro e w16 ⟨rfl, hst17⟩
        replace BQ : Hid (w16.heap[q]? = some (.cells #[.int .u8 3, .string ⟨#[]⟩, .int .i64 0, v] 26 (0, 0))) := (hst17.1.block q (Array.getElem?_eq_some_iff.1 BQ.out).1 (by have := FR.out.low; simp; omega)).trans BQ.out
        replace RW : Hid (Rw (q + 1) w16 v xs) := RW.out.go hst17.1 (by have := FR.out.low; omega)
        replace Bn : Hid (BX w w16 (qf) ⟨2, tx, 0, .slice none 0 0, []⟩) := Bn.out.go hst17.1 FR.out.low
        replace FR : Hid (Frm w b w16) := FR.out.go hst17.1
        replace PA : Hid (RAt b L (Rs.endd L s2 [41]) w16) := hst17.2
        clear HW15 hst17
        replace GD : Hid (Rs.Good L (Rs.endd L s2 [41])) := TT.out.good
        have NZ : NF w w16 ⟨3, [], 0, v, xs.map N1.tr⟩ [q, qf] := RW.out.nfX (by omega) (by omega) 3 [] (by omega) (by simp) (by intro x hx; simp only [List.mem_cons, List.not_mem_nil, or_false] at hx; omega)
        obtain ⟨va, vc, hv⟩ := slice_shape RW.out.own
        obtain ⟨vL, hvL⟩ : ∃ N, N = xs.length := ⟨_, rfl⟩
        rw [← hvL] at hv
        subst hv
        have Np : Hid (NF w w16 ⟨3, [], 0, .slice va vL vc, (xs.map N1.tr)⟩ [q, qf]) := NZ
        have Bp : Hid (BX w w16 (q) ⟨3, [], 0, .slice va vL vc, (xs.map N1.tr)⟩) := ⟨hwq, BQ.out⟩
        have ltnp : qf < q := hfq
        have Nn : Hid (NF w w16 ⟨2, tx, 0, .slice none 0 0, []⟩ [q, qf]) := NF.leaf w w16 [q, qf] 2 tx 0 (by omega) HTL.out (by omega)
        clear NZ hvL RW BQ TL SL SB HS1 RB HEN
        go_wp2_with fail
        have HC18 : Hid (_) := Hhbl.out b L (Rs.endd L s2 [41]) w16 KN.out GD.out PA.out (HM0.out _ SH.out)
        refine Calls.mono HC18.out ?_
        rintro e w19 ⟨hg20, ty, vy, sy, rfl, ra21, rely, nd22⟩
        have hX : ∀ q0 ∈ ([q, qf] : List Nat), q0 < w16.heap.size := by
          intro q0 hq
          simp only [List.mem_cons, List.not_mem_nil, or_false] at hq
          rcases hq with rfl | rfl
          · exact Bp.out.lt
          · exact Bn.out.lt
        obtain ⟨yk, yt, yn, ya, yL, yc, ykids, rfl, rfl, nf⟩ := NF.of_end (X := [q, qf]) nd22 FR.out hX
        replace Np : Hid (NF w w19 ⟨3, [], 0, .slice va vL vc, (xs.map N1.tr)⟩ [q, qf]) := Np.out.go hg20 FR.out.low
        replace Nn : Hid (NF w w19 ⟨2, tx, 0, .slice none 0 0, []⟩ [q, qf]) := Nn.out.go hg20 FR.out.low
        replace Bp : Hid (BX w w19 (q) ⟨3, [], 0, .slice va vL vc, (xs.map N1.tr)⟩) := Bp.out.go hg20 FR.out.low
        replace Bn : Hid (BX w w19 (qf) ⟨2, tx, 0, .slice none 0 0, []⟩) := Bn.out.go hg20 FR.out.low
        replace FR : Hid (Frm w b w19) := FR.out.go hg20
        replace PA : Hid (RAt b L (sy) w19) := ra21
        have Ny : Hid (NF w w19 ⟨yk, yt, yn, .slice ya yL yc, ykids⟩ [q, qf]) := nf
        have RELy : Hid (Rs.Rel L (.block) (Rs.endd L s2 [41]) (.mk yk yt yn ykids) sy) := rely
        replace GD : Hid (Rs.Good L (sy)) := rely.good
        clear nf HC18 hg20 ra21 rely nd22 hX
        replace TT : Hid (_) := TT.out.bnd RELy.out
        replace SH : Hid (Rs.Sh L s (sy) 0) := (SH.out.trans (Rs.rel_sh (J := .block) trivial RELy.out)).less (by omega)
        have ltpy : q < w19.heap.size := by have := Bp.out.lt; omega
        have ltny : qf < w19.heap.size := by have := Bn.out.lt; omega
        obtain ⟨Y23, hY23⟩ : ∃ V, V = w19.alloc (.cells #[.int .u8 yk, .string (Ln.bs yt), .int .i64 yn, .slice ya yL yc] 26) := ⟨_, rfl⟩
        have bY23 : Below w19.heap.size w19 Y23 := hY23 ▸ below_new w19 _
        have nb : BX w Y23 (w19.heap.size) ⟨yk, yt, yn, .slice ya yL yc, ykids⟩ := by rw [hY23]; exact BX.new FR.out ⟨yk, yt, yn, .slice ya yL yc, ykids⟩
        replace Np : Hid (NF w w19 ⟨3, [], 0, .slice va vL vc, (xs.map N1.tr)⟩ [w19.heap.size, q, qf]) := Np.out.ex (Nat.le_refl _)
        replace Nn : Hid (NF w w19 ⟨2, tx, 0, .slice none 0 0, []⟩ [w19.heap.size, q, qf]) := Nn.out.ex (Nat.le_refl _)
        replace Ny : Hid (NF w w19 ⟨yk, yt, yn, .slice ya yL yc, ykids⟩ [w19.heap.size, q, qf]) := Ny.out.ex (Nat.le_refl _)
        replace Np : Hid (NF w Y23 ⟨3, [], 0, .slice va vL vc, (xs.map N1.tr)⟩ [w19.heap.size, q, qf]) := Np.out.go (grown_low bY23) FR.out.low
        replace Nn : Hid (NF w Y23 ⟨2, tx, 0, .slice none 0 0, []⟩ [w19.heap.size, q, qf]) := Nn.out.go (grown_low bY23) FR.out.low
        replace Ny : Hid (NF w Y23 ⟨yk, yt, yn, .slice ya yL yc, ykids⟩ [w19.heap.size, q, qf]) := Ny.out.go (grown_low bY23) FR.out.low
        replace Bp : Hid (BX w Y23 (q) ⟨3, [], 0, .slice va vL vc, (xs.map N1.tr)⟩) := Bp.out.go (grown_low bY23) FR.out.low
        replace Bn : Hid (BX w Y23 (qf) ⟨2, tx, 0, .slice none 0 0, []⟩) := Bn.out.go (grown_low bY23) FR.out.low
        replace FR : Hid (Frm w b Y23) := FR.out.go (grown_low bY23)
        replace PA : Hid (RAt b L (sy) Y23) := PA.out.below bY23
        have By : Hid (BX w Y23 (w19.heap.size) ⟨yk, yt, yn, .slice ya yL yc, ykids⟩) := nb
        clear nb bY23
        go_upto_region 14 with fail
        rw [← hY23]
        clear hY23
        obtain ⟨f24, f25, f26, f27⟩ := Bp.out.cs
        obtain ⟨f28, f29, f30, f31⟩ := By.out.cs
        obtain ⟨R32, hR32⟩ : ∃ V, V = Y23.alloc (.cells #[.int .u8 3, .string (Ln.bs []), .int .i64 0, .slice va vL vc, .int .u8 yk, .string (Ln.bs yt), .int .i64 yn, .slice ya yL yc] 26) := ⟨_, rfl⟩
        have bR32 : Below Y23.heap.size Y23 R32 := hR32 ▸ below_new Y23 _
        have hX : ∀ q0 ∈ ([w19.heap.size, q, qf] : List Nat), q0 < Y23.heap.size := by
          intro q0 hq
          simp only [List.mem_cons, List.not_mem_nil, or_false] at hq
          rcases hq with rfl | rfl | rfl
          · exact By.out.lt
          · exact Bp.out.lt
          · exact Bn.out.lt
        have nk : NF w R32 ⟨2, tx, 0, .slice (some ⟨Y23.heap.size, 0, none⟩) 2 2, [N1.tr ⟨3, [], 0, .slice va vL vc, (xs.map N1.tr)⟩, N1.tr ⟨yk, yt, yn, .slice ya yL yc, ykids⟩]⟩ [w19.heap.size, q, qf] := by
          rw [hR32]
          refine NF.kids FR.out [⟨3, [], 0, .slice va vL vc, (xs.map N1.tr)⟩, ⟨yk, yt, yn, .slice ya yL yc, ykids⟩] (fun z hz => ?_) hX (by simp) 2 tx 0 (by omega) (HTL.out) (by omega)
          simp only [List.mem_cons, List.not_mem_nil, or_false] at hz
          rcases hz with rfl | rfl
          · exact Np.out
          · exact Ny.out
        replace Np : Hid (NF w R32 ⟨3, [], 0, .slice va vL vc, (xs.map N1.tr)⟩ [w19.heap.size, q, qf]) := Np.out.go (grown_low bR32) FR.out.low
        replace Nn : Hid (NF w R32 ⟨2, tx, 0, .slice none 0 0, []⟩ [w19.heap.size, q, qf]) := Nn.out.go (grown_low bR32) FR.out.low
        replace Ny : Hid (NF w R32 ⟨yk, yt, yn, .slice ya yL yc, ykids⟩ [w19.heap.size, q, qf]) := Ny.out.go (grown_low bR32) FR.out.low
        replace By : Hid (BX w R32 (w19.heap.size) ⟨yk, yt, yn, .slice ya yL yc, ykids⟩) := By.out.go (grown_low bR32) FR.out.low
        replace Bp : Hid (BX w R32 (q) ⟨3, [], 0, .slice va vL vc, (xs.map N1.tr)⟩) := Bp.out.go (grown_low bR32) FR.out.low
        replace Bn : Hid (BX w R32 (qf) ⟨2, tx, 0, .slice none 0 0, []⟩) := Bn.out.go (grown_low bR32) FR.out.low
        replace FR : Hid (Frm w b R32) := FR.out.go (grown_low bR32)
        replace PA : Hid (RAt b L (sy) R32) := PA.out.below bR32
        have Nz : Hid (NF w R32 ⟨2, tx, 0, .slice (some ⟨Y23.heap.size, 0, none⟩) 2 2, [N1.tr ⟨3, [], 0, .slice va vL vc, (xs.map N1.tr)⟩, N1.tr ⟨yk, yt, yn, .slice ya yL yc, ykids⟩]⟩ [w19.heap.size, q, qf]) := nk
        clear nk hX bR32
        obtain ⟨t3, tf, Z1, hZ1, gz1, FZ, PZ, BZ, NZ⟩ := Bn.out.kids FR.out PA.out Nz.out (by simp)
        have HZ : Hid (_) := And.intro FZ (And.intro PZ (And.intro BZ NZ))
        clear FZ PZ BZ NZ gz1
        rw [hR32] at t3 tf hZ1
        go_upto_region 15 with fail
        rw [← hZ1]
        clear hZ1 t3 tf hR32
        replace FR : Hid (Frm w b Z1) := HZ.out.1
        replace PA : Hid (RAt b L (sy) Z1) := HZ.out.2.1
        have Bz := HZ.out.2.2.1
        replace Nz : Hid (_) := HZ.out.2.2.2
        obtain ⟨g0, g1, g2, g3⟩ := Bz.cs
        obtain ⟨p0, p1, p2, p3, pf, Z, hZ, ⟨r0, r1, r2, r3⟩, z1, z2, z3⟩ := FR.out.finR PA.out Nz.out
        have HF : Hid (w.grownBy Z (some b) ∧ REnd L .func b s w (.returned (.agg #[.int .u8 2, .string (Ln.bs tx), .int .i64 0, .slice (some ⟨Y23.heap.size, 0, none⟩) 2 2])) Z) := ⟨z1, _, _, _, rfl, z2, TT.out.done, z3⟩
        clear z1 z2 z3 
        go_wp2
        rw [← hZ]
        refine bodyPost_ret (v := .agg #[.int .u8 2, .string (Ln.bs tx), .int .i64 0, .slice (some ⟨Y23.heap.size, 0, none⟩) 2 2]) (by simp [results, Tryz.results15, go_sem, r0, r1, r2, r3]) rfl HF.out
      have hE : s2.E = 0 := by simpa using hE
      have e0 : ((s2.E : Int) == 0) = true := by rw [hE]; rfl
      have H0 : Hid (s2.E = 0) := hE
      clear hE
      have hqw : q < wr.heap.size := (Array.getElem?_eq_some_iff.1 BQ.out).1
      go_wp2_with fail
      clear c3 e0
      have HC : Hid (_) := rnamed_any 4 b L s2 wr PA.out GD.out KN.out (by omega)
      refine Calls.mono HC.out ?_
      rintro e W5 ⟨rfl, hg5⟩
      have RY : Hid (Rs.Rel L (Rs.item true) s2 (.mk 4 (Rs.kindT L s2 1) 0 []) (Rs.kindS L s2 1)) := Rs.rel_param GL.out H0.out
      have hyt9 : (Rs.kindT L s2 1).length ≤ 1000000 := kindT_len GL.out KN.out
      have S3 : Hid (Rs.Sh L s2 (Rs.kindS L s2 1) 1) := Rs.kindS_sh GL.out
      obtain ⟨yt, hyt⟩ : ∃ t, t = Rs.kindT L s2 1 := ⟨_, rfl⟩
      rw [← hyt] at RY hyt9 ⊢
      clear hyt
      obtain ⟨s3, hs3⟩ : ∃ t, t = Rs.kindS L s2 1 := ⟨_, rfl⟩
      rw [← hs3] at RY S3 hg5
      clear hs3
      have G3 : Hid (Rs.Good L s3) := RY.out.good
      have FR5 : Hid (Frm w b W5) := FR.out.go hg5.1
      replace Bn : Hid (BX w W5 (qf) ⟨2, tx, 0, .slice none 0 0, []⟩) := Bn.out.go hg5.1 FR.out.low
      have BQ5 : Hid (W5.heap[q]? = some (.cells #[.int .u8 3, .string ⟨#[]⟩, .int .i64 0, v] 26 (0, 0))) := (hg5.1.block q (Array.getElem?_eq_some_iff.1 BQ.out).1 (by have := FR.out.low; simp; omega)).trans BQ.out
      have HY5 : Hid ((⟨4, yt, 0, .slice none 0 0, []⟩ : N1).Fit ∧ RowR (newS wr.heap.size W5.heap.size) W5 (.slice none 0 0) [] ∧ wr.grownBy W5 (some b) ∧ RAt b L s3 W5) := ⟨fit_of 4 yt _ _ (by omega) hyt9, rowR_nil _ _, hg5.1, hg5.2⟩
      clear hg5 HC hyt9
      obtain ⟨Y, hY⟩ : ∃ Y, Y = W5.alloc (.cells #[.int .u8 4, .string (Ln.bs yt), .int .i64 0, .slice none 0 0] 26) := ⟨_, rfl⟩
      have bY : Below W5.heap.size W5 Y := hY ▸ below_new W5 _
      have HYN : Hid (Y.heap[W5.heap.size]? = some (.cells #[.int .u8 4, .string (Ln.bs yt), .int .i64 0, .slice none 0 0] 26 (0, 0))) := by rw [Hid, hY]; exact World.alloc_heap_new W5 _
      go_upto_region 8 with fail
      rw [← hY]
      have sY : Y.heap.size = W5.heap.size + 1 := by rw [hY, World.size_alloc]
      clear hY
      have f0 : Y.cell? ⟨W5.heap.size, 0, none⟩ = some (.int .u8 4) := cells_at HYN.out rfl
      have f1 : Y.cell? ⟨W5.heap.size, 1, none⟩ = some (.string (Ln.bs yt)) := cells_at HYN.out rfl
      have f2 : Y.cell? ⟨W5.heap.size, 2, none⟩ = some (.int .i64 0) := cells_at HYN.out rfl
      have f3 : Y.cell? ⟨W5.heap.size, 3, none⟩ = some (.slice none 0 0) := cells_at HYN.out rfl
      have bR := below_nw Y (.cells #[.int .u8 4, .string (Ln.bs yt), .int .i64 0, .slice none 0 0] 26)
      have SRC : Hid (_) := cells_new Y [.int .u8 4, .string (Ln.bs yt), .int .i64 0, .slice none 0 0] 26
      rw [sY] at SRC
      have BQY : Y.heap[q]? = some (.cells #[.int .u8 3, .string ⟨#[]⟩, .int .i64 0, v] 26 (0, 0)) := (bY.block q (Array.getElem?_eq_some_iff.1 BQ5.out).1).trans BQ5.out
      have hlow := FR5.out.low
      have hq5 : wr.heap.size ≤ W5.heap.size := HY5.out.2.2.1.size
      have RW5 : Rw (q + 1) W5 v xs := RW.out.go HY5.out.2.2.1 (by omega)
      have RWY : Rw (q + 1) Y v xs := RW5.go (b := b) (grown_low bY) (by omega)
      have RWR : Hid (Rw (q + 1) (Y.alloc (.cells #[.int .u8 4, .string (Ln.bs yt), .int .i64 0, .slice none 0 0] 26)) v xs) := RWY.go (b := b) (grown_low bR) (by omega)
      have BQR : Hid ((Y.alloc (.cells #[.int .u8 4, .string (Ln.bs yt), .int .i64 0, .slice none 0 0] 26)).heap[q]? = some (.cells #[.int .u8 3, .string ⟨#[]⟩, .int .i64 0, v] 26 (0, 0))) := (bR.block q (Array.getElem?_eq_some_iff.1 BQY).1).trans BQY
      have vY : Y.cell? ⟨q, 3, none⟩ = some v := cells_at BQY rfl
      have vR : (Y.alloc (.cells #[.int .u8 4, .string (Ln.bs yt), .int .i64 0, .slice none 0 0] 26)).cell? ⟨q, 3, none⟩ = some v := cells_at BQR.out rfl
      have FRR : Hid (Frm w b (Y.alloc (.cells #[.int .u8 4, .string (Ln.bs yt), .int .i64 0, .slice none 0 0] 26))) := (FR5.out.below bY).below bR
      have PAR : Hid (RAt b L (s3) (Y.alloc (.cells #[.int .u8 4, .string (Ln.bs yt), .int .i64 0, .slice none 0 0] 26))) := (HY5.out.2.2.2.below bY).below bR
      have GRR : Hid (wr.grownBy (Y.alloc (.cells #[.int .u8 4, .string (Ln.bs yt), .int .i64 0, .slice none 0 0] 26)) (some b)) := grown_below (grown_below HY5.out.2.2.1 bY) bR
      have RYR : Hid (RowR (newS wr.heap.size (Y.alloc (.cells #[.int .u8 4, .string (Ln.bs yt), .int .i64 0, .slice none 0 0] 26)).heap.size) (Y.alloc (.cells #[.int .u8 4, .string (Ln.bs yt), .int .i64 0, .slice none 0 0] 26)) (.slice none 0 0) []) := HY5.out.2.1.keep (fun k hk => (bR.block k (Nat.lt_of_lt_of_le hk.2 bY.size)).trans (bY.block k hk.2)) (fun _ hk => ⟨hk.1, Nat.lt_of_lt_of_le (Nat.lt_of_lt_of_le hk.2 bY.size) bR.size⟩)
      have HQS : Hid (q + 1 ≤ (Y.alloc (.cells #[.int .u8 4, .string (Ln.bs yt), .int .i64 0, .slice none 0 0] 26)).heap.size) := by have := (Array.getElem?_eq_some_iff.1 BQR.out).1; exact this
      have HQW : Hid (q + 1 ≤ wr.heap.size) := hqw
      have HYF : Hid ((⟨4, yt, 0, .slice none 0 0, []⟩ : N1).Fit) := HY5.out.1
      have BnR : Hid (BX w (Y.alloc (.cells #[.int .u8 4, .string (Ln.bs yt), .int .i64 0, .slice none 0 0] 26)) (qf) ⟨2, tx, 0, .slice none 0 0, []⟩) := (Bn.out.go (b := b) (grown_low bY) hlow).go (b := b) (grown_low bR) hlow
      clear BQY RW5 RWY bY bR HY5 FR5 BQ5 HYN hq5
      go_wp2_with (at_builtin; refine wpList_append_own_at _ rfl _ _ 24 rfl (q + 1) 26 i0 (.agg #[.int .u8 0, .string ⟨#[]⟩, .int .i64 0, .slice none 0 0]) 4 56 Tryz.underlying24 hi0 hz0 hz1 hz2 rfl (by decide) _ _ _ rfl RWR.out.own ⟨W5.heap.size + 1, 0, none⟩ 1 1 [.int .u8 4, .string (Ln.bs yt), .int .i64 0, .slice none 0 0] rfl rfl SRC.out (by simp [Value.oneCell']) (by unfold maxLen; omega) (by omega) HQS.out ?_; intro v' W' hown' hgr _ hat; have BQN := box_rowed BQR.out RWR.out.own hgr (Nat.lt_succ_self q); have vc : W'.cell? ⟨q, 3, none⟩ = some v := cells_at BQN rfl; have vf : W'.frozen? ⟨q, 3, none⟩ = false := frozen_of_row W' _ 3 _ _ BQN; have RWN : Hid (Rw (q + 1) W' v' (xs ++ [⟨4, yt, 0, .slice none 0 0, []⟩])) := Rw.app RW.out GRR.out (by omega) HYF.out RYR.out HQW.out hown' hgr hat; have FRN : Hid (Frm w b W') := FRR.out.rowed RWR.out.own hgr (by omega); have PAN : Hid (RAt b L (s3) W') := PAR.out.rowed RWR.out.own hgr; have BnN : Hid (BX w W' (qf) ⟨2, tx, 0, .slice none 0 0, []⟩) := ⟨BnR.out.1, box_rowed BnR.out.2 RWR.out.own hgr (by omega)⟩; have HBN : Hid (W'.heap[q]? = some (.cells #[.int .u8 3, .string ⟨#[]⟩, .int .i64 0, v] 26 (0, 0))) := BQN; obtain ⟨va', vc', hv'⟩ := slice_shape hown'; subst hv'; clear hown' hgr hat BQN)
      obtain ⟨Z, hZ⟩ : ∃ Z, Z = W'.setCell ⟨q, 3, none⟩ (.slice va' (xs.length + 1) vc') := ⟨_, rfl⟩
      have gZ : W'.grownBy Z (some q) := by rw [hZ]; exact grown_set W' _ _ _
      have FR : Hid (Frm w b Z) := FRN.out.set gZ (by omega)
      have PA : Hid (RAt b L (s3) Z) := PAN.out.beside gZ HBN.out
      have BQ : Hid (Z.heap[q]? = some (.cells #[.int .u8 3, .string ⟨#[]⟩, .int .i64 0, .slice va' (xs.length + 1) vc'] 26 (0, 0))) := by rw [Hid, hZ]; exact heap_setCell_same W' _ 3 _ _ _ HBN.out
      have RW2 : Hid (Rw (q + 1) Z (.slice va' (xs.length + 1) vc') (xs ++ [⟨4, yt, 0, .slice none 0 0, []⟩])) := RWN.out.go gZ (by omega)
      have Bn : Hid (BX w Z (qf) ⟨2, tx, 0, .slice none 0 0, []⟩) := ⟨BnN.out.1, (gZ.block _ BnN.out.lt (by simp; omega)).trans BnN.out.2⟩
      have GD : Hid (Rs.Good L (s3)) := G3.out
      rw [← hZ]
      clear gZ hZ FRN PAN HBN RWN BnN BnR vc vf
      have HI9 : Hid (_) := ris_any b L s3 [44] Z PA.out GD.out KN.out (by decide)
      refine Calls.mono HI9.out ?_
      rintro e w9 ⟨rfl, hb9⟩
      replace BQ : Hid (w9.heap[q]? = some (.cells #[.int .u8 3, .string ⟨#[]⟩, .int .i64 0, .slice va' (xs.length + 1) vc'] 26 (0, 0))) := (hb9.block q (Array.getElem?_eq_some_iff.1 BQ.out).1).trans BQ.out
      replace RW2 : Hid (Rw (q + 1) w9 (.slice va' (xs.length + 1) vc') (xs ++ [⟨4, yt, 0, .slice none 0 0, []⟩])) := RW2.out.go (b := b) (grown_low hb9) (by have := FR.out.low; omega)
      replace Bn : Hid (BX w w9 (qf) ⟨2, tx, 0, .slice none 0 0, []⟩) := Bn.out.go (grown_low hb9) FR.out.low
      replace FR : Hid (Frm w b w9) := FR.out.go (grown_low hb9)
      replace PA : Hid (RAt b L (s3) w9) := PA.out.below hb9
      clear HI9 hb9
      have hmu := Rs.mu_lt H0.out S3.out
      cases hs9 : Rs.isB L s3 [44]
      · skip
        have TN : Hid (_) := Rs.list_item TL.out H0.out RY.out hs9
        clear hs9
        go_wp2
        go_roundg (Rs.mu L s3)
        case measure => omega
        case rel => exact ⟨false, _, _, s3, rfl, rfl, by simp; omega, FR.out, PA.out, Bn.out, BQ.out, RW2.out, by have := TN.out; rw [List.map_append]; exact this, (SL.out.trans S3.out).less (by omega)⟩
      · skip
        have TN : Hid (_) := Rs.list_comma TL.out H0.out RY.out hs9
        have GA : Hid (Rs.Good L (Rs.adv s3)) := Rs.isB_good G3.out hs9 (by decide)
        have SA : Hid (Rs.Sh L s2 (Rs.adv s3) 1) := (S3.out.trans (Rs.adv_sh G3.out)).less (by omega)
        clear hs9
        obtain ⟨k1, k2, k3, Y9, hY9, st⟩ := radv PA.out GD.out
        replace BQ : Hid (Y9.heap[q]? = some (.cells #[.int .u8 3, .string ⟨#[]⟩, .int .i64 0, .slice va' (xs.length + 1) vc'] 26 (0, 0))) := (st.1.block q (Array.getElem?_eq_some_iff.1 BQ.out).1 (by have := FR.out.low; simp; omega)).trans BQ.out
        replace RW2 : Hid (Rw (q + 1) Y9 (.slice va' (xs.length + 1) vc') (xs ++ [⟨4, yt, 0, .slice none 0 0, []⟩])) := RW2.out.go st.1 (by have := FR.out.low; omega)
        replace Bn : Hid (BX w Y9 (qf) ⟨2, tx, 0, .slice none 0 0, []⟩) := Bn.out.go st.1 FR.out.low
        replace FR : Hid (Frm w b Y9) := FR.out.go st.1
        replace PA : Hid (RAt b L (Rs.adv (s3)) Y9) := st.2
        clear st
        go_wp2
        rw [← hY9]
        have hmv := Rs.mu_lt H0.out SA.out
        go_roundg (Rs.mu L (Rs.adv s3))
        case measure => omega
        case rel => exact ⟨true, _, _, Rs.adv s3, rfl, rfl, by simp; omega, FR.out, PA.out, Bn.out, BQ.out, RW2.out, by have := TN.out; rw [List.map_append]; exact this, (SL.out.trans SA.out).less (by omega)⟩
end Go.Proofs.YtfegodofbdlbeaaGreatDoor

/-
  The walk of file once more: the row of its Kids is its own.
-/
import Derived.Test.YtdaaecnmllpgdaaGreatDoorStmtAll
namespace Go.Proofs.YtdaaecnmllpgdaaGreatDoor
open Go.RowKit Go.Shelf

attribute [local go_sem] Oper.semAt_some
attribute [local simp] Ps.go Ps.opn Ps.want Ps.name Ps.bnd Ps.bad N1.tr

theorem Rw.less {a c : Nat} {W : World} {v : Value} {xs : List N1} (h : Rw a W v xs) (hc : c ≤ a) : Rw c W v xs := by
  refine ⟨⟨h.own.1, ?_⟩, fun x hx => ⟨(h.each x hx).1, (h.each x hx).2.mono (fun k hk => ⟨Nat.le_trans hc hk.1, hk.2⟩)⟩⟩
  rcases h.own.2 with h0 | ⟨g, cap, cur, hv, hbg, rest⟩
  · exact .inl h0
  · exact .inr ⟨g, cap, cur, hv, Nat.le_trans hc hbg, rest⟩
theorem Rw.step {a : Nat} {W W' : World} {v : Value} {xs : List N1} (h : Rw a W v xs) (hk : ∀ k, a ≤ k → k < W.heap.size → W'.heap[k]? = W.heap[k]?) (hs : W.heap.size ≤ W'.heap.size) : Rw a W' v xs := by
  refine ⟨⟨h.own.1, ?_⟩, fun x hx => ⟨(h.each x hx).1, (h.each x hx).2.keep (fun k hq => hk k hq.1 hq.2.1) (fun _ hq => ⟨hq.1, Nat.lt_of_lt_of_le hq.2.1 hs, hq.2.2⟩)⟩⟩
  rcases h.own.2 with h0 | ⟨g, cap, cur, hv, hbg, hgb, rest⟩
  · exact .inl h0
  · exact .inr ⟨g, cap, cur, hv, hbg, (hk g hbg (Array.getElem?_eq_some_iff.1 hgb).1).trans hgb, rest⟩
/-- A File whose row of Kids is its own. -/
def FNode (a : Nat) (W : World) (v : Value) (ts : List Tr) : Prop := ∃ sl xs, v = .agg #[.int .u8 1, .string (Ln.bs []), .int .i64 0, sl] ∧ ts = xs.map N1.tr ∧ xs.length ≤ 1000000000 ∧ Rw a W sl xs
theorem FNode.step {a a' : Nat} {W W' : World} {v : Value} {ts : List Tr} (h : FNode a W v ts) (hk : ∀ k, a ≤ k → k < W.heap.size → W'.heap[k]? = W.heap[k]?) (hs : W.heap.size ≤ W'.heap.size) (ha : a' ≤ a) : FNode a' W' v ts := by
  obtain ⟨sl, xs, e1, e2, e3, e4⟩ := h
  exact ⟨sl, xs, e1, e2, e3, (e4.step hk hs).less ha⟩
theorem FNode.low {a c : Nat} {W W' : World} {v : Value} {ts : List Tr} (h : FNode a W v ts) (hb : Below W.heap.size W W') (ha : c ≤ a) : FNode c W' v ts :=
  h.step (fun k _ hl => hb.block k hl) hb.size ha
theorem FNode.node {a : Nat} {W : World} {v : Value} {ts : List Tr} (h : FNode a W v ts) : NodeR (newS a W.heap.size) W v (.mk 1 [] 0 ts) := by
  obtain ⟨sl, xs, rfl, rfl, e3, e4⟩ := h
  exact ⟨⟨1, [], 0, sl, xs.map N1.tr⟩, rfl, rfl, ⟨by show (0 : Int) ≤ 1 ∧ (1 : Int) ≤ 255; decide, by show ([] : List UInt8).length ≤ _; decide, by show (-9223372036854775808 : Int) ≤ 0 ∧ (0 : Int) ≤ 9223372036854775807; decide⟩, e4.row e3 (Nat.le_refl _)⟩
theorem FNode.pshape {a : Nat} {W : World} {v : Value} {ts : List Tr} (h : FNode a W v ts) : ∃ k tx n a L c, v = .agg #[.int .u8 k, .string (Ln.bs tx), .int .i64 n, .slice a L c] := h.node.pshape

/-- What file ends with. -/
def FEndO (lv : Nat) (l : List Lx.Tok) (w : World) (e : Ending) (w' : World) : Prop :=
  (∃ E i, Ps.Eats (.file []) l lv (.bad E i) ∧ e = pan E i) ∨ ∃ ts l' v, Ps.Eats (.file []) l lv (.ok ts l') ∧ e = .returned v ∧ FNode w.heap.size w' v ts

set_option maxRecDepth 100000 in
set_option maxHeartbeats 8000000 in
theorem pfileO_any (b lv : Nat) (l : List Lx.Tok) (w : World) (hl : OkL l) (hlv : lv ≤ 120) (hP : PAt b l lv w) : Calls Tryz.prog 29 #[.pointer (some ⟨b, 0, none⟩)] w fun e w' => w.grownBy w' (some b) ∧ FEndO lv l w e w' := by
  obtain ⟨i0, hi0, hz0, hz1, hz2⟩ := info_parts info_node
  obtain ⟨A, hA⟩ : ∃ A, A = w.alloc (.cells #[.int .u8 0, .string ⟨#[]⟩, .int .i64 0, .slice none 0 0] 26) := ⟨_, rfl⟩
  have FR : Hid (Frm w b A) := hA ▸ Frm.new hP
  have PA : Hid (PAt b l lv A) := hA ▸ hP.below (below_new w _)
  have hlen := hP.len
  clear hP
  refine (callsIn_wide (n := 3)).1 ?_
  refine callsIn_of_wp Tryz.func29 rfl trivial ?_ rfl
  simp only [Tryz.ntmps29, List.size_toArray, List.length_cons, List.length_nil, Nat.reduceAdd, Nat.reduceSub, Array.replicate_succ, Array.replicate_zero, List.push_toArray, List.append_toArray, List.nil_append, List.cons_append]
  gi_wp2
  rw [← hA]
  clear hA
  refine ⟨trivial, ?_⟩
  refine (callsIn_wide.2 (pnode_any 1 ⟨#[]⟩ none 0 0 A)).mono ?_
  rintro e w1 ⟨rfl, hb1⟩
  replace FR : Hid (Frm w b w1) := FR.out.below hb1
  replace PA : Hid (PAt b l lv w1) := PA.out.below hb1
  clear hb1
  obtain ⟨Y, hY⟩ : ∃ Y, Y = w1.alloc (.cells #[.int .u8 1, .string ⟨#[]⟩, .int .i64 0, .slice none 0 0] 26) := ⟨_, rfl⟩
  have bY : Below w1.heap.size w1 Y := hY ▸ below_new w1 _
  have BQ : Hid (Y.heap[w1.heap.size]? = some (.cells #[.int .u8 1, .string ⟨#[]⟩, .int .i64 0, .slice none 0 0] 26 (0, 0))) := by rw [Hid, hY]; exact World.alloc_heap_new w1 _
  have hwq : w.heap.size < w1.heap.size := FR.out.lt
  replace FR : Hid (Frm w b Y) := FR.out.below bY
  replace PA : Hid (PAt b l lv Y) := PA.out.below bY
  obtain ⟨q, hq⟩ : ∃ q, q = w1.heap.size := ⟨_, rfl⟩
  obtain ⟨l1, hl1⟩ : ∃ l1, l1 = l := ⟨_, rfl⟩
  have ST : Hid (Frm w b Y ∧ PAt b l1 (lv) Y ∧ Y.heap[q]? = some (.cells #[.int .u8 1, .string ⟨#[]⟩, .int .i64 0, .slice none 0 0] 26 (0, 0)) ∧ Rw (q + 1) Y (.slice none 0 0) [] ∧ ∀ r, Ps.Eats (.file (([] : List N1).map N1.tr)) l1 (lv) r → Ps.Eats (.file []) l lv r) :=
    ⟨FR.out, hl1 ▸ PA.out, by rw [hq]; exact BQ.out, Rw.nil _ _, fun r hr => by rw [hl1] at hr; exact hr⟩
  have ol1 : OkL l1 := hl1 ▸ hl
  have hll : l1.length ≤ 100000000 := by rw [hl1]; exact hlen
  rw [← hq] at hwq
  clear FR PA BQ bY
  gi_wp2
  rw [← hY, ← hq]
  clear hY hq
  gi_loopg [] (l1.length) (fun g wr => ∃ (v : Value) (xs : List N1) (l2 : List Lx.Tok), g = l2.length ∧ OkL l2 ∧ xs.length + l2.length ≤ 100000000 ∧ l2.length ≤ l1.length ∧ Frm w b wr ∧ PAt b l2 (lv) wr ∧ wr.heap[q]? = some (.cells #[.int .u8 1, .string ⟨#[]⟩, .int .i64 0, v] 26 (0, 0)) ∧ Rw (q + 1) wr v xs ∧ ∀ r, Ps.Eats (.file (xs.map N1.tr)) l2 (lv) r → Ps.Eats (.file []) l lv r)
  case atStart => exact ⟨_, [], l1, rfl, ol1, by simp; omega, Nat.le_refl _, ST.out.1, ST.out.2.1, ST.out.2.2.1, ST.out.2.2.2.1, ST.out.2.2.2.2⟩
  case round =>
    clear ST
    obtain ⟨v, xs, l2, hgk, ol2, hxl, ln2, hF, hP, hBq, hRw, hE⟩ := hrel
    have HE : Hid (∀ r, Ps.Eats (.file (xs.map N1.tr)) l2 (lv) r → Ps.Eats (.file []) l lv r) := hE
    have HNX : Hid (_) := pnext_any b lv l2 wr hP ol2
    have hf0 := tok_f0 (Ps.hd l2).kind (Ln.bs (Ps.hd l2).text) (Ps.hd l2).at_
    have FR : Hid (Frm w b wr) := hF
    have PA : Hid (PAt b l2 (lv) wr) := hP
    have BQ : Hid (wr.heap[q]? = some (.cells #[.int .u8 1, .string ⟨#[]⟩, .int .i64 0, v] 26 (0, 0))) := hBq
    have RW : Hid (Rw (q + 1) wr v xs) := hRw
    clear hF hP hBq hRw hE
    gi_wp2
    refine ⟨trivial, ?_⟩
    refine (callsIn_wide.2 HNX.out).mono ?_
    rintro e w3 ⟨rfl, hb3⟩
    replace FR : Hid (Frm w b w3) := FR.out.below hb3
    replace PA : Hid (PAt b l2 (lv) w3) := PA.out.below hb3
    replace BQ : Hid (w3.heap[q]? = some (.cells #[.int .u8 1, .string ⟨#[]⟩, .int .i64 0, v] 26 (0, 0))) := (hb3.block _ (Array.getElem?_eq_some_iff.1 BQ.out).1).trans BQ.out
    replace RW : Hid (Rw (q + 1) w3 v xs) := RW.out.go (b := b) (grown_low hb3) (by have := FR.out.low; omega)
    clear HNX hb3
    by_cases hk5 : (Ps.hd l2).kind = 5
    case pos =>
      have K5 : Hid ((Ps.hd l2).kind = 5) := hk5
      have d5 : (((Ps.hd l2).kind : Int) == 5) = true := by rw [hk5]; rfl
      have d5' : (((Ps.hd l2).kind : Int) != 5) = false := by rw [hk5]; rfl
      clear hk5
      obtain ⟨w4, hw4⟩ : ∃ w4, w4 = w3 := ⟨_, rfl⟩
      subst hw4
      have NZ : NF w w4 ⟨1, [], 0, v, xs.map N1.tr⟩ [] := RW.out.nf (by omega) (by omega) 1 (by omega)
      have c0 : w4.cell? ⟨q, 0, none⟩ = some (.int .u8 1) := cells_at BQ.out rfl
      have c1 : w4.cell? ⟨q, 1, none⟩ = some (.string ⟨#[]⟩) := cells_at BQ.out rfl
      have c2 : w4.cell? ⟨q, 2, none⟩ = some (.int .i64 0) := cells_at BQ.out rfl
      have c3 : w4.cell? ⟨q, 3, none⟩ = some v := cells_at BQ.out rfl
      obtain ⟨va, vc, hv⟩ := slice_shape RW.out.own
      obtain ⟨vL, hvL⟩ : ∃ N, N = xs.length := ⟨_, rfl⟩
      rw [← hvL] at hv
      subst hv
      obtain ⟨p0, p1, p2, p3, pf, Z, hZ, ⟨r0, r1, r2, r3⟩, z1, z2, z3⟩ := FR.out.fin PA.out NZ
      have gzz : w4.grownBy Z (some w.heap.size) := by rw [hZ]; exact (((grown_set w4 _ 0 _).trans (grown_set _ _ 1 _)).trans (grown_set _ _ 2 _)).trans (grown_set _ _ 3 _)
      have z4 : FNode w.heap.size Z (.agg #[.int .u8 1, .string (Ln.bs []), .int .i64 0, .slice va vL vc]) (xs.map N1.tr) := ⟨_, xs, rfl, rfl, by omega, (RW.out.go gzz (by omega)).less (by omega)⟩
      have HF : Hid (w.grownBy Z (some b) ∧ FEndO lv l w (.returned (.agg #[.int .u8 1, .string (Ln.bs []), .int .i64 0, .slice va vL vc])) Z) := ⟨z1, .inr ⟨_, l2, _, HE.out _ ⟨1, by simp [K5.out]⟩, rfl, z4⟩⟩
      rw [show Ln.bs [] = (⟨#[]⟩ : ByteArray) from rfl] at p2 p3 hZ r1 HF
      clear z1 z2 z3 z4 gzz NZ hvL
      gi_wp2
      rw [← hZ]
      refine bodyPost_ret (v := .agg #[.int .u8 1, .string ⟨#[]⟩, .int .i64 0, .slice va vL vc]) (by simp [results, Tryz.results29, go_sem, r0, r1, r2, r3]) rfl HF.out
    case neg =>
      have d5 : (((Ps.hd l2).kind : Int) == 5) = false := by simpa using (by omega : ¬ ((Ps.hd l2).kind : Int) = 5)
      have d5' : (((Ps.hd l2).kind : Int) != 5) = true := by simpa using (by omega : ¬ ((Ps.hd l2).kind : Int) = 5)
      obtain ⟨w4, hw4⟩ : ∃ w4, w4 = w3 := ⟨_, rfl⟩
      subst hw4
      have bd : Below w4.heap.size w4 w4.drew := below_draw w4 1
      replace FR : Hid (Frm w b w4.drew) := FR.out.below bd
      replace PA : Hid (PAt b l2 (lv) w4.drew) := PA.out.below bd
      replace BQ : Hid (w4.drew.heap[q]? = some (.cells #[.int .u8 1, .string ⟨#[]⟩, .int .i64 0, v] 26 (0, 0))) := BQ.out
      replace RW : Hid (Rw (q + 1) w4.drew v xs) := RW.out.go (b := b) (grown_low bd) (by have := FR.out.low; omega)
      have HS4 : Hid (_) := pfunc_all l2.length b lv l2 w4.drew ol2 (Nat.le_refl _) hlv PA.out
      have v4 : w4.drew.cell? ⟨q, 3, none⟩ = some v := cells_at BQ.out rfl
      clear bd
      gi_wp2
      refine region_lex (fun _ => True) 1 7 rfl (by kernel_rfl) (by kernel_rfl) (by kernel_rfl) (by kernel_rfl) (fun _ _ d _ _ h => by cases d <;> exact h) trivial ?_
      simp only [List.take_succ_cons, List.take_zero]
      iterate 1 (first
        | (apply lexC_want
           · rfl
           · exact fun _ => rfl
           · (intro w' hw'; go_simp; try rfl)
           simp only [Act.put, List.setIfInBounds_toArray, List.set_cons_zero, List.set_cons_succ]))
      refine lexC_nil ?_
      refine anyC_take (i := 2) (v := .pointer (some ⟨b, 0, none⟩)) rfl rfl (by kernel_rfl) (by kernel_rfl) (by kernel_rfl) (fun _ _ d _ _ h => by cases d <;> exact h) trivial (by rfl) (fun _ => rfl) (by intro w' _; go_simp; try rfl) ?_
      simp only [Act.put, List.getElem_toArray, List.getElem_cons_succ, List.getElem_cons_zero, List.setIfInBounds_toArray, List.set_cons_zero, List.set_cons_succ]
      refine anyC_two (i := 1) (j := 3) (by kernel_rfl) rfl rfl (by rfl) (by rfl) (fun K1 hK1 => ?_) (fun K1 hK1 => ?_)
      · go_simp
        refine hK1 _ _ trivial ?_
        clear hK1 v4
        refine anyC_one (i := 3) (by kernel_rfl) rfl (by rfl) (fun K2 hK2 => ?_)
        go_simp
        refine ⟨trivial, ?_⟩
        refine (callsIn_wide.2 HS4.out).mono ?_
        rintro e w5 ⟨hg5, ⟨E, i, ⟨n2, hn2⟩, rfl⟩ | ⟨t, l3, v9, ⟨n2, hn2⟩, ol5, ln5, hp5, rfl, nd5⟩⟩
        · exact ⟨rfl, FR.out.grown.trans hg5, .inl ⟨_, _, HE.out _ ⟨n2 + 1, by simp [hk5, hn2]⟩, rfl⟩⟩
        obtain ⟨⟨yk, yt, yn, yv, ykids⟩, rfl, rfl, yf, yr⟩ := nd5
        obtain ⟨ya, yc, hyv⟩ := yr.slice
        simp only at hyv
        subst hyv
        obtain ⟨yL, hyL⟩ : ∃ N, N = ykids.length := ⟨_, rfl⟩
        simp only [N1.cells]
        rw [← hyL] at yf yr ⊢
        clear hyL
        have FR5 : Hid (Frm w b w5) := FR.out.go hg5
        have BQ5 : Hid (w5.heap[q]? = some (.cells #[.int .u8 1, .string ⟨#[]⟩, .int .i64 0, v] 26 (0, 0))) := (hg5.block q (Array.getElem?_eq_some_iff.1 BQ.out).1 (by have := FR.out.low; simp; omega)).trans BQ.out
        have RW5 : Hid (Rw (q + 1) w5 v xs) := RW.out.go hg5 (by have := FR.out.low; omega)
        have hq5 : w4.drew.heap.size ≤ w5.heap.size := hg5.size
        have HY5 : Hid ((⟨yk, yt, yn, .slice ya yL yc, ykids⟩ : N1).Fit ∧ RowR (newS w4.drew.heap.size w5.heap.size) w5 (.slice ya yL yc) ykids ∧ w4.drew.grownBy w5 (some b) ∧ PAt b l3 (lv) w5) := ⟨yf, yr, hg5, hp5⟩
        have v5 : w5.cell? ⟨q, 3, none⟩ = some v := cells_at BQ5.out rfl
        clear yf yr hg5 hp5
        refine hK2 _ _ trivial ?_
        clear hK2 v5
        refine anyC_one (i := 4) (by kernel_rfl) rfl (by rfl) (fun K3 hK3 => ?_)
        go_simp
        obtain ⟨R, hR⟩ : ∃ R, R = w5.alloc (.cells #[.int .u8 yk, .string (Ln.bs yt), .int .i64 yn, .slice ya yL yc] 26) := ⟨_, rfl⟩
        have bR : Below w5.heap.size w5 R := hR ▸ below_new w5 _
        have SRC := cells_new w5 [.int .u8 yk, .string (Ln.bs yt), .int .i64 yn, .slice ya yL yc] 26
        have e9 : w5.alloc (.cells #[.int .u8 yk, .string (Ln.bs yt), .int .i64 yn, .slice ya yL yc] 26) = R := hR.symm
        rw [e9] at SRC
        have hlow := FR.out.low
        have hqlt : q < w4.drew.heap.size := (Array.getElem?_eq_some_iff.1 BQ.out).1
        have RWR : Rw (q + 1) R v xs := RW5.out.go (b := b) (grown_low bR) (by omega)
        obtain ⟨v', W', hrun, hown', hgr, -, hat⟩ := run_append_own_at (P := Tryz.prog) R (q + 1) 24 24 26 i0 (.agg #[.int .u8 0, .string ⟨#[]⟩, .int .i64 0, .slice none 0 0]) 4 56 Tryz.underlying24 hi0 hz0 hz1 hz2 rfl (by decide) v xs.length (n1Cells xs) RWR.own ⟨w5.heap.size, 0, none⟩ 1 1 [.int .u8 yk, .string (Ln.bs yt), .int .i64 yn, .slice ya yL yc] rfl SRC (by simp [Value.oneCell']) (by unfold maxLen; omega) (by omega) (by have := bR.size; omega)
        have RWN : Rw (q + 1) W' v' (xs ++ [⟨yk, yt, yn, .slice ya yL yc, ykids⟩]) := by
          refine Rw.app RW.out (V := R) (grown_below HY5.out.2.2.1 bR) (by omega) HY5.out.1 ?_ (by omega) hown' hgr hat
          exact HY5.out.2.1.keep (fun k hk => bR.block k hk.2) (fun _ hk => ⟨hk.1, Nat.lt_of_lt_of_le hk.2 bR.size⟩)
        have BQN := box_rowed ((bR.block q (Array.getElem?_eq_some_iff.1 BQ5.out).1).trans BQ5.out) RWR.own hgr (Nat.lt_succ_self q)
        have FRN := (FR5.out.below bR).rowed RWR.own hgr (by omega)
        have PAN := (HY5.out.2.2.2.below bR).rowed RWR.own hgr
        obtain ⟨Z, hZ⟩ : ∃ Z, Z = W'.setCell ⟨q, 3, none⟩ v' := ⟨_, rfl⟩
        have gZ : W'.grownBy Z (some q) := by rw [hZ]; exact grown_set W' _ _ _
        have HZ : Hid (Frm w b Z ∧ PAt b l3 (lv) Z ∧ Z.heap[q]? = some (.cells #[.int .u8 1, .string ⟨#[]⟩, .int .i64 0, v'] 26 (0, 0)) ∧ Rw (q + 1) Z v' (xs ++ [⟨yk, yt, yn, .slice ya yL yc, ykids⟩])) :=
          ⟨FRN.set gZ hwq, PAN.beside gZ BQN, by rw [hZ]; exact heap_setCell_same W' _ 3 _ _ _ BQN, RWN.go gZ (by omega)⟩
        have vR : R.cell? ⟨q, 3, none⟩ = some v := cells_at ((bR.block q (Array.getElem?_eq_some_iff.1 BQ5.out).1).trans BQ5.out) rfl
        have vc : W'.cell? ⟨q, 3, none⟩ = some v := cells_at BQN rfl
        have vf : W'.frozen? ⟨q, 3, none⟩ = false := frozen_of_row W' _ 3 _ _ BQN
        rw [e9]
        refine hK3 _ _ trivial ?_
        obtain ⟨va', vc', hv'⟩ := slice_shape hown'
        clear hK3 SRC e9 hR bR RWR hown' hgr hat RWN BQN FRN PAN gZ
        clear vR
        refine anyC_one (i := 5) (by kernel_rfl) rfl (by rfl) (fun K4 hK4 => ?_)
        refine op_append _ _ 24 rfl _ _ _ _ rfl rfl hrun (hK4 _ _ trivial ?_)
        clear hK4 hrun
        subst hv'
        refine anyC_one (i := 6) (by kernel_rfl) rfl (by rfl) (fun K6 hK6 => ?_)
        go_simp
        refine hK6 _ _ trivial ?_
        clear hK6
        refine anyC_one (i := 7) (by kernel_rfl) rfl (by rfl) (fun K5 hK5 => ?_)
        go_simp
        rw [← hZ]
        refine hK5 _ _ trivial ?_
        clear hK5 hZ vc vf
        refine anyC_done (by kernel_rfl) ?_
        gi_wp2
        gi_roundg l3.length
        case measure => omega
        case rel =>
          refine ⟨_, xs ++ [⟨yk, yt, yn, .slice ya yL yc, ykids⟩], l3, rfl, ol5, by simp; omega, by omega, HZ.out.1, HZ.out.2.1, HZ.out.2.2.1, HZ.out.2.2.2, fun r hr => HE.out r ?_⟩
          obtain ⟨n3, hn3⟩ := hr
          exact ⟨n2 + n3 + 1, by have e0 := Ps.go_le (show n2 ≤ n2 + n3 by omega) hn2; have e1 := Ps.go_le (show n3 ≤ n2 + n3 by omega) hn3; simp at e0 e1; simp [hk5, e0, e1]⟩
      · go_simp
        refine ⟨trivial, ?_⟩
        refine (callsIn_wide.2 HS4.out).mono ?_
        rintro e w5 ⟨hg5, ⟨E, i, ⟨n2, hn2⟩, rfl⟩ | ⟨t, l3, v9, ⟨n2, hn2⟩, ol5, ln5, hp5, rfl, nd5⟩⟩
        · exact ⟨rfl, FR.out.grown.trans hg5, .inl ⟨_, _, HE.out _ ⟨n2 + 1, by simp [hk5, hn2]⟩, rfl⟩⟩
        obtain ⟨⟨yk, yt, yn, yv, ykids⟩, rfl, rfl, yf, yr⟩ := nd5
        obtain ⟨ya, yc, hyv⟩ := yr.slice
        simp only at hyv
        subst hyv
        obtain ⟨yL, hyL⟩ : ∃ N, N = ykids.length := ⟨_, rfl⟩
        simp only [N1.cells]
        rw [← hyL] at yf yr ⊢
        clear hyL
        have FR5 : Hid (Frm w b w5) := FR.out.go hg5
        have BQ5 : Hid (w5.heap[q]? = some (.cells #[.int .u8 1, .string ⟨#[]⟩, .int .i64 0, v] 26 (0, 0))) := (hg5.block q (Array.getElem?_eq_some_iff.1 BQ.out).1 (by have := FR.out.low; simp; omega)).trans BQ.out
        have RW5 : Hid (Rw (q + 1) w5 v xs) := RW.out.go hg5 (by have := FR.out.low; omega)
        have hq5 : w4.drew.heap.size ≤ w5.heap.size := hg5.size
        have HY5 : Hid ((⟨yk, yt, yn, .slice ya yL yc, ykids⟩ : N1).Fit ∧ RowR (newS w4.drew.heap.size w5.heap.size) w5 (.slice ya yL yc) ykids ∧ w4.drew.grownBy w5 (some b) ∧ PAt b l3 (lv) w5) := ⟨yf, yr, hg5, hp5⟩
        have v5 : w5.cell? ⟨q, 3, none⟩ = some v := cells_at BQ5.out rfl
        clear yf yr hg5 hp5
        refine hK1 _ _ trivial ?_
        clear hK1 v4
        refine anyC_two (i := 1) (j := 4) (by kernel_rfl) rfl rfl (by rfl) (by rfl) (fun K2 hK2 => ?_) (fun K3 hK3 => ?_)
        · go_simp
          refine hK2 _ _ trivial ?_
          clear hK2 v5
          refine anyC_one (i := 4) (by kernel_rfl) rfl (by rfl) (fun K3 hK3 => ?_)
          go_simp
          obtain ⟨R, hR⟩ : ∃ R, R = w5.alloc (.cells #[.int .u8 yk, .string (Ln.bs yt), .int .i64 yn, .slice ya yL yc] 26) := ⟨_, rfl⟩
          have bR : Below w5.heap.size w5 R := hR ▸ below_new w5 _
          have SRC := cells_new w5 [.int .u8 yk, .string (Ln.bs yt), .int .i64 yn, .slice ya yL yc] 26
          have e9 : w5.alloc (.cells #[.int .u8 yk, .string (Ln.bs yt), .int .i64 yn, .slice ya yL yc] 26) = R := hR.symm
          rw [e9] at SRC
          have hlow := FR.out.low
          have hqlt : q < w4.drew.heap.size := (Array.getElem?_eq_some_iff.1 BQ.out).1
          have RWR : Rw (q + 1) R v xs := RW5.out.go (b := b) (grown_low bR) (by omega)
          obtain ⟨v', W', hrun, hown', hgr, -, hat⟩ := run_append_own_at (P := Tryz.prog) R (q + 1) 24 24 26 i0 (.agg #[.int .u8 0, .string ⟨#[]⟩, .int .i64 0, .slice none 0 0]) 4 56 Tryz.underlying24 hi0 hz0 hz1 hz2 rfl (by decide) v xs.length (n1Cells xs) RWR.own ⟨w5.heap.size, 0, none⟩ 1 1 [.int .u8 yk, .string (Ln.bs yt), .int .i64 yn, .slice ya yL yc] rfl SRC (by simp [Value.oneCell']) (by unfold maxLen; omega) (by omega) (by have := bR.size; omega)
          have RWN : Rw (q + 1) W' v' (xs ++ [⟨yk, yt, yn, .slice ya yL yc, ykids⟩]) := by
            refine Rw.app RW.out (V := R) (grown_below HY5.out.2.2.1 bR) (by omega) HY5.out.1 ?_ (by omega) hown' hgr hat
            exact HY5.out.2.1.keep (fun k hk => bR.block k hk.2) (fun _ hk => ⟨hk.1, Nat.lt_of_lt_of_le hk.2 bR.size⟩)
          have BQN := box_rowed ((bR.block q (Array.getElem?_eq_some_iff.1 BQ5.out).1).trans BQ5.out) RWR.own hgr (Nat.lt_succ_self q)
          have FRN := (FR5.out.below bR).rowed RWR.own hgr (by omega)
          have PAN := (HY5.out.2.2.2.below bR).rowed RWR.own hgr
          obtain ⟨Z, hZ⟩ : ∃ Z, Z = W'.setCell ⟨q, 3, none⟩ v' := ⟨_, rfl⟩
          have gZ : W'.grownBy Z (some q) := by rw [hZ]; exact grown_set W' _ _ _
          have HZ : Hid (Frm w b Z ∧ PAt b l3 (lv) Z ∧ Z.heap[q]? = some (.cells #[.int .u8 1, .string ⟨#[]⟩, .int .i64 0, v'] 26 (0, 0)) ∧ Rw (q + 1) Z v' (xs ++ [⟨yk, yt, yn, .slice ya yL yc, ykids⟩])) :=
            ⟨FRN.set gZ hwq, PAN.beside gZ BQN, by rw [hZ]; exact heap_setCell_same W' _ 3 _ _ _ BQN, RWN.go gZ (by omega)⟩
          have vR : R.cell? ⟨q, 3, none⟩ = some v := cells_at ((bR.block q (Array.getElem?_eq_some_iff.1 BQ5.out).1).trans BQ5.out) rfl
          have vc : W'.cell? ⟨q, 3, none⟩ = some v := cells_at BQN rfl
          have vf : W'.frozen? ⟨q, 3, none⟩ = false := frozen_of_row W' _ 3 _ _ BQN
          rw [e9]
          refine hK3 _ _ trivial ?_
          obtain ⟨va', vc', hv'⟩ := slice_shape hown'
          clear hK3 SRC e9 hR bR RWR hown' hgr hat RWN BQN FRN PAN gZ
          clear vR
          refine anyC_one (i := 5) (by kernel_rfl) rfl (by rfl) (fun K4 hK4 => ?_)
          refine op_append _ _ 24 rfl _ _ _ _ rfl rfl hrun (hK4 _ _ trivial ?_)
          clear hK4 hrun
          subst hv'
          refine anyC_one (i := 6) (by kernel_rfl) rfl (by rfl) (fun K6 hK6 => ?_)
          go_simp
          refine hK6 _ _ trivial ?_
          clear hK6
          refine anyC_one (i := 7) (by kernel_rfl) rfl (by rfl) (fun K5 hK5 => ?_)
          go_simp
          rw [← hZ]
          refine hK5 _ _ trivial ?_
          clear hK5 hZ vc vf
          refine anyC_done (by kernel_rfl) ?_
          gi_wp2
          gi_roundg l3.length
          case measure => omega
          case rel =>
            refine ⟨_, xs ++ [⟨yk, yt, yn, .slice ya yL yc, ykids⟩], l3, rfl, ol5, by simp; omega, by omega, HZ.out.1, HZ.out.2.1, HZ.out.2.2.1, HZ.out.2.2.2, fun r hr => HE.out r ?_⟩
            obtain ⟨n3, hn3⟩ := hr
            exact ⟨n2 + n3 + 1, by have e0 := Ps.go_le (show n2 ≤ n2 + n3 by omega) hn2; have e1 := Ps.go_le (show n3 ≤ n2 + n3 by omega) hn3; simp at e0 e1; simp [hk5, e0, e1]⟩
        · clear v5
          go_simp
          obtain ⟨R, hR⟩ : ∃ R, R = w5.alloc (.cells #[.int .u8 yk, .string (Ln.bs yt), .int .i64 yn, .slice ya yL yc] 26) := ⟨_, rfl⟩
          have bR : Below w5.heap.size w5 R := hR ▸ below_new w5 _
          have SRC := cells_new w5 [.int .u8 yk, .string (Ln.bs yt), .int .i64 yn, .slice ya yL yc] 26
          have e9 : w5.alloc (.cells #[.int .u8 yk, .string (Ln.bs yt), .int .i64 yn, .slice ya yL yc] 26) = R := hR.symm
          rw [e9] at SRC
          have hlow := FR.out.low
          have hqlt : q < w4.drew.heap.size := (Array.getElem?_eq_some_iff.1 BQ.out).1
          have RWR : Rw (q + 1) R v xs := RW5.out.go (b := b) (grown_low bR) (by omega)
          obtain ⟨v', W', hrun, hown', hgr, -, hat⟩ := run_append_own_at (P := Tryz.prog) R (q + 1) 24 24 26 i0 (.agg #[.int .u8 0, .string ⟨#[]⟩, .int .i64 0, .slice none 0 0]) 4 56 Tryz.underlying24 hi0 hz0 hz1 hz2 rfl (by decide) v xs.length (n1Cells xs) RWR.own ⟨w5.heap.size, 0, none⟩ 1 1 [.int .u8 yk, .string (Ln.bs yt), .int .i64 yn, .slice ya yL yc] rfl SRC (by simp [Value.oneCell']) (by unfold maxLen; omega) (by omega) (by have := bR.size; omega)
          have RWN : Rw (q + 1) W' v' (xs ++ [⟨yk, yt, yn, .slice ya yL yc, ykids⟩]) := by
            refine Rw.app RW.out (V := R) (grown_below HY5.out.2.2.1 bR) (by omega) HY5.out.1 ?_ (by omega) hown' hgr hat
            exact HY5.out.2.1.keep (fun k hk => bR.block k hk.2) (fun _ hk => ⟨hk.1, Nat.lt_of_lt_of_le hk.2 bR.size⟩)
          have BQN := box_rowed ((bR.block q (Array.getElem?_eq_some_iff.1 BQ5.out).1).trans BQ5.out) RWR.own hgr (Nat.lt_succ_self q)
          have FRN := (FR5.out.below bR).rowed RWR.own hgr (by omega)
          have PAN := (HY5.out.2.2.2.below bR).rowed RWR.own hgr
          obtain ⟨Z, hZ⟩ : ∃ Z, Z = W'.setCell ⟨q, 3, none⟩ v' := ⟨_, rfl⟩
          have gZ : W'.grownBy Z (some q) := by rw [hZ]; exact grown_set W' _ _ _
          have HZ : Hid (Frm w b Z ∧ PAt b l3 (lv) Z ∧ Z.heap[q]? = some (.cells #[.int .u8 1, .string ⟨#[]⟩, .int .i64 0, v'] 26 (0, 0)) ∧ Rw (q + 1) Z v' (xs ++ [⟨yk, yt, yn, .slice ya yL yc, ykids⟩])) :=
            ⟨FRN.set gZ hwq, PAN.beside gZ BQN, by rw [hZ]; exact heap_setCell_same W' _ 3 _ _ _ BQN, RWN.go gZ (by omega)⟩
          have vR : R.cell? ⟨q, 3, none⟩ = some v := cells_at ((bR.block q (Array.getElem?_eq_some_iff.1 BQ5.out).1).trans BQ5.out) rfl
          have vc : W'.cell? ⟨q, 3, none⟩ = some v := cells_at BQN rfl
          have vf : W'.frozen? ⟨q, 3, none⟩ = false := frozen_of_row W' _ 3 _ _ BQN
          rw [e9]
          refine hK3 _ _ trivial ?_
          obtain ⟨va', vc', hv'⟩ := slice_shape hown'
          clear hK3 SRC e9 hR bR RWR hown' hgr hat RWN BQN FRN PAN gZ
          refine anyC_one (i := 1) (by kernel_rfl) rfl (by rfl) (fun K7 hK7 => ?_)
          go_simp
          refine hK7 _ _ trivial ?_
          clear hK7
          clear vR
          refine anyC_one (i := 5) (by kernel_rfl) rfl (by rfl) (fun K4 hK4 => ?_)
          refine op_append _ _ 24 rfl _ _ _ _ rfl rfl hrun (hK4 _ _ trivial ?_)
          clear hK4 hrun
          subst hv'
          refine anyC_one (i := 6) (by kernel_rfl) rfl (by rfl) (fun K6 hK6 => ?_)
          go_simp
          refine hK6 _ _ trivial ?_
          clear hK6
          refine anyC_one (i := 7) (by kernel_rfl) rfl (by rfl) (fun K5 hK5 => ?_)
          go_simp
          rw [← hZ]
          refine hK5 _ _ trivial ?_
          clear hK5 hZ vc vf
          refine anyC_done (by kernel_rfl) ?_
          gi_wp2
          gi_roundg l3.length
          case measure => omega
          case rel =>
            refine ⟨_, xs ++ [⟨yk, yt, yn, .slice ya yL yc, ykids⟩], l3, rfl, ol5, by simp; omega, by omega, HZ.out.1, HZ.out.2.1, HZ.out.2.2.1, HZ.out.2.2.2, fun r hr => HE.out r ?_⟩
            obtain ⟨n3, hn3⟩ := hr
            exact ⟨n2 + n3 + 1, by have e0 := Ps.go_le (show n2 ≤ n2 + n3 by omega) hn2; have e1 := Ps.go_le (show n3 ≤ n2 + n3 by omega) hn3; simp at e0 e1; simp [hk5, e0, e1]⟩
end Go.Proofs.YtdaaecnmllpgdaaGreatDoor

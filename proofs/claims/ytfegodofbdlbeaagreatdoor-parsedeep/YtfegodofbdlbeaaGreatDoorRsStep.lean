/-
  The walks of the reader's steps: a fault, what must stand there, levels, names.
-/
import Derived.Test.YtfegodofbdlbeaaGreatDoorRsBase
namespace Go.Proofs.YtfegodofbdlbeaaGreatDoor
open Go.RowKit Go.Shelf
open Rs (St)

attribute [local go_sem] Oper.semAt_some

/-- The reader has come so far. -/
def RStep (b : Nat) (L : List Lx.Tok) (s : St) (w w' : World) : Prop := w.grownBy w' (some b) ∧ RAt b L s w'
theorem RStep.low {b : Nat} {L : List Lx.Tok} {s : St} {w w' : World} (h : RAt b L s w) (hb : Below w.heap.size w w') : RStep b L s w w' := ⟨grown_low hb, h.below hb⟩
theorem RStep.then {b : Nat} {L : List Lx.Tok} {s s' : St} {w w1 w2 : World} (h : RStep b L s w w1) (k : RStep b L s' w1 w2) : RStep b L s' w w2 := ⟨h.1.trans k.1, k.2⟩

set_option maxRecDepth 100000 in
set_option maxHeartbeats 4000000 in
theorem rfail_any (b : Nat) (L : List Lx.Tok) (s : St) (e : Nat) (w : World) (h : RAt b L s w) (hg : Rs.Good L s) : Calls Tryz.prog 67 #[.pointer (some ⟨b, 0, none⟩), .int .i64 e] w fun r w' => r = .returned (.tuple #[]) ∧ RStep b L (Rs.fail L s e) w w' := by
  obtain ⟨tb, c, c0, c1, -, c3, c4, cf, ⟨hl0, hl1, hl2, htb, hb⟩, t0, t1, t2, hh, nx⟩ := h.cells hg
  by_cases hE : s.E = 0
  · have e0 : ((s.E : Int) == 0) = true := by rw [hE]; rfl
    obtain ⟨Y, hY⟩ : ∃ Y, Y = (w.setCell ⟨b, 3, none⟩ (.int .i64 e)).setCell ⟨b, 4, none⟩ (.int .i64 (Ps.hd (Rs.rest L s)).at_) := ⟨_, rfl⟩
    have hh1 := heap_setCell_same w b 3 _ 46 (.int .i64 e) hh
    have hh2 := heap_setCell_same _ b 4 _ 46 (.int .i64 (Ps.hd (Rs.rest L s)).at_) hh1
    have g0 : w.grownBy Y (some b) := by rw [hY]; exact (grown_set w b 3 _).trans (grown_set _ b 4 _)
    have HF : Hid (RStep b L (Rs.fail L s e) w Y.drew) := by
      have gd : w.grownBy Y.drew (some b) := g0.trans (grown_low (below_draw Y 1))
      refine ⟨gd, nx _ Y.drew gd ?_⟩
      show Y.heap[b]? = _
      rw [hY]
      refine hh2.trans ?_
      unfold Rs.fail
      rw [if_pos hE]
      rfl
    have k1 : (w.setCell ⟨b, 3, none⟩ (.int .i64 e)).cell? ⟨b, 4, none⟩ = some (.int .i64 s.i) := cells_at hh1 rfl
    obtain ⟨N, hN⟩ : ∃ N, N = L.length := ⟨_, rfl⟩
    rw [← hN] at c0 hl0 hl1 hl2
    have hlI : (s.k : Int) < N := by omega
    clear h hg hh hh1 hh2 g0 nx hN hE
    go_enter Tryz.func67, Tryz.ntmps67
    go_wp2
    go_region
    rw [← hY]
    go_wp2
    go_end0
    exact ⟨rfl, HF.out⟩
  · have e0 : ((s.E : Int) == 0) = false := by simpa using hE
    have HF : Hid (RStep b L (Rs.fail L s e) w w) := ⟨grown_refl w b, by unfold Rs.fail; rw [if_neg hE]; exact h⟩
    clear h hg hh nx hE
    go_enter Tryz.func67, Tryz.ntmps67
    go_wp2
    go_end0
    exact ⟨rfl, HF.out⟩

/-- One token on. -/
theorem radv {b : Nat} {L : List Lx.Tok} {s : St} {W : World} (h : RAt b L s W) (hg : Rs.Good L s) : W.cell? ⟨b, 1, none⟩ = some (.int .i64 s.k) ∧ W.frozen? ⟨b, 1, none⟩ = false ∧ Go.IntKind.i64.wrap ((s.k : Int) + 1) = (s.k : Int) + 1 ∧ ∃ Y, Y = W.setCell ⟨b, 1, none⟩ (.int .i64 ((s.k : Int) + 1)) ∧ RStep b L (Rs.adv s) W Y := by
  obtain ⟨tb, c, c0, c1, -, c3, c4, cf, ⟨hl0, hl1, hl2, htb, hb⟩, t0, t1, t2, hh, nx⟩ := h.cells hg
  refine ⟨c1, cf 1, by rw [IntKind.wrap_i64]; omega, _, rfl, grown_set W b 1 _, nx _ _ (grown_set W b 1 _) ?_⟩
  have := heap_setCell_same W b 1 _ 46 (.int .i64 ((s.k : Int) + 1)) hh
  refine this.trans ?_
  show some (Obj.cells #[.slice (some ⟨tb, 0, none⟩) L.length c, .int .i64 ((s.k : Int) + 1), .int .i64 s.o, .int .i64 s.E, .int .i64 s.i] _ (0, 0)) = _
  rfl
/-- A level more, or less. -/
theorem rlev {b : Nat} {L : List Lx.Tok} {s : St} {W : World} (h : RAt b L s W) (hg : Rs.Good L s) (z : Int) : W.cell? ⟨b, 2, none⟩ = some (.int .i64 s.o) ∧ W.frozen? ⟨b, 2, none⟩ = false ∧ ∃ Y, Y = W.setCell ⟨b, 2, none⟩ (.int .i64 z) ∧ RStep b L ⟨s.k, z, s.E, s.i⟩ W Y := by
  obtain ⟨tb, c, c0, c1, c2, c3, c4, cf, ⟨hl0, hl1, hl2, htb, hb⟩, t0, t1, t2, hh, nx⟩ := h.cells hg
  exact ⟨c2, cf 2, _, rfl, grown_set W b 2 _, nx _ _ (grown_set W b 2 _) (heap_setCell_same W b 2 _ 46 (.int .i64 z) hh)⟩

set_option maxRecDepth 100000 in
set_option maxHeartbeats 4000000 in
theorem rwant_any (b : Nat) (L : List Lx.Tok) (s : St) (t : List UInt8) (w : World) (h : RAt b L s w) (hg : Rs.Good L s) (hK : Known L) (ht : t ∈ Lx.words ++ Lx.signs) : Calls Tryz.prog 37 #[.pointer (some ⟨b, 0, none⟩), .string (Ln.bs t)] w fun r w' => r = .returned (.tuple #[]) ∧ RStep b L (Rs.want L s t) w w' := by
  have HI : Hid (_) := ris_any b L s t w h hg hK ht
  have HA : Hid (RAt b L s w) := h
  have HG : Hid (Rs.Good L s) := hg
  clear h hg hK ht
  go_enter Tryz.func37, Tryz.ntmps37
  go_wp2_with fail
  refine Calls.mono HI.out ?_
  rintro r w1 ⟨rfl, b1⟩
  clear HI
  cases hB : Rs.isB L s t
  · have HF : Hid (_) := rfail_any b L s 102 w1 (HA.out.below b1) HG.out
    have HB : Hid (Below w.heap.size w w1 ∧ Rs.isB L s t = false) := ⟨b1, hB⟩
    clear b1 hB
    go_wp2_with fail
    refine Calls.mono HF.out ?_
    rintro r w2 ⟨rfl, h2⟩
    have HE : Hid (RStep b L (Rs.want L s t) w w2) := by
      have e : Rs.want L s t = Rs.fail L s 102 := by unfold Rs.want; rw [HB.out.2]; rfl
      rw [e]
      exact (RStep.low HA.out HB.out.1).then h2
    clear h2 HF
    go_wp2
    refine bodyPost_ret (results_none rfl _ _ _) rfl ⟨rfl, HE.out⟩
  · obtain ⟨k1, k2, k3, Y, hY, st⟩ := radv (HA.out.below b1) HG.out
    have HE : Hid (RStep b L (Rs.want L s t) w Y) := by
      have e : Rs.want L s t = Rs.adv s := by unfold Rs.want; rw [hB]; rfl
      rw [e]
      exact (RStep.low HA.out b1).then st
    clear b1 hB st
    go_wp2
    rw [← hY]
    go_end0
    exact ⟨rfl, HE.out⟩

set_option maxRecDepth 100000 in
set_option maxHeartbeats 4000000 in
theorem rbegin_any (b : Nat) (L : List Lx.Tok) (s : St) (t : List UInt8) (w : World) (h : RAt b L s w) (hg : Rs.Good L s) (hK : Known L) (ht : t ∈ Lx.words ++ Lx.signs) : Calls Tryz.prog 39 #[.pointer (some ⟨b, 0, none⟩), .string (Ln.bs t)] w fun r w' => r = .returned (.tuple #[]) ∧ RStep b L (Rs.begin L s t) w w' := by
  have HI : Hid (_) := ris_any b L s t w h hg hK ht
  have HA : Hid (RAt b L s w) := h
  have HG : Hid (Rs.Good L s) := hg
  clear h hg hK ht
  go_enter Tryz.func39, Tryz.ntmps39
  go_wp2_with fail
  refine Calls.mono HI.out ?_
  rintro r w1 ⟨rfl, b1⟩
  clear HI
  cases hB : Rs.isB L s t
  · have HF : Hid (_) := rfail_any b L s 102 w1 (HA.out.below b1) HG.out
    have HB : Hid (Below w.heap.size w w1 ∧ Rs.isB L s t = false) := ⟨b1, hB⟩
    clear b1 hB
    go_wp2_with fail
    refine Calls.mono HF.out ?_
    rintro r w2 ⟨rfl, h2⟩
    have HE : Hid (RStep b L (Rs.begin L s t) w w2) := by
      have e : Rs.begin L s t = Rs.fail L s 102 := by unfold Rs.begin; rw [HB.out.2]; rfl
      rw [e]
      exact (RStep.low HA.out HB.out.1).then h2
    clear h2 HF
    go_wp2
    refine bodyPost_ret (results_none rfl _ _ _) rfl ⟨rfl, HE.out⟩
  · obtain ⟨k1, k2, Y, hY, st⟩ := rlev (HA.out.below b1) HG.out (Rs.wr (s.o + 1))
    have HB : Hid (Below w.heap.size w w1 ∧ Rs.isB L s t = true) := ⟨b1, hB⟩
    by_cases h120 : 120 ≤ s.o
    · have d1 : decide ((120 : Int) ≤ s.o) = true := decide_eq_true h120
      have HF : Hid (_) := rfail_any b L s 103 w1 (HA.out.below b1) HG.out
      have H12 : Hid ((120 : Int) ≤ s.o) := h120
      clear b1 hB st h120 hY
      go_wp2_with fail
      refine Calls.mono HF.out ?_
      rintro r w2 ⟨rfl, h2⟩
      have HE : Hid (RStep b L (Rs.begin L s t) w w2) := by
        have e : Rs.begin L s t = Rs.fail L s 103 := by unfold Rs.begin; rw [HB.out.2, if_pos rfl, if_pos H12.out]
        rw [e]
        exact (RStep.low HA.out HB.out.1).then h2
      clear h2 HF
      go_wp2
      refine bodyPost_ret (results_none rfl _ _ _) rfl ⟨rfl, HE.out⟩
    · have d1 : decide ((120 : Int) ≤ s.o) = false := decide_eq_false h120
      have hgY : Rs.Good L ⟨s.k, Rs.wr (s.o + 1), s.E, s.i⟩ := ⟨HG.out.ends, fun he => by
        have := HG.out.lev he
        show 0 ≤ Rs.wr (s.o + 1) ∧ Rs.wr (s.o + 1) ≤ 120
        rw [Rs.wr_in (by omega)]
        omega⟩
      obtain ⟨m1, m2, m3, Z, hZ, st2⟩ := radv st.2 hgY
      have HE : Hid (RStep b L (Rs.begin L s t) w Z) := by
        have e : Rs.begin L s t = Rs.adv ⟨s.k, Rs.wr (s.o + 1), s.E, s.i⟩ := by unfold Rs.begin Rs.adv; rw [hB, if_pos rfl, if_neg h120]
        rw [e]
        exact ((RStep.low HA.out b1).then st).then st2
      have hw : Go.IntKind.i64.wrap (s.o + 1) = Rs.wr (s.o + 1) := rfl
      obtain ⟨z, hz⟩ : ∃ z, z = Rs.wr (s.o + 1) := ⟨_, rfl⟩
      rw [← hz] at hw hY
      rw [hY] at m1 m2 hZ
      clear b1 hB st st2 hgY h120 hz hY
      go_wp2
      rw [← hZ]
      go_end0
      exact ⟨rfl, HE.out⟩

set_option maxRecDepth 100000 in
set_option maxHeartbeats 4000000 in
theorem rend_any (b : Nat) (L : List Lx.Tok) (s : St) (t : List UInt8) (w : World) (h : RAt b L s w) (hg : Rs.Good L s) (hK : Known L) (ht : t ∈ Lx.words ++ Lx.signs) (hne : t ≠ []) : Calls Tryz.prog 41 #[.pointer (some ⟨b, 0, none⟩), .string (Ln.bs t)] w fun r w' => r = .returned (.tuple #[]) ∧ RStep b L (Rs.endd L s t) w w' := by
  have HW : Hid (_) := rwant_any b L s t w h hg hK ht
  have HG : Hid (Rs.Good L (Rs.want L s t)) := Rs.want_good hg hne
  clear h hg hK ht
  go_enter Tryz.func41, Tryz.ntmps41
  go_wp2_with fail
  refine Calls.mono HW.out ?_
  rintro r w1 ⟨rfl, h1⟩
  clear HW
  obtain ⟨k1, k2, Y, hY, st⟩ := rlev h1.2 HG.out (Rs.wr ((Rs.want L s t).o - 1))
  have HE : Hid (RStep b L (Rs.endd L s t) w Y) := h1.then st
  have hw : Go.IntKind.i64.wrap ((Rs.want L s t).o - 1) = Rs.wr ((Rs.want L s t).o - 1) := rfl
  obtain ⟨z, hz⟩ : ∃ z, z = Rs.wr ((Rs.want L s t).o - 1) := ⟨_, rfl⟩
  rw [← hz] at hw hY
  clear h1 st hz
  go_wp2
  rw [← hY]
  go_end0
  exact ⟨rfl, HE.out⟩

set_option maxRecDepth 100000 in
set_option maxHeartbeats 4000000 in
theorem rkind_any (b : Nat) (L : List Lx.Tok) (s : St) (q : Nat) (w : World) (h : RAt b L s w) (hg : Rs.Good L s) : Calls Tryz.prog 68 #[.pointer (some ⟨b, 0, none⟩), .int .u8 q] w fun r w' => r = .returned (.string (Ln.bs (Rs.kindT L s q))) ∧ RStep b L (Rs.kindS L s q) w w' := by
  obtain ⟨tb, c, c0, c1, -, c3, c4, cf, ⟨hl0, hl1, hl2, htb, hb⟩, t0, t1, t2, hh, nx⟩ := h.cells hg
  by_cases hE : ¬ s.E = 0
  · have e0 : ((s.E : Int) != 0) = true := by simpa using hE
    have HF : Hid (Rs.kindT L s q = [] ∧ RStep b L (Rs.kindS L s q) w w) := ⟨by unfold Rs.kindT; rw [if_neg (fun h => hE h.1)], grown_refl w b, by unfold Rs.kindS; rw [if_neg hE]; exact h⟩
    clear h hg hh nx hE
    go_enter Tryz.func68, Tryz.ntmps68
    go_wp2
    go_ret
    exact ⟨by rw [HF.out.1]; rfl, HF.out.2⟩
  have hE : s.E = 0 := by simpa using hE
  have e0 : ((s.E : Int) != 0) = false := by rw [hE]; rfl
  obtain ⟨V, hV⟩ : ∃ V, V = (w.alloc (.cells #[.int .u8 (Ps.hd (Rs.rest L s)).kind, .string (Ln.bs (Ps.hd (Rs.rest L s)).text), .int .i64 (Ps.hd (Rs.rest L s)).at_] 49)).drew := ⟨_, rfl⟩
  have bV : Below w.heap.size w V := by rw [hV]; exact below_drewN (below_new w _) 1
  have hVt : V.heap[w.heap.size]? = some (.cells #[.int .u8 (Ps.hd (Rs.rest L s)).kind, .string (Ln.bs (Ps.hd (Rs.rest L s)).text), .int .i64 (Ps.hd (Rs.rest L s)).at_] 49 (0, 0)) := by rw [hV]; exact World.alloc_heap_new w _
  have HA : Hid (RAt b L s V ∧ Rs.Good L s) := ⟨h.below bV, hg⟩
  have HA0 : Hid (RAt b L s w) := h
  have v0 : V.cell? ⟨w.heap.size, 0, none⟩ = some (.int .u8 (Ps.hd (Rs.rest L s)).kind) := cells_at hVt rfl
  have HVT : Hid (_) := hVt
  have HBV : Hid (Below w.heap.size w V) := bV
  obtain ⟨N, hN⟩ : ∃ N, N = L.length := ⟨_, rfl⟩
  rw [← hN] at c0 hl0 hl1 hl2
  have hlI : (s.k : Int) < N := by omega
  have HE0 : Hid (s.E = 0) := hE
  clear h hg hh nx hE hN bV hVt
  go_enter Tryz.func68, Tryz.ntmps68
  go_wp2
  go_region
  rw [← hV]
  clear hV
  by_cases hk : (Ps.hd (Rs.rest L s)).kind = q
  · have e1 : (((Ps.hd (Rs.rest L s)).kind : Int) != (q : Int)) = false := by rw [hk]; simp
    obtain ⟨k1, k2, k3, Y, hY, st⟩ := radv HA.out.1 HA.out.2
    have yt := (st.1.block w.heap.size (Array.getElem?_eq_some_iff.1 HVT.out).1 (by simp; omega)).trans HVT.out
    have y1 : Y.cell? ⟨w.heap.size, 1, none⟩ = some (.string (Ln.bs (Ps.hd (Rs.rest L s)).text)) := cells_at yt rfl
    have HE : Hid (Rs.kindT L s q = (Ps.hd (Rs.rest L s)).text ∧ RStep b L (Rs.kindS L s q) w Y) := by
      refine ⟨by unfold Rs.kindT; rw [if_pos ⟨HE0.out, hk⟩], ?_⟩
      have e : Rs.kindS L s q = Rs.adv s := by unfold Rs.kindS; rw [if_pos HE0.out, if_pos hk]
      rw [e]
      exact (RStep.low HA0.out HBV.out).then st
    have n9 : w.heap.size ≠ b := by omega
    rw [hY] at y1
    clear st yt hk
    go_wp2
    rw [← hY]
    go_ret
    exact ⟨by rw [HE.out.1]; rfl, HE.out.2⟩
  · have e1 : (((Ps.hd (Rs.rest L s)).kind : Int) != (q : Int)) = true := by simpa using (by omega : ¬ ((Ps.hd (Rs.rest L s)).kind : Int) = (q : Int))
    have HF : Hid (_) := rfail_any b L s 102 V HA.out.1 HA.out.2
    have HKQ : Hid ((Ps.hd (Rs.rest L s)).kind ≠ q) := hk
    clear hk
    go_wp2_with fail
    refine Calls.mono HF.out ?_
    rintro r w2 ⟨rfl, h2⟩
    have HE : Hid (Rs.kindT L s q = [] ∧ RStep b L (Rs.kindS L s q) w w2) := by
      refine ⟨by unfold Rs.kindT; rw [if_neg (fun h => HKQ.out h.2)], ?_⟩
      have e : Rs.kindS L s q = Rs.fail L s 102 := by unfold Rs.kindS; rw [if_pos HE0.out, if_neg HKQ.out]
      rw [e]
      exact (RStep.low HA0.out HBV.out).then h2
    clear h2 HF
    go_wp2
    go_ret
    exact ⟨by rw [HE.out.1]; rfl, HE.out.2⟩
end Go.Proofs.YtfegodofbdlbeaaGreatDoor

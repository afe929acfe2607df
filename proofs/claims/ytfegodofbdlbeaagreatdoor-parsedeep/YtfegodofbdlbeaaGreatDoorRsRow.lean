/-
  The walk of the reader's row: operands with signs between.
-/
import Derived.Test.YtfegodofbdlbeaaGreatDoorRsUnary
namespace Go.Proofs.YtfegodofbdlbeaaGreatDoor
open Go.RowKit Go.Shelf
open Rs (St)

attribute [local go_sem] Oper.semAt_some

namespace Rs
/-- The sign among the first i. -/
def pick (S : List (List UInt8)) (T : List UInt8) (i : Nat) : List UInt8 := if (S.take i).contains T then T else []
theorem pick_at {S : List (List UInt8)} {T t : List UInt8} {i : Nat} (h : S[i]? = some t) : pick S T (i + 1) = if T = t then t else pick S T i := by
  unfold pick
  have hc : ((S.take (i + 1)).contains T) = ((S.take i).contains T || decide (T = t)) := by
    rw [List.take_add_one, h, Option.toList_some, Bool.eq_iff_iff]
    simp
  rw [hc]
  by_cases e : T = t
  · subst e; simp
  · simp [e]
theorem pick_all {S : List (List UInt8)} {T : List UInt8} : pick S T S.length = if S.contains T then T else [] := by unfold pick; rw [List.take_length]
end Rs
/-- A row of texts, in a block of its own. -/
def RowB (W : World) (r : Nat) (S : List (List UInt8)) : Prop := W.heap[r]? = some (.cells (S.map txtV).toArray 9 (0, 0))
theorem RowB.go {W W' : World} {b r : Nat} {S : List (List UInt8)} (h : RowB W r S) (hg : W.grownBy W' (some b)) (hb : b < r) : RowB W' r S := (hg.block r (Array.getElem?_eq_some_iff.1 h).1 (by simp; omega)).trans h
theorem RowB.set {W W' : World} {q r : Nat} {S : List (List UInt8)} (h : RowB W r S) (hg : W.grownBy W' (some q)) (hb : r < q) : RowB W' r S := (hg.block r (Array.getElem?_eq_some_iff.1 h).1 (by simp; omega)).trans h
theorem RowB.at {W : World} {r i : Nat} {S : List (List UInt8)} {t : List UInt8} (h : RowB W r S) (ht : S[i]? = some t) : W.cell? ⟨r, i, none⟩ = some (.string (Ln.bs t)) := cells_at h (by rw [List.getElem?_toArray, List.getElem?_map, ht]; rfl)
/-- What row does at a level. -/
def RowDo (k m : Nat) : Prop := ∀ (b : Nat) (L : List Lx.Tok) (s : St) (w : World) (r N : Nat), Known L → Rs.Good L s → RAt b L s w → (s.E = 0 → (Rs.rest L s).length ≤ m) → b < r → RowB w r (Ps.ops k) → (Ps.ops k).length = N →
  Calls Tryz.prog 105 #[.pointer (some ⟨b, 0, none⟩), .slice (some ⟨r, 0, none⟩) N N, .int .i64 k] w fun e w' => w.grownBy w' (some b) ∧ REnd L (.bin k) b s w e w'
theorem ops_known : ∀ k t, t ∈ Ps.ops k → t ∈ Lx.words ++ Lx.signs
  | 0, t, h => (by decide : ∀ t ∈ Ps.ops 0, t ∈ Lx.words ++ Lx.signs) t h
  | 1, t, h => (by decide : ∀ t ∈ Ps.ops 1, t ∈ Lx.words ++ Lx.signs) t h
  | 2, t, h => (by decide : ∀ t ∈ Ps.ops 2, t ∈ Lx.words ++ Lx.signs) t h
  | 3, t, h => (by decide : ∀ t ∈ Ps.ops 3, t ∈ Lx.words ++ Lx.signs) t h
  | _ + 4, t, h => (by decide : ∀ t ∈ Ps.ops 4, t ∈ Lx.words ++ Lx.signs) t h
theorem ops_few : ∀ k, (Ps.ops k).length ≤ 6
  | 0 => by decide
  | 1 => by decide
  | 2 => by decide
  | 3 => by decide
  | _ + 4 => by show (Ps.ops 4).length ≤ 6; decide

set_option maxRecDepth 100000 in
set_option maxHeartbeats 8000000 in
theorem rrow_of (m k : Nat) (hk : k < 5) (hop : RDo 112 (.bin (k + 1)) [.int .i64 k] m) : RowDo k m := by
  intro b L s w r N hK hG hR hm hbr hrow hN
  obtain ⟨A, hA⟩ : ∃ A, A = w.alloc (.cells #[.int .u8 0, .string ⟨#[]⟩, .int .i64 0, .slice none 0 0] 26) := ⟨_, rfl⟩
  have FR : Hid (Frm w b A) := hA ▸ RFrm.new hR
  have PA : Hid (RAt b L (s) A) := hA ▸ hR.below (below_new w _)
  have KN : Hid (Known L) := hK
  have GD : Hid (Rs.Good L (s)) := hG
  have G0 : Hid (Rs.Good L s) := hG
  have HM : Hid (s.E = 0 → (Rs.rest L s).length ≤ m) := hm
  have Hhop : Hid (RDo 112 (.bin (k + 1)) [.int .i64 k] m) := hop
  clear hR hK hG hm hop
  have HRW : Hid (RowB A r (Ps.ops k)) := hA ▸ hrow.go (b := b) (grown_low (below_new w _)) hbr
  have hrw : r < w.heap.size := (Array.getElem?_eq_some_iff.1 hrow).1
  have HNL : Hid ((Ps.ops k).length = N) := hN
  have hN6 : N ≤ 6 := hN ▸ ops_few k
  have hlow : b < w.heap.size := FR.out.low
  clear hrow hN
  go_enter Tryz.func105, Tryz.ntmps105
  go_wp2_with fail
  rw [← hA]
  clear hA
  have HC1 : Hid (_) := Hhop.out b L (s) A KN.out GD.out PA.out (HM.out)
  refine Calls.mono HC1.out ?_
  rintro e w2 ⟨hg3, tx, vx, sx, rfl, ra4, relx, nd5⟩
  have hX : ∀ q ∈ ([] : List Nat), q < A.heap.size := by
    intro q hq
    cases hq
  obtain ⟨xk, xt, xn, xa, xL, xc, xkids, rfl, rfl, nf⟩ := NF.of_end (X := []) nd5 FR.out hX
  replace FR : Hid (Frm w b w2) := FR.out.go hg3
  try replace HRW : Hid (RowB w2 r (Ps.ops k)) := HRW.out.go (b := b) (hg3) hbr
  replace PA : Hid (RAt b L (sx) w2) := ra4
  have Nx : Hid (NF w w2 ⟨xk, xt, xn, .slice xa xL xc, xkids⟩ []) := nf
  have RELx : Hid (Rs.Rel L (.bin (k + 1)) (s) (.mk xk xt xn xkids) sx) := relx
  replace GD : Hid (Rs.Good L (sx)) := relx.good
  clear nf HC1 hg3 ra4 relx nd5 hX
  obtain ⟨qb, hq⟩ : ∃ q, q = w2.heap.size := ⟨_, rfl⟩
  have hrq : r < qb := by have := FR.out.lt; omega
  obtain ⟨Y6, hY6⟩ : ∃ V, V = w2.alloc (.cells #[.int .u8 xk, .string (Ln.bs xt), .int .i64 xn, .slice xa xL xc] 26) := ⟨_, rfl⟩
  have bY6 : Below w2.heap.size w2 Y6 := hY6 ▸ below_new w2 _
  have nb : BX w Y6 (w2.heap.size) ⟨xk, xt, xn, .slice xa xL xc, xkids⟩ := by rw [hY6]; exact BX.new FR.out ⟨xk, xt, xn, .slice xa xL xc, xkids⟩
  replace Nx : Hid (NF w w2 ⟨xk, xt, xn, .slice xa xL xc, xkids⟩ [w2.heap.size]) := Nx.out.ex (Nat.le_refl _)
  replace Nx : Hid (NF w Y6 ⟨xk, xt, xn, .slice xa xL xc, xkids⟩ [w2.heap.size]) := Nx.out.go (grown_low bY6) FR.out.low
  replace FR : Hid (Frm w b Y6) := FR.out.go (grown_low bY6)
  try replace HRW : Hid (RowB Y6 r (Ps.ops k)) := HRW.out.go (b := b) ((grown_low bY6)) hbr
  replace PA : Hid (RAt b L (sx) Y6) := PA.out.below bY6
  have Bx : Hid (BX w Y6 (w2.heap.size) ⟨xk, xt, xn, .slice xa xL xc, xkids⟩) := nb
  clear nb bY6
  have ST : Hid (Frm w b Y6 ∧ RAt b L sx Y6 ∧ BX w Y6 qb ⟨xk, xt, xn, .slice xa xL xc, xkids⟩ ∧ NF w Y6 ⟨xk, xt, xn, .slice xa xL xc, xkids⟩ [qb] ∧ RowB Y6 r (Ps.ops k) ∧ Rs.Till L (.bin k) s (.more k [.mk xk xt xn xkids]) sx ∧ Rs.Sh L s sx 0) := by rw [hq]; exact ⟨FR.out, PA.out, Bx.out, Nx.out, HRW.out, Rs.Rel.bin (by omega) RELx.out, Rs.rel_sh (J := .bin (k + 1)) trivial RELx.out⟩
  clear FR PA Bx Nx RELx GD HRW
  go_wp2
  rw [← hY6, ← hq]
  clear hY6 hq
  go_loopg [] (Rs.mu L sx) (fun g wr => ∃ (kk : Int) (tx : List UInt8) (n : Int) (a : Option Addr) (La c : Nat) (kids : List Tr) (s2 : St), g = Rs.mu L s2 ∧ Frm w b wr ∧ RAt b L s2 wr ∧ BX w wr qb ⟨kk, tx, n, .slice a La c, kids⟩ ∧ NF w wr ⟨kk, tx, n, .slice a La c, kids⟩ [qb] ∧ RowB wr r (Ps.ops k) ∧ Rs.Till L (.bin k) s (.more k [.mk kk tx n kids]) s2 ∧ Rs.Sh L s s2 0)
  case atStart => exact ⟨_, _, _, _, _, _, _, sx, rfl, ST.out⟩
  case round =>
    clear ST
    obtain ⟨kk, tx, n, a, La, c, kids, s2, hgk, hF, hP, hB, hN, hRo, hT, hSh⟩ := hrel
    have FR : Hid (Frm w b wr) := hF
    have PA : Hid (RAt b L (s2) wr) := hP
    have Bx : Hid (BX w wr (qb) ⟨kk, tx, n, .slice a La c, kids⟩) := hB
    have Nx : Hid (NF w wr ⟨kk, tx, n, .slice a La c, kids⟩ [qb]) := hN
    have HRW : Hid (RowB wr r (Ps.ops k)) := hRo
    have TL : Hid (Rs.Till L (.bin k) s (.more k [.mk kk tx n kids]) s2) := hT
    have SH : Hid (Rs.Sh L s s2 0) := hSh
    have GD : Hid (Rs.Good L (s2)) := hT.good
    have GL : Hid (Rs.Good L s2) := hT.good
    clear hF hP hB hN hRo hT hSh
    have c3 := rcell3 PA.out GD.out
    by_cases hE : ¬ s2.E = 0
    case pos =>
      have e0 : ((s2.E : Int) == 0) = false := by simpa using hE
      have HD : Hid (s2.E ≠ 0) := hE
      clear hE
      obtain ⟨f7, f8, f9, f10⟩ := Bx.out.cs
      obtain ⟨p0, p1, p2, p3, pf, Z, hZ, ⟨r0, r1, r2, r3⟩, z1, z2, z3⟩ := FR.out.finR PA.out Nx.out
      have HF : Hid (w.grownBy Z (some b) ∧ REnd L (.bin k) b s w (.returned (.agg #[.int .u8 kk, .string (Ln.bs tx), .int .i64 n, .slice a La c])) Z) := ⟨z1, _, _, _, rfl, z2, Rs.Till.more_end TL.out (fun h => absurd h HD.out), z3⟩
      clear z1 z2 z3 
      go_wp2
      rw [← hZ]
      refine bodyPost_ret (v := .agg #[.int .u8 kk, .string (Ln.bs tx), .int .i64 n, .slice a La c]) (by simp [results, Tryz.results105, go_sem, r0, r1, r2, r3]) rfl HF.out
    have hE : s2.E = 0 := by simpa using hE
    have e0 : ((s2.E : Int) == 0) = true := by rw [hE]; rfl
    have H0 : Hid (s2.E = 0) := hE
    clear hE
    obtain ⟨T, hT⟩ : ∃ T, T = (Ps.hd (Rs.rest L s2)).text := ⟨_, rfl⟩
    have HT : Hid (T = (Ps.hd (Rs.rest L s2)).text) := hT
    clear hT
    go_wp2
    clear c3 e0
    go_loopg [8, 9] N (fun g ss si wr => ∃ i : Nat, ss = .string (Ln.bs (Rs.pick (Ps.ops k) T i)) ∧ si = .int .i64 i ∧ g = N - i ∧ i ≤ N ∧ Frm w b wr ∧ RAt b L s2 wr ∧ BX w wr qb ⟨kk, tx, n, .slice a La c, kids⟩ ∧ NF w wr ⟨kk, tx, n, .slice a La c, kids⟩ [qb] ∧ RowB wr r (Ps.ops k))
    case atStart => exact ⟨0, rfl, rfl, rfl, by omega, FR.out, PA.out, Bx.out, Nx.out, HRW.out⟩
    case round =>
      clear FR PA Bx Nx HRW GD
      obtain ⟨i, rfl, rfl, hgi, hi, hF, hP, hB, hN, hRo⟩ := hrel
      have FR : Hid (Frm w b wr) := hF
      have PA : Hid (RAt b L (s2) wr) := hP
      have Bx : Hid (BX w wr (qb) ⟨kk, tx, n, .slice a La c, kids⟩) := hB
      have Nx : Hid (NF w wr ⟨kk, tx, n, .slice a La c, kids⟩ [qb]) := hN
      have HRW : Hid (RowB wr r (Ps.ops k)) := hRo
      have GD : Hid (Rs.Good L (s2)) := GL.out
      clear hF hP hB hN hRo
      by_cases hiN : i < N
      case pos =>
        obtain ⟨t, ht⟩ : ∃ t, (Ps.ops k)[i]? = some t := ⟨_, List.getElem?_eq_getElem (by rw [HNL.out]; exact hiN)⟩
        have tc := HRW.out.at ht
        have hit : decide ((i : Int) < (N : Int)) = true := by simpa using hiN
        have hiI : (i : Int) < (N : Int) := by omega
        have hnx : Go.IntKind.i64.wrap ((i : Int) + 1) = ((i + 1 : Nat) : Int) := by rw [IntKind.wrap_i64]; omega
        have HTT : Hid ((Ps.ops k)[i]? = some t) := ht
        have HTK : Hid (t ∈ Lx.words ++ Lx.signs) := ops_known k t (List.mem_of_getElem? ht)
        clear ht
        go_wp2_with fail
        have HI7 : Hid (_) := ris_any b L (s2) t wr PA.out GD.out KN.out HTK.out
        refine Calls.mono HI7.out ?_
        rintro e w9 ⟨rfl, hb10⟩
        replace Nx : Hid (NF w w9 ⟨kk, tx, n, .slice a La c, kids⟩ [qb]) := Nx.out.go (grown_low hb10) FR.out.low
        replace Bx : Hid (BX w w9 (qb) ⟨kk, tx, n, .slice a La c, kids⟩) := Bx.out.go (grown_low hb10) FR.out.low
        replace FR : Hid (Frm w b w9) := FR.out.go (grown_low hb10)
        try replace HRW : Hid (RowB w9 r (Ps.ops k)) := HRW.out.go (b := b) ((grown_low hb10)) hbr
        replace PA : Hid (RAt b L (s2) w9) := PA.out.below hb10
        clear HI7 hb10
        replace tc := HRW.out.at HTT.out
        cases hs8 : Rs.isB L (s2) t
        · skip
          have hp : Rs.pick (Ps.ops k) T (i + 1) = Rs.pick (Ps.ops k) T i := by rw [Rs.pick_at HTT.out, if_neg (by rw [HT.out]; exact Rs.not_text H0.out hs8)]
          have HP : Hid (_) := hp
          clear hp hs8
          go_wp2
          go_roundg (N - (i + 1))
          case measure => omega
          case rel => exact ⟨i + 1, by rw [HP.out], rfl, rfl, by omega, FR.out, PA.out, Bx.out, Nx.out, HRW.out⟩
        · skip
          have hp : Rs.pick (Ps.ops k) T (i + 1) = t := by rw [Rs.pick_at HTT.out, if_pos (by rw [HT.out]; exact Rs.is_text hs8)]
          have HP : Hid (_) := hp
          clear hp hs8
          go_wp2
          go_roundg (N - (i + 1))
          case measure => omega
          case rel => exact ⟨i + 1, by rw [HP.out], rfl, rfl, by omega, FR.out, PA.out, Bx.out, Nx.out, HRW.out⟩
      obtain rfl : i = N := by omega
      have hit : decide ((i : Int) < (i : Int)) = false := by simp
      clear hiN
      have hpk : Rs.pick (Ps.ops k) T i = if Ps.sees (Rs.rest L s2) (Ps.ops k) then T else [] := by rw [← HNL.out, Rs.pick_all, HT.out]; rfl
      cases hs : Ps.sees (Rs.rest L s2) (Ps.ops k)
      · skip
        have HS : Hid (Ps.sees (Rs.rest L s2) (Ps.ops k) = false) := hs
        rw [hs] at hpk
        rw [if_neg (by decide)] at hpk
        rw [hpk]
        have hem : (Ln.bs []).toList.isEmpty = true := by rw [Lib.toList_data]; rfl
        clear hs hpk
        obtain ⟨f7, f8, f9, f10⟩ := Bx.out.cs
        obtain ⟨p0, p1, p2, p3, pf, Z, hZ, ⟨r0, r1, r2, r3⟩, z1, z2, z3⟩ := FR.out.finR PA.out Nx.out
        have HF : Hid (w.grownBy Z (some b) ∧ REnd L (.bin k) b s w (.returned (.agg #[.int .u8 kk, .string (Ln.bs tx), .int .i64 n, .slice a La c])) Z) := ⟨z1, _, _, _, rfl, z2, Rs.Till.more_end TL.out (fun _ => HS.out), z3⟩
        clear z1 z2 z3 
        go_wp2
        rw [← hZ]
        refine bodyPost_ret (v := .agg #[.int .u8 kk, .string (Ln.bs tx), .int .i64 n, .slice a La c]) (by simp [results, Tryz.results105, go_sem, r0, r1, r2, r3]) rfl HF.out
      · skip
        have HS : Hid (Ps.sees (Rs.rest L s2) (Ps.ops k) = true) := hs
        rw [hs, if_pos rfl] at hpk
        rw [hpk]
        have hTn : T ≠ [] := by have := HS.out; unfold Ps.sees at this; rw [← HT.out] at this; rintro rfl; exact Ps.ops_ne k (List.contains_iff_mem.1 this)
        have hem : (Ln.bs T).toList.isEmpty = false := by rw [Lib.toList_data, Ln.bs_toList]; cases T with | nil => exact absurd rfl hTn | cons _ _ => rfl
        have HTL : Hid (T.length ≤ 1000000) := by rw [HT.out]; exact (KN.out _ (hd_mem GL.out)).1.1
        have GA : Hid (Rs.Good L (Rs.adv s2)) := GL.out.adv (.inr (by rw [← HT.out]; exact hTn))
        have SA : Hid (Rs.Sh L s2 (Rs.adv s2) 1) := Rs.adv_sh GL.out
        clear hs hpk hTn
        obtain ⟨k1, k2, k3, Y7, hY7, st⟩ := radv PA.out GD.out
        replace Nx : Hid (NF w Y7 ⟨kk, tx, n, .slice a La c, kids⟩ [qb]) := Nx.out.go st.1 FR.out.low
        replace Bx : Hid (BX w Y7 (qb) ⟨kk, tx, n, .slice a La c, kids⟩) := Bx.out.go st.1 FR.out.low
        replace FR : Hid (Frm w b Y7) := FR.out.go st.1
        try replace HRW : Hid (RowB Y7 r (Ps.ops k)) := HRW.out.go (b := b) (st.1) hbr
        replace PA : Hid (RAt b L (Rs.adv (s2)) Y7) := st.2
        replace GD : Hid (Rs.Good L (Rs.adv (s2))) := GA.out
        clear st
        go_wp2_with fail
        rw [← hY7]
        clear hY7
        clear k1 k2 k3
        have HC8 : Hid (_) := Hhop.out b L (Rs.adv (s2)) Y7 KN.out GD.out PA.out (fun h9 => by have h1 := SA.out h9; have h2 := SH.out h1.1; have h3 := HM.out h2.1; omega)
        refine Calls.mono HC8.out ?_
        rintro e w9 ⟨hg10, ty, vy, sy, rfl, ra11, rely, nd12⟩
        have hX : ∀ q ∈ ([qb] : List Nat), q < Y7.heap.size := by
          intro q hq
          simp only [List.mem_cons, List.not_mem_nil, or_false] at hq
          subst hq
          exact Bx.out.lt
        obtain ⟨yk, yt, yn, ya, yL, yc, ykids, rfl, rfl, nf⟩ := NF.of_end (X := [qb]) nd12 FR.out hX
        replace Nx : Hid (NF w w9 ⟨kk, tx, n, .slice a La c, kids⟩ [qb]) := Nx.out.go hg10 FR.out.low
        replace Bx : Hid (BX w w9 (qb) ⟨kk, tx, n, .slice a La c, kids⟩) := Bx.out.go hg10 FR.out.low
        replace FR : Hid (Frm w b w9) := FR.out.go hg10
        try replace HRW : Hid (RowB w9 r (Ps.ops k)) := HRW.out.go (b := b) (hg10) hbr
        replace PA : Hid (RAt b L (sy) w9) := ra11
        have Ny : Hid (NF w w9 ⟨yk, yt, yn, .slice ya yL yc, ykids⟩ [qb]) := nf
        have RELy : Hid (Rs.Rel L (.bin (k + 1)) (Rs.adv (s2)) (.mk yk yt yn ykids) sy) := rely
        replace GD : Hid (Rs.Good L (sy)) := rely.good
        clear nf HC8 hg10 ra11 rely nd12 hX
        have lq : qb < w9.heap.size := Bx.out.lt
        obtain ⟨Y13, hY13⟩ : ∃ V, V = w9.alloc (.cells #[.int .u8 yk, .string (Ln.bs yt), .int .i64 yn, .slice ya yL yc] 26) := ⟨_, rfl⟩
        have bY13 : Below w9.heap.size w9 Y13 := hY13 ▸ below_new w9 _
        have nb : BX w Y13 (w9.heap.size) ⟨yk, yt, yn, .slice ya yL yc, ykids⟩ := by rw [hY13]; exact BX.new FR.out ⟨yk, yt, yn, .slice ya yL yc, ykids⟩
        replace Nx : Hid (NF w w9 ⟨kk, tx, n, .slice a La c, kids⟩ [w9.heap.size, qb]) := Nx.out.ex (Nat.le_refl _)
        replace Ny : Hid (NF w w9 ⟨yk, yt, yn, .slice ya yL yc, ykids⟩ [w9.heap.size, qb]) := Ny.out.ex (Nat.le_refl _)
        replace Nx : Hid (NF w Y13 ⟨kk, tx, n, .slice a La c, kids⟩ [w9.heap.size, qb]) := Nx.out.go (grown_low bY13) FR.out.low
        replace Ny : Hid (NF w Y13 ⟨yk, yt, yn, .slice ya yL yc, ykids⟩ [w9.heap.size, qb]) := Ny.out.go (grown_low bY13) FR.out.low
        replace Bx : Hid (BX w Y13 (qb) ⟨kk, tx, n, .slice a La c, kids⟩) := Bx.out.go (grown_low bY13) FR.out.low
        replace FR : Hid (Frm w b Y13) := FR.out.go (grown_low bY13)
        try replace HRW : Hid (RowB Y13 r (Ps.ops k)) := HRW.out.go (b := b) ((grown_low bY13)) hbr
        replace PA : Hid (RAt b L (sy) Y13) := PA.out.below bY13
        have By : Hid (BX w Y13 (w9.heap.size) ⟨yk, yt, yn, .slice ya yL yc, ykids⟩) := nb
        clear nb bY13
        go_upto_region 13 with fail
        rw [← hY13]
        clear hY13
        have SY : Hid (Rs.Sh L s2 sy 1) := (SA.out.trans (Rs.rel_sh (J := .bin (k + 1)) trivial RELy.out)).less (by omega)
        have TY : Hid (_) := Rs.Till.more TL.out H0.out HS.out RELy.out
        rw [← HT.out] at TY
        obtain ⟨f14, f15, f16, f17⟩ := Bx.out.cs
        obtain ⟨f18, f19, f20, f21⟩ := By.out.cs
        obtain ⟨R22, hR22⟩ : ∃ V, V = Y13.alloc (.cells #[.int .u8 kk, .string (Ln.bs tx), .int .i64 n, .slice a La c, .int .u8 yk, .string (Ln.bs yt), .int .i64 yn, .slice ya yL yc] 26) := ⟨_, rfl⟩
        have bR22 : Below Y13.heap.size Y13 R22 := hR22 ▸ below_new Y13 _
        have hX : ∀ q ∈ ([w9.heap.size, qb] : List Nat), q < Y13.heap.size := by
          intro q hq
          simp only [List.mem_cons, List.not_mem_nil, or_false] at hq
          rcases hq with rfl | rfl
          · exact By.out.lt
          · exact Bx.out.lt
        have nk : NF w R22 ⟨24, T, 0, .slice (some ⟨Y13.heap.size, 0, none⟩) 2 2, [N1.tr ⟨kk, tx, n, .slice a La c, kids⟩, N1.tr ⟨yk, yt, yn, .slice ya yL yc, ykids⟩]⟩ [w9.heap.size, qb] := by
          rw [hR22]
          refine NF.kids FR.out [⟨kk, tx, n, .slice a La c, kids⟩, ⟨yk, yt, yn, .slice ya yL yc, ykids⟩] (fun z hz => ?_) hX (by simp) 24 T 0 (by omega) (HTL.out) (by omega)
          simp only [List.mem_cons, List.not_mem_nil, or_false] at hz
          rcases hz with rfl | rfl
          · exact Nx.out
          · exact Ny.out
        replace Nx : Hid (NF w R22 ⟨kk, tx, n, .slice a La c, kids⟩ [w9.heap.size, qb]) := Nx.out.go (grown_low bR22) FR.out.low
        replace Ny : Hid (NF w R22 ⟨yk, yt, yn, .slice ya yL yc, ykids⟩ [w9.heap.size, qb]) := Ny.out.go (grown_low bR22) FR.out.low
        replace By : Hid (BX w R22 (w9.heap.size) ⟨yk, yt, yn, .slice ya yL yc, ykids⟩) := By.out.go (grown_low bR22) FR.out.low
        replace Bx : Hid (BX w R22 (qb) ⟨kk, tx, n, .slice a La c, kids⟩) := Bx.out.go (grown_low bR22) FR.out.low
        replace FR : Hid (Frm w b R22) := FR.out.go (grown_low bR22)
        try replace HRW : Hid (RowB R22 r (Ps.ops k)) := HRW.out.go (b := b) ((grown_low bR22)) hbr
        replace PA : Hid (RAt b L (sy) R22) := PA.out.below bR22
        have Nz : Hid (NF w R22 ⟨24, T, 0, .slice (some ⟨Y13.heap.size, 0, none⟩) 2 2, [N1.tr ⟨kk, tx, n, .slice a La c, kids⟩, N1.tr ⟨yk, yt, yn, .slice ya yL yc, ykids⟩]⟩ [w9.heap.size, qb]) := nk
        clear nk hX bR22
        obtain ⟨⟨c0, p0⟩, ⟨c1, p1⟩, ⟨c2, p2⟩, ⟨c3, p3⟩, pf, Z, hZ, gz, FZ, PZ, BZ, NZ⟩ := Bx.out.putR FR.out PA.out Nz.out (by simp)
        have HZ : Hid (Frm w b Z ∧ RAt b L sy Z ∧ BX w Z qb ⟨24, T, 0, .slice (some ⟨Y13.heap.size, 0, none⟩) 2 2, [N1.tr ⟨kk, tx, n, .slice a La c, kids⟩, N1.tr ⟨yk, yt, yn, .slice ya yL yc, ykids⟩]⟩ ∧ NF w Z ⟨24, T, 0, .slice (some ⟨Y13.heap.size, 0, none⟩) 2 2, [N1.tr ⟨kk, tx, n, .slice a La c, kids⟩, N1.tr ⟨yk, yt, yn, .slice ya yL yc, ykids⟩]⟩ [qb] ∧ RowB Z r (Ps.ops k)) := ⟨FZ, PZ, BZ, NF.sub NZ (by simp), HRW.out.set gz hrq⟩
        clear FZ PZ BZ NZ gz
        rw [hR22] at p0 p1 p2 p3 pf hZ
        go_wp2
        rw [← hZ]
        go_roundg (Rs.mu L sy)
        case measure => have := Rs.mu_lt H0.out SY.out; omega
        case rel => exact ⟨_, _, _, _, _, _, _, sy, rfl, HZ.out.1, HZ.out.2.1, HZ.out.2.2.1, HZ.out.2.2.2.1, HZ.out.2.2.2.2, TY.out, (SH.out.trans SY.out).less (by omega)⟩
end Go.Proofs.YtfegodofbdlbeaaGreatDoor

/-
  The walk of the lexer's way sign: the longest sign.
-/
import Derived.Test.YtkiafelpgcmifaaDoorLxRun
namespace Go.Proofs.YtkiafelpgcmifaaDoor
open Go.RowKit Go.Shelf

attribute [local go_sem] Oper.semAt_some

/-- The table of signs is as the program's text lays it. -/
def SignsAt (B : Nat) (W : World) : Prop := 0 < B ∧ ∃ v, W.cell? ⟨0, 0, none⟩ = some v ∧ RowLow B W v Lx.signs
theorem SignsAt.keep {B : Nat} {W W' : World} (h : SignsAt B W) (hb : Below B W W') : SignsAt B W' := by
  obtain ⟨h0, v, h1, h2⟩ := h
  exact ⟨h0, v, (hb.cell (p := ⟨0, 0, none⟩) h0).trans h1, h2.below hb (Nat.le_refl _)⟩
theorem SignsAt.mono {B B' : Nat} {W : World} (h : SignsAt B W) (hb : B ≤ B') : SignsAt B' W := by
  obtain ⟨h0, v, h1, h2⟩ := h
  exact ⟨by omega, v, h1, h2.mono hb⟩

theorem find_at {α : Type} (p : α → Bool) : ∀ (L : List α) (i : Nat) (x : α), L[i]? = some x → p x = true → (∀ j y, L[j]? = some y → j < i → p y = false) → L.find? p = some x
  | [], _, _, h, _, _ => by simp at h
  | a :: L, 0, x, h, hx, _ => by simp at h; subst h; rw [List.find?_cons, hx]
  | a :: L, i + 1, x, h, hx, hn => by
    rw [List.find?_cons, hn 0 a rfl (by omega)]
    exact find_at p L i x (by simpa using h) hx (fun j y hj hji => hn (j + 1) y (by simpa using hj) (by omega))
theorem find_none {α : Type} (p : α → Bool) (L : List α) (hn : ∀ (j : Nat) y, L[j]? = some y → p y = false) : L.find? p = none := by
  rw [List.find?_eq_none]
  intro x hx
  obtain ⟨j, hj⟩ := List.mem_iff_getElem?.1 hx
  rw [hn j x hj]; decide

theorem pre_len {p : ByteArray} {s : ByteArray} {k : Nat} (hk : k ≤ s.size) (h : pre p.data.toList (s.data.toList.drop k) = true) : k + p.size ≤ s.size ∧ s.extract k (k + p.size) = p := by
  have h1 := Lx.prefix_take (s := p.data.toList) h
  have h2 : p.data.toList.length = p.size := rfl
  have h3 : s.data.toList.length = s.size := rfl
  have h4 := h1.2
  rw [List.length_drop, h2, h3] at h4
  refine ⟨by omega, ByteArray.ext (Array.ext' ?_)⟩
  rw [extract_part, ← h2]
  exact h1.1
theorem signs_short (i : Nat) (x : List UInt8) (h : Lx.signs[i]? = some x) : x.length ≤ 2 := (Lx.signs_len x (List.mem_of_getElem? h)).2

set_option maxRecDepth 100000 in
set_option maxHeartbeats 2000000 in
theorem sign_any (B b k : Nat) (s : ByteArray) (acc : List Lx.Tok) (w : World) (h : LSt B b s k acc 0 0 w) (hsg : SignsAt B w) (hk : k ≤ s.size) (hs : s.size ≤ 1000000) (hl : acc.length ≤ 1000000) :
    Calls Tryd.prog 20 #[.pointer (some ⟨b, 0, none⟩)] w fun r w' => Way B b s k acc r w' (Lx.signS (s.data.toList.drop k)) ∧ KeepL B b w w' := by
  have hsm : s.size ≤ maxLen := by unfold maxLen; omega
  obtain ⟨hB0, v, g0, hrow⟩ := hsg
  obtain ⟨ao, cap, bb, off, rfl, -, hao, hc⟩ := hrow.parts
  obtain ⟨rfl, hbb⟩ := hao (by decide)
  have HC : Hid (_) := hc
  have H : Hid (_) := h
  have hlen : Lx.signs.length = 23 := rfl
  obtain ⟨N, hN⟩ : ∃ N, N = Lx.signs.length := ⟨_, rfl⟩
  rw [← hN] at g0 hlen
  have HN : Hid (N = Lx.signs.length) := hN
  clear hrow hc hao h hN
  go_enter Tryd.func20, Tryd.ntmps20
  go_wp2_with fail
  go_loopw [7] (fun t wr => ∃ i : Nat, i ≤ N ∧ t = .int .i64 i ∧ (∀ j y, Lx.signs[j]? = some y → j < i → pre y (s.data.toList.drop k) = false) ∧ LSt B b s k acc 0 0 wr ∧ KeepL B b w wr) (fun t _ => N - (intOf t).toNat)
  case atStart => exact ⟨0, Nat.zero_le _, rfl, fun j _ _ h => absurd h (Nat.not_lt_zero _), H.out, KeepL.refl _ _ _⟩
  case round =>
    obtain ⟨i, hi, rfl, hall, hst, hkp⟩ := hrel
    have HA : Hid (_) := hall
    have HST : Hid (LSt B b s k acc 0 0 wr) := hst
    have HK : Hid (KeepL B b w wr) := hkp
    clear hall hst hkp
    by_cases hlt : i < N
    · obtain ⟨y, hy⟩ : ∃ y, Lx.signs[i]? = some y := ⟨Lx.signs[i]'(by have := HN.out; omega), List.getElem?_eq_getElem _⟩
      have g1 : wr.cell? ⟨bb, off + i, none⟩ = some (.string (Ln.bs y)) := (HK.out.1.cell (p := ⟨bb, off + i, none⟩) hbb).trans (HC.out i y hy)
      have HY : Hid (_) := hy
      have hyl := signs_short i y hy
      obtain ⟨x, hxe⟩ : ∃ x, x = Ln.bs y := ⟨_, rfl⟩
      have HXD : Hid (x.data.toList = y) := by show x.data.toList = y; rw [hxe]; rfl
      have hxs : x.size ≤ 2 := by rw [hxe]; exact hyl
      rw [← hxe] at g1
      clear hy hxe hyl
      obtain ⟨tv, q1, -⟩ := HST.out.row
      have HP : Hid (∀ w, Calls Tryd.prog 37 #[.string (s.extract k s.size), .string x] w fun e w' => e = .returned (.bool (pre y (s.data.toList.drop k))) ∧ w' = w) := fun w => by
        have := prefix_any (s.extract k s.size) x w
        rw [extract_rest, HXD.out] at this
        exact this
      cases hp : pre y (s.data.toList.drop k) with
      | true =>
        rw [hp] at HP
        obtain ⟨hle, hex⟩ := pre_len (p := x) hk (by rw [HXD.out]; exact hp)
        have HF : Hid (Lx.signS (s.data.toList.drop k) = some (.tok 4 x.size)) := by
          show Lx.signS (s.data.toList.drop k) = some (.tok 4 x.size)
          have : Lx.sign? (s.data.toList.drop k) = some y := find_at _ Lx.signs i y HY.out hp HA.out
          unfold Lx.signS
          rw [this, ← HXD.out]; rfl
        have HEX : Hid (s.extract k (k + x.size) = x) := hex
        have HT : Hid (x.data.toList = (s.data.toList.drop k).take x.size) := by
          show x.data.toList = _
          rw [← extract_part, hex]
        clear hp hex
        go_wp2_with fail
        refine (left_any b k 0 0 s tv wr q1 hk).mono ?_
        rintro r w1 ⟨rfl, d1, rfl⟩
        go_wp2_with fail
        refine (HP.out _).mono ?_
        rintro r w2 ⟨rfl, rfl⟩
        have bd : Below wr.heap.size wr (wr.drewN d1) := below_drewN (Below.refl _ wr) d1
        have L1 : Hid (LSt B b s k acc 0 0 (wr.drewN d1)) := HST.out.below bd
        have K1 : Hid (KeepL B b w (wr.drewN d1)) := HK.out.trans (KeepL.of_below bd HST.out.size)
        obtain ⟨Z, hZ⟩ : ∃ Z, Z = wr.drewN d1 := ⟨_, rfl⟩
        rw [← hZ] at L1 K1 ⊢
        obtain ⟨tz, z1, z2⟩ := L1.out.row
        have TK : Hid (_) := take_any b k 0 0 x.size s tz Z z1 hle hsm
        rw [HEX.out] at TK
        have Z1 : Hid (_) := z1
        have Z2 : Hid (_) := z2
        clear hZ z1 z2 q1 bd HP HEX
        go_wp2_with fail
        refine Calls.mono TK.out ?_
        rintro r w3 ⟨rfl, d3, hw3⟩
        have hg : Z.grownBy w3 (some b) := by rw [hw3]; exact grown_draws (grown_set Z b 1 _) d3
        have L3 : LSt B b s (k + x.size) acc 0 0 w3 := by
          refine ⟨⟨tz, ?_, owns_box Z1.out Z2.out hg⟩, L1.out.low⟩
          rw [hw3]; exact LexAt.put Z1.out (k + x.size)
        have K3 : KeepL B b w w3 := K1.out.trans (KeepL.of_box L1.out.low L1.out.size hg)
        have PT : Hid (_) := put_any B b (k + x.size) 0 0 4 s x acc w3 L3 (by omega) (by omega) hl
        have HK3 : Hid (KeepL B b w w3) := K3
        clear hw3 hg L3 K3 TK Z1 Z2 L1 K1
        go_wp2_with fail
        refine Calls.mono PT.out ?_
        rintro r w4 ⟨rfl, q4, k4⟩
        have HQ : Hid (_) := And.intro q4 k4
        clear q4 k4 PT
        go_wp2
        go_ret
        rw [HF.out]
        refine ⟨⟨rfl, ?_⟩, KeepL.trans HK3.out HQ.out.2⟩
        have h9 := HQ.out.1
        rw [Nat.add_sub_cancel, HT.out] at h9
        exact h9
      | false =>
        rw [hp] at HP
        have HPF : Hid (_) := hp
        clear hp
        go_wp2_with fail
        refine (left_any b k 0 0 s tv wr q1 hk).mono ?_
        rintro r w1 ⟨rfl, d1, rfl⟩
        go_wp2_with fail
        refine (HP.out _).mono ?_
        rintro r w2 ⟨rfl, rfl⟩
        go_wp2
        go_roundw
        case rel =>
          have bd : Below wr.heap.size wr (wr.drewN d1) := below_drewN (Below.refl _ wr) d1
          refine ⟨i + 1, by omega, by go_num, fun j z hz hji => ?_, HST.out.below bd, HK.out.trans (KeepL.of_below bd HST.out.size)⟩
          by_cases hji2 : j < i
          · exact HA.out j z hz hji2
          · obtain rfl : j = i := by omega
            rw [HY.out] at hz
            cases hz
            exact HPF.out
        case measure => simp [intOf]; omega
    · have HF : Hid (Lx.signS (s.data.toList.drop k) = none) := by
        show Lx.signS (s.data.toList.drop k) = none
        have : Lx.sign? (s.data.toList.drop k) = none := find_none _ Lx.signs (fun j y hj => HA.out j y hj (by have := (List.getElem?_eq_some_iff.1 hj).1; have := HN.out; omega))
        unfold Lx.signS
        rw [this]; rfl
      go_wp2
      go_ret
      rw [HF.out]
      exact ⟨⟨rfl, HST.out⟩, HK.out⟩

end Go.Proofs.YtkiafelpgcmifaaDoor

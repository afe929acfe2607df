/-
  The texts of values that are right lie apart; what signs tell is right.
-/
import Derived.Test.YtcnmgebjbaclaaaDoorVlText2
import Derived.Test.YtcnmgebjbaclaaaDoorLxInt
namespace Go.Proofs.YtcnmgebjbaclaaaDoor
open Vl (V Res)
namespace Vl

theorem ofNat_digit (d : Nat) (h : d < 10) : (UInt8.ofNat (48 + d)).toNat = 48 + d := by
  rw [UInt8.toNat_ofNat']; omega
theorem dec_mem (u : Nat) : ∀ b ∈ Lib.decDigits u, 48 ≤ b.toNat ∧ b.toNat ≤ 57 := by
  induction u using Nat.strongRecOn with
  | _ u ih =>
    intro b hb
    rw [Lib.decDigits] at hb
    split at hb
    · rename_i h
      rw [List.mem_singleton] at hb
      rw [hb, ofNat_digit u h]; omega
    · rename_i h
      rcases List.mem_append.1 hb with hb | hb
      · exact ih (u / 10) (by omega) b hb
      · rw [List.mem_singleton] at hb
        rw [hb, ofNat_digit _ (by omega)]; omega
theorem dec_val (u : Nat) : Lx.val (Lib.decDigits u) = u := by
  induction u using Nat.strongRecOn with
  | _ u ih =>
    rw [Lib.decDigits]
    split
    · rename_i h
      have e : ([UInt8.ofNat (48 + u)] : List UInt8) = [] ++ [UInt8.ofNat (48 + u)] := rfl
      rw [e, Lx.val_snoc, ofNat_digit u h]
      have : Lx.val [] = 0 := rfl
      omega
    · rename_i h
      rw [Lx.val_snoc, ih (u / 10) (by omega), ofNat_digit _ (by omega)]
      omega
theorem itoa_mem (n : Int) : ∀ b ∈ Lib.itoa n, b = 45 ∨ (48 ≤ b.toNat ∧ b.toNat ≤ 57) := by
  intro b hb
  unfold Lib.itoa at hb
  split at hb
  · rcases List.mem_cons.1 hb with h | h
    · exact .inl h
    · exact .inr (dec_mem _ b h)
  · exact .inr (dec_mem _ b hb)
theorem dec_ne (u : Nat) : Lib.decDigits u ≠ [] := by
  rw [Lib.decDigits]; split <;> simp
theorem itoa_ne (n : Int) : Lib.itoa n ≠ [] := by
  unfold Lib.itoa
  split
  · simp
  · exact dec_ne _
theorem itoa_no (n : Int) (c : UInt8) (h : c ≠ 45) (h2 : c.toNat < 48 ∨ 57 < c.toNat) : c ∉ Lib.itoa n := by
  intro hm
  rcases itoa_mem n c hm with e | e
  · exact h e
  · omega
theorem itoa_inj {n m : Int} (h : Lib.itoa n = Lib.itoa m) : n = m := by
  have hd : ∀ (u : Nat) (l : List UInt8), Lib.decDigits u ≠ 45 :: l := by
    intro u l e
    have := dec_mem u 45 (by rw [e]; simp)
    simp at this
  unfold Lib.itoa at h
  split at h <;> split at h
  · injection h with _ h
    have := congrArg Lx.val h
    rw [dec_val, dec_val] at this
    omega
  · exact absurd h.symm (hd _ _)
  · exact absurd h (hd _ _)
  · have := congrArg Lx.val h
    rw [dec_val, dec_val] at this
    omega

/-- Cut at the spaces. -/
def cut : List UInt8 → List (List UInt8)
  | [] => [[]]
  | b :: r => if b = 32 then [] :: cut r else match cut r with
    | [] => [[b]]
    | x :: t => (b :: x) :: t
theorem cut_none : ∀ x : List UInt8, (32 : UInt8) ∉ x → cut x = [x]
  | [], _ => rfl
  | b :: r, h => by
    have h1 : b ≠ 32 := fun e => h (by rw [e]; simp)
    have h2 := cut_none r (fun e => h (by simp [e]))
    unfold cut
    rw [if_neg h1, h2]
theorem cut_app : ∀ (x r : List UInt8), (32 : UInt8) ∉ x → cut (x ++ 32 :: r) = x :: cut r
  | [], r, _ => by
    show cut (32 :: r) = _
    rw [cut, if_pos rfl]
  | b :: x, r, h => by
    have h1 : b ≠ 32 := fun e => h (by rw [e]; simp)
    have h2 := cut_app x r (fun e => h (by simp [e]))
    show cut (b :: (x ++ 32 :: r)) = _
    rw [cut, if_neg h1, h2]
theorem join_two (x y : List UInt8) (t : List (List UInt8)) : join (x :: y :: t) = x ++ 32 :: join (y :: t) := by
  unfold join
  simp [Lib.join, List.intercalate, List.intersperse]
theorem cut_join : ∀ (t : List (List UInt8)) (x : List UInt8), (∀ y ∈ x :: t, (32 : UInt8) ∉ y) → cut (join (x :: t)) = x :: t
  | [], x, h => by
    have : join [x] = x := by simp [join, Lib.join]
    rw [this]
    exact cut_none x (h x (by simp))
  | y :: t, x, h => by
    rw [join_two, cut_app x _ (h x (by simp)), cut_join t y (fun z hz => h z (List.mem_cons_of_mem _ hz))]
theorem join_ne (x : List UInt8) (t : List (List UInt8)) (h : x ≠ []) : join (x :: t) ≠ [] := by
  cases t with
  | nil => simpa [join, Lib.join] using h
  | cons y t => rw [join_two]; simp
theorem join_inj {a b : List (List UInt8)} (ha : ∀ y ∈ a, (32 : UInt8) ∉ y ∧ y ≠ []) (hb : ∀ y ∈ b, (32 : UInt8) ∉ y ∧ y ≠ []) (h : join a = join b) : a = b := by
  cases a with
  | nil =>
    cases b with
    | nil => rfl
    | cons y t => exact absurd h.symm (join_ne y t (hb y (by simp)).2)
  | cons x s =>
    cases b with
    | nil => exact absurd h (join_ne x s (ha x (by simp)).2)
    | cons y t =>
      have := congrArg cut h
      rw [cut_join s x (fun z hz => (ha z hz).1), cut_join t y (fun z hz => (hb z hz).1)] at this
      exact this
theorem map_inj {α β : Type} {f : α → β} (hf : ∀ x y, f x = f y → x = y) : ∀ {a b : List α}, a.map f = b.map f → a = b
  | [], [], _ => rfl
  | [], _ :: _, h => by simp at h
  | _ :: _, [], h => by simp at h
  | x :: a, y :: b, h => by
    simp only [List.map_cons, List.cons.injEq] at h
    rw [hf x y h.1, map_inj hf h.2]
theorem right_cases {v : V} (h : right v = true) : (v.k = 1 ∧ v.r = []) ∨ (v.k = 2 ∧ (v.n = 0 ∨ v.n = 1) ∧ v.r = []) ∨ (v.k = 3 ∧ v.n = 0) := by
  unfold right at h
  split at h
  · rename_i h1; exact .inl ⟨h1, by simpa using h⟩
  · split at h
    · rename_i _ h2; simp at h; exact .inr (.inl ⟨h2, h.1, h.2⟩)
    · split at h
      · rename_i _ _ h3; simp at h; exact .inr (.inr ⟨h3, h.1⟩)
      · cases h
theorem text_k1 {v : V} (h : right v = true) (hk : v.k = 1) : text v = Lib.itoa v.n := by simp [text, h, hk]
theorem text_k2 {v : V} (h : right v = true) (hk : v.k = 2) : text v = if v.n = 1 then [116, 114, 117, 101] else [102, 97, 108, 115, 101] := by simp [text, h, hk]
theorem text_k3 {v : V} (h : right v = true) (hk : v.k = 3) : text v = 91 :: (join (v.r.map Lib.itoa) ++ [93]) := by simp [text, h, hk]
theorem text_apart {a b : V} (ha : right a = true) (hb : right b = true) (h : text a = text b) : a = b := by
  obtain ⟨ak, an, ar⟩ := a
  obtain ⟨bk, bn, br⟩ := b
  have no : ∀ n : Int, (116 : UInt8) ∉ Lib.itoa n ∧ (102 : UInt8) ∉ Lib.itoa n ∧ (91 : UInt8) ∉ Lib.itoa n := fun n => ⟨itoa_no n _ (by decide) (by decide), itoa_no n _ (by decide) (by decide), itoa_no n _ (by decide) (by decide)⟩
  rcases right_cases ha with ⟨ka, ra⟩ | ⟨ka, na, ra⟩ | ⟨ka, na⟩ <;> rcases right_cases hb with ⟨kb, rb⟩ | ⟨kb, nb, rb⟩ | ⟨kb, nb⟩
  · rw [text_k1 ha ka, text_k1 hb kb] at h
    simp only at ka kb ra rb h
    rw [ka, kb, ra, rb, itoa_inj h]
  · rw [text_k1 ha ka, text_k2 hb kb] at h
    exfalso
    split at h
    · exact (no _).1 (by rw [h]; simp)
    · exact (no _).2.1 (by rw [h]; simp)
  · rw [text_k1 ha ka, text_k3 hb kb] at h
    exact absurd (show (91 : UInt8) ∈ Lib.itoa _ by rw [h]; simp) (no _).2.2
  · rw [text_k2 ha ka, text_k1 hb kb] at h
    exfalso
    split at h
    · exact (no _).1 (by rw [← h]; simp)
    · exact (no _).2.1 (by rw [← h]; simp)
  · rw [text_k2 ha ka, text_k2 hb kb] at h
    simp only at ka kb na nb ra rb h
    rw [ka, kb, ra, rb]
    rcases na with na | na <;> rcases nb with nb | nb <;> rw [na, nb] at h ⊢ <;> simp at h
  · rw [text_k2 ha ka, text_k3 hb kb] at h
    exfalso
    split at h <;> simp at h
  · rw [text_k3 ha ka, text_k1 hb kb] at h
    exact absurd (show (91 : UInt8) ∈ Lib.itoa _ by rw [← h]; simp) (no _).2.2
  · rw [text_k3 ha ka, text_k2 hb kb] at h
    exfalso
    split at h <;> simp at h
  · rw [text_k3 ha ka, text_k3 hb kb] at h
    simp only at ka kb na nb h
    have hj : join (ar.map Lib.itoa) = join (br.map Lib.itoa) := by
      injection h with _ h
      exact List.append_cancel_right h
    have hm : ∀ (r : List Int), ∀ y ∈ r.map Lib.itoa, (32 : UInt8) ∉ y ∧ y ≠ [] := fun r y hy => by
      obtain ⟨n, _, rfl⟩ := List.mem_map.1 hy
      exact ⟨itoa_no n _ (by decide) (by decide), itoa_ne n⟩
    rw [ka, kb, na, nb, map_inj (fun x y => itoa_inj) (join_inj (hm ar) (hm br) hj)]
theorem same_text {a b : V} (ha : right a = true) (hb : right b = true) : decide (text a = text b) = same a b := by
  rw [Bool.eq_iff_iff]
  constructor
  · intro h
    have := text_apart ha hb (of_decide_eq_true h)
    rw [this]; simp [same]
  · intro h
    obtain ⟨ak, an, ar⟩ := a
    obtain ⟨bk, bn, br⟩ := b
    simp [same] at h
    obtain ⟨⟨rfl, rfl⟩, rfl⟩ := h
    simp
theorem text_right {a : V} (h : right a = true) : text a ≠ [63] := by
  intro e
  rcases right_cases h with ⟨k, _⟩ | ⟨k, _, _⟩ | ⟨k, _⟩
  · rw [text_k1 h k] at e
    exact itoa_no a.n 63 (by decide) (by decide) (by rw [e]; simp)
  · rw [text_k2 h k] at e
    split at e <;> simp at e
  · rw [text_k3 h k] at e
    simp at e
theorem text_wrong {a : V} (h : right a = false) : text a = [63] := by simp [text, h]
/-- What a sign tells. -/
theorem bin_kinds (q : List UInt8) (a b : V) : (∃ n, bin q a b = .int n) ∨ (∃ x, bin q a b = .bool x) ∨ (∃ e, e ≠ 0 ∧ bin q a b = .err e) := by
  have hm : ∀ o a b, (∃ n, makes o a b = .int n) ∨ (∃ x, makes o a b = .bool x) ∨ (∃ e, e ≠ 0 ∧ makes o a b = .err e) := by
    intro o a b
    unfold makes
    split
    all_goals first
      | exact .inr (.inl ⟨_, rfl⟩)
      | exact .inl ⟨_, rfl⟩
      | (split
         · exact .inr (.inr ⟨_, by decide, rfl⟩)
         · exact .inl ⟨_, rfl⟩)
  unfold bin
  split
  · split
    · exact hm _ _ _
    · exact .inr (.inr ⟨_, by decide, rfl⟩)
  · exact .inr (.inr ⟨_, by decide, rfl⟩)
theorem bin_wrong {q : List UInt8} {a b : V} (h : right a = false ∨ right b = false) : bin q a b = .err 2 := by
  unfold bin
  rw [if_neg]
  rcases h with h | h <;> simp [h]
theorem bin_eq {a b : V} (ha : right a = true) (hb : right b = true) : bin [61, 61] a b = .bool (same a b) := by
  have ho : opOf [61, 61] = 2 := by decide
  simp [bin, ho, ha, hb, takes, makes]
theorem bin_ne {a b : V} (ha : right a = true) (hb : right b = true) : bin [33, 61] a b = .bool (!same a b) := by
  have ho : opOf [33, 61] = 3 := by decide
  simp [bin, ho, ha, hb, takes, makes]
theorem bin_or {a b : V} (ha : right a = true) (hb : right b = true) (ka : a.k = 2) (kb : b.k = 2) : bin [124, 124] a b = .bool (decide (a.n = 1) || decide (b.n = 1)) := by
  have ho : opOf [124, 124] = 0 := by decide
  simp [bin, ho, ha, hb, takes, makes, isBool, ka, kb]
theorem bin_and {a b : V} (ha : right a = true) (hb : right b = true) (ka : a.k = 2) (kb : b.k = 2) : bin [38, 38] a b = .bool (decide (a.n = 1) && decide (b.n = 1)) := by
  have ho : opOf [38, 38] = 1 := by decide
  simp [bin, ho, ha, hb, takes, makes, isBool, ka, kb]
theorem un_not {a : V} (ha : right a = true) (ka : a.k = 2) : un [33] a = .bool (decide (a.n = 0)) := by
  have ho : unOf [33] = 1 := by decide
  simp [un, ho, ha, isBool, ka]
  rw [Bool.eq_iff_iff]; simp
end Vl
end Go.Proofs.YtcnmgebjbaclaaaDoor

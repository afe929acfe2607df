/-
  The walk of the law LexInts.
-/
import Derived.Test.YtkiafelpgcmifaaDoorLxTellsLaw
import Derived.Laws.BytesArg
namespace Go.Proofs.YtkiafelpgcmifaaDoor
open Go.RowKit Go.Shelf

attribute [local go_sem] Oper.semAt_some

namespace Lx
theorem digit_ld (c : Int) (h : digitI c = true) : ldI c = true ∧ blankI c = false ∧ letterI c = false ∧ c ≠ 47 := by
  simp [digitI] at h
  refine ⟨by simp [ldI, digitI]; omega, ?_, ?_, by omega⟩
  · simp [blankI]; omega
  · simp [letterI]; omega
theorem lead_digits {l : List UInt8} (h : digits l) : lead digitI l = l.length := lead_of_all _ _ (fun b hb => by have := h b hb; simp [digitI]; omega)
theorem words_letters : ∀ x ∈ words, ∀ b ∈ x.head?, letterI (b.toNat : Int) = true := by decide +kernel
/-- Digits alone are an integer, or a fault. -/
theorem lex_digits {l : List UInt8} (hd : digits l) (hn : l ≠ []) : lex l = if isInt l = true then .ok [⟨3, l, 0⟩] else .fault 101 0 := by
  have hall : ∀ b ∈ l, digitI (b.toNat : Int) = true := fun b hb => lead_all digitI l (lead_digits hd) b hb
  obtain ⟨b, r, hbr⟩ : ∃ b r, l = b :: r := by cases l with | nil => exact absurd rfl hn | cons b r => exact ⟨b, r, rfl⟩
  obtain ⟨h1, h2, h3, h4⟩ := digit_ld _ (hall b (by rw [hbr]; simp))
  have e1 : lead blankI l = 0 := by rw [hbr, lead_cons, if_neg (by simp [h2])]
  have e2 : [47, 47].isPrefixOf l = false := by
    rw [hbr]
    have : (47 : UInt8) ≠ b := fun e => h4 (by rw [← e]; rfl)
    simp [List.isPrefixOf, this]
  have e3 : lead ldI l = l.length := lead_of_all _ _ (fun b hb => (digit_ld _ (hall b hb)).1)
  have e4 : isWord l = false := by
    unfold isWord
    rw [Bool.eq_false_iff]
    intro hm
    rw [List.contains_iff_mem] at hm
    have := words_letters l hm b (by rw [hbr]; rfl)
    rw [h3] at this; cases this
  have e5 : isName l = false := by
    unfold isName spelled
    rw [hbr]
    simp [h3]
  have hp : 0 < l.length := List.length_pos_iff.2 hn
  have e6 : sort l = if isInt l = true then 3 else 0 := by unfold sort; rw [e4, e5]; simp
  rw [lex_rest]
  by_cases hi : isInt l = true
  · rw [if_pos hi] at e6 ⊢
    have hs : step l = .tok 3 l.length := by
      unfold step; rw [e1, if_neg (by omega), e2, if_neg (by simp), e3, if_pos hp, List.take_length, e6, if_neg (by decide)]
    rw [rest_tok 0 [] hs hn, List.drop_length, rest_nil, List.take_length]; rfl
  · rw [if_neg hi] at e6 ⊢
    have hs : step l = .bad 101 := by
      unfold step; rw [e1, if_neg (by omega), e2, if_neg (by simp), e3, if_pos hp, List.take_length, e6, if_pos rfl]
    rw [rest_bad 0 [] hs hn]
/-- The digits so far of a number, its last ones. -/
structure Part (N x : Nat) (D : List UInt8) : Prop where
  dig : digits D
  sum : N = x * 10 ^ D.length + val D
  head : x = 0 → D = [] ∨ D = [48] ∨ noZero D = true ∧ D ≠ []
  len : D.length ≤ 20
theorem Part.step {N x : Nat} {D : List UInt8} (h : Part N x D) (hN : N ≤ 18446744073709551615) (hx : 0 < x ∨ D = []) (b : UInt8) (hb : b.toNat = 48 + x % 10) : Part N (x / 10) (b :: D) := by
  have hs := h.sum
  refine ⟨?_, ?_, ?_, ?_⟩
  · intro c hc
    rcases List.mem_cons.1 hc with rfl | hc
    · omega
    · exact h.dig c hc
  · rw [val_cons, hb, List.length_cons, Nat.pow_succ, hs]
    have e : x = 10 * (x / 10) + x % 10 := by omega
    have e2 : x * 10 ^ D.length = (10 * (x / 10) + x % 10) * 10 ^ D.length := by rw [← e]
    rw [e2, Nat.add_mul, show 48 + x % 10 - 48 = x % 10 by omega, Nat.add_assoc]
    rw [show 10 * (x / 10) * 10 ^ D.length = x / 10 * (10 ^ D.length * 10) by rw [Nat.mul_comm 10 (x / 10), Nat.mul_assoc, Nat.mul_comm 10]]
  · intro h0
    right
    rcases hx with hx | hx
    · right
      refine ⟨?_, by simp⟩
      have hb2 : b ≠ 48 := fun e => by rw [e] at hb; have : (48 : UInt8).toNat = 48 := rfl; omega
      cases D with
      | nil => rfl
      | cons c r => simpa [noZero] using hb2
    · subst hx
      by_cases hx0 : x = 0
      · left
        have : b = 48 := by apply UInt8.toNat_inj.1; have : (48 : UInt8).toNat = 48 := rfl; omega
        rw [this]
      · right; exact ⟨rfl, by simp⟩
  · rw [List.length_cons]
    rcases hx with hx | hx
    · by_cases hl : D.length ≤ 19
      · omega
      · have : 10 ^ 20 ≤ 10 ^ D.length := Nat.pow_le_pow_right (by omega) (by omega)
        have : 1 * 10 ^ D.length ≤ x * 10 ^ D.length := Nat.mul_le_mul_right _ hx
        omega
    · rw [hx]; simp
theorem Part.done {N : Nat} {D : List UInt8} (h : Part N 0 D) (hD : D ≠ []) : isInt D = decide (N ≤ 9223372036854775807) ∧ val D = N := by
  have hs := h.sum
  rw [Nat.zero_mul, Nat.zero_add] at hs
  have hz : noZero D = true := by
    rcases h.head rfl with h0 | h0 | h0
    · exact absurd h0 hD
    · rw [h0]; rfl
    · exact h0.1
  refine ⟨?_, hs.symm⟩
  unfold isInt
  rw [hz, decide_eq_true hD, decide_eq_true (lead_digits h.dig), hs]
  simp
end Lx

theorem app_data' (a b : ByteArray) : (a ++ b).data.toList = a.data.toList ++ b.data.toList := by
  rw [ByteArray.data_append, Array.toList_append]
def emptyOf : Value → Nat
  | .string r => if r.size = 0 then 1 else 0
  | _ => 0

theorem emptyOf_ne (r : ByteArray) (h : r.size ≠ 0) : emptyOf (.string r) = 0 := if_neg h

set_option maxRecDepth 100000 in
set_option maxHeartbeats 2000000 in
theorem ints_law (N : Nat) (hN : N ≤ 18446744073709551615) (zero : Bool) (w : World) (hsg : SignsAt w.heap.size w) :
    Calls Tryd.prog 5 #[.int .u64 N, .bool zero] w fun r w' => r = .returned (.bool true) ∧ Below w.heap.size w w' := by
  have HSG : Hid (SignsAt w.heap.size w) := hsg
  clear hsg
  go_enter Tryd.func5, Tryd.ntmps5
  go_wp2_with fail
  refine (awake_any w HSG.out).mono ?_
  rintro r w1 ⟨rfl, b1⟩
  have B1 : Hid (Below w.heap.size w w1) := b1
  clear b1
  go_wp2_with fail
  go_loopw [5, 6] (fun S X wr => ∃ (x : Nat) (d : ByteArray), S = .string d ∧ X = .int .u64 x ∧ Lx.Part N x d.data.toList ∧ Below w1.heap.size w1 wr) (fun S X _ => (intOf X).toNat + emptyOf S)
  case atStart => exact ⟨N, ⟨#[]⟩, rfl, rfl, ⟨fun b hb => by simp at hb, by simp [Lx.val], fun _ => .inl rfl, by simp⟩, Below.refl _ _⟩
  case round =>
    obtain ⟨x, d, rfl, rfl, hP, hB⟩ := hrel
    have HP : Hid (Lx.Part N x d.data.toList) := hP
    have HB : Hid (Below w1.heap.size w1 wr) := hB
    have hdl : d.size ≤ 20 := hP.len
    have hxN : x ≤ 18446744073709551615 := by
      have h1 := hP.sum
      have h2 : x * 1 ≤ x * 10 ^ d.data.toList.length := Nat.mul_le_mul_left _ (Nat.one_le_pow _ _ (by omega))
      omega
    clear hP hB
    have r1 : Int.tmod (x : Int) 10 = ((x % 10 : Nat) : Int) := by rw [Int.tmod_eq_emod_of_nonneg (by omega)]; omega
    have r2 : Int.tdiv (x : Int) 10 = ((x / 10 : Nat) : Int) := by rw [Int.tdiv_eq_ediv_of_nonneg (by omega)]; omega
    have r3 : IntKind.u64.wrap (48 + ((x % 10 : Nat) : Int)) = 48 + ((x % 10 : Nat) : Int) := by rw [IntKind.wrap_u64]; omega
    have r4 : IntKind.u8.wrap (48 + ((x % 10 : Nat) : Int)) = 48 + ((x % 10 : Nat) : Int) := by rw [IntKind.wrap_u8]; omega
    obtain ⟨Z, hZ⟩ : ∃ Z, Z = strOfNums [48 + (x : Int) % 10] := ⟨_, rfl⟩
    have hcv : (convert 35 9 (.slice (some ⟨wr.heap.size, 0, none⟩) 1 1)).run Tryd.prog (wr.alloc (.cells #[.int .u8 (48 + (x : Int) % 10)] 5)) = .ok (.string Z) (wr.alloc (.cells #[.int .u8 (48 + (x : Int) % 10)] 5)) := by
      rw [hZ]
      refine run_convert_bytes_arg _ 35 5 Tryd.underlying35 Tryd.underlying5 wr.heap.size 0 1 1 [48 + (x : Int) % 10] rfl (fun i hi => ?_) 9 Tryd.underlying9
      have : i = 0 := by omega
      subst this
      rw [Lib.cell_of_heap (World.alloc_heap_new wr _)]; rfl
    have hzs : Z.size = 1 := by rw [hZ]; rfl
    have HZD : Hid (Z.data.toList = [UInt8.ofNat (48 + (x : Int) % 10).toNat]) := by show Z.data.toList = _; rw [hZ]; rfl
    have HZB : Hid ((UInt8.ofNat (48 + (x : Int) % 10).toNat).toNat = 48 + x % 10) := by
      show (UInt8.ofNat (48 + (x : Int) % 10).toNat).toNat = 48 + x % 10
      rw [UInt8.toNat_ofNat']
      omega
    have NXT : Hid (0 < x ∨ d.data.toList = [] → Lx.Part N (x / 10) (Z ++ d).data.toList) := fun h => by
      rw [app_data', HZD.out]
      exact HP.out.step hN h _ HZB.out
    clear hZ
    by_cases hx : 0 < x
    · go_wp2
      go_roundw
      case rel => exact ⟨x / 10, Z ++ d, rfl, by go_num, NXT.out (.inl hx), below_then HB.out (below_nw wr _)⟩
      case measure =>
        have e9 : (Z ++ d).size ≠ 0 := by rw [ByteArray.size_append, hzs]; omega
        simp only [intOf, emptyOf, if_neg e9]
        split <;> omega
    · have hx0 : x = 0 := by omega
      by_cases hd : d.size = 0
      · have hde := str_empty d hd
        subst hde
        subst hx0
        have hcv1 : (convert 35 9 (.slice (some ⟨wr.heap.size, 0, none⟩) 1 1)).run Tryd.prog (wr.alloc (.cells #[.int .u8 48] 5)) = .ok (.string Z) (wr.alloc (.cells #[.int .u8 48] 5)) := hcv
        clear hcv
        go_wp2
        go_roundw
        case rel => exact ⟨0, Z ++ ⟨#[]⟩, by first | rfl | simp, by go_num, NXT.out (.inr rfl), below_then HB.out (below_nw wr _)⟩
        case measure =>
          have e9 : emptyOf (.string Z) = 0 := emptyOf_ne Z (by omega)
          have e8 : emptyOf (.string (⟨#[]⟩ : ByteArray)) = 1 := rfl
          have e7 : Z ++ (⟨#[]⟩ : ByteArray) = Z := by
            apply ByteArray.ext
            apply Array.ext'
            rw [app_data']; simp
          first
            | (show _ + emptyOf (.string (Z ++ (⟨#[]⟩ : ByteArray))) < _ + emptyOf (.string (⟨#[]⟩ : ByteArray)); rw [e7, e9, e8]; exact Nat.lt_succ_self _)
            | (show _ + emptyOf (.string Z) < _ + emptyOf (.string (⟨#[]⟩ : ByteArray)); rw [e9, e8]; exact Nat.lt_succ_self _)
      · obtain ⟨n1, n2, n3⟩ := str_some d (by omega)
        have HX0 : Hid (x = 0) := hx0
        have hDne : d.data.toList ≠ [] := by rw [← Lib.toList_data]; exact n1
        have PD : Lx.Part N 0 d.data.toList := by rw [← hx0]; exact HP.out
        obtain ⟨hint, hval⟩ := PD.done hDne
        have hdd := PD.dig
        have HB1 : Hid (Below w.heap.size w wr) := below_then B1.out HB.out
        have SGR : Hid (SignsAt wr.heap.size wr) := HSG.out.at HB1.out
        subst hx0
        clear hcv hzs HZD HZB NXT r1 r2 r3 r4
        cases zero with
        | true =>
          have hT : Lx.lex (⟨#[48]⟩ ++ d : ByteArray).data.toList = .fault 101 0 := by
            have e9 : (⟨#[48]⟩ ++ d : ByteArray).data.toList = 48 :: d.data.toList := by rw [app_data']; rfl
            rw [e9, Lx.lex_digits (by intro b hb; rcases List.mem_cons.1 hb with rfl | hb; exact ⟨by decide, by decide⟩; exact hdd b hb) (by simp), if_neg]
            cases hdl2 : d.data.toList with
            | nil => exact absurd hdl2 hDne
            | cons c r => simp [Lx.isInt, Lx.noZero]
          have TK : Hid (_) := tokens_any (⟨#[48]⟩ ++ d) wr SGR.out (by rw [ByteArray.size_append]; show 1 + d.size ≤ _; omega)
          rw [hT] at TK
          clear hT hint hval hdd PD hDne n1 n2 n3
          have hne : d.toList ≠ [] := by rw [Lib.toList_data]; intro e; have h9 : d.data.toList.length = d.size := rfl; rw [e] at h9; simp at h9; omega
          have hne2 : d.toList.isEmpty = false := by simpa using hne
          go_wp2_with fail
          refine Calls.mono TK.out ?_
          rintro r w2 ⟨hr, b2⟩
          have hr2 : r = _ := hr
          subst hr2
          have B2 : Hid (Below w.heap.size w w2) := below_then HB1.out b2
          clear hr b2 TK
          go_wp2
          go_ret
          exact ⟨rfl, below_then B2.out (below_nw w2 _)⟩
        | false =>
          have TK : Hid (_) := tokens_any d wr SGR.out (by omega)
          have hne : d.toList ≠ [] := n1
          have hne2 : d.toList.isEmpty = false := n3
          by_cases hbig : N ≤ 9223372036854775807
          · have hT : Lx.lex d.data.toList = .ok [⟨3, d.data.toList, 0⟩] := by
              rw [Lx.lex_digits hdd hDne, if_pos (by rw [hint]; exact decide_eq_true hbig)]
            rw [hT] at TK
            clear hT hint hval hdd PD hDne n1 n2 n3
            have hg : decide ((9223372036854775807 : Int) < (N : Int)) = false := by simp; omega
            go_wp2_with fail
            refine Calls.mono TK.out ?_
            rintro r w2 ⟨⟨v, hr, ho, -⟩, b2⟩
            subst hr
            obtain ⟨g, cp, hv⟩ := ownsRow_succ ho
            subst hv
            have t0 : w2.cell? ⟨g, 0, none⟩ = some (.int .u8 3) := (ho.cellAt 0 (by simp)).trans rfl
            have t1 : w2.cell? ⟨g, 1, none⟩ = some (.string d) := (ho.cellAt 1 (by simp)).trans rfl
            have t2 : w2.cell? ⟨g, 2, none⟩ = some (.int .i64 0) := (ho.cellAt 2 (by simp)).trans rfl
            have l5 := (ho.lt g rfl).2
            have B2 : Hid (Below w.heap.size w w2) := below_then HB1.out b2
            have hdd2 : (d.toList == d.toList) = true := by simp
            clear ho b2 TK
            go_wp2
            go_ret
            exact ⟨rfl, below_then B2.out (below_nw w2 _)⟩
          · have hT : Lx.lex d.data.toList = .fault 101 0 := by
              rw [Lx.lex_digits hdd hDne, if_neg (by rw [hint, decide_eq_false hbig]; decide)]
            rw [hT] at TK
            clear hT hint hval hdd PD hDne n1 n2 n3
            have hg : decide ((9223372036854775807 : Int) < (N : Int)) = true := by simp; omega
            go_wp2_with fail
            refine Calls.mono TK.out ?_
            rintro r w2 ⟨hr, b2⟩
            have hr2 : r = _ := hr
            subst hr2
            have B2 : Hid (Below w.heap.size w w2) := below_then HB1.out b2
            clear hr b2 TK
            go_wp2
            go_ret
            exact ⟨rfl, below_then B2.out (below_nw w2 _)⟩

end Go.Proofs.YtkiafelpgcmifaaDoor

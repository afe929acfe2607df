/-
  The walk of ParseTokens.
-/
import Derived.Test.YtfegodofbdlbeaaGreatDoorPsCat
namespace Go.Proofs.YtfegodofbdlbeaaGreatDoor
open Go.RowKit Go.Shelf

attribute [local go_sem] Oper.semAt_some

def wordsL : List (List UInt8) := [[97], [98], [102], [49], [48], [50, 51], [118, 97, 114], [105, 102], [101, 108, 115, 101], [119, 104, 105, 108, 101], [114, 101, 116, 117, 114, 110], [112, 114, 105, 110, 116], [116, 114, 117, 101], [108, 101, 110], [114, 101, 97, 100], [40], [41], [123], [125], [91], [93], [44], [59], [61], [61, 61], [60], [38, 38], [124, 124], [43], [45], [42], [33], [102, 117, 110, 99]]
theorem wordsL_len : wordsL.length = 33 := rfl
theorem wordsL_short : ∀ t ∈ wordsL, t.length ≤ 6 := by decide

set_option maxRecDepth 100000 in
set_option maxHeartbeats 8000000 in
theorem ptokens_law (bl : List Int) (bv : Value) (w : World) (hb : PathLow w.heap.size w bv bl) (hbl : bl.length ≤ 9223372036854775807) (hsg : SignsAt w.heap.size w) :
    Calls Tryz.prog 4 #[bv] w fun e w' => e = .returned (.bool true) ∧ Below w.heap.size w w' := by
  have HSG : Hid (SignsAt w.heap.size w) := hsg
  have HA : Hid (_) := pawake_any w hsg
  obtain ⟨ba, bc, bb, bo, rfl, hba, hbx⟩ := hb.parts
  obtain ⟨BN, hBN⟩ : ∃ n, n = bl.length := ⟨_, rfl⟩
  have HBN : Hid (BN = bl.length) := hBN
  rw [← hBN] at hbl hba ⊢
  have HBX : Hid (∀ (j : Nat) (x : Int), bl[j]? = some x → w.cell? ⟨bb, bo + j, none⟩ = some (.int .i64 x)) := hbx
  clear hsg hbx hBN hb
  go_enter Tryz.func4, Tryz.ntmps4
  go_wp2_with fail
  refine Calls.mono HA.out ?_
  rintro e w1 ⟨rfl, b1⟩
  clear HA
  have HB1 : Hid (Below w.heap.size w w1) := b1
  clear b1
  by_cases h2 : 300 < BN
  · have d1 : decide (300 < BN) = true := decide_eq_true h2
    have d2 : decide ((300 : Int) < BN) = true := decide_eq_true (by omega)
    go_wp2
    go_ret
    exact ⟨rfl, HB1.out⟩
  have d1 : decide (300 < BN) = false := decide_eq_false h2
  have d2 : decide ((300 : Int) < BN) = false := decide_eq_false (by omega)
  obtain ⟨X, hX⟩ : ∃ X, X = w1.alloc (.cells #[.string ⟨#[97]⟩, .string ⟨#[98]⟩, .string ⟨#[102]⟩, .string ⟨#[49]⟩, .string ⟨#[48]⟩, .string ⟨#[50, 51]⟩, .string ⟨#[118, 97, 114]⟩, .string ⟨#[105, 102]⟩, .string ⟨#[101, 108, 115, 101]⟩, .string ⟨#[119, 104, 105, 108, 101]⟩, .string ⟨#[114, 101, 116, 117, 114, 110]⟩, .string ⟨#[112, 114, 105, 110, 116]⟩, .string ⟨#[116, 114, 117, 101]⟩, .string ⟨#[108, 101, 110]⟩, .string ⟨#[114, 101, 97, 100]⟩, .string ⟨#[40]⟩, .string ⟨#[41]⟩, .string ⟨#[123]⟩, .string ⟨#[125]⟩, .string ⟨#[91]⟩, .string ⟨#[93]⟩, .string ⟨#[44]⟩, .string ⟨#[59]⟩, .string ⟨#[61]⟩, .string ⟨#[61, 61]⟩, .string ⟨#[60]⟩, .string ⟨#[38, 38]⟩, .string ⟨#[124, 124]⟩, .string ⟨#[43]⟩, .string ⟨#[45]⟩, .string ⟨#[42]⟩, .string ⟨#[33]⟩, .string ⟨#[102, 117, 110, 99]⟩] 9) := ⟨_, rfl⟩
  have bX : Below w1.heap.size w1 X := hX ▸ below_new w1 _
  have hXh : X.heap[w1.heap.size]? = some (.cells #[.string ⟨#[97]⟩, .string ⟨#[98]⟩, .string ⟨#[102]⟩, .string ⟨#[49]⟩, .string ⟨#[48]⟩, .string ⟨#[50, 51]⟩, .string ⟨#[118, 97, 114]⟩, .string ⟨#[105, 102]⟩, .string ⟨#[101, 108, 115, 101]⟩, .string ⟨#[119, 104, 105, 108, 101]⟩, .string ⟨#[114, 101, 116, 117, 114, 110]⟩, .string ⟨#[112, 114, 105, 110, 116]⟩, .string ⟨#[116, 114, 117, 101]⟩, .string ⟨#[108, 101, 110]⟩, .string ⟨#[114, 101, 97, 100]⟩, .string ⟨#[40]⟩, .string ⟨#[41]⟩, .string ⟨#[123]⟩, .string ⟨#[125]⟩, .string ⟨#[91]⟩, .string ⟨#[93]⟩, .string ⟨#[44]⟩, .string ⟨#[59]⟩, .string ⟨#[61]⟩, .string ⟨#[61, 61]⟩, .string ⟨#[60]⟩, .string ⟨#[38, 38]⟩, .string ⟨#[124, 124]⟩, .string ⟨#[43]⟩, .string ⟨#[45]⟩, .string ⟨#[42]⟩, .string ⟨#[33]⟩, .string ⟨#[102, 117, 110, 99]⟩] 9 (0, 0)) := by rw [hX]; exact World.alloc_heap_new w1 _
  have HXC : Hid (∀ (j : Nat) (t : List UInt8), wordsL[j]? = some t → X.cell? ⟨w1.heap.size, j, none⟩ = some (.string (Ln.bs t))) := fun j t ht => by
    refine cells_at hXh ?_
    have e : (#[.string ⟨#[97]⟩, .string ⟨#[98]⟩, .string ⟨#[102]⟩, .string ⟨#[49]⟩, .string ⟨#[48]⟩, .string ⟨#[50, 51]⟩, .string ⟨#[118, 97, 114]⟩, .string ⟨#[105, 102]⟩, .string ⟨#[101, 108, 115, 101]⟩, .string ⟨#[119, 104, 105, 108, 101]⟩, .string ⟨#[114, 101, 116, 117, 114, 110]⟩, .string ⟨#[112, 114, 105, 110, 116]⟩, .string ⟨#[116, 114, 117, 101]⟩, .string ⟨#[108, 101, 110]⟩, .string ⟨#[114, 101, 97, 100]⟩, .string ⟨#[40]⟩, .string ⟨#[41]⟩, .string ⟨#[123]⟩, .string ⟨#[125]⟩, .string ⟨#[91]⟩, .string ⟨#[93]⟩, .string ⟨#[44]⟩, .string ⟨#[59]⟩, .string ⟨#[61]⟩, .string ⟨#[61, 61]⟩, .string ⟨#[60]⟩, .string ⟨#[38, 38]⟩, .string ⟨#[124, 124]⟩, .string ⟨#[43]⟩, .string ⟨#[45]⟩, .string ⟨#[42]⟩, .string ⟨#[33]⟩, .string ⟨#[102, 117, 110, 99]⟩] : Array Value) = (wordsL.map txtV).toArray := rfl
    rw [e, List.getElem?_toArray, List.getElem?_map, ht]
    rfl
  have HBX1 : Hid (Below w.heap.size w X) := below_then HB1.out bX
  have hxs : w1.heap.size < X.heap.size := (Array.getElem?_eq_some_iff.1 hXh).1
  obtain ⟨wb, hwb⟩ : ∃ b, b = w1.heap.size := ⟨_, rfl⟩
  have HWB : Hid (wb < X.heap.size) := by rw [hwb]; exact hxs
  rw [← hwb] at HXC
  clear bX hXh hxs HB1
  go_wp2
  rw [← hX, ← hwb]
  clear hX hwb
  go_loopw [4, 5] (fun S I wr => ∃ (O : List UInt8) (k : Nat), k ≤ BN ∧ S = .string (Ln.bs O) ∧ O.length ≤ 9 + 7 * k ∧ I = .int .i64 k ∧ wr = X) (fun _ I _ => BN - (intOf I).toNat)
  case atStart => exact ⟨[102, 117, 110, 99, 32, 102, 40, 41, 123], 0, Nat.zero_le _, rfl, by decide, rfl, rfl⟩
  case round =>
    obtain ⟨O, k, hk, rfl, hO, rfl, rfl⟩ := hrel
    by_cases hlt : k < BN
    · obtain ⟨x, hx⟩ : ∃ x, bl[k]? = some x := ⟨bl[k]'(by have := HBN.out; omega), List.getElem?_eq_getElem _⟩
      obtain ⟨rfl, hbl2⟩ := hba (by omega)
      have cx : wr.cell? ⟨bb, bo + k, none⟩ = some (.int .i64 x) := (HBX1.out.cell (p := ⟨bb, bo + k, none⟩) hbl2).trans (HBX.out k x hx)
      have i1 : decide ((k : Int) < BN) = true := decide_eq_true (by omega)
      have i2 : decide (k < BN) = true := decide_eq_true (by omega)
      have HP : Hid (_) := pick_any x 33 wr (by decide) (by decide)
      have hOs : (Ln.bs O).size = O.length := bs_size O
      have cat1 : Ln.bs O ++ (⟨#[32]⟩ : ByteArray) = Ln.bs (O ++ [32]) := bs_cat O [32]
      have s1 : O.length + 1 ≤ 9223372036854775807 := by omega
      have s2 : (Ln.bs (O ++ [32])).size = O.length + 1 := by rw [bs_size]; simp
      clear hx
      go_wp2_with fail
      refine Calls.mono HP.out ?_
      rintro e w2 ⟨⟨r, rfl, h0, h1⟩, hw2⟩
      subst hw2
      clear HP
      obtain ⟨j, t, rfl, hj, ht⟩ := list_at wordsL r 33 h0 h1 wordsL_len
      have ct := HXC.out j t ht
      have tl : t.length ≤ 6 := wordsL_short t (List.mem_of_getElem? ht)
      have hts : (Ln.bs t).size = t.length := bs_size t
      have cat2 : Ln.bs (O ++ [32]) ++ Ln.bs t = Ln.bs (O ++ [32] ++ t) := bs_cat _ t
      have s3 : O.length + 1 + t.length ≤ 9223372036854775807 := by omega
      have hjI : (j : Int) < 33 := by omega
      clear ht
      go_wp2
      go_roundw
      case rel => exact ⟨O ++ [32] ++ t, k + 1, by omega, by simp, by simp; omega, by go_num, trivial⟩
      case measure => simp [intOf]; omega
    · have i1 : decide ((k : Int) < BN) = false := decide_eq_false (by omega)
      have i2 : decide (k < BN) = false := decide_eq_false (by omega)
      obtain ⟨S, hS⟩ : ∃ S, S = Ln.bs (O ++ [125]) := ⟨_, rfl⟩
      have cat1 : Ln.bs O ++ (⟨#[125]⟩ : ByteArray) = S := by rw [hS]; exact bs_cat O [125]
      have hOs : (Ln.bs O).size = O.length := bs_size O
      have s1 : O.length + 1 ≤ 9223372036854775807 := by omega
      have hSs : S.size ≤ 3000 := by rw [hS, bs_size]; simp; omega
      clear hS
      have HSM : Hid (∀ ks, FileOk (S).data.toList ks → True) := fun _ _ => trivial
      have HF : Hid (_) := pfileAll_any (S) wr ((HSG.out.keep HBX1.out).mono HBX1.out.size) (by omega)
      go_wp2_with fail
      refine Calls.mono HF.out ?_
      rintro e w3 ⟨b3, g3⟩
      clear HF HSM
      obtain ⟨k, tx, n, a, L1, cc, E, i, rfl, t3⟩ := g3.gen
      obtain ⟨y1, y2, y3, y4⟩ := two_boxes w3 #[.int .u8 k, .string tx, .int .i64 n, .slice a L1 cc] #[.int .i64 E, .int .i64 i]
      obtain ⟨Y, hY⟩ : ∃ Y, Y = (w3.alloc (.cells #[.int .u8 k, .string tx, .int .i64 n, .slice a L1 cc] 26)).alloc (.cells #[.int .i64 E, .int .i64 i] 29) := ⟨_, rfl⟩
      rw [← hY] at y1 y2 y3 y4
      have HY : Hid (Below w3.heap.size w3 Y ∧ Below wr.heap.size wr Y ∧ Y.heap[w3.heap.size]? = some (.cells #[.int .u8 k, .string tx, .int .i64 n, .slice a L1 cc] 26 (0, 0)) ∧ Y.heap[w3.heap.size + 1]? = some (.cells #[.int .i64 E, .int .i64 i] 29 (0, 0))) := ⟨y1, below_then b3 y1, y3, y4⟩
      have HT3 : Hid (GTold (S) wr w3 (.agg #[.int .u8 k, .string tx, .int .i64 n, .slice a L1 cc]) E i) := t3
      have HF : Hid (_) := rfileAll_any (S) Y (by omega)
      clear y1 y2 y3 y4 t3 g3 b3
      go_wp2_with fail
      rw [← hY]
      clear hY
      refine Calls.mono HF.out ?_
      rintro e w4 ⟨b4, g4⟩
      clear HF
      obtain ⟨k', tx', n', a', L2, cc', E', i', rfl, t4⟩ := g4.gen
      obtain ⟨y1, y2, y3, y4⟩ := two_boxes w4 #[.int .u8 k', .string tx', .int .i64 n', .slice a' L2 cc'] #[.int .i64 E', .int .i64 i']
      obtain ⟨x1, x2, x3, x4⟩ := HY.out
      obtain ⟨tt, hEE, hii, nd1, nd2⟩ := told_two (w1 := Y) HT3.out t4 x1 b4 y1
      subst hEE
      subst hii
      obtain ⟨Z, hZ⟩ : ∃ Z, Z = (w4.alloc (.cells #[.int .u8 k', .string tx', .int .i64 n', .slice a' L2 cc'] 26)).alloc (.cells #[.int .i64 E, .int .i64 i] 29) := ⟨_, rfl⟩
      rw [← hZ] at y1 y2 y3 y4 nd1 nd2
      have bYZ : Below Y.heap.size Y Z := below_then b4 y1
      have bwZ : Below wr.heap.size wr Z := below_then x2 bYZ
      have u3 := (b4.block _ (Array.getElem?_eq_some_iff.1 x3).1).trans x3
      have u4 := (b4.block _ (Array.getElem?_eq_some_iff.1 x4).1).trans x4
      have lt1 : w3.heap.size < w4.heap.size := (Array.getElem?_eq_some_iff.1 u3).1
      have lt2 : w3.heap.size + 1 < w4.heap.size := (Array.getElem?_eq_some_iff.1 u4).1
      have f0 : w4.cell? ⟨w3.heap.size + 1, 0, none⟩ = some (.int .i64 E) := cells_at u4 rfl
      have f1 : w4.cell? ⟨w3.heap.size + 1, 1, none⟩ = some (.int .i64 i) := cells_at u4 rfl
      have m0 : w4.cell? ⟨w3.heap.size, 0, none⟩ = some (.int .u8 k) := cells_at u3 rfl
      have m1 : w4.cell? ⟨w3.heap.size, 1, none⟩ = some (.string tx) := cells_at u3 rfl
      have m2 : w4.cell? ⟨w3.heap.size, 2, none⟩ = some (.int .i64 n) := cells_at u3 rfl
      have m3 : w4.cell? ⟨w3.heap.size, 3, none⟩ = some (.slice a L1 cc) := cells_at u3 rfl
      have HT : Hid (_) := sameNode_any tt (lowS Z.heap.size) (lowS Z.heap.size) _ _ tt Z (fun _ h => h) (fun _ h => h) nd1 nd2
      rw [Tr.eqb_refl] at HT
      have HZ : Hid (Below w.heap.size w Z) := below_then HBX1.out bwZ
      clear y1 y2 y3 y4 x1 x2 x3 x4 bYZ bwZ u3 u4 t4 g4 b4 nd1 nd2 HT3 HY
      go_wp2_with fail
      rw [← hZ]
      clear hZ f0 f1 m0 m1 m2 m3 lt1 lt2
      refine Calls.mono HT.out ?_
      rintro e w5 ⟨rfl, b5⟩
      have HE : Hid (Below w.heap.size w w5) := below_then HZ.out b5
      clear b5 HT HZ
      go_wp2
      go_ret
      exact ⟨rfl, HE.out⟩
end Go.Proofs.YtfegodofbdlbeaaGreatDoor

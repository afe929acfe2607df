/-
  The walk of ParseDeep.
-/
import Derived.Test.YtfegodofbdlbeaaGreatDoorPsCat
namespace Go.Proofs.YtfegodofbdlbeaaGreatDoor
open Go.RowKit Go.Shelf

attribute [local go_sem] Oper.semAt_some

def openL : List (List UInt8) := [[40], [45], [33], [91, 49, 59], [102, 40], [108, 101, 110, 40], [123], [97, 43]]
def endL : List (List UInt8) := [[41], [], [], [93], [41], [41], [125], []]
theorem openL_short : ∀ t ∈ openL, t.length ≤ 4 := by decide
theorem endL_short : ∀ t ∈ endL, t.length ≤ 1 := by decide

set_option maxRecDepth 100000 in
set_option maxHeartbeats 8000000 in
theorem pdeep_law (x y : Int) (s : ByteArray) (hs : s.size ≤ maxLen) (w : World) (hsg : SignsAt w.heap.size w) :
    Calls Tryz.prog 5 #[.int .i64 x, .int .i64 y, .string s] w fun e w' => e = .returned (.bool true) ∧ Below w.heap.size w w' := by
  have HSG : Hid (SignsAt w.heap.size w) := hsg
  have hs1 : s.size ≤ 9223372036854775807 := hs
  have HA : Hid (_) := pawake_any w hsg
  clear hsg hs
  go_enter Tryz.func5, Tryz.ntmps5
  go_wp2_with fail
  refine Calls.mono HA.out ?_
  rintro e w1 ⟨rfl, b1⟩
  clear HA
  have HB1 : Hid (Below w.heap.size w w1) := b1
  clear b1
  have HP : Hid (_) := pick_any y 130 w1 (by decide) (by decide)
  go_wp2_with fail
  refine Calls.mono HP.out ?_
  rintro e w2 ⟨⟨r, rfl, h0, h1⟩, hw2⟩
  subst hw2
  clear HP
  obtain ⟨kk, rfl⟩ := Int.eq_ofNat_of_zero_le h0
  have hkk : kk < 130 := by omega
  clear h0 h1
  obtain ⟨X, hX⟩ : ∃ X, X = w2.alloc (.cells #[.string ⟨#[40]⟩, .string ⟨#[45]⟩, .string ⟨#[33]⟩, .string ⟨#[91, 49, 59]⟩, .string ⟨#[102, 40]⟩, .string ⟨#[108, 101, 110, 40]⟩, .string ⟨#[123]⟩, .string ⟨#[97, 43]⟩] 9) := ⟨_, rfl⟩
  have bX : Below w2.heap.size w2 X := hX ▸ below_new w2 _
  have hXh : X.heap[w2.heap.size]? = some (.cells #[.string ⟨#[40]⟩, .string ⟨#[45]⟩, .string ⟨#[33]⟩, .string ⟨#[91, 49, 59]⟩, .string ⟨#[102, 40]⟩, .string ⟨#[108, 101, 110, 40]⟩, .string ⟨#[123]⟩, .string ⟨#[97, 43]⟩] 9 (0, 0)) := by rw [hX]; exact World.alloc_heap_new w2 _
  have HXC : Hid (∀ (j : Nat) (t : List UInt8), openL[j]? = some t → X.cell? ⟨w2.heap.size, j, none⟩ = some (.string (Ln.bs t))) := fun j t ht => by
    refine cells_at hXh ?_
    have e : (#[.string ⟨#[40]⟩, .string ⟨#[45]⟩, .string ⟨#[33]⟩, .string ⟨#[91, 49, 59]⟩, .string ⟨#[102, 40]⟩, .string ⟨#[108, 101, 110, 40]⟩, .string ⟨#[123]⟩, .string ⟨#[97, 43]⟩] : Array Value) = (openL.map txtV).toArray := rfl
    rw [e, List.getElem?_toArray, List.getElem?_map, ht]
    rfl
  have HBX : Hid (Below w.heap.size w X) := below_then HB1.out bX
  have HP : Hid (_) := pick_any x 8 X (by decide) (by decide)
  clear bX hXh
  go_wp2_with fail
  rw [← hX]
  clear hX
  refine Calls.mono HP.out ?_
  rintro e w3 ⟨⟨r, rfl, h0, h1⟩, hw3⟩
  subst hw3
  clear HP
  obtain ⟨j, op, rfl, hj, hop⟩ := list_at openL r 8 h0 h1 rfl
  have ct := HXC.out j op hop
  have opl : op.length ≤ 4 := openL_short op (List.mem_of_getElem? hop)
  have hjI : (j : Int) < 8 := by omega
  clear hop h0 h1 HXC
  obtain ⟨Y, hY⟩ : ∃ Y, Y = w3.alloc (.cells #[.string ⟨#[41]⟩, .string ⟨#[]⟩, .string ⟨#[]⟩, .string ⟨#[93]⟩, .string ⟨#[41]⟩, .string ⟨#[41]⟩, .string ⟨#[125]⟩, .string ⟨#[]⟩] 9) := ⟨_, rfl⟩
  have bY : Below w3.heap.size w3 Y := hY ▸ below_new w3 _
  have hYh : Y.heap[w3.heap.size]? = some (.cells #[.string ⟨#[41]⟩, .string ⟨#[]⟩, .string ⟨#[]⟩, .string ⟨#[93]⟩, .string ⟨#[41]⟩, .string ⟨#[41]⟩, .string ⟨#[125]⟩, .string ⟨#[]⟩] 9 (0, 0)) := by rw [hY]; exact World.alloc_heap_new w3 _
  have HYC : Hid (∀ (j : Nat) (t : List UInt8), endL[j]? = some t → Y.cell? ⟨w3.heap.size, j, none⟩ = some (.string (Ln.bs t))) := fun j t ht => by
    refine cells_at hYh ?_
    have e : (#[.string ⟨#[41]⟩, .string ⟨#[]⟩, .string ⟨#[]⟩, .string ⟨#[93]⟩, .string ⟨#[41]⟩, .string ⟨#[41]⟩, .string ⟨#[125]⟩, .string ⟨#[]⟩] : Array Value) = (endL.map txtV).toArray := rfl
    rw [e, List.getElem?_toArray, List.getElem?_map, ht]
    rfl
  have HBY : Hid (Below w.heap.size w Y) := below_then HBX.out bY
  have HP : Hid (_) := pick_any x 8 Y (by decide) (by decide)
  clear bY hYh
  go_wp2_with fail
  rw [← hY]
  clear hY ct hjI
  refine Calls.mono HP.out ?_
  rintro e w4 ⟨⟨r, rfl, h0, h1⟩, hw4⟩
  subst hw4
  clear HP
  obtain ⟨j2, en, rfl, hj2, hen⟩ := list_at endL r 8 h0 h1 rfl
  have ct := HYC.out j2 en hen
  have enl : en.length ≤ 1 := endL_short en (List.mem_of_getElem? hen)
  have hjI : (j2 : Int) < 8 := by omega
  clear hen h0 h1 HYC
  have hops : (Ln.bs op).size = op.length := bs_size op
  have hens : (Ln.bs en).size = en.length := bs_size en
  go_wp2
  clear ct hjI
  go_loopw [10, 11, 12] (fun A B I wr => ∃ (a b : List UInt8) (k : Nat), k ≤ kk ∧ A = .string (Ln.bs a) ∧ B = .string (Ln.bs b) ∧ a.length ≤ 4 * k ∧ b.length ≤ k ∧ I = .int .i64 k ∧ wr = w4) (fun _ _ I _ => kk - (intOf I).toNat)
  case atStart => exact ⟨[], [], 0, Nat.zero_le _, rfl, rfl, by simp, by simp, rfl, rfl⟩
  case round =>
    obtain ⟨a, b, k, hk, rfl, rfl, ha, hb, rfl, rfl⟩ := hrel
    have has : (Ln.bs a).size = a.length := bs_size a
    have hbs : (Ln.bs b).size = b.length := bs_size b
    by_cases hlt : k < kk
    · have i1 : decide ((k : Int) < kk) = true := decide_eq_true (by omega)
      have i2 : decide (k < kk) = true := decide_eq_true (by omega)
      have cat1 : Ln.bs a ++ Ln.bs op = Ln.bs (a ++ op) := bs_cat a op
      have cat2 : Ln.bs b ++ Ln.bs en = Ln.bs (b ++ en) := bs_cat b en
      have s1 : a.length + op.length ≤ 9223372036854775807 := by omega
      have s2 : b.length + en.length ≤ 9223372036854775807 := by omega
      go_wp2
      go_roundw
      case rel => exact ⟨a ++ op, b ++ en, k + 1, by omega, rfl, rfl, by simp; omega, by simp; omega, by go_num, trivial⟩
      case measure => simp [intOf]; omega
    · have i1 : decide ((k : Int) < kk) = false := decide_eq_false (by omega)
      have i2 : decide (k < kk) = false := decide_eq_false (by omega)
      obtain ⟨p1, hp1⟩ : ∃ p, p = [102, 117, 110, 99, 32, 102, 40, 41, 123, 112, 114, 105, 110, 116, 32] ++ a := ⟨_, rfl⟩
      obtain ⟨p2, hp2⟩ : ∃ p, p = p1 ++ [49] := ⟨_, rfl⟩
      obtain ⟨p3, hp3⟩ : ∃ p, p = p2 ++ b := ⟨_, rfl⟩
      obtain ⟨p4, hp4⟩ : ∃ p, p = p3 ++ [59, 125] := ⟨_, rfl⟩
      have l1 : p1.length ≤ 15 + a.length := by rw [hp1]; simp; omega
      have l2 : p2.length ≤ p1.length + 1 := by rw [hp2]; simp
      have l3 : p3.length ≤ p2.length + b.length := by rw [hp3]; simp
      have l4 : p4.length ≤ p3.length + 2 := by rw [hp4]; simp
      have c1 : (⟨#[102, 117, 110, 99, 32, 102, 40, 41, 123, 112, 114, 105, 110, 116, 32]⟩ : ByteArray) ++ Ln.bs a = Ln.bs p1 := by rw [hp1]; exact bs_cat [102, 117, 110, 99, 32, 102, 40, 41, 123, 112, 114, 105, 110, 116, 32] a
      have c2 : Ln.bs p1 ++ (⟨#[49]⟩ : ByteArray) = Ln.bs p2 := by rw [hp2]; exact bs_cat p1 [49]
      have c3 : Ln.bs p2 ++ Ln.bs b = Ln.bs p3 := by rw [hp3]; exact bs_cat p2 b
      have c4 : Ln.bs p3 ++ (⟨#[59, 125]⟩ : ByteArray) = Ln.bs p4 := by rw [hp4]; exact bs_cat p3 [59, 125]
      obtain ⟨q1, hq1⟩ : ∃ p, p = [102, 117, 110, 99, 32, 102, 40, 41, 123] ++ a := ⟨_, rfl⟩
      obtain ⟨q2, hq2⟩ : ∃ p, p = q1 ++ b := ⟨_, rfl⟩
      obtain ⟨q3, hq3⟩ : ∃ p, p = q2 ++ [125] := ⟨_, rfl⟩
      have m1 : q1.length ≤ 9 + a.length := by rw [hq1]; simp; omega
      have m2 : q2.length ≤ q1.length + b.length := by rw [hq2]; simp
      have m3 : q3.length ≤ q2.length + 1 := by rw [hq3]; simp
      have e1 : (⟨#[102, 117, 110, 99, 32, 102, 40, 41, 123]⟩ : ByteArray) ++ Ln.bs a = Ln.bs q1 := by rw [hq1]; exact bs_cat [102, 117, 110, 99, 32, 102, 40, 41, 123] a
      have e2 : Ln.bs q1 ++ Ln.bs b = Ln.bs q2 := by rw [hq2]; exact bs_cat q1 b
      have e3 : Ln.bs q2 ++ (⟨#[125]⟩ : ByteArray) = Ln.bs q3 := by rw [hq3]; exact bs_cat q2 [125]
      have z1 : (Ln.bs p1).size = p1.length := bs_size p1
      have z2 : (Ln.bs p2).size = p2.length := bs_size p2
      have z3 : (Ln.bs p3).size = p3.length := bs_size p3
      have y1 : (Ln.bs q1).size = q1.length := bs_size q1
      have y2 : (Ln.bs q2).size = q2.length := bs_size q2
      have g1 : 15 + a.length ≤ 9223372036854775807 := by omega
      have g2 : p1.length + 1 ≤ 9223372036854775807 := by omega
      have g3 : p2.length + b.length ≤ 9223372036854775807 := by omega
      have g4 : p3.length + 2 ≤ 9223372036854775807 := by omega
      have g5 : 9 + a.length ≤ 9223372036854775807 := by omega
      have g6 : q1.length + b.length ≤ 9223372036854775807 := by omega
      have g7 : q2.length + 1 ≤ 9223372036854775807 := by omega
      clear hp1 hp2 hp3 hp4 hq1 hq2 hq3
      by_cases hop : op = [123]
      all_goals
        first
          | have d1 : ((Ln.bs op).toList == [123]) = true := by rw [Lib.toList_data, Ln.bs_toList, hop]; rfl
          | have d1 : ((Ln.bs op).toList == [123]) = false := by rw [Lib.toList_data, Ln.bs_toList]; simpa using hop
        clear hop
        have ha516 : a.length ≤ 516 := by omega
        have hb129 : b.length ≤ 129 := by omega
        have l4' : p4.length ≤ 1000 := by omega
        have m3' : q3.length ≤ 1000 := by omega
        go_upto_region 15 with fail
        clear c1 c2 c3 c4 e1 e2 e3 z1 z2 z3 y1 y2 g1 g2 g3 g4 g5 g6 g7 d1 i1 i2 has hbs hops hens ha hb hk hkk hlt opl enl hj hj2
        first
          | (obtain ⟨P, hP⟩ : ∃ P, P = Ln.bs q3 := ⟨_, rfl⟩
             rw [← hP]
             have hPs : P.size ≤ 1000 := by rw [hP, bs_size]; exact m3')
          | (obtain ⟨P, hP⟩ : ∃ P, P = Ln.bs p4 := ⟨_, rfl⟩
             rw [← hP]
             have hPs : P.size ≤ 1000 := by rw [hP, bs_size]; exact l4')
        clear hP l1 l2 l3 l4 m1 m2 m3 l4' m3'
        by_cases h100 : s.size < 100
        all_goals
          first
            | (have i3 : decide (s.size < 100) = true := decide_eq_true h100
               have i4 : decide ((s.size : Int) < 100) = true := decide_eq_true (by omega)
               have gP : P.size + s.size ≤ 9223372036854775807 := by omega
               obtain ⟨S, hS⟩ : ∃ S, S = P ++ s := ⟨_, rfl⟩
               have hSs : S.size ≤ 3000 := by rw [hS, ByteArray.size_append]; omega
               have catS : P ++ s = S := hS.symm
               clear hS)
            | (have i3 : decide (s.size < 100) = false := decide_eq_false h100
               have i4 : decide ((s.size : Int) < 100) = false := decide_eq_false (by omega)
               obtain ⟨S, hS⟩ : ∃ S, S = P := ⟨_, rfl⟩
               have hSs : S.size ≤ 3000 := by rw [hS]; omega
               subst hS)
          have HSM : Hid (∀ ks, FileOk (S).data.toList ks → True) := fun _ _ => trivial
          have HF : Hid (_) := pfileAll_any (S) wr ((HSG.out.keep HBY.out).mono HBY.out.size) (by omega)
          go_wp2_with fail
          refine Calls.mono HF.out ?_
          rintro e w3 ⟨b3, g3⟩
          clear HF HSM
          obtain ⟨k, tx, n, a, L1, cc, E, i, rfl, t3⟩ := g3.gen
          obtain ⟨y1, y2, y3, y4⟩ := two_boxes w3 #[.int .u8 k, .string tx, .int .i64 n, .slice a L1 cc] #[.int .i64 E, .int .i64 i]
          obtain ⟨Y, hY⟩ : ∃ Y, Y = (w3.alloc (.cells #[.int .u8 k, .string tx, .int .i64 n, .slice a L1 cc] 26)).alloc (.cells #[.int .i64 E, .int .i64 i] 29) := ⟨_, rfl⟩
          rw [← hY] at y1 y2 y3 y4
          have HY : Hid (Below w3.heap.size w3 Y ∧ Below wr.heap.size wr Y ∧ Y.heap[w3.heap.size]? = some (.cells #[.int .u8 k, .string tx, .int .i64 n, .slice a L1 cc] 26 (0, 0)) ∧ Y.heap[w3.heap.size + 1]? = some (.cells #[.int .i64 E, .int .i64 i] 29 (0, 0))) := ⟨y1, below_then b3 y1, y3, y4⟩
          have HT3 : Hid (GTold (S) wr w3 (.agg #[.int .u8 k, .string tx, .int .i64 n, .slice a L1 cc]) E i) := t3
          have HF : Hid (_) := rfileAll_any (S) Y (by omega)
          clear y1 y2 y3 y4 t3 g3 b3
          go_wp2_with fail
          rw [← hY]
          clear hY
          refine Calls.mono HF.out ?_
          rintro e w4 ⟨b4, g4⟩
          clear HF
          obtain ⟨k', tx', n', a', L2, cc', E', i', rfl, t4⟩ := g4.gen
          obtain ⟨y1, y2, y3, y4⟩ := two_boxes w4 #[.int .u8 k', .string tx', .int .i64 n', .slice a' L2 cc'] #[.int .i64 E', .int .i64 i']
          obtain ⟨x1, x2, x3, x4⟩ := HY.out
          obtain ⟨tt, hEE, hii, nd1, nd2⟩ := told_two (w1 := Y) HT3.out t4 x1 b4 y1
          subst hEE
          subst hii
          obtain ⟨Z, hZ⟩ : ∃ Z, Z = (w4.alloc (.cells #[.int .u8 k', .string tx', .int .i64 n', .slice a' L2 cc'] 26)).alloc (.cells #[.int .i64 E, .int .i64 i] 29) := ⟨_, rfl⟩
          rw [← hZ] at y1 y2 y3 y4 nd1 nd2
          have bYZ : Below Y.heap.size Y Z := below_then b4 y1
          have bwZ : Below wr.heap.size wr Z := below_then x2 bYZ
          have u3 := (b4.block _ (Array.getElem?_eq_some_iff.1 x3).1).trans x3
          have u4 := (b4.block _ (Array.getElem?_eq_some_iff.1 x4).1).trans x4
          have lt1 : w3.heap.size < w4.heap.size := (Array.getElem?_eq_some_iff.1 u3).1
          have lt2 : w3.heap.size + 1 < w4.heap.size := (Array.getElem?_eq_some_iff.1 u4).1
          have f0 : w4.cell? ⟨w3.heap.size + 1, 0, none⟩ = some (.int .i64 E) := cells_at u4 rfl
          have f1 : w4.cell? ⟨w3.heap.size + 1, 1, none⟩ = some (.int .i64 i) := cells_at u4 rfl
          have m0 : w4.cell? ⟨w3.heap.size, 0, none⟩ = some (.int .u8 k) := cells_at u3 rfl
          have m1 : w4.cell? ⟨w3.heap.size, 1, none⟩ = some (.string tx) := cells_at u3 rfl
          have m2 : w4.cell? ⟨w3.heap.size, 2, none⟩ = some (.int .i64 n) := cells_at u3 rfl
          have m3 : w4.cell? ⟨w3.heap.size, 3, none⟩ = some (.slice a L1 cc) := cells_at u3 rfl
          have HT : Hid (_) := sameNode_any tt (lowS Z.heap.size) (lowS Z.heap.size) _ _ tt Z (fun _ h => h) (fun _ h => h) nd1 nd2
          rw [Tr.eqb_refl] at HT
          have HZ : Hid (Below w.heap.size w Z) := below_then HBY.out bwZ
          clear y1 y2 y3 y4 x1 x2 x3 x4 bYZ bwZ u3 u4 t4 g4 b4 nd1 nd2 HT3 HY
          go_wp2_with fail
          rw [← hZ]
          clear hZ f0 f1 m0 m1 m2 m3 lt1 lt2
          refine Calls.mono HT.out ?_
          rintro e w5 ⟨rfl, b5⟩
          have HE : Hid (Below w.heap.size w w5) := below_then HZ.out b5
          clear b5 HT HZ
          go_wp2
          go_ret
          exact ⟨rfl, HE.out⟩
end Go.Proofs.YtfegodofbdlbeaaGreatDoor

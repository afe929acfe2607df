/-
  The walks of hunk.exchanged and hunk.Apply.
-/
import Derived.Test.YtkiafelpgcmifaaHnCatch
namespace Go.Proofs.Ytkiafelpgcmifaa
open Go.RowKit Go.Shelf

attribute [local go_sem] Oper.semAt_some

/-- What Apply tells: an error's number, and no lines; or lines in memory of their own. -/
def ApplyPost (r : Except Nat (List (List UInt8))) (w : World) (e : Ending) (w' : World) : Prop :=
  Below w.heap.size w w' ∧ match r with
  | .error c => e = .returned (.tuple #[.slice none 0 0, .int .i64 (c : Int)])
  | .ok o => ∃ tv, e = .returned (.tuple #[tv, .int .i64 0]) ∧ w'.ownsRow w.heap.size 9 1 tv o.length (o.map txtV)
/-- The end of Apply: an open line may have come amid others. -/
def ended (r : Except Nat (List (List UInt8))) : Except Nat (List (List UInt8)) :=
  match r with
  | .error e => .error e
  | .ok o => if Hn.lines o then .ok o else .error 4
theorem go_at (L : List (List UInt8)) (xs : List HA) (k f p : Nat) (O : List (List UInt8)) (x : HA) (hx : xs[k]? = some x) (hp : x.at_ = p) : Hn.go L f O ((xs.drop k).map HA.h) =
    if L.length < p + x.old.length then .error 6 else if (L.drop p).take x.old.length = x.old then Hn.go L (p + x.old.length) (O ++ (Df.part L f p ++ x.new)) ((xs.drop (k + 1)).map HA.h) else .error 121 := by
  have hk : k < xs.length := (List.getElem?_eq_some_iff.1 hx).1
  have e : xs.drop k = x :: xs.drop (k + 1) := by rw [List.drop_eq_getElem_cons hk, (List.getElem?_eq_some_iff.1 hx).2]
  rw [e, List.map_cons]
  simp only [Hn.go, HA.h, hp, Int.toNat_natCast]
  have e2 : (L.take p).drop f = Df.part L f p := by unfold Df.part; rw [List.drop_take]
  rw [e2]
def newSum (xs : List HA) : Nat := (xs.map fun x => x.new.length).sum
theorem newSum_at (xs : List HA) (k : Nat) (x : HA) (hx : xs[k]? = some x) : newSum (xs.drop k) = x.new.length + newSum (xs.drop (k + 1)) := by
  have hk : k < xs.length := (List.getElem?_eq_some_iff.1 hx).1
  have e : xs.drop k = x :: xs.drop (k + 1) := by rw [List.drop_eq_getElem_cons hk, (List.getElem?_eq_some_iff.1 hx).2]
  rw [e]; simp [newSum]

/-- Five new blocks. -/
theorem five_new (w : World) (a b c d e : Obj) : ∃ W, W = ((((w.alloc a).alloc b).alloc c).alloc d).alloc e ∧ Below w.heap.size w W ∧ W.heap[w.heap.size]? = some a ∧ W.heap[w.heap.size + 1]? = some b ∧ W.heap[w.heap.size + 2]? = some c ∧ W.heap[w.heap.size + 3]? = some d ∧ W.heap[w.heap.size + 4]? = some e := by
  have h1 := World.alloc_heap_new w a
  have h2 := World.alloc_heap_new (w.alloc a) b
  have h3 := World.alloc_heap_new ((w.alloc a).alloc b) c
  have h4 := World.alloc_heap_new (((w.alloc a).alloc b).alloc c) d
  have h5 := World.alloc_heap_new ((((w.alloc a).alloc b).alloc c).alloc d) e
  simp only [World.size_alloc] at h1 h2 h3 h4 h5
  have k2 := below_nw (w.alloc a) b
  have k3 := below_nw ((w.alloc a).alloc b) c
  have k4 := below_nw (((w.alloc a).alloc b).alloc c) d
  have k5 := below_nw ((((w.alloc a).alloc b).alloc c).alloc d) e
  have s1 := World.size_alloc w a
  have s2 := World.size_alloc (w.alloc a) b
  have s3 := World.size_alloc ((w.alloc a).alloc b) c
  have s4 := World.size_alloc (((w.alloc a).alloc b).alloc c) d
  refine ⟨_, rfl, ((((below_nw w a).alloc (by omega) b).alloc (by omega) c).alloc (by omega) d).alloc (by omega) e, ?_, ?_, ?_, ?_, h5⟩
  · exact (k5.block _ (by omega)).trans ((k4.block _ (by omega)).trans ((k3.block _ (by omega)).trans ((k2.block _ (by omega)).trans h1)))
  · exact (k5.block _ (by omega)).trans ((k4.block _ (by omega)).trans ((k3.block _ (by omega)).trans h2))
  · exact (k5.block _ (by omega)).trans ((k4.block _ (by omega)).trans h3)
  · exact (k5.block _ (by omega)).trans h4

/-- The two results' variables, written by the deferred closure. -/
theorem door_facts {W : World} {n : Nat} (d0 : W.heap[n]? = some (.cells #[.slice none 0 0] 22 (0, 0))) (d1 : W.heap[n + 1]? = some (.cells #[.int .i64 0] 28 (0, 0))) (c : Int) :
    W.cell? ⟨n, 0, none⟩ = some (.slice none 0 0) ∧ W.frozen? ⟨n, 0, none⟩ = false ∧ (W.setCell ⟨n, 0, none⟩ (.slice none 0 0)).cell? ⟨n + 1, 0, none⟩ = some (.int .i64 0) ∧ W.frozen? ⟨n + 1, 0, none⟩ = false ∧
    ((W.setCell ⟨n, 0, none⟩ (.slice none 0 0)).setCell ⟨n + 1, 0, none⟩ (.int .i64 c)).cell? ⟨n, 0, none⟩ = some (.slice none 0 0) ∧ ((W.setCell ⟨n, 0, none⟩ (.slice none 0 0)).setCell ⟨n + 1, 0, none⟩ (.int .i64 c)).cell? ⟨n + 1, 0, none⟩ = some (.int .i64 c) ∧
    Below n W ((W.setCell ⟨n, 0, none⟩ (.slice none 0 0)).setCell ⟨n + 1, 0, none⟩ (.int .i64 c)) := by
  have a0 := heap_setCell_same W n 0 _ _ (.slice none 0 0) d0
  have g1 := grown_set W n 0 (.slice none 0 0)
  have l1 := (Array.getElem?_eq_some_iff.1 d1).1
  have a1 : (W.setCell ⟨n, 0, none⟩ (.slice none 0 0)).heap[n + 1]? = some (.cells #[.int .i64 0] 28 (0, 0)) := (g1.block (n + 1) l1 (by simp)).trans d1
  have g2 := grown_set (W.setCell ⟨n, 0, none⟩ (.slice none 0 0)) (n + 1) 0 (.int .i64 c)
  have a2 := heap_setCell_same _ (n + 1) 0 _ _ (.int .i64 c) a1
  have a3 : ((W.setCell ⟨n, 0, none⟩ (.slice none 0 0)).setCell ⟨n + 1, 0, none⟩ (.int .i64 c)).heap[n]? = _ := (g2.block n (by have := g1.size; omega) (by simp)).trans a0
  refine ⟨?_, frozen_of_row _ _ 0 _ _ d0, ?_, frozen_of_row _ _ 0 _ _ d1, ?_, ?_, ?_⟩
  · rw [Lib.cell_of_heap d0]; rfl
  · rw [Lib.cell_of_heap a1]; rfl
  · rw [Lib.cell_of_heap a3]; rfl
  · rw [Lib.cell_of_heap a2]; rfl
  · refine ⟨g2.os.trans g1.os, g2.tape.trans g1.tape, g2.output.trans g1.output, Nat.le_trans g1.size g2.size, fun j hj => (g2.block j (by have := g1.size; omega) (fun e => by cases e; omega)).trans (g1.block j (by omega) (fun e => by cases e; omega))⟩

/-- The two results' variables, written at the end. -/
theorem door_told {W : World} {n : Nat} (d0 : W.heap[n]? = some (.cells #[.slice none 0 0] 22 (0, 0))) (d1 : W.heap[n + 1]? = some (.cells #[.int .i64 0] 28 (0, 0))) (t : Value) (c : Int) :
    W.cell? ⟨n, 0, none⟩ = some (.slice none 0 0) ∧ W.frozen? ⟨n, 0, none⟩ = false ∧ (W.setCell ⟨n, 0, none⟩ t).cell? ⟨n + 1, 0, none⟩ = some (.int .i64 0) ∧ W.frozen? ⟨n + 1, 0, none⟩ = false ∧
    ((W.setCell ⟨n, 0, none⟩ t).setCell ⟨n + 1, 0, none⟩ (.int .i64 c)).cell? ⟨n, 0, none⟩ = some t ∧ ((W.setCell ⟨n, 0, none⟩ t).setCell ⟨n + 1, 0, none⟩ (.int .i64 c)).cell? ⟨n + 1, 0, none⟩ = some (.int .i64 c) ∧
    Below n W ((W.setCell ⟨n, 0, none⟩ t).setCell ⟨n + 1, 0, none⟩ (.int .i64 c)) ∧ ∀ (B k : Nat) (v : Value) (xs : List Value), W.ownsRow B 9 1 v k xs → ((W.setCell ⟨n, 0, none⟩ t).setCell ⟨n + 1, 0, none⟩ (.int .i64 c)).ownsRow B 9 1 v k xs := by
  have a0 := heap_setCell_same W n 0 _ _ t d0
  have g1 := grown_set W n 0 t
  have l1 := (Array.getElem?_eq_some_iff.1 d1).1
  have a1 : (W.setCell ⟨n, 0, none⟩ t).heap[n + 1]? = some (.cells #[.int .i64 0] 28 (0, 0)) := (g1.block (n + 1) l1 (by simp)).trans d1
  have g2 := grown_set (W.setCell ⟨n, 0, none⟩ t) (n + 1) 0 (.int .i64 c)
  have a2 := heap_setCell_same _ (n + 1) 0 _ _ (.int .i64 c) a1
  have a3 : ((W.setCell ⟨n, 0, none⟩ t).setCell ⟨n + 1, 0, none⟩ (.int .i64 c)).heap[n]? = _ := (g2.block n (by have := g1.size; omega) (by simp)).trans a0
  refine ⟨?_, frozen_of_row _ _ 0 _ _ d0, ?_, frozen_of_row _ _ 0 _ _ d1, ?_, ?_, ?_, fun B k v xs h => owns_set (owns_set h d0 (by decide) 0 _) a1 (by decide) 0 _⟩
  · rw [Lib.cell_of_heap d0]; rfl
  · rw [Lib.cell_of_heap a1]; rfl
  · rw [Lib.cell_of_heap a3]; rfl
  · rw [Lib.cell_of_heap a2]; rfl
  · refine ⟨g2.os.trans g1.os, g2.tape.trans g1.tape, g2.output.trans g1.output, Nat.le_trans g1.size g2.size, fun j hj => (g2.block j (by have := g1.size; omega) (fun e => by cases e; omega)).trans (g1.block j (by omega) (fun e => by cases e; omega))⟩

set_option maxRecDepth 100000 in
set_option maxHeartbeats 8000000 in
theorem exchanged_any (L : List (List UInt8)) (xs : List HA) (v hv : Value) (m : Nat) (w : World) (hrow : RowLow m w v L) (hx : HaLow m w hv xs) (hm : m ≤ w.heap.size) (hso : Hn.sorted (-1) (xs.map HA.h) = true) (hf : ∀ x ∈ xs, x.Fits) (hs : ∀ x ∈ xs, x.Small) (hl : xs.length ≤ 1000000) (hsum : L.length + newSum xs ≤ 1000000) (tL : ∀ x ∈ L, x.length ≤ 281474976710656) (tn : ∀ x ∈ xs, ∀ s ∈ x.new, s.length ≤ 281474976710656) :
    Calls Try.prog 24 #[v, hv] w fun e w' => ApplyPost (ended (Hn.go L 0 [] (xs.map HA.h))) w e w' := by
  have hmf : ∀ (fn : Fn) (first cap : Array Value) (w : World), (Instr.makeFunc fn first cap).run Try.prog w = .ok (.func fn first cap) w := fun _ _ _ _ => rfl
  have hstf := fun (a : Addr) (fn : Fn) (c1 c2 : Array Value) (w : World) => run_store Try.prog w a (.func fn c1 c2) .plain rfl
  obtain ⟨va, vc, vb, vd, rfl, -, -, -⟩ := hrow.parts
  obtain ⟨⟨ao, cap, b, off, rfl, -, hao, hc⟩, hlow⟩ := hx
  go_enter_defers Try.func24, Try.ntmps24
  go_wp2_with fail
  refine (asking_any va L.length vc _).mono ?_
  rintro e w1 ⟨rfl, rfl⟩
  simp only [upTo, World.size_alloc]
  obtain ⟨W, hW, bW, g0, g1, g2, g3, g4⟩ := five_new w (.cells #[.slice none 0 0] 22) (.cells #[.int .i64 0] 28) (.cells #[.slice va L.length vc] 22) (.cells #[.int .i64 0] 3) (.cells #[.slice none 0 0, .func (.func 64) #[] #[.pointer (some ⟨w.heap.size + 1 + 1, 0, none⟩), .pointer (some ⟨w.heap.size + 1 + 1 + 1, 0, none⟩)]] 85)
  go_wp2_with fail
  rw [← hW]
  obtain ⟨tb, htb⟩ : ∃ tb, tb = w.heap.size + 1 + 1 + 1 + 1 := ⟨_, rfl⟩
  obtain ⟨fb, hfb⟩ : ∃ fb, fb = w.heap.size + 1 + 1 + 1 := ⟨_, rfl⟩
  obtain ⟨lb, hlb⟩ : ∃ lb, lb = w.heap.size + 1 + 1 := ⟨_, rfl⟩
  rw [← htb, ← hfb, ← hlb]
  rw [← hfb, ← hlb] at g4
  have SW : Hid (XSt w.heap.size tb lb fb (.slice va L.length vc) [] 0 W) := by
    refine ⟨⟨_, ?_, World.ownsRow_nil _ _ _ _⟩, ?_, ?_, ⟨by omega, by omega⟩, ⟨by omega, by omega, by omega⟩⟩
    · rw [show tb = w.heap.size + 4 by omega]; exact g4
    · rw [show lb = w.heap.size + 2 by omega]; exact g2
    · rw [show fb = w.heap.size + 3 by omega]; exact g3
  have hne : w.heap.size ≠ tb ∧ w.heap.size ≠ fb ∧ w.heap.size + 1 ≠ tb ∧ w.heap.size + 1 ≠ fb := ⟨by omega, by omega, by omega, by omega⟩
  have G : Hid (∀ Y, KeepX w.heap.size tb fb W Y → Y.heap[w.heap.size]? = some (.cells #[.slice none 0 0] 22 (0, 0)) ∧ Y.heap[w.heap.size + 1]? = some (.cells #[.int .i64 0] 28 (0, 0))) := fun Y hY =>
    ⟨hY.2 _ _ _ _ g0 (by decide) hne.1 hne.2.1, hY.2 _ _ _ _ g1 (by decide) hne.2.2.1 hne.2.2.2⟩
  have BW : Hid (Below w.heap.size w W) := bW
  have HC : Hid (_) := hc
  have HLOW : Hid (∀ x ∈ xs, x.Low m w) := hlow
  have HROW : Hid (RowLow m w (.slice va L.length vc) L) := hrow
  have HFI : Hid (∀ x ∈ xs, x.Fits) := hf
  have HSM : Hid (∀ x ∈ xs, x.Small) := hs
  have HSO : Hid (_) := hso
  have HTL : Hid (_) := tL
  have HTN : Hid (_) := tn
  have hsB : w.heap.size ≤ W.heap.size := bW.size
  clear hW htb hfb hlb g0 g1 g2 g3 g4 bW hc hlow hrow hf hs hso tL tn hstf hne
  go_loopw [15] (fun i wr => ∃ (k f : Nat) (O : List (List UInt8)) (last : Int), k ≤ xs.length ∧ i = .int .i64 k ∧ XSt w.heap.size tb lb fb (.slice va L.length vc) O f wr ∧ KeepX w.heap.size tb fb W wr ∧ Hn.go L 0 [] (xs.map HA.h) = Hn.go L f O ((xs.drop k).map HA.h) ∧ Hn.sorted last ((xs.drop k).map HA.h) = true ∧ (f : Int) ≤ last + 1 ∧ f ≤ L.length ∧ O.length + newSum (xs.drop k) ≤ f + newSum xs ∧ ∀ s ∈ O, s.length ≤ 281474976710656) (fun i _ => xs.length - (intOf i).toNat)
  case atStart => exact ⟨0, 0, [], -1, Nat.zero_le _, rfl, SW.out, KeepX.refl _ _ _ _, rfl, HSO.out, by omega, by omega, by simp, by simp⟩
  case round =>
    clear SW HSO
    obtain ⟨k, f, O, last, hk, rfl, hst, hkx, hgo, hso, hfl, hfL, hos, hot⟩ := hrel
    have HOT : Hid (∀ s ∈ O, s.length ≤ 281474976710656) := hot
    clear hot
    by_cases hlt : k < xs.length
    · obtain ⟨x, hx⟩ : ∃ x, xs[k]? = some x := ⟨xs[k], List.getElem?_eq_getElem hlt⟩
      obtain ⟨rfl, hbm⟩ := hao (by omega)
      obtain ⟨g0, g1, g2⟩ := haCells_get xs k x hx
      have hbb : Below w.heap.size w wr := BW.out.trans hkx.1
      have c0 : wr.cell? ⟨b, off + k * 3, none⟩ = some (.int .i64 x.at_) := (hbb.cell (p := ⟨b, off + k * 3, none⟩) (by show b < _; omega)).trans (HC.out _ _ g0)
      have c1 : wr.cell? ⟨b, off + k * 3 + 1, none⟩ = some x.vo := (hbb.cell (p := ⟨b, off + k * 3 + 1, none⟩) (by show b < _; omega)).trans (HC.out _ _ g1)
      have c2 : wr.cell? ⟨b, off + k * 3 + 2, none⟩ = some x.vn := (hbb.cell (p := ⟨b, off + k * 3 + 2, none⟩) (by show b < _; omega)).trans (HC.out _ _ g2)
      have hm2 := List.mem_of_getElem? hx
      have xl := (HLOW.out x hm2).below hbb hm
      have hsx := HSM.out x hm2
      have htn := HTN.out x hm2
      rw [sorted_at xs k x last hx, Bool.and_eq_true, Bool.and_eq_true, decide_eq_true_eq] at hso
      obtain ⟨⟨hr, hlp⟩, hso2⟩ := hso
      obtain ⟨r1, r2⟩ := right_bound hr
      have hat0 : x.h.at_ = x.at_ := rfl
      rw [hat0] at r1 r2
      obtain ⟨p, hp⟩ : ∃ p : Nat, x.at_ = p := ⟨x.at_.toNat, by omega⟩
      have hgo2 := hgo.trans (go_at L xs k f p O x hx hp)
      have hns := newSum_at xs k x hx
      obtain ⟨a1, cp1, bb1, oo1, e1, -, -, -⟩ := xl.1.parts
      obtain ⟨a2, cp2, bb2, oo2, e2, -, -, -⟩ := xl.2.parts
      obtain ⟨pa, vo, vn, L1, L2⟩ := x
      simp only at c0 c1 c2 e1 e2 hp hlp hso2 hgo2 hns r1 r2 htn
      obtain ⟨s1, s2⟩ := hsx
      simp only at s1 s2
      obtain ⟨x1, x2⟩ := xl
      simp only at x1 x2
      subst hp e1 e2
      have hbZ : Below wr.heap.size wr (wr.alloc (.cells #[.int .i64 p, .slice a1 L1.length cp1, .slice a2 L2.length cp2] 40)) := below_nw wr _
      have hBr : w.heap.size ≤ wr.heap.size := hbb.size
      have EX := exchange_one w.heap.size tb lb fb f p m _ _ _ L O L1 L2 _ (hst.below hbZ) (HROW.out.below (hbb.trans (hbZ.mono hBr)) hm) (x1.below (hbZ.mono hBr) (by omega)) (x2.below (hbZ.mono hBr) (by omega)) hm (by omega) (by omega) (by omega) (by omega) s1 s2 HTL.out htn
      obtain ⟨Z, hZ⟩ : ∃ Z, Z = wr.alloc (.cells #[.int .i64 p, .slice a1 L1.length cp1, .slice a2 L2.length cp2] 40) := ⟨_, rfl⟩
      rw [← hZ] at EX hbZ
      have EX2 : Hid (_) := EX
      have KZ : Hid (KeepX w.heap.size tb fb W Z) := hkx.trans (KeepX.of_below hbZ hBr)
      have HGO : Hid (_) := hgo2
      have HNS : Hid (O.length + (L2.length + newSum (xs.drop (k + 1))) ≤ f + newSum xs) := by rw [hns] at hos; exact hos
      have HSO2 : Hid (_) := hso2
      have HTX : Hid (∀ s ∈ L2, s.length ≤ 281474976710656) := htn
      have HFP : Hid (f ≤ p) := by show f ≤ p; omega
      clear EX hbZ hst hkx hgo hgo2 hns hos hso2 hr g0 g1 g2 hx hbb x1 x2 htn hat0 r1 r2 hm2 hfl hlp
      go_wp2_with fail
      rw [← hZ]
      clear hZ c0 c1 c2
      refine Calls.mono EX2.out ?_
      rintro e w1 ⟨kx, ep⟩
      have KK : Hid (KeepX w.heap.size tb fb W w1) := KZ.out.trans kx
      clear EX2 KZ kx
      unfold ExchPost at ep
      by_cases h1 : L.length < p + L1.length
      · rw [if_pos h1] at ep
        subst ep
        have HG6 : Hid (Hn.go L 0 [] (xs.map HA.h) = .error 6) := by
          show Hn.go L 0 [] (xs.map HA.h) = _
          rw [HGO.out, if_pos h1]
        obtain ⟨j0, j1, j2, j3, j4, j5, j6⟩ := door_facts (G.out w1 KK.out).1 (G.out w1 KK.out).2 6
        refine leaves_cons (f := 35) (args := #[.pointer (some ⟨w.heap.size, 0, none⟩), .pointer (some ⟨w.heap.size + 1, 0, none⟩)]) (by simp) (by simp [go_sem]) ?_
        refine (catch_panicking ⟨w.heap.size, 0, none⟩ ⟨w.heap.size + 1, 0, none⟩ (.slice none 0 0) (.int .i64 0) 6 [] w1 j0 j1 j2 j3).mono ?_
        rintro e u' w'' ⟨rfl, rfl, rfl⟩
        simp [Leaves, settle, results, Try.results24, go_sem, j4, j5]
        refine ⟨BW.out.trans (KK.out.1.trans j6), ?_⟩
        rw [HG6.out]; rfl
      · rw [if_neg h1] at ep
        by_cases h2 : (L.drop p).take L1.length = L1
        · rw [if_pos h2] at ep
          obtain ⟨rfl, hst2⟩ := ep
          have HG : Hid (Hn.go L 0 [] (xs.map HA.h) = Hn.go L (p + L1.length) (O ++ (Df.part L f p ++ L2)) ((xs.drop (k + 1)).map HA.h)) := by
            show Hn.go L 0 [] (xs.map HA.h) = _
            rw [HGO.out, if_neg h1, if_pos h2]
          have hpl : Hid ((Df.part L f p).length = p - f) := Df.part_length L f p (by omega)
          clear h2 HGO
          go_wp2
          go_roundw
          case rel =>
            refine ⟨k + 1, p + L1.length, O ++ (Df.part L f p ++ L2), (p : Int) + L1.length, by omega, by go_num, hst2, KK.out, HG.out, HSO2.out, by omega, by omega, ?_, fun s hs => ?_⟩
            have h9 := hpl.out
            have h8 := HNS.out
            have h7 := HFP.out
            rw [List.length_append, List.length_append]
            omega
            rcases List.mem_append.1 hs with hs | hs
            · exact HOT.out s hs
            · rcases List.mem_append.1 hs with hs | hs
              · exact HTL.out s (List.mem_of_mem_drop (List.mem_of_mem_take hs))
              · exact HTX.out s hs
          case measure => simp [intOf]; omega
        · rw [if_neg h2] at ep
          subst ep
          have HG6 : Hid (Hn.go L 0 [] (xs.map HA.h) = .error 121) := by
            show Hn.go L 0 [] (xs.map HA.h) = _
            rw [HGO.out, if_neg h1, if_neg h2]
          obtain ⟨j0, j1, j2, j3, j4, j5, j6⟩ := door_facts (G.out w1 KK.out).1 (G.out w1 KK.out).2 121
          refine leaves_cons (f := 35) (args := #[.pointer (some ⟨w.heap.size, 0, none⟩), .pointer (some ⟨w.heap.size + 1, 0, none⟩)]) (by simp) (by simp [go_sem]) ?_
          refine (catch_panicking ⟨w.heap.size, 0, none⟩ ⟨w.heap.size + 1, 0, none⟩ (.slice none 0 0) (.int .i64 0) 121 [] w1 j0 j1 j2 j3).mono ?_
          rintro e u' w'' ⟨rfl, rfl, rfl⟩
          simp [Leaves, settle, results, Try.results24, go_sem, j4, j5]
          refine ⟨BW.out.trans (KK.out.1.trans j6), ?_⟩
          rw [HG6.out]; rfl
    · have hkl : k = xs.length := by omega
      obtain ⟨R, hR⟩ : ∃ R, R = O ++ L.drop f := ⟨_, rfl⟩
      have HG : Hid (Hn.go L 0 [] (xs.map HA.h) = .ok R) := by
        show Hn.go L 0 [] (xs.map HA.h) = _
        rw [hgo, hkl, List.drop_length, hR]; rfl
      have hrl : Hid (R.length ≤ 3000000) := by
        show R.length ≤ 3000000
        rw [hR, List.length_append, List.length_drop]; omega
      have HRT : Hid (∀ s ∈ R, s.length ≤ 281474976710656) := fun s hs => by
        rw [hR] at hs
        rcases List.mem_append.1 hs with hs | hs
        · exact HOT.out s hs
        · exact HTL.out s (List.mem_of_mem_drop hs)
      have hol : O.length ≤ 2000000 := by omega
      have hbb : Below w.heap.size w wr := BW.out.trans hkx.1
      have hBr : w.heap.size ≤ wr.heap.size := hbb.size
      have cF : wr.cell? ⟨tb, 1, none⟩ = some (.func (.func 64) #[] #[.pointer (some ⟨lb, 0, none⟩), .pointer (some ⟨fb, 0, none⟩)]) := by
        obtain ⟨tv, q1, -⟩ := hst.text
        rw [Lib.cell_of_heap q1]; rfl
      have rw0 : RowLow m wr (.slice va L.length vc) L := HROW.out.below hbb hm
      have hcl : wr.cell? ⟨lb, 0, none⟩ = some (.slice va L.length vc) := by rw [Lib.cell_of_heap hst.row]; rfl
      have hcf : wr.cell? ⟨fb, 0, none⟩ = some (.int .i64 f) := by rw [Lib.cell_of_heap hst.from_]; rfl
      have UP : Hid (_) := up_some lb fb L _ f L.length m wr rw0 hcl hcf (frozen_of_row wr fb 0 _ _ hst.from_) hfL (Nat.le_refl _)
      have HST : Hid (XSt w.heap.size tb lb fb (.slice va L.length vc) O f wr) := hst
      have HKX : Hid (KeepX w.heap.size tb fb W wr) := hkx
      clear hgo hso hos hfl hst hkx rw0 hcl hcf hkl
      go_wp2_with fail
      refine Calls.mono UP.out ?_
      rintro e w1 ⟨u1, rfl, ru1, hw1⟩
      have S1 : Hid (XSt w.heap.size tb lb fb (.slice va L.length vc) O L.length w1) := by rw [hw1]; exact HST.out.asked _
      have kf : KeepX w.heap.size tb fb wr w1 := by rw [hw1]; exact KeepX.of_set HST.out.low.2 hBr 0 _
      have K1 : Hid (KeepX w.heap.size tb fb W w1) := HKX.out.trans kf
      have hpl : Hid ((Df.part L f L.length).length = L.length - f) := Df.part_length L f L.length (Nat.le_refl _)
      have hpd : Df.part L f L.length = L.drop f := by unfold Df.part; rw [List.take_of_length_le (by simp)]
      have PU : Hid (_) := S1.out.put (ru1.below kf.1 hm) hm (by have := hpl.out; omega) (fun x hx => HTL.out x (by rw [hpd] at hx; exact List.mem_of_mem_drop hx))
      rw [hpd, ← hR] at PU
      clear UP ru1 hw1 kf hpd hpl S1 HST HKX cF
      go_wp2_with fail
      refine Calls.mono PU.out ?_
      rintro e w2 ⟨rfl, st2, kx2⟩
      have KK : Hid (KeepX w.heap.size tb fb W w2) := K1.out.trans kx2
      obtain ⟨tv, q1, q2⟩ := st2.text
      have cT : w2.cell? ⟨tb, 0, none⟩ = some tv := by rw [Lib.cell_of_heap q1]; rfl
      have Q2 : Hid (w2.ownsRow w.heap.size 9 1 tv R.length (R.map txtV)) := q2
      have AL : Hid (_) := areLines_any R tv w2.heap.size w2 (RowLow.of_owns q2) (by have := hrl.out; omega) (fun x hx => by have := HRT.out x hx; omega)
      obtain ⟨ra, rc, rfl⟩ := slice_shape q2
      clear PU st2 kx2 q1 q2 K1 hR
      go_wp2_with fail
      refine Calls.mono AL.out ?_
      rintro e w3 ⟨rfl, rfl⟩
      cases hln : Hn.lines R with
      | false =>
        have HLN : Hid (Hn.lines R = false) := hln
        clear hln AL
        go_wp2
        obtain ⟨j0, j1, j2, j3, j4, j5, j6⟩ := door_facts (G.out w3 KK.out).1 (G.out w3 KK.out).2 4
        refine leaves_cons (f := 35) (args := #[.pointer (some ⟨w.heap.size, 0, none⟩), .pointer (some ⟨w.heap.size + 1, 0, none⟩)]) (by simp) (by simp [go_sem]) ?_
        refine (catch_panicking ⟨w.heap.size, 0, none⟩ ⟨w.heap.size + 1, 0, none⟩ (.slice none 0 0) (.int .i64 0) 4 [] w3 j0 j1 j2 j3).mono ?_
        rintro e u' w'' ⟨rfl, rfl, rfl⟩
        simp [Leaves, settle, results, Try.results24, go_sem, j4, j5]
        refine ⟨BW.out.trans (KK.out.1.trans j6), ?_⟩
        rw [HG.out]
        simp only [ended, HLN.out]
        rfl
      | true =>
        have HLN : Hid (Hn.lines R = true) := hln
        clear hln AL
        obtain ⟨d0, d1⟩ := G.out _ KK.out
        have y0 : w3.cell? ⟨w.heap.size, 0, none⟩ = some (.slice none 0 0) := by rw [Lib.cell_of_heap d0]; rfl
        have y1 : w3.cell? ⟨w.heap.size + 1, 0, none⟩ = some (.int .i64 0) := by rw [Lib.cell_of_heap d1]; rfl
        have f0 := frozen_of_row _ _ 0 _ _ d0
        have f1 := frozen_of_row _ _ 0 _ _ d1
        obtain ⟨-, -, -, -, j4, j5, j6, j7⟩ := door_told d0 d1 (.slice ra R.length rc) 0
        have J : Hid (_) := j7 _ _ _ _ Q2.out
        have J6 : Hid (_) := j6
        clear d0 d1 j6 j7
        go_wp2
        refine leaves_cons (f := 35) (args := #[.pointer (some ⟨w.heap.size, 0, none⟩), .pointer (some ⟨w.heap.size + 1, 0, none⟩)]) (by simp) (by simp [go_sem]) ?_
        refine (catch_idle ⟨w.heap.size, 0, none⟩ ⟨w.heap.size + 1, 0, none⟩ _).mono ?_
        rintro e u' w'' ⟨rfl, rfl, rfl⟩
        simp [Leaves, settle, results, Try.results24, go_sem, j4, j5]
        refine ⟨BW.out.trans (KK.out.1.trans J6.out), ?_⟩
        rw [HG.out]
        simp only [ended, HLN.out, if_true]
        exact ⟨_, rfl, J.out⟩

/-- What is told, whatever it is: two values. -/
theorem ApplyPost.two {r : Except Nat (List (List UInt8))} {w w' : World} {e : Ending} (h : ApplyPost r w e w') : ∃ ta ao n cap c, e = .returned (.tuple #[ta, .int .i64 c]) ∧ ta = .slice ao n cap := by
  obtain ⟨-, h⟩ := h
  cases r with
  | error c => exact ⟨_, none, 0, 0, _, h, rfl⟩
  | ok o =>
    obtain ⟨tv, h1, h2⟩ := h
    obtain ⟨a, c, e⟩ := slice_shape h2
    exact ⟨tv, a, _, c, _, h1, e⟩
theorem ApplyPost.pre {r : Except Nat (List (List UInt8))} {w X w' : World} {e : Ending} (h : ApplyPost r X e w') (hb : Below w.heap.size w X) : ApplyPost r w e w' := by
  obtain ⟨h0, h⟩ := h
  refine ⟨hb.trans (h0.mono hb.size), ?_⟩
  cases r with
  | error c => exact h
  | ok o =>
    obtain ⟨tv, h1, h2⟩ := h
    exact ⟨tv, h1, owns_base h2 hb.size⟩

set_option maxRecDepth 100000 in
set_option maxHeartbeats 4000000 in
theorem apply_any (L : List (List UInt8)) (xs : List HA) (v hv : Value) (m : Nat) (w : World) (hrow : RowLow m w v L) (hx : HaLow m w hv xs) (hm : m ≤ w.heap.size) (hf : ∀ x ∈ xs, x.Fits) (hs : ∀ x ∈ xs, x.Small) (hl : xs.length ≤ 1000000) (hsum : L.length + newSum xs ≤ 1000000) (tL : ∀ x ∈ L, x.length ≤ 281474976710656) (tn : ∀ x ∈ xs, ∀ s ∈ x.new, s.length ≤ 281474976710656) :
    Calls Try.prog 8 #[v, hv] w fun e w' => ApplyPost (Hn.apply L (xs.map HA.h)) w e w' := by
  have AL : Hid (_) := areLines_any L v m w hrow (by omega) (fun x hx => by have := tL x hx; omega)
  cases hln : Hn.lines L with
  | false =>
    rw [hln] at AL
    have HE : Hid (Hn.apply L (xs.map HA.h) = .error 4) := by
      show Hn.apply L (xs.map HA.h) = _
      unfold Hn.apply
      rw [hln]; rfl
    clear hrow hx hf hs tL tn hln
    go_enter Try.func8, Try.ntmps8
    go_wp2_with fail
    refine Calls.mono AL.out ?_
    rintro e w1 ⟨rfl, rfl⟩
    go_wp2
    go_ret2
    refine ⟨Below.refl _ _, ?_⟩
    rw [HE.out]; rfl
  | true =>
    rw [hln] at AL
    have SO : Hid (_) := sorted_any xs hv m w hx hm hf hs hl
    cases hso : Hn.sorted (-1) (xs.map HA.h) with
    | false =>
      rw [hso] at SO
      have HE : Hid (Hn.apply L (xs.map HA.h) = .error 4) := by
        show Hn.apply L (xs.map HA.h) = _
        unfold Hn.apply
        rw [hln, hso]; rfl
      clear hrow hx hf hs tL tn hln hso
      go_enter Try.func8, Try.ntmps8
      go_wp2_with fail
      refine Calls.mono AL.out ?_
      rintro e w1 ⟨rfl, rfl⟩
      go_wp2_with fail
      refine Calls.mono SO.out ?_
      rintro e w2 ⟨rfl, b2⟩
      go_wp2
      go_ret2
      refine ⟨b2, ?_⟩
      rw [HE.out]; rfl
    | true =>
      rw [hso] at SO
      have HE : Hid (Hn.apply L (xs.map HA.h) = ended (Hn.go L 0 [] (xs.map HA.h))) := by
        show Hn.apply L (xs.map HA.h) = _
        unfold Hn.apply
        rw [hln, hso]; rfl
      have EX : Hid (∀ X, Below w.heap.size w X → Calls Try.prog 24 #[v, hv] X fun e w' => ApplyPost (ended (Hn.go L 0 [] (xs.map HA.h))) X e w') := fun X hX =>
        exchanged_any L xs v hv m X (hrow.below hX hm) (hx.below hX hm) (Nat.le_trans hm hX.size) hso hf hs hl hsum tL tn
      clear hrow hx hf hs tL tn hln hso
      go_enter Try.func8, Try.ntmps8
      go_wp2_with fail
      refine Calls.mono AL.out ?_
      rintro e w1 ⟨rfl, rfl⟩
      go_wp2_with fail
      refine Calls.mono SO.out ?_
      rintro e w2 ⟨rfl, b2⟩
      go_wp2_with fail
      refine Calls.mono (EX.out w2 b2) ?_
      intro e w3 hp
      have HP : Hid (ApplyPost (ended (Hn.go L 0 [] (xs.map HA.h))) w1 e w3) := hp.pre b2
      obtain ⟨ta, ao, n, cap, c, rfl, rfl⟩ := hp.two
      clear hp EX SO AL
      go_wp2
      go_ret2
      rw [HE.out]
      exact HP.out

end Go.Proofs.Ytkiafelpgcmifaa

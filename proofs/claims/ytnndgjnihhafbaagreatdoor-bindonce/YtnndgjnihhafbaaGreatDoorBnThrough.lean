/-
  The walk of the closure that goes through a node and all that is in it.
-/
import Derived.Test.YtnndgjnihhafbaaGreatDoorBnMid
import Derived.Test.YtnndgjnihhafbaaGreatDoorBnMass
namespace Go.Proofs.YtnndgjnihhafbaaGreatDoor
open Go.RowKit Go.Shelf Go.WideMaps
open Bn (Sc Bd St After)

attribute [local go_sem] Oper.semAt_some

/-- What is done at each node: what is asked of it. -/
structure LookAt (A : Ad) (look : Tr → List Nat → St → Except Nat (St × After)) (S : Nat → Prop) (K : (Nat → Prop) → World → Prop) (g : FuncId) (pre post : Array Value) : Prop where
  enter : ∀ args w, (callFunc g args).run Tryz.prog w = .ok (.enter g args) w
  mass : ∀ t p s s1 a, look t p s = .ok (s1, a) → s1.mass ≤ s.mass + 2
  stab : ∀ M M' w w', K M w → Foot M M' w w' → K M' w'
  run : ∀ (m : Nat) (t : Tr) (val : Value) (M : Nat → Prop) (bx : List Nat) (ch : List (Nat × Nat)) (s : St) (p : List Nat) (i : Nat) (w : World), Tr.right m t = true → Tr.Bd [t] → NodeR S w val t → BW A M bx ch s p i w → K M w → ch ≠ [] → ch.length ≤ 50 → p.length ≤ 1000 → s.mass ≤ 10000000 →
    Calls Tryz.prog g (pre ++ #[val] ++ post) w fun e w' => ∃ M' bx', bx <+: bx' ∧ Foot M M' w w' ∧
      match look t p s with
      | .error E => e = pan E i
      | .ok (s1, a) => ∃ fv ch1, e = .returned fv ∧ BW A M' bx' ch1 s1 p i w' ∧ AfterAt A bx' M' a fv ch1 ch w' ∧ ch1.length ≤ ch.length + 1
/-- What the closure holds. -/
def Caps (A : Ad) (M : Nat → Prop) (cl cw cv : Nat) (fnv : Value) (w : World) : Prop :=
  (w.heap[cl]? = some (.cells #[fnv] 97 (0, 0)) ∧ ¬ M cl) ∧ (w.heap[cw]? = some (.cells #[ptrV A.wb] 82 (0, 0)) ∧ ¬ M cw) ∧ (w.heap[cv]? = some (.cells #[.func (.func 98) #[] #[ptrV cl, ptrV cw, ptrV cv]] 131 (0, 0)) ∧ ¬ M cv)
theorem Caps.go {A : Ad} {M M' : Nat → Prop} {cl cw cv : Nat} {fnv : Value} {w w' : World} (h : Caps A M cl cw cv fnv w) (hf : Foot M M' w w') : Caps A M' cl cw cv fnv w' := ⟨hf.cell h.1.1 h.1.2, hf.cell h.2.1.1 h.2.1.2, hf.cell h.2.2.1 h.2.2.2⟩
/-- A node is gone through. -/
def VisitAt (A : Ad) (look : Tr → List Nat → St → Except Nat (St × After)) (S : Nat → Prop) (K : (Nat → Prop) → World → Prop) (cl cw cv : Nat) (fnv : Value) (m : Nat) (t : Tr) : Prop :=
  ∀ (val : Value) (M : Nat → Prop) (bx : List Nat) (ch : List (Nat × Nat)) (s : St) (p : List Nat) (i : Nat) (w : World), Tr.right m t = true → Tr.Bd [t] → NodeR S w val t → BW A M bx ch s p i w → K M w → Caps A M cl cw cv fnv w → ch ≠ [] → ch.length + m ≤ 50 → p.length + m ≤ 1000 → i ≤ 1000000 → i + Tr.size t ≤ 1000000 → s.mass + 3 * Tr.size t ≤ 10000000 →
    Calls Tryz.prog 98 #[val, ptrV cl, ptrV cw, ptrV cv] w fun e w' => ∃ M' bx', bx <+: bx' ∧ Foot M M' w w' ∧
      match Bn.visit look t p i s with
      | .error f => e = pan f.1 f.2
      | .ok (s', j) => e = .returned (.tuple #[]) ∧ BW A M' bx' ch s' p j w' ∧ j = i + Tr.size t ∧ s'.mass ≤ s.mass + 3 * Tr.size t
theorem NodeR.foot {S : Nat → Prop} {M M' : Nat → Prop} {w w' : World} {v : Value} {t : Tr} (h : NodeR S w v t) (hf : Foot M M' w w') (hS : ∀ b, S b → b < w.heap.size ∧ ¬ M b) : NodeR S w' v t := by
  obtain ⟨x, e1, e2, e3, e4⟩ := h
  exact ⟨x, e1, e2, e3, e4.keep (fun b hb => hf.block b (hS b hb).1 (hS b hb).2) (fun _ hb => hb)⟩
theorem right_kid {m : Nat} {t x : Tr} (h : Tr.right (m + 1) t = true) (hx : x ∈ t.kids) : Tr.right m x = true := by
  rw [Tr.right] at h
  simp only [Bool.and_eq_true, List.all_eq_true] at h
  exact h.2 x hx
theorem Tr.Bd.kid {t x : Tr} (h : Tr.Bd [t]) (hx : x ∈ t.kids) : Tr.Bd [x] := (h.mem (List.mem_singleton.2 rfl)).2.one hx
theorem info_int : (Tryz.prog.info? 3).map (fun i => (i.zero, i.size, i.bytes)) = some (some (.int .i64 0), 1, 8) := by kernel_rfl
set_option maxRecDepth 100000 in
theorem enter_visit (args : Array Value) (w : World) : (callFunc 98 args).run Tryz.prog w = .ok (.enter 98 args) w := by rfl
theorem sizes_take (l : List Tr) (i : Nat) : Tr.sizes (l.take i) ≤ Tr.sizes l := by
  have h9 : Tr.sizes (l.take i) + Tr.sizes (l.drop i) = Tr.sizes l := by rw [← Tr.sizes_append, List.take_append_drop]
  omega
theorem mass_own {s : St} (h : s.mass ≤ 10000000) : ∀ sc ∈ s.own, sc.length ≤ 1000000000 := fun sc hsc => by
  have := Bn.ownSum_mem hsc
  unfold Bn.St.mass at h
  omega

set_option maxRecDepth 100000 in
set_option maxHeartbeats 8000000 in
theorem visit1_any {A : Ad} {look : Tr → List Nat → St → Except Nat (St × After)} {S : Nat → Prop} {K : (Nat → Prop) → World → Prop} {g : FuncId} {pre post : Array Value} (L : LookAt A look S K g pre post) (hSn : ∀ b, S b → b < A.n) {cl cw cv : Nat} (m : Nat) (t : Tr) (ih : ∀ x ∈ t.kids, VisitAt A look S K cl cw cv (.func (.func g) pre post) m x) :
    VisitAt A look S K cl cw cv (.func (.func g) pre post) (m + 1) t := by
  intro val M bx ch s p i w hr hbd hn hB hK hC hch hcl hpl hi his hmass
  have HIH : Hid (∀ x ∈ t.kids, VisitAt A look S K cl cw cv (.func (.func g) pre post) m x) := ih
  have HL : Hid (LookAt A look S K g pre post) := L
  have hSM : ∀ {M : Nat → Prop} {bx : List Nat} {ch : List (Nat × Nat)} {s : St} {p : List Nat} {i : Nat} {w : World}, BW A M bx ch s p i w → ∀ b, S b → b < w.heap.size ∧ ¬ M b := fun hB b hb => by
    obtain ⟨_, _, _, hB⟩ := hB
    exact ⟨Nat.lt_of_lt_of_le (hSn b hb) hB.low, fun e => by have := (hB.lt b e).1; have := hSn b hb; omega⟩
  have HSM : Hid (∀ {M : Nat → Prop} {bx : List Nat} {ch : List (Nat × Nat)} {s : St} {p : List Nat} {i : Nat} {w : World}, BW A M bx ch s p i w → ∀ b, S b → b < w.heap.size ∧ ¬ M b) := hSM
  have HN0 : Hid (NodeR S w val t) := hn
  obtain ⟨⟨k, tx, nn, kv, kids⟩, rfl, ht, hf, hrow⟩ := hn
  obtain ⟨xs, ao, cap, rb, ro, hxs, hkv, hcap, hao, hlen, hx⟩ := hrow.parts
  simp only at hkv hxs hcap hao hlen
  subst hkv
  simp only [N1.cells] at *
  obtain ⟨N, hN⟩ : ∃ N, N = kids.length := ⟨_, rfl⟩
  have HNN : Hid (N = kids.length ∧ t.kids = kids) := ⟨hN, by rw [← ht]; rfl⟩
  rw [← hN] at hlen hao hcap HN0 ⊢
  obtain ⟨X, hX⟩ : ∃ X, X = w.alloc (.cells #[.int .u8 k, .string (Ln.bs tx), .int .i64 nn, .slice ao N cap] 25) := ⟨_, rfl⟩
  have bX : Below w.heap.size w X := hX ▸ below_new w _
  have xn : X.heap[w.heap.size]? = some (.cells #[.int .u8 k, .string (Ln.bs tx), .int .i64 nn, .slice ao N cap] 25 (0, 0)) := by rw [hX]; exact World.alloc_heap_new w _
  have fX : Foot M M w X := Foot.of_below bX
  have nX : ¬ M w.heap.size := fun e => by obtain ⟨_, _, _, hB⟩ := hB; have := (hB.lt _ e).2; omega
  have HX : Hid (∀ {M' : Nat → Prop} {w' : World}, Foot M M' X w' → w'.heap[w.heap.size]? = some (.cells #[.int .u8 k, .string (Ln.bs tx), .int .i64 nn, .slice ao N cap] 25 (0, 0)) ∧ ¬ M' w.heap.size) := fun hf => hf.cell xn nX
  have HSW : Hid (∀ b, S b → b < w.heap.size ∧ ¬ M b) := hSM hB
  have HRUN : Hid (_) := L.run (m + 1) t _ M bx ch s p i X hr hbd (HN0.out.foot fX (hSM hB)) (hB.below bX) (L.stab _ _ _ _ hK fX) hch (by omega) (by omega) (by omega)
  have HC : Hid (Caps A M cl cw cv (.func (.func g) pre post) X) := hC.go fX
  have HK : Hid (K M X) := L.stab _ _ _ _ hK fX
  have HBX : Hid (BW A M bx ch s p i X ∧ Foot M M w X) := ⟨hB.below bX, fX⟩
  have HR : Hid (Tr.right (m + 1) t = true ∧ Tr.Bd [t] ∧ ch ≠ [] ∧ ch.length + (m + 1) ≤ 50 ∧ p.length + (m + 1) ≤ 1000 ∧ i + t.size ≤ 1000000 ∧ s.mass + 3 * t.size ≤ 10000000) := ⟨hr, hbd, hch, hcl, hpl, his, hmass⟩
  have HXS : Hid (kids = xs.map N1.tr ∧ ∀ (i : Nat) (x : N1), xs[i]? = some x → x.Fit ∧ RowR S w x.v x.kids ∧ w.cell? ⟨rb, ro + i * 4, none⟩ = some (.int .u8 x.k) ∧ w.cell? ⟨rb, ro + i * 4 + 1, none⟩ = some (.string (Ln.bs x.t)) ∧ w.cell? ⟨rb, ro + i * 4 + 2, none⟩ = some (.int .i64 x.n) ∧ w.cell? ⟨rb, ro + i * 4 + 3, none⟩ = some x.v) := ⟨hxs, hx⟩
  have HAO : Hid (0 < N → ao = some ⟨rb, ro, none⟩ ∧ S rb) := hao
  have hgg := L.enter
  have v0 : X.cell? ⟨cl, 0, none⟩ = some (.func (.func g) pre post) := cells_at HC.out.1.1 rfl
  have x0 : X.cell? ⟨w.heap.size, 0, none⟩ = some (.int .u8 k) := cells_at xn rfl
  have x1 : X.cell? ⟨w.heap.size, 1, none⟩ = some (.string (Ln.bs tx)) := cells_at xn rfl
  have x2 : X.cell? ⟨w.heap.size, 2, none⟩ = some (.int .i64 nn) := cells_at xn rfl
  have x3 : X.cell? ⟨w.heap.size, 3, none⟩ = some (.slice ao N cap) := cells_at xn rfl
  rw [hX] at v0 x0 x1 x2 x3
  clear L ih hSM hB hK hC hr hbd hch hcl hpl his hmass hi ht hf hrow hxs hcap hao hx hN bX xn fX nX hSn
  refine (callsIn_wide (n := 3)).1 ?_
  refine callsIn_of_wp Tryz.func98 rfl trivial ?_ rfl
  simp only [Tryz.ntmps98, List.size_toArray, List.length_cons, List.length_nil, Nat.reduceAdd, Nat.reduceSub, Array.replicate_succ, Array.replicate_zero, List.push_toArray, List.append_toArray, List.nil_append, List.cons_append]
  gi_wp2
  rw [← hX]
  clear hX v0 x0 x1 x2 x3
  refine ⟨trivial, ?_⟩
  refine (callsIn_wide.2 HRUN.out).mono ?_
  rintro e w1 ⟨M1, bx1, hpre1, hf1, hlk⟩
  clear HRUN hgg
  cases hlook : look t p s with
  | error E =>
    rw [hlook] at hlk
    obtain rfl := hlk
    exact ⟨rfl, M1, bx1, hpre1, HBX.out.2.trans hf1, by rw [Bn.visit_eq, hlook]; rfl⟩
  | ok r0 =>
    obtain ⟨s1, a⟩ := r0
    rw [hlook] at hlk
    obtain ⟨fv, ch1, rfl, hB1, ha1, hcl1⟩ := hlk
    have HLK : Hid (look t p s = .ok (s1, a)) := hlook
    obtain ⟨pv1, mv1, sv1, hB1⟩ := hB1
    have hC1 := HC.out.go hf1
    have hxn1 := HX.out hf1
    have hnum := hB1.number (j := i + 1)
    have hfn : Foot M1 M1 w1 (w1.setCell ⟨A.wb, 2, none⟩ (.int .i64 ((i + 1 : Nat) : Int))) := Foot.of_grown (grown_set w1 A.wb 2 _) hB1.walk.2 (fun _ e => .inl e)
    rw [show ((i + 1 : Nat) : Int) = (i : Int) + 1 by omega] at hnum hfn
    obtain ⟨W, hW⟩ : ∃ W, W = w1.setCell ⟨A.wb, 2, none⟩ (.int .i64 ((i : Int) + 1)) := ⟨_, rfl⟩
    rw [← hW] at hnum hfn
    have c0 : w1.cell? ⟨cw, 0, none⟩ = some (ptrV A.wb) := cells_at hC1.2.1.1 rfl
    have c1 : w1.cell? ⟨A.wb, 2, none⟩ = some (.int .i64 i) := cells_at hB1.walk.1 rfl
    have c2 : w1.frozen? ⟨A.wb, 2, none⟩ = false := frozen_of_row w1 _ 2 _ _ hB1.walk.1
    have hadd : IntKind.i64.wrap ((i : Int) + 1) = (i : Int) + 1 := by have := HR.out.2.2.2.2.2.1; rw [IntKind.wrap_i64]; omega
    have hxnW := (hfn.cell hxn1.1 hxn1.2)
    have c3 : W.cell? ⟨w.heap.size, 3, none⟩ = some (.slice ao N cap) := cells_at hxnW.1 rfl
    have hf1W := hf1.trans hfn
    have hm1 := HL.out.mass t p s s1 a hlook
    have ST : Hid (BW A M1 bx1 ch1 s1 p (i + 1) W ∧ Foot M M1 w W ∧ Foot M M1 X W ∧ bx <+: bx1 ∧ AfterAt A bx1 M1 a fv ch1 ch W ∧ s1.mass ≤ s.mass + 2 ∧ ch1.length ≤ ch.length + 1 ∧ ch1 ≠ []) := ⟨hnum.bw, HBX.out.2.trans hf1W, hf1W, hpre1, ha1.go hfn ⟨[], by simp⟩, hm1, hcl1, fun e => by
      obtain ⟨sb, -, hch⟩ := hnum.chain
      rw [e] at hch
      cases ho : s1.own with
      | nil =>
        rw [ho] at hch
        injection hch with hch _
        exact absurd hch (by decide)
      | cons _ _ => rw [ho] at hch; exact hch.elim⟩
    clear hlook hpre1 hf1 hB1 ha1 hcl1 hC1 hxn1 hnum hfn hxnW hf1W hm1
    rw [hW] at c3
    gi_wp2
    rw [← hW]
    clear hW c0 c1 c2 c3 hadd
    gi_loopw [21] (fun I wr => ∃ (k : Nat) (M' : Nat → Prop) (bx' : List Nat) (s' : St) (j : Nat), k ≤ N ∧ I = .int .i64 k ∧ Foot M M' w wr ∧ Foot M M' X wr ∧ bx <+: bx' ∧ BW A M' bx' ch1 s' p j wr ∧ AfterAt A bx' M' a fv ch1 ch wr ∧ K M' wr ∧ Caps A M' cl cw cv (.func (.func g) pre post) wr ∧ j = i + 1 + Tr.sizes (kids.take k) ∧ s'.mass ≤ s.mass + 2 + 3 * Tr.sizes (kids.take k) ∧ Bn.visits look kids 0 p (i + 1) s1 = Bn.visits look (kids.drop k) k p j s') (fun I _ => N - (intOf I).toNat)
    case atStart =>
      obtain ⟨y1, y2, y3, y4, y5, y6, y7, y8⟩ := ST.out
      exact ⟨0, M1, bx1, s1, i + 1, Nat.zero_le _, rfl, y2, y3, y4, y1, y5, HL.out.stab _ _ _ _ HK.out y3, HC.out.go y3, by simp [Tr.sizes_nil], by simp [Tr.sizes_nil]; exact y6, by simp⟩
    case round =>
      obtain ⟨q, M', bx', s', j, hq, rfl, hfw, hfX, hpre, hBr, haf, hKr, hCr, hj, hms, hvis⟩ := hrel
      by_cases hlt : q < N
      case neg =>
        have hqN : q = N := by omega
        subst hqN
        have hN1 := HNN.out
        have hvN : Bn.visits look kids 0 p (i + 1) s1 = .ok (s', j) := by rw [hvis, List.drop_of_length_le (by omega), Bn.visits_nil]
        have htk : kids.take q = kids := List.take_of_length_le (by omega)
        rw [htk] at hj hms
        have hsz : t.size = 1 + Tr.sizes kids := by rw [Tr.size_eq, hN1.2]
        have hR7 := HR.out.2.2.2.2.2.2
        obtain ⟨ga, lb, hfv, hent, hcal⟩ := after_any haf hBr (mass_own (s := s') (by omega))
        subst hfv
        have hvi : Bn.visit look t p i s = .ok (Bn.behind a s', j) := by rw [Bn.visit_eq, HLK.out]; simp only [hN1.2, hvN]
        have HVI : Hid (Bn.visit look t p i s = .ok (Bn.behind a s', j)) := hvi
        clear hvi
        have HCL : Hid (Calls Tryz.prog ga lb wr fun e w' => e = .returned (.tuple #[]) ∧ BW A M' bx' ch (Bn.behind a s') p j w' ∧ Foot M' M' wr w') := hcal
        have HQ : Hid (bx <+: bx' ∧ Foot M M' w wr ∧ j = i + t.size ∧ s'.mass + 1 ≤ s.mass + 3 * t.size) := ⟨hpre, hfw, by omega, by omega⟩
        clear hN1 hvN htk hsz hR7 hcal hvis hms hj hCr hKr haf hBr hpre hfX hfw HXS HAO ST HN0
        gi_wp2
        refine ⟨trivial, ?_⟩
        refine (callsIn_wide.2 HCL.out).mono ?_
        rintro e w3 ⟨rfl, hBf, hff⟩
        gi_wp2
        · rename_i he; exact absurd (HVI.out.symm.trans he) (by simp)
        · rename_i he; cases HVI.out.symm.trans he; go_end0; exact ⟨M', bx', HQ.out.1, HQ.out.2.1.trans hff, rfl, hBf, HQ.out.2.2.1, by have := Bn.mass_behind a s'; have := HQ.out.2.2.2; omega⟩
      case pos =>
        obtain ⟨hkx, hcell⟩ := HXS.out
        have hql : q < xs.length := by have := HNN.out.1; rw [hkx, List.length_map] at this; omega
        obtain ⟨⟨zk, zt, zn, zv, zkids⟩, hzq⟩ : ∃ z, xs[q]? = some z := ⟨xs[q], List.getElem?_eq_getElem hql⟩
        obtain ⟨zfit, zr, z0, z1, z2, z3⟩ := hcell q _ hzq
        simp only at z0 z1 z2 z3 zr
        obtain ⟨za, zc, hzv⟩ := zr.slice
        subst hzv
        obtain ⟨hao, hSr⟩ := HAO.out (by omega)
        subst hao
        have hrb := HSW.out rb hSr
        have hcw : ∀ k, wr.cell? ⟨rb, k, none⟩ = w.cell? ⟨rb, k, none⟩ := fun k => World.cell?_of_block (w := w) (a := ⟨rb, k, none⟩) (hfw.block rb hrb.1 hrb.2)
        rw [← hcw] at z0 z1 z2 z3
        have HX0 : Hid (kids[q]? = some (.mk zk zt zn zkids)) := by show _ = _; rw [hkx, List.getElem?_map, hzq]; rfl
        have HKID : Hid (NodeR S wr (.agg #[.int .u8 zk, .string (Ln.bs zt), .int .i64 zn, .slice za zkids.length zc]) (.mk zk zt zn zkids)) := NodeR.foot (w := w) ⟨⟨zk, zt, zn, _, zkids⟩, rfl, rfl, zfit, zr⟩ hfw HSW.out
        obtain ⟨zN, hzN⟩ : ∃ n, n = zkids.length := ⟨_, rfl⟩
        rw [← hzN] at z3 HKID
        have HRB : Hid (BW A M' bx' ch1 s' p j wr ∧ AfterAt A bx' M' a fv ch1 ch wr ∧ K M' wr ∧ Caps A M' cl cw cv (.func (.func g) pre post) wr ∧ Foot M M' w wr ∧ Foot M M' X wr ∧ bx <+: bx') := ⟨hBr, haf, hKr, hCr, hfw, hfX, hpre⟩
        have HJ : Hid (j = i + 1 + Tr.sizes (kids.take q) ∧ s'.mass ≤ s.mass + 2 + 3 * Tr.sizes (kids.take q) ∧ Bn.visits look kids 0 p (i + 1) s1 = Bn.visits look (kids.drop q) q p j s') := ⟨hj, hms, hvis⟩
        have HST : Hid (ch1.length ≤ ch.length + 1 ∧ ch1 ≠ []) := ⟨ST.out.2.2.2.2.2.2.1, ST.out.2.2.2.2.2.2.2⟩
        obtain ⟨X2, hX2⟩ : ∃ X2, X2 = wr.alloc (.cells #[.int .u8 zk, .string (Ln.bs zt), .int .i64 zn, .slice za zN zc] 25) := ⟨_, rfl⟩
        have bX2 : Below wr.heap.size wr X2 := hX2 ▸ below_new wr _
        have xk : X2.heap[wr.heap.size]? = some (.cells #[.int .u8 zk, .string (Ln.bs zt), .int .i64 zn, .slice za zN zc] 25 (0, 0)) := by rw [hX2]; exact World.alloc_heap_new wr _
        have fX2 : Foot M' M' wr X2 := Foot.of_below bX2
        have hB2 := hBr.below bX2
        obtain ⟨pv2, mv2, sv2, hB2⟩ := hB2
        obtain ⟨pa, pc, hpv⟩ := slice_shape hB2.path.1
        subst hpv
        have hC2 := hCr.go fX2
        have hnk : ¬ M' wr.heap.size := fun e => by obtain ⟨_, _, _, hb⟩ := hBr; have := (hb.lt _ e).2; omega
        have HCC : Hid (∀ z, Below X2.heap.size X2 z → z.cell? ⟨cw, 0, none⟩ = some (ptrV A.wb)) := fun z hz => cells_at ((hz.block _ (Array.getElem?_eq_some_iff.1 hC2.2.1.1).1).trans hC2.2.1.1) rfl
        have HPC : Hid (∀ z, Below X2.heap.size X2 z → z.cell? ⟨A.wb, 1, none⟩ = some (.slice pa p.length pc)) := fun z hz => cells_at ((hz.block _ (Array.getElem?_eq_some_iff.1 hB2.walk.1).1).trans hB2.walk.1) rfl
        have HCF : Hid (∀ z : World, z.cell? ⟨cw, 0, none⟩ = some (ptrV A.wb) → z.cell? ⟨cw, 0, none⟩ = some (ptrV A.wb)) := fun _ h => h
        have HD0 : Hid (Below X2.heap.size X2 X2.drew) := below_draw X2 1
        have H2 : Hid (BAt A M' bx' ch1 s' p j X2 (.slice pa p.length pc) mv2 sv2 ∧ Foot M' M' wr X2 ∧ X2.heap[wr.heap.size]? = some (.cells #[.int .u8 zk, .string (Ln.bs zt), .int .i64 zn, .slice za zN zc] 25 (0, 0)) ∧ ¬ M' wr.heap.size ∧ Caps A M' cl cw cv (.func (.func g) pre post) X2) := ⟨hB2, fX2, xk, hnk, hC2⟩
        have HLO : Hid (kids.take (q + 1) = kids.take q ++ [.mk zk zt zn zkids] ∧ (Tr.mk zk zt zn zkids) ∈ t.kids ∧ kids.drop q = .mk zk zt zn zkids :: kids.drop (q + 1) ∧ Tr.sizes (kids.take q) + Tr.size (.mk zk zt zn zkids) ≤ Tr.sizes kids ∧ t.size = 1 + Tr.sizes kids) := by
          have e := HX0.out
          have e1 : kids.take (q + 1) = kids.take q ++ [.mk zk zt zn zkids] := by rw [List.take_add_one, e]; rfl
          have e4 := sizes_take kids (q + 1)
          rw [e1, Tr.sizes_append, Tr.sizes_cons, Tr.sizes_nil] at e4
          have e5 := (List.getElem?_eq_some_iff.1 e)
          exact ⟨e1, by rw [HNN.out.2]; exact List.mem_of_getElem? e, by rw [List.drop_eq_getElem_cons e5.1, e5.2], by omega, by rw [Tr.size_eq, HNN.out.2]⟩
        have hwq : IntKind.i64.wrap ((q : Int) + 1) = ((q + 1 : Nat) : Int) := by rw [IntKind.wrap_i64]; omega
        clear hkx hcell hql hzq zfit zr hSr hrb hcw hzN hBr haf hKr hCr hfw hfX hpre hj hms hvis ST HAO HXS HN0 bX2 xk fX2 hB2 hC2 hnk
        gi_wp2
        rw [← hX2]
        clear hX2 z0 z1 z2 z3
        refine region_lex (fun z => z.cell? ⟨cw, 0, none⟩ = some (ptrV A.wb)) 4 7 rfl (by kernel_rfl) (by kernel_rfl) (by kernel_rfl) (by kernel_rfl) (fun _ _ d _ _ h => by cases d <;> exact h) (HCC.out _ HD0.out) ?_
        simp only [List.take_succ_cons, List.take_zero]
        iterate 4 (first
          | (apply lexC_want
             · rfl
             · exact fun _ => rfl
             · (intro w' hw'; obtain f1 := HCF.out w' hw'; go_simp; try rfl)
             simp only [Act.put, List.setIfInBounds_toArray, List.set_cons_zero, List.set_cons_succ])
          | (apply lexC_skip
             · rfl
             · exact fun _ => rfl
             simp only [Act.put, List.setIfInBounds_toArray, List.set_cons_zero, List.set_cons_succ]))
        refine lexC_nil ?_
        refine anyC_take (i := 5) (v := .int .i64 q) rfl rfl (by kernel_rfl) (by kernel_rfl) (by kernel_rfl) (fun _ _ d _ _ h => by cases d <;> exact h) (HCC.out _ HD0.out) (by rfl) (fun _ => rfl) (by intro w' hw'; obtain f1 := HCF.out w' hw'; go_simp; try rfl) ?_
        simp only [Act.put, List.setIfInBounds_toArray, List.set_cons_zero, List.set_cons_succ, List.getElem_toArray, List.getElem_cons_zero, List.getElem_cons_succ]
        refine anyC_two (i := 4) (j := 6) (by kernel_rfl) rfl rfl (by rfl) (by rfl) (fun K1 hK1 => ?_) (fun K1 hK1 => ?_)
        · skip
          have u0 := HPC.out _ HD0.out
          go_simp
          refine hK1 _ _ (HCC.out _ HD0.out) ?_
          clear hK1
          clear u0
          obtain ⟨Y, hY⟩ : ∃ Y, Y = (X2.alloc (.cells #[.int .i64 q] 3)).drew := ⟨_, rfl⟩
          have DY : Below X2.heap.size X2 Y := hY ▸ below_then (below_new X2 _) (below_draw _ 1)
          have hc0 : ∀ (j : Nat) (u : Value), [Value.int .i64 q][j]? = some u → Y.cell? ((⟨X2.heap.size, 0, none⟩ : Addr).add j) = some u := by rw [hY]; exact cells_new X2 [.int .i64 q] 3
          refine anyC_one (i := 6) (by kernel_rfl) rfl (by rfl) (fun K2 hK2 => ?_)
          go_simp
          rw [← hY]
          refine hK2 _ _ (HCC.out _ DY) ?_
          clear hK2
          have hBY := H2.out.1.below DY
          have hpl := HR.out.2.2.2.2.1
          obtain ⟨i0, hi0, hz0, hz1, hz2⟩ := info_parts info_int
          obtain ⟨uv', Z, hrun, hown, hgr, -, hat⟩ := run_append_own_at (P := Tryz.prog) Y A.n 44 44 3 i0 (.int .i64 0) 1 8 Tryz.underlying44 hi0 hz0 hz1 hz2 rfl (by decide) (.slice pa p.length pc) p.length (p.map numV) hBY.path.1 ⟨X2.heap.size, 0, none⟩ 1 1 [.int .i64 q] rfl hc0 (by simp [Value.oneCell']) (by unfold maxLen; omega) (by omega) hBY.low
          obtain ⟨ua, uc, hu⟩ := slice_shape hown
          subst hu
          have happ := hBY.append (c := q) hown hgr hat
          obtain ⟨M3, hM3⟩ : ∃ M3 : Nat → Prop, M3 = fun k => M' k ∨ (Value.slice ua (p.length + 1) uc).ownBlock = some k := ⟨_, rfl⟩
          rw [← hM3] at happ
          obtain ⟨Z3, hZ3⟩ : ∃ Z3, Z3 = Z.setCell ⟨A.wb, 1, none⟩ (.slice ua (p.length + 1) uc) := ⟨_, rfl⟩
          rw [← hZ3] at happ
          have fY : Foot M' M' X2 Y := Foot.of_below DY
          have HA : Hid (BW A M3 bx' ch1 s' (p ++ [q]) j Z3 ∧ Foot M' M3 X2 Z3) := ⟨happ.1.bw, fY.trans happ.2⟩
          have hC3 := H2.out.2.2.2.2.go HA.out.2
          have hCY := H2.out.2.2.2.2.go fY
          have hneP : ∀ k, ¬ M' k → k < Y.heap.size → Z.heap[k]? = Y.heap[k]? := fun k hk hl => hgr.block k hl (fun e => hk (hBY.path.2 k e.symm))
          have cwZ : Z.cell? ⟨cw, 0, none⟩ = some (ptrV A.wb) := cells_at ((hneP cw hCY.2.1.2 (Array.getElem?_eq_some_iff.1 hCY.2.1.1).1).trans hCY.2.1.1) rfl
          have cwZ3 : Z3.cell? ⟨cw, 0, none⟩ = some (ptrV A.wb) := cells_at hC3.2.1.1 rfl
          have hwkZ : Z.heap[A.wb]? = Y.heap[A.wb]? := hgr.block A.wb (Array.getElem?_eq_some_iff.1 hBY.walk.1).1 (fun e => by
            obtain ⟨cs, e2⟩ := owns_ty hBY.path.1 A.wb e.symm
            rw [hBY.walk.1] at e2
            injection e2 with e2
            injection e2 with _ e2 _
            exact absurd e2 (by decide))
          have bf : Z.frozen? ⟨A.wb, 1, none⟩ = false := frozen_of_row Z A.wb 1 _ _ (hwkZ.trans hBY.walk.1)
          have bz : Z.cell? ⟨A.wb, 1, none⟩ = some (.slice pa p.length pc) := cells_at (hwkZ.trans hBY.walk.1) rfl
          clear hwkZ
          have hxk := HA.out.2.cell H2.out.2.2.1 H2.out.2.2.2.1
          have v0 : Z3.cell? ⟨cv, 0, none⟩ = some (.func (.func 98) #[] #[ptrV cl, ptrV cw, ptrV cv]) := cells_at hC3.2.2.1 rfl
          have k0 : Z3.cell? ⟨wr.heap.size, 0, none⟩ = some (.int .u8 zk) := cells_at hxk.1 rfl
          have k1 : Z3.cell? ⟨wr.heap.size, 1, none⟩ = some (.string (Ln.bs zt)) := cells_at hxk.1 rfl
          have k2 : Z3.cell? ⟨wr.heap.size, 2, none⟩ = some (.int .i64 zn) := cells_at hxk.1 rfl
          have k3 : Z3.cell? ⟨wr.heap.size, 3, none⟩ = some (.slice za zN zc) := cells_at hxk.1 rfl
          have HF3 : Hid (Foot M' M3 wr Z3) := H2.out.2.1.trans HA.out.2
          have HKC : Hid (_) := HIH.out (.mk zk zt zn zkids) HLO.out.2.1 _ M3 bx' ch1 s' (p ++ [q]) j Z3 (right_kid HR.out.1 HLO.out.2.1) (HR.out.2.1.kid HLO.out.2.1) (HKID.out.foot HF3.out (HSM.out HRB.out.1)) HA.out.1 (HL.out.stab _ _ _ _ HRB.out.2.2.1 HF3.out) (HRB.out.2.2.2.1.go HF3.out) HST.out.2 (by have := HST.out.1; have := HR.out.2.2.2.1; omega) (by rw [List.length_append]; simp; omega) (by have := HJ.out.1; have := HLO.out; have := HR.out.2.2.2.2.2.1; omega) (by have := HJ.out.1; have := HLO.out; have := HR.out.2.2.2.2.2.1; omega) (by have := HJ.out.2.1; have := HLO.out; have := HR.out.2.2.2.2.2.2; omega)
          clear hBY hpl hi0 hz0 hz1 hz2 hown hgr hat happ fY hC3 hCY hneP hxk hM3
          refine anyC_one (i := 7) (by kernel_rfl) rfl (by rfl) (fun K3 hK3 => ?_)
          refine op_append _ _ 44 rfl _ _ _ _ rfl rfl hrun ?_
          refine hK3 _ _ cwZ ?_
          clear hK3 hrun hc0 hY DY
          refine anyC_more 8 2 1 3 rfl (by kernel_rfl) rfl (by decide) (by kernel_rfl) (fun _ _ d _ _ h => by cases d <;> exact h) cwZ ?_
          simp only [List.drop_succ_cons, List.drop_zero, List.take_succ_cons, List.take_zero]
          iterate 2 (first
            | (apply lexC_want
               · rfl
               · exact fun _ => rfl
               · (intro w' hw'; obtain f1 := HCF.out w' hw'; go_simp; try rfl)
               simp only [Act.put, List.setIfInBounds_toArray])
            | (apply lexC_skip
               · rfl
               · exact fun _ => rfl
               simp only [Act.put, List.setIfInBounds_toArray]))
          refine lexC_nil ?_
          refine anyC_one (i := 10) (by kernel_rfl) rfl (by rfl) (fun K3 hK3 => ?_)
          go_simp
          rw [← hZ3]
          refine hK3 _ _ cwZ3 ?_
          clear hK3 hZ3 bf bz cwZ
          refine anyC_done (by kernel_rfl) ?_
          have hself := enter_visit
          gi_wp2
          refine ⟨trivial, ?_⟩
          refine (callsIn_wide.2 HKC.out).mono ?_
          rintro e w4 ⟨M4, bx4, hpre4, hf4, hv4⟩
          clear HKC v0 k0 k1 k2 k3 cwZ3 hself
          cases hvx : Bn.visit look (.mk zk zt zn zkids) (p ++ [q]) j s' with
          | error E =>
            rw [hvx] at hv4
            obtain rfl := hv4
            have hve : Bn.visit look t p i s = .error E := by rw [Bn.visit_eq, HLK.out]; simp only [HNN.out.2, HJ.out.2.2, HLO.out.2.2.1, Bn.visits_cons, hvx]
            exact ⟨rfl, M4, bx4, HRB.out.2.2.2.2.2.2.trans hpre4, (HRB.out.2.2.2.2.1.trans HF3.out).trans hf4, by rw [hve]; rfl⟩
          | ok r4 =>
            obtain ⟨s4, j4⟩ := r4
            rw [hvx] at hv4
            obtain ⟨rfl, hB4, hj4, hm4⟩ := hv4
            obtain ⟨pv4, mv4, sv4, hB4⟩ := hB4
            obtain ⟨qa, qc, hqv⟩ := slice_shape hB4.path.1
            subst hqv
            have hqc : (p ++ [q]).length ≤ qc := by
              rcases hB4.path.1.2 with ⟨e, h0⟩ | ⟨_, _, _, e, _, _, h9, _⟩
              · simp at h0
              · injection e with _ _ e3; omega
            have hpop := hB4.pop
            obtain ⟨hqn, hpop⟩ := hpop
            rw [hqn] at hqc hB4
            obtain ⟨W5, hW5⟩ : ∃ W5, W5 = (w4.setCell ⟨A.wb, 1, none⟩ (.slice qa p.length qc)).drew := ⟨_, rfl⟩
            have hpop := hpop.below (below_draw _ 1)
            replace hpop : BAt A M4 bx4 ch1 s4 p j4 W5 (.slice qa p.length qc) mv4 sv4 := hW5 ▸ hpop
            have g5 : Foot M4 M4 w4 W5 := hW5 ▸ (Foot.of_grown (grown_set _ A.wb 1 _) hB4.walk.2 (fun _ e => .inl e)).trans (Foot.of_below (below_draw _ 1))
            have hfa : Foot M' M4 wr W5 := (HF3.out.trans hf4).trans g5
            have HE : Hid (∃ (k : Nat) (M' : Nat → Prop) (bx' : List Nat) (s' : St) (j : Nat), k ≤ N ∧ .int .i64 ((q + 1 : Nat) : Int) = Value.int .i64 k ∧ Foot M M' w W5 ∧ Foot M M' X W5 ∧ bx <+: bx' ∧ BW A M' bx' ch1 s' p j W5 ∧ AfterAt A bx' M' a fv ch1 ch W5 ∧ K M' W5 ∧ Caps A M' cl cw cv (.func (.func g) pre post) W5 ∧ j = i + 1 + Tr.sizes (kids.take k) ∧ s'.mass ≤ s.mass + 2 + 3 * Tr.sizes (kids.take k) ∧ Bn.visits look kids 0 p (i + 1) s1 = Bn.visits look (kids.drop k) k p j s') := by
              obtain ⟨r1, r2, r3, r4, r5, r6, r7⟩ := HRB.out
              obtain ⟨l1, l2, l3, l4, l5⟩ := HLO.out
              obtain ⟨t1, t2, t3⟩ := HJ.out
              refine ⟨q + 1, M4, bx4, s4, j4, by omega, rfl, r5.trans hfa, r6.trans hfa, r7.trans hpre4, hpop.bw, r2.go hfa hpre4, HL.out.stab _ _ _ _ r3 hfa, r4.go hfa, ?_, ?_, ?_⟩
              · rw [l1, Tr.sizes_append, Tr.sizes_cons, Tr.sizes_nil]; omega
              · rw [l1, Tr.sizes_append, Tr.sizes_cons, Tr.sizes_nil]; omega
              · rw [t3, l3, Bn.visits_cons, hvx]
            have c0 : w4.cell? ⟨cw, 0, none⟩ = some (ptrV A.wb) := cells_at ((HRB.out.2.2.2.1.go (HF3.out.trans hf4)).2.1.1) rfl
            have c1 : w4.cell? ⟨A.wb, 1, none⟩ = some (.slice qa (p.length + 1) qc) := cells_at hB4.walk.1 rfl
            have c2 : w4.frozen? ⟨A.wb, 1, none⟩ = false := frozen_of_row w4 _ 1 _ _ hB4.walk.1
            have hpl := HR.out.2.2.2.2.1
            have hsub : IntKind.i64.wrap (((p.length + 1 : Nat) : Int) - 1) = (p.length : Int) := by rw [IntKind.wrap_i64]; omega
            clear hvx hB4 hj4 hm4 hqn hpop g5 hfa hf4 hpre4 HF3 HA
            gi_wp2
            gi_region
            rw [← hW5]
            clear c0 c1 c2 hsub hW5
            gi_wp2
            exact ⟨HE.out, by simp [intOf]; omega⟩
        · skip
          go_simp
          obtain ⟨Y, hY⟩ : ∃ Y, Y = (X2.alloc (.cells #[.int .i64 q] 3)).drew := ⟨_, rfl⟩
          have DY : Below X2.heap.size X2 Y := hY ▸ below_then (below_new X2 _) (below_draw _ 1)
          have hc0 : ∀ (j : Nat) (u : Value), [Value.int .i64 q][j]? = some u → Y.cell? ((⟨X2.heap.size, 0, none⟩ : Addr).add j) = some u := by rw [hY]; exact cells_new X2 [.int .i64 q] 3
          rw [← hY]
          refine hK1 _ _ (HCC.out _ DY) ?_
          clear hK1
          clear hY
          refine anyC_one (i := 4) (by kernel_rfl) rfl (by rfl) (fun K4 hK4 => ?_)
          have u0 := HPC.out _ DY
          go_simp
          refine hK4 _ _ (HCC.out _ DY) ?_
          clear hK4
          clear u0
          have hBY := H2.out.1.below DY
          have hpl := HR.out.2.2.2.2.1
          obtain ⟨i0, hi0, hz0, hz1, hz2⟩ := info_parts info_int
          obtain ⟨uv', Z, hrun, hown, hgr, -, hat⟩ := run_append_own_at (P := Tryz.prog) Y A.n 44 44 3 i0 (.int .i64 0) 1 8 Tryz.underlying44 hi0 hz0 hz1 hz2 rfl (by decide) (.slice pa p.length pc) p.length (p.map numV) hBY.path.1 ⟨X2.heap.size, 0, none⟩ 1 1 [.int .i64 q] rfl hc0 (by simp [Value.oneCell']) (by unfold maxLen; omega) (by omega) hBY.low
          obtain ⟨ua, uc, hu⟩ := slice_shape hown
          subst hu
          have happ := hBY.append (c := q) hown hgr hat
          obtain ⟨M3, hM3⟩ : ∃ M3 : Nat → Prop, M3 = fun k => M' k ∨ (Value.slice ua (p.length + 1) uc).ownBlock = some k := ⟨_, rfl⟩
          rw [← hM3] at happ
          obtain ⟨Z3, hZ3⟩ : ∃ Z3, Z3 = Z.setCell ⟨A.wb, 1, none⟩ (.slice ua (p.length + 1) uc) := ⟨_, rfl⟩
          rw [← hZ3] at happ
          have fY : Foot M' M' X2 Y := Foot.of_below DY
          have HA : Hid (BW A M3 bx' ch1 s' (p ++ [q]) j Z3 ∧ Foot M' M3 X2 Z3) := ⟨happ.1.bw, fY.trans happ.2⟩
          have hC3 := H2.out.2.2.2.2.go HA.out.2
          have hCY := H2.out.2.2.2.2.go fY
          have hneP : ∀ k, ¬ M' k → k < Y.heap.size → Z.heap[k]? = Y.heap[k]? := fun k hk hl => hgr.block k hl (fun e => hk (hBY.path.2 k e.symm))
          have cwZ : Z.cell? ⟨cw, 0, none⟩ = some (ptrV A.wb) := cells_at ((hneP cw hCY.2.1.2 (Array.getElem?_eq_some_iff.1 hCY.2.1.1).1).trans hCY.2.1.1) rfl
          have cwZ3 : Z3.cell? ⟨cw, 0, none⟩ = some (ptrV A.wb) := cells_at hC3.2.1.1 rfl
          have hwkZ : Z.heap[A.wb]? = Y.heap[A.wb]? := hgr.block A.wb (Array.getElem?_eq_some_iff.1 hBY.walk.1).1 (fun e => by
            obtain ⟨cs, e2⟩ := owns_ty hBY.path.1 A.wb e.symm
            rw [hBY.walk.1] at e2
            injection e2 with e2
            injection e2 with _ e2 _
            exact absurd e2 (by decide))
          have bf : Z.frozen? ⟨A.wb, 1, none⟩ = false := frozen_of_row Z A.wb 1 _ _ (hwkZ.trans hBY.walk.1)
          have bz : Z.cell? ⟨A.wb, 1, none⟩ = some (.slice pa p.length pc) := cells_at (hwkZ.trans hBY.walk.1) rfl
          clear hwkZ
          have hxk := HA.out.2.cell H2.out.2.2.1 H2.out.2.2.2.1
          have v0 : Z3.cell? ⟨cv, 0, none⟩ = some (.func (.func 98) #[] #[ptrV cl, ptrV cw, ptrV cv]) := cells_at hC3.2.2.1 rfl
          have k0 : Z3.cell? ⟨wr.heap.size, 0, none⟩ = some (.int .u8 zk) := cells_at hxk.1 rfl
          have k1 : Z3.cell? ⟨wr.heap.size, 1, none⟩ = some (.string (Ln.bs zt)) := cells_at hxk.1 rfl
          have k2 : Z3.cell? ⟨wr.heap.size, 2, none⟩ = some (.int .i64 zn) := cells_at hxk.1 rfl
          have k3 : Z3.cell? ⟨wr.heap.size, 3, none⟩ = some (.slice za zN zc) := cells_at hxk.1 rfl
          have HF3 : Hid (Foot M' M3 wr Z3) := H2.out.2.1.trans HA.out.2
          have HKC : Hid (_) := HIH.out (.mk zk zt zn zkids) HLO.out.2.1 _ M3 bx' ch1 s' (p ++ [q]) j Z3 (right_kid HR.out.1 HLO.out.2.1) (HR.out.2.1.kid HLO.out.2.1) (HKID.out.foot HF3.out (HSM.out HRB.out.1)) HA.out.1 (HL.out.stab _ _ _ _ HRB.out.2.2.1 HF3.out) (HRB.out.2.2.2.1.go HF3.out) HST.out.2 (by have := HST.out.1; have := HR.out.2.2.2.1; omega) (by rw [List.length_append]; simp; omega) (by have := HJ.out.1; have := HLO.out; have := HR.out.2.2.2.2.2.1; omega) (by have := HJ.out.1; have := HLO.out; have := HR.out.2.2.2.2.2.1; omega) (by have := HJ.out.2.1; have := HLO.out; have := HR.out.2.2.2.2.2.2; omega)
          clear hBY hpl hi0 hz0 hz1 hz2 hown hgr hat happ fY hC3 hCY hneP hxk hM3
          refine anyC_one (i := 7) (by kernel_rfl) rfl (by rfl) (fun K3 hK3 => ?_)
          refine op_append _ _ 44 rfl _ _ _ _ rfl rfl hrun ?_
          refine hK3 _ _ cwZ ?_
          clear hK3 hrun hc0 DY
          refine anyC_more 8 2 1 3 rfl (by kernel_rfl) rfl (by decide) (by kernel_rfl) (fun _ _ d _ _ h => by cases d <;> exact h) cwZ ?_
          simp only [List.drop_succ_cons, List.drop_zero, List.take_succ_cons, List.take_zero]
          iterate 2 (first
            | (apply lexC_want
               · rfl
               · exact fun _ => rfl
               · (intro w' hw'; obtain f1 := HCF.out w' hw'; go_simp; try rfl)
               simp only [Act.put, List.setIfInBounds_toArray])
            | (apply lexC_skip
               · rfl
               · exact fun _ => rfl
               simp only [Act.put, List.setIfInBounds_toArray]))
          refine lexC_nil ?_
          refine anyC_one (i := 10) (by kernel_rfl) rfl (by rfl) (fun K5 hK5 => ?_)
          go_simp
          rw [← hZ3]
          refine hK5 _ _ cwZ3 ?_
          clear hK5 hZ3 bf bz cwZ
          refine anyC_done (by kernel_rfl) ?_
          have hself := enter_visit
          gi_wp2
          refine ⟨trivial, ?_⟩
          refine (callsIn_wide.2 HKC.out).mono ?_
          rintro e w4 ⟨M4, bx4, hpre4, hf4, hv4⟩
          clear HKC v0 k0 k1 k2 k3 cwZ3 hself
          cases hvx : Bn.visit look (.mk zk zt zn zkids) (p ++ [q]) j s' with
          | error E =>
            rw [hvx] at hv4
            obtain rfl := hv4
            have hve : Bn.visit look t p i s = .error E := by rw [Bn.visit_eq, HLK.out]; simp only [HNN.out.2, HJ.out.2.2, HLO.out.2.2.1, Bn.visits_cons, hvx]
            exact ⟨rfl, M4, bx4, HRB.out.2.2.2.2.2.2.trans hpre4, (HRB.out.2.2.2.2.1.trans HF3.out).trans hf4, by rw [hve]; rfl⟩
          | ok r4 =>
            obtain ⟨s4, j4⟩ := r4
            rw [hvx] at hv4
            obtain ⟨rfl, hB4, hj4, hm4⟩ := hv4
            obtain ⟨pv4, mv4, sv4, hB4⟩ := hB4
            obtain ⟨qa, qc, hqv⟩ := slice_shape hB4.path.1
            subst hqv
            have hqc : (p ++ [q]).length ≤ qc := by
              rcases hB4.path.1.2 with ⟨e, h0⟩ | ⟨_, _, _, e, _, _, h9, _⟩
              · simp at h0
              · injection e with _ _ e3; omega
            have hpop := hB4.pop
            obtain ⟨hqn, hpop⟩ := hpop
            rw [hqn] at hqc hB4
            obtain ⟨W5, hW5⟩ : ∃ W5, W5 = (w4.setCell ⟨A.wb, 1, none⟩ (.slice qa p.length qc)).drew := ⟨_, rfl⟩
            have hpop := hpop.below (below_draw _ 1)
            replace hpop : BAt A M4 bx4 ch1 s4 p j4 W5 (.slice qa p.length qc) mv4 sv4 := hW5 ▸ hpop
            have g5 : Foot M4 M4 w4 W5 := hW5 ▸ (Foot.of_grown (grown_set _ A.wb 1 _) hB4.walk.2 (fun _ e => .inl e)).trans (Foot.of_below (below_draw _ 1))
            have hfa : Foot M' M4 wr W5 := (HF3.out.trans hf4).trans g5
            have HE : Hid (∃ (k : Nat) (M' : Nat → Prop) (bx' : List Nat) (s' : St) (j : Nat), k ≤ N ∧ .int .i64 ((q + 1 : Nat) : Int) = Value.int .i64 k ∧ Foot M M' w W5 ∧ Foot M M' X W5 ∧ bx <+: bx' ∧ BW A M' bx' ch1 s' p j W5 ∧ AfterAt A bx' M' a fv ch1 ch W5 ∧ K M' W5 ∧ Caps A M' cl cw cv (.func (.func g) pre post) W5 ∧ j = i + 1 + Tr.sizes (kids.take k) ∧ s'.mass ≤ s.mass + 2 + 3 * Tr.sizes (kids.take k) ∧ Bn.visits look kids 0 p (i + 1) s1 = Bn.visits look (kids.drop k) k p j s') := by
              obtain ⟨r1, r2, r3, r4, r5, r6, r7⟩ := HRB.out
              obtain ⟨l1, l2, l3, l4, l5⟩ := HLO.out
              obtain ⟨t1, t2, t3⟩ := HJ.out
              refine ⟨q + 1, M4, bx4, s4, j4, by omega, rfl, r5.trans hfa, r6.trans hfa, r7.trans hpre4, hpop.bw, r2.go hfa hpre4, HL.out.stab _ _ _ _ r3 hfa, r4.go hfa, ?_, ?_, ?_⟩
              · rw [l1, Tr.sizes_append, Tr.sizes_cons, Tr.sizes_nil]; omega
              · rw [l1, Tr.sizes_append, Tr.sizes_cons, Tr.sizes_nil]; omega
              · rw [t3, l3, Bn.visits_cons, hvx]
            have c0 : w4.cell? ⟨cw, 0, none⟩ = some (ptrV A.wb) := cells_at ((HRB.out.2.2.2.1.go (HF3.out.trans hf4)).2.1.1) rfl
            have c1 : w4.cell? ⟨A.wb, 1, none⟩ = some (.slice qa (p.length + 1) qc) := cells_at hB4.walk.1 rfl
            have c2 : w4.frozen? ⟨A.wb, 1, none⟩ = false := frozen_of_row w4 _ 1 _ _ hB4.walk.1
            have hpl := HR.out.2.2.2.2.1
            have hsub : IntKind.i64.wrap (((p.length + 1 : Nat) : Int) - 1) = (p.length : Int) := by rw [IntKind.wrap_i64]; omega
            clear hvx hB4 hj4 hm4 hqn hpop g5 hfa hf4 hpre4 HF3 HA
            gi_wp2
            gi_region
            rw [← hW5]
            clear c0 c1 c2 hsub hW5
            gi_wp2
            exact ⟨HE.out, by simp [intOf]; omega⟩
end Go.Proofs.YtnndgjnihhafbaaGreatDoor

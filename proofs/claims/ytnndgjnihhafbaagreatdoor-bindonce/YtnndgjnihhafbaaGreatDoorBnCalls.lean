/-
  Several texts in one, as they are: BnAdd, BnFirst, BnCall, BnMeet, BnLk0.
-/
import Derived.Test.YtnndgjnihhafbaaGreatDoorBnWalk

/-
  The walk of add: a Func stands for its name, all over the file.
-/
namespace Go.Proofs.YtnndgjnihhafbaaGreatDoor
open Go.RowKit Go.Shelf Go.WideMaps
open Bn (Sc Bd St After)

attribute [local go_sem] Oper.semAt_some

set_option maxRecDepth 100000 in
set_option maxHeartbeats 4000000 in
theorem add_any {A : Ad} {M : Nat → Prop} {bx : List Nat} {ch : List (Nat × Nat)} {s : St} {p : List Nat} {i : Nat} {w : World} {pv mv sv : Value} {k b : Nat} {d : Bd} (h : BAt A M bx ch s p i w pv mv sv) (hb : bx[k]? = some b) (hd : s.bds[k]? = some d) (hlen : s.fns.length ≤ 1000000000) :
    Calls Tryz.prog 61 #[ptrV A.fb, ptrV b] w fun e w' => Foot M M w w' ∧ match Bn.find s.fns d.name with
      | some _ => e = pan 110 i
      | none => e = .returned (.tuple #[]) ∧ BAt A M bx ch { s with fns := (d.name, k) :: s.fns } p i w' pv mv sv := by
  obtain ⟨pv0, uv, rows, hbox, -, hn, -⟩ := h.bds.each k b d hb hd
  have hkl := (List.getElem?_eq_some_iff.1 hb).1
  have c0 : w.cell? ⟨A.fb, 0, none⟩ = some (.map (some A.fm)) := cells_at h.file.1 rfl
  have c1 : w.cell? ⟨b, 1, none⟩ = some (.string (Ln.bs d.name)) := cells_at hbox rfl
  have hl : (Instr.lookup 88 (.map (some A.fm)) (.string (Ln.bs d.name)) false).run Tryz.prog w.drew = .ok (bptr bx (Bn.find s.fns d.name)) w.drew := MapAt.look (w := w.drew) (h.fns.1.go (w' := w.drew) rfl) d.name hn
  have HT : Hid (_) := ffault_any A.fb A.wb 110 i 110 _ sv pv mv w.drew rfl h.file.1 h.walk.1
  have hD : MapAt bx w.drew.drew A.fm s.fns := h.fns.1.go rfl
  obtain ⟨w', hup, hm', hg⟩ := hD.put d.name hn k hkl hlen
  rw [getD_of hb] at hup
  have hg0 : w.grownBy w' (some A.fm) := ⟨hg.os, hg.tape, hg.output, hg.size, fun j hj hn => hg.block j hj hn⟩
  have HF : Hid (BAt A M bx ch { s with fns := (d.name, k) :: s.fns } p i w' pv mv sv ∧ Foot M M w w') := ⟨h.addFn hm' hg0, Foot.of_grown hg0 h.fns.2 (fun _ e => .inl e)⟩
  have HW : Hid (Foot M M w w.drew) := Foot.of_below (below_draw w 1)
  obtain ⟨N, hN⟩ : ∃ N, N = Ln.bs d.name := ⟨_, rfl⟩
  rw [← hN] at c1 hup hl
  obtain ⟨oo, ho⟩ : ∃ o, o = Bn.find s.fns d.name := ⟨_, rfl⟩
  rw [← ho] at hl ⊢
  clear h hb hd hbox hn hkl hD hm' hg hg0 hlen hN ho
  cases oo with
  | some k2 =>
    simp only [bptr] at hl
    clear hup HF
    go_enter Tryz.func61, Tryz.ntmps61
    go_wp2
    go_region
    all_goals go_wp2_with fail
    all_goals (refine Calls.mono HT.out ?_)
    all_goals (rintro r w1 ⟨rfl, rfl⟩)
    all_goals exact ⟨rfl, HW.out, rfl⟩
  | none =>
    simp only [bptr] at hl
    clear HT HW
    go_enter Tryz.func61, Tryz.ntmps61
    go_wp2
    go_region
    all_goals go_wp2
    all_goals go_region
    all_goals go_wp2
    all_goals go_end0
    all_goals exact ⟨HF.out.2, rfl, HF.out.1⟩
end Go.Proofs.YtnndgjnihhafbaaGreatDoor

/-
  What the first pass does at a node: a Func stands for its name.
-/
namespace Go.Proofs.YtnndgjnihhafbaaGreatDoor
open Go.RowKit Go.Shelf Go.WideMaps
open Bn (Sc Bd St After)

attribute [local go_sem] Oper.semAt_some

/-- What the first pass holds. -/
def Caps1 (A : Ad) (c1 c2 : Nat) (M : Nat → Prop) (w : World) : Prop :=
  (w.heap[c1]? = some (.cells #[ptrV A.fb] 87 (0, 0)) ∧ ¬ M c1) ∧ (w.heap[c2]? = some (.cells #[ptrV A.wb] 82 (0, 0)) ∧ ¬ M c2)
theorem Caps1.go {A : Ad} {c1 c2 : Nat} {M M' : Nat → Prop} {w w' : World} (h : Caps1 A c1 c2 M w) (hf : Foot M M' w w') : Caps1 A c1 c2 M' w' := ⟨hf.cell h.1.1 h.1.2, hf.cell h.2.1 h.2.2⟩
theorem no_kids (tx : List UInt8) (n : Int) : Tr.kidsOk (.mk 2 tx n []) = false := by rfl
theorem func_kids {m : Nat} {t : Tr} (h : Tr.right (m + 1) t = true) (hk : t.k = 2) : t.kids ≠ [] := by
  intro e
  rw [Tr.right] at h
  simp only [Bool.and_eq_true] at h
  obtain ⟨k, tx, n, l⟩ := t
  simp only [Tr.k, Tr.kids] at hk e
  subst hk e
  rw [no_kids] at h
  simp at h
set_option maxRecDepth 100000 in
theorem enter_first (args : Array Value) (w : World) : (callFunc 60 args).run Tryz.prog w = .ok (.enter 60 args) w := by rfl

set_option maxRecDepth 100000 in
set_option maxHeartbeats 8000000 in
theorem first_any {A : Ad} {S : Nat → Prop} (hSn : ∀ b, S b → b < A.n) (c1 c2 : Nat) (m : Nat) (t : Tr) (val : Value) (M : Nat → Prop) (bx : List Nat) (ch : List (Nat × Nat)) (s : St) (p : List Nat) (i : Nat) (w : World) (hr : Tr.right m t = true) (hbd : Tr.Bd [t]) (hn : NodeR S w val t) (hB : BW A M bx ch s p i w) (hK : Caps1 A c1 c2 M w) (hpl : p.length ≤ 1000) (hmass : s.mass ≤ 10000000) :
    Calls Tryz.prog 60 #[val, ptrV c1, ptrV c2] w fun e w' => ∃ M' bx', bx <+: bx' ∧ Foot M M' w w' ∧
      match Bn.look1 t p s with
      | .error E => e = pan E i
      | .ok (s1, a) => ∃ fv ch1, e = .returned fv ∧ BW A M' bx' ch1 s1 p i w' ∧ AfterAt A bx' M' a fv ch1 ch w' ∧ ch1.length ≤ ch.length + 1 := by
  obtain ⟨pv, mv, sv, hB⟩ := hB
  have ht6 := (hbd.mem (List.mem_singleton.2 rfl)).1
  have h2 : t.k = 2 → t.kids ≠ [] := by
    cases m with
    | zero => rw [Tr.right] at hr; cases hr
    | succ m => exact func_kids hr
  have hlow : ∀ b, S b → b < w.heap.size := fun b hb => Nat.lt_of_lt_of_le (hSn b hb) hB.low
  have hnl : NodeR (lowS w.heap.size) w val t := by
    obtain ⟨x, e1, e2, e3, e4⟩ := hn
    exact ⟨x, e1, e2, e3, e4.mono hlow⟩
  obtain ⟨⟨k, tx, nn, kv, kids⟩, rfl, ht, hf, hrow⟩ := hn
  obtain ⟨ao, cap, hkv⟩ := hrow.slice
  simp only at hkv
  subst hkv
  have hk : t.k = k := by rw [← ht]; rfl
  have htt : t.t = tx := by rw [← ht]; rfl
  simp only [N1.cells] at hnl ⊢
  obtain ⟨N, hN⟩ : ∃ N, N = kids.length := ⟨_, rfl⟩
  rw [← hN] at hnl ⊢
  obtain ⟨X, hX⟩ : ∃ X, X = w.alloc (.cells #[.int .u8 k, .string (Ln.bs tx), .int .i64 nn, .slice ao N cap] 25) := ⟨_, rfl⟩
  have bX : Below w.heap.size w X := hX ▸ below_new w _
  have xn : X.heap[w.heap.size]? = some (.cells #[.int .u8 k, .string (Ln.bs tx), .int .i64 nn, .slice ao N cap] 25 (0, 0)) := by rw [hX]; exact World.alloc_heap_new w _
  have nX : ¬ M w.heap.size := fun e => by have := (hB.lt _ e).2; omega
  have fX : Foot M M w X := Foot.of_below bX
  have hKX := hK.go fX
  have HB : Hid (BAt A M bx ch s p i X pv mv sv ∧ Foot M M w X ∧ s.mass ≤ 10000000 ∧ p.length ≤ 1000) := ⟨hB.below bX, fX, hmass, hpl⟩
  have HN : Hid (NodeR (lowS X.heap.size) X (.agg #[.int .u8 k, .string (Ln.bs tx), .int .i64 nn, .slice ao N cap]) t) := hnl.at bX
  have HT : Hid (t.t.length ≤ 1000000 ∧ (t.k = 2 → t.kids ≠ []) ∧ t.k = k ∧ w.heap.size < X.heap.size) := ⟨ht6, h2, hk, (Array.getElem?_eq_some_iff.1 xn).1⟩
  have HCC : Hid (∀ {M' : Nat → Prop} {z : World}, Foot M M' X z → z.cell? ⟨c1, 0, none⟩ = some (ptrV A.fb) ∧ z.cell? ⟨c2, 0, none⟩ = some (ptrV A.wb) ∧ z.cell? ⟨w.heap.size, 0, none⟩ = some (.int .u8 k) ∧ z.cell? ⟨w.heap.size, 1, none⟩ = some (.string (Ln.bs tx)) ∧ z.cell? ⟨w.heap.size, 2, none⟩ = some (.int .i64 nn) ∧ z.cell? ⟨w.heap.size, 3, none⟩ = some (.slice ao N cap)) := fun hf => ⟨cells_at (hf.cell hKX.1.1 hKX.1.2).1 rfl, cells_at (hf.cell hKX.2.1 hKX.2.2).1 rfl, cells_at (hf.cell xn nX).1 rfl, cells_at (hf.cell xn nX).1 rfl, cells_at (hf.cell xn nX).1 rfl, cells_at (hf.cell xn nX).1 rfl⟩
  have x0 : X.cell? ⟨w.heap.size, 0, none⟩ = some (.int .u8 k) := cells_at xn rfl
  rw [hX] at x0
  clear hB ht6 h2 hlow hnl ht hf hrow htt hN bX xn nX fX hKX hK hpl hmass hr hbd
  by_cases hk2 : k = 2
  case neg =>
    have HL : Hid (Bn.look1 t p s = .ok (s, .nothing)) := by
      show _ = _
      unfold Bn.look1
      rw [if_neg (by rw [hk]; exact hk2)]
    clear HCC hk
    go_enter Tryz.func60, Tryz.ntmps60
    go_wp2
    all_goals (try rw [← hX])
    · rename_i he; exact absurd (HL.out.symm.trans he) (by simp)
    · rename_i he; cases HL.out.symm.trans he; go_ret; exact ⟨M, bx, List.prefix_refl _, HB.out.2.1, _, ch, rfl, HB.out.1.bw, ⟨rfl, rfl⟩, by omega⟩
  case pos =>
    subst hk2
    have HCF : Hid (∀ z : World, (fun z => z.cell? ⟨c1, 0, none⟩ = some (ptrV A.fb) ∧ z.cell? ⟨c2, 0, none⟩ = some (ptrV A.wb) ∧ z.cell? ⟨w.heap.size, 0, none⟩ = some (.int .u8 2) ∧ z.cell? ⟨w.heap.size, 1, none⟩ = some (.string (Ln.bs tx)) ∧ z.cell? ⟨w.heap.size, 2, none⟩ = some (.int .i64 nn) ∧ z.cell? ⟨w.heap.size, 3, none⟩ = some (.slice ao N cap)) z → (fun z => z.cell? ⟨c1, 0, none⟩ = some (ptrV A.fb) ∧ z.cell? ⟨c2, 0, none⟩ = some (ptrV A.wb) ∧ z.cell? ⟨w.heap.size, 0, none⟩ = some (.int .u8 2) ∧ z.cell? ⟨w.heap.size, 1, none⟩ = some (.string (Ln.bs tx)) ∧ z.cell? ⟨w.heap.size, 2, none⟩ = some (.int .i64 nn) ∧ z.cell? ⟨w.heap.size, 3, none⟩ = some (.slice ao N cap)) z) := fun _ h => h
    have HD0 : Hid (Below X.heap.size X X.drew) := below_draw X 1
    refine (callsIn_wide (n := 3)).1 ?_
    refine callsIn_of_wp Tryz.func60 rfl trivial ?_ rfl
    simp only [Tryz.ntmps60, List.size_toArray, List.length_cons, List.length_nil, Nat.reduceAdd, Nat.reduceSub, Array.replicate_succ, Array.replicate_zero, List.push_toArray, List.append_toArray, List.nil_append, List.cons_append]
    gi_wp2
    rw [← hX]
    clear hX x0
    refine region_lex (fun z => z.cell? ⟨c1, 0, none⟩ = some (ptrV A.fb) ∧ z.cell? ⟨c2, 0, none⟩ = some (ptrV A.wb) ∧ z.cell? ⟨w.heap.size, 0, none⟩ = some (.int .u8 2) ∧ z.cell? ⟨w.heap.size, 1, none⟩ = some (.string (Ln.bs tx)) ∧ z.cell? ⟨w.heap.size, 2, none⟩ = some (.int .i64 nn) ∧ z.cell? ⟨w.heap.size, 3, none⟩ = some (.slice ao N cap)) 3 2 rfl (by kernel_rfl) (by kernel_rfl) (by kernel_rfl) (by kernel_rfl) (fun _ _ d _ _ h => by cases d <;> exact h) (HCC.out (Foot.of_below HD0.out : Foot M M X X.drew)) ?_
    simp only [List.take_succ_cons, List.take_zero]
    iterate 3 (first
      | (apply lexC_want
         · rfl
         · exact fun _ => rfl
         · (intro w' hw'; obtain ⟨f1, f2, f3, f4, f5, f6⟩ := HCF.out w' hw'; go_simp; try rfl)
         simp only [Act.put, List.setIfInBounds_toArray, List.set_cons_zero, List.set_cons_succ])
      | (apply lexC_skip
         · rfl
         · exact fun _ => rfl
         simp only [Act.put, List.setIfInBounds_toArray, List.set_cons_zero, List.set_cons_succ]))
    refine lexC_nil ?_
    refine anyC_one (i := 3) (by kernel_rfl) rfl (by rfl) (fun K1 hK1 => ?_)
    go_simp
    refine ⟨trivial, ?_⟩
    refine (callsIn_wide.2 (binder_any A.wb A.n sv pv mv i p t _ X.drew (HB.out.1.below HD0.out).walk.1 (HB.out.1.below HD0.out).path.1 (by have := HB.out.2.2.2; omega) (HN.out.at HD0.out) HT.out.1 HT.out.2.1)).mono ?_
    rintro e w1 ⟨b, v, rfl, hge, hbl, hbox, hown⟩
    rw [if_pos hk] at hbox
    have hnew := (HB.out.1.below HD0.out).newBinder (d := ⟨p, t.t, [], Bn.params t⟩) hbl hge hbox hown rfl HT.out.1
    obtain ⟨M1, hM1⟩ : ∃ M1 : Nat → Prop, M1 = fun k => M k ∨ k = b := ⟨_, rfl⟩
    rw [← hM1] at hnew
    have hf1 : Foot M M1 X w1 := (Foot.of_below HD0.out : Foot M M X X.drew).trans ⟨hbl.os, hbl.tape, hbl.output, hbl.size, fun k hk _ => hbl.block k hk, fun k e => by rw [hM1] at e; rcases e with e | e; exact .inl e; exact .inr (e ▸ hge)⟩
    have hlen : bx.length = s.bds.length := HB.out.1.bds.len
    have HADD : Hid (_) := add_any (k := s.bds.length) (b := b) (d := ⟨p, t.t, [], Bn.params t⟩) hnew (by rw [← hlen]; simp) (by simp) (by have := HB.out.2.2.1; unfold Bn.St.mass at this; show s.fns.length ≤ _; omega)
    have HF1 : Hid (Foot M M1 X w1) := hf1
    clear hnew hM1 hge hbl hbox hown hlen
    refine hK1 _ _ (HCC.out hf1) ?_
    clear hK1
    clear hf1
    refine anyC_one (i := 4) (by kernel_rfl) rfl (by rfl) (fun K2 hK2 => ?_)
    go_simp
    refine ⟨trivial, ?_⟩
    refine (callsIn_wide.2 HADD.out).mono ?_
    rintro e w2 ⟨hf2, hend⟩
    simp only at hend
    cases hfd : Bn.find s.fns t.t with
    | some k2 =>
      rw [hfd] at hend
      obtain rfl := hend
      have hlk : Bn.look1 t p s = .error 110 := by unfold Bn.look1; rw [if_pos hk, hfd]
      exact ⟨rfl, M1, bx ++ [b], List.prefix_append _ _, (HB.out.2.1.trans HF1.out).trans hf2, by rw [hlk]; rfl⟩
    | none =>
      rw [hfd] at hend
      obtain ⟨rfl, hB2⟩ := hend
      have HL : Hid (Bn.look1 t p s = .ok ({ s with fns := (t.t, s.bds.length) :: s.fns, bds := s.bds ++ [⟨p, t.t, [], Bn.params t⟩] }, .nothing)) := by show _ = _; unfold Bn.look1; rw [if_pos hk, hfd]
      have HE : Hid (BW A M1 (bx ++ [b]) ch { s with fns := (t.t, s.bds.length) :: s.fns, bds := s.bds ++ [⟨p, t.t, [], Bn.params t⟩] } p i w2 ∧ Foot M M1 w w2) := ⟨hB2.bw, (HB.out.2.1.trans HF1.out).trans hf2⟩
      refine hK2 _ _ (HCC.out (HF1.out.trans hf2)) ?_
      clear hK2
      clear hf2 hB2 hfd HADD hk
      refine anyC_done (by kernel_rfl) ?_
      gi_wp2
      · rename_i he; exact absurd (HL.out.symm.trans he) (by simp)
      · rename_i he; cases HL.out.symm.trans he; go_ret; exact ⟨M1, bx ++ [b], List.prefix_append _ _, HE.out.2, _, ch, rfl, HE.out.1, ⟨rfl, rfl⟩, by omega⟩

theorem first_look {A : Ad} {S : Nat → Prop} (hSn : ∀ b, S b → b < A.n) (c1 c2 : Nat) : LookAt A Bn.look1 S (Caps1 A c1 c2) 60 #[] #[ptrV c1, ptrV c2] where
  enter := enter_first
  mass := fun _ _ _ _ _ h => Bn.mass_look1 h
  stab := fun _ _ _ _ h hf => h.go hf
  run := fun m t val M bx ch s p i w hr hbd hn hB hK _ _ hpl hmass => first_any hSn c1 c2 m t val M bx ch s p i w hr hbd hn hB hK hpl hmass
end Go.Proofs.YtnndgjnihhafbaaGreatDoor

/-
  The walk of call: a call of a Func is put down.
-/
namespace Go.Proofs.YtnndgjnihhafbaaGreatDoor
open Go.RowKit Go.Shelf Go.WideMaps
open Bn (Sc Bd St After)

attribute [local go_sem] Oper.semAt_some

theorem bfind_mem {sc : Sc} {q : List UInt8} {k : Nat} (h : Bn.find sc q = some k) : ∃ x ∈ sc, x.2 = k := by
  induction sc with
  | nil => simp [Bn.find] at h
  | cons x r ih =>
    simp only [Bn.find] at h
    split at h
    · injection h with h; exact ⟨x, by simp, h⟩
    · obtain ⟨y, h1, h2⟩ := ih h; exact ⟨y, by simp [h1], h2⟩
theorem chain_open {fb : Nat} {bx : List Nat} {M : Nat → Prop} {w : World} {ch : List (Nat × Nat)} {r : List Sc} {sb : Nat} (hch : ch ≠ []) (h : Chain fb bx M w ch r (.iface 83 (ptrV sb))) (hcl : ch.length ≤ 50) : ∃ T v m, w.heap[sb]? = some (.cells #[.iface T v, m] 130 (0, 0)) ∧ (∀ n, 60 ≤ n → (method n T v "clerestory/bind.function").run Tryz.prog w = .ok (226, ptrV fb) w) ∧ (∀ n, 60 ≤ n → (method n T v "clerestory/bind.fault").run Tryz.prog w = .ok (99, ptrV fb) w) := by
  cases ch with
  | nil => exact absurd rfl hch
  | cons x c =>
    cases r with
    | nil => exact h.elim
    | cons sc r =>
      obtain ⟨h1, -, -, -, u, h5, h6⟩ := h
      injection h1 with _ h1
      injection h1 with h1
      injection h1 with h1
      injection h1 with h1
      obtain ⟨T, v, rfl⟩ := h6.iface
      rw [← h1] at h5
      have hc : c.length ≤ 50 := by simp at hcl; omega
      exact ⟨T, v, _, h5, fun n hn => by have := chain_function_k h6 hc (n - 60); rwa [Nat.sub_add_cancel hn] at this, fun n hn => by have := chain_fault_k h6 hc (n - 60); rwa [Nat.sub_add_cancel hn] at this⟩

set_option maxRecDepth 100000 in
set_option maxHeartbeats 8000000 in
theorem bcall_any {A : Ad} {M : Nat → Prop} {bx : List Nat} {ch : List (Nat × Nat)} {s : St} {p : List Nat} {i : Nat} {w : World} {t : Tr} {val : Value} {S : Nat → Prop} (hbd : Tr.Bd [t]) (hn : NodeR S w val t) (hB : BW A M bx ch s p i w) (hch : ch ≠ []) (hcl : ch.length ≤ 50) (hpl : p.length ≤ 1000) (hmass : s.mass ≤ 10000000) :
    Calls Tryz.prog 107 #[ptrV A.wb, val] w fun e w' => ∃ M', Foot M M' w w' ∧
      match Bn.find s.fns t.t with
      | none => e = pan 111 i
      | some k => if t.kids.length ≠ s.paramsOf k then e = pan 112 i else e = .returned (.tuple #[]) ∧ BW A M' bx ch (s.use k p) p i w' := by
  obtain ⟨pv, mv, sv, hB⟩ := hB
  have ht6 := (hbd.mem (List.mem_singleton.2 rfl)).1
  obtain ⟨⟨k, tx, nn, kv, kids⟩, rfl, ht, hf, hrow⟩ := hn
  have hN6 : kids.length ≤ 1000000000000000 := by
    obtain ⟨_, _, _, _, _, _, _, _, _, h, _⟩ := hrow.parts
    exact h
  obtain ⟨ao, cap, hkv⟩ := hrow.slice
  simp only at hkv
  subst hkv
  have htt : t.t = tx := by rw [← ht]; rfl
  have htk : t.kids = kids := by rw [← ht]; rfl
  rw [htt] at ht6
  rw [htt, htk]
  simp only [N1.cells]
  obtain ⟨N, hN⟩ : ∃ N, N = kids.length := ⟨_, rfl⟩
  try simp only at hN6
  rw [← hN] at hN6 ⊢
  obtain ⟨X, hX⟩ : ∃ X, X = w.alloc (.cells #[.int .u8 k, .string (Ln.bs tx), .int .i64 nn, .slice ao N cap] 25) := ⟨_, rfl⟩
  have bX : Below w.heap.size w X := hX ▸ below_new w _
  have xn : X.heap[w.heap.size]? = some (.cells #[.int .u8 k, .string (Ln.bs tx), .int .i64 nn, .slice ao N cap] 25 (0, 0)) := by rw [hX]; exact World.alloc_heap_new w _
  have hBX := hB.below bX
  have hBD : BAt A M bx ch s p i X.drew pv mv sv := hBX.below (below_draw X 1)
  have hBE : BAt A M bx ch s p i X.drew.drew pv mv sv := hBD.below (below_draw X.drew 1)
  obtain ⟨sb, rfl, hc1⟩ := hBX.chain
  obtain ⟨T, v, m0, hsc, -, -⟩ := chain_open hch hc1 hcl
  obtain ⟨sb2, e2, hc2⟩ := hBD.chain
  obtain rfl : sb = sb2 := by injection e2 with e2; injection e2 with e2; injection e2
  obtain ⟨T2, v2, m2, hsc2, hfn, -⟩ := chain_open hch hc2 hcl
  obtain ⟨sb3, e3, hc3⟩ := hBE.chain
  obtain rfl : sb = sb3 := by injection e3 with e3; injection e3 with e3; injection e3
  obtain ⟨T3, v3, m3, hsc3, -, hft⟩ := chain_open hch hc3 hcl
  obtain ⟨rfl, rfl⟩ : T = T2 ∧ v = v2 := by
    have := hsc.symm.trans (show X.heap[sb]? = _ from hsc2)
    injection this with this; injection this with this _ _; injection this with this; injection this with this _; injection this with a b; exact ⟨a, b⟩
  obtain ⟨rfl, rfl⟩ : T = T3 ∧ v = v3 := by
    have := hsc.symm.trans (show X.heap[sb]? = _ from hsc3)
    injection this with this; injection this with this _ _; injection this with this; injection this with this _; injection this with a b; exact ⟨a, b⟩
  have HFT : Hid (_) := ffault_any A.fb A.wb 112 i 112 _ (ptrV sb) pv mv X.drew.drew rfl hBE.file.1 hBE.walk.1
  have HFN : Hid (_) := ffunction_any A.fb A.wb A.fm i bx s.fns tx (ptrV sb) pv mv X.drew hBD.file.1 hBD.walk.1 hBD.fns.1 ht6
  have HB : Hid (BAt A M bx ch s p i X.drew.drew pv mv (ptrV sb) ∧ Foot M M w X.drew ∧ Foot M M w X.drew.drew ∧ s.mass ≤ 10000000 ∧ p.length ≤ 1000) := ⟨hBE, Foot.of_below (below_then bX (below_draw X 1)), Foot.of_below (below_then (below_then bX (below_draw X 1)) (below_draw X.drew 1)), hmass, hpl⟩
  have HCF : Hid (∀ z, Below X.heap.size X z → z.cell? ⟨A.wb, 0, none⟩ = some (ptrV sb) ∧ z.cell? ⟨sb, 0, none⟩ = some (.iface T v) ∧ z.cell? ⟨w.heap.size, 1, none⟩ = some (.string (Ln.bs tx)) ∧ z.cell? ⟨w.heap.size, 3, none⟩ = some (.slice ao N cap)) := fun z hz => by
    have q1 := (hz.block _ (Array.getElem?_eq_some_iff.1 xn).1).trans xn
    exact ⟨cells_at ((hz.block _ (Array.getElem?_eq_some_iff.1 hBX.walk.1).1).trans hBX.walk.1) rfl, cells_at ((hz.block _ (Array.getElem?_eq_some_iff.1 hsc).1).trans hsc) rfl, cells_at q1 rfl, cells_at q1 rfl⟩
  have HD0 : Hid (Below X.heap.size X X.drew) := below_draw X 1
  have HD1 : Hid (Below X.heap.size X X.drew.drew) := below_then (below_draw X 1) (below_draw X.drew 1)
  clear hbd ht6 ht hf hrow htt htk hN bX xn hB hBX hBD hBE hc1 hsc e2 hc2 hsc2 e3 hc3 hsc3 hch hcl hpl hmass
  refine (callsIn_wide (n := 3)).1 ?_
  refine callsIn_of_wp Tryz.func107 rfl trivial ?_ rfl
  simp only [Tryz.ntmps107, List.size_toArray, List.length_cons, List.length_nil, Nat.reduceAdd, Nat.reduceSub, Array.replicate_succ, Array.replicate_zero, List.push_toArray, List.append_toArray, List.nil_append, List.cons_append]
  gi_wp2
  rw [← hX]
  clear hX
  refine region_lex (fun z => Below X.heap.size X z) 9 2 rfl (by kernel_rfl) (by kernel_rfl) (by kernel_rfl) (by kernel_rfl) (fun _ _ d _ _ h => by cases d <;> exact h) HD0.out ?_
  simp only [List.take_succ_cons, List.take_zero]
  iterate 9 (first
    | (apply lexC_want
       · rfl
       · exact fun _ => rfl
       · (intro w' hw'; obtain ⟨f1, f2, f3, f4⟩ := HCF.out w' hw'; go_simp; try rfl)
       simp only [Act.put, List.setIfInBounds_toArray, List.set_cons_zero, List.set_cons_succ])
    | (apply lexC_skip
       · rfl
       · exact fun _ => rfl
       simp only [Act.put, List.setIfInBounds_toArray, List.set_cons_zero, List.set_cons_succ]))
  refine lexC_nil ?_
  refine anyC_one (i := 9) (by kernel_rfl) rfl (by rfl) (fun K1 hK1 => ?_)
  go_simp
  refine ⟨trivial, ?_⟩
  refine (callsIn_wide.2 HFN.out).mono ?_
  rintro e w1 ⟨rfl, hend⟩
  cases hfd : Bn.find s.fns tx with
  | none =>
    rw [hfd] at hend
    obtain rfl := hend
    exact ⟨rfl, M, HB.out.2.1, by rw [hfd]; rfl⟩
  | some kb =>
    rw [hfd] at hend
    obtain rfl := hend
    obtain ⟨xm, hxm, hxk⟩ := bfind_mem hfd
    have hkl : kb < bx.length := hxk ▸ HB.out.1.fns.1.2 xm hxm
    have hbk := List.getElem?_eq_getElem hkl
    have hdk := List.getElem?_eq_getElem (show kb < s.bds.length by rw [← HB.out.1.bds.len]; exact hkl)
    obtain ⟨b, hb⟩ : ∃ b, b = bx[kb] := ⟨_, rfl⟩
    obtain ⟨d, hd⟩ : ∃ d, d = s.bds[kb]'(by rw [← HB.out.1.bds.len]; exact hkl) := ⟨_, rfl⟩
    rw [← hb] at hbk
    rw [← hd] at hdk
    rw [getD_of hbk]
    obtain ⟨pv0, uv, rows, hbox, -⟩ := HB.out.1.bds.each kb b d hbk hdk
    have HPA : Hid (s.paramsOf kb = d.params ∧ Bn.find s.fns tx = some kb) := ⟨by unfold Bn.St.paramsOf; rw [hdk], hfd⟩
    have HUS : Hid (_) := use_any HB.out.1 hbk hdk (by have := HB.out.2.2.2.2; omega) (by have := Bn.usesSum_mem (List.mem_of_getElem? hdk); have := HB.out.2.2.2.1; unfold Bn.St.mass at this; omega)
    have HBO : Hid (X.heap[b]? = some (.cells #[pv0, .string (Ln.bs d.name), uv, .int .i64 d.params] 133 (0, 0))) := hbox
    have HPC : Hid (X.drew.cell? ⟨b, 3, none⟩ = some (.int .i64 d.params)) := cells_at (show X.heap[b]? = _ from hbox) rfl
    have HPD : Hid (X.drew.drew.cell? ⟨b, 3, none⟩ = some (.int .i64 d.params)) := cells_at hbox rfl
    clear hfd hxm hxk hkl hbk hdk hb hd hbox HFN hfn
    refine hK1 _ _ HD0.out ?_
    clear hK1
    refine anyC_one (i := 10) (by kernel_rfl) rfl (by rfl) (fun K2 hK2 => ?_)
    go_simp
    refine hK2 _ _ HD0.out ?_
    clear hK2
    refine anyC_done (by kernel_rfl) ?_
    gi_wp2
    have HC0 : Hid (X.cell? ⟨A.wb, 0, none⟩ = some (ptrV sb) ∧ X.cell? ⟨sb, 0, none⟩ = some (.iface T v)) := ⟨(HCF.out X (Below.refl _ X)).1, (HCF.out X (Below.refl _ X)).2.1⟩
    have HCF : Hid (∀ z, Below X.heap.size X z → z.cell? ⟨w.heap.size, 3, none⟩ = some (.slice ao N cap) ∧ z.cell? ⟨b, 3, none⟩ = some (.int .i64 d.params)) := fun z hz => ⟨(HCF.out z hz).2.2.2, cells_at ((hz.block _ (Array.getElem?_eq_some_iff.1 HBO.out).1).trans HBO.out) rfl⟩
    by_cases hcp : (N : Int) = (d.params : Int)
    case neg =>
      refine region_lex (fun z => Below X.heap.size X z) 8 0 rfl (by kernel_rfl) (by kernel_rfl) (by kernel_rfl) (by kernel_rfl) (fun _ _ d _ _ h => by cases d <;> exact h) HD1.out ?_
      simp only [List.take_succ_cons, List.take_zero]
      iterate 8 (first
        | (apply lexC_want
           · rfl
           · exact fun _ => rfl
           · (intro w' hw'; obtain ⟨f1, f2⟩ := HCF.out w' hw'; go_simp; try rfl)
           simp only [Act.put, List.setIfInBounds_toArray, List.set_cons_zero, List.set_cons_succ])
        | (apply lexC_skip
           · rfl
           · exact fun _ => rfl
           simp only [Act.put, List.setIfInBounds_toArray, List.set_cons_zero, List.set_cons_succ]))
      refine lexC_nil ?_
      refine anyC_done (by kernel_rfl) ?_
      obtain ⟨e0, e1⟩ := HC0.out
      gi_wp2
      refine ⟨trivial, ?_⟩
      refine (callsIn_wide.2 HFT.out).mono ?_
      rintro e w2 ⟨rfl, rfl⟩
      exact ⟨rfl, M, HB.out.2.2.1, by rw [HPA.out.2]; simp only; rw [if_pos (by rw [HPA.out.1]; omega)]; rfl⟩
    case pos =>
      refine region_lex (fun z => Below X.heap.size X z) 8 0 rfl (by kernel_rfl) (by kernel_rfl) (by kernel_rfl) (by kernel_rfl) (fun _ _ d _ _ h => by cases d <;> exact h) HD1.out ?_
      simp only [List.take_succ_cons, List.take_zero]
      iterate 8 (first
        | (apply lexC_want
           · rfl
           · exact fun _ => rfl
           · (intro w' hw'; obtain ⟨f1, f2⟩ := HCF.out w' hw'; go_simp; try rfl)
           simp only [Act.put, List.setIfInBounds_toArray, List.set_cons_zero, List.set_cons_succ])
        | (apply lexC_skip
           · rfl
           · exact fun _ => rfl
           simp only [Act.put, List.setIfInBounds_toArray, List.set_cons_zero, List.set_cons_succ]))
      refine lexC_nil ?_
      refine anyC_done (by kernel_rfl) ?_
      gi_wp2
      refine ⟨trivial, ?_⟩
      refine (callsIn_wide.2 HUS.out).mono ?_
      rintro e w2 ⟨rfl, M2, hB2, hf2⟩
      have HE : Hid (BW A M2 bx ch (s.use kb p) p i w2 ∧ Foot M M2 w w2) := ⟨hB2.bw, HB.out.2.2.1.trans hf2⟩
      clear hB2 hf2
      have hpp : ¬ (N ≠ s.paramsOf kb) := by rw [HPA.out.1]; omega
      gi_wp2
      · rename_i he; exact absurd (HPA.out.2.symm.trans he) (by simp)
      · rename_i a1 a2 a3; cases HPA.out.2.symm.trans a3; exact absurd h hpp
      · rename_i a1 a2 a3; cases HPA.out.2.symm.trans a3; go_end0; exact ⟨M2, HE.out.2, rfl, HE.out.1⟩
end Go.Proofs.YtnndgjnihhafbaaGreatDoor

/-
  A binder is put behind those that were met.
-/
namespace Go.Proofs.YtnndgjnihhafbaaGreatDoor
open Go.RowKit Go.Shelf Go.WideMaps
open Bn (Sc Bd St)

/-- One more was met: the row has been appended to, the box is stored. -/
theorem BAt.meet {A : Ad} {M : Nat → Prop} {bx : List Nat} {ch : List (Nat × Nat)} {s : St} {p : List Nat} {i : Nat} {w w2 : World} {pv mv mv' sv : Value} {k : Nat} (h : BAt A M bx ch s p i w pv mv sv) (hkb : k < bx.length) (hown : w2.ownsRow A.n 95 1 mv' (s.met.length + 1) ((s.met.map fun k => ptrV (bx.getD k 0)) ++ [ptrV (bx.getD k 0)])) (hgr : w.grownBy w2 mv.ownBlock) (hat : mv'.ownBlock = mv.ownBlock ∨ mv'.ownBlock = some w.heap.size) :
    BAt A (fun k => M k ∨ mv'.ownBlock = some k) bx ch { s with met := s.met ++ [k] } p i (w2.setCell ⟨A.wb, 3, none⟩ mv') pv mv' sv ∧ Foot M (fun k => M k ∨ mv'.ownBlock = some k) w (w2.setCell ⟨A.wb, 3, none⟩ mv') := by
  have hwl := (Array.getElem?_eq_some_iff.1 h.walk.1).1
  have hneP : mv.ownBlock ≠ some A.wb := fun e => by
    obtain ⟨cs, e2⟩ := owns_ty h.met.1 A.wb e
    exact walk_ne h e2 (by decide) rfl
  have hwk2 := (hgr.block A.wb hwl (fun e => hneP e.symm)).trans h.walk.1
  have g1 := grown_set w2 A.wb 3 mv'
  have hM : ∀ k, k < w.heap.size → ((M k ∨ mv'.ownBlock = some k) ↔ M k) := fun k hl => ⟨fun e => by
    rcases e with e | e
    · exact e
    · rcases hat with e2 | e2
      · exact h.met.2.1 k (e2 ▸ e)
      · rw [e2] at e
        have : w.heap.size = k := by simpa using e
        omega, .inl⟩
  have hk : ∀ k, k < w.heap.size → k ≠ A.wb → mv.ownBlock ≠ some k → (w2.setCell ⟨A.wb, 3, none⟩ mv').heap[k]? = w.heap[k]? := fun k hl n1 n2 => (g1.block k (Nat.lt_of_lt_of_le hl hgr.size) (by simpa using n1)).trans (hgr.block k hl (fun e => n2 e.symm))
  have hkM : ∀ k, k < w.heap.size → ¬ M k → (w2.setCell ⟨A.wb, 3, none⟩ mv').heap[k]? = w.heap[k]? := fun k hl hn => hk k hl (fun e => hn (e ▸ h.walk.2)) (fun e => hn (h.met.2.1 k e))
  have hcell : ∀ (k : Nat) c T, w.heap[k]? = some (.cells c T (0, 0)) → T ≠ 86 → T ≠ 95 → (w2.setCell ⟨A.wb, 3, none⟩ mv').heap[k]? = w.heap[k]? := fun k c T e n1 n2 => hk k (Array.getElem?_eq_some_iff.1 e).1 (walk_ne h e n1) (fun e2 => by
    obtain ⟨cs, e3⟩ := owns_ty h.met.1 k e2
    rw [e] at e3
    injection e3 with e3
    injection e3 with _ e3 _
    exact n2 e3)
  have hmap : ∀ (k : Nat) es cl, w.heap[k]? = some (.map es cl) → (w2.setCell ⟨A.wb, 3, none⟩ mv').heap[k]? = w.heap[k]? := fun k es cl e => hk k (Array.getElem?_eq_some_iff.1 e).1 (fun e2 => by rw [e2, h.walk.1] at e; cases e) (fun e2 => by
    obtain ⟨cs, e3⟩ := owns_ty h.met.1 k e2
    rw [e] at e3; cases e3)
  have hown3 : (w2.setCell ⟨A.wb, 3, none⟩ mv').ownsRow A.n 95 1 mv' (s.met ++ [k]).length ((s.met ++ [k]).map fun k => ptrV (bx.getD k 0)) := by
    rw [List.length_append, List.map_append]
    refine owns_same hown (fun g hg => g1.block g (hown.lt g hg).2 (fun e => ?_))
    have e : g = A.wb := by simpa using e
    obtain ⟨cs, e2⟩ := owns_ty hown g hg
    rw [e, hwk2] at e2
    injection e2 with e2
    injection e2 with _ e2 _
    exact absurd e2 (by decide)
  obtain ⟨sb, c1, c2⟩ := h.chain
  have hsz : w.heap.size ≤ (w2.setCell ⟨A.wb, 3, none⟩ mv').heap.size := Nat.le_trans hgr.size g1.size
  refine ⟨⟨fun k hk' => ?_, Nat.le_trans h.low hsz, ⟨heap_setCell_same w2 A.wb 3 _ _ _ hwk2, .inl h.walk.2⟩, ⟨owns_same h.path.1 (fun g e => by obtain ⟨c, e2⟩ := owns_ty h.path.1 g e; exact hcell g _ _ e2 (by decide) (by decide)), fun g e => .inl (h.path.2 g e)⟩, ⟨hown3, fun g hg => .inr hg, fun j hj => by
    rcases List.mem_append.1 hj with hj | hj
    · exact h.met.2.2 j hj
    · rw [List.mem_singleton] at hj; rw [hj]; exact hkb⟩, ⟨(hcell _ _ _ h.file.1 (by decide) (by decide)).trans h.file.1, fun e => h.file.2 ((hM _ (Array.getElem?_eq_some_iff.1 h.file.1).1).1 e)⟩, ⟨h.fns.1.go (by obtain ⟨es, cl, e⟩ := h.fns.1.obj; exact hmap _ es cl e), .inl h.fns.2⟩, ⟨sb, c1, c2.go hkM (fun x hx => by obtain ⟨es, cl, e⟩ := c2.maps x hx; exact hmap _ es cl e) hM⟩, h.maps, h.bds.go hkM (fun k c e => hcell k _ _ e (by decide) (by decide)) (fun k c e => hcell k _ _ e (by decide) (by decide)) hM⟩, ⟨g1.os.trans hgr.os, g1.tape.trans hgr.tape, g1.output.trans hgr.output, hsz, hkM, fun k' hk' => ?_⟩⟩
  · rcases hk' with e | e
    · exact ⟨(h.lt k e).1, Nat.lt_of_lt_of_le (h.lt k e).2 hsz⟩
    · exact hown3.lt k e
  · rcases hk' with e | e
    · exact .inl e
    · rcases hat with e5 | e5
      · exact .inl (h.met.2.1 k' (e5 ▸ e))
      · rw [e5] at e
        have : w.heap.size = k' := by simpa using e
        exact .inr (by omega)
end Go.Proofs.YtnndgjnihhafbaaGreatDoor

/-
  What look ends with.
-/
namespace Go.Proofs.YtnndgjnihhafbaaGreatDoor
open Go.RowKit Go.Shelf Go.WideMaps
open Bn (Sc Bd St After)

attribute [local go_sem] Oper.semAt_some

/-- What is done at a node ends with. -/
def LookEnd (A : Ad) (look : Tr → List Nat → St → Except Nat (St × After)) (M : Nat → Prop) (bx : List Nat) (ch : List (Nat × Nat)) (s : St) (p : List Nat) (i : Nat) (t : Tr) (w : World) (e : Ending) (w' : World) : Prop := ∃ M' bx', bx <+: bx' ∧ Foot M M' w w' ∧
      match look t p s with
      | .error E => e = pan E i
      | .ok (s1, a) => ∃ fv ch1, e = .returned fv ∧ BW A M' bx' ch1 s1 p i w' ∧ AfterAt A bx' M' a fv ch1 ch w' ∧ ch1.length ≤ ch.length + 1
theorem LookEnd.bad {A : Ad} {look : Tr → List Nat → St → Except Nat (St × After)} {M M' : Nat → Prop} {bx : List Nat} {ch : List (Nat × Nat)} {s : St} {p : List Nat} {i : Nat} {t : Tr} {w w' : World} {E : Nat} {bx' : List Nat} (h : look t p s = .error E) (hp : bx <+: bx') (hf : Foot M M' w w') : LookEnd A look M bx ch s p i t w (pan E i) w' := ⟨M', bx', hp, hf, by rw [h]⟩
theorem LookEnd.good {A : Ad} {look : Tr → List Nat → St → Except Nat (St × After)} {M M' : Nat → Prop} {bx : List Nat} {ch ch1 : List (Nat × Nat)} {s s1 : St} {p : List Nat} {i : Nat} {t : Tr} {w w' : World} {a : After} {fv : Value} {bx' : List Nat} (h : look t p s = .ok (s1, a)) (hp : bx <+: bx') (hf : Foot M M' w w') (hB : BW A M' bx' ch1 s1 p i w') (hA : AfterAt A bx' M' a fv ch1 ch w') (hl : ch1.length ≤ ch.length + 1) : LookEnd A look M bx ch s p i t w (.returned fv) w' := ⟨M', bx', hp, hf, by rw [h]; exact ⟨fv, ch1, rfl, hB, hA, hl⟩⟩
theorem AfterAt.out_len {A : Ad} {bx : List Nat} {M : Nat → Prop} {fv : Value} {ch1 ch : List (Nat × Nat)} {w : World} (h : AfterAt A bx M .out fv ch1 ch w) : ch1.length = ch.length + 1 := by
  obtain ⟨c1, c2, x, y, r, -, -, -, -, -, rfl, rfl⟩ := h
  simp

end Go.Proofs.YtnndgjnihhafbaaGreatDoor

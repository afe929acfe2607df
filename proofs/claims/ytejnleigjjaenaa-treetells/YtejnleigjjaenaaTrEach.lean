/-
  The walks of through and each: rows of nodes are gone through by a closure that calls itself; beyond 40 they wait.
-/
import Derived.Test.YtejnleigjjaenaaTrBase
import Derived.Sort.LoopGhostIn
namespace Go.Proofs.Ytejnleigjjaenaa
open Go.RowKit Go.Shelf

attribute [local go_sem] Oper.semAt_some

/-- The types of what through makes. -/
def thrT : List TypeId := [3, 23, 83, 74, 75, 51]
/-- What through leaves alone: all that lay below n, and all of other types. -/
structure KeepO (n : Nat) (w w' : World) : Prop where
  os : w'.os = w.os
  tape : w'.tape = w.tape
  output : w'.output = w.output
  size : w.heap.size ≤ w'.heap.size
  old : ∀ b, b < n → w'.heap[b]? = w.heap[b]?
  other : ∀ (b : Nat) (c : Array Value) (t : TypeId) (fr : Nat × Nat), w.heap[b]? = some (.cells c t fr) → t ∉ thrT → w'.heap[b]? = some (.cells c t fr)
/-- What is done at each node leaves alone: what through has made. -/
structure KeepD (n : Nat) (w w' : World) : Prop where
  size : w.heap.size ≤ w'.heap.size
  own : ∀ (b : Nat) (c : Array Value) (t : TypeId) (fr : Nat × Nat), n ≤ b → w.heap[b]? = some (.cells c t fr) → t ∈ thrT → w'.heap[b]? = some (.cells c t fr)

theorem KeepO.refl (n : Nat) (w : World) : KeepO n w w := ⟨rfl, rfl, rfl, Nat.le_refl _, fun _ _ => rfl, fun _ _ _ _ h _ => h⟩
theorem KeepO.trans {n : Nat} {a b c : World} (h : KeepO n a b) (k : KeepO n b c) : KeepO n a c :=
  ⟨k.os.trans h.os, k.tape.trans h.tape, k.output.trans h.output, Nat.le_trans h.size k.size, fun i hi => (k.old i hi).trans (h.old i hi), fun i x t fr hi ht => k.other i x t fr (h.other i x t fr hi ht) ht⟩
theorem KeepO.of_below {n : Nat} {w w' : World} (h : Below w.heap.size w w') (hn : n ≤ w.heap.size) : KeepO n w w' :=
  ⟨h.os, h.tape, h.output, h.size, fun b hb => h.block b (by omega), fun b c t fr hb _ => (h.block b (Array.getElem?_eq_some_iff.1 hb).1).trans hb⟩
theorem KeepO.of_set {n b : Nat} {w : World} {c : Array Value} {t : TypeId} {fr : Nat × Nat} (hb : w.heap[b]? = some (.cells c t fr)) (ht : t ∈ thrT) (hn : n ≤ b) (i : Nat) (u : Value) : KeepO n w (w.setCell ⟨b, i, none⟩ u) := by
  have hg := grown_set w b i u
  have hlt := (Array.getElem?_eq_some_iff.1 hb).1
  refine ⟨hg.os, hg.tape, hg.output, hg.size, fun k hk => hg.block k (by omega) (fun e => by cases e; omega), fun k x t' fr' hk ht' => ?_⟩
  by_cases e : k = b
  · subst e; rw [hb] at hk; cases hk; exact absurd ht ht'
  · exact (hg.block k (Array.getElem?_eq_some_iff.1 hk).1 (fun e' => e (by cases e'; rfl))).trans hk
theorem KeepO.of_grown {n k : Nat} {w w' : World} {v : Value} {xs : List Value} (hrow : w.ownsRow n 23 1 v k xs) (hg : w.grownBy w' v.ownBlock) (hn : n ≤ w.heap.size) : KeepO n w w' := by
  refine ⟨hg.os, hg.tape, hg.output, hg.size, fun b hb => hg.block b (by omega) (fun e => ?_), fun b c t fr hb ht => (hg.block b (Array.getElem?_eq_some_iff.1 hb).1 (fun e => ?_)).trans hb⟩
  · rcases hrow.2 with ⟨rfl, _⟩ | ⟨g, cap, cur, rfl, h1, _⟩
    · cases e
    · cases e; exact absurd h1 (Nat.not_le_of_gt hb)
  · rcases hrow.2 with ⟨rfl, _⟩ | ⟨g, cap, cur, rfl, h1, h2, _⟩
    · cases e
    · cases e; rw [hb] at h2; cases h2; exact ht (by decide)

/-- A row that waits to be gone through, from a place on. -/
structure Job where
  v : Value
  i : Nat
  ts : List Tr
def mu : List Job → Nat
  | [] => 0
  | j :: r => Tr.sizes j.ts + 1 + mu r
theorem mu_append (a b : List Job) : mu (a ++ b) = mu a + mu b := by
  induction a with
  | nil => simp [mu]
  | cons x r ih => simp [mu, ih]; omega
theorem mu_len (a : List Job) : a.length ≤ mu a := by
  induction a with
  | nil => simp [mu]
  | cons x r ih => simp [mu]; omega

/-- What is done at each node, by the function g with what it holds: Inv tells what is still to be done. -/
structure Doing (n g : Nat) (lb : Array Value) (Inv : List Job → World → Prop) : Prop where
  perm : ∀ {P P' : List Job} {w : World}, P.Perm P' → Inv P w → Inv P' w
  stab : ∀ {P : List Job} {w w' : World}, Inv P w → KeepO n w w' → Inv P w'
  nil : ∀ {v : Value} {i : Nat} {P : List Job} {w : World}, Inv (⟨v, i, []⟩ :: P) w → Inv P w
  read : ∀ {v : Value} {i : Nat} {ts : List Tr} {P : List Job} {w : World}, Inv (⟨v, i, ts⟩ :: P) w → ∃ ao cap, v = .slice ao (i + ts.length) cap ∧ i + ts.length ≤ 1000000000000000 ∧ (0 < ts.length → ∃ b off, ao = some ⟨b, off, none⟩)
  step : ∀ {b off m cap i : Nat} {t : Tr} {ts : List Tr} {P : List Job} {w : World}, Inv (⟨.slice (some ⟨b, off, none⟩) m cap, i, t :: ts⟩ :: P) w →
    Calls Try.prog g (#[.pointer (some ⟨b, off + i * 4, none⟩)] ++ lb) w fun e w' => e = .returned (.tuple #[]) ∧ KeepD n w w' ∧ ∃ v', w'.cell? ⟨b, off + i * 4 + 3, none⟩ = some v' ∧ Inv (⟨v', 0, t.kids⟩ :: ⟨.slice (some ⟨b, off, none⟩) m cap, i + 1, ts⟩ :: P) w'

/-- What through has made: d open calls, the rows W that wait. -/
structure TW (n c0 b0 b2 b3 b4 g : Nat) (lb : Array Value) (d : Nat) (W : List Value) (w : World) : Prop where
  n0 : n ≤ c0 ∧ n ≤ b0 ∧ n ≤ b2 ∧ n ≤ b3 ∧ n ≤ b4
  doB : w.heap[c0]? = some (.cells #[.func (.func g) #[] lb] 51 (0, 0))
  vis : w.heap[b0]? = some (.cells #[.func (.func 53) #[] #[.pointer (some ⟨c0, 0, none⟩)]] 75 (0, 0))
  dwn : w.heap[b4]? = some (.cells #[.func (.func 67) #[] #[.pointer (some ⟨b3, 0, none⟩), .pointer (some ⟨b2, 0, none⟩), .pointer (some ⟨b0, 0, none⟩), .pointer (some ⟨b4, 0, none⟩)]] 74 (0, 0))
  deep : w.heap[b3]? = some (.cells #[.int .i64 d] 3 (0, 0))
  wait : ∃ v, w.heap[b2]? = some (.cells #[v] 83 (0, 0)) ∧ w.ownsRow n 23 1 v W.length W

theorem TW.keep {n c0 b0 b2 b3 b4 g : Nat} {lb : Array Value} {d : Nat} {W : List Value} {w w' : World} (h : TW n c0 b0 b2 b3 b4 g lb d W w) (k : KeepD n w w') : TW n c0 b0 b2 b3 b4 g lb d W w' := by
  obtain ⟨⟨n1, n2, n3, n4, n5⟩, h1, h2, h3, h4, v, h5, h6, h7⟩ := h
  refine ⟨⟨n1, n2, n3, n4, n5⟩, k.own _ _ _ _ n1 h1 (by decide), k.own _ _ _ _ n2 h2 (by decide), k.own _ _ _ _ n5 h3 (by decide), k.own _ _ _ _ n4 h4 (by decide), v, k.own _ _ _ _ n3 h5 (by decide), h6, ?_⟩
  rcases h7 with h7 | ⟨gg, cap, cur, e1, e2, e3, e4⟩
  · exact .inl h7
  · exact .inr ⟨gg, cap, cur, e1, e2, k.own _ _ _ _ e2 e3 (by decide), e4⟩

/-- A call of the closure that calls itself. -/
def DownAt (n c0 b0 b2 b3 b4 g : Nat) (lb : Array Value) (Inv : List Job → World → Prop) (ts : List Tr) : Prop :=
  ∀ (d : Nat) (W : List Value) (P : List Job) (v : Value) (w : World), d ≤ 40 → W.length + Tr.sizes ts ≤ 1000000 → TW n c0 b0 b2 b3 b4 g lb d W w → Inv (⟨v, 0, ts⟩ :: P) w →
    Calls Try.prog 67 #[v, .pointer (some ⟨b3, 0, none⟩), .pointer (some ⟨b2, 0, none⟩), .pointer (some ⟨b0, 0, none⟩), .pointer (some ⟨b4, 0, none⟩)] w fun e w' => e = .returned (.tuple #[]) ∧
      ∃ Q : List Job, TW n c0 b0 b2 b3 b4 g lb d (W ++ Q.map Job.v) w' ∧ Inv (Q ++ P) w' ∧ (∀ j ∈ Q, j.i = 0) ∧ mu Q ≤ (if d = 40 then Tr.sizes ts + 1 else Tr.sizes ts)

set_option maxRecDepth 100000 in
set_option maxHeartbeats 4000000 in
theorem visit_any {n c0 b0 b2 b3 b4 g : Nat} {lb : Array Value} {Inv : List Job → World → Prop} (D : Doing n g lb Inv) (ts : List Tr) (down : ∀ ts' : List Tr, Tr.sizes ts' < Tr.sizes ts → DownAt n c0 b0 b2 b3 b4 g lb Inv ts')
    (d : Nat) (W : List Value) (P : List Job) (v : Value) (w : World) (hd : d < 40) (hW : W.length + Tr.sizes ts ≤ 1000000) (htw : TW n c0 b0 b2 b3 b4 g lb (d + 1) W w) (hi : Inv (⟨v, 0, ts⟩ :: P) w) (hgg : ∀ args w, (callFunc g args).run Try.prog w = .ok (.enter g args) w) :
    Calls Try.prog 53 #[v, .func (.func 67) #[] #[.pointer (some ⟨b3, 0, none⟩), .pointer (some ⟨b2, 0, none⟩), .pointer (some ⟨b0, 0, none⟩), .pointer (some ⟨b4, 0, none⟩)], .pointer (some ⟨c0, 0, none⟩)] w fun e w' => e = .returned (.tuple #[]) ∧
      ∃ Q : List Job, TW n c0 b0 b2 b3 b4 g lb (d + 1) (W ++ Q.map Job.v) w' ∧ Inv (Q ++ P) w' ∧ (∀ j ∈ Q, j.i = 0) ∧ mu Q ≤ Tr.sizes ts := by
  obtain ⟨ao, cap, rfl, hlen, hao⟩ := D.read hi
  rw [Nat.zero_add] at hi hlen ⊢
  have HST : Hid (∃ Q : List Job, TW n c0 b0 b2 b3 b4 g lb (d + 1) (W ++ Q.map Job.v) w ∧ Inv (⟨.slice ao ts.length cap, 0, ts.drop 0⟩ :: (Q ++ P)) w ∧ (∀ j ∈ Q, j.i = 0) ∧ mu Q ≤ Tr.sizes (ts.take 0)) := ⟨[], by simpa using htw, by simpa using hi, by simp, by simp [mu]⟩
  have HDN : Hid (_) := down
  have HG : Hid (_) := hgg
  obtain ⟨N, hN⟩ : ∃ N, N = ts.length := ⟨_, rfl⟩
  have HN : Hid (N = ts.length) := hN
  rw [← hN] at HST hlen hao ⊢
  clear down htw hi hgg hN
  refine (callsIn_wide (n := 3)).1 ?_
  refine callsIn_of_wp Try.func53 rfl trivial ?_ rfl
  simp only [Try.ntmps53, List.size_toArray, List.length_cons, List.length_nil, Nat.reduceAdd, Nat.reduceSub, Array.replicate_succ, Array.replicate_zero, List.push_toArray, List.append_toArray, List.nil_append, List.cons_append]
  gi_wp2
  gi_loopw [8] (fun i wr => ∃ k : Nat, k ≤ N ∧ i = .int .i64 k ∧ ∃ Q : List Job, TW n c0 b0 b2 b3 b4 g lb (d + 1) (W ++ Q.map Job.v) wr ∧ Inv (⟨.slice ao N cap, k, ts.drop k⟩ :: (Q ++ P)) wr ∧ (∀ j ∈ Q, j.i = 0) ∧ mu Q ≤ Tr.sizes (ts.take k)) (fun i _ => N - (intOf i).toNat)
  case atStart => exact ⟨0, Nat.zero_le _, rfl, HST.out⟩
  case round =>
    clear HST
    obtain ⟨k, hk, rfl, Q, htw, hi, hq0, hmu⟩ := hrel
    by_cases hlt : k < N
    · obtain ⟨b, off, rfl⟩ := hao (by omega)
      clear hao
      obtain ⟨t, htk⟩ : ∃ t, ts[k]? = some t := ⟨ts[k]'(by have := HN.out; omega), List.getElem?_eq_getElem _⟩
      have edrop : ts.drop k = t :: ts.drop (k + 1) := by
        have hk' : k < ts.length := by have := HN.out; omega
        rw [List.drop_eq_getElem_cons hk']
        rw [List.getElem?_eq_getElem hk'] at htk
        cases htk; rfl
      have etake : Tr.sizes (ts.take (k + 1)) = Tr.sizes (ts.take k) + Tr.size t := by
        rw [List.take_add_one, htk, Tr.sizes_append]; simp [Tr.sizes_cons, Tr.sizes_nil]
      have eall : Tr.sizes (ts.take k) + Tr.sizes (ts.drop k) = Tr.sizes ts := by rw [← Tr.sizes_append, List.take_append_drop]
      have esz : Tr.size t = 1 + Tr.sizes t.kids := Tr.size_eq t
      rw [edrop, Tr.sizes_cons] at eall
      rw [edrop] at hi
      have hcD : wr.cell? ⟨c0, 0, none⟩ = some (.func (.func g) #[] lb) := by rw [Lib.cell_of_heap htw.doB]; rfl
      have hcD1 : wr.drew.cell? ⟨c0, 0, none⟩ = some (.func (.func g) #[] lb) := hcD
      have HM : Hid (Tr.sizes (ts.take (k + 1)) = Tr.sizes (ts.take k) + Tr.size t ∧ Tr.sizes (ts.take k) + (t.size + Tr.sizes (ts.drop (k + 1))) = Tr.sizes ts ∧ Tr.size t = 1 + Tr.sizes t.kids ∧ mu Q ≤ Tr.sizes (ts.take k)) := ⟨etake, eall, esz, hmu⟩
      have HT : Hid (_) := htw
      have HI : Hid (_) := hi
      have HW : Hid (_) := hW
      clear etake eall esz hmu htw hi hW edrop htk
      gi_wp2
      refine region_lex (fun z => z.cell? ⟨c0, 0, none⟩ = some (.func (.func g) #[] lb)) 4 1 rfl (by kernel_rfl) (by kernel_rfl) (by kernel_rfl) (by kernel_rfl) (fun _ _ d _ _ h => by cases d <;> exact h) hcD1 ?_
      simp only [List.take_succ_cons, List.take_zero]
      iterate 4 (first
        | (apply lexC_want
           · rfl
           · exact fun _ => rfl
           · (intro w' hw'; go_simp; try rfl)
           simp only [Act.put, List.setIfInBounds_toArray, List.set_cons_zero, List.set_cons_succ]))
      refine lexC_nil ?_
      refine anyC_one (i := 4) (by kernel_rfl) rfl (by rfl) (fun K1 hK1 => ?_)
      go_simp
      refine ⟨trivial, ?_⟩
      rw [HG.out]
      simp only [Oper.uponIn]
      refine ⟨by omega, ?_⟩
      refine (callsIn_wide.2 (D.step (D.stab HI.out (KeepO.of_below (below_draw wr 1) (by have := HT.out.n0; have := (Array.getElem?_eq_some_iff.1 HT.out.doB).1; omega))))).mono ?_
      rintro e w1 ⟨rfl, kd, v', hv', hi1⟩
      have kd1 : KeepD n wr w1 := ⟨kd.size, kd.own⟩
      have HT1 : Hid (_) := HT.out.keep kd1
      have hcD2 : w1.cell? ⟨c0, 0, none⟩ = some (.func (.func g) #[] lb) := by rw [Lib.cell_of_heap HT1.out.doB]; rfl
      have HI1 : Hid (_) := hi1
      clear hi1 kd kd1 HT HI hcD hcD1
      refine hK1 _ _ hcD2 ?_
      clear hK1
      refine anyC_done (by kernel_rfl) ?_
      have hm9 := HM.out
      have hw9 := HW.out
      have hl9 : (W ++ Q.map Job.v).length + Tr.sizes t.kids ≤ 1000000 := by
        have := mu_len Q
        rw [List.length_append, List.length_map]; omega
      have hlt9 : Tr.sizes t.kids < Tr.sizes ts := by omega
      have HL9 : Hid (_) := hl9
      have HLT : Hid (_) := hlt9
      clear hl9 hlt9 hm9 hw9
      gi_wp2
      refine ⟨trivial, ?_⟩
      refine (callsIn_wide.2 (HDN.out t.kids HLT.out (d + 1) _ _ v' w1 (by omega) HL9.out HT1.out HI1.out)).mono ?_
      rintro e w2 ⟨rfl, Q1, htw2, hi2, hq1, hmu2⟩
      have HFIN : Hid (∃ Q : List Job, TW n c0 b0 b2 b3 b4 g lb (d + 1) (W ++ Q.map Job.v) w2 ∧ Inv (⟨.slice (some ⟨b, off, none⟩) N cap, k + 1, ts.drop (k + 1)⟩ :: (Q ++ P)) w2 ∧ (∀ j ∈ Q, j.i = 0) ∧ mu Q ≤ Tr.sizes (ts.take (k + 1))) := by
        refine ⟨Q ++ Q1, by rw [List.map_append, ← List.append_assoc]; exact htw2, D.perm ?_ hi2, fun j hj => ?_, ?_⟩
        · refine List.perm_middle.trans (List.Perm.cons _ ?_)
          rw [← List.append_assoc]
          exact List.Perm.append_right _ List.perm_append_comm
        · rcases List.mem_append.1 hj with hj | hj
          · exact hq0 j hj
          · exact hq1 j hj
        · have hm9 := HM.out
          rw [mu_append]
          split at hmu2 <;> omega
      clear htw2 hi2 hmu2 HT1 HI1 HM
      gi_wp2
      refine ⟨⟨k + 1, by omega, by simp, HFIN.out⟩, by simp [intOf]; omega⟩
    · have hkN : k = N := by omega
      subst hkN
      gi_wp2
      go_end0
      refine ⟨rfl, Q, htw, ?_, hq0, ?_⟩
      · have e0 : ts.drop k = [] := by rw [HN.out, List.drop_length]
        rw [e0] at hi
        exact D.nil hi
      · rw [HN.out, List.take_length] at hmu
        exact hmu

theorem info_rows : (Try.prog.info? 23).map (fun i => (i.zero, i.size, i.bytes)) = some (some (.slice none 0 0), 1, 24) := by kernel_rfl
theorem heap_set_ne {w : World} {b b' : Nat} {c c' : Array Value} {t t' : TypeId} {fr fr' : Nat × Nat} (h : w.heap[b]? = some (.cells c t fr)) (h' : w.heap[b']? = some (.cells c' t' fr')) (ht : t ≠ t') (i : Nat) (u : Value) : (w.setCell ⟨b', i, none⟩ u).heap[b]? = some (.cells c t fr) := by
  refine ((grown_set w b' i u).block b (Array.getElem?_eq_some_iff.1 h).1 (fun e => ?_)).trans h
  have e' : b = b' := by cases e; rfl
  subst e'
  rw [h] at h'
  cases h'
  exact ht rfl

theorem TW.setDeep {n c0 b0 b2 b3 b4 g : Nat} {lb : Array Value} {d : Nat} {W : List Value} {w : World} (h : TW n c0 b0 b2 b3 b4 g lb d W w) (d' : Nat) : TW n c0 b0 b2 b3 b4 g lb d' W (w.setCell ⟨b3, 0, none⟩ (.int .i64 d')) := by
  obtain ⟨hn, h1, h2, h3, h4, v, h5, h6⟩ := h
  exact ⟨hn, heap_set_ne h1 h4 (by decide) _ _, heap_set_ne h2 h4 (by decide) _ _, heap_set_ne h3 h4 (by decide) _ _, heap_setCell_same w b3 0 _ 3 _ h4, v, heap_set_ne h5 h4 (by decide) _ _, owns_set h6 h4 (by decide) _ _⟩
theorem TW.nw {n c0 b0 b2 b3 b4 g : Nat} {lb : Array Value} {d : Nat} {W : List Value} {w : World} (h : TW n c0 b0 b2 b3 b4 g lb d W w) : n ≤ w.heap.size := by
  have := h.n0
  have := (Array.getElem?_eq_some_iff.1 h.doB).1
  omega
theorem TW.setWait {n c0 b0 b2 b3 b4 g : Nat} {lb : Array Value} {d : Nat} {W W2 : List Value} {w : World} (h : TW n c0 b0 b2 b3 b4 g lb d W w) {v : Value} (hv : w.ownsRow n 23 1 v W2.length W2) : TW n c0 b0 b2 b3 b4 g lb d W2 (w.setCell ⟨b2, 0, none⟩ v) := by
  obtain ⟨hn, h1, h2, h3, h4, v0, h5, h6⟩ := h
  exact ⟨hn, heap_set_ne h1 h5 (by decide) _ _, heap_set_ne h2 h5 (by decide) _ _, heap_set_ne h3 h5 (by decide) _ _, heap_set_ne h4 h5 (by decide) _ _, v, heap_setCell_same w b2 0 _ _ _ h5, owns_set hv h5 (by decide) _ _⟩

set_option maxRecDepth 100000 in
set_option maxHeartbeats 4000000 in
theorem down_any {n c0 b0 b2 b3 b4 g : Nat} {lb : Array Value} {Inv : List Job → World → Prop} (D : Doing n g lb Inv) (hgg : ∀ args w, (callFunc g args).run Try.prog w = .ok (.enter g args) w) (N : Nat) :
    ∀ ts : List Tr, Tr.sizes ts ≤ N → DownAt n c0 b0 b2 b3 b4 g lb Inv ts := by
  induction N using Nat.strongRecOn with
  | _ N ih =>
  intro ts hts d W P v w hd hW htw hi
  have HV : Hid (_) := visit_any D ts (fun ts' h => ih (Tr.sizes ts') (by omega) ts' (Nat.le_refl _))
  clear ih
  have hnw : n ≤ w.heap.size := htw.nw
  have cD : w.cell? ⟨b3, 0, none⟩ = some (.int .i64 d) := by rw [Lib.cell_of_heap htw.deep]; rfl
  have fD : w.frozen? ⟨b3, 0, none⟩ = false := frozen_of_row w b3 0 _ _ htw.deep
  obtain ⟨ao, cap, rfl, hlen, -⟩ := D.read hi
  obtain ⟨L, hL⟩ : ∃ L, L = 0 + ts.length := ⟨_, rfl⟩
  rw [← hL] at hi ⊢
  clear hL hlen
  have HT : Hid (_) := htw
  have HI : Hid (_) := hi
  have HW : Hid (_) := hW
  clear hi hW
  refine (callsIn_wide (n := 3)).1 ?_
  refine callsIn_of_wp Try.func67 rfl trivial ?_ rfl
  simp only [Try.ntmps67, List.size_toArray, List.length_cons, List.length_nil, Nat.reduceAdd, Nat.reduceSub, Array.replicate_succ, Array.replicate_zero, List.push_toArray, List.append_toArray, List.nil_append, List.cons_append]
  by_cases h40 : d = 40
  · subst h40
    obtain ⟨wv, hb2, hown⟩ := htw.wait
    obtain ⟨at7, c7, rfl⟩ := slice_shape hown
    have cW : w.cell? ⟨b2, 0, none⟩ = some (.slice at7 W.length c7) := by rw [Lib.cell_of_heap hb2]; rfl
    obtain ⟨i0, hi0, hz0, hz1, hz2⟩ := info_parts info_rows
    have bX : Below w.heap.size w (w.alloc (.cells #[.slice ao L cap] 23)) := below_new w _
    obtain ⟨v', W', hrun, hown', hgr, -⟩ := run_append_own (P := Try.prog) (w.alloc (.cells #[.slice ao L cap] 23)) n 83 83 23 i0 (.slice none 0 0) 1 24 Try.underlying83 hi0 hz0 hz1 hz2 rfl (by decide) (.slice at7 W.length c7) _ _ (owns_below hown bX) ⟨w.heap.size, 0, none⟩ 1 1 [.slice ao L cap] rfl (cell_one_new _ _ _) (by simp [Value.oneCell']) (by have := HW.out; unfold maxLen; omega) (by have := HW.out; omega) (by have := bX.size; omega)
    obtain ⟨gv, cv, rfl⟩ := ownsRow_succ hown'
    have kX : KeepO n w (w.alloc (.cells #[.slice ao L cap] 23)) := KeepO.of_below bX hnw
    have kW : KeepO n w W' := kX.trans (KeepO.of_grown (owns_below hown bX) hgr (by have := bX.size; omega))
    have tW : TW n c0 b0 b2 b3 b4 g lb 40 (W ++ [.slice ao L cap]) (W'.setCell ⟨b2, 0, none⟩ (.slice (some ⟨gv, 0, none⟩) (W.length + 1) cv)) := by
      obtain ⟨hn, h1, h2, h3, h4, v0, h5, h6⟩ := htw
      have up : ∀ {b : Nat} {c : Array Value} {t : TypeId}, w.heap[b]? = some (.cells c t (0, 0)) → t ≠ 23 → W'.heap[b]? = some (.cells c t (0, 0)) := fun h ht => heap_grown (owns_below hown bX) hgr ((bX.block _ (Array.getElem?_eq_some_iff.1 h).1).trans h) ht
      have t9 : TW n c0 b0 b2 b3 b4 g lb 40 (W ++ [.slice ao L cap]) (W'.setCell ⟨b2, 0, none⟩ (.slice (some ⟨gv, 0, none⟩) (W.length + 1) cv)) := by
        refine ⟨hn, heap_set_ne (up h1 (by decide)) (up h5 (by decide)) (by decide) _ _, heap_set_ne (up h2 (by decide)) (up h5 (by decide)) (by decide) _ _, heap_set_ne (up h3 (by decide)) (up h5 (by decide)) (by decide) _ _, heap_set_ne (up h4 (by decide)) (up h5 (by decide)) (by decide) _ _, _, heap_setCell_same W' b2 0 _ _ _ (up h5 (by decide)), ?_⟩
        have := owns_set hown' (up h5 (by decide)) (by decide) 0 (.slice (some ⟨gv, 0, none⟩) (W.length + 1) cv)
        rw [List.length_append]
        exact this
      exact t9
    have hb2' : W'.heap[b2]? = some (.cells #[.slice at7 W.length c7] 83 (0, 0)) := heap_grown (owns_below hown bX) hgr ((bX.block _ (Array.getElem?_eq_some_iff.1 hb2).1).trans hb2) (by decide)
    have cW' : W'.cell? ⟨b2, 0, none⟩ = some (.slice at7 W.length c7) := by rw [Lib.cell_of_heap hb2']; rfl
    have fW' : W'.frozen? ⟨b2, 0, none⟩ = false := frozen_of_row W' b2 0 _ _ hb2'
    have iW : Inv ([⟨.slice ao L cap, 0, ts⟩] ++ P) (W'.setCell ⟨b2, 0, none⟩ (.slice (some ⟨gv, 0, none⟩) (W.length + 1) cv)) := D.stab HI.out (kW.trans (KeepO.of_set hb2' (by decide) htw.n0.2.2.1 0 _))
    have HF : Hid (_) := And.intro tW iW
    obtain ⟨M, hM⟩ : ∃ M, M = W.length := ⟨_, rfl⟩
    rw [← hM] at cW hrun HF cW'
    clear hM tW iW kX kW hown' hgr bX hb2' hb2 hown hi0 hz0 hz1 hz2 HT htw
    gi_wp2_with (gi_at_builtin; refine list_append rfl _ _ 83 rfl (.slice at7 M c7) (.slice (some ⟨w.heap.size, 0, none⟩) 1 1) _ _ rfl rfl hrun ?_)
    refine bodyPost_ret (results_none rfl _ _ _) rfl ?_
    refine ⟨rfl, [⟨.slice ao L cap, 0, ts⟩], HF.out.1, HF.out.2, by simp, by simp [mu]⟩
  · have hd40 : ((d : Int) == 40) = false := by simp; omega
    have hd40' : decide ((d : Int) = 40) = false := by simp; omega
    have kS : KeepO n w (w.setCell ⟨b3, 0, none⟩ (.int .i64 ((d + 1 : Nat) : Int))) := KeepO.of_set htw.deep (by decide) htw.n0.2.2.2.1 0 _
    have tS : TW n c0 b0 b2 b3 b4 g lb (d + 1) W (w.setCell ⟨b3, 0, none⟩ (.int .i64 ((d + 1 : Nat) : Int))) := htw.setDeep (d + 1)
    have HC : Hid (_) := HV.out d W P _ _ (by omega) HW.out tS (D.stab HI.out kS) hgg
    have cV : (w.setCell ⟨b3, 0, none⟩ (.int .i64 ((d + 1 : Nat) : Int))).cell? ⟨b0, 0, none⟩ = some (.func (.func 53) #[] #[.pointer (some ⟨c0, 0, none⟩)]) := by rw [Lib.cell_of_heap tS.vis]; rfl
    have cN : (w.setCell ⟨b3, 0, none⟩ (.int .i64 ((d + 1 : Nat) : Int))).cell? ⟨b4, 0, none⟩ = some (.func (.func 67) #[] #[.pointer (some ⟨b3, 0, none⟩), .pointer (some ⟨b2, 0, none⟩), .pointer (some ⟨b0, 0, none⟩), .pointer (some ⟨b4, 0, none⟩)]) := by rw [Lib.cell_of_heap tS.dwn]; rfl
    have ed : ((d + 1 : Nat) : Int) = (d : Int) + 1 := by simp
    rw [ed] at HC cV cN
    clear HV kS tS hgg htw HI ed
    gi_wp2
    refine ⟨trivial, ?_⟩
    refine (callsIn_wide.2 HC.out).mono ?_
    rintro e w1 ⟨rfl, Q, tw1, hi1, hq, hmu⟩
    have cD1 : w1.cell? ⟨b3, 0, none⟩ = some (.int .i64 ((d : Int) + 1)) := by
      rw [Lib.cell_of_heap tw1.deep]; simp
    have fD1 : w1.frozen? ⟨b3, 0, none⟩ = false := frozen_of_row w1 b3 0 _ _ tw1.deep
    have HF : Hid (TW n c0 b0 b2 b3 b4 g lb d (W ++ Q.map Job.v) (w1.setCell ⟨b3, 0, none⟩ (.int .i64 d)) ∧ Inv (Q ++ P) (w1.setCell ⟨b3, 0, none⟩ (.int .i64 d))) := ⟨tw1.setDeep d, D.stab hi1 (KeepO.of_set tw1.deep (by decide) tw1.n0.2.2.2.1 0 _)⟩
    clear tw1 hi1 HC
    gi_wp2
    go_end0
    refine ⟨rfl, Q, HF.out.1, HF.out.2, hq, ?_⟩
    exact hmu

end Go.Proofs.Ytejnleigjjaenaa

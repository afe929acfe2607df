/-
  The walk of clerestorykit.flatHunks: rows of hunks that lie apart.
-/
import Derived.Test.YtkiafelpgcmifaaMarkHunks
namespace Go.Proofs.Ytkiafelpgcmifaa
open Go.RowKit Go.Shelf

attribute [local go_sem] Oper.semAt_some

set_option maxRecDepth 100000 in
set_option maxHeartbeats 8000000 in
theorem flatHunks_some (R : List (Value × Nat)) (T capT B : Nat) (w : World) (hls : w.ownsRow B 23 1 (.slice (some ⟨T, 0, none⟩) R.length capT) R.length (R.map Prod.fst)) (hA : Apart R) (hO : Own 40 3 B R w (fun _ _ => True)) (hB : B ≤ w.heap.size) (hR : R.length ≤ 100000) (hN : ∀ p ∈ R, p.2 ≤ 1000000) :
    Calls Try.prog 53 #[.slice (some ⟨T, 0, none⟩) R.length capT] w fun e w' => e = .returned (.bool true) ∧ KeepT 40 B w w' := by
  have HLS : Hid (∀ (W : World) (j : Nat) (p : Value × Nat), KeepT 40 B w W → R[j]? = some p → W.cell? ⟨T, j, none⟩ = some p.1) := fun W j p hk hp => by
    have h := (hk.owns hls (by decide)).cellAt j (by have := (List.getElem?_eq_some_iff.1 hp).1; simpa using this)
    rw [h, List.getElem?_map, hp]; rfl
  have HOL : Hid (∀ (j : Nat) (p : Value × Nat) (b : Nat), R[j]? = some p → p.1.ownBlock = some b → b < w.heap.size) := fun j p b hp hb => by
    obtain ⟨xs, h1, -⟩ := hO j p hp
    exact (h1.lt b hb).2
  clear hls
  obtain ⟨i0, gi, gz0, gz1, gz2⟩ := info_parts info40s
  refine (callsIn_wide (n := 3)).1 ?_
  refine callsIn_of_wp Try.func53 rfl trivial ?_ rfl
  simp only [Try.ntmps53, List.size_toArray, List.length_cons, List.length_nil, Nat.reduceAdd, Nat.reduceSub, Array.replicate_succ, Array.replicate_zero, List.push_toArray, List.append_toArray, List.nil_append, List.cons_append]
  gi_wp2
  gi_loopw [3] (fun v wr => ∃ k : Nat, k ≤ R.length ∧ v = .int .i64 k ∧ Own 40 3 B R wr (fun j xs => j < k → xs = mks mcH j (xs.length / 3)) ∧ KeepT 40 B w wr) (fun v _ => R.length - (intOf v).toNat)
  case atStart => exact ⟨0, by omega, rfl, hO.mono (fun j p xs _ _ _ h => absurd h (by omega)), KeepT.refl _ _ _⟩
  case round =>
    obtain ⟨k, hk, rfl, hown, hkt⟩ := hrel
    by_cases hlt : k < R.length
    · obtain ⟨p, hp⟩ : ∃ p, R[k]? = some p := ⟨R[k], List.getElem?_eq_getElem hlt⟩
      have hNp := hN p (List.mem_of_getElem? hp)
      obtain ⟨vk, nk⟩ := p
      simp only at hNp
      have hsh : ∃ ak ck, vk = .slice ak nk ck := by
        obtain ⟨xs, h1, -⟩ := hown k _ hp
        exact slice_shape h1
      obtain ⟨ak, ck, rfl⟩ := hsh
      have HP : Hid (R[k]? = some (.slice ak nk ck, nk)) := hp
      have HO : Hid (Own 40 3 B R wr (fun j xs => (j < k → xs = mks mcH j (xs.length / 3)) ∧ (j = k → xs.take (0 * 3) = mks mcH k 0))) := hown.mono (fun j p xs _ _ h => ⟨h, fun _ => rfl⟩)
      have HA : Hid (Apart R) := hA
      have HN : Hid (∀ p ∈ R, p.2 ≤ 1000000) := hN
      have HK : Hid (KeepT 40 B w wr) := hkt
      clear hp hown hkt
      gi_wp2
      gi_loopw [4] (fun v wr => ∃ i : Nat, i ≤ nk ∧ v = .int .i64 i ∧ Own 40 3 B R wr (fun j xs => (j < k → xs = mks mcH j (xs.length / 3)) ∧ (j = k → xs.take (i * 3) = mks mcH k i)) ∧ KeepT 40 B w wr) (fun v _ => nk - (intOf v).toNat)
      case atStart => exact ⟨0, by omega, rfl, HO.out, HK.out⟩
      case round =>
        clear HO HK
        obtain ⟨i, hi, rfl, hown, hkt⟩ := hrel
        have cT : wr.cell? ⟨T, k, none⟩ = some (.slice ak nk ck) := HLS.out wr k _ hkt HP.out
        have HO : Hid (Own 40 3 B R wr (fun j xs => (j < k → xs = mks mcH j (xs.length / 3)) ∧ (j = k → xs.take (i * 3) = mks mcH k i))) := hown
        have HK : Hid (KeepT 40 B w wr) := hkt
        by_cases hin : i < nk
        · obtain ⟨xs, hx1, hx2⟩ := hown k _ HP.out
          have hxl := hx1.1
          have hX2 := hx2.2 rfl
          simp only at hx1 hxl
          obtain ⟨g, rfl⟩ : ∃ g, ak = some ⟨g, 0, none⟩ := by
            rcases hx1.2 with ⟨e1, e2⟩ | ⟨g, cap, cur, e1, _⟩
            · omega
            · injection e1 with e1 _ _
              exact ⟨g, e1⟩
          have hgl := (hx1.lt g rfl).2
          have hwB : B ≤ wr.heap.size := Nat.le_trans hB hkt.1.size
          have HX1 : Hid (wr.ownsRow B 40 3 (.slice (some ⟨g, 0, none⟩) nk ck) nk xs) := hx1
          have HX2 : Hid (xs.take (i * 3) = mks mcH k i) := hX2
          have HXL : Hid (xs.length = nk * 3) := by show xs.length = nk * 3; omega
          have cT0 : wr.drew.cell? ⟨T, k, none⟩ = some (.slice (some ⟨g, 0, none⟩) nk ck) := cT
          have hTl : T < wr.heap.size := by simpa using World.block_lt_of_cell? _ _ cT
          clear hx1 hx2 hxl hX2 hown hkt
          gi_wp2
          refine region_lex (fun w' => w'.cell? ⟨T, k, none⟩ = some (.slice (some ⟨g, 0, none⟩) nk ck)) 7 3 rfl (by kernel_rfl) (by kernel_rfl) (by kernel_rfl) (by kernel_rfl) (fun _ _ d _ _ h => by cases d <;> exact h) cT0 ?_
          simp only [List.take_succ_cons, List.take_zero]
          iterate 7 (first
            | (apply lexC_want
               · rfl
               · exact fun _ => rfl
               · (intro w' hw'; go_simp; try rfl)
               simp only [Act.put, List.setIfInBounds_toArray, List.set_cons_zero, List.set_cons_succ])
            | (apply lexC_skip
               · rfl
               · exact fun _ => rfl
               simp only [Act.put, List.setIfInBounds_toArray, List.set_cons_zero, List.set_cons_succ]))
          refine lexC_nil ?_
          refine anyC_one (i := 7) (by kernel_rfl) rfl (by rfl) (fun K1 hK1 => ?_)
          go_simp
          refine ⟨trivial, ?_⟩
          refine (callsIn_wide.2 (markHunk_any k i (by omega) (by omega) _)).mono ?_
          rintro e wm ⟨rfl, hbm⟩
          have hbm' : Below wr.heap.size wr wm := (below_drewN (Below.refl _ wr) 1).trans hbm
          refine hK1 _ _ ((hbm'.cell (p := ⟨T, k, none⟩) hTl).trans cT) ?_
          have hownm := owns_below HX1.out hbm'
          obtain ⟨u0, u1, u2, cT0m, cT1m, cT2m, fT0, fT1, fT2⟩ := store_facts hownm i hin (.int .i64 (mn k i : Nat)) (.slice none 0 0)
          have HST : Hid (_) := stored3 hownm i (.int .i64 (mn k i : Nat)) (.slice none 0 0) (.slice none 0 0)
          have cL : (((wm.setCell ⟨g, i * 3, none⟩ (.int .i64 (mn k i : Nat))).setCell ⟨g, i * 3 + 1, none⟩ (.slice none 0 0)).setCell ⟨g, i * 3 + 2, none⟩ (.slice none 0 0)).cell? ⟨T, k, none⟩ = some (.slice (some ⟨g, 0, none⟩) nk ck) := by
            refine HLS.out _ k _ (HK.out.trans ((KeepT.of_below hbm' hwB).trans (KeepT.of_grown hownm HST.out.2 (Nat.le_trans hwB hbm'.size)))) HP.out
          refine anyC_one (i := 8) (by kernel_rfl) rfl (by rfl) (fun K3 hK3 => ?_)
          clear hownm
          go_simp
          refine hK3 _ _ ((hbm'.cell (p := ⟨T, k, none⟩) hTl).trans cT) ?_
          clear hK3
          refine anyC_one (i := 9) (by kernel_rfl) rfl (by rfl) (fun K2 hK2 => ?_)
          go_simp
          refine hK2 _ _ cL ?_
          refine anyC_done (by kernel_rfl) ?_
          clear hK1 hK2
          gi_wp2
          go_roundw
          case rel =>
            refine ⟨i + 1, by omega, by go_num, ?_, HK.out.trans ((KeepT.of_below hbm' hwB).trans (KeepT.of_grown (owns_below HX1.out hbm') HST.out.2 (Nat.le_trans hwB hbm'.size)))⟩
            refine (HO.out.below hbm').put HA.out HP.out HST.out.2 HST.out.1 ⟨fun h => absurd h (by omega), fun _ => ?_⟩ (fun j ys hj h => ⟨h.1, fun e => absurd e hj⟩)
            rw [take_set3 _ _ _ _ _ (by have := HXL.out; omega), HX2.out, mks_succ]; rfl
          case measure => simp [intOf]; omega
        · gi_wp2
          go_roundw
          case rel =>
            refine ⟨k + 1, by omega, by go_num, hown.mono (fun j p xs hp hl h hjk => ?_), hkt⟩
            by_cases hj : j = k
            · subst hj
              have := HP.out
              rw [hp] at this
              cases this
              have h2 := h.2 rfl
              rw [List.take_of_length_le (by simp only at hl; omega)] at h2
              have : i = nk := by omega
              subst this
              have e3 : xs.length / 3 = i := by simp only at hl; omega
              rw [e3]
              exact h2
            · exact h.1 (by omega)
          case measure => simp [intOf]; omega
    · have HO1 : Hid (Own 40 3 B R wr (fun j xs => xs = mks mcH j (xs.length / 3))) := hown.mono (fun j p xs hp _ h => h (by have := (List.getElem?_eq_some_iff.1 hp).1; omega))
      have HK1 : Hid (KeepT 40 B w wr) := hkt
      have HA : Hid (Apart R) := hA
      have HN : Hid (∀ p ∈ R, p.2 ≤ 1000000) := hN
      have hsw : w.heap.size ≤ wr.heap.size := hkt.1.size
      have hmk : ∀ w : World, (Instr.makeSlice 63 (.int .i64 (R.length : Int)) (.int .i64 (R.length : Int))).run Try.prog w = .ok (.slice (some ⟨w.heap.size, 0, none⟩) R.length R.length) (w.alloc (.cells (madeCells #[.slice none 0 0] R.length) 23)) :=
        fun w => run_make_row' (P := Try.prog) 63 23 (.slice none 0 0) 24 Try.underlying63 (by kernel_rfl) rfl .i64 .i64 R.length (by omega) (by omega) w
      obtain ⟨X, hX⟩ : ∃ X, X = wr.alloc (.cells (madeCells #[.slice none 0 0] R.length) 23) := ⟨_, rfl⟩
      have bX : Below wr.heap.size wr X := by rw [hX]; exact (Below.refl _ wr).alloc (Nat.le_refl _) _
      have oG : X.ownsRow B 23 1 (.slice (some ⟨wr.heap.size, 0, none⟩) R.length R.length) R.length (List.replicate R.length (.slice none 0 0)) := by
        have h := World.ownsRow_lit (e := 23) (size := 1) (base := B) wr (madeCells #[.slice none 0 0] R.length) R.length (by omega) (by unfold maxLen; omega) (by rw [size_madeCells, Nat.mul_one])
        rw [toList_madeCells_one] at h
        rw [hX]; exact h
      have hGX : wr.heap.size < X.heap.size := by rw [hX]; simp
      clear hown hkt hA hN hO
      gi_wp2
      rw [← hX]
      obtain ⟨G, hG⟩ : ∃ G, G = wr.heap.size := ⟨_, rfl⟩
      have HOX : Hid (Own 40 3 B R X (fun j xs => xs = mks mcH j (xs.length / 3))) := HO1.out.below bX
      have HKX : Hid (KeepT 40 B w X) := HK1.out.trans (KeepT.of_below bX (by omega))
      rw [← hG] at oG hGX hsw ⊢
      clear hX hG bX hmk HO1 HK1
      gi_loopw [6] (fun v wr => ∃ (k : Nat) (gv : List Value), k ≤ R.length ∧ v = .int .i64 k ∧ Own 40 3 B R wr (fun j xs => xs = mks mcH j (xs.length / 3)) ∧ KeepT 40 B w wr ∧ wr.ownsRow B 23 1 (.slice (some ⟨G, 0, none⟩) R.length R.length) R.length gv ∧ X.heap.size ≤ wr.heap.size ∧ GsOkH X B R k gv wr) (fun v _ => R.length - (intOf v).toNat)
      case atStart => exact ⟨0, _, by omega, rfl, HOX.out, HKX.out, oG, Nat.le_refl _, fun j p h _ => absurd h (by omega)⟩
      case round =>
        clear HOX HKX oG
        obtain ⟨k, gv, hk, rfl, hown, hkt, hgs, hXs, hok⟩ := hrel
        by_cases hlt : k < R.length
        · obtain ⟨p, hp⟩ : ∃ p, R[k]? = some p := ⟨R[k], List.getElem?_eq_getElem hlt⟩
          have hNp := HN.out p (List.mem_of_getElem? hp)
          obtain ⟨vk, nk⟩ := p
          simp only at hNp
          obtain ⟨ys, hy1, hy2⟩ := hown k _ hp
          simp only at hy1
          have hyl : ys.length / 3 = nk := by have := hy1.1; omega
          rw [hyl] at hy2
          subst hy2
          obtain ⟨ak, ck, rfl⟩ := slice_shape hy1
          have cT : wr.cell? ⟨T, k, none⟩ = some (.slice ak nk ck) := HLS.out wr k _ hkt hp
          have HP : Hid (R[k]? = some (.slice ak nk ck, nk)) := hp
          have HV : Hid (wr.ownsRow B 40 3 (.slice ak nk ck) nk (mks mcH k nk)) := hy1
          have HOW : Hid (Own 40 3 B R wr (fun j xs => xs = mks mcH j (xs.length / 3))) := hown
          have HKT : Hid (KeepT 40 B w wr) := hkt
          have HGS : Hid (wr.ownsRow B 23 1 (.slice (some ⟨G, 0, none⟩) R.length R.length) R.length gv) := hgs
          have HOK : Hid (GsOkH X B R k gv wr) := hok
          have hBr : B ≤ wr.heap.size := by omega
          obtain ⟨WK, hWK⟩ : ∃ WK, WK = wr := ⟨_, rfl⟩
          have HVL : Hid (∀ b, (Value.slice ak nk ck).ownBlock = some b → b < wr.heap.size) := fun b hb => (hy1.lt b hb).2
          clear hown hkt hgs hok hp hy1 hyl
          gi_wp2
          rw [← hWK] at HV HOW HKT HGS HOK hBr hXs HVL ⊢
          clear hWK cT
          gi_loopw [7, 8] (fun t v wq => ∃ i : Nat, i ≤ 64 ∧ v = .int .i64 i ∧ wq.ownsRow B 40 3 t (nk + i) (mks mcH k (nk + i)) ∧ wq.ownsRow B 40 3 (.slice ak nk ck) nk (mks mcH k nk) ∧ WK.grownBy wq (Value.slice ak nk ck).ownBlock ∧ Grew WK (.slice ak nk ck) nk t (nk + i)) (fun _ v _ => 64 - (intOf v).toNat)
          case atStart =>
            refine ⟨0, by omega, rfl, HV.out, HV.out, ⟨rfl, rfl, rfl, Nat.le_refl _, fun _ _ _ => rfl⟩, ?_⟩
            rcases HV.out.2 with ⟨e, _⟩ | ⟨g, cap, cur, e, _⟩
            · exact .inr (.inr e)
            · exact .inl ⟨g, cap, e, e⟩
          case round =>
            obtain ⟨i, hi, rfl, ht, hv, hg, hgr⟩ := hrel
            have hsz : WK.heap.size ≤ wr.heap.size := hg.size
            have cT : wr.cell? ⟨T, k, none⟩ = some (.slice ak nk ck) := HLS.out wr k _ (HKT.out.trans (KeepT.of_grown HV.out hg hBr)) HP.out
            have HT : Hid (wr.ownsRow B 40 3 u7 (nk + i) (mks mcH k (nk + i))) := ht
            have HVV : Hid (wr.ownsRow B 40 3 (.slice ak nk ck) nk (mks mcH k nk)) := hv
            have HG : Hid (WK.grownBy wr (Value.slice ak nk ck).ownBlock) := hg
            have HGR : Hid (Grew WK (.slice ak nk ck) nk u7 (nk + i)) := hgr
            obtain ⟨at7, c7, rfl⟩ := slice_shape ht
            clear ht hv hg hgr
            by_cases hlt64 : i < 64
            · have MK := markHunk_any k (nk + i) (by omega) (by omega) wr
              rw [Int.natCast_add] at MK
              have HM : Hid (_) := MK
              clear MK
              gi_wp2_with fail
              refine ⟨trivial, ?_⟩
              refine (callsIn_wide.2 HM.out).mono ?_
              rintro e wm ⟨rfl, hbm⟩
              have bb : Below wr.heap.size wr (wm.alloc (.cells #[.int .i64 (mn k (nk + i) : Nat), .slice none 0 0, .slice none 0 0] 40)) := hbm.alloc hbm.size _
              obtain ⟨v', W', hrun, h1, h2, h3, h4⟩ := grow_step (P := Try.prog) B 23 40 i0 (.agg #[.int .i64 0, .slice none 0 0, .slice none 0 0]) 3 56 Try.underlying23 gi gz0 gz1 gz2 rfl (by decide) (owns_below HT.out bb) (owns_below HVV.out bb) HVL.out (grown_join HG.out (grown_of_below bb none) (fun j hj => by cases hj)) HGR.out (by omega) (by rw [mksH_take _ _ _ (by omega)])
                ⟨wm.heap.size, 0, none⟩ 1 1 (mcH k (nk + i)) rfl (cells_new wm (mcH k (nk + i)) 40) (by simp [mcH, Value.oneCell']) (by unfold maxLen; omega) (by omega) (by omega) (by have := bb.size; omega)
              have H1 : Hid (W'.ownsRow B 40 3 v' (nk + i + 1) (mks mcH k (nk + i) ++ mcH k (nk + i))) := h1
              have H2 : Hid (_) := h2
              have H3 : Hid (_) := h3
              have H4 : Hid (_) := h4
              clear h1 h2 h3 h4 HM
              gi_wp2_with (gi_at_builtin; refine list_append rfl _ _ 23 rfl _ _ _ _ rfl rfl hrun ?_)
              go_roundw
              case rel => exact ⟨i + 1, by omega, by go_num, by show W'.ownsRow B 40 3 v' (nk + i + 1) (mks mcH k (nk + i + 1)); rw [mks_succ]; exact H1.out, H2.out, H3.out, H4.out⟩
              case measure => simp [intOf]; omega
            · have hi64 : i = 64 := by omega
              subst hi64
              have hgsw : wr.ownsRow B 23 1 (.slice (some ⟨G, 0, none⟩) R.length R.length) R.length gv := owns_two HGS.out HV.out HG.out (by decide)
              obtain ⟨u0, cG⟩ := owns_cell hgsw k hlt
              have fG := hgsw.frozenAt k
              have hgl := (hgsw.lt G rfl).2
              have HST : Hid (_) := hgsw.stored k (.slice at7 (nk + 64) c7)
              have HGW : Hid (_) := hgsw
              clear hgsw
              gi_wp2
              go_roundw
              case rel =>
                have hlenG := HGW.out.1
                have kw : KeepT 40 B w wr := HKT.out.trans (KeepT.of_grown HV.out HG.out hBr)
                have kw2 : KeepT 40 B w (wr.setCell ⟨G, k, none⟩ (.slice at7 (nk + 64) c7)) := by
                  have hs := HST.out.2
                  have hG0 : w.heap.size ≤ G := hsw
                  refine ⟨⟨hs.os.trans kw.1.os, hs.tape.trans kw.1.tape, hs.output.trans kw.1.output, Nat.le_trans kw.1.size hs.size, fun j hj => (hs.block j (by have := kw.1.size; omega) (fun e => by cases e; omega)).trans (kw.1.block j hj)⟩, fun j c t fr hj h1 => ?_⟩
                  have hjl : j < w.heap.size := (Array.getElem?_eq_some_iff.1 hj).1
                  exact (hs.block j (by have := kw.1.size; omega) (fun e => by cases e; omega)).trans (kw.2 j c t fr hj h1)
                refine ⟨k + 1, gv.set k (.slice at7 (nk + 64) c7), by omega, by go_num, ?_, kw2, HST.out.1, by have := HST.out.2.size; omega, ?_⟩
                · have ho : Own 40 3 B R wr (fun j xs => xs = mks mcH j (xs.length / 3)) := HOW.out.put HA.out HP.out HG.out HVV.out (by rw [mksH_len, Nat.mul_div_cancel _ (by decide)]) (fun j xs _ h => h)
                  intro j q hq
                  obtain ⟨xs, q1, q2⟩ := ho j q hq
                  exact ⟨xs, owns_two q1 HGW.out HST.out.2 (by decide), q2⟩
                · intro j q hj hq
                  by_cases hjk : j = k
                  · subst hjk
                    have := HP.out
                    rw [hq] at this
                    cases this
                    refine ⟨_, by rw [List.getElem?_set, if_pos rfl, if_pos (by omega)], owns_two HT.out HGW.out HST.out.2 (by decide), ?_⟩
                    rcases HGR.out with ⟨g, cap, e1, e2⟩ | ⟨b, e1, e2⟩ | e1
                    · left; rw [e1, e2]; rfl
                    · exact .inr ⟨b, e1, by omega⟩
                    · injection e1 with _ e2 _; omega
                  · obtain ⟨gj, q1, q2, q3⟩ := HOK.out j q (by omega) hq
                    refine ⟨gj, by rw [List.getElem?_set, if_neg (fun e => hjk e.symm)]; exact q1, owns_two (q2.kept HG.out ?_) HGW.out HST.out.2 (by decide), q3⟩
                    rcases q3 with q3 | ⟨b, q3, q4⟩
                    · rw [q3]; exact HA.out j k q _ hq HP.out hjk
                    · right
                      rw [q3]
                      intro e
                      have := HOL.out k _ b HP.out e.symm
                      omega
              case measure => simp [intOf]; omega
        · have HOW : Hid (Own 40 3 B R wr (fun j xs => xs = mks mcH j (xs.length / 3))) := hown
          have HKT : Hid (KeepT 40 B w wr) := hkt
          have HGS : Hid (wr.ownsRow B 23 1 (.slice (some ⟨G, 0, none⟩) R.length R.length) R.length gv) := hgs
          have HOK : Hid (∀ (j : Nat) (p : Value × Nat), R[j]? = some p → ∃ gj, gv[j]? = some gj ∧ wr.ownsRow B 40 3 gj (p.2 + 64) (mks mcH j (p.2 + 64))) := fun j p hp => by
            obtain ⟨gj, q1, q2, -⟩ := hok j p (by have := (List.getElem?_eq_some_iff.1 hp).1; omega) hp
            exact ⟨gj, q1, q2⟩
          obtain ⟨X3, hX3⟩ : ∃ X3, X3 = wr := ⟨_, rfl⟩
          clear hown hkt hgs hok
          gi_wp2
          rw [← hX3] at HOW HKT HGS HOK hXs ⊢
          clear hX3
          gi_loopw [9] (fun v wr => ∃ k : Nat, k ≤ R.length ∧ v = .int .i64 k ∧ Below X3.heap.size X3 wr) (fun v _ => R.length - (intOf v).toNat)
          case atStart => exact ⟨0, by omega, rfl, Below.refl _ _⟩
          case round =>
            obtain ⟨k, hk, rfl, hb0⟩ := hrel
            by_cases hlt : k < R.length
            · obtain ⟨p, hp⟩ : ∃ p, R[k]? = some p := ⟨R[k], List.getElem?_eq_getElem hlt⟩
              have hNp := HN.out p (List.mem_of_getElem? hp)
              obtain ⟨vk, nk⟩ := p
              simp only at hNp
              obtain ⟨ys, hy1, hy2⟩ := HOW.out k _ hp
              simp only at hy1
              have hyl : ys.length / 3 = nk := by have := hy1.1; omega
              rw [hyl] at hy2
              subst hy2
              obtain ⟨gk, hg1, hg2⟩ := HOK.out k _ hp
              simp only at hg2
              obtain ⟨g, cg, rfl⟩ := ownsRow_succ (show X3.ownsRow B 40 3 gk ((nk + 63) + 1) (mks mcH k (nk + 64)) from hg2)
              obtain ⟨ak, ck, rfl⟩ := slice_shape hy1
              have cT3 : X3.cell? ⟨T, k, none⟩ = some (.slice ak nk ck) := HLS.out X3 k _ HKT.out hp
              have cG3 : X3.cell? ⟨G, k, none⟩ = some (.slice (some ⟨g, 0, none⟩) (nk + 64) cg) := by
                rw [HGS.out.cellAt k (by omega)]; exact hg1
              have HR3 : Hid (X3.ownsRow B 40 3 (.slice (some ⟨g, 0, none⟩) (nk + 64) cg) (nk + 64) (mks mcH k (nk + 64))) := hg2
              have HV3 : Hid (X3.ownsRow B 40 3 (.slice ak nk ck) nk (mks mcH k nk)) := hy1
              have cT : wr.cell? ⟨T, k, none⟩ = some (.slice ak nk ck) := (hb0.cell (p := ⟨T, k, none⟩) (by simpa using World.block_lt_of_cell? _ _ cT3)).trans cT3
              have cG : wr.cell? ⟨G, k, none⟩ = some (.slice (some ⟨g, 0, none⟩) (nk + 64) cg) := (hb0.cell (p := ⟨G, k, none⟩) (by simpa using World.block_lt_of_cell? _ _ cG3)).trans cG3
              clear hp hy1 hyl hg1 hg2
              gi_wp2
              gi_loopw [10] (fun v wr => ∃ i : Nat, i ≤ nk + 64 ∧ v = .int .i64 i ∧ Below X3.heap.size X3 wr) (fun v _ => nk + 64 - (intOf v).toNat)
              case atStart => exact ⟨0, by omega, rfl, hb0⟩
              case round =>
                clear cT cG hb0
                obtain ⟨i, hi, rfl, hb3⟩ := hrel
                have cT : wr.cell? ⟨T, k, none⟩ = some (.slice ak nk ck) := (hb3.cell (p := ⟨T, k, none⟩) (by simpa using World.block_lt_of_cell? _ _ cT3)).trans cT3
                have cG : wr.cell? ⟨G, k, none⟩ = some (.slice (some ⟨g, 0, none⟩) (nk + 64) cg) := (hb3.cell (p := ⟨G, k, none⟩) (by simpa using World.block_lt_of_cell? _ _ cG3)).trans cG3
                by_cases hin : i < nk + 64
                · have cg3 : Tri X3 g i k := tri_of HR3.out (mksH_get k i _ hin) hin
                  obtain ⟨h, hh1, hh2⟩ : ∃ h, (i < nk → Tri X3 h i k) ∧ (i < nk → ak = some ⟨h, 0, none⟩) := by
                    rcases HV3.out.2 with ⟨e1, e2⟩ | ⟨h, cap, cur, e1, _⟩
                    · exact ⟨0, fun q => absurd q (by omega), fun q => absurd q (by omega)⟩
                    · injection e1 with e1 _ e3
                      subst e1 e3
                      exact ⟨h, fun q => tri_of HV3.out (mksH_get k i _ q) q, fun _ => rfl⟩
                  have HC : Hid (∀ W, Below wr.heap.size wr W → W.cell? ⟨T, k, none⟩ = some (.slice ak nk ck) ∧ W.cell? ⟨G, k, none⟩ = some (.slice (some ⟨g, 0, none⟩) (nk + 64) cg) ∧ Tri W g i k ∧ (i < nk → Tri W h i k)) := fun W hW => by
                    have hs := hb3.size
                    have hB2 : Below X3.heap.size X3 W := hb3.trans (hW.mono hs)
                    exact ⟨(hB2.cell (p := ⟨T, k, none⟩) (by simpa using World.block_lt_of_cell? _ _ cT3)).trans cT3, (hB2.cell (p := ⟨G, k, none⟩) (by simpa using World.block_lt_of_cell? _ _ cG3)).trans cG3, cg3.below hB2, fun q => (hh1 q).below hB2⟩
                  by_cases hin2 : i < nk
                  · have e1 : decide ((i : Int) < (nk : Int)) = true := by simp; omega
                    have e2 : decide (i < nk) = true := by simp; omega
                    obtain rfl := hh2 hin2
                    clear hh1 hh2 cT3 cG3 cg3
                    gi_wp2
                    refine region_lex (fun w' => w'.cell? ⟨T, k, none⟩ = some (.slice (some ⟨h, 0, none⟩) nk ck) ∧ w'.cell? ⟨G, k, none⟩ = some (.slice (some ⟨g, 0, none⟩) (nk + 64) cg) ∧ Tri w' g i k ∧ (i < nk → Tri w' h i k)) 9 26 rfl (by kernel_rfl) (by kernel_rfl) (by kernel_rfl) (by kernel_rfl) (fun _ _ d _ _ h => by cases d <;> exact h) (HC.out _ (below_drewN (Below.refl _ wr) 1)) ?_
                    simp only [List.take_succ_cons, List.take_zero]
                    iterate 9 (first
                      | (apply lexC_want
                         · rfl
                         · exact fun _ => rfl
                         · (intro w' hw'; obtain ⟨q0, q1, ⟨q2, q4, q5⟩, q3⟩ := hw'; (first | obtain ⟨q6, q7, q8⟩ := q3 (by omega) | obtain ⟨q6, q7, q8⟩ := q3 | skip); go_simp; try rfl)
                         simp only [Act.put, List.setIfInBounds_toArray, List.set_cons_zero, List.set_cons_succ])
                      | (apply lexC_skip
                         · rfl
                         · exact fun _ => rfl
                         simp only [Act.put, List.setIfInBounds_toArray, List.set_cons_zero, List.set_cons_succ]))
                    refine lexC_nil ?_
                    refine anyC_one (i := 9) (by kernel_rfl) rfl (by rfl) (fun K1 hK1 => ?_)
                    go_simp
                    refine ⟨trivial, ?_⟩
                    refine (callsIn_wide.2 (markHunk_any k i (by omega) (by omega) _)).mono ?_
                    rintro e wm ⟨rfl, hbm⟩
                    have bm : Below wr.heap.size wr wm := (below_drewN (Below.refl _ wr) 1).trans hbm
                    refine hK1 _ _ (HC.out _ bm) ?_
                    clear hK1
                    refine anyC_one (i := 10) (by kernel_rfl) rfl (by rfl) (fun K1 hK1 => ?_)
                    go_simp
                    refine ⟨trivial, ?_⟩
                    refine (callsIn_wide.2 (sameMark k i _)).mono ?_
                    rintro e wn ⟨rfl, hbn⟩
                    have bn : Below wr.heap.size wr wn := bm.trans (hbn.mono bm.size)
                    refine hK1 _ _ (HC.out _ bn) ?_
                    clear hK1
                    refine anyC_more 11 19 5 24 rfl (by kernel_rfl) rfl (by decide) (by kernel_rfl) (fun _ _ d _ _ h => by cases d <;> exact h) (HC.out _ bn) ?_
                    simp only [List.drop_succ_cons, List.drop_zero, List.take_succ_cons, List.take_zero]
                    iterate 19 (first
                      | (apply lexC_want
                         · rfl
                         · exact fun _ => rfl
                         · (intro w' hw'; obtain ⟨q0, q1, ⟨q2, q4, q5⟩, q3⟩ := hw'; (first | obtain ⟨q6, q7, q8⟩ := q3 (by omega) | obtain ⟨q6, q7, q8⟩ := q3 | skip); go_simp; try rfl)
                         simp only [Act.put, List.setIfInBounds_toArray, List.set_cons_zero, List.set_cons_succ])
                      | (apply lexC_skip
                         · rfl
                         · exact fun _ => rfl
                         simp only [Act.put, List.setIfInBounds_toArray, List.set_cons_zero, List.set_cons_succ]))
                    refine lexC_nil ?_
                    refine anyC_one (i := 30) (by kernel_rfl) rfl (by rfl) (fun K2 hK2 => ?_)
                    go_simp
                    refine ⟨trivial, ?_⟩
                    refine (callsIn_wide.2 (markHunk_any k i (by omega) (by omega) _)).mono ?_
                    rintro e wm2 ⟨rfl, hbm2⟩
                    have bm2 : Below wr.heap.size wr wm2 := bn.trans (hbm2.mono bn.size)
                    refine hK2 _ _ (HC.out _ bm2) ?_
                    clear hK2
                    refine anyC_one (i := 31) (by kernel_rfl) rfl (by rfl) (fun K2 hK2 => ?_)
                    go_simp
                    refine ⟨trivial, ?_⟩
                    refine (callsIn_wide.2 (sameMark k i _)).mono ?_
                    rintro e wn2 ⟨rfl, hbn2⟩
                    have bn2 : Below wr.heap.size wr wn2 := bm2.trans (hbn2.mono bm2.size)
                    refine hK2 _ _ (HC.out _ bn2) ?_
                    clear hK2
                    refine anyC_more 32 3 0 3 rfl (by kernel_rfl) rfl (by decide) (by kernel_rfl) (fun _ _ d _ _ h => by cases d <;> exact h) (HC.out _ bn2) ?_
                    simp only [List.drop_succ_cons, List.drop_zero, List.take_succ_cons, List.take_zero]
                    iterate 3 (first
                      | (apply lexC_want
                         · rfl
                         · exact fun _ => rfl
                         · (intro w' hw'; obtain ⟨q0, q1, ⟨q2, q4, q5⟩, q3⟩ := hw'; (first | obtain ⟨q6, q7, q8⟩ := q3 (by omega) | obtain ⟨q6, q7, q8⟩ := q3 | skip); go_simp; try rfl)
                         simp only [Act.put, List.setIfInBounds_toArray, List.set_cons_zero, List.set_cons_succ])
                      | (apply lexC_skip
                         · rfl
                         · exact fun _ => rfl
                         simp only [Act.put, List.setIfInBounds_toArray, List.set_cons_zero, List.set_cons_succ]))
                    refine lexC_nil ?_
                    refine anyC_done (by kernel_rfl) ?_
                    clear HC
                    gi_wp2
                    go_roundw
                    case rel => exact ⟨i + 1, by omega, by go_num, hb3.trans (bn2.mono hb3.size)⟩
                    case measure => simp [intOf]; omega
                  · have e1 : decide ((i : Int) < (nk : Int)) = false := by simp; omega
                    have e2 : decide (i < nk) = false := by simp; omega
                    clear hh1 hh2 cT3 cG3 cg3
                    gi_wp2
                    refine region_lex (fun w' => w'.cell? ⟨T, k, none⟩ = some (.slice ak nk ck) ∧ w'.cell? ⟨G, k, none⟩ = some (.slice (some ⟨g, 0, none⟩) (nk + 64) cg) ∧ Tri w' g i k ∧ (i < nk → Tri w' h i k)) 9 26 rfl (by kernel_rfl) (by kernel_rfl) (by kernel_rfl) (by kernel_rfl) (fun _ _ d _ _ h => by cases d <;> exact h) (HC.out _ (below_drewN (Below.refl _ wr) 1)) ?_
                    simp only [List.take_succ_cons, List.take_zero]
                    iterate 9 (first
                      | (apply lexC_want
                         · rfl
                         · exact fun _ => rfl
                         · (intro w' hw'; obtain ⟨q0, q1, ⟨q2, q4, q5⟩, q3⟩ := hw'; go_simp; try rfl)
                         simp only [Act.put, List.setIfInBounds_toArray, List.set_cons_zero, List.set_cons_succ])
                      | (apply lexC_skip
                         · rfl
                         · exact fun _ => rfl
                         simp only [Act.put, List.setIfInBounds_toArray, List.set_cons_zero, List.set_cons_succ]))
                    refine lexC_nil ?_
                    refine anyC_one (i := 9) (by kernel_rfl) rfl (by rfl) (fun K1 hK1 => ?_)
                    go_simp
                    refine ⟨trivial, ?_⟩
                    refine (callsIn_wide.2 (markHunk_any k i (by omega) (by omega) _)).mono ?_
                    rintro e wm ⟨rfl, hbm⟩
                    have bm : Below wr.heap.size wr wm := (below_drewN (Below.refl _ wr) 1).trans hbm
                    refine hK1 _ _ (HC.out _ bm) ?_
                    clear hK1
                    refine anyC_one (i := 10) (by kernel_rfl) rfl (by rfl) (fun K1 hK1 => ?_)
                    go_simp
                    refine ⟨trivial, ?_⟩
                    refine (callsIn_wide.2 (sameMark k i _)).mono ?_
                    rintro e wn ⟨rfl, hbn⟩
                    have bn : Below wr.heap.size wr wn := bm.trans (hbn.mono bm.size)
                    refine hK1 _ _ (HC.out _ bn) ?_
                    clear hK1
                    refine anyC_more 11 19 5 24 rfl (by kernel_rfl) rfl (by decide) (by kernel_rfl) (fun _ _ d _ _ h => by cases d <;> exact h) (HC.out _ bn) ?_
                    simp only [List.drop_succ_cons, List.drop_zero, List.take_succ_cons, List.take_zero]
                    iterate 19 (first
                      | (apply lexC_want
                         · rfl
                         · exact fun _ => rfl
                         · (intro w' hw'; obtain ⟨q0, q1, ⟨q2, q4, q5⟩, q3⟩ := hw'; go_simp; try rfl)
                         simp only [Act.put, List.setIfInBounds_toArray, List.set_cons_zero, List.set_cons_succ])
                      | (apply lexC_skip
                         · rfl
                         · exact fun _ => rfl
                         simp only [Act.put, List.setIfInBounds_toArray, List.set_cons_zero, List.set_cons_succ]))
                    refine lexC_nil ?_
                    refine anyC_pass (i := 30) (by kernel_rfl) rfl (by rfl) (fun _ => trivial) (HC.out _ bn) ?_
                    refine anyC_pass (i := 31) (by kernel_rfl) rfl (by rfl) (fun _ => trivial) (HC.out _ bn) ?_
                    refine anyC_pass (i := 32) (by kernel_rfl) rfl (by rfl) (fun _ => trivial) (HC.out _ bn) ?_
                    refine anyC_one (i := 33) (by kernel_rfl) rfl (by rfl) (fun K2 hK2 => ?_)
                    go_simp
                    refine hK2 _ _ (HC.out _ bn) ?_
                    refine anyC_one (i := 34) (by kernel_rfl) rfl (by rfl) (fun K3 hK3 => ?_)
                    go_simp
                    refine hK3 _ _ (HC.out _ bn) ?_
                    clear hK2 hK3
                    refine anyC_done (by kernel_rfl) ?_
                    clear HC
                    gi_wp2
                    go_roundw
                    case rel => exact ⟨i + 1, by omega, by go_num, hb3.trans (bn.mono hb3.size)⟩
                    case measure => simp [intOf]; omega
                · gi_wp2
                  go_roundw
                  case rel => exact ⟨k + 1, by omega, by go_num, hb3⟩
                  case measure => simp [intOf]; omega
            · have HO4 : Hid (Own 40 3 B R wr (fun j xs => xs = mks mcH j (xs.length / 3))) := HOW.out.below hb0
              have HK4 : Hid (KeepT 40 B w wr) := HKT.out.trans (KeepT.of_below hb0 (by omega))
              have HG4 : Hid (wr.ownsRow B 23 1 (.slice (some ⟨G, 0, none⟩) R.length R.length) R.length gv) := owns_below HGS.out hb0
              have hX4 : X.heap.size ≤ wr.heap.size := by have := hb0.size; omega
              obtain ⟨X4, hX4e⟩ : ∃ X4, X4 = wr := ⟨_, rfl⟩
              clear HOW HKT HGS HOK hb0
              gi_wp2
              rw [← hX4e] at HO4 HK4 HG4 hX4 ⊢
              clear hX4e
              gi_loopw [11] (fun v wr => ∃ (k : Nat) (gv : List Value), k ≤ R.length ∧ v = .int .i64 k ∧ Own 40 3 B R wr (fun j xs => xs = mks mcH j (xs.length / 3)) ∧ KeepT 40 B w wr ∧ wr.ownsRow B 23 1 (.slice (some ⟨G, 0, none⟩) R.length R.length) R.length gv ∧ X.heap.size ≤ wr.heap.size ∧ GsFrH X B R k gv wr) (fun v _ => R.length - (intOf v).toNat)
              case atStart => exact ⟨0, _, by omega, rfl, HO4.out, HK4.out, HG4.out, hX4, fun j p h _ => absurd h (by omega)⟩
              case round =>
                clear HO4 HK4 HG4 hX4
                obtain ⟨k, gv, hk, rfl, hown, hkt, hgs, hXs, hok⟩ := hrel
                by_cases hlt : k < R.length
                · obtain ⟨p, hp⟩ : ∃ p, R[k]? = some p := ⟨R[k], List.getElem?_eq_getElem hlt⟩
                  have hNp := HN.out p (List.mem_of_getElem? hp)
                  obtain ⟨vk, nk⟩ := p
                  simp only at hNp
                  obtain ⟨ys, hy1, hy2⟩ := hown k _ hp
                  simp only at hy1
                  have hyl : ys.length / 3 = nk := by have := hy1.1; omega
                  rw [hyl] at hy2
                  subst hy2
                  obtain ⟨ak, ck, rfl⟩ := slice_shape hy1
                  have HP : Hid (R[k]? = some (.slice ak nk ck, nk)) := hp
                  have HV : Hid (wr.ownsRow B 40 3 (.slice ak nk ck) nk (mks mcH k nk)) := hy1
                  have HOW : Hid (Own 40 3 B R wr (fun j xs => xs = mks mcH j (xs.length / 3))) := hown
                  have HKT : Hid (KeepT 40 B w wr) := hkt
                  have HGS : Hid (wr.ownsRow B 23 1 (.slice (some ⟨G, 0, none⟩) R.length R.length) R.length gv) := hgs
                  have HOK : Hid (GsFrH X B R k gv wr) := hok
                  have hBr : B ≤ wr.heap.size := by omega
                  have hmk2 : ∀ w : World, (Instr.makeSlice 23 (.int .i64 64) (.int .i64 64)).run Try.prog w = .ok (.slice (some ⟨w.heap.size, 0, none⟩) 64 64) (w.alloc (.cells many0 40)) := make_many
                  obtain ⟨WK, hWK⟩ : ∃ WK, WK = wr := ⟨_, rfl⟩
                  have oM : (wr.alloc (.cells many0 40)).ownsRow wr.heap.size 40 3 (.slice (some ⟨wr.heap.size, 0, none⟩) 64 64) 64 many0.toList := World.ownsRow_lit (e := 40) (size := 3) wr _ 64 (Nat.le_refl _) (by unfold maxLen; omega) many_size
                  have bM : Below wr.heap.size wr (wr.alloc (.cells many0 40)) := (Below.refl _ wr).alloc (Nat.le_refl _) _
                  clear hown hkt hgs hok hp hy1 hyl
                  gi_wp2
                  rw [← hWK] at HV HOW HKT HGS HOK hBr hXs oM bM ⊢
                  obtain ⟨XM, hXM⟩ : ∃ XM, XM = WK.alloc (.cells many0 40) := ⟨_, rfl⟩
                  obtain ⟨lM, hlM⟩ : ∃ lM, lM = many0.toList := ⟨_, rfl⟩
                  have hlM1 : ∀ u ∈ lM, u.oneCell' = true := by
                    rw [hlM]; exact many_one
                  rw [← hXM, ← hlM] at oM
                  rw [← hXM] at bM ⊢
                  clear hWK hXM hlM hmk2
                  gi_loopw [13] (fun v wq => ∃ (i : Nat) (ms : List Value), i ≤ 64 ∧ v = .int .i64 i ∧ wq.ownsRow WK.heap.size 40 3 (.slice (some ⟨WK.heap.size, 0, none⟩) 64 64) 64 ms ∧ (∀ u ∈ ms, u.oneCell' = true) ∧ Below WK.heap.size WK wq) (fun v _ => 64 - (intOf v).toNat)
                  case atStart => exact ⟨0, lM, by omega, rfl, oM, hlM1, bM⟩
                  case round =>
                    obtain ⟨i, ms, hi, rfl, hm, hone, hbW⟩ := hrel
                    by_cases hlt64 : i < 64
                    · have MK := markHunk_any (k + R.length) i (by omega) (by omega) wr
                      rw [Int.natCast_add] at MK
                      have HM : Hid (_) := MK
                      clear MK
                      gi_wp2_with fail
                      refine ⟨trivial, ?_⟩
                      refine (callsIn_wide.2 HM.out).mono ?_
                      rintro e wm ⟨rfl, hbm⟩
                      have hmm := owns_below hm hbm
                      obtain ⟨u0, u1, u2, cM0, cM1, cM2, fM0, fM1, fM2⟩ := store_facts hmm i hlt64 (.int .i64 (mn (k + R.length) i : Nat)) (.slice none 0 0)
                      have HST : Hid (_) := stored3 hmm i (.int .i64 (mn (k + R.length) i : Nat)) (.slice none 0 0) (.slice none 0 0)
                      have hwk := hbW.size
                      clear hmm HM
                      gi_wp2
                      go_roundw
                      case rel =>
                        refine ⟨i + 1, _, by omega, by go_num, HST.out.1, fun u hu => ?_, (hbW.trans (hbm.mono hwk)).trans (below_of_grown HST.out.2 (Nat.le_refl _) (Nat.le_trans hwk hbm.size))⟩
                        rcases List.mem_or_eq_of_mem_set hu with h | h
                        · rcases List.mem_or_eq_of_mem_set h with h | h
                          · rcases List.mem_or_eq_of_mem_set h with h | h
                            · exact hone u h
                            · rw [h]; rfl
                          · rw [h]; rfl
                        · rw [h]; rfl
                      case measure => simp [intOf]; omega
                    · have hsz : WK.heap.size ≤ wr.heap.size := hbW.size
                      have gr0 : WK.grownBy wr (Value.slice ak nk ck).ownBlock := grown_of_below hbW _
                      have cT : wr.cell? ⟨T, k, none⟩ = some (.slice ak nk ck) := HLS.out wr k _ (HKT.out.trans (KeepT.of_below hbW hBr)) HP.out
                      obtain ⟨v', W', hrun, h1, h2, h3, h4⟩ := grow_step (P := Try.prog) B 23 40 i0 (.agg #[.int .i64 0, .slice none 0 0, .slice none 0 0]) 3 56 Try.underlying23 gi gz0 gz1 gz2 rfl (by decide) (WK := WK) (owns_below HV.out hbW) (owns_below HV.out hbW) (fun b hb => (HV.out.lt b hb).2) gr0 (by
                          rcases HV.out.2 with ⟨e, _⟩ | ⟨g, cap, cur, e, _⟩
                          · exact .inr (.inr e)
                          · exact .inl ⟨g, cap, e, e⟩) (Nat.le_refl _) (by rw [mksH_take _ _ _ (Nat.le_refl _)])
                        ⟨WK.heap.size, 0, none⟩ 64 64 ms (by have := hm.1; omega) (hm.cells (g := WK.heap.size) rfl) hone (by unfold maxLen; omega) (by omega) (by omega) (by omega)
                      have hgsw : W'.ownsRow B 23 1 (.slice (some ⟨G, 0, none⟩) R.length R.length) R.length gv := owns_two HGS.out HV.out h3 (by decide)
                      obtain ⟨u0, cG⟩ := owns_cell hgsw k hlt
                      have fG := hgsw.frozenAt k
                      have hgl := (hgsw.lt G rfl).2
                      obtain ⟨at7, c7, rfl⟩ := slice_shape h1
                      have HST : Hid (_) := hgsw.stored k (.slice at7 (nk + 64) c7)
                      have HGW : Hid (_) := hgsw
                      have H1 : Hid (_) := h1
                      have H2 : Hid (_) := h2
                      have H3 : Hid (_) := h3
                      have H4 : Hid (_) := h4
                      clear hgsw h1 h2 h3 h4 gr0
                      gi_wp2_with (gi_at_builtin; refine list_append rfl _ _ 23 rfl _ _ _ _ rfl rfl hrun ?_)
                      go_roundw
                      case rel =>
                        have hlenG := HGW.out.1
                        have kw : KeepT 40 B w W' := HKT.out.trans (KeepT.of_grown HV.out H3.out hBr)
                        have kw2 : KeepT 40 B w (W'.setCell ⟨G, k, none⟩ (.slice at7 (nk + 64) c7)) := by
                          have hs := HST.out.2
                          have hG0 : w.heap.size ≤ G := hsw
                          refine ⟨⟨hs.os.trans kw.1.os, hs.tape.trans kw.1.tape, hs.output.trans kw.1.output, Nat.le_trans kw.1.size hs.size, fun j hj => (hs.block j (by have := kw.1.size; omega) (fun e => by cases e; omega)).trans (kw.1.block j hj)⟩, fun j c t fr hj h1 => ?_⟩
                          have hjl : j < w.heap.size := (Array.getElem?_eq_some_iff.1 hj).1
                          exact (hs.block j (by have := kw.1.size; omega) (fun e => by cases e; omega)).trans (kw.2 j c t fr hj h1)
                        refine ⟨k + 1, gv.set k (.slice at7 (nk + 64) c7), by omega, by go_num, ?_, kw2, HST.out.1, by have := HST.out.2.size; have := H3.out.size; omega, ?_⟩
                        · have ho : Own 40 3 B R W' (fun j xs => xs = mks mcH j (xs.length / 3)) := HOW.out.put HA.out HP.out H3.out H2.out (by rw [mksH_len, Nat.mul_div_cancel _ (by decide)]) (fun j xs _ h => h)
                          intro j q hq
                          obtain ⟨xs, q1, q2⟩ := ho j q hq
                          exact ⟨xs, owns_two q1 HGW.out HST.out.2 (by decide), q2⟩
                        · intro j q hj hq
                          by_cases hjk : j = k
                          · subst hjk
                            have := HP.out
                            rw [hq] at this
                            cases this
                            refine ⟨_, ms, by rw [List.getElem?_set, if_pos rfl, if_pos (by omega)], owns_two H1.out HGW.out HST.out.2 (by decide), ?_⟩
                            rcases H4.out with ⟨g, cap, e1, e2⟩ | ⟨b, e1, e2⟩ | e1
                            · left; rw [e1, e2]; rfl
                            · exact .inr ⟨b, e1, by omega⟩
                            · injection e1 with _ e2 _; omega
                          · obtain ⟨gj, ys, q1, q2, q3⟩ := HOK.out j q (by omega) hq
                            refine ⟨gj, ys, by rw [List.getElem?_set, if_neg (fun e => hjk e.symm)]; exact q1, owns_two (q2.kept H3.out ?_) HGW.out HST.out.2 (by decide), q3⟩
                            rcases q3 with q3 | ⟨b, q3, q4⟩
                            · rw [q3]; exact HA.out j k q _ hq HP.out hjk
                            · right
                              rw [q3]
                              intro e
                              have := HOL.out k _ b HP.out e.symm
                              omega
                      case measure => simp [intOf]; omega
                · have HOW : Hid (Own 40 3 B R wr (fun j xs => xs = mks mcH j (xs.length / 3))) := hown
                  have HKT : Hid (KeepT 40 B w wr) := hkt
                  have HGS : Hid (wr.ownsRow B 23 1 (.slice (some ⟨G, 0, none⟩) R.length R.length) R.length gv) := hgs
                  have HOK : Hid (∀ (j : Nat) (p : Value × Nat), R[j]? = some p → ∃ gj ys, gv[j]? = some gj ∧ wr.ownsRow B 40 3 gj (p.2 + 64) (mks mcH j p.2 ++ ys)) := fun j p hp => by
                    obtain ⟨gj, ys, q1, q2, -⟩ := hok j p (by have := (List.getElem?_eq_some_iff.1 hp).1; omega) hp
                    exact ⟨gj, ys, q1, q2⟩
                  obtain ⟨X5, hX5⟩ : ∃ X5, X5 = wr := ⟨_, rfl⟩
                  clear hown hkt hgs hok
                  gi_wp2
                  rw [← hX5] at HOW HKT HGS HOK hXs ⊢
                  clear hX5
                  gi_loopw [14] (fun v wr => ∃ k : Nat, k ≤ R.length ∧ v = .int .i64 k ∧ Below X5.heap.size X5 wr) (fun v _ => R.length - (intOf v).toNat)
                  case atStart => exact ⟨0, by omega, rfl, Below.refl _ _⟩
                  case round =>
                    obtain ⟨k, hk, rfl, hb0⟩ := hrel
                    by_cases hlt : k < R.length
                    · obtain ⟨p, hp⟩ : ∃ p, R[k]? = some p := ⟨R[k], List.getElem?_eq_getElem hlt⟩
                      have hNp := HN.out p (List.mem_of_getElem? hp)
                      obtain ⟨vk, nk⟩ := p
                      simp only at hNp
                      obtain ⟨ys, hy1, hy2⟩ := HOW.out k _ hp
                      simp only at hy1
                      have hyl : ys.length / 3 = nk := by have := hy1.1; omega
                      rw [hyl] at hy2
                      subst hy2
                      obtain ⟨gk, zs, hg1, hg2⟩ := HOK.out k _ hp
                      simp only at hg2
                      obtain ⟨g, cg, rfl⟩ := ownsRow_succ (show X5.ownsRow B 40 3 gk ((nk + 63) + 1) (mks mcH k nk ++ zs) from hg2)
                      obtain ⟨ak, ck, rfl⟩ := slice_shape hy1
                      have cT3 : X5.cell? ⟨T, k, none⟩ = some (.slice ak nk ck) := HLS.out X5 k _ HKT.out hp
                      have cG3 : X5.cell? ⟨G, k, none⟩ = some (.slice (some ⟨g, 0, none⟩) (nk + 64) cg) := by
                        rw [HGS.out.cellAt k (by omega)]; exact hg1
                      have HR3 : Hid (X5.ownsRow B 40 3 (.slice (some ⟨g, 0, none⟩) (nk + 64) cg) (nk + 64) (mks mcH k nk ++ zs)) := hg2
                      have HV3 : Hid (X5.ownsRow B 40 3 (.slice ak nk ck) nk (mks mcH k nk)) := hy1
                      have cT : wr.cell? ⟨T, k, none⟩ = some (.slice ak nk ck) := (hb0.cell (p := ⟨T, k, none⟩) (by simpa using World.block_lt_of_cell? _ _ cT3)).trans cT3
                      clear hp hy1 hyl hg1 hg2
                      gi_wp2
                      gi_loopw [15] (fun v wr => ∃ i : Nat, i ≤ nk ∧ v = .int .i64 i ∧ Below X5.heap.size X5 wr) (fun v _ => nk - (intOf v).toNat)
                      case atStart => exact ⟨0, by omega, rfl, hb0⟩
                      case round =>
                      clear cT hb0
                      obtain ⟨i, hi, rfl, hb3⟩ := hrel
                      have cT : wr.cell? ⟨T, k, none⟩ = some (.slice ak nk ck) := (hb3.cell (p := ⟨T, k, none⟩) (by simpa using World.block_lt_of_cell? _ _ cT3)).trans cT3
                      by_cases hin : i < nk
                      · have cg3 : Tri X5 g i k := tri_of HR3.out (by
                          rw [List.getElem?_append_left (by rw [mksH_len]; omega), List.getElem?_append_left (by rw [mksH_len]; omega), List.getElem?_append_left (by rw [mksH_len]; omega)]; exact mksH_get k i _ hin) (by omega)
                        obtain ⟨h, rfl⟩ : ∃ h, ak = some ⟨h, 0, none⟩ := by
                          rcases HV3.out.2 with ⟨e1, e2⟩ | ⟨h, cap, cur, e1, _⟩
                          · omega
                          · injection e1 with e1 _ e3
                            exact ⟨h, e1⟩
                        have ch3 : Tri X5 h i k := tri_of HV3.out (mksH_get k i _ hin) hin
                        have HC : Hid (∀ W, Below wr.heap.size wr W → W.cell? ⟨T, k, none⟩ = some (.slice (some ⟨h, 0, none⟩) nk ck) ∧ W.cell? ⟨G, k, none⟩ = some (.slice (some ⟨g, 0, none⟩) (nk + 64) cg) ∧ Tri W g i k ∧ Tri W h i k) := fun W hW => by
                          have hs := hb3.size
                          have hB2 : Below X5.heap.size X5 W := hb3.trans (hW.mono hs)
                          exact ⟨(hB2.cell (p := ⟨T, k, none⟩) (by simpa using World.block_lt_of_cell? _ _ cT3)).trans cT3, (hB2.cell (p := ⟨G, k, none⟩) (by simpa using World.block_lt_of_cell? _ _ cG3)).trans cG3, cg3.below hB2, ch3.below hB2⟩
                        have hin3 : i < nk + 64 := by omega
                        have hin2 : i < nk := hin
                        have e3 : decide ((i : Int) < (nk : Int) + 64) = true := by simp; omega
                        have e4 : (i : Int) < (nk : Int) + 64 := by omega
                        clear cT3 cG3 cg3 ch3 hin
                        gi_wp2
                        refine region_lex (fun w' => w'.cell? ⟨T, k, none⟩ = some (.slice (some ⟨h, 0, none⟩) nk ck) ∧ w'.cell? ⟨G, k, none⟩ = some (.slice (some ⟨g, 0, none⟩) (nk + 64) cg) ∧ Tri w' g i k ∧ Tri w' h i k) 9 17 rfl (by kernel_rfl) (by kernel_rfl) (by kernel_rfl) (by kernel_rfl) (fun _ _ d _ _ h => by cases d <;> exact h) (HC.out _ (below_drewN (Below.refl _ wr) 1)) ?_
                        simp only [List.take_succ_cons, List.take_zero]
                        iterate 9 (first
                          | (apply lexC_want
                             · rfl
                             · exact fun _ => rfl
                             · (intro w' hw'; obtain ⟨q0, q1, ⟨q2, q4, q5⟩, q3⟩ := hw'; (first | obtain ⟨q6, q7, q8⟩ := q3 (by omega) | obtain ⟨q6, q7, q8⟩ := q3 | skip); go_simp; try rfl)
                             simp only [Act.put, List.setIfInBounds_toArray, List.set_cons_zero, List.set_cons_succ])
                          | (apply lexC_skip
                             · rfl
                             · exact fun _ => rfl
                             simp only [Act.put, List.setIfInBounds_toArray, List.set_cons_zero, List.set_cons_succ]))
                        refine lexC_nil ?_
                        refine anyC_one (i := 9) (by kernel_rfl) rfl (by rfl) (fun K1 hK1 => ?_)
                        go_simp
                        refine ⟨trivial, ?_⟩
                        refine (callsIn_wide.2 (markHunk_any k i (by omega) (by omega) _)).mono ?_
                        rintro e wm ⟨rfl, hbm⟩
                        have bm : Below wr.heap.size wr wm := (below_drewN (Below.refl _ wr) 1).trans hbm
                        refine hK1 _ _ (HC.out _ bm) ?_
                        clear hK1
                        refine anyC_one (i := 10) (by kernel_rfl) rfl (by rfl) (fun K1 hK1 => ?_)
                        go_simp
                        refine ⟨trivial, ?_⟩
                        refine (callsIn_wide.2 (sameMark k i _)).mono ?_
                        rintro e wn ⟨rfl, hbn⟩
                        have bn : Below wr.heap.size wr wn := bm.trans (hbn.mono bm.size)
                        refine hK1 _ _ (HC.out _ bn) ?_
                        clear hK1
                        refine anyC_more 11 11 4 15 rfl (by kernel_rfl) rfl (by decide) (by kernel_rfl) (fun _ _ d _ _ h => by cases d <;> exact h) (HC.out _ bn) ?_
                        simp only [List.drop_succ_cons, List.drop_zero, List.take_succ_cons, List.take_zero]
                        iterate 11 (first
                          | (apply lexC_want
                             · rfl
                             · exact fun _ => rfl
                             · (intro w' hw'; obtain ⟨q0, q1, ⟨q2, q4, q5⟩, q3⟩ := hw'; (first | obtain ⟨q6, q7, q8⟩ := q3 (by omega) | obtain ⟨q6, q7, q8⟩ := q3 | skip); go_simp; try rfl)
                             simp only [Act.put, List.setIfInBounds_toArray, List.set_cons_zero, List.set_cons_succ])
                          | (apply lexC_skip
                             · rfl
                             · exact fun _ => rfl
                             simp only [Act.put, List.setIfInBounds_toArray, List.set_cons_zero, List.set_cons_succ]))
                        refine lexC_nil ?_
                        refine anyC_one (i := 22) (by kernel_rfl) rfl (by rfl) (fun K2 hK2 => ?_)
                        go_simp
                        refine ⟨trivial, ?_⟩
                        refine (callsIn_wide.2 (markHunk_any k i (by omega) (by omega) _)).mono ?_
                        rintro e wm2 ⟨rfl, hbm2⟩
                        have bm2 : Below wr.heap.size wr wm2 := bn.trans (hbm2.mono bn.size)
                        refine hK2 _ _ (HC.out _ bm2) ?_
                        clear hK2
                        refine anyC_one (i := 23) (by kernel_rfl) rfl (by rfl) (fun K2 hK2 => ?_)
                        go_simp
                        refine ⟨trivial, ?_⟩
                        refine (callsIn_wide.2 (sameMark k i _)).mono ?_
                        rintro e wn2 ⟨rfl, hbn2⟩
                        have bn2 : Below wr.heap.size wr wn2 := bm2.trans (hbn2.mono bm2.size)
                        refine hK2 _ _ (HC.out _ bn2) ?_
                        clear hK2
                        refine anyC_more 24 2 0 2 rfl (by kernel_rfl) rfl (by decide) (by kernel_rfl) (fun _ _ d _ _ h => by cases d <;> exact h) (HC.out _ bn2) ?_
                        simp only [List.drop_succ_cons, List.drop_zero, List.take_succ_cons, List.take_zero]
                        iterate 2 (first
                          | (apply lexC_want
                             · rfl
                             · exact fun _ => rfl
                             · (intro w' hw'; obtain ⟨q0, q1, ⟨q2, q4, q5⟩, q3⟩ := hw'; (first | obtain ⟨q6, q7, q8⟩ := q3 (by omega) | obtain ⟨q6, q7, q8⟩ := q3 | skip); go_simp; try rfl)
                             simp only [Act.put, List.setIfInBounds_toArray, List.set_cons_zero, List.set_cons_succ])
                          | (apply lexC_skip
                             · rfl
                             · exact fun _ => rfl
                             simp only [Act.put, List.setIfInBounds_toArray, List.set_cons_zero, List.set_cons_succ]))
                        refine lexC_nil ?_
                        refine anyC_done (by kernel_rfl) ?_
                        clear HC
                        gi_wp2
                        go_roundw
                        case rel => exact ⟨i + 1, by omega, by go_num, hb3.trans (bn2.mono hb3.size)⟩
                        case measure => simp [intOf]; omega
                      · gi_wp2
                        go_roundw
                        case rel => exact ⟨k + 1, by omega, by go_num, hb3⟩
                        case measure => simp [intOf]; omega
                    · gi_wp2
                      exact bodyPost_ret (results_tmp rfl _ _ _) rfl ⟨rfl, HKT.out.trans (KeepT.of_below hb0 (by omega))⟩

end Go.Proofs.Ytkiafelpgcmifaa

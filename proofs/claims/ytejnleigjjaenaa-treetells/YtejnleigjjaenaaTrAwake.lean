/-
  The walk of awake: the document's examples.
-/
import Derived.Test.YtejnleigjjaenaaTrSame
import Derived.Test.YtejnleigjjaenaaSame
namespace Go.Proofs.Ytejnleigjjaenaa
open Go.RowKit Go.Shelf

attribute [local go_sem] Oper.semAt_some

namespace Aw
def one : Tr := .mk 20 [] 1 []
def ret : Tr := .mk 10 [] 0 [one]
def blk : Tr := .mk 5 [] 0 [ret]
def emp : Tr := .mk 5 [] 0 []
def cal : Tr := .mk 25 [102] 0 [.mk 22 [97] 0 [], .mk 22 [97] 0 []]
theorem get00 : Tr.get [0, 0] blk = some one := rfl
theorem put0 : Tr.put emp [0] blk = some (.mk 5 [] 0 [emp]) := rfl
theorem put1 : Tr.put one [0] blk = some (.mk 5 [] 0 [one]) := rfl
theorem put2 : Tr.put one [1] blk = none := rfl
theorem r0 : Tr.right 40 (.mk 5 [] 0 [emp]) = true := by decide +kernel
theorem r1 : Tr.right 40 (.mk 5 [] 0 [one]) = false := by decide +kernel
theorem r2 : Tr.right 40 blk = true := by decide +kernel
theorem res0 : Tr.putRes (Tr.put emp [0] blk) = (0, .mk 5 [] 0 [emp]) := by rw [put0]; simp [Tr.putRes, r0]
theorem res1 : Tr.putRes (Tr.put one [0] blk) = (4, Tr.zero) := by rw [put1]; simp [Tr.putRes, r1]
theorem res2 : Tr.putRes (Tr.put one [1] blk) = (6, Tr.zero) := by rw [put2]; rfl
theorem size3 : blk.size = 3 := by simp [blk, ret, one, Tr.size, Tr.sizes]
theorem names2 : Nm.uniq (Tr.namesL [cal]) = [[97], [102]] := by
  refine Nm.rises_ext _ _ (Nm.uniq_rises _) (by decide) (fun s => ?_)
  rw [Nm.uniq_mem]
  have : Tr.namesL [cal] = [[102], [97], [97]] := by simp [cal, Tr.namesL, Tr.names, Tr.bears]
  rw [this]
  simp [or_comm]
theorem bd1 : Tr.Bd [blk] := ⟨by simp [blk, ret, one, Tr.size, Tr.sizes], fun s hs => by simp [blk, ret, one, Tr.texts, Tr.textsL] at hs; simp [hs]⟩
theorem bd2 : Tr.Bd [blk, emp] := ⟨by simp [blk, ret, one, emp, Tr.size, Tr.sizes], fun s hs => by simp [blk, ret, one, emp, Tr.texts, Tr.textsL] at hs; simp [hs]⟩
theorem bd3 : Tr.Bd [blk, one] := ⟨by simp [blk, ret, one, Tr.size, Tr.sizes], fun s hs => by simp [blk, ret, one, Tr.texts, Tr.textsL] at hs; simp [hs]⟩
theorem bd4 : Tr.Bd [cal] := ⟨by simp [cal, Tr.size, Tr.sizes], fun s hs => by simp [cal, Tr.texts, Tr.textsL] at hs; rcases hs with h | h <;> simp [h]⟩
end Aw

/-- The examples' nodes, as they lie in memory. -/
structure AwW (w W : World) : Prop where
  below : Below w.heap.size w W
  b0 : W.heap[w.heap.size]? = some (.cells #[.int .u8 20, .string ⟨#[]⟩, .int .i64 1, .slice none 0 0] 25 (0, 0))
  b1 : W.heap[w.heap.size + 1]? = some (.cells #[.int .u8 20, .string ⟨#[]⟩, .int .i64 1, .slice none 0 0] 25 (0, 0))
  b2 : W.heap[w.heap.size + 1 + 1]? = some (.cells #[.int .u8 10, .string ⟨#[]⟩, .int .i64 0, .slice (some ⟨w.heap.size + 1, 0, none⟩) 1 1] 25 (0, 0))
  b3 : W.heap[w.heap.size + 1 + 1 + 1]? = some (.cells #[.int .u8 5, .string ⟨#[]⟩, .int .i64 0, .slice (some ⟨w.heap.size + 1 + 1, 0, none⟩) 1 1] 25 (0, 0))
theorem AwW.at {w A B : World} (h : AwW w A) (hb : Below A.heap.size A B) : AwW w B := by
  obtain ⟨h0, h1, h2, h3, h4⟩ := h
  have up : ∀ {k : Nat} {o : Obj}, A.heap[k]? = some o → B.heap[k]? = some o := fun h => (hb.block _ (Array.getElem?_eq_some_iff.1 h).1).trans h
  exact ⟨below_then h0 hb, up h1, up h2, up h3, up h4⟩
theorem aw_one (W : World) : NodeR (lowS W.heap.size) W (.agg #[.int .u8 20, .string ⟨#[]⟩, .int .i64 1, .slice none 0 0]) Aw.one :=
  ⟨⟨20, [], 1, .slice none 0 0, []⟩, rfl, rfl, by simp [N1.Fit], rowR_nil _ _⟩
theorem AwW.blk {w W : World} (h : AwW w W) : NodeR (lowS W.heap.size) W (.agg #[.int .u8 5, .string ⟨#[]⟩, .int .i64 0, .slice (some ⟨w.heap.size + 1 + 1, 0, none⟩) 1 1]) Aw.blk := by
  have l1 : w.heap.size + 1 < W.heap.size := (Array.getElem?_eq_some_iff.1 h.b1).1
  have l2 : w.heap.size + 1 + 1 < W.heap.size := (Array.getElem?_eq_some_iff.1 h.b2).1
  have r1 : RowR (lowS W.heap.size) W (.slice (some ⟨w.heap.size + 1, 0, none⟩) 1 1) [Aw.one] := RowR.one (x := ⟨20, [], 1, .slice none 0 0, []⟩) h.b1 rfl (Nat.le_refl _) l1 (by simp [N1.Fit]) (rowR_nil _ _)
  have r2 : RowR (lowS W.heap.size) W (.slice (some ⟨w.heap.size + 1 + 1, 0, none⟩) 1 1) [Aw.ret] := RowR.one (x := ⟨10, [], 0, .slice (some ⟨w.heap.size + 1, 0, none⟩) 1 1, [Aw.one]⟩) h.b2 rfl (Nat.le_refl _) l2 (by simp [N1.Fit]) r1
  exact ⟨⟨5, [], 0, .slice (some ⟨w.heap.size + 1 + 1, 0, none⟩) 1 1, [Aw.ret]⟩, rfl, rfl, by simp [N1.Fit], r2⟩
theorem AwW.cells {w W : World} (h : AwW w W) : (W.cell? ⟨w.heap.size, 0, none⟩ = some (.int .u8 20) ∧ W.cell? ⟨w.heap.size, 1, none⟩ = some (.string ⟨#[]⟩) ∧ W.cell? ⟨w.heap.size, 2, none⟩ = some (.int .i64 1) ∧ W.cell? ⟨w.heap.size, 3, none⟩ = some (.slice none 0 0)) ∧
    (W.cell? ⟨w.heap.size + 1 + 1 + 1, 0, none⟩ = some (.int .u8 5) ∧ W.cell? ⟨w.heap.size + 1 + 1 + 1, 1, none⟩ = some (.string ⟨#[]⟩) ∧ W.cell? ⟨w.heap.size + 1 + 1 + 1, 2, none⟩ = some (.int .i64 0) ∧ W.cell? ⟨w.heap.size + 1 + 1 + 1, 3, none⟩ = some (.slice (some ⟨w.heap.size + 1 + 1, 0, none⟩) 1 1)) :=
  ⟨⟨cells_at h.b0 rfl, cells_at h.b0 rfl, cells_at h.b0 rfl, cells_at h.b0 rfl⟩, ⟨cells_at h.b3 rfl, cells_at h.b3 rfl, cells_at h.b3 rfl, cells_at h.b3 rfl⟩⟩
theorem path_new (W : World) (T : List Int) : PathLow (W.alloc (.cells (T.map (Value.int .i64)).toArray 3)).heap.size (W.alloc (.cells (T.map (Value.int .i64)).toArray 3)) (.slice (some ⟨W.heap.size, 0, none⟩) T.length T.length) T := CellsLow.lit W (T.map (Value.int .i64)) 3 T.length

set_option maxRecDepth 100000 in
set_option maxHeartbeats 8000000 in
theorem awake6_any (w : World) : Calls Try.prog 4 #[] w fun e w' => e = .returned (.bool true) ∧ Below w.heap.size w w' := by
  obtain ⟨A1, h1⟩ : ∃ A, A = w.alloc (.cells #[.int .u8 20, .string ⟨#[]⟩, .int .i64 1, .slice none 0 0] 25) := ⟨_, rfl⟩
  obtain ⟨A2, h2⟩ : ∃ A, A = A1.alloc (.cells #[.int .u8 20, .string ⟨#[]⟩, .int .i64 1, .slice none 0 0] 25) := ⟨_, rfl⟩
  obtain ⟨A3, h3⟩ : ∃ A, A = A2.alloc (.cells #[.int .u8 10, .string ⟨#[]⟩, .int .i64 0, .slice (some ⟨w.heap.size + 1, 0, none⟩) 1 1] 25) := ⟨_, rfl⟩
  obtain ⟨A4, h4⟩ : ∃ A, A = A3.alloc (.cells #[.int .u8 5, .string ⟨#[]⟩, .int .i64 0, .slice (some ⟨w.heap.size + 1 + 1, 0, none⟩) 1 1] 25) := ⟨_, rfl⟩
  obtain ⟨A5, h5⟩ : ∃ A, A = A4.alloc (.cells #[.int .i64 0, .int .i64 0] 3) := ⟨_, rfl⟩
  have s1 : A1.heap.size = w.heap.size + 1 := by rw [h1, World.size_alloc]
  have s2 : A2.heap.size = w.heap.size + 1 + 1 := by rw [h2, World.size_alloc, s1]
  have s3 : A3.heap.size = w.heap.size + 1 + 1 + 1 := by rw [h3, World.size_alloc, s2]
  have s4 : A4.heap.size = w.heap.size + 1 + 1 + 1 + 1 := by rw [h4, World.size_alloc, s3]
  have n1 := World.alloc_heap_new w (.cells #[.int .u8 20, .string ⟨#[]⟩, .int .i64 1, .slice none 0 0] 25)
  have n2 := World.alloc_heap_new A1 (.cells #[.int .u8 20, .string ⟨#[]⟩, .int .i64 1, .slice none 0 0] 25)
  have n3 := World.alloc_heap_new A2 (.cells #[.int .u8 10, .string ⟨#[]⟩, .int .i64 0, .slice (some ⟨w.heap.size + 1, 0, none⟩) 1 1] 25)
  have n4 := World.alloc_heap_new A3 (.cells #[.int .u8 5, .string ⟨#[]⟩, .int .i64 0, .slice (some ⟨w.heap.size + 1 + 1, 0, none⟩) 1 1] 25)
  rw [← h1] at n1
  rw [← h2, s1] at n2
  rw [← h3, s2] at n3
  rw [← h4, s3] at n4
  have b1 : Below w.heap.size w A1 := h1 ▸ below_new w _
  have b2 : Below A1.heap.size A1 A2 := h2 ▸ below_new A1 _
  have b3 : Below A2.heap.size A2 A3 := h3 ▸ below_new A2 _
  have b4 : Below A3.heap.size A3 A4 := h4 ▸ below_new A3 _
  have b34 := below_then b3 b4
  have b24 := below_then b2 b34
  have a4 : AwW w A4 := ⟨below_then b1 b24, (b24.block _ (by omega)).trans n1, (b34.block _ (by omega)).trans n2, (b4.block _ (by omega)).trans n3, n4⟩
  have a5 : AwW w A5 := a4.at (h5 ▸ below_new A4 _)
  have hp : PathLow A5.heap.size A5 (.slice (some ⟨A4.heap.size, 0, none⟩) 2 2) [0, 0] := by rw [h5]; exact path_new A4 [0, 0]
  rw [s4] at hp
  have HG : Hid (_) := get_any Aw.blk (.agg #[.int .u8 5, .string ⟨#[]⟩, .int .i64 0, .slice (some ⟨w.heap.size + 1 + 1, 0, none⟩) 1 1]) (.slice (some ⟨w.heap.size + 1 + 1 + 1 + 1, 0, none⟩) 2 2) [0, 0] A5 a5.blk Aw.bd1 hp (by decide)
  have HA5 : Hid (AwW w A5) := a5
  clear s1 s2 s3 s4 n1 n2 n3 n4 b1 b2 b3 b4 b34 b24 a4 a5 hp
  go_enter Try.func4, Try.ntmps4
  go_wp2_with fail
  rw [← h1, ← h2, ← h3, ← h4, ← h5]
  clear h1 h2 h3 h4 h5
  refine Calls.mono HG.out ?_
  rintro e w1 ⟨hb1, r, rfl, hr⟩
  rw [Aw.get00] at hr ⊢
  simp only [Option.isSome_some, Option.getD_some] at hr ⊢
  obtain ⟨⟨x1k, x1t, x1n, x1v, x1kids⟩, rfl, hx1, hx1f, hx1r⟩ := hr
  obtain ⟨x1a, x1c, hx1v⟩ := hx1r.slice
  simp only at hx1v
  subst hx1v
  simp only [N1.cells]
  have HA1 : Hid (AwW w w1) := HA5.out.at hb1
  have HX1 : Hid ((⟨x1k, x1t, x1n, .slice x1a x1kids.length x1c, x1kids⟩ : N1).tr = Aw.one ∧ (⟨x1k, x1t, x1n, .slice x1a x1kids.length x1c, x1kids⟩ : N1).Fit ∧ RowR (lowS w1.heap.size) w1 (.slice x1a x1kids.length x1c) x1kids) := ⟨hx1, hx1f, hx1r⟩
  clear hb1 HG HA5 hx1 hx1f hx1r
  -- Put 1
  obtain ⟨X1, hX1⟩ : ∃ X, X = w1.alloc (.cells #[.int .u8 x1k, .string (Ln.bs x1t), .int .i64 x1n, .slice x1a x1kids.length x1c] 25) := ⟨_, rfl⟩
  obtain ⟨V1, hV1⟩ : ∃ V, V = X1.alloc (.cells #[.int .i64 0] 3) := ⟨_, rfl⟩
  have sX1 : X1.heap.size = w1.heap.size + 1 := by rw [hX1, World.size_alloc]
  have aX1 : AwW w X1 := HA1.out.at (hX1 ▸ below_new w1 _)
  have aV1 : AwW w V1 := aX1.at (hV1 ▸ below_new X1 _)
  have hp1 : PathLow V1.heap.size V1 (.slice (some ⟨X1.heap.size, 0, none⟩) 1 1) [0] := by rw [hV1]; exact path_new X1 [0]
  rw [sX1] at hp1
  have HC1 : Hid (_) := tput_any Aw.blk Aw.emp (.agg #[.int .u8 5, .string ⟨#[]⟩, .int .i64 0, .slice (some ⟨w.heap.size + 1 + 1, 0, none⟩) 1 1]) (.agg #[.int .u8 5, .string ⟨#[]⟩, .int .i64 0, .slice none 0 0]) (.slice (some ⟨w1.heap.size + 1, 0, none⟩) 1 1) [0] V1 aV1.blk ⟨⟨5, [], 0, .slice none 0 0, []⟩, rfl, rfl, by simp [N1.Fit], rowR_nil _ _⟩ Aw.bd2 hp1 (by decide)
  have HAV1 : Hid (AwW w V1) := aV1
  obtain ⟨⟨o0, o1, o2, o3⟩, ⟨k0, k1, k2, k3⟩⟩ := aX1.cells
  rw [hX1] at o0 o1 o2 o3 k0 k1 k2 k3
  clear hp1 aV1
  go_wp2_with fail
  rw [← hX1, ← hV1]
  refine Calls.mono HC1.out ?_
  rintro e w2 ⟨hb, r, rfl, hr⟩
  rw [Aw.res0] at hr ⊢
  simp only at hr ⊢
  obtain ⟨⟨x2k, x2t, x2n, x2v, x2kids⟩, rfl, hx2, hx2f, hx2r⟩ := hr
  obtain ⟨x2a, x2c, hx2v⟩ := hx2r.slice
  simp only at hx2v
  subst hx2v
  simp only [N1.cells]
  have HA2 : Hid (AwW w w2) := HAV1.out.at hb
  have HB1 : Hid (X1.heap[w1.heap.size]? = some (.cells #[.int .u8 x1k, .string (Ln.bs x1t), .int .i64 x1n, .slice x1a x1kids.length x1c] 25 (0, 0)) ∧ Below X1.heap.size X1 w2 ∧ Below w1.heap.size w1 X1) := ⟨by rw [hX1]; exact World.alloc_heap_new w1 _, below_then (hV1 ▸ below_new X1 _) hb, hX1 ▸ below_new w1 _⟩
  have HY1 : Hid (x2kids.length = 1) := by
    show x2kids.length = 1
    have h9 := congrArg Tr.kids hx2
    have : x2kids = [Aw.emp] := h9
    rw [this]; rfl
  clear hb HC1 HAV1 hx2 hx2f hx2r hX1 hV1 sX1 o0 o1 o2 o3 k0 k1 k2 k3 HA1
  obtain ⟨X2, hX2⟩ : ∃ X, X = w2.alloc (.cells #[.int .u8 x2k, .string (Ln.bs x2t), .int .i64 x2n, .slice x2a x2kids.length x2c] 25) := ⟨_, rfl⟩
  obtain ⟨V2, hV2⟩ : ∃ V, V = X2.alloc (.cells #[.int .i64 0] 3) := ⟨_, rfl⟩
  have sX2 : X2.heap.size = w2.heap.size + 1 := by rw [hX2, World.size_alloc]
  have aX2 : AwW w X2 := HA2.out.at (hX2 ▸ below_new w2 _)
  have aV2 : AwW w V2 := aX2.at (hV2 ▸ below_new X2 _)
  have hp2 : PathLow V2.heap.size V2 (.slice (some ⟨X2.heap.size, 0, none⟩) 1 1) [0] := by rw [hV2]; exact path_new X2 [0]
  rw [sX2] at hp2
  have HC2 : Hid (_) := tput_any Aw.blk Aw.one (.agg #[.int .u8 5, .string ⟨#[]⟩, .int .i64 0, .slice (some ⟨w.heap.size + 1 + 1, 0, none⟩) 1 1]) (.agg #[.int .u8 20, .string ⟨#[]⟩, .int .i64 1, .slice none 0 0]) (.slice (some ⟨w2.heap.size + 1, 0, none⟩) 1 1) [0] V2 aV2.blk (aw_one _) Aw.bd3 hp2 (by decide)
  have HAV2 : Hid (AwW w V2) := aV2
  obtain ⟨⟨o0, o1, o2, o3⟩, ⟨k0, k1, k2, k3⟩⟩ := aX2.cells
  rw [hX2] at o0 o1 o2 o3 k0 k1 k2 k3
  clear hp2 aV2 aX2
  go_wp2_with fail
  rw [← hX2, ← hV2]
  refine Calls.mono HC2.out ?_
  rintro e w3 ⟨hb, r, rfl, hr⟩
  rw [Aw.res1] at hr ⊢
  simp only at hr ⊢
  obtain ⟨⟨x3k, x3t, x3n, x3v, x3kids⟩, rfl, hx3, hx3f, hx3r⟩ := hr
  obtain ⟨x3a, x3c, hx3v⟩ := hx3r.slice
  simp only at hx3v
  subst hx3v
  simp only [N1.cells]
  have HA3 : Hid (AwW w w3) := HAV2.out.at hb
  have HB2 : Hid (X2.heap[w2.heap.size]? = some (.cells #[.int .u8 x2k, .string (Ln.bs x2t), .int .i64 x2n, .slice x2a x2kids.length x2c] 25 (0, 0)) ∧ Below X2.heap.size X2 w3 ∧ Below w2.heap.size w2 X2) := ⟨by rw [hX2]; exact World.alloc_heap_new w2 _, below_then (hV2 ▸ below_new X2 _) hb, hX2 ▸ below_new w2 _⟩
  clear hb HC2 HAV2 hx3 hx3f hx3r hX2 hV2 sX2 o0 o1 o2 o3 k0 k1 k2 k3 HA2
  obtain ⟨X3, hX3⟩ : ∃ X, X = w3.alloc (.cells #[.int .u8 x3k, .string (Ln.bs x3t), .int .i64 x3n, .slice x3a x3kids.length x3c] 25) := ⟨_, rfl⟩
  obtain ⟨V3, hV3⟩ : ∃ V, V = X3.alloc (.cells #[.int .i64 1] 3) := ⟨_, rfl⟩
  have sX3 : X3.heap.size = w3.heap.size + 1 := by rw [hX3, World.size_alloc]
  have aX3 : AwW w X3 := HA3.out.at (hX3 ▸ below_new w3 _)
  have aV3 : AwW w V3 := aX3.at (hV3 ▸ below_new X3 _)
  have hp3 : PathLow V3.heap.size V3 (.slice (some ⟨X3.heap.size, 0, none⟩) 1 1) [1] := by rw [hV3]; exact path_new X3 [1]
  rw [sX3] at hp3
  have HC3 : Hid (_) := tput_any Aw.blk Aw.one (.agg #[.int .u8 5, .string ⟨#[]⟩, .int .i64 0, .slice (some ⟨w.heap.size + 1 + 1, 0, none⟩) 1 1]) (.agg #[.int .u8 20, .string ⟨#[]⟩, .int .i64 1, .slice none 0 0]) (.slice (some ⟨w3.heap.size + 1, 0, none⟩) 1 1) [1] V3 aV3.blk (aw_one _) Aw.bd3 hp3 (by decide)
  have HAV3 : Hid (AwW w V3) := aV3
  obtain ⟨⟨o0, o1, o2, o3⟩, ⟨k0, k1, k2, k3⟩⟩ := aX3.cells
  rw [hX3] at o0 o1 o2 o3 k0 k1 k2 k3
  clear hp3 aV3 aX3
  go_wp2_with fail
  rw [← hX3, ← hV3]
  refine Calls.mono HC3.out ?_
  rintro e w4 ⟨hb, r, rfl, hr⟩
  rw [Aw.res2] at hr ⊢
  simp only at hr ⊢
  obtain ⟨⟨x4k, x4t, x4n, x4v, x4kids⟩, rfl, hx4, hx4f, hx4r⟩ := hr
  obtain ⟨x4a, x4c, hx4v⟩ := hx4r.slice
  simp only at hx4v
  subst hx4v
  simp only [N1.cells]
  have HA4 : Hid (AwW w w4) := HAV3.out.at hb
  have B34 : Hid (Below w3.heap.size w3 w4) := below_then (hX3 ▸ below_new w3 _) (below_then (hV3 ▸ below_new X3 _) hb)
  clear hb HC3 HAV3 hx4 hx4f hx4r hX3 hV3 sX3 o0 o1 o2 o3 k0 k1 k2 k3 HA3
  obtain ⟨X4, hX4⟩ : ∃ X, X = w4.alloc (.cells #[.int .u8 x4k, .string (Ln.bs x4t), .int .i64 x4n, .slice x4a x4kids.length x4c] 25) := ⟨_, rfl⟩
  obtain ⟨Y1, hY1⟩ : ∃ X, X = X4.alloc (.cells #[.int .u8 22, .string ⟨#[97]⟩, .int .i64 0, .slice none 0 0, .int .u8 22, .string ⟨#[97]⟩, .int .i64 0, .slice none 0 0] 25) := ⟨_, rfl⟩
  obtain ⟨Y2, hY2⟩ : ∃ X, X = Y1.alloc (.cells #[.int .u8 25, .string ⟨#[102]⟩, .int .i64 0, .slice (some ⟨w4.heap.size + 1, 0, none⟩) 2 2] 25) := ⟨_, rfl⟩
  go_wp2_with fail
  rw [← hX4, ← hY1, ← hY2]
  have sX4 : X4.heap.size = w4.heap.size + 1 := by rw [hX4, World.size_alloc]
  have sY1 : Y1.heap.size = w4.heap.size + 1 + 1 := by rw [hY1, World.size_alloc, sX4]
  have sY2 : Y2.heap.size = w4.heap.size + 1 + 1 + 1 := by rw [hY2, World.size_alloc, sY1]
  have m1 := World.alloc_heap_new X4 (.cells #[.int .u8 22, .string ⟨#[97]⟩, .int .i64 0, .slice none 0 0, .int .u8 22, .string ⟨#[97]⟩, .int .i64 0, .slice none 0 0] 25)
  have m2 := World.alloc_heap_new Y1 (.cells #[.int .u8 25, .string ⟨#[102]⟩, .int .i64 0, .slice (some ⟨w4.heap.size + 1, 0, none⟩) 2 2] 25)
  rw [← hY1, sX4] at m1
  rw [← hY2, sY1] at m2
  have bY2 : Below Y1.heap.size Y1 Y2 := hY2 ▸ below_new Y1 _
  have b4Y : Below w4.heap.size w4 Y2 := below_then (hX4 ▸ below_new w4 _) (below_then (hY1 ▸ below_new X4 _) bY2)
  have m1' : Y2.heap[w4.heap.size + 1]? = some (.cells #[.int .u8 22, .string ⟨#[97]⟩, .int .i64 0, .slice none 0 0, .int .u8 22, .string ⟨#[97]⟩, .int .i64 0, .slice none 0 0] 25 (0, 0)) := (bY2.block _ (by omega)).trans m1
  have rk : RowR (lowS Y2.heap.size) Y2 (.slice (some ⟨w4.heap.size + 1, 0, none⟩) 2 2) [.mk 22 [97] 0 [], .mk 22 [97] 0 []] := by
    refine .mk [⟨22, [97], 0, .slice none 0 0, []⟩, ⟨22, [97], 0, .slice none 0 0, []⟩] rfl ⟨_, 2, w4.heap.size + 1, 0, rfl, ⟨Nat.le_refl _, fun e => by cases e⟩, fun _ => ⟨rfl, show w4.heap.size + 1 < Y2.heap.size from by omega⟩, fun j u hu => ?_⟩ (by simp) (fun x hx => ?_) (fun x hx => ?_)
    · rw [Lib.cell_of_heap m1', Nat.zero_add, ← Array.getElem?_toList]
      exact hu
    · simp only [List.mem_cons, List.not_mem_nil, or_false] at hx
      rcases hx with rfl | rfl <;> simp [N1.Fit]
    · simp only [List.mem_cons, List.not_mem_nil, or_false] at hx
      rcases hx with rfl | rfl <;> exact rowR_nil _ _
  have rc : RowR (lowS Y2.heap.size) Y2 (.slice (some ⟨w4.heap.size + 1 + 1, 0, none⟩) 1 1) [Aw.cal] := RowR.one (x := ⟨25, [102], 0, .slice (some ⟨w4.heap.size + 1, 0, none⟩) 2 2, [.mk 22 [97] 0 [], .mk 22 [97] 0 []]⟩) m2 rfl (Nat.le_refl _) (show w4.heap.size + 1 + 1 < Y2.heap.size from by omega) (by simp [N1.Fit]) rk
  have HNA : Hid (_) := names_any [Aw.cal] _ Y2 rc Aw.bd4
  have HAY : Hid (AwW w Y2 ∧ Below w4.heap.size w4 Y2) := ⟨HA4.out.at b4Y, b4Y⟩
  clear sX4 sY1 sY2 m1 m2 bY2 b4Y m1' rk rc hX4 hY1 hY2 HA4
  refine Calls.mono HNA.out ?_
  rintro e w5 ⟨r, rfl, ho5, hb5⟩
  rw [Aw.names2] at ho5
  obtain ⟨ra, rcap, rfl⟩ := slice_shape ho5
  have HO5 : Hid (w5.ownsRow Y2.heap.size 9 1 (.slice ra 2 rcap) 2 ([[97], [102]].map txtV)) := ho5
  have A5 : Hid (AwW w w5 ∧ Below w4.heap.size w4 w5) := ⟨HAY.out.1.at hb5, below_then HAY.out.2 hb5⟩
  obtain ⟨⟨o0, o1, o2, o3⟩, ⟨k0, k1, k2, k3⟩⟩ := A5.out.1.cells
  have HRI : Hid (_) := tright_any (lowS w5.heap.size) Aw.blk (.agg #[.int .u8 5, .string ⟨#[]⟩, .int .i64 0, .slice (some ⟨w.heap.size + 1 + 1, 0, none⟩) 1 1]) w5 (fun _ h => h) A5.out.1.blk
  rw [Aw.r2] at HRI
  clear HNA HAY ho5 hb5
  simp only [List.length_cons, List.length_nil, Nat.reduceAdd]
  go_wp2_with fail
  refine Calls.mono HRI.out ?_
  rintro e w6 ⟨rfl, hb6⟩
  have A6 : Hid (AwW w w6 ∧ Below w4.heap.size w4 w6 ∧ Below w5.heap.size w5 w6) := ⟨A5.out.1.at hb6, below_then A5.out.2 hb6, hb6⟩
  clear HRI hb6 o0 o1 o2 o3 k0 k1 k2 k3
  obtain ⟨⟨o0, o1, o2, o3⟩, ⟨k0, k1, k2, k3⟩⟩ := A6.out.1.cells
  have HSZ : Hid (_) := size_any Aw.blk (.agg #[.int .u8 5, .string ⟨#[]⟩, .int .i64 0, .slice (some ⟨w.heap.size + 1 + 1, 0, none⟩) 1 1]) w6 A6.out.1.blk (by rw [Aw.size3]; omega)
  rw [Aw.size3] at HSZ
  go_wp2_with fail
  refine Calls.mono HSZ.out ?_
  rintro e w7 ⟨rfl, hb7⟩
  have A7 : Hid (AwW w w7 ∧ Below w4.heap.size w4 w7 ∧ Below w5.heap.size w5 w7) := ⟨A6.out.1.at hb7, below_then A6.out.2.1 hb7, below_then A6.out.2.2 hb7⟩
  clear HSZ hb7 o0 o1 o2 o3 k0 k1 k2 k3 A6
  obtain ⟨⟨o0, o1, o2, o3⟩, ⟨k0, k1, k2, k3⟩⟩ := A7.out.1.cells
  have bX2w7 : Below X2.heap.size X2 w7 := below_then HB2.out.2.1 (below_then B34.out A7.out.2.1)
  have bw2w7 : Below w2.heap.size w2 w7 := below_then HB2.out.2.2 bX2w7
  have bX1w7 : Below X1.heap.size X1 w7 := below_then HB1.out.2.1 bw2w7
  have bw1w7 : Below w1.heap.size w1 w7 := below_then HB1.out.2.2 bX1w7
  have hxb : w7.heap[w1.heap.size]? = some (.cells #[.int .u8 x1k, .string (Ln.bs x1t), .int .i64 x1n, .slice x1a x1kids.length x1c] 25 (0, 0)) := (bX1w7.block _ (Array.getElem?_eq_some_iff.1 HB1.out.1).1).trans HB1.out.1
  have hyb : w7.heap[w2.heap.size]? = some (.cells #[.int .u8 x2k, .string (Ln.bs x2t), .int .i64 x2n, .slice x2a x2kids.length x2c] 25 (0, 0)) := (bX2w7.block _ (Array.getElem?_eq_some_iff.1 HB2.out.1).1).trans HB2.out.1
  have p0 : w7.cell? ⟨w1.heap.size, 0, none⟩ = some (.int .u8 x1k) := cells_at hxb rfl
  have p1 : w7.cell? ⟨w1.heap.size, 1, none⟩ = some (.string (Ln.bs x1t)) := cells_at hxb rfl
  have p2 : w7.cell? ⟨w1.heap.size, 2, none⟩ = some (.int .i64 x1n) := cells_at hxb rfl
  have p3 : w7.cell? ⟨w1.heap.size, 3, none⟩ = some (.slice x1a x1kids.length x1c) := cells_at hxb rfl
  have HSN : Hid (_) := sameNode_any Aw.one (lowS w7.heap.size) (lowS w7.heap.size) (.agg #[.int .u8 x1k, .string (Ln.bs x1t), .int .i64 x1n, .slice x1a x1kids.length x1c]) (.agg #[.int .u8 20, .string ⟨#[]⟩, .int .i64 1, .slice none 0 0]) Aw.one w7 (fun _ h => h) (fun _ h => h) ⟨⟨x1k, x1t, x1n, .slice x1a x1kids.length x1c, x1kids⟩, rfl, HX1.out.1, HX1.out.2.1, HX1.out.2.2.at bw1w7⟩ (aw_one w7)
  rw [Tr.eqb_refl] at HSN
  have HYB : Hid (w7.heap[w2.heap.size]? = some (.cells #[.int .u8 x2k, .string (Ln.bs x2t), .int .i64 x2n, .slice x2a x2kids.length x2c] 25 (0, 0))) := hyb
  clear bX2w7 bw2w7 bX1w7 bw1w7 hxb hyb HB1 HB2 HX1 B34
  go_wp2_with fail
  refine Calls.mono HSN.out ?_
  rintro e w8 ⟨rfl, hb8⟩
  have hy8 : w8.heap[w2.heap.size]? = some (.cells #[.int .u8 x2k, .string (Ln.bs x2t), .int .i64 x2n, .slice x2a x2kids.length x2c] 25 (0, 0)) := (hb8.block _ (Array.getElem?_eq_some_iff.1 HYB.out).1).trans HYB.out
  have y3 : w8.cell? ⟨w2.heap.size, 3, none⟩ = some (.slice x2a 1 x2c) := by rw [← HY1.out]; exact cells_at hy8 rfl
  obtain ⟨Z, hZ⟩ : ∃ Z, Z = w8.alloc (.cells #[.string ⟨#[97]⟩, .string ⟨#[102]⟩] 9) := ⟨_, rfl⟩
  have bZ : Below w8.heap.size w8 Z := hZ ▸ below_new w8 _
  have hl1 : RowLow Z.heap.size Z (.slice ra 2 rcap) [[97], [102]] := ((RowLow.of_owns HO5.out).at (below_then A7.out.2.2 hb8)).at bZ
  have hl2 : RowLow Z.heap.size Z (.slice (some ⟨w8.heap.size, 0, none⟩) 2 2) [[97], [102]] := by rw [hZ]; exact CellsLow.lit w8 ([[97], [102]].map txtV) 9 2
  have HST : Hid (_) := same_any Z _ _ [[97], [102]] [[97], [102]] _ _ hl1 hl2 (by decide) (by decide)
  have HBZ : Hid (Below w.heap.size w Z) := below_then (A7.out.1.at hb8).below bZ
  clear HSN hb8 hy8 bZ hl1 hl2 HYB HO5 A7 A5 o0 o1 o2 o3 k0 k1 k2 k3 p0 p1 p2 p3
  go_wp2_with fail
  rw [← hZ]
  refine Calls.mono HST.out ?_
  rintro e w9 ⟨rfl, q, rfl⟩
  have HF : Hid (Below w.heap.size w (Z.drewN q)) := below_drewN HBZ.out q
  clear HST HBZ hZ
  go_wp2
  go_ret
  exact ⟨by simp, HF.out⟩
end Go.Proofs.Ytejnleigjjaenaa

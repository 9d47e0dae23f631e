/- The developers' large numbers: the long division. -/
import Derived.Test.YtmcfciifjgdgoaaGreatDoorPe1
import Derived.Test.YtmcfciifjgdgoaaGreatDoorPe2
import Derived.Test.YtmcfciifjgdgoaaGreatDoorMg45
import Derived.Test.YtmcfciifjgdgoaaGreatDoorPl4
namespace Go.Proofs.YtmcfciifjgdgoaaGreatDoor
open Go.RowKit Go.Shelf
attribute [local go_sem] Oper.semAt_some

/-- What the loop's own memory holds. -/
structure LdMem (H S Hr m n d c4 : Nat) (B : Option Addr) (Q L : List Nat) (sp : List Value) (W : World) : Prop where
  b0 : Blk W H 22 #[.slice B (n + 2) d]
  b1 : Blk W (H + 1) 3 #[.int .i64 (((n : Nat) : Int) + 2)]
  b2 : Blk W S 22 #[.slice (some ⟨Hr, 0, none⟩) (m + n + 3) c4]
  b3 : Blk W (S + 1) 55 (numCells .u32 Q).toArray
  b4 : Blk W (S + 1 + 1) 22 #[.slice (some ⟨S + 1, 0, none⟩) (m + 1) (m + 1)]
  b5 : Blk W (S + 1 + 1 + 1) 22 #[.slice (some ⟨S + 1, 0, none⟩) (m + 1) (m + 1)]
  b6 : Blk W Hr 55 (rowOf L sp)
/-- The blocks' places. -/
structure LdOrd (B H S Hr : Nat) : Prop where
  o1 : H + 1 < S
  o2 : Hr < S
  o3 : Hr ≠ H
  o4 : Hr ≠ H + 1
  o5 : B ≤ H
  o6 : B ≤ Hr
section
variable {H S Hr m n d c4 : Nat} {B : Option Addr} {Q L : List Nat} {sp : List Value} {W W' : World}
theorem LdMem.grew (h : LdMem H S Hr m n d c4 B Q L sp W) (hg : Grew W W') : LdMem H S Hr m n d c4 B Q L sp W' :=
  ⟨h.b0.grew hg, h.b1.grew hg, h.b2.grew hg, h.b3.grew hg, h.b4.grew hg, h.b5.grew hg, h.b6.grew hg⟩
theorem LdMem.kept {row : Option Nat} (h : LdMem H S Hr m n d c4 B Q L sp W) (hg : W.grownBy W' row) (hr : ∀ r, row = some r → ∃ o : Obj, W.heap[r]? = some o ∧ o.isCells = false) : LdMem H S Hr m n d c4 B Q L sp W' :=
  ⟨h.b0.kept hg hr, h.b1.kept hg hr, h.b2.kept hg hr, h.b3.kept hg hr, h.b4.kept hg hr, h.b5.kept hg hr, h.b6.kept hg hr⟩
theorem LdMem.setQ {b : Nat} (h : LdMem H S Hr m n d c4 B Q L sp W) (ho : LdOrd b H S Hr) (i v : Nat) : LdMem H S Hr m n d c4 B (Q.set i v) L sp (W.setCell ⟨S + 1, i, none⟩ (.int .u32 ((v : Nat) : Int))) := by
  have := ho.o1
  have := ho.o2
  refine ⟨h.b0.far (by show H ≠ S + 1; omega) _, h.b1.far (by show H + 1 ≠ S + 1; omega) _, h.b2.far (by show S ≠ S + 1; omega) _, ?_, h.b4.far (by show S + 1 + 1 ≠ S + 1; omega) _, h.b5.far (by show S + 1 + 1 + 1 ≠ S + 1; omega) _, h.b6.far (by show Hr ≠ S + 1; omega) _⟩
  have := h.b3.put i (.int .u32 ((v : Nat) : Int))
  rwa [numCells_setA] at this
theorem LdMem.but {b : Nat} {L' : List Nat} (h : LdMem H S Hr m n d c4 B Q L sp W) (ho : LdOrd b H S Hr) (hb : But Hr W W') (hr : Blk W' Hr 55 (rowOf L' sp)) : LdMem H S Hr m n d c4 B Q L' sp W' := by
  have := ho.o1
  have := ho.o2
  exact ⟨But.blk h.b0 hb (Ne.symm ho.o3), But.blk h.b1 hb (Ne.symm ho.o4), But.blk h.b2 hb (by omega), But.blk h.b3 hb (by omega), But.blk h.b4 hb (by omega), But.blk h.b5 hb (by omega), hr⟩
theorem kf_but {H b : Nat} (h : But H W W') (hb : H < b) : KeepsFrom b W W' := ⟨h.size, fun k _ hk ho _ => (h.block k (Array.getElem?_eq_some_iff.1 ho).1 (by omega)).trans ho⟩
theorem kf_grew {b : Nat} (h : Grew W W') : KeepsFrom b W W' := ⟨h.below.size, fun k _ _ ho _ => (h.below.block k (Array.getElem?_eq_some_iff.1 ho).1).trans ho⟩
theorem nums_mid {pre P post : List Nat} {i : Nat} (h : Blk W Hr 55 (rowOf (pre ++ (P ++ post)) sp)) (hi : pre.length = i) : NumsAt .u32 W W.heap.size (some ⟨Hr, i, none⟩) P := fun _ => ⟨_, rfl, h.lt, fun j hj => by
  rw [show (⟨Hr, i, none⟩ : Addr).add j = ⟨Hr, i + j, none⟩ by simp [Addr.add], h.cell, rowOf_get (by simp; omega), mid_get hi hj]⟩
theorem blk_ne {g g' : Nat} {t t' : TypeId} {cs cs' : Array Value} (h : Blk W g t cs) (h' : Blk W g' t' cs') (ht : t ≠ t') : g ≠ g' := by
  rintro rfl
  unfold Blk at h h'
  rw [h] at h'
  simp only [Option.some.injEq, Obj.cells.injEq] at h'
  exact ht h'.2.1
end
/-- What holds between two rounds. -/
def LdI (w : World) (S Hr m n d c4 : Nat) (B : Option Addr) (sp : List Value) (zs ys : List Nat) (pre : List (Nat × Nat)) (W : World) : Prop :=
  ∃ Q L, LdMem w.heap.size S Hr m n d c4 B Q L sp W ∧ (Q.length = m + 1 ∧ L.length = m + n + 3 ∧ Dg.Low 4294967296 Q ∧ Dg.Low 4294967296 L ∧ pre.length ≤ m + 1) ∧ Dg.LdInv 4294967296 zs Q L (Dg.val 4294967296 ys) (m + 1 - pre.length) ∧ Below w.heap.size w W
theorem LdI.rd {w : World} {S Hr m n d c4 : Nat} {B : Option Addr} {sp : List Value} {zs ys : List Nat} {pre : List (Nat × Nat)} {W : World} (h : LdI w S Hr m n d c4 B sp zs ys pre W) : BwRd (S + 1 + 1 + 1) (m + 1) (some ⟨S + 1, 0, none⟩) (m + 1) anyWord W := by
  obtain ⟨Q, L, hm, ⟨hq, _, lq, _⟩, _⟩ := h
  refine ⟨by rw [hm.b5.cell]; rfl, fun j hj => ⟨_, Q.getD j 0, rfl, lq.getD (by decide) j, trivial, ?_⟩⟩
  rw [show (⟨S + 1, 0, none⟩ : Addr).add j = ⟨S + 1, j, none⟩ by simp [Addr.add]; omega, hm.b3.cell, List.getElem?_toArray]
  exact numCells_get _ _ _ (by omega)

/-- What each operation of the guess' statement gives. -/
def LgF (S m n i d cc Hr : Nat) (B : Option Addr) (D : Nat) (k : Nat) (v : Value) (_ : World) : Prop := match k with
  | 0 => v = .slice (some ⟨S + 1, 0, none⟩) (m + 1) (m + 1)
  | 1 => v = .int .i64 ((i : Nat) : Int)
  | 2 => v = .slice (some ⟨Hr, i, none⟩) (n + 3) cc
  | 3 => v = .slice B (n + 2) d
  | 4 => ∃ g : Nat, v = .int .u32 ((g : Nat) : Int) ∧ g < 4294967296 ∧ D ≤ g ∧ g ≤ D + 1
  | _ => v = .pointer (some ⟨S + 1, i, none⟩)
/-- .. and those of the next one. -/
def LhF (S m n i d cc Hr : Nat) (B : Option Addr) (g : Nat) (k : Nat) (v : Value) (_ : World) : Prop := match k with
  | 0 => v = .slice (some ⟨Hr, i, none⟩) (n + 3) cc
  | 1 => v = .slice B (n + 2) d
  | 2 => v = .slice (some ⟨S + 1, 0, none⟩) (m + 1) (m + 1)
  | 3 => v = .int .i64 ((i : Nat) : Int)
  | 4 => v = .pointer (some ⟨S + 1, i, none⟩)
  | _ => v = .int .u32 ((g : Nat) : Int)

set_option maxRecDepth 100000 in
set_option maxHeartbeats 4000000 in
theorem pdivLong_c (A : Option Addr) (c : Nat) (xs : List Nat) (B : Option Addr) (d : Nat) (ys : List Nat) (n m : Nat) (w : World) (ha : NumsAt .u32 w w.heap.size A xs) (hb : NumsAt .u32 w w.heap.size B ys) (lx : Dg.Low 4294967296 xs) (ly : Dg.Low 4294967296 ys) (hy : ys.length = n + 2) (hx : xs.length = m + (n + 2))
    (ht : ys.getD (n + 1) 0 ≠ 0) (hn : xs.length ≤ 80000) :
    Calls Tryz.prog 58 #[.slice A xs.length c, .slice B ys.length d] w (DmPost w (Dg.val 4294967296 xs) (Dg.val 4294967296 ys)) := by
  have HA := hid ha
  have HB := hid hb
  have HX := hid hx
  have HY := hid hy
  have HT := hid ht
  have CC := hid (clone_c A c xs)
  rw [hx, hy]
  rw [hx] at hn
  clear ha hb hx hy ht
  have hmk := make_u32 Tryz.underlying22 Tryz.info_u32 (m + 1) (by omega)
  refine (callsIn_wide (n := 5)).1 ?_
  refine callsIn_of_wp_marks Tryz.func58 rfl trivial ?_ rfl
  simp only [Tryz.ntmps58, List.size_toArray, List.length_cons, List.length_nil, Nat.reduceAdd, Nat.reduceSub, Array.replicate_succ, Array.replicate_zero, List.push_toArray, List.append_toArray, List.nil_append, List.cons_append]
  refine wpIn_wide.2 ?_
  go_upto_region 2 with fail
  obtain ⟨w2, hw2⟩ : ∃ w2, w2 = (w.alloc (.cells #[.slice B (n + 2) d] 22)).alloc (.cells #[.int .i64 (((n : Nat) : Int) + 2)] 3) := ⟨_, rfl⟩
  have hM2 : Blk w2 w.heap.size 22 #[.slice B (n + 2) d] ∧ Blk w2 (w.heap.size + 1) 3 #[.int .i64 (((n : Nat) : Int) + 2)] ∧ Grew w w2 ∧ w2.heap.size = w.heap.size + 1 + 1 := by
    have b1 := Blk.new w 22 #[.slice B (n + 2) d]
    have g1 := (Grew.refl w).alloc (.cells #[.slice B (n + 2) d] 22)
    have s1 : (w.alloc (.cells #[.slice B (n + 2) d] 22)).heap.size = w.heap.size + 1 := by simp
    generalize w.alloc (.cells #[.slice B (n + 2) d] 22) = w1 at *
    have b2 := Blk.new w1 3 #[.int .i64 (((n : Nat) : Int) + 2)]
    have g2 := (Grew.refl w1).alloc (.cells #[.int .i64 (((n : Nat) : Int) + 2)] 3)
    have s2 : (w1.alloc (.cells #[.int .i64 (((n : Nat) : Int) + 2)] 3)).heap.size = w1.heap.size + 1 := by simp
    rw [← hw2] at b2 g2 s2
    rw [s1] at b2 s2
    exact ⟨b1.grew g2, b2, g1.trans g2, s2⟩
  rw [← hw2]
  clear hw2
  obtain ⟨hM1, hM2, hG2, hs2⟩ := hM2
  have HM := hid (And.intro hM1 hM2)
  have HG2 := hid hG2
  have CC2 := hid (CC.out w2 (HA.out.grew hG2) (fun e => by
    obtain ⟨ad, e2, _⟩ := HA.out (by have := HX.out; omega)
    rw [e] at e2
    cases e2) (by have := HX.out; omega))
  rw [HX.out] at CC2
  clear hM1 hM2 hG2 CC
  go_wp2_with fail
  refine CC2.out.mono ?_
  rintro e w3 ⟨A1, c1, rfl, hO3, hG3⟩
  have hO3' := hO3.mono HG2.out
  have HG3 := hid (HG2.out.trans hG3)
  have HM3 := hid (And.intro (HM.out.1.grew hG3) (HM.out.2.grew hG3))
  have hl3 : w.heap.size + 1 < w3.heap.size := by have := hG3.below.size; omega
  have n0 := HM3.out.2.cell 0
  simp only [List.getElem?_toArray, List.getElem?_cons_zero] at n0
  have p1 := hid (show xs.length + 1 ≤ 9223372036854775807 ∧ (xs.length + 1) * 4 ≤ 140737488355328 by have := HX.out; omega)
  have HO3 := hid hO3
  clear CC2 hO3 hG3
  have f1 : ((m : Int) + ((n : Int) + 2)) - ((n : Int) + 2) + 1 = (m : Int) + 1 := by omega
  have f2 : (((m + 1 : Nat) : Nat) : Int) = (m : Int) + 1 := by omega
  rw [f2] at hmk
  have HA1 := hid (show ∀ g, g < w2.heap.size → A1 ≠ some ⟨g, 0, none⟩ from fun g hg e => by
    have := (World.ownsRow.lt HO3.out) g (by rw [e]; rfl)
    omega)
  go_upto_region 3 with (at_builtin; refine wpList_pushK .u32 4 w w3 rfl _ _ 22 55 rfl Tryz.underlying22 Tryz.info_u32 HG3.out A1 c1 xs (by rw [HX.out]; rfl) hO3' 0 _ rfl rfl _ rfl p1.out.1 p1.out.2 ?_; rintro A4 c4 M4 w4 HM4 hO4 hG4 hK4; have HK4 := hid hK4; clear hK4)
  have hM4 : Blk w4 w.heap.size 22 #[.slice B (n + 2) d] ∧ Blk w4 (w.heap.size + 1) 3 #[.int .i64 (((n : Nat) : Int) + 2)] :=
    ⟨(HK4.out _ (by omega) (HA1.out _ (by omega))).trans HM3.out.1, (HK4.out _ (by omega) (HA1.out _ (by omega))).trans HM3.out.2⟩
  have hL4 : M4.length = m + n + 3 := by rw [HM4.out, List.length_append, HX.out]; simp; omega
  obtain ⟨Hr, rfl⟩ : ∃ g, A4 = some ⟨g, 0, none⟩ := by
    rcases hO4.cases with ⟨_, _, h0⟩ | ⟨g, h0, _⟩
    · rw [h0] at hL4; simp at hL4
    · exact ⟨g, h0⟩
  obtain ⟨sp, hR4, hr1, hr2, hr3⟩ := hO4.row
  rw [hL4] at hr2
  rw [hL4]
  have HM4' := hid hM4
  have HR4 := hid hR4
  have HG4 := hid hG4
  have HR1 := hid hr1
  have HR2 := hid (And.intro hr2 hr3)
  have l4 := hid (And.intro hM4.2.lt hR4.lt)
  clear hO3' n0 p1 HO3 HG3 HM3 hl3 HK4 HA1 hO4 hM4 hR4 hr1 hr2 hr3 hG4 hs2 HG2 HM hL4
  obtain ⟨w5, hw5⟩ : ∃ w5, w5 = w4.alloc (.cells #[.slice (some ⟨Hr, 0, none⟩) (m + n + 3) c4] 22) := ⟨_, rfl⟩
  have n0 : w5.cell? ⟨w.heap.size + 1, 0, none⟩ = some (.int .i64 (((n : Nat) : Int) + 2)) := by
    have := (HM4'.out.2.grew ((Grew.refl w4).alloc (.cells #[.slice (some ⟨Hr, 0, none⟩) (m + n + 3) c4] 22))).cell 0
    rw [← hw5] at this
    exact this
  have s5 : w5.heap.size = w4.heap.size + 1 := by rw [hw5]; simp
  have HW5 := hid hw5
  rw [← hw5]
  clear hw5
  go_wp2_with (go_at_call 62; refine (callsIn_wide.1 (back_in Fence.wide 4 trivial rfl _ _ _ _)).mono ?_; rintro e w' ⟨rfl, rfl⟩)
  refine (wpIn_wide (n := 5)).1 ?_
  obtain ⟨V, hV⟩ : ∃ V, V = ((w5.alloc (.cells (numCells .u32 (List.replicate (m + 1) 0)).toArray 55)).alloc (.cells #[.slice (some ⟨w4.heap.size + 1, 0, none⟩) (m + 1) (m + 1)] 22)).alloc (.cells #[.slice (some ⟨w4.heap.size + 1, 0, none⟩) (m + 1) (m + 1)] 22) := ⟨_, rfl⟩
  obtain ⟨S, eS⟩ : ∃ S, S = w4.heap.size := ⟨_, rfl⟩
  have hMem : LdMem w.heap.size S Hr m n d c4 B (List.replicate (m + 1) 0) M4 sp V ∧ Grew w4 V ∧ V.heap.size = S + 1 + 1 + 1 + 1 := by
    have g5 := (Grew.refl w4).alloc (.cells #[.slice (some ⟨Hr, 0, none⟩) (m + n + 3) c4] 22)
    have b2 := Blk.new w4 22 #[.slice (some ⟨Hr, 0, none⟩) (m + n + 3) c4]
    rw [← HW5.out] at g5 b2
    have b3 := Blk.new w5 55 (numCells .u32 (List.replicate (m + 1) 0)).toArray
    have g6 := (Grew.refl w5).alloc (.cells (numCells .u32 (List.replicate (m + 1) 0)).toArray 55)
    have s6 : (w5.alloc (.cells (numCells .u32 (List.replicate (m + 1) 0)).toArray 55)).heap.size = w5.heap.size + 1 := by simp
    generalize w5.alloc (.cells (numCells .u32 (List.replicate (m + 1) 0)).toArray 55) = w6 at *
    have b4 := Blk.new w6 22 #[.slice (some ⟨w4.heap.size + 1, 0, none⟩) (m + 1) (m + 1)]
    have g7 := (Grew.refl w6).alloc (.cells #[.slice (some ⟨w4.heap.size + 1, 0, none⟩) (m + 1) (m + 1)] 22)
    have s7 : (w6.alloc (.cells #[.slice (some ⟨w4.heap.size + 1, 0, none⟩) (m + 1) (m + 1)] 22)).heap.size = w6.heap.size + 1 := by simp
    generalize w6.alloc (.cells #[.slice (some ⟨w4.heap.size + 1, 0, none⟩) (m + 1) (m + 1)] 22) = w7 at *
    have b5 := Blk.new w7 22 #[.slice (some ⟨w4.heap.size + 1, 0, none⟩) (m + 1) (m + 1)]
    have g8 := (Grew.refl w7).alloc (.cells #[.slice (some ⟨w4.heap.size + 1, 0, none⟩) (m + 1) (m + 1)] 22)
    have s8 : (w7.alloc (.cells #[.slice (some ⟨w4.heap.size + 1, 0, none⟩) (m + 1) (m + 1)] 22)).heap.size = w7.heap.size + 1 := by simp
    rw [← hV] at b5 g8 s8
    rw [s7, s6, s5, ← eS] at b5 s8
    rw [s6, s5, ← eS] at b4
    rw [s5, ← eS] at b3
    rw [← eS] at b2
    have g := ((g5.trans g6).trans g7).trans g8
    exact ⟨⟨HM4'.out.1.grew g, HM4'.out.2.grew g, b2.grew ((g6.trans g7).trans g8), b3.grew (g7.trans g8), b4.grew g8, b5, HR4.out.grew g⟩, g, s8⟩
  have hO : LdOrd w.heap.size w.heap.size S Hr := by
    have l := l4.out
    have o3 := blk_ne HR4.out HM4'.out.1 (by decide)
    have o4 := blk_ne HR4.out HM4'.out.2 (by decide)
    exact ⟨by omega, by omega, o3, o4, Nat.le_refl _, HR1.out⟩
  rw [← hV, ← eS]
  obtain ⟨hMm, hGV, sV⟩ := hMem
  have HMm := hid hMm
  have HGV := hid (HG4.out.trans hGV)
  have HO := hid hO
  clear hV eS hMm hGV hO HM4' HR4 HG4 l4 HW5 s5 n0 hmk HR1
  have Y0 := hid (show 0 < Dg.val 4294967296 ys from by
    rw [Dg.split_two HY.out]
    have h1 : 1 ≤ ys.getD (n + 1) 0 * 4294967296 + ys.getD n 0 := by have := HT.out; omega
    have h2 : 0 < 4294967296 ^ n := Nat.pow_pos (by decide)
    have := Nat.mul_pos h2 (show 0 < ys.getD (n + 1) 0 * 4294967296 + ys.getD n 0 by omega)
    omega)
  have Y1 := hid (show Dg.val 4294967296 ys < 4294967296 ^ (n + 2) by
    have := Dg.val_lt ly
    rwa [HY.out] at this)
  have Y2 := hid (show 4294967296 ^ (n + 2 - 1) ≤ Dg.val 4294967296 ys by
    have h := Dg.val_ge (B := 4294967296) (xs := ys) (Dg.top_of_last (.inr (by rw [HY.out]; exact HT.out))) (fun e => by have := HY.out; rw [e] at this; simp at this)
    rwa [HY.out] at h)
  refine wpIn_rangeX (gf := 76) (lb := #[.pointer (some ⟨S + 1 + 1 + 1, 0, none⟩)]) rfl (enters_of Tryz.func76 (by kernel_rfl) rfl) (LdI w S Hr m n d c4 B sp (xs ++ [0]) ys)
    (fun pre W W' row hs hg hr => by
      obtain ⟨Q, L, h1, h2, h3, h4⟩ := hs
      exact ⟨Q, L, h1.kept hg (fun r e => (hr r e).2), h2, h3, below_kept h4 (Nat.le_refl _) (by have := HGV.out.below.size; omega) hg hr⟩)
    ⟨List.replicate (m + 1) 0, M4, HMm.out, ⟨by simp, by rw [HM4.out, List.length_append, HX.out]; simp; omega, Dg.low_zeros _ _ (by decide), by rw [HM4.out]; exact lx.snoc (by decide), by simp⟩, by
      rw [HM4.out]
      exact Dg.LdInv.start (N := n + 2) lx (by rw [HX.out]; simp; omega) (by simp) Y2.out (by omega), HGV.out.below⟩
    (fun _ => rfl) (back_x _ _ _ _ _ (by omega) (by omega) _ (fun _ _ h => h.rd)) ?a1 ?assign ?body ?done
  case assign =>
    intro l x W K hK
    unfold bwEnc
    gi_wp2
    exact hK
  case body =>
    rintro l pre ⟨x1, x2⟩ W ⟨Q, L, hMm, ⟨hq, hl, lq, lL, _⟩, hI, hB⟩ ⟨hx1, hpn⟩
    dsimp only at hx1
    subst hx1
    dsimp only
    obtain ⟨i, ei⟩ : ∃ i, i = m - pre.length := ⟨_, rfl⟩
    rw [← ei]
    rw [show m + 1 - pre.length = i + 1 by omega] at hI
    have him : i ≤ m := by omega
    obtain ⟨pv, plt, _⟩ := hI.part (N := n + 2) lL (by decide) (by omega) Y1.out
    have hsp := mid_split (L := L) (i := i) (k := n + 3)
    have hP : ((L.drop i).take (n + 3)).length = n + 3 := by rw [List.length_take, List.length_drop]; omega
    have lP := (lL.drop i).take (n + 3)
    have hp : (L.take i).length = i := by rw [List.length_take]; omega
    obtain ⟨P, eP⟩ : ∃ P, P = (L.drop i).take (n + 3) := ⟨_, rfl⟩
    have hPY : Dg.val 4294967296 P < 4294967296 * Dg.val 4294967296 ys := by rw [eP]; show Dg.val 4294967296 ((L.drop i).take (n + 2 + 1)) < _; rw [pv]; exact plt
    rw [← eP] at hP lP hsp
    have HMW := hid hMm
    have HI := hid hI
    have HBw := hid hB
    have HEP := hid eP
    have HPY := hid hPY
    have HSP := hid hsp
    have HLen := hid (And.intro hq (And.intro hl (And.intro lq lL)))
    have HP := hid (And.intro hP (And.intro lP hp))
    have HEI := hid ei
    have r0 := hMm.b2.cell 0
    have r1 := hMm.b1.cell 0
    simp only [List.getElem?_toArray, List.getElem?_cons_zero] at r0 r1
    have q1 : ((i : Nat) : Int) ≤ ((i : Nat) : Int) + (((n : Nat) : Int) + 2) + 1 := by omega
    have q2 : ((i : Nat) : Int) + (((n : Nat) : Int) + 2) + 1 ≤ ((c4 : Nat) : Int) := by have := HR2.out; omega
    clear hMm hI hB eP hPY hsp pv plt hq hl lq lL hP lP hp ei
    gi_wp2
    rw [show i + (n + 2) + 1 - i = n + 3 by omega]
    obtain ⟨cc, ecc⟩ : ∃ cc, cc = c4 - i := ⟨_, rfl⟩
    rw [← ecc]
    clear ecc r0 r1 q1 q2
    have hmx : Tryz.prog.follows .mixedOrders = true := by kernel_rfl
    obtain ⟨D, eD⟩ : ∃ D, D = Dg.val 4294967296 P / Dg.val 4294967296 ys := ⟨_, rfl⟩
    have HD := hid eD
    have CG := hid (fun (V' : World) (hv : Grew W V') => guess_c (some ⟨Hr, i, none⟩) cc P B d ys n V' HP.out.1 HY.out ((nums_mid (by rw [← HSP.out]; exact HMW.out.b6) HP.out.2.2).grew hv) (HB.out.grew ((Grew.mk HBw.out).trans hv)) HP.out.2.1 ly HT.out HPY.out (by omega))
    rw [← eD] at CG
    clear eD
    have him' : ((i : Nat) : Int) < ((m : Nat) : Int) + 1 := by omega
    refine wpIn_region_facts (w0 := W) _ 6 [34, 35, 36, 37, 38, 39] [] (LgF S m n i d cc Hr B D) hmx (by kernel_rfl) (by kernel_rfl) (Grew.refl _) (fun _ _ _ _ h _ => h) ?_ ?_
    · repeat' (first | exact trivial | apply And.intro)
      all_goals
        intro a w' hgw hs hA
        have e3 := hs.eval 3 (by decide) (v := .pointer (some ⟨w.heap.size, 0, none⟩)) rfl
        have e8 := hs.eval 8 (by decide) (v := .pointer (some ⟨S + 1 + 1, 0, none⟩)) rfl
        have e9 := hs.eval 9 (by decide) (v := .int .i64 ((i : Nat) : Int)) rfl
        have e10 := hs.eval 10 (by decide) (v := .slice (some ⟨Hr, i, none⟩) (n + 3) cc) rfl
        have k3 := (HMW.out.b0.grew hgw).cell 0
        have k8 := (HMW.out.b4.grew hgw).cell 0
        simp only [List.getElem?_toArray, List.getElem?_cons_zero] at k3 k8
        have HGW := hid hgw
        clear hs hgw
        simp only [Ahead, Region.binds, slotOf, LgF, List.getD_cons_succ, List.getD_cons_zero, forall_const, and_true] at hA
        simp only [wantedD, if_true]
        unfold Oper.wp
        have ec : ∀ v, a.eval (.const v) = v := fun _ => rfl
        generalize hf : a.eval = f at *
        have ef : ∀ k, f (.func k) = Act.eval ⟨#[], []⟩ (.func k) := fun k => by rw [← hf]; rfl
        clear hf
        go_simp
        first
          | (with_reducible refine Gives.of' ?ha (Grew.refl _) ?hb
             case ha => rfl
             case hb => simp only [LgF])
          | (with_reducible refine (CG.out _ HGW.out).mono ?_
             rintro e w3 ⟨g, rfl, hg1, hg3⟩
             with_reducible refine Gives.of' ?ha hg3 ?hb
             case ha => rfl
             case hb => exact ⟨g, rfl, hg1⟩)
    intro a w' hgw hs hf _ _
    have f0 := hf 0 (by decide)
    have f4 := hf 4 (by decide)
    have f5 := hf 5 (by decide)
    simp only [slotOf, LgF, List.getD_cons_succ, List.getD_cons_zero] at f0 f4 f5
    obtain ⟨g, f4, hg1, hg2, hg3⟩ := f4
    obtain ⟨f, rfl, hft⟩ := hs.put
    rw [hft] at f0 f4 f5
    clear hf hft hs CG
    simp only [List.drop, putAll, List.foldl_cons, List.foldl_nil, Act.put, List.setIfInBounds_toArray, List.set_cons_succ, List.set_cons_zero, f0, f4, f5]
    have HM7 := hid (HMW.out.grew hgw)
    have c7 := HM7.out.b3.cell i
    have fr7 := HM7.out.b3.frozen i
    rw [List.getElem?_toArray, numCells_get _ _ _ (by have := HLen.out.1; omega)] at c7
    generalize Q.getD i 0 = old at *
    have HG7 := hid hgw
    have HGB := hid (And.intro hg1 (And.intro hg2 hg3))
    clear hgw hg1 hg2 hg3
    gi_wp2
    have hM8 := HM7.out.setQ HO.out i g
    have hK8 : KeepsFrom V.heap.size W (w'.setCell ⟨S + 1, i, none⟩ (.int .u32 ((g : Nat) : Int))) := (kf_grew HG7.out).trans ((KeepsOthers.setCell w' ⟨S + 1, i, none⟩ (.int .u32 ((g : Nat) : Int))).from _)
    have hB8 : Below w.heap.size w (w'.setCell ⟨S + 1, i, none⟩ (.int .u32 ((g : Nat) : Int))) := ((Grew.mk HBw.out).trans HG7.out).below.setCell (by show w.heap.size ≤ S + 1; have := HO.out.o1; omega) _
    generalize (w'.setCell ⟨S + 1, i, none⟩ (.int .u32 ((g : Nat) : Int))) = w8 at *
    have HM8 := hid hM8
    have HK8 := hid hK8
    have HB8 := hid hB8
    clear hM8 hK8 hB8 HM7 c7 fr7 f0 f4 f5 HG7
    have HBn := hid (show ∀ ad, B = some ad → ad.block ≠ Hr from fun ad e => by
      obtain ⟨ad', e', h, _⟩ := HB.out (by rw [HY.out]; omega)
      rw [e] at e'
      cases e'
      have := HO.out.o6
      omega)
    have CT := hid (fun (V' : World) (hv : Grew w8 V') => take_c Hr i cc (L.take i) P (L.drop (i + (n + 3))) sp B d ys (n + 2) g V' (by rw [← HSP.out]; exact HM8.out.b6.grew hv) HP.out.2.2 HY.out HP.out.1 (HB.out.grew ((Grew.mk HB8.out).trans hv)) HBn.out HP.out.2.1 ly HGB.out.1 (by omega))
    rw [show n + 2 + 1 = n + 3 from rfl] at CT
    refine wpIn_region_facts (w0 := w8) _ 6 [40, 41, 42, 43, 44, 45] [] (LhF S m n i d cc Hr B g) hmx (by kernel_rfl) (by kernel_rfl) (Grew.refl _) (fun _ _ _ _ h _ => h) ?_ ?_
    · repeat' (first | exact trivial | apply And.intro)
      all_goals
        intro a w' hgw hs hA
        have e3 := hs.eval 3 (by decide) (v := .pointer (some ⟨w.heap.size, 0, none⟩)) rfl
        have e8 := hs.eval 8 (by decide) (v := .pointer (some ⟨S + 1 + 1, 0, none⟩)) rfl
        have e9 := hs.eval 9 (by decide) (v := .int .i64 ((i : Nat) : Int)) rfl
        have e10 := hs.eval 10 (by decide) (v := .slice (some ⟨Hr, i, none⟩) (n + 3) cc) rfl
        have k3 := (HM8.out.b0.grew hgw).cell 0
        have k8 := (HM8.out.b4.grew hgw).cell 0
        have k9 := (HM8.out.b3.grew hgw).cell i
        rw [List.getElem?_toArray, numCells_get _ _ _ (by rw [List.length_set]; have := HLen.out.1; omega)] at k9
        rw [show (Q.set i g).getD i 0 = g by have := HLen.out.1; simp [List.getD_eq_getElem?_getD, show i < Q.length by omega]] at k9
        simp only [List.getElem?_toArray, List.getElem?_cons_zero] at k3 k8
        have HGW := hid hgw
        clear hs hgw
        simp only [Ahead, Region.binds, slotOf, LhF, List.getD_cons_succ, List.getD_cons_zero, forall_const, and_true] at hA
        simp only [wantedD, if_true]
        unfold Oper.wp
        have ec : ∀ v, a.eval (.const v) = v := fun _ => rfl
        generalize hf : a.eval = f at *
        have ef : ∀ k, f (.func k) = Act.eval ⟨#[], []⟩ (.func k) := fun k => by rw [← hf]; rfl
        clear hf
        go_simp
        with_reducible refine Gives.of' ?ha (Grew.refl _) ?hb
        case ha => rfl
        case hb => simp only [LhF]
    intro a w9 hgw hs hf _ _
    have f0 := hf 0 (by decide)
    have f1' := hf 1 (by decide)
    have f5 := hf 5 (by decide)
    simp only [slotOf, LhF, List.getD_cons_succ, List.getD_cons_zero] at f0 f1' f5
    obtain ⟨f, rfl, hft⟩ := hs.put
    rw [hft] at f0 f1' f5
    clear hf hft hs
    simp only [List.drop, putAll, List.foldl_cons, List.foldl_nil, Act.put, List.setIfInBounds_toArray, List.set_cons_succ, List.set_cons_zero, f0, f1', f5]
    have HG9 := hid hgw
    clear hgw f0 f1' f5
    gi_wp2
    refine ⟨trivial, ?_⟩
    refine (callsIn_wide.2 (CT.out _ HG9.out)).mono ?_
    rintro e wA ⟨P1, bw, rfl, ⟨hbw, hP1, lP1, hv1⟩, hbt, hbk⟩
    have hMA := (HM8.out.grew HG9.out).but HO.out hbt hbk
    have hKA := (HK8.out.trans (kf_grew (b := V.heap.size) HG9.out)).trans (kf_but hbt (by rw [sV]; have := HO.out.o2; omega))
    have hBA := But.below ((Grew.mk HB8.out).trans HG9.out).below hbt HO.out.o6 (((Grew.mk HB8.out).trans HG9.out).below.size)
    have HMA := hid hMA
    have HKA := hid hKA
    have HBA := hid hBA
    have hTB := Dg.take_back (B := 4294967296) (N := n + 3) (g := g) (P := Dg.val 4294967296 P) (Y := Dg.val 4294967296 ys) (P1 := Dg.val 4294967296 P1) (bw := bw) (by rw [← HD.out]; exact HGB.out.2.1) (by rw [← HD.out]; exact HGB.out.2.2) Y0.out (by rw [← hP1]; exact Dg.val_lt lP1) hv1 hbw
    have HP1 := hid (And.intro hP1 lP1)
    have HTB := hid hTB
    have STEP := hid (fun (P' : List Nat) (h1 : P'.length = n + 3) (h2 : Dg.val 4294967296 P' = Dg.val 4294967296 P % Dg.val 4294967296 ys) => by
      have h := Dg.LdInv.step (P' := P') (N := n + 2) HI.out HLen.out.2.2.2 (by decide) (by rw [HLen.out.2.1, List.length_append, HX.out]; simp; omega) (by have := HLen.out.2.1; omega) (by have := HLen.out.1; omega) Y0.out Y1.out h1 (by rw [h2, HEP.out])
      rw [show (L.drop i).take (n + 2 + 1) = P from HEP.out.symm, ← HD.out] at h
      exact h)
    have HLL := hid (fun (P' : List Nat) (h1 : P'.length = n + 3) (h2 : Dg.Low 4294967296 P') => (show (L.take i ++ (P' ++ L.drop (i + (n + 3)))).length = m + n + 3 ∧ Dg.Low 4294967296 (L.take i ++ (P' ++ L.drop (i + (n + 3)))) from ⟨by
      have := HLen.out.2.1
      have := HP.out.2.2
      simp only [List.length_append, List.length_drop]
      omega, (HLen.out.2.2.2.take i).append (h2.append (HLen.out.2.2.2.drop _))⟩))
    have HPL := hid (show (pre ++ [(pre.length, x2)]).length = pre.length + 1 by simp)
    have HIDX := hid (show m + 1 - (pre.length + 1) = i by have := HEI.out; omega)
    clear hMA hKA hBA hTB hbt hbk hP1 lP1 hv1 CT
    rcases Nat.eq_zero_or_pos bw with h0 | h0
    · subst h0
      obtain ⟨t1, t2⟩ := HTB.out.1 rfl
      rw [← HD.out] at t1
      have HT1 := hid t1
      have HT2 := hid t2
      clear t1 t2
      gi_wp2
      refine ⟨rfl, HKA.out, Q.set i g, _, HMA.out, ⟨by rw [List.length_set]; exact HLen.out.1, (HLL.out P1 HP1.out.1 HP1.out.2).1, HLen.out.2.2.1.set HGB.out.1 _, (HLL.out P1 HP1.out.1 HP1.out.2).2, by rw [HPL.out]; omega⟩, ?_, HBA.out⟩
      rw [HPL.out, HIDX.out, HT1.out]
      exact STEP.out P1 HP1.out.1 HT2.out
    · obtain rfl : bw = 1 := by omega
      obtain ⟨t1, t2⟩ := HTB.out.2 (by decide)
      rw [← HD.out] at t1
      have HT2 := hid t2
      subst t1
      clear t2 hbw h0 HTB
      have k8 := HMA.out.b4.cell 0
      have k9 := HMA.out.b3.cell i
      have k3 := HMA.out.b0.cell 0
      have fr := HMA.out.b3.frozen i
      rw [List.getElem?_toArray, numCells_get _ _ _ (by rw [List.length_set]; have := HLen.out.1; omega)] at k9
      rw [show (Q.set i (D + 1)).getD i 0 = D + 1 by have := HLen.out.1; simp [List.getD_eq_getElem?_getD, show i < Q.length by omega], show (((D + 1 : Nat) : Nat) : Int) = (D : Int) + 1 by omega] at k9
      simp only [List.getElem?_toArray, List.getElem?_cons_zero] at k3 k8
      have hW : IntKind.u32.wrap ((D : Nat) : Int) = ((D : Nat) : Int) := by
        rw [IntKind.wrap_u32']
        have := HGB.out.1
        omega
      have hW2 : IntKind.u32.wrap (((D : Nat) : Int) + 1 - 1) = ((D : Nat) : Int) := by
        rw [IntKind.wrap_u32']
        have := HGB.out.1
        omega
      have hone : ((((1 : Nat) : Nat) : Int) != 0) = true := rfl
      rw [hone]
      have hMB := HMA.out.setQ HO.out i D
      rw [show (Q.set i (D + 1)).set i D = Q.set i D by rw [List.set_set]] at hMB
      have hKB := HKA.out.trans ((KeepsOthers.setCell wA ⟨S + 1, i, none⟩ (.int .u32 ((D : Nat) : Int))).from V.heap.size)
      have hBB := HBA.out.setCell (p := ⟨S + 1, i, none⟩) (by show w.heap.size ≤ S + 1; have := HO.out.o1; omega) (.int .u32 ((D : Nat) : Int))
      obtain ⟨wB, hwB⟩ : ∃ wB, wB = wA.setCell ⟨S + 1, i, none⟩ (.int .u32 ((D : Nat) : Int)) := ⟨_, rfl⟩
      have kB := hMB.b0.cell 0
      simp only [List.getElem?_toArray, List.getElem?_cons_zero] at kB
      have CA := hid (paddMags_c (some ⟨Hr, i, none⟩) cc P1 B d ys wB (by rw [hwB]; exact nums_mid hMB.b6 HP.out.2.2) (by rw [hwB]; exact HB.out.grew (Grew.mk hBB)) HP1.out.2 ly (by rw [HP1.out.1]; omega) (by rw [HY.out]; omega))
      rw [HP1.out.1, HY.out] at CA
      rw [← hwB] at hMB hKB hBB
      have HMB := hid hMB
      have HKB := hid hKB
      have HBB := hid hBB
      have HWB := hid hwB
      clear hMB hKB hBB k3
      rw [hwB] at CA
      gi_wp2
      rw [← hwB] at CA ⊢
      refine ⟨trivial, ?_⟩
      refine (callsIn_wide.2 CA.out).mono ?_
      rintro e wC ⟨A7, c7, T, rfl, hO7, lT, vT, hT, hG7⟩
      have hTl : n + 3 ≤ T.length := by rw [hT]; omega
      have hR : Dg.val 4294967296 P % Dg.val 4294967296 ys < 4294967296 ^ (n + 3) := by
        have h1 := Nat.mod_lt (Dg.val 4294967296 P) Y0.out
        have h2 := Y1.out
        have h3 : (4294967296 : Nat) ^ (n + 2) ≤ 4294967296 ^ (n + 3) := Nat.pow_le_pow_right (by decide) (by omega)
        omega
      have HV2 := hid (Dg.back_take lT hTl (by rw [vT]; exact HT2.out) hR)
      have HMC := hid (HMB.out.grew hG7)
      have HKC := hid (HKB.out.trans (kf_grew (b := V.heap.size) hG7))
      have HBC := hid ((Grew.mk HBB.out).trans hG7).below
      have HTL := hid hTl
      have HNT := hid hO7.at
      have HLT := hid lT
      have hsz : (Tryz.prog.info? 55).map (·.size) = some 1 := by kernel_rfl
      clear hO7 lT vT hT hG7 hTl hR CA kB k9 fr k8 hwB HWB
      gi_wp2_with (refine wpListIn_copyW wC rfl _ _ 22 55 rfl Tryz.underlying22 hsz Hr i (n + 3) cc (L.take i) P1 (L.drop (i + (n + 3))) sp rfl HMC.out.b6 HP.out.2.2 HP1.out.1 (by omega) A7 c7 T rfl HNT.out HTL.out ?_; rintro wD hbk hbt)
      have hl2 : (T.take (n + 3)).length = n + 3 := by rw [List.length_take]; have := HTL.out; omega
      refine ⟨rfl, ?_, Q.set i D, _, HMC.out.but HO.out hbt.out hbk.out, ⟨by rw [List.length_set]; exact HLen.out.1, (HLL.out _ hl2 (HLT.out.take _)).1, HLen.out.2.2.1.set (by have := HGB.out.1; omega) _, (HLL.out _ hl2 (HLT.out.take _)).2, by rw [HPL.out]; omega⟩, ?_, But.below HBC.out hbt.out HO.out.o6 HBC.out.size⟩
      · exact HKC.out.trans (kf_but hbt.out (by rw [sV]; have := HO.out.o2; omega))
      · rw [HPL.out, HIDX.out]
        exact STEP.out _ hl2 HV2.out
  case done =>
    rintro D pre W hD hlen ⟨Q, L, hMm, ⟨hq, hl, lq, lL, _⟩, hI, hB⟩ hK
    rw [hlen, Nat.sub_self] at hI
    have HDN := hid hI.done
    have r0 := hMm.b2.cell 0
    have k8 := hMm.b4.cell 0
    simp only [List.getElem?_toArray, List.getElem?_cons_zero] at r0 k8
    have HMW := hid hMm
    have HBW := hid hB
    have HQL := hid (And.intro hq (And.intro hl (And.intro lq lL)))
    have CT := fun W' (h : NumsAt .u32 W' W'.heap.size (some ⟨Hr, 0, none⟩) L) => ptrim_c (some ⟨Hr, 0, none⟩) c4 L W' h (by omega) (by have := HR2.out; omega) (by have := HR2.out; omega)
    rw [hl] at CT
    have hnr := nums_mid (pre := []) (P := L) (post := []) (i := 0) (by rw [List.nil_append, List.append_nil]; exact hMm.b6) rfl
    have HNR := hid hnr
    clear hMm hB hI hq hl lq lL hnr
    go_wp2_with fail
    go_quiet ((go_at_call 57; exact Calls.quiet_of_same (CT _ HNR.out)))
    go_wp2_with fail
    refine ⟨by simp, .inl ⟨_, _, rfl, run_takeDeferred (w := W.drewN nq) hK, ?_⟩⟩
    have hr' : ∀ r, some D = some r → ∃ o : Obj, (W.drewN nq).heap[r]? = some o ∧ o.isCells = false := fun r e => by cases e; exact ⟨_, hK, rfl⟩
    have hQ := OwnNums.of_blk (w0 := w) ((HMW.out.b3.drewN nq).kept (grownBy_putObj' _ D (.deferred none)) hr') (by have := HO.out.o1; omega) (by have := HQL.out.1; omega)
    have hR := (OwnNums.of_row (w0 := w) ((HMW.out.b6.drewN nq).kept (grownBy_putObj' _ D (.deferred none)) hr') HO.out.o6 (by rw [HQL.out.2.1]; exact HR2.out.1) HR2.out.2).take (Dg.cut L).length
    rw [← Dg.cut_take] at hR
    rw [HQL.out.1] at hQ
    have hcl := Dg.cut_len L
    refine ⟨_, results_tmp2 rfl _ _ _, some ⟨S + 1, 0, none⟩, m + 1, Q, some ⟨Hr, 0, none⟩, c4, Dg.cut L, by rw [HQL.out.1]; rfl, hQ, hR, ⟨HQL.out.2.2.1, Dg.cut_low HQL.out.2.2.2, Dg.cut_top L⟩, by rw [Dg.cut_val]; exact HDN.out, ⟨by rw [HQL.out.1]; omega, by have := HQL.out.2.1; omega⟩, Grew.mk ((below_drewN HBW.out nq).trans (belowK_b (w := V) (by rw [sV]; have := HO.out.o1; omega) (W.drewN nq) D _ _ hD hK rfl rfl))⟩
end Go.Proofs.YtmcfciifjgdgoaaGreatDoor

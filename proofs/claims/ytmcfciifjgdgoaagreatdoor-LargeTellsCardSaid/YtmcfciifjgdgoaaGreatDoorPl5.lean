/- The developers' large numbers, part 5: which magnitude is more. -/
import Derived.Test.YtmcfciifjgdgoaaGreatDoorPl2
import Derived.Test.YtmcfciifjgdgoaaGreatDoorDig2
import Derived.Test.YtmcfciifjgdgoaaGreatDoorIter2
namespace Go.Proofs.YtmcfciifjgdgoaaGreatDoor
open Go.RowKit Go.Shelf
attribute [local go_sem] Oper.semAt_some

def cmpN (x y : Nat) : Int := if x < y then -1 else if y < x then 1 else 0
theorem cmpN_lt {x y : Nat} (h : x < y) : cmpN x y = -1 := by rw [cmpN, if_pos h]
theorem cmpN_gt {x y : Nat} (h : y < x) : cmpN x y = 1 := by rw [cmpN, if_neg (by omega), if_pos h]
theorem cmpN_eq (x : Nat) : cmpN x x = 0 := by rw [cmpN, if_neg (by omega), if_neg (by omega)]
theorem cmpU32_n (x y : Nat) (w : World) : Calls Tryz.prog 63 #[.int .u32 ((x : Nat) : Int), .int .u32 ((y : Nat) : Int)] w fun e w' => e = .returned (.int .i64 (cmpN x y)) ∧ w' = w := cmpU32_c x y w
theorem cmpInt_n (x y : Nat) (w : World) : Calls Tryz.prog 61 #[.int .i64 ((x : Nat) : Int), .int .i64 ((y : Nat) : Int)] w fun e w' => e = .returned (.int .i64 (cmpN x y)) ∧ w' = w := by
  have := cmpInt_c ((x : Nat) : Int) ((y : Nat) : Int) w
  simp only [Int.ofNat_lt] at this
  exact this
theorem cmp_lens {xs ys : List Nat} (lx : Dg.Low 4294967296 xs) (ly : Dg.Low 4294967296 ys) (tx : Dg.Top xs) (ty : Dg.Top ys) (h : xs.length ≠ ys.length) : cmpN (Dg.val 4294967296 xs) (Dg.val 4294967296 ys) = cmpN xs.length ys.length ∧ cmpN xs.length ys.length ≠ 0 := by
  rcases Nat.lt_or_gt_of_ne h with h1 | h1
  · rw [cmpN_lt h1, cmpN_lt (Dg.cmp_len (by decide) lx ty h1)]; decide
  · rw [cmpN_gt h1, cmpN_gt (Dg.cmp_len (by decide) ly tx h1)]; decide
/-- All words above, or at, the place that is reached are the same. -/
def EqInv (xs ys : List Nat) (pre : List (Nat × Nat)) : Prop :=
  BwCame xs.length (isWord xs) pre → ∀ j, xs.length - pre.length ≤ j → j < xs.length → xs.getD j 0 = ys.getD j 0
theorem EqInv.step {xs ys : List Nat} {pre : List (Nat × Nat)} {x : Nat × Nat} (h : EqInv xs ys pre) (he : wordOf x.2 = ys.getD (xs.length - 1 - x.1) 0) : EqInv xs ys (pre ++ [x]) := by
  intro hc j h1 h2
  obtain ⟨c1, c2, c3, c4, c5⟩ := hc.of_snoc
  rw [wordOf_eq c4] at he
  rw [List.length_append, List.length_cons, List.length_nil] at h1
  rcases Nat.lt_or_ge j (xs.length - pre.length) with h3 | h3
  · have : j = xs.length - 1 - x.1 := by omega
    subst this
    exact c5.symm.trans he
  · exact h c1 j h3 h2
/-- The words part at the place that is reached. -/
def NeInv (xs ys : List Nat) (r : Int) (pre : List (Nat × Nat)) : Prop :=
  BwCame xs.length (isWord xs) pre → r = cmpN (Dg.val 4294967296 xs) (Dg.val 4294967296 ys)
theorem NeInv.step {xs ys : List Nat} {pre : List (Nat × Nat)} {x : Nat × Nat} (lx : Dg.Low 4294967296 xs) (ly : Dg.Low 4294967296 ys) (hl : xs.length = ys.length) (h : EqInv xs ys pre) (he : wordOf x.2 ≠ ys.getD (xs.length - 1 - x.1) 0) : NeInv xs ys (cmpN (wordOf x.2) (ys.getD (xs.length - 1 - x.1) 0)) (pre ++ [x]) := by
  intro hc
  obtain ⟨c1, c2, c3, c4, c5⟩ := hc.of_snoc
  rw [wordOf_eq c4] at he ⊢
  have c5' : x.2 = xs.getD (xs.length - 1 - x.1) 0 := c5
  rw [c5'] at he ⊢
  have hi : xs.length - 1 - x.1 < xs.length := by omega
  have hab : ∀ j, xs.length - 1 - x.1 < j → j < xs.length → xs.getD j 0 = ys.getD j 0 := fun j h1 h2 => h c1 j (by omega) h2
  generalize xs.length - 1 - x.1 = i at *
  rcases Nat.lt_or_gt_of_ne he with h1 | h1
  · have := Dg.cmp_at lx hl hi hab h1
    rw [cmpN_lt h1, cmpN_lt this]
  · have := Dg.cmp_at ly hl.symm (by omega) (fun j h2 h3 => (hab j h2 (by omega)).symm) h1
    rw [cmpN_gt h1, cmpN_gt this]

set_option maxRecDepth 100000 in
set_option maxHeartbeats 4000000 in
theorem pcmpMags_c (A : Option Addr) (c : Nat) (xs : List Nat) (B : Option Addr) (d : Nat) (ys : List Nat) (w : World) (ha : NumsAt .u32 w w.heap.size A xs) (hb : NumsAt .u32 w w.heap.size B ys) (lx : Dg.Low 4294967296 xs) (ly : Dg.Low 4294967296 ys) (tx : Dg.Top xs) (ty : Dg.Top ys) (hn : xs.length ≤ 100000) :
    Calls Tryz.prog 40 #[.slice A xs.length c, .slice B ys.length d] w fun e w' => e = .returned (.int .i64 (cmpN (Dg.val 4294967296 xs) (Dg.val 4294967296 ys))) ∧ Grew w w' := by
  have HA := hid ha
  have HB := hid hb
  clear ha hb
  obtain ⟨z, hz⟩ : ∃ z, z = cmpN (Dg.val 4294967296 xs) (Dg.val 4294967296 ys) := ⟨_, rfl⟩
  have HZ := hid hz
  rw [← hz]
  clear hz
  by_cases hle : xs.length = ys.length
  · have HLE := hid hle
    obtain ⟨n, en⟩ : ∃ n, n = xs.length := ⟨_, rfl⟩
    have EN := hid en
    have EM := hid (show n = ys.length by omega)
    rw [← hle, ← en]
    rw [← en] at hn
    clear hle en
    have CC := fun W => cmpInt_n n n W
    simp only [cmpN_eq] at CC
    have HCC := hid CC
    clear CC
    refine (callsIn_wide (n := 5)).1 ?_
    refine callsIn_of_wp_marks Tryz.func40 rfl trivial ?_ rfl
    simp only [Tryz.ntmps40, List.size_toArray, List.length_cons, List.length_nil, Nat.reduceAdd, Nat.reduceSub, Array.replicate_succ, Array.replicate_zero, List.push_toArray, List.append_toArray, List.nil_append, List.cons_append]
    gi_wp2_with (first
      | (refine ⟨trivial, ?_⟩; gi_at_call 61; ((with_reducible refine (callsIn_wide.2 (HCC.out _)).mono ?_); rintro e w' ⟨rfl, rfl⟩))
      | (refine ⟨trivial, ?_⟩; gi_at_call 62; refine (back_in Fence.wide _ trivial rfl _ _ _ _).mono ?_; rintro e w' ⟨rfl, rfl⟩))
    obtain ⟨wx, hwx⟩ : ∃ wx, wx = (((w.alloc (.cells #[.slice B n d] 22)).alloc (.cells #[.int .i64 0] 3)).alloc (.cells #[.slice A n c] 22)) := ⟨_, rfl⟩
    have hM : Blk wx w.heap.size 22 #[.slice B n d] ∧ Blk wx (w.heap.size + 1) 3 #[.int .i64 0] ∧ Blk wx (w.heap.size + 1 + 1) 22 #[.slice A n c] ∧ wx.heap.size = w.heap.size + 1 + 1 + 1 ∧ Grew w wx := by
      have b1 := Blk.new w 22 #[.slice B n d]
      have g1 := (Grew.refl w).alloc (.cells #[.slice B n d] 22)
      have s1 : (w.alloc (.cells #[.slice B n d] 22)).heap.size = w.heap.size + 1 := by simp
      generalize w.alloc (.cells #[.slice B n d] 22) = w1 at *
      have b2 := Blk.new w1 3 #[.int .i64 0]
      have g2 := (Grew.refl w1).alloc (.cells #[.int .i64 0] 3)
      have s2 : (w1.alloc (.cells #[.int .i64 0] 3)).heap.size = w1.heap.size + 1 := by simp
      generalize w1.alloc (.cells #[.int .i64 0] 3) = w2 at *
      have b3 := Blk.new w2 22 #[.slice A n c]
      have g3 := (Grew.refl w2).alloc (.cells #[.slice A n c] 22)
      have s3 : (w2.alloc (.cells #[.slice A n c] 22)).heap.size = w2.heap.size + 1 := by simp
      rw [← hwx] at b3 g3 s3
      rw [s2, s1] at b3 s3
      rw [s1] at b2
      exact ⟨(b1.grew g2).grew g3, b2.grew g3, b3, s3, (g1.trans g2).trans g3⟩
    rw [← hwx]
    obtain ⟨hM1, hM2, hS, hsz, hG⟩ := hM
    clear hwx
    have HS := hid hS
    have hGt := hid hG
    have HM1 := hid hM1
    have HM2 := hid hM2
    clear hS hM1 hM2 hG HCC
    refine wpIn_rangeFunc_ownG rfl (by omega) (gf := 76) (lb := #[.pointer (some ⟨w.heap.size + 1 + 1, 0, none⟩)]) rfl trivial (enters_of Tryz.func76 (by kernel_rfl) rfl)
      (back_stops Fence.wide _ trivial rfl (by omega) (w.heap.size + 1 + 1) n c A (isWord xs) hn wx (fun W hW => by
        rw [EN.out]
        exact BwRd.of_nums (by rw [← EN.out, hW.cell (by simp only [hsz]; omega), HS.out.cell]; rfl) (HA.out.grew (hGt.out.trans (Grew.mk hW))) lx)) bw_t (fun W l o o' h1 h2 h3 h4 => bw_b (w := wx) W l o o' h1 h2 h3 h4) (Below.refl _ _) (fun _ => rfl)
      (fun pre W => (Blk W w.heap.size 22 #[.slice B n d] ∧ Blk W (w.heap.size + 1) 3 #[.int .i64 0] ∧ Hid (EqInv xs ys pre)) ∧ Below w.heap.size w W)
      (fun cc pre W => (cc = .ret ∧ ∃ r : Int, Blk W (w.heap.size + 1) 3 #[.int .i64 r] ∧ Hid (NeInv xs ys r pre)) ∧ Below w.heap.size w W)
      (fun s W W' row hs hg hr => by
        obtain ⟨⟨m1, m2, h2⟩, hB⟩ := hs
        have hr' := fun r e => (hr r e).2
        exact ⟨⟨m1.kept hg hr', m2.kept hg hr', h2⟩, below_kept hB (Nat.le_refl _) (by omega) hg hr⟩)
      (fun cc s W W' row hs hg hr => by
        obtain ⟨⟨m0, r, m2, h2⟩, hB⟩ := hs
        have hr' := fun r e => (hr r e).2
        exact ⟨⟨m0, r, m2.kept hg hr', h2⟩, below_kept hB (Nat.le_refl _) (by omega) hg hr⟩)
      ⟨⟨HM1.out, HM2.out, hid (fun _ j h1 h2 => by simp at h1; omega)⟩, hGt.out.below⟩
      ?a1 ?assign ?body ?done ?stop
    case assign =>
      intro l x W K hK
      unfold bwEnc
      gi_wp2
      exact hK
    case body =>
      rintro l pre ⟨x1, x2⟩ W ⟨⟨m1, m2, HI⟩, hB⟩ hpn
      dsimp only
      have hxn : n - 1 - x1 < n := by omega
      obtain ⟨bd, eb, hbd, hcb⟩ := HB.out (by have := EM.out; omega)
      subst eb
      have cy := hcb (n - 1 - x1) (by have := EM.out; omega)
      clear hcb
      have cy : W.cell? (bd.add (n - 1 - x1)) = some (.int .u32 ((ys.getD (n - 1 - x1) 0 : Nat) : Int)) := by rw [hB.cell (by rw [block_add]; exact hbd)]; exact cy
      have HQ := hid (fun h => EqInv.step (x := (x1, x2)) HI.out h)
      have HP := hid (fun h => NeInv.step (x := (x1, x2)) lx ly HLE.out HI.out h)
      dsimp only at HQ HP
      rw [← EN.out] at HQ HP
      generalize wordOf x2 = v at *
      generalize n - 1 - x1 = i at *
      generalize ys.getD i 0 = y at *
      have cb := m1.cell 0
      have cr := m2.cell 0
      have fr := m2.frozen 0
      simp only [List.getElem?_toArray, List.getElem?_cons_zero] at cb cr
      have hin : (i : Int) < (n : Int) := by omega
      by_cases hv : v = y
      · have HE := hid (HQ.out hv)
        subst hv
        have HIs := hid HI
        have HB' := hid hB
        gi_wp2
        exact ⟨KeepsFrom.refl _ _, fun h => h, ⟨m1, m2, HE⟩, hB⟩
      · have HE := hid (HP.out hv)
        have t1 : (((v : Nat) : Int) != ((y : Nat) : Int)) = true := by rw [bne_iff_ne]; omega
        have CC := hid (fun W => cmpU32_n v y W)
        clear hv HP HQ
        gi_wp2_with (refine ⟨trivial, ?_⟩; gi_at_call 63; ((with_reducible refine (CallsIn.inRound l (callsIn_wide.2 (CC.out _))).mono ?_); rintro e w' ⟨rfl, rfl⟩))
        exact ⟨(KeepsOthers.setCell _ _ _).from _, ⟨rfl, _, m2.put 0 _, HE⟩, hB.setCell (by simp) _⟩
    case done =>
      rintro D pre W hD ⟨hc, hl⟩ ⟨⟨m1, m2, HI⟩, hB⟩ hK
      have cr := m2.cell 0
      have fr := m2.frozen 0
      simp only [List.getElem?_toArray, List.getElem?_cons_zero] at cr
      have HE := hid (show z = 0 by
        have := Dg.eq_of_all HLE.out (fun j hj => HI.out (by rw [← EN.out]; exact hc) j (by have := EN.out; omega) hj)
        rw [HZ.out, this, cmpN_eq])
      gi_wp2
      have hK' := (KeepsOthers.setCell W ⟨w.heap.size + 1, 0, none⟩ (.int .i64 0)).same D _ hK rfl
      refine ⟨by simp, .inl ⟨_, _, rfl, run_takeDeferred hK', ?_⟩⟩
      have hc5 := cell_kept (World.cell?_setCell_same' W ⟨w.heap.size + 1, 0, none⟩ (.int .i64 0) (by rw [cr]; rfl)) (grownBy_putObj' _ D (.deferred none)) (fun r e => by cases e; exact ⟨_, hK', rfl⟩)
      refine ⟨.int .i64 0, ?_, by rw [HE.out], Grew.mk ((hB.setCell (p := ⟨w.heap.size + 1, 0, none⟩) (by simp) _).trans (belowK_b (w := wx) (by omega) _ D _ _ hD hK' rfl rfl))⟩
      simp [results, Tryz.results40, go_sem, hc5]
    case stop =>
      rintro D cc pre W hD hpre ⟨⟨rfl, r, m2, HI⟩, hB⟩ hK
      have HE := hid (show r = z by rw [HZ.out]; exact HI.out (by rw [← EN.out]; exact hpre))
      have cr := m2.cell 0
      simp only [List.getElem?_toArray, List.getElem?_cons_zero] at cr
      gi_wp2
      refine ⟨by simp, .inl ⟨_, _, rfl, run_takeDeferred hK, ?_⟩⟩
      have hc5 := cell_kept cr (grownBy_putObj' _ D (.deferred none)) (fun r e => by cases e; exact ⟨_, hK, rfl⟩)
      refine ⟨.int .i64 r, ?_, by rw [HE.out], Grew.mk (hB.trans (belowK_b (w := wx) (by omega) W D _ _ hD hK rfl rfl))⟩
      simp [results, Tryz.results40, go_sem, hc5]
  · obtain ⟨hz1, hz2⟩ := cmp_lens lx ly tx ty hle
    have HCC := hid (fun W => cmpInt_n xs.length ys.length W)
    rw [← HZ.out] at hz1
    rw [← hz1] at HCC hz2
    have t1 : (z != 0) = true := by rw [bne_iff_ne]; exact hz2
    clear hz1 hz2 hle
    refine (callsIn_wide (n := 5)).1 ?_
    refine callsIn_of_wp_marks Tryz.func40 rfl trivial ?_ rfl
    simp only [Tryz.ntmps40, List.size_toArray, List.length_cons, List.length_nil, Nat.reduceAdd, Nat.reduceSub, Array.replicate_succ, Array.replicate_zero, List.push_toArray, List.append_toArray, List.nil_append, List.cons_append]
    gi_wp2_with (refine ⟨trivial, ?_⟩; gi_at_call 61; ((with_reducible refine (callsIn_wide.2 (HCC.out _)).mono ?_); rintro e w' ⟨rfl, rfl⟩))
    refine ⟨.int .i64 z, ?_, rfl, ((Grew.refl _).alloc _).alloc _⟩
    simp [results, Tryz.results40, go_sem]
end Go.Proofs.YtmcfciifjgdgoaaGreatDoor

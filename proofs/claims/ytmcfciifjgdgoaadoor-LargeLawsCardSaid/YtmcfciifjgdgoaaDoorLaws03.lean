/- LargeLaws: three numbers added, multiplied and divided, and a text that reads as it was written. Conditions: none of ours. -/
import Derived.Test.YtmcfciifjgdgoaaDoorLl1
import Derived.Test.YtmcfciifjgdgoaaDoorSure03
import Derived.Test.YtmcfciifjgdgoaaDoorFacts2
import Derived.Test.YtmcfciifjgdgoaaDoorMg43
namespace Go.Proofs.YtmcfciifjgdgoaaDoor
open Go.RowKit

theorem errVal_1 : errVal 1 = .iface 62 (.int .i64 1) := rfl
theorem errVal_10 : errVal 10 = .iface 62 (.int .i64 10) := rfl
theorem op_add_no {V : World} {na nb : Bool} {A B : Option Addr} {c d : Nat} {xs ys : List Nat} (ha : NumsAt .u32 V V.heap.size A xs) (hb : NumsAt .u32 V V.heap.size B ys) (lx : Dg.Low 4294967296 xs) (ly : Dg.Low 4294967296 ys) (hn : xs.length ≤ 10) (hm : ys.length ≤ 10) (hno : (Lg.may na xs && Lg.may nb ys) = false) :
    Calls Tryd.prog 9 #[.agg #[.bool na, .slice A xs.length c], .agg #[.bool nb, .slice B ys.length d]] V fun e w' => ∃ (A' : Option Addr) (c' : Nat) (ng : Bool) (L : List Nat), e = .returned (.tuple #[.agg #[.bool ng, .slice A' (List.length L) c'], .iface 62 (.int .i64 1)]) ∧ Grew V w' :=
  (padd_c na A c xs nb B d ys V ha hb lx ly (by omega) (by omega)).mono fun e w' h => by
    obtain ⟨A', c', ng, L, k, he, _, ho, hg⟩ := h
    obtain ⟨rfl, _⟩ := ho.no hno
    exact ⟨A', c', ng, L, he, hg⟩
theorem NumOk.abs {ng : Bool} {xs : List Nat} {X : Int} (h : NumOk ng xs X) : NumOk false xs (X.natAbs : Int) := by
  have r := Lg.Rep.of_may h.low h.may
  rw [h.num] at r
  obtain ⟨m1, m2, _⟩ := Lg.may_iff.1 h.may
  refine ⟨h.low, Lg.may_iff.2 ⟨m1, m2, .inr rfl⟩, ?_, h.len⟩
  unfold Lg.num Lg.sgn
  rw [r.val, if_neg (by decide)]
theorem NumOk.zero_iff {ng : Bool} {xs : List Nat} {X : Int} (h : NumOk ng xs X) : xs.length = 0 ↔ X = 0 := by
  have r := Lg.Rep.of_may h.low h.may
  rw [h.num] at r
  constructor
  · intro h0
    have h1 := r.val
    rw [List.eq_nil_of_length_eq_zero h0] at h1
    simp at h1
    omega
  · intro h0
    rcases Nat.eq_zero_or_pos xs.length with h1 | h1
    · exact h1
    · exfalso
      have h2 := Dg.val_pos (B := 4294967296) (by decide) r.top (fun e => by rw [e] at h1; simp at h1)
      rw [r.val, h0] at h2
      simp at h2
theorem NumOk.sign {ng : Bool} {xs : List Nat} {X : Int} (h : NumOk ng xs X) : ng = decide (X < 0) := by
  have r := Lg.Rep.of_may h.low h.may
  rw [h.num] at r
  exact r.neg
theorem mod_sign {M Y : Int} (h0 : Y ≠ 0) (hR : M.fmod Y ≠ 0) : decide (M.fmod Y < 0) = decide (Y < 0) := by
  rcases Int.lt_or_lt_of_ne h0 with h | h
  · have h1 := Int.fmod_nonneg_of_pos (-M) (b := -Y) (by omega)
    rw [Int.neg_fmod_neg] at h1
    rw [decide_eq_true h, decide_eq_true (by omega)]
  · have h1 := Int.fmod_nonneg_of_pos M h
    rw [decide_eq_false (by omega), decide_eq_false (by omega)]
theorem mod_less {M Y : Int} (h0 : Y ≠ 0) : (M.fmod Y).natAbs < Y.natAbs := by
  rcases Int.lt_or_lt_of_ne h0 with h | h
  · have h1 := Int.fmod_nonneg_of_pos (-M) (b := -Y) (by omega)
    have h2 := Int.fmod_lt_of_pos (-M) (b := -Y) (by omega)
    rw [Int.neg_fmod_neg] at h1 h2
    omega
  · have h1 := Int.fmod_nonneg_of_pos M h
    have h2 := Int.fmod_lt_of_pos M h
    omega
theorem nums_ne {W : World} {A : Option Addr} {L : List Nat} {g : Nat} {t : TypeId} {b : Bool} {q : Option Addr} {n c : Nat} (h : NumsAt .u32 W W.heap.size A L) (hb : Blk W g t #[.bool b, .slice q n c]) : 0 < L.length → ∀ ad, A = some ad → ad.block ≠ g := by
  intro h0 ad e hg
  obtain ⟨ad', e', _, hc⟩ := h h0
  rw [e] at e'
  cases e'
  have h1 := hc 0 h0
  rw [add_zero] at h1
  unfold Blk at hb
  unfold World.cell? at h1
  rw [hg, hb] at h1
  dsimp only at h1
  split at h1
  · cases h1
  · rcases ho : ad.off with _ | _ | k <;> rw [ho] at h1 <;> simp at h1
theorem two_far {V : World} {g g' : Nat} {t t' : TypeId} {b b' : Bool} {q q' A : Option Addr} {n n' c c' : Nat} {L : List Nat} (h : NumsAt .u32 V V.heap.size A L) (h1 : Blk V g t #[.bool b, .slice q n c]) (h2 : Blk V g' t' #[.bool b', .slice q' n' c']) (hne : g' ≠ g) (u u' : Value) :
    NumsAt .u32 ((V.setCell ⟨g, 0, none⟩ u).setCell ⟨g', 0, none⟩ u') ((V.setCell ⟨g, 0, none⟩ u).setCell ⟨g', 0, none⟩ u').heap.size A L := by
  have k1 := But.nums h ((But.refl g V).setCell (p := ⟨g, 0, none⟩) rfl u) (nums_ne h h1)
  exact But.nums k1 ((But.refl g' _).setCell (p := ⟨g', 0, none⟩) rfl u') (nums_ne k1 (h2.far (p := ⟨g, 0, none⟩) hne u))
theorem div_bd {k : Nat} {M Y : Int} (hM : Bd k M) (hY : Bd k Y) (h0 : Y ≠ 0) : Bd (k + 1) (M.fdiv Y) ∧ Bd k (M.fmod Y) ∧ M.fdiv Y * Y + M.fmod Y = M := by
  have e : M.fdiv Y * Y + M.fmod Y = M := by
    have := Int.mul_fdiv_add_fmod M Y
    rw [Int.mul_comm] at this
    exact this
  have hl := mod_less (M := M) h0
  refine ⟨?_, by unfold Bd at *; omega, e⟩
  unfold Bd at *
  have h1 : (M.fdiv Y).natAbs ≤ (M.fdiv Y * Y).natAbs := by
    rw [Int.natAbs_mul]
    exact Nat.le_mul_of_pos_right _ (by omega)
  rw [Nat.pow_succ]
  generalize (4294967296 : Nat) ^ k = p at *
  generalize M.fdiv Y * Y = t at *
  omega

set_option maxRecDepth 100000 in
set_option maxHeartbeats 4000000 in
theorem laws_walk (na : Bool) (A : Option Addr) (c : Nat) (xs : List Nat) (nb : Bool) (B : Option Addr) (d : Nat) (ys : List Nat) (nc : Bool) (C : Option Addr) (e : Nat) (zs : List Nat) (w : World)
    (ha : NumsAt .u32 w w.heap.size A xs) (hb : NumsAt .u32 w w.heap.size B ys) (hc : NumsAt .u32 w w.heap.size C zs) (lx : Dg.Low 4294967296 xs) (ly : Dg.Low 4294967296 ys) (lz : Dg.Low 4294967296 zs)
    (hx : xs.length ≤ 35184372088832) (hy : ys.length ≤ 35184372088832) (hz : zs.length ≤ 35184372088832) (hg : HandleAt w) :
    Calls Tryd.prog 3 #[.agg #[.bool na, .slice A xs.length c], .agg #[.bool nb, .slice B ys.length d], .agg #[.bool nc, .slice C zs.length e]] w fun e w' => e = .returned (.bool true) ∧ Grew w w' := by
  have Hg := hid hg
  have HA := hid ha
  have HB := hid hb
  have HC := hid hc
  clear hg ha hb hc
  go_enter Tryd.func3, Tryd.ntmps3
  go_upto_region 1 with fail
  obtain ⟨wb, hw1⟩ : ∃ wb, wb = ((w.alloc (.cells #[.bool na, .slice A xs.length c] 24)).alloc (.cells #[.bool nb, .slice B ys.length d] 24)).alloc (.cells #[.bool nc, .slice C zs.length e] 24) := ⟨_, rfl⟩
  have HG0 : Hid (Grew w wb) := hid (by rw [hw1]; exact (((Grew.refl _).alloc _).alloc _).alloc _)
  have BA := hid (show BoxIn wb w.heap.size na A c xs by rw [hw1]; exact ((BoxIn.made na _ HA.out).on ((Grew.refl _).alloc _)).on ((Grew.refl _).alloc _))
  have BB := hid (show BoxIn wb (w.heap.size + 1) nb B d ys by
    have := BoxIn.made (c := d) nb 24 (HB.out.grew ((Grew.refl w).alloc (.cells #[.bool na, .slice A xs.length c] 24)))
    rw [World.size_alloc] at this
    rw [hw1]; exact this.on ((Grew.refl _).alloc _))
  have BC := hid (show BoxIn wb (w.heap.size + 1 + 1) nc C e zs by
    have := BoxIn.made (c := e) nc 24 (HC.out.grew (((Grew.refl w).alloc (.cells #[.bool na, .slice A xs.length c] 24)).alloc (.cells #[.bool nb, .slice B ys.length d] 24)))
    rw [World.size_alloc, World.size_alloc] at this
    rw [hw1]; exact this)
  rw [← hw1]
  clear hw1

  have la0 := BA.out.c1
  have lb0 := BB.out.c1
  have lc0 := BC.out.c1
  have SU0 := hid (sure_c wb (Hg.out.grew HG0.out))
  by_cases k1 : 10 < xs.length
  · have k1' : (10 : Int) < (xs.length : Int) := by omega
    go_wp2_with fail
    refine SU0.out.mono ?_
    rintro e w3 ⟨rfl, hg3⟩
    go_wp2_with fail
    go_ret
    exact ⟨rfl, HG0.out.trans hg3⟩
  by_cases k2 : 10 < ys.length
  · have k1' : ((10 : Int) < (xs.length : Int)) = False := eq_false (by omega)
    have k2' : (10 : Int) < (ys.length : Int) := by omega
    go_wp2_with fail
    refine SU0.out.mono ?_
    rintro e w3 ⟨rfl, hg3⟩
    go_wp2_with fail
    go_ret
    exact ⟨rfl, HG0.out.trans hg3⟩
  by_cases k3 : 10 < zs.length
  · have k1' : ((10 : Int) < (xs.length : Int)) = False := eq_false (by omega)
    have k2' : ((10 : Int) < (ys.length : Int)) = False := eq_false (by omega)
    have k3' : (10 : Int) < (zs.length : Int) := by omega
    go_wp2_with fail
    refine SU0.out.mono ?_
    rintro e w3 ⟨rfl, hg3⟩
    go_wp2_with fail
    go_ret
    exact ⟨rfl, HG0.out.trans hg3⟩
  have k1' : ((10 : Int) < (xs.length : Int)) = False := eq_false (by omega)
  have k2' : ((10 : Int) < (ys.length : Int)) = False := eq_false (by omega)
  have k3' : ((10 : Int) < (zs.length : Int)) = False := eq_false (by omega)
  have HK := hid (show xs.length ≤ 10 ∧ ys.length ≤ 10 ∧ zs.length ≤ 10 by omega)
  clear SU0 k1 k2 k3
  go_upto_region 3 with fail
  clear la0 lb0 lc0 k1' k2' k3'

  refine wp_region_facts (w0 := wb) _ 9 [56, 57, 58, 59, 60, 61, 7, 8, 9] [6, 7, 8] (OrdF wb na A c xs nb B d ys nc C e zs) (by kernel_rfl) (by kernel_rfl) (Grew.refl _) OrdF.mono ?_ ?_
  · have CX := hid (fun (W : World) (hgw : Grew wb W) => giveNum_c na A c xs W (BA.out.on hgw).nums hx)
    have CY := hid (fun (W : World) (hgw : Grew wb W) => giveNum_c nb B d ys W (BB.out.on hgw).nums hy)
    have CZ := hid (fun (W : World) (hgw : Grew wb W) => giveNum_c nc C e zs W (BC.out.on hgw).nums hz)
    repeat' (first | exact trivial | apply And.intro)
    all_goals
      intro a w' hgw hs hA
      have e3 := hs.eval 3 (by decide) (v := .pointer (some ⟨w.heap.size, 0, none⟩)) rfl
      have e4 := hs.eval 4 (by decide) (v := .pointer (some ⟨w.heap.size + 1, 0, none⟩)) rfl
      have e5 := hs.eval 5 (by decide) (v := .pointer (some ⟨w.heap.size + 1 + 1, 0, none⟩)) rfl
      have a0 := (BA.out.on hgw).c0
      have a1 := (BA.out.on hgw).c1
      have b0 := (BB.out.on hgw).c0
      have b1 := (BB.out.on hgw).c1
      have c0 := (BC.out.on hgw).c0
      have c1 := (BC.out.on hgw).c1
      have HGW := hid hgw
      clear hs hgw
      simp only [Ahead, Region.binds, slotOf, OrdF, List.getD_cons_succ, List.getD_cons_zero, forall_const, and_true] at hA
      simp only [wantedD, if_true]
      unfold Oper.wp
      have ec : ∀ v, a.eval (.const v) = v := fun _ => rfl
      generalize hf : a.eval = f at *
      have ef : ∀ k, f (.func k) = Act.eval ⟨#[], []⟩ (.func k) := fun k => by rw [← hf]; rfl
      clear hf
      go_simp
      first
        | (with_reducible refine Gives.al ((Grew.refl _).alloc _) ?_ ?_ ?_
           · exact Nat.le_refl _
           · simp
           · exact ⟨_, rfl, Blk.new _ _ _⟩)
        | (with_reducible refine Gives.of' ?_ (Grew.refl _) ?_
           · rfl
           · rfl)
        | ((with_reducible refine (CX.out _ HGW.out).mono ?_); rintro e w3 ⟨A3, c3, rfl, hO3, hg3⟩; exact Gives.of hg3 ⟨A3, c3, rfl, hO3.mono HGW.out⟩)
        | ((with_reducible refine (CY.out _ HGW.out).mono ?_); rintro e w3 ⟨A3, c3, rfl, hO3, hg3⟩; exact Gives.of hg3 ⟨A3, c3, rfl, hO3.mono HGW.out⟩)
        | ((with_reducible refine (CZ.out _ HGW.out).mono ?_); rintro e w3 ⟨A3, c3, rfl, hO3, hg3⟩; exact Gives.of hg3 ⟨A3, c3, rfl, hO3.mono HGW.out⟩)
  · intro a w' hgw hs hf hmade hpart
    have f1 := hf 1 (by decide)
    have f3 := hf 3 (by decide)
    have f5 := hf 5 (by decide)
    have f6 := hf 6 (by decide)
    have f7 := hf 7 (by decide)
    have f8 := hf 8 (by decide)
    have m6 := hmade 6 (by decide) rfl
    have m7 := hmade 7 (by decide) rfl
    have m8 := hmade 8 (by decide) rfl
    have p67 := hpart 6 7 (by decide) (by decide) (by decide) rfl rfl
    have p68 := hpart 6 8 (by decide) (by decide) (by decide) rfl rfl
    have p78 := hpart 7 8 (by decide) (by decide) (by decide) rfl rfl
    clear hf hmade hpart
    obtain ⟨f, rfl, hft⟩ := hs.put
    clear hs
    simp only [slotOf, OrdF, List.getD_cons_succ, List.getD_cons_zero, hft] at f1 f3 f5 f6 f7 f8 m6 m7 m8 p67 p68 p78
    clear hft
    obtain ⟨A1, c1, e1, hO1⟩ := f1
    obtain ⟨A2, c2, e2, hO2⟩ := f3
    obtain ⟨A3, c3, e3, hO3⟩ := f5
    obtain ⟨g1, e6, hB1⟩ := f6
    obtain ⟨g2, e7, hB2⟩ := f7
    obtain ⟨g3, e8, hB3⟩ := f8
    rw [e6, e7] at p67
    rw [e6, e8] at p68
    rw [e7, e8] at p78
    have n12 : g1 ≠ g2 := fun h => p67 (by rw [h])
    have n13 : g1 ≠ g3 := fun h => p68 (by rw [h])
    have n23 : g2 ≠ g3 := fun h => p78 (by rw [h])
    have l1 : wb.heap.size ≤ g1 := by
      obtain ⟨g, h1, h2, _⟩ := m6
      rw [e6] at h1
      simp only [Value.pointer.injEq, Option.some.injEq, Addr.mk.injEq] at h1
      omega
    have l2 : wb.heap.size ≤ g2 := by
      obtain ⟨g, h1, h2, _⟩ := m7
      rw [e7] at h1
      simp only [Value.pointer.injEq, Option.some.injEq, Addr.mk.injEq] at h1
      omega
    have l3 : wb.heap.size ≤ g3 := by
      obtain ⟨g, h1, h2, _⟩ := m8
      rw [e8] at h1
      simp only [Value.pointer.injEq, Option.some.injEq, Addr.mk.injEq] at h1
      omega
    clear m6 m7 m8 p67 p68 p78
    simp only [List.drop_succ_cons, List.drop_zero, putAll, List.foldl_cons, List.foldl_nil, Act.put, List.setIfInBounds_toArray, List.set_cons_succ, List.set_cons_zero, e1, e2, e3, e6, e7, e8]
    clear e1 e2 e3 e6 e7 e8
    have x0 : w'.cell? ⟨g1, 0, none⟩ = some (.bool false) := by rw [hB1.cell]; rfl
    have x1 : w'.cell? ⟨g1, 1, none⟩ = some (.slice none 0 0) := by rw [hB1.cell]; rfl
    have xf : ∀ i, w'.frozen? ⟨g1, i, none⟩ = false := hB1.frozen
    have y0 : w'.cell? ⟨g2, 0, none⟩ = some (.bool false) := by rw [hB2.cell]; rfl
    have y1 : w'.cell? ⟨g2, 1, none⟩ = some (.slice none 0 0) := by rw [hB2.cell]; rfl
    have yf : ∀ i, w'.frozen? ⟨g2, i, none⟩ = false := hB2.frozen
    have z0 : w'.cell? ⟨g3, 0, none⟩ = some (.bool false) := by rw [hB3.cell]; rfl
    have z1 : w'.cell? ⟨g3, 1, none⟩ = some (.slice none 0 0) := by rw [hB3.cell]; rfl
    have zf : ∀ i, w'.frozen? ⟨g3, i, none⟩ = false := hB3.frozen
    have n21 := Ne.symm n12
    have n31 := Ne.symm n13
    have n32 := Ne.symm n23
    go_upto_region 4 with (fail)
    clear x0 x1 xf y0 y1 yf z0 z1 zf
    obtain ⟨W, hW⟩ : ∃ W, W = ((((((w'.setCell ⟨g1, 0, none⟩ (.bool na)).setCell ⟨g1, 1, none⟩ (.slice A1 xs.length c1)).setCell ⟨g2, 0, none⟩ (.bool nb)).setCell ⟨g2, 1, none⟩ (.slice A2 ys.length c2)).setCell ⟨g3, 0, none⟩ (.bool nc)).setCell ⟨g3, 1, none⟩ (.slice A3 zs.length c3)) := ⟨_, rfl⟩
    obtain ⟨X1, X2, X3, hGW⟩ := three_boxes rfl hgw hB1 hB2 hB3 hO1 hO2 hO3 n12 n13 n23 l1 l2 l3 W hW
    have YB0 : Blk W g2 26 #[.bool nb, .slice A2 ys.length c2] := by
      rw [hW]
      exact (((hB2.far2 n21 _ _).put 0 (.bool nb)).put 1 (.slice A2 ys.length c2)).far2 n23 _ _
    have YB := hid YB0
    have LG2 := hid (show w.heap.size ≤ g2 from Nat.le_trans HG0.out.below.size l2)
    have hm1 := hO1.nocap
    rw [← hW]
    clear YB0 hW hB1 hB2 hB3 hO1 hO2 hO3 l1 l2 l3 n21 n31 n32 n12 n13 n23 hgw

    have HGW := hid (HG0.out.trans hGW)
    have Bx := hid X1
    have By := hid X2
    have Bz := hid X3
    clear HA HB HC hGW BA BB BC HG0 X1 X2 X3 hm1
    have SU := hid (fun (V : World) (hv : Grew w V) => sure_c V (Hg.out.grew hv))
    obtain ⟨V0, eV⟩ : ∃ V0, V0 = W := ⟨_, rfl⟩
    rw [← eV] at Bx By Bz YB HGW ⊢
    clear eV
    cases hmm : (Lg.may na xs && Lg.may nb ys)
    · have c0 := Bx.out.c0
      have c1' := Bx.out.c1
      have d0 := By.out.c0
      have d1 := By.out.c1
      have CN := hid (op_add_no (c := c1) (d := c2) Bx.out.nums By.out.nums lx ly HK.out.1 HK.out.2.1 hmm)
      clear hmm
      go_wp2_with fail
      refine CN.out.mono ?_
      rintro e V1 ⟨A7, c7, n7, L7, rfl, hG7⟩
      have HG7 := hid ((HGW.out.trans hG7).alloc (.cells #[.bool n7, .slice A7 L7.length c7] 26))
      clear c0 c1' d0 d1 hG7 CN
      go_wp2_with fail
      refine (SU.out _ HG7.out).mono ?_
      rintro e w6 ⟨rfl, hg6⟩
      go_wp2_with fail
      go_ret
      exact ⟨rfl, HG7.out.trans hg6⟩
    have Nx := hid (show NumOk na xs (Lg.num na xs) from ⟨lx, by simp only [Bool.and_eq_true] at hmm; exact hmm.1, rfl, by have := HK.out.1; omega⟩)
    have Ny := hid (show NumOk nb ys (Lg.num nb ys) from ⟨ly, by simp only [Bool.and_eq_true] at hmm; exact hmm.2, rfl, by have := HK.out.2.1; omega⟩)
    have bX := hid (Bd.of_len Nx.out HK.out.1)
    have bY := hid (Bd.of_len Ny.out HK.out.2.1)
    clear hmm
    generalize Lg.num na xs = X at *
    generalize Lg.num nb ys = Y at *

    have e0 := Bx.out.c0
    have e1 := Bx.out.c1
    have f0 := By.out.c0
    have f1 := By.out.c1
    go_wp2_with fail
    refine (op_add Bx.out.nums By.out.nums Nx.out Ny.out rfl (Bd.small (bX.out.add bY.out) (by decide))).mono ?_
    rintro e U1 ⟨A_s, k_s, n_s, L_s, rfl, hn_, hc_, hok_, hG_⟩
    have M_ := hid hn_
    have Ns := hid hok_
    have G_ := hid hG_
    clear e0 e1 f0 f1 hn_ hok_ hG_ hc_
    go_upto_region 5 with fail
    obtain ⟨V1, hV_⟩ : ∃ V', V' = U1.alloc (.cells #[.bool n_s, .slice A_s L_s.length k_s] 26) := ⟨_, rfl⟩
    have H_ : Grew V0 V1 := by rw [hV_]; exact G_.out.alloc _
    have B_s := hid (show BoxIn V1 U1.heap.size n_s A_s k_s L_s by rw [hV_]; exact BoxIn.made n_s _ M_.out)
    replace Bx := hid (Bx.out.on H_)
    replace By := hid (By.out.on H_)
    replace Bz := hid (Bz.out.on H_)
    replace YB := hid (YB.out.grew H_)
    replace HGW := hid (HGW.out.trans H_)
    rw [← hV_]
    have Os := hid (show ∀ g, g < V0.heap.size → g < U1.heap.size from fun g h => Nat.lt_of_lt_of_le h G_.out.below.size)
    clear hV_ H_ M_ G_
    obtain ⟨g_s, eg_⟩ : ∃ g, g = U1.heap.size := ⟨_, rfl⟩
    rw [← eg_] at B_s Os ⊢
    clear eg_
    have bS := hid (bX.out.add bY.out)
    have e0 := Bz.out.c0
    have e1 := Bz.out.c1
    have CK := hid (pcheck_c nc A3 c3 zs V1 Bz.out.nums (by have := HK.out.2.2; omega))
    cases hmz : Lg.may nc zs
    · rw [hmz, show errVal (if (false = true) then 0 else 1) = .iface 62 (.int .i64 1) from rfl] at CK
      clear hmz
      go_wp2_with fail
      refine CK.out.mono ?_
      rintro e V7 ⟨rfl, hG7⟩
      go_wp2_with fail
      refine (SU.out _ (HGW.out.trans hG7)).mono ?_
      rintro e w6 ⟨rfl, hg6⟩
      go_wp2_with fail
      go_ret
      exact ⟨rfl, HGW.out.trans (hG7.trans hg6)⟩
    rw [hmz, show errVal (if (true = true) then 0 else 1) = .nilIface from rfl] at CK
    have Nz := hid (show NumOk nc zs (Lg.num nc zs) from ⟨lz, hmz, rfl, by have := HK.out.2.2; omega⟩)
    have bZ := hid (Bd.of_len Nz.out HK.out.2.2)
    clear hmz
    generalize Lg.num nc zs = Z at *
    go_wp2_with fail
    refine CK.out.mono ?_
    rintro e V_k ⟨rfl, hG_⟩
    clear e0 e1 CK
    replace Bx := hid (Bx.out.on hG_)
    replace By := hid (By.out.on hG_)
    replace Bz := hid (Bz.out.on hG_)
    replace B_s := hid (B_s.out.on hG_)
    replace YB := hid (YB.out.grew hG_)
    replace HGW := hid (HGW.out.trans hG_)
    clear hG_
    go_upto_region 7 with fail
    have e0 := By.out.c0
    have e1 := By.out.c1
    have f0 := Bx.out.c0
    have f1 := Bx.out.c1
    go_wp2_with fail
    refine (op_add By.out.nums Bx.out.nums Ny.out Nx.out (Int.add_comm X Y) (Bd.small bS.out (by decide))).mono ?_
    rintro e U2 ⟨A_t, k_t, n_t, L_t, rfl, hn_, hc_, hok_, hG_⟩
    have M_ := hid hn_
    have Nt := hid hok_
    have G_ := hid hG_
    clear e0 e1 f0 f1 hn_ hok_ hG_ hc_
    go_upto_region 8 with fail
    obtain ⟨V2, hV_⟩ : ∃ V', V' = U2.alloc (.cells #[.bool n_t, .slice A_t L_t.length k_t] 26) := ⟨_, rfl⟩
    have H_ : Grew V_k V2 := by rw [hV_]; exact G_.out.alloc _
    have B_t := hid (show BoxIn V2 U2.heap.size n_t A_t k_t L_t by rw [hV_]; exact BoxIn.made n_t _ M_.out)
    replace Bx := hid (Bx.out.on H_)
    replace By := hid (By.out.on H_)
    replace Bz := hid (Bz.out.on H_)
    replace B_s := hid (B_s.out.on H_)
    replace YB := hid (YB.out.grew H_)
    replace HGW := hid (HGW.out.trans H_)
    rw [← hV_]
    have Ot := hid (show ∀ g, g < V_k.heap.size → g < U2.heap.size from fun g h => Nat.lt_of_lt_of_le h G_.out.below.size)
    clear hV_ H_ M_ G_
    obtain ⟨g_t, eg_⟩ : ∃ g, g = U2.heap.size := ⟨_, rfl⟩
    rw [← eg_] at B_t Ot ⊢
    clear eg_
    have e0 := B_s.out.c0
    have e1 := B_s.out.c1
    have f0 := By.out.c0
    have f1 := By.out.c1
    go_wp2_with fail
    refine (op_sub B_s.out.nums By.out.nums Ns.out Ny.out (show X = X + Y - Y by omega) (Bd.small bX.out (by decide))).mono ?_
    rintro e U3 ⟨A_d, k_d, n_d, L_d, rfl, hn_, hc_, hok_, hG_⟩
    have M_ := hid hn_
    have Nd := hid hok_
    have G_ := hid hG_
    clear e0 e1 f0 f1 hn_ hok_ hG_ hc_
    go_upto_region 9 with fail
    obtain ⟨V3, hV_⟩ : ∃ V', V' = U3.alloc (.cells #[.bool n_d, .slice A_d L_d.length k_d] 26) := ⟨_, rfl⟩
    have H_ : Grew V2 V3 := by rw [hV_]; exact G_.out.alloc _
    have B_d := hid (show BoxIn V3 U3.heap.size n_d A_d k_d L_d by rw [hV_]; exact BoxIn.made n_d _ M_.out)
    replace Bx := hid (Bx.out.on H_)
    replace By := hid (By.out.on H_)
    replace Bz := hid (Bz.out.on H_)
    replace B_s := hid (B_s.out.on H_)
    replace B_t := hid (B_t.out.on H_)
    replace YB := hid (YB.out.grew H_)
    replace HGW := hid (HGW.out.trans H_)
    rw [← hV_]
    have Od := hid (show ∀ g, g < V2.heap.size → g < U3.heap.size from fun g h => Nat.lt_of_lt_of_le h G_.out.below.size)
    clear hV_ H_ M_ G_
    obtain ⟨g_d, eg_⟩ : ∃ g, g = U3.heap.size := ⟨_, rfl⟩
    rw [← eg_] at B_d Od ⊢
    clear eg_
    have bM := hid (bS.out.mul bZ.out)
    have LY := hid By.out.lt
    have e0 := B_s.out.c0
    have e1 := B_s.out.c1
    have f0 := Bz.out.c0
    have f1 := Bz.out.c1
    go_wp2_with fail
    refine (op_mul B_s.out.nums Bz.out.nums Ns.out Nz.out rfl (Bd.small bM.out (by decide))).mono ?_
    rintro e U4 ⟨A_m, k_m, n_m, L_m, rfl, hn_, hc_, hok_, hG_⟩
    have M_ := hid hn_
    have Nm := hid hok_
    have G_ := hid hG_
    have Cm := hid hc_
    clear e0 e1 f0 f1 hn_ hok_ hG_ hc_
    go_upto_region 10 with fail
    obtain ⟨V4, hV_⟩ : ∃ V', V' = U4.alloc (.cells #[.bool n_m, .slice A_m L_m.length k_m] 26) := ⟨_, rfl⟩
    have H_ : Grew V3 V4 := by rw [hV_]; exact G_.out.alloc _
    have B_m := hid (show BoxIn V4 U4.heap.size n_m A_m k_m L_m by rw [hV_]; exact BoxIn.made n_m _ M_.out)
    replace Bx := hid (Bx.out.on H_)
    replace By := hid (By.out.on H_)
    replace Bz := hid (Bz.out.on H_)
    replace B_s := hid (B_s.out.on H_)
    replace B_t := hid (B_t.out.on H_)
    replace B_d := hid (B_d.out.on H_)
    replace YB := hid (YB.out.grew H_)
    replace HGW := hid (HGW.out.trans H_)
    rw [← hV_]
    have Om := hid (show ∀ g, g < V3.heap.size → g < U4.heap.size from fun g h => Nat.lt_of_lt_of_le h G_.out.below.size)
    clear hV_ H_ M_ G_
    obtain ⟨g_m, eg_⟩ : ∃ g, g = U4.heap.size := ⟨_, rfl⟩
    rw [← eg_] at B_m Om ⊢
    clear eg_
    have LM := hid (Om.out _ LY.out)
    clear LY Om
    have e0 := Bx.out.c0
    have e1 := Bx.out.c1
    have f0 := Bz.out.c0
    have f1 := Bz.out.c1
    go_wp2_with fail
    refine (op_mul Bx.out.nums Bz.out.nums Nx.out Nz.out rfl (Bd.small (bX.out.mul bZ.out) (by decide))).mono ?_
    rintro e U5 ⟨A_u, k_u, n_u, L_u, rfl, hn_, hc_, hok_, hG_⟩
    have M_ := hid hn_
    have Nu := hid hok_
    have G_ := hid hG_
    clear e0 e1 f0 f1 hn_ hok_ hG_ hc_
    go_upto_region 11 with fail
    obtain ⟨V5, hV_⟩ : ∃ V', V' = U5.alloc (.cells #[.bool n_u, .slice A_u L_u.length k_u] 26) := ⟨_, rfl⟩
    have H_ : Grew V4 V5 := by rw [hV_]; exact G_.out.alloc _
    have B_u := hid (show BoxIn V5 U5.heap.size n_u A_u k_u L_u by rw [hV_]; exact BoxIn.made n_u _ M_.out)
    replace Bx := hid (Bx.out.on H_)
    replace By := hid (By.out.on H_)
    replace Bz := hid (Bz.out.on H_)
    replace B_s := hid (B_s.out.on H_)
    replace B_t := hid (B_t.out.on H_)
    replace B_d := hid (B_d.out.on H_)
    replace B_m := hid (B_m.out.on H_)
    replace YB := hid (YB.out.grew H_)
    replace HGW := hid (HGW.out.trans H_)
    rw [← hV_]
    have Ou := hid (show ∀ g, g < V4.heap.size → g < U5.heap.size from fun g h => Nat.lt_of_lt_of_le h G_.out.below.size)
    clear hV_ H_ M_ G_
    obtain ⟨g_u, eg_⟩ : ∃ g, g = U5.heap.size := ⟨_, rfl⟩
    rw [← eg_] at B_u Ou ⊢
    clear eg_
    have e0 := By.out.c0
    have e1 := By.out.c1
    have f0 := Bz.out.c0
    have f1 := Bz.out.c1
    go_wp2_with fail
    refine (op_mul By.out.nums Bz.out.nums Ny.out Nz.out rfl (Bd.small (bY.out.mul bZ.out) (by decide))).mono ?_
    rintro e U6 ⟨A_v, k_v, n_v, L_v, rfl, hn_, hc_, hok_, hG_⟩
    have M_ := hid hn_
    have Nv := hid hok_
    have G_ := hid hG_
    clear e0 e1 f0 f1 hn_ hok_ hG_ hc_
    go_upto_region 12 with fail
    obtain ⟨V6, hV_⟩ : ∃ V', V' = U6.alloc (.cells #[.bool n_v, .slice A_v L_v.length k_v] 26) := ⟨_, rfl⟩
    have H_ : Grew V5 V6 := by rw [hV_]; exact G_.out.alloc _
    have B_v := hid (show BoxIn V6 U6.heap.size n_v A_v k_v L_v by rw [hV_]; exact BoxIn.made n_v _ M_.out)
    replace Bx := hid (Bx.out.on H_)
    replace By := hid (By.out.on H_)
    replace Bz := hid (Bz.out.on H_)
    replace B_s := hid (B_s.out.on H_)
    replace B_t := hid (B_t.out.on H_)
    replace B_d := hid (B_d.out.on H_)
    replace B_m := hid (B_m.out.on H_)
    replace B_u := hid (B_u.out.on H_)
    replace YB := hid (YB.out.grew H_)
    replace HGW := hid (HGW.out.trans H_)
    rw [← hV_]
    have Ov := hid (show ∀ g, g < V5.heap.size → g < U6.heap.size from fun g h => Nat.lt_of_lt_of_le h G_.out.below.size)
    clear hV_ H_ M_ G_
    obtain ⟨g_v, eg_⟩ : ∃ g, g = U6.heap.size := ⟨_, rfl⟩
    rw [← eg_] at B_v Ov ⊢
    clear eg_
    have e0 := B_u.out.c0
    have e1 := B_u.out.c1
    have f0 := B_v.out.c0
    have f1 := B_v.out.c1
    go_wp2_with fail
    refine (op_add B_u.out.nums B_v.out.nums Nu.out Nv.out (show (X + Y) * Z = X * Z + Y * Z from Int.add_mul ..) (Bd.small bM.out (by decide))).mono ?_
    rintro e U7 ⟨A_w, k_w, n_w, L_w, rfl, hn_, hc_, hok_, hG_⟩
    have M_ := hid hn_
    have Nw := hid hok_
    have G_ := hid hG_
    clear e0 e1 f0 f1 hn_ hok_ hG_ hc_
    go_upto_region 13 with fail
    obtain ⟨V7, hV_⟩ : ∃ V', V' = U7.alloc (.cells #[.bool n_w, .slice A_w L_w.length k_w] 26) := ⟨_, rfl⟩
    have H_ : Grew V6 V7 := by rw [hV_]; exact G_.out.alloc _
    have B_w := hid (show BoxIn V7 U7.heap.size n_w A_w k_w L_w by rw [hV_]; exact BoxIn.made n_w _ M_.out)
    replace Bx := hid (Bx.out.on H_)
    replace By := hid (By.out.on H_)
    replace Bz := hid (Bz.out.on H_)
    replace B_s := hid (B_s.out.on H_)
    replace B_t := hid (B_t.out.on H_)
    replace B_d := hid (B_d.out.on H_)
    replace B_m := hid (B_m.out.on H_)
    replace B_u := hid (B_u.out.on H_)
    replace B_v := hid (B_v.out.on H_)
    replace YB := hid (YB.out.grew H_)
    replace HGW := hid (HGW.out.trans H_)
    rw [← hV_]
    have Ow := hid (show ∀ g, g < V6.heap.size → g < U7.heap.size from fun g h => Nat.lt_of_lt_of_le h G_.out.below.size)
    clear hV_ H_ M_ G_
    obtain ⟨g_w, eg_⟩ : ∃ g, g = U7.heap.size := ⟨_, rfl⟩
    rw [← eg_] at B_w Ow ⊢
    clear eg_
    have e0 := B_s.out.c0
    have e1 := B_s.out.c1
    have f0 := B_t.out.c0
    have f1 := B_t.out.c1
    go_wp2_with fail
    refine (op_cmp B_s.out.nums B_t.out.nums Ns.out Nt.out (p := 0) (by rw [Int.sub_self]; rfl)).mono ?_
    rintro e V_c ⟨rfl, hG_⟩
    clear e0 e1 f0 f1
    replace Bx := hid (Bx.out.on hG_)
    replace By := hid (By.out.on hG_)
    replace Bz := hid (Bz.out.on hG_)
    replace B_s := hid (B_s.out.on hG_)
    replace B_t := hid (B_t.out.on hG_)
    replace B_d := hid (B_d.out.on hG_)
    replace B_m := hid (B_m.out.on hG_)
    replace B_u := hid (B_u.out.on hG_)
    replace B_v := hid (B_v.out.on hG_)
    replace B_w := hid (B_w.out.on hG_)
    replace YB := hid (YB.out.grew hG_)
    replace HGW := hid (HGW.out.trans hG_)
    clear hG_
    go_upto_region 14 with fail
    have e0 := B_d.out.c0
    have e1 := B_d.out.c1
    have f0 := Bx.out.c0
    have f1 := Bx.out.c1
    go_wp2_with fail
    refine (op_same B_d.out.nums Bx.out.nums Nd.out Nx.out rfl).mono ?_
    rintro e V_d ⟨rfl, hG_⟩
    clear e0 e1 f0 f1
    replace Bx := hid (Bx.out.on hG_)
    replace By := hid (By.out.on hG_)
    replace Bz := hid (Bz.out.on hG_)
    replace B_s := hid (B_s.out.on hG_)
    replace B_t := hid (B_t.out.on hG_)
    replace B_d := hid (B_d.out.on hG_)
    replace B_m := hid (B_m.out.on hG_)
    replace B_u := hid (B_u.out.on hG_)
    replace B_v := hid (B_v.out.on hG_)
    replace B_w := hid (B_w.out.on hG_)
    replace YB := hid (YB.out.grew hG_)
    replace HGW := hid (HGW.out.trans hG_)
    clear hG_
    have e0 := B_m.out.c0
    have e1 := B_m.out.c1
    have f0 := B_w.out.c0
    have f1 := B_w.out.c1
    go_wp2_with fail
    refine (op_same B_m.out.nums B_w.out.nums Nm.out Nw.out rfl).mono ?_
    rintro e V_e ⟨rfl, hG_⟩
    clear e0 e1 f0 f1
    replace Bx := hid (Bx.out.on hG_)
    replace By := hid (By.out.on hG_)
    replace Bz := hid (Bz.out.on hG_)
    replace B_s := hid (B_s.out.on hG_)
    replace B_t := hid (B_t.out.on hG_)
    replace B_d := hid (B_d.out.on hG_)
    replace B_m := hid (B_m.out.on hG_)
    replace B_u := hid (B_u.out.on hG_)
    replace B_v := hid (B_v.out.on hG_)
    replace B_w := hid (B_w.out.on hG_)
    replace YB := hid (YB.out.grew hG_)
    replace HGW := hid (HGW.out.trans hG_)
    clear hG_
    go_upto_region 16 with fail
    clear B_s B_t B_d Bx Bz B_u B_v B_w Ns Nt Nd Nx Nz Nu Nv Nw Os Ot Od Ou Ov Ow bX bS bZ
    generalize (X + Y) * Z = M at *

    have e0 := B_m.out.c0
    have e1 := B_m.out.c1
    have f0 := By.out.c0
    have f1 := By.out.c1
    by_cases hY0 : Y = 0
    · have DV := hid (op_div0 (c := k_m) (d := c2) B_m.out.nums By.out.nums Nm.out Ny.out Cm.out hY0)
      have hyl := hid (show ((ys.length : Int) == 0) = true by rw [beq_iff_eq]; have := Ny.out.zero_iff.2 hY0; omega)
      clear hY0
      go_wp2_with fail
      refine DV.out.mono ?_
      rintro e UD ⟨A8, c8, n8, L8, A9, c9, n9, L9, rfl, hG_⟩
      have G_ := hid hG_
      clear e0 e1 f0 f1 hG_ DV
      rw [errVal_10]
      go_upto_region 17 with fail
      obtain ⟨VD, hV_⟩ : ∃ V', V' = (UD.alloc (.cells #[.bool n8, .slice A8 L8.length c8] 26)).alloc (.cells #[.bool n9, .slice A9 L9.length c9] 26) := ⟨_, rfl⟩
      have H_ : Grew V_e VD := by rw [hV_]; exact (G_.out.alloc _).alloc _
      replace By := hid (By.out.on H_)
      replace HGW := hid (HGW.out.trans H_)
      rw [← hV_]
      clear hV_ H_ G_
      have f1 := By.out.c1
      have hyl' := hyl.out
      have NU := num_c 10 VD (Hg.out.grew HGW.out)
      rw [errVal_10] at NU
      go_wp2_with fail
      refine NU.mono ?_
      rintro e w5 ⟨rfl, hg5⟩
      have HG5 := hid (HGW.out.trans hg5)
      clear f1 hg5
      go_wp2_with fail
      refine (SU.out _ HG5.out).mono ?_
      rintro e w6 ⟨rfl, hg6⟩
      go_wp2_with fail
      go_ret
      exact ⟨rfl, HG5.out.trans hg6⟩
    obtain ⟨bQ, bR, hQR⟩ := div_bd (k := 21) bM.out (bY.out.mono (by decide)) hY0
    have DV := hid (op_div (c := k_m) (d := c2) B_m.out.nums By.out.nums Nm.out Ny.out Cm.out hY0 (bQ.small (by decide)) (bR.small (by decide)))
    have hyl := hid (show ((ys.length : Int) == 0) = false by rw [beq_eq_false_iff_ne]; intro h; exact hY0 (Ny.out.zero_iff.1 (by omega)))
    have HY0 := hid hY0
    have HQR := hid hQR
    have HbR := hid bR
    have HSG := hid (mod_sign (M := M) hY0)
    have HLS := hid (mod_less (M := M) hY0)
    clear hY0 bQ bR hQR
    generalize M.fdiv Y = QQ at *
    generalize M.fmod Y = RR at *
    go_wp2_with fail
    refine DV.out.mono ?_
    rintro e UD ⟨A_q, k_q, n_q, L_q, A_r, k_r, n_r, L_r, rfl, hq1, hr1, okq, okr, hG_⟩
    have Mq := hid hq1
    have Mr := hid hr1
    have Nq := hid okq
    have Nr := hid okr
    have G_ := hid hG_
    clear e0 e1 f0 f1 hq1 hr1 okq okr hG_ DV
    go_upto_region 17 with fail
    obtain ⟨VD, hV_⟩ : ∃ V', V' = (UD.alloc (.cells #[.bool n_q, .slice A_q L_q.length k_q] 26)).alloc (.cells #[.bool n_r, .slice A_r L_r.length k_r] 26) := ⟨_, rfl⟩
    have H_ : Grew V_e VD := by rw [hV_]; exact (G_.out.alloc _).alloc _
    have B_q := hid (show BoxIn VD UD.heap.size n_q A_q k_q L_q by rw [hV_]; exact (BoxIn.made n_q _ Mq.out).on ((Grew.refl _).alloc _))
    have B_r := hid (show BoxIn VD (UD.heap.size + 1) n_r A_r k_r L_r by
      rw [hV_]
      have h := BoxIn.made (c := k_r) n_r 26 (Mr.out.grew ((Grew.refl UD).alloc (.cells #[.bool n_q, .slice A_q L_q.length k_q] 26)))
      rw [World.size_alloc] at h
      exact h)
    have RB := hid (show Blk VD (UD.heap.size + 1) 26 #[.bool n_r, .slice A_r L_r.length k_r] by
      rw [hV_]
      have h := Blk.new (UD.alloc (.cells #[.bool n_q, .slice A_q L_q.length k_q] 26)) 26 #[.bool n_r, .slice A_r L_r.length k_r]
      rw [World.size_alloc] at h
      exact h)
    have LT := hid (show g2 < UD.heap.size ∧ g_m < UD.heap.size from ⟨Nat.lt_of_lt_of_le By.out.lt G_.out.below.size, Nat.lt_of_lt_of_le B_m.out.lt G_.out.below.size⟩)
    replace By := hid (By.out.on H_)
    replace B_m := hid (B_m.out.on H_)
    replace YB := hid (YB.out.grew H_)
    replace HGW := hid (HGW.out.trans H_)
    rw [← hV_]
    clear hV_ H_ G_ Mq Mr
    obtain ⟨g_q, eg_⟩ : ∃ g, g = UD.heap.size := ⟨_, rfl⟩
    rw [← eg_] at B_q B_r RB LT ⊢
    clear eg_
    have f1 := By.out.c1
    have hyl' := hyl.out
    go_upto_region 19 with fail
    clear f1 hyl'
    have e0 := B_q.out.c0
    have e1 := B_q.out.c1
    have f0 := By.out.c0
    have f1 := By.out.c1
    go_wp2_with fail
    refine (op_mul B_q.out.nums By.out.nums Nq.out Ny.out (show M - RR = QQ * Y by have := HQR.out; omega) (Bd.small (k := 22) (by have h := (bM.out).add HbR.out.neg; rw [← Int.sub_eq_add_neg] at h; exact h) (by decide))).mono ?_
    rintro e U8 ⟨A_p, k_p, n_p, L_p, rfl, hn_, hc_, hok_, hG_⟩
    have M_ := hid hn_
    have Np := hid hok_
    have G_ := hid hG_
    clear e0 e1 f0 f1 hn_ hok_ hG_ hc_
    go_upto_region 20 with fail
    obtain ⟨V8, hV_⟩ : ∃ V', V' = U8.alloc (.cells #[.bool n_p, .slice A_p L_p.length k_p] 26) := ⟨_, rfl⟩
    have H_ : Grew VD V8 := by rw [hV_]; exact G_.out.alloc _
    have B_p := hid (show BoxIn V8 U8.heap.size n_p A_p k_p L_p by rw [hV_]; exact BoxIn.made n_p _ M_.out)
    replace By := hid (By.out.on H_)
    replace B_m := hid (B_m.out.on H_)
    replace B_q := hid (B_q.out.on H_)
    replace B_r := hid (B_r.out.on H_)
    replace YB := hid (YB.out.grew H_)
    replace RB := hid (RB.out.grew H_)
    replace HGW := hid (HGW.out.trans H_)
    rw [← hV_]
    have Op := hid (show ∀ g, g < VD.heap.size → g < U8.heap.size from fun g h => Nat.lt_of_lt_of_le h G_.out.below.size)
    clear hV_ H_ M_ G_
    obtain ⟨g_p, eg_⟩ : ∃ g, g = U8.heap.size := ⟨_, rfl⟩
    rw [← eg_] at B_p Op ⊢
    clear eg_
    have e0 := B_p.out.c0
    have e1 := B_p.out.c1
    have f0 := B_r.out.c0
    have f1 := B_r.out.c1
    go_wp2_with fail
    refine (op_add B_p.out.nums B_r.out.nums Np.out Nr.out (show M = M - RR + RR by omega) (bM.out.small (by decide))).mono ?_
    rintro e U9 ⟨A_o, k_o, n_o, L_o, rfl, hn_, hc_, hok_, hG_⟩
    have M_ := hid hn_
    have No := hid hok_
    have G_ := hid hG_
    clear e0 e1 f0 f1 hn_ hok_ hG_ hc_
    go_upto_region 21 with fail
    obtain ⟨V9, hV_⟩ : ∃ V', V' = U9.alloc (.cells #[.bool n_o, .slice A_o L_o.length k_o] 26) := ⟨_, rfl⟩
    have H_ : Grew V8 V9 := by rw [hV_]; exact G_.out.alloc _
    have B_o := hid (show BoxIn V9 U9.heap.size n_o A_o k_o L_o by rw [hV_]; exact BoxIn.made n_o _ M_.out)
    replace By := hid (By.out.on H_)
    replace B_m := hid (B_m.out.on H_)
    replace B_q := hid (B_q.out.on H_)
    replace B_r := hid (B_r.out.on H_)
    replace B_p := hid (B_p.out.on H_)
    replace YB := hid (YB.out.grew H_)
    replace RB := hid (RB.out.grew H_)
    replace HGW := hid (HGW.out.trans H_)
    rw [← hV_]
    have Oo := hid (show ∀ g, g < V8.heap.size → g < U9.heap.size from fun g h => Nat.lt_of_lt_of_le h G_.out.below.size)
    clear hV_ H_ M_ G_
    obtain ⟨g_o, eg_⟩ : ∃ g, g = U9.heap.size := ⟨_, rfl⟩
    rw [← eg_] at B_o Oo ⊢
    clear eg_
    go_cut [185] (fun s185 wx => s185 = .bool false ∧ ∃ y : After V9, wx = y.w)
    case first =>
      have e0 := B_o.out.c0
      have e1 := B_o.out.c1
      have f0 := B_m.out.c0
      have f1 := B_m.out.c1
      have r0 := B_r.out.c0
      have r1 := B_r.out.c1
      have rl := B_r.out.lt
      have y0 := By.out.c0
      have yl := By.out.lt
      have SM := hid (op_same (c := k_o) (d := k_m) B_o.out.nums B_m.out.nums No.out Nm.out rfl)
      rcases Nat.eq_zero_or_pos L_r.length with hr0 | hr0
      · have q0 : ¬ (0 : Int) < (L_r.length : Int) := by omega
        go_wp2_with fail
        refine SM.out.mono ?_
        rintro e w5 ⟨rfl, y5, rfl⟩
        go_wp2_with fail
        go_meet
        case rel => exact ⟨rfl, y5, rfl⟩
      · have q0 : (0 : Int) < (L_r.length : Int) := by omega
        have q1 : n_r = nb := by
          rw [Nr.out.sign, Ny.out.sign]
          exact HSG.out (fun h => by have := Nr.out.zero_iff.2 h; omega)
        have q2 : (n_r != nb) = false := by rw [q1]; simp
        have HQ1 := hid q1
        clear q1
        go_wp2_with fail
        refine SM.out.mono ?_
        rintro e w5 ⟨rfl, y5, rfl⟩
        go_wp2_with fail
        go_meet
        case rel => exact ⟨by simp [HQ1.out], y5, rfl⟩
    case rest =>
    obtain ⟨rfl, y5, rfl⟩ := hcut
    have H_ := y5.grew
    generalize y5.w = V_f at *
    replace By := hid (By.out.on H_)
    replace B_m := hid (B_m.out.on H_)
    replace B_r := hid (B_r.out.on H_)
    replace YB := hid (YB.out.grew H_)
    replace RB := hid (RB.out.grew H_)
    replace HGW := hid (HGW.out.trans H_)
    clear H_
    have r0 := RB.out.cell 0
    have rf := RB.out.frozen 0
    have y0 := YB.out.cell 0
    have yf := YB.out.frozen 0
    have ne1 : g_q + 1 ≠ g2 := by have := LT.out.1; omega
    simp only [List.getElem?_toArray, List.getElem?_cons_zero] at r0 y0
    go_upto_region 24 with fail
    obtain ⟨V9, hV_⟩ : ∃ V', V' = (V_f.setCell ⟨g_q + 1, 0, none⟩ (.bool false)).setCell ⟨g2, 0, none⟩ (.bool false) := ⟨_, rfl⟩
    have YB9 := hid (show Blk V9 g2 26 #[.bool false, .slice A2 ys.length c2] by
      rw [hV_]
      exact (YB.out.far (p := ⟨g_q + 1, 0, none⟩) (Ne.symm ne1) _).put 0 _)
    have RB9 := hid (show Blk V9 (g_q + 1) 26 #[.bool false, .slice A_r L_r.length k_r] by
      rw [hV_]
      exact (RB.out.put 0 _).far (p := ⟨g2, 0, none⟩) ne1 _)
    have m9 : NumsAt .u32 V9 V9.heap.size A_m L_m := by rw [hV_]; exact two_far B_m.out.nums RB.out YB.out (Ne.symm ne1) _ _
    have n9 := hid (show NumsAt .u32 V9 V9.heap.size A_r L_r by rw [hV_]; exact two_far B_r.out.nums RB.out YB.out (Ne.symm ne1) _ _)
    have y9 := hid (show NumsAt .u32 V9 V9.heap.size A2 ys by rw [hV_]; exact two_far By.out.nums RB.out YB.out (Ne.symm ne1) _ _)
    have hgm1 : g_m ≠ g_q + 1 := by have := LT.out.2; omega
    have hgm2 : g_m ≠ g2 := by have := LM.out; omega
    have hc9 : ∀ i, V9.cell? ⟨g_m, i, none⟩ = V_f.cell? ⟨g_m, i, none⟩ := fun i => by
      rw [hV_, World.cell?_of_block (Below.heap_setCell _ _ _ _ hgm2), World.cell?_of_block (Below.heap_setCell _ _ _ _ hgm1)]
    have B9 := hid (show BoxIn V9 g_m n_m A_m k_m L_m from ⟨by rw [hV_]; simp [World.setCell]; exact B_m.out.lt, (hc9 0).trans B_m.out.c0, (hc9 1).trans B_m.out.c1, m9⟩)
    have HG9 := hid (show Grew w V9 by
      rw [hV_]
      exact (HGW.out.setCell (p := ⟨g_q + 1, 0, none⟩) (by have := LT.out.1; have := LG2.out; show w.heap.size ≤ g_q + 1; omega) _).setCell (p := ⟨g2, 0, none⟩) LG2.out _)
    rw [← hV_]
    clear hV_ r0 rf y0 yf ne1 hgm1 hgm2 hc9 m9 RB YB HGW B_m B_r By LT LM LG2
    have r0 := RB9.out.cell 0
    have r1 := RB9.out.cell 1
    have y0 := YB9.out.cell 0
    have y1 := YB9.out.cell 1
    simp only [List.getElem?_toArray, List.getElem?_cons_zero, List.getElem?_cons_succ] at r0 r1 y0 y1
    have hp : (-1 : Int) = sgnOf ((RR.natAbs : Int) - (Y.natAbs : Int)) := by
      unfold sgnOf
      rw [if_pos (by have := HLS.out; omega)]
    have CM := hid (op_cmp (c := k_r) (d := c2) n9.out y9.out Nr.out.abs Ny.out.abs hp)
    clear hp
    go_wp2_with fail
    refine CM.out.mono ?_
    rintro e V_g ⟨rfl, hG_⟩
    have B_m := hid (B9.out.on hG_)
    have HGW := hid (HG9.out.trans hG_)
    clear r0 r1 y0 y1 CM n9 y9 RB9 YB9 B9 HG9 hG_
    go_upto_region 25 with fail
    have e0 := B_m.out.c0
    have e1 := B_m.out.c1
    have TX := hid (op_text (c := k_m) B_m.out.nums Nm.out)
    go_wp2_with fail
    refine TX.out.mono ?_
    rintro e V_h ⟨D, rfl, hD, hsn, hG_⟩
    have PR := hid (fun (V : World) => op_parse (V := V) hD hsn (bM.out.small (by decide)))
    replace B_m := hid (B_m.out.on hG_)
    replace HGW := hid (HGW.out.trans hG_)
    clear e0 e1 TX hG_ hD hsn
    generalize Lg.strN (Lg.numeral n_m D) = tx at *
    go_upto_region 26 with fail
    go_wp2_with fail
    refine (PR.out _).mono ?_
    rintro e U9 ⟨A_b, k_b, n_b, L_b, rfl, hnb, _, okb, hG_⟩
    have Mb := hid hnb
    have Nbb := hid okb
    have G_ := hid hG_
    clear hnb okb hG_ PR
    go_upto_region 27 with fail
    obtain ⟨V10, hV_⟩ : ∃ V', V' = U9.alloc (.cells #[.bool n_b, .slice A_b L_b.length k_b] 26) := ⟨_, rfl⟩
    have H_ : Grew V_h V10 := by rw [hV_]; exact G_.out.alloc _
    have B_b := hid (show BoxIn V10 U9.heap.size n_b A_b k_b L_b by rw [hV_]; exact BoxIn.made n_b _ Mb.out)
    replace B_m := hid (B_m.out.on H_)
    replace HGW := hid (HGW.out.trans H_)
    rw [← hV_]
    clear hV_ H_ Mb G_
    have e0 := B_b.out.c0
    have e1 := B_b.out.c1
    have f0 := B_m.out.c0
    have f1 := B_m.out.c1
    have SM := hid (op_same (c := k_b) (d := k_m) B_b.out.nums B_m.out.nums Nbb.out Nm.out rfl)
    go_wp2_with fail
    refine SM.out.mono ?_
    rintro e V_i ⟨rfl, hG_⟩
    have HGI := hid (HGW.out.trans hG_)
    clear e0 e1 f0 f1 SM hG_ HGW B_b B_m
    go_wp2_with fail
    refine (SU.out _ HGI.out).mono ?_
    rintro e w6 ⟨rfl, hg6⟩
    go_wp2_with fail
    go_ret
    exact ⟨rfl, HGI.out.trans hg6⟩
end Go.Proofs.YtmcfciifjgdgoaaDoor

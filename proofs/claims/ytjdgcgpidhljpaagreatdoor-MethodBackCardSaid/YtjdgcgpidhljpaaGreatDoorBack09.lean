/- MethodBack: the law's walk. -/
import Derived.Test.YtjdgcgpidhljpaaGreatDoorMtU
import Derived.Test.YtjdgcgpidhljpaaGreatDoorMtY
namespace Go.Proofs.YtjdgcgpidhljpaaGreatDoor
open Go.RowKit

def GB (fb : Bool) (u : Value) : Value := if fb then undef else u
/-- What each operation of the law's last region gives. -/
def BF (X Y Z : Value) (K : Nat) (x y : Int) (vb vc vk : Value) (S1 S2 : ByteArray) (fb eq : Bool) (j : Nat) (v : Value) (_ : World) : Prop := match j with
  | 0 => v = .nilIface
  | 3 => v = .nilIface
  | 7 => v = X
  | 8 => v = Z
  | 12 => v = Z
  | 13 => v = .pointer (some ⟨K, 0, none⟩)
  | 14 => v = .int .i64 x
  | 15 => v = .pointer (some ⟨K, 1, none⟩)
  | 16 => v = .int .i64 y
  | 17 => v = .nilIface
  | 21 => v = .iface 66 (.int .i64 2)
  | 22 => v = .int .i64 2
  | 26 => v = .iface 66 (.int .i64 2)
  | 27 => v = .int .i64 2
  | 31 => v = vk
  | 32 => v = .bool fb
  | 33 => v = .bool fb
  | 34 => v = GB fb vb
  | 35 => v = GB fb (.string S1)
  | 36 => v = GB fb vc
  | 37 => v = GB fb (.string S2)
  | 38 => v = GB fb (.bool eq)
  | 39 => v = GB fb X
  | 40 => v = GB fb Y
  | 41 => v = GB fb (.bool eq)
  | 42 => v = GB fb (.bool true)
  | _ => v = .bool true
theorem BF.mono {X Y Z : Value} {K : Nat} {x y : Int} {vb vc vk : Value} {S1 S2 : ByteArray} {fb eq : Bool} (j : Nat) (v : Value) (w w' : World) (h : BF X Y Z K x y vb vc vk S1 S2 fb eq j v w) (_ : Grew w w') : BF X Y Z K x y vb vc vk S1 S2 fb eq j v w' := h
def yes9 (w : World) (e : Ending) (w' : World) : Prop := e = .returned (.bool true) ∧ Grew w w'
set_option maxRecDepth 100000 in
set_option maxHeartbeats 8000000 in
theorem back_walk (v1 v2 : MV) (x y : Int) (A : Option Addr) (c nl : Nat) (w : World) (h1 : MethArg w v1) (h2 : MethArg w v2) (hh : HandleAt w) (hE : Env w) :
    Calls Tryz.prog 4 #[.agg (mvCells v1), .agg (mvCells v2), .agg #[.int .i64 x, .int .i64 y, .slice A nl c]] w (yes9 w) := by
  have HS := hid (fun (w' : World) (hg : Grew w w') => sure9_c w' (hh.grew hg) (hE.grew hg))
  have HH := hid hh
  have HE := hid hE
  have HP1 := hid (fun (w' : World) (hg : Grew w w') => bigMethod_c v1 (tru (BigP v1)) (tru_iff _) w' (h1.grew hg))
  have HP2 := hid (fun (w' : World) (hg : Grew w w') => bigMethod_c v2 (tru (BigP v2)) (tru_iff _) w' (h2.grew hg))
  obtain ⟨W, hW⟩ : ∃ W, W = ((w.alloc (.cells (mvCells v1) 25)).alloc (.cells (mvCells v2) 25)).alloc (.cells #[.int .i64 x, .int .i64 y, .slice A nl c] 28) := ⟨_, rfl⟩
  obtain ⟨G, hG⟩ : ∃ G, G = w.heap.size := ⟨_, rfl⟩
  have hg : Grew w W := by rw [hW]; exact (((Grew.refl w).alloc _).alloc _).alloc _
  have b0 : Blk W G 25 (mvCells v1) := by
    rw [hW, hG]; exact (Blk.new w _ _).grew (((Grew.refl _).alloc _).alloc _)
  have b1 : Blk W (G + 1) 25 (mvCells v2) := by
    have := Blk.new (w.alloc (.cells (mvCells v1) 25)) 25 (mvCells v2)
    rw [World.size_alloc] at this
    rw [hW, hG]; exact this.grew ((Grew.refl _).alloc _)
  have b2 : Blk W (G + 1 + 1) 28 #[.int .i64 x, .int .i64 y, .slice A nl c] := by
    have := Blk.new ((w.alloc (.cells (mvCells v1) 25)).alloc (.cells (mvCells v2) 25)) 28 #[.int .i64 x, .int .i64 y, .slice A nl c]
    rw [World.size_alloc, World.size_alloc] at this
    rw [hW, hG]; exact this
  have HG := hid hg
  have HG0 := hid hG
  have HB0 := hid b0
  have HB1 := hid b1
  have HB2 := hid b2
  have HV1 := hid (fun (w' : World) (hg : Grew w w') (hb : ¬ BigP v1) => giveMethod_c v1 w' ((h1.fit hb).grew hg))
  have HV2 := hid (fun (w' : World) (hg : Grew w w') (hb : ¬ BigP v2) => giveMethod_c v2 w' ((h2.fit hb).grew hg))
  clear h1 h2 hh hE hg b0 b1 b2 hG
  have hbt1 : tru (BigP v1) = true ↔ BigP v1 := tru_iff _
  have hbt2 : tru (BigP v2) = true ↔ BigP v2 := tru_iff _
  have HTF := hid (@TwoF.mono v1 v2)
  obtain ⟨TF, hTF⟩ : ∃ TF, TF = TwoF v1 v2 := ⟨_, rfl⟩
  rw [← hTF] at HTF
  have TF0 := hid (show ∀ v w, TF 0 v w = (v = .agg (mvCells v1)) by rw [hTF]; exact fun _ _ => rfl)
  have TF1 := hid (show ∀ v w, TF 1 v w = ∃ u : MV, v = .agg (mvCells u) ∧ u.m = v1.m ∧ MethAt w u by rw [hTF]; exact fun _ _ => rfl)
  have TF2 := hid (show ∀ v w, TF 2 v w = (v = .agg (mvCells v2)) by rw [hTF]; exact fun _ _ => rfl)
  have TF3 := hid (show ∀ v w, TF 3 v w = ∃ u : MV, v = .agg (mvCells u) ∧ u.m = v2.m ∧ MethAt w u by rw [hTF]; exact fun _ _ => rfl)
  have TF4 := hid (show ∀ v w, TF 4 v w = ∃ g, v = .pointer (some ⟨g, 0, none⟩) ∧ Blk w g 37 #[.string ⟨#[]⟩, .slice none 0 0, .slice none 0 0] by rw [hTF]; exact fun _ _ => rfl)
  have TF5 := hid (show ∀ v w, TF 5 v w = ∃ g, v = .pointer (some ⟨g, 0, none⟩) ∧ Blk w g 37 #[.string ⟨#[]⟩, .slice none 0 0, .slice none 0 0] by rw [hTF]; exact fun _ _ => rfl)
  clear hTF
  generalize tru (BigP v1) = bb1 at *
  generalize tru (BigP v2) = bb2 at *
  have HNb1 := hid (show bb1 = false → ¬ BigP v1 from fun e hc => by rw [hbt1.2 hc] at e; cases e)
  have HNb2 := hid (show bb2 = false → ¬ BigP v2 from fun e hc => by rw [hbt2.2 hc] at e; cases e)
  clear hbt1 hbt2
  unfold GivePost at HV1 HV2
  generalize BigP v1 = big1 at *
  generalize BigP v2 = big2 at *
  unfold mvCells at HP1 HP2 HV1 HV2 hW HB0 HB1 TF0 TF2 ⊢
  obtain ⟨sel, lits, A1, c1, vs, A2, c2⟩ := v1
  obtain ⟨sel', lits', A1', c1', vs', A2', c2'⟩ := v2
  simp only at HP1 HP2 HV1 HV2 hW HB0 HB1 TF0 TF2 ⊢
  generalize lits.length = n1 at *
  generalize vs.length = n2 at *
  generalize lits'.length = n1' at *
  generalize vs'.length = n2' at *
  cases bb1
  · go_enter Tryz.func4, Tryz.ntmps4
    go_wp2_with fail
    rw [← hW, ← HG0.out]
    clear hW
    refine (HP1.out _ HG.out).mono ?_
    rintro e w1 ⟨rfl, hg1⟩
    have HG1 := hid (HG.out.trans hg1)
    have HW1 := hid hg1
    have m0 := (HB1.out.grew hg1).cell 0
    have m1 := (HB1.out.grew hg1).cell 1
    have m2 := (HB1.out.grew hg1).cell 2
    simp only [List.getElem?_toArray, List.getElem?_cons_zero, List.getElem?_cons_succ] at m0 m1 m2
    clear hg1 HP1
    go_wp2_with fail
    clear m0 m1 m2
    refine (HP2.out _ HG1.out).mono ?_
    rintro e w2 ⟨rfl, hg2⟩
    have HG2 := hid (HG1.out.trans hg2)
    have HW2 := hid (HW1.out.trans hg2)
    clear hg2 HP2 HG1 HW1
    cases bb2
    · go_wp2_with fail
      refine wp_region_facts (w0 := w2) _ 6 [26, 27, 28, 29, 7, 8] [4, 5] TF (by kernel_rfl) (by kernel_rfl) (Grew.refl _) HTF.out ?_ ?_
      · repeat' (first | exact trivial | apply And.intro)
        all_goals
          intro a w' hgw hs hA
          have e3 := hs.eval 3 (by decide) (v := .pointer (some ⟨G, 0, none⟩)) rfl
          have e4 := hs.eval 4 (by decide) (v := .pointer (some ⟨G + 1, 0, none⟩)) rfl
          have HGW := hid hgw
          have HCa := hid (HB0.out.grew (HW2.out.trans hgw))
          have HCb := hid (HB1.out.grew (HW2.out.trans hgw))
          clear hs hgw
          simp only [Ahead, Region.binds, slotOf, TF0.out, TF1.out, TF2.out, List.getD_cons_succ, List.getD_cons_zero, forall_const, and_true] at hA
          simp only [wantedD, if_true]
          unfold Oper.wp
          have ec : ∀ v, a.eval (.const v) = v := fun _ => rfl
          generalize hf : a.eval = f at *
          have ef : ∀ k, f (.func k) = Act.eval ⟨#[], []⟩ (.func k) := fun k => by rw [← hf]; rfl
          clear hf
        · have m0 := HCa.out.cell 0
          have m1 := HCa.out.cell 1
          have m2 := HCa.out.cell 2
          simp only [List.getElem?_toArray, List.getElem?_cons_zero, List.getElem?_cons_succ] at m0 m1 m2
          go_simp
          exact Gives.of' rfl (Grew.refl _) (by rw [TF0.out])
        · go_simp
          refine (HV1.out _ (HG2.out.trans HGW.out) (HNb1.out (by trivial))).mono ?_
          rintro e w3 ⟨u, rfl, hu1, hu2, hg3⟩
          exact Gives.of' rfl hg3 (by rw [TF1.out]; exact ⟨u, rfl, hu1, hu2⟩)
        · have m0 := HCb.out.cell 0
          have m1 := HCb.out.cell 1
          have m2 := HCb.out.cell 2
          simp only [List.getElem?_toArray, List.getElem?_cons_zero, List.getElem?_cons_succ] at m0 m1 m2
          go_simp
          exact Gives.of' rfl (Grew.refl _) (by rw [TF2.out])
        · go_simp
          refine (HV2.out _ (HG2.out.trans HGW.out) (HNb2.out (by trivial))).mono ?_
          rintro e w3 ⟨u, rfl, hu1, hu2, hg3⟩
          exact Gives.of' rfl hg3 (by rw [TF3.out]; exact ⟨u, rfl, hu1, hu2⟩)
        · go_simp
          refine Gives.al ((Grew.refl _).alloc _) (Nat.le_refl _) (by simp) (by rw [TF4.out]; exact ⟨_, rfl, Blk.new _ _ _⟩)
        · go_simp
          refine Gives.al ((Grew.refl _).alloc _) (Nat.le_refl _) (by simp) (by rw [TF5.out]; exact ⟨_, rfl, Blk.new _ _ _⟩)
      · intro a w3 hgw hs hf hmade hpart
        have f1 := hf 1 (by decide)
        have f3 := hf 3 (by decide)
        have f4 := hf 4 (by decide)
        have f5 := hf 5 (by decide)
        have p45 := hpart 4 5 (by decide) (by decide) (by decide) rfl rfl
        have m4 := hmade 4 (by decide) rfl
        have m5 := hmade 5 (by decide) rfl
        clear hf hmade hpart
        obtain ⟨f, rfl, hft⟩ := hs.put
        clear hs
        rw [TF1.out] at f1
        rw [TF3.out] at f3
        rw [TF4.out] at f4
        rw [TF5.out] at f5
        simp only [slotOf, List.getD_cons_succ, List.getD_cons_zero, hft] at f1 f3 f4 f5 p45 m4 m5
        clear hft
        obtain ⟨u1, e1, hu1, hm1⟩ := f1
        obtain ⟨u2, e2, hu2, hm2⟩ := f3
        obtain ⟨g1, e4, hb1⟩ := f4
        obtain ⟨g2, e5, hb2⟩ := f5
        rw [e4, e5] at p45
        have hne : g1 ≠ g2 := fun e => p45 (by rw [e])
        clear p45
        have hn1 : w2.heap.size ≤ g1 := by
          obtain ⟨g, h1, h2, _⟩ := m4
          rw [e4] at h1
          simp only [Value.pointer.injEq, Option.some.injEq, Addr.mk.injEq] at h1
          omega
        have hn2 : w2.heap.size ≤ g2 := by
          obtain ⟨g, h1, h2, _⟩ := m5
          rw [e5] at h1
          simp only [Value.pointer.injEq, Option.some.injEq, Addr.mk.injEq] at h1
          omega
        clear m4 m5 HV1 HV2 HTF TF0 TF1 TF2 TF3 TF4 TF5
        simp only [List.drop_succ_cons, List.drop_zero, putAll, List.foldl_cons, List.foldl_nil, Act.put, List.setIfInBounds_toArray, List.set_cons_succ, List.set_cons_zero, e1, e2, e4, e5]
        clear e1 e2 e4 e5
        have HBx := hid hb1
        have HBy := hid hb2
        have HMx := hid hm1
        have HMy := hid hm2
        have HUx := hid hu1
        have HUy := hid hu2
        have HGr := hid hgw
        clear hb1 hb2 hm1 hm2 hu1 hu2 hgw
        refine wpList_store3 w3 rfl _ _ rfl rfl rfl rfl HBx.out ?_
        intro w4 hb4 hk4
        have HBx4 := hid hb4
        have HBy4 := hid (HBy.out.kept hk4 (Ne.symm hne))
        have HMx4 := hid (HMx.out.box HBx.out hk4)
        have HMy4 := hid (HMy.out.box HBx.out hk4)
        have HK4 := hid hk4
        clear hb4 hk4
        refine wpList_store3 w4 rfl _ _ rfl rfl rfl rfl HBy4.out ?_
        intro w5 hb5 hk5
        have HBx5 := hid (HBx4.out.kept hk5 hne)
        have HBy5 := hid hb5
        have HMx5 := hid (HMx4.out.box HBy4.out hk5)
        have HMy5 := hid (HMy4.out.box HBy4.out hk5)
        have HGz := hid (hk5.grew (HK4.out.grew HGr.out (fun k e => by omega)) (fun k e => by omega))
        have HG5 := hid (HG2.out.trans HGz.out)
        have HW5 := hid (HW2.out.trans HGz.out)
        clear hb5 hk5 HBx4 HBy4 HMx4 HMy4 HK4 HBx HBy HMx HMy HGr hne hn1 hn2
        have HC1 := hid (fun (w' : World) (hg : Grew w5 w') => check9_c u1 x y (tru (Mt.May u1.m x y)) (tru_iff _) w' (HMx5.out.grew hg) (HE.out.grew (HG5.out.trans hg)))
        have HEn1 := hid (fun (w' : World) (hg : Grew w5 w') => encode9_c u1 w' (HMx5.out.grew hg))
        have HEn2 := hid (fun (w' : World) (hg : Grew w5 w') => encode9_c u2 w' (HMy5.out.grew hg))
        have HSm := hid (fun (w' : World) (hg : Grew w5 w') => same9_c u1 u2 w' (HMx5.out.grew hg) (HMy5.out.grew hg))
        have HSv := hid (fun (v : MV) (w' : World) (hv : MethAt w' v) (hg : Grew w5 w') => same9_c u1 v w' (HMx5.out.grew hg) hv)
        have HLn := hid (enc_few HMx5.out)
        have HLw := hid (enc_low HMx5.out)
        have HLw2 := hid (enc_low HMy5.out)
        have HFt := hid (fun (hM : Mt.May u1.m x y) => hM.fits)
        have hbm : tru (Mt.May u1.m x y) = true ↔ Mt.May u1.m x y := tru_iff _
        generalize tru (Mt.May u1.m x y) = bm at *
        generalize u1.m = M1 at *
        generalize u2.m = M2 at *
        clear HMx5 HMy5
        obtain ⟨s1, x1, B1, d1, y1, B2, d2⟩ := u1
        obtain ⟨s2, x2, C1, t1, y2, C2, t2⟩ := u2
        unfold mvCells at *
        simp only at HC1 HEn1 HEn2 HSm HSv HBx5 HBy5 ⊢
        generalize x1.length = k1 at *
        generalize y1.length = k2 at *
        generalize x2.length = k3 at *
        generalize y2.length = k4 at *
        generalize f 26 = z26
        generalize f 28 = z28
        clear f
        have m0 := HBx5.out.cell 0
        have m1 := HBx5.out.cell 1
        have m2 := HBx5.out.cell 2
        have p0 := (HB2.out.grew HW5.out).cell 0
        have p1 := (HB2.out.grew HW5.out).cell 1
        simp only [List.getElem?_toArray, List.getElem?_cons_zero, List.getElem?_cons_succ] at m0 m1 m2 p0 p1
        go_wp2_with fail
        clear m0 m1 m2 p0 p1
        refine (HC1.out _ (Grew.refl _)).mono ?_
        rintro e w6 ⟨rfl, hg6⟩
        have HY6 := hid hg6
        clear hg6 HC1
        cases bm
        · rw [show ckVal false = .iface 66 (.int .i64 8) from rfl]
          go_wp2_with fail
          refine (HS.out _ (HG5.out.trans HY6.out)).mono ?_
          rintro e w7 ⟨rfl, hg7⟩
          have HY7 := hid (HG5.out.trans (HY6.out.trans hg7))
          clear hg7
          go_wp2_with fail
          go_ret
          exact ⟨rfl, HY7.out⟩
        · rw [show ckVal true = .nilIface from rfl]
          have hMay := hbm.1 rfl
          have HFit := hid (HFt.out hMay)
          have HMay := hid hMay
          clear hMay hbm HFt
          have m0 := (HBx5.out.grew HY6.out).cell 0
          have m1 := (HBx5.out.grew HY6.out).cell 1
          have m2 := (HBx5.out.grew HY6.out).cell 2
          simp only [List.getElem?_toArray, List.getElem?_cons_zero, List.getElem?_cons_succ] at m0 m1 m2
          go_wp2_with fail
          clear m0 m1 m2
          refine (HEn1.out _ HY6.out).mono ?_
          rintro e w7 ⟨Ab, cb, bs, kb, rfl, hby, hcb, hcm, hg7, hcase⟩
          have hcs : bs = Mt.enc M1 ∧ kb = 0 := by
            rcases hcase with ⟨_, h2, h3⟩ | ⟨h1, _⟩
            · exact ⟨h2, h3⟩
            · rw [HFit.out] at h1; cases h1
          obtain ⟨hbs, rfl⟩ := hcs
          rw [show errVal 0 = .nilIface from rfl]
          have HBs := hid hbs
          have HBy := hid hby
          have HCb := hid (And.intro hcb hcm)
          have HY7 := hid (HY6.out.trans hg7)
          have HLb := hid (show bs.length ≤ 600000 by rw [hbs]; exact HLn.out)
          have HLp := hid (show 0 < bs.length by rw [hbs]; exact List.length_pos_iff.2 (Mt.enc_ne _))
          obtain ⟨nb, enb⟩ : ∃ nb, nb = bs.length := ⟨_, rfl⟩
          have HNb := hid enb
          rw [← enb]
          clear hby hcb hcm hg7 hcase hbs HEn1 enb
          have m0 := (HBy5.out.grew HY7.out).cell 0
          have m1 := (HBy5.out.grew HY7.out).cell 1
          have m2 := (HBy5.out.grew HY7.out).cell 2
          simp only [List.getElem?_toArray, List.getElem?_cons_zero, List.getElem?_cons_succ] at m0 m1 m2
          go_wp2_with fail
          clear m0 m1 m2
          refine (HEn2.out _ HY7.out).mono ?_
          rintro e w8 ⟨Ac, cc, cs, kc, rfl, hby, hcb, hcm, hg8, hcase⟩
          have HCs := hid hcase
          have HBy2 := hid hby
          have HY8 := hid (HY7.out.trans hg8)
          have HBz := hid (HBy.out.grew hg8)
          obtain ⟨nc, enc⟩ : ∃ nc, nc = cs.length := ⟨_, rfl⟩
          have HNc := hid enc
          rw [← enc]
          clear hby hcb hcm hg8 hcase HEn2 enc HBy
          go_wp2_with fail
          obtain ⟨kb, hkb⟩ : ∃ kb, nb = kb + 1 := ⟨nb - 1, by have := HLp.out; have := HNb.out; omega⟩
          subst hkb
          have hd1 := decode9_c Ab cb bs w8 HBz.out (by have := HLb.out; omega)
          rw [← HNb.out] at hd1
          have HD1 := hid hd1
          have HDe := hid (show Mt.decode bs = some M1 by rw [HBs.out]; exact Mt.decode_enc HFit.out)
          clear hd1
          refine HD1.out.mono ?_
          rintro e w9 (⟨hd, _⟩ | ⟨v, hd, rfl, hv, hg9⟩)
          · rw [HDe.out] at hd; cases hd
          have HVm : Hid (M1 = v.m) := hid (by rw [HDe.out] at hd; exact Option.some.inj hd)
          have HBv := hid (Blk.new w9 37 (mvCells v))
          have HY9 := hid ((HY8.out.trans hg9).alloc (.cells (mvCells v) 37))
          have HBb := hid (HBz.out.grew (hg9.trans ((Grew.refl w9).alloc (.cells (mvCells v) 37))))
          have HBc := hid (HBy2.out.grew (hg9.trans ((Grew.refl w9).alloc (.cells (mvCells v) 37))))
          have HMv := hid (hv.grew ((Grew.refl w9).alloc (.cells (mvCells v) 37)))
          have HSz := hid (fun (w' : World) (hg : Grew (w9.alloc (.cells (mvCells v) 37)) w') => HSv.out v w' (HMv.out.grew hg) (HY9.out.trans hg))
          rw [decide_eq_true HVm.out] at HSz
          have HCz := hid (fun (w' : World) (hg : Grew (w9.alloc (.cells (mvCells v) 37)) w') => check9_c v x y true ⟨fun _ => HVm.out ▸ HMay.out, fun _ => rfl⟩ w' (HMv.out.grew hg) (HE.out.grew ((HG5.out.trans HY9.out).trans hg)))
          rw [show ckVal true = .nilIface from rfl] at HCz
          unfold mvCells at HBv HY9 HBb HBc HMv HSz HCz ⊢
          obtain ⟨s3, x3, D1, o1, y3, D2, o2⟩ := v
          simp only at HBv HY9 HBb HBc HMv HSz HCz ⊢
          generalize x3.length = k5 at *
          generalize y3.length = k6 at *
          clear hd hv hg9 HD1 HBy2 HBz
          have hkc : kb ≤ cb := by have := HCb.out.1; have := HNb.out; omega
          have hkl : kb ≤ 600000 := by have := HLb.out; have := HNb.out; omega
          have hz0 : max (0 : Int) (wrap64 ((kb : Nat) : Int)) = ((kb : Nat) : Int) := by
            have : wrap64 ((kb : Nat) : Int) = ((kb : Nat) : Int) := by unfold wrap64; omega
            rw [this]; omega
          go_wp2_with fail
          obtain ⟨w10, hw10⟩ : ∃ w10, w10 = w9.alloc (.cells #[.string s3, .slice D1 k5 o1, .slice D2 k6 o2] 37) := ⟨_, rfl⟩
          rw [← hw10] at HBv HY9 HBb HBc HMv HSz HCz ⊢
          clear hw10
          generalize w9.heap.size = g3 at *
          have hd2 := decode9_c Ab cb (bs.take kb) w10 (HBb.out.cut kb) (by rw [List.length_take]; omega)
          rw [show (bs.take kb).length = kb by rw [List.length_take]; have := HNb.out; omega] at hd2
          have HD2 := hid hd2
          have HDs := hid (show Mt.decode (bs.take kb) = none by
            have := Mt.decode_short HFit.out HLw.out
            rw [← HBs.out, ← HNb.out, Nat.add_sub_cancel] at this
            exact this)
          clear hd2 hz0
          refine HD2.out.mono ?_
          intro e w11 hp
          obtain ⟨rfl, hg11⟩ := dec_no hp HDs.out
          have HW11 := hid (hg11.alloc (.cells #[.string ⟨#[]⟩, .slice none 0 0, .slice none 0 0] 37))
          have HBb2 := hid (HBb.out.grew HW11.out)
          obtain ⟨w12, hw12⟩ : ∃ w12, w12 = w11.alloc (.cells #[.string ⟨#[]⟩, .slice none 0 0, .slice none 0 0] 37) := ⟨_, rfl⟩
          rw [← hw12] at HW11 HBb2
          have HO1 := hid (show Row8 (w12.alloc (.cells #[] 5)) w12.heap.size (some ⟨w12.heap.size, 0, none⟩) 0 [] from World.ownsRow_made w12 #[] 0 (Nat.le_refl _) (by decide) (by simp))
          have HN1 := hid (NumsAt.of_bytes (HBb2.out.grew ((Grew.refl w12).alloc (.cells #[] 5))))
          clear hp hg11 HD2
          go_upto_region 10 with (fail)
          rw [← hw12]
          clear hw12
          generalize w11.heap.size = g4 at *
          go_wp2_with (first | (at_builtin; refine wpList_cat8 (w12.alloc (.cells #[] 5)) rfl _ _ rfl w12.heap.size (by simp) (some ⟨w12.heap.size, 0, none⟩) 0 0 [] rfl rfl HO1.out Ab (kb + 1) cb bs HNb.out rfl HN1.out (by omega) ?_; intro A2 c2 w13 hO2 hK2 hT2; have HO2 := hid hO2; have G2 := hid (show Grew w12 w13 from hK2.grew ((Grew.refl w12).alloc _) (Row8.at_base HO1.out)); clear hO2 hK2 hT2; rw [Nat.zero_add]) | (at_builtin; refine wpList_cat8 (w13.alloc (.cells #[.int .u8 0] 5)) rfl _ _ rfl w12.heap.size (by have := G2.out.below.size; simp only [World.size_alloc]; omega) A2 (kb + 1) c2 bs HNb.out rfl (Row8.grew HO2.out ((Grew.refl w13).alloc _)) _ 1 1 [0] rfl rfl (zero_lit w13) (by omega) ?_; intro A3 c3 w14 hO3 hK3 hT3; have HO3 := hid hO3; have G3 := hid (show Grew w12 w14 from hK3.grew (G2.out.alloc _) (Row8.at_base HO2.out)); clear hO3 hK3 hT3))
          have HAll := hid (show ∀ x ∈ bs ++ [0], x < 256 from fun x hx => by
            rcases List.mem_append.1 hx with hx | hx
            · exact HBb2.out.1 x hx
            · simp at hx; omega)
          have hd3 := decode9_c A3 c3 (bs ++ [0]) w14 (NumsAt.to_bytes (Row8.nums HO3.out) HAll.out) (by rw [List.length_append]; have := HLb.out; simp; omega)
          have hl2 : (bs ++ [0]).length = kb + 1 + 1 := by rw [List.length_append, ← HNb.out]; rfl
          rw [hl2] at hd3
          have HD3 := hid hd3
          have HDl := hid (show Mt.decode (bs ++ [0]) = none by rw [HBs.out]; exact Mt.decode_long HFit.out 0)
          clear hd3
          refine HD3.out.mono ?_
          intro e w15 hp
          obtain ⟨rfl, hg15⟩ := dec_no hp HDl.out
          have HW15 := hid ((HW11.out.trans (G3.out.trans hg15)).alloc (.cells #[.string ⟨#[]⟩, .slice none 0 0, .slice none 0 0] 37))
          clear hp hg15 hl2 HD3 HDs HDl HDe HAll HO1 HN1 HO2 HO3 G2 G3 HBb2
          go_upto_region 11 with (fail)
          obtain ⟨w16, hw16⟩ : ∃ w16, w16 = w15.alloc (.cells #[.string ⟨#[]⟩, .slice none 0 0, .slice none 0 0] 37) := ⟨_, rfl⟩
          rw [← hw16] at HW15 ⊢
          clear hw16
          generalize w15.heap.size = g5 at *
          have HN2 := hid (fun (w' : World) (hg : Grew w w') => num_c 2 w' (HH.out.grew hg))
          rw [show errVal 2 = .iface 66 (.int .i64 2) from rfl] at HN2
          have HW16 := hid (HG5.out.trans (HY9.out.trans HW15.out))
          have HQx := hid (fun (w' : World) (hg : Grew w16 w') => HBx5.out.grew ((HY9.out.trans HW15.out).trans hg))
          have HQy := hid (fun (w' : World) (hg : Grew w16 w') => HBy5.out.grew ((HY9.out.trans HW15.out).trans hg))
          have HQz := hid (fun (w' : World) (hg : Grew w16 w') => HBv.out.grew (HW15.out.trans hg))
          have HQk := hid (fun (w' : World) (hg : Grew w16 w') => HB2.out.grew ((HW5.out.trans (HY9.out.trans HW15.out)).trans hg))
          have HV1 := hid (fun (w' : World) (hg : Grew w16 w') => conv6 Ab cb bs w' (NumsAt.of_bytes (HBb.out.grew (HW15.out.trans hg))))
          have HV2 := hid (fun (w' : World) (hg : Grew w16 w') => conv6 Ac cc cs w' (NumsAt.of_bytes (HBc.out.grew (HW15.out.trans hg))))
          rw [← HNb.out] at HV1
          rw [← HNc.out] at HV2
          have HT1 := hid (fun (w' : World) (hg : Grew w16 w') => HSz.out w' (HW15.out.trans hg))
          have HT2 := hid (fun (w' : World) (hg : Grew w16 w') => HSm.out w' ((HY9.out.trans HW15.out).trans hg))
          have HT3 := hid (fun (w' : World) (hg : Grew w16 w') => HCz.out w' (HW15.out.trans hg))
          have HT4 := hid (fun (w' : World) (hg : Grew w16 w') => HS.out w' (HW16.out.trans hg))
          have HEq := hid (show kc = 0 → (Pk.strB bs = Pk.strB cs ↔ M1 = M2) from fun hk => by
            rcases HCs.out with ⟨h1, h2, _⟩ | ⟨_, _, h3⟩
            · rw [← Mt.enc_inj HFit.out h1, ← HBs.out, ← h2]
              constructor
              · intro h
                have := congrArg Pk.natsOf h
                rwa [Mt.nats_of_str HBb.out.1, Mt.nats_of_str HBc.out.1] at this
              · intro h; rw [h]
            · omega)
          have HKc : Hid (kc = 0 ∨ kc = 1) := hid (by rcases HCs.out with ⟨_, _, h⟩ | ⟨_, _, h⟩ <;> omega)
          clear HSz HSm HCz HS HBx5 HBy5 HBv HB2 HBb HBc HBs HCs HSv HNb HNc HMv HVm
          generalize Pk.strB bs = S1 at *
          generalize Pk.strB cs = S2 at *
          rcases HKc.out with rfl | rfl
          · rw [show errVal 0 = .nilIface from rfl]
            have HE1 := hid (HEq.out rfl)
            have HE2 : Hid ((S1.toList == S2.toList) = decide (M1 = M2)) := hid (by rw [str_beq, Bool.eq_iff_iff, decide_eq_true_iff, decide_eq_true_iff]; exact HE1.out)
            generalize decide (M1 = M2) = eq at *
            refine wp_region_facts (w0 := w16) _ 49 [72, 73, 74, 75, 76, 77, 78, 79, 80, 81, 82, 83, 84, 85, 86, 87, 88, 89, 90, 91, 92, 93, 94, 95, 96, 97, 98, 99, 100, 101, 102, 103, 104, 105, 106, 107, 108, 109, 110, 111, 112, 113, 114, 115, 116, 117, 118, 119, 6] [] (BF (.agg #[.string s1, .slice B1 k1 d1, .slice B2 k2 d2]) (.agg #[.string s2, .slice C1 k3 t1, .slice C2 k4 t2]) (.agg #[.string s3, .slice D1 k5 o1, .slice D2 k6 o2]) (G + 1 + 1) x y (.slice Ab (kb + 1) cb) (.slice Ac nc cc) .nilIface S1 S2 false eq) (by kernel_rfl) (by kernel_rfl) (Grew.refl _) BF.mono ?_ ?_
            · repeat' (first | exact trivial | apply And.intro)
              all_goals
                intro a w' hgw hs hA
                have e7 := hs.eval 7 (by decide) (v := .pointer (some ⟨g1, 0, none⟩)) rfl
                have e8 := hs.eval 8 (by decide) (v := .pointer (some ⟨g2, 0, none⟩)) rfl
                have e13 := hs.eval 13 (by decide) (v := .pointer (some ⟨g3, 0, none⟩)) rfl
                have e5 := hs.eval 5 (by decide) (v := .pointer (some ⟨G + 1 + 1, 0, none⟩)) rfl
                have e9 := hs.eval 9 (by decide) (v := .slice Ab (kb + 1) cb) rfl
                have e10 := hs.eval 10 (by decide) (v := .nilIface) rfl
                have e11 := hs.eval 11 (by decide) (v := .slice Ac nc cc) rfl
                have e12 := hs.eval 12 (by decide) (v := .nilIface) rfl
                have e14 := hs.eval 14 (by decide) (v := .nilIface) rfl
                have e16 := hs.eval 16 (by decide) (v := .iface 66 (.int .i64 2)) rfl
                have e18 := hs.eval 18 (by decide) (v := .iface 66 (.int .i64 2)) rfl
                have HGW := hid hgw
                have m0 := (HQx.out w' hgw).cell 0
                have m1 := (HQx.out w' hgw).cell 1
                have m2 := (HQx.out w' hgw).cell 2
                have n0 := (HQy.out w' hgw).cell 0
                have n1 := (HQy.out w' hgw).cell 1
                have n2 := (HQy.out w' hgw).cell 2
                have p0 := (HQz.out w' hgw).cell 0
                have p1 := (HQz.out w' hgw).cell 1
                have p2 := (HQz.out w' hgw).cell 2
                have q0 := (HQk.out w' hgw).cell 0
                have q1 := (HQk.out w' hgw).cell 1
                have v1 := HV1.out w' hgw
                have v2 := HV2.out w' hgw
                have z1 := HE2.out
                simp only [List.getElem?_toArray, List.getElem?_cons_zero, List.getElem?_cons_succ] at m0 m1 m2 n0 n1 n2 p0 p1 p2 q0 q1
                clear hs hgw
                simp only [Ahead, Region.binds, slotOf, BF, GB, Bool.false_eq_true, if_false, List.getD_cons_succ, List.getD_cons_zero, forall_const, and_true] at hA
                simp only [wantedD, isBool, slotOf, List.getD_cons_succ, List.getD_cons_zero, hA, if_true, beq_self_eq_true]
                unfold Oper.wp
                have ec : ∀ v, a.eval (.const v) = v := fun _ => rfl
                generalize hf : a.eval = f at *
                have ef : ∀ k, f (.func k) = Act.eval ⟨#[], []⟩ (.func k) := fun k => by rw [← hf]; rfl
                clear hf
                go_simp
                first
                  | (with_reducible refine Gives.of' ?_ (Grew.refl _) ?_
                     · rfl
                     · rfl)
                  | ((with_reducible refine (HN2.out _ (HW16.out.trans HGW.out)).mono ?_); rintro e w3' ⟨rfl, hg3⟩; exact Gives.of' rfl hg3 rfl)
                  | ((with_reducible refine (HT1.out _ HGW.out).mono ?_); rintro e w3' ⟨rfl, hg3⟩; exact Gives.of' rfl hg3 rfl)
                  | ((with_reducible refine (HT2.out _ HGW.out).mono ?_); rintro e w3' ⟨rfl, hg3⟩; exact Gives.of' rfl hg3 rfl)
                  | ((with_reducible refine (HT3.out _ HGW.out).mono ?_); rintro e w3' ⟨rfl, hg3⟩; exact Gives.of' rfl hg3 rfl)
                  | ((with_reducible refine (HT4.out _ HGW.out).mono ?_); rintro e w3' ⟨rfl, hg3⟩; exact Gives.of' rfl hg3 rfl)
            · intro a w' hgw hs hf
              have h48 := hf 48 (by decide)
              simp only [slotOf, BF, List.getD_cons_succ, List.getD_cons_zero] at h48
              obtain ⟨f, rfl, hft⟩ := hs.put
              rw [hft] at h48
              have HGW := hid (HW16.out.trans hgw)
              clear hf hft hs
              simp only [List.drop, wpList, putAll, List.foldl_cons, List.foldl_nil, Act.put, List.setIfInBounds_toArray, List.set_cons_succ, List.set_cons_zero, h48]
              go_wp2_with fail
              go_ret
              exact ⟨rfl, HGW.out⟩
          · rw [show errVal 1 = .iface 66 (.int .i64 1) from rfl]
            refine wp_region_facts (w0 := w16) _ 49 [72, 73, 74, 75, 76, 77, 78, 79, 80, 81, 82, 83, 84, 85, 86, 87, 88, 89, 90, 91, 92, 93, 94, 95, 96, 97, 98, 99, 100, 101, 102, 103, 104, 105, 106, 107, 108, 109, 110, 111, 112, 113, 114, 115, 116, 117, 118, 119, 6] [] (BF (.agg #[.string s1, .slice B1 k1 d1, .slice B2 k2 d2]) (.agg #[.string s2, .slice C1 k3 t1, .slice C2 k4 t2]) (.agg #[.string s3, .slice D1 k5 o1, .slice D2 k6 o2]) (G + 1 + 1) x y (.slice Ab (kb + 1) cb) (.slice Ac nc cc) (.iface 66 (.int .i64 1)) S1 S2 true false) (by kernel_rfl) (by kernel_rfl) (Grew.refl _) BF.mono ?_ ?_
            · repeat' (first | exact trivial | apply And.intro)
              all_goals
                intro a w' hgw hs hA
                have e7 := hs.eval 7 (by decide) (v := .pointer (some ⟨g1, 0, none⟩)) rfl
                have e8 := hs.eval 8 (by decide) (v := .pointer (some ⟨g2, 0, none⟩)) rfl
                have e13 := hs.eval 13 (by decide) (v := .pointer (some ⟨g3, 0, none⟩)) rfl
                have e5 := hs.eval 5 (by decide) (v := .pointer (some ⟨G + 1 + 1, 0, none⟩)) rfl
                have e9 := hs.eval 9 (by decide) (v := .slice Ab (kb + 1) cb) rfl
                have e10 := hs.eval 10 (by decide) (v := .nilIface) rfl
                have e11 := hs.eval 11 (by decide) (v := .slice Ac nc cc) rfl
                have e12 := hs.eval 12 (by decide) (v := .iface 66 (.int .i64 1)) rfl
                have e14 := hs.eval 14 (by decide) (v := .nilIface) rfl
                have e16 := hs.eval 16 (by decide) (v := .iface 66 (.int .i64 2)) rfl
                have e18 := hs.eval 18 (by decide) (v := .iface 66 (.int .i64 2)) rfl
                have HGW := hid hgw
                have m0 := (HQx.out w' hgw).cell 0
                have m1 := (HQx.out w' hgw).cell 1
                have m2 := (HQx.out w' hgw).cell 2
                have n0 := (HQy.out w' hgw).cell 0
                have n1 := (HQy.out w' hgw).cell 1
                have n2 := (HQy.out w' hgw).cell 2
                have p0 := (HQz.out w' hgw).cell 0
                have p1 := (HQz.out w' hgw).cell 1
                have p2 := (HQz.out w' hgw).cell 2
                have q0 := (HQk.out w' hgw).cell 0
                have q1 := (HQk.out w' hgw).cell 1
                have v1 := HV1.out w' hgw
                have v2 := HV2.out w' hgw
                simp only [List.getElem?_toArray, List.getElem?_cons_zero, List.getElem?_cons_succ] at m0 m1 m2 n0 n1 n2 p0 p1 p2 q0 q1
                clear hs hgw
                simp only [Ahead, Region.binds, slotOf, BF, GB, if_true, List.getD_cons_succ, List.getD_cons_zero, forall_const, and_true] at hA
                simp only [wantedD, isBool, slotOf, List.getD_cons_succ, List.getD_cons_zero, hA, if_true, beq_self_eq_true]
                first
                  | exact ⟨rfl, rfl⟩
                  | (unfold Oper.wp
                     have ec : ∀ v, a.eval (.const v) = v := fun _ => rfl
                     generalize hf : a.eval = f at *
                     have ef : ∀ k, f (.func k) = Act.eval ⟨#[], []⟩ (.func k) := fun k => by rw [← hf]; rfl
                     clear hf
                     go_simp
                     first
                       | (with_reducible refine Gives.of' ?_ (Grew.refl _) ?_
                          · rfl
                          · rfl)
                       | ((with_reducible refine (HN2.out _ (HW16.out.trans HGW.out)).mono ?_); rintro e w3' ⟨rfl, hg3⟩; exact Gives.of' rfl hg3 rfl)
                       | ((with_reducible refine (HT1.out _ HGW.out).mono ?_); rintro e w3' ⟨rfl, hg3⟩; exact Gives.of' rfl hg3 rfl)
                       | ((with_reducible refine (HT2.out _ HGW.out).mono ?_); rintro e w3' ⟨rfl, hg3⟩; exact Gives.of' rfl hg3 rfl)
                       | ((with_reducible refine (HT3.out _ HGW.out).mono ?_); rintro e w3' ⟨rfl, hg3⟩; exact Gives.of' rfl hg3 rfl)
                       | ((with_reducible refine (HT4.out _ HGW.out).mono ?_); rintro e w3' ⟨rfl, hg3⟩; exact Gives.of' rfl hg3 rfl))
            · intro a w' hgw hs hf
              have h48 := hf 48 (by decide)
              simp only [slotOf, BF, List.getD_cons_succ, List.getD_cons_zero] at h48
              obtain ⟨f, rfl, hft⟩ := hs.put
              rw [hft] at h48
              have HGW := hid (HW16.out.trans hgw)
              clear hf hft hs
              simp only [List.drop, wpList, putAll, List.foldl_cons, List.foldl_nil, Act.put, List.setIfInBounds_toArray, List.set_cons_succ, List.set_cons_zero, h48]
              go_wp2_with fail
              go_ret
              exact ⟨rfl, HGW.out⟩
    · go_wp2_with fail
      refine (HS.out _ HG2.out).mono ?_
      rintro e w3 ⟨rfl, hg3⟩
      have HG3 := hid (HG2.out.trans hg3)
      clear hg3
      go_wp2_with fail
      go_ret
      exact ⟨rfl, HG3.out⟩
  · go_enter Tryz.func4, Tryz.ntmps4
    go_wp2_with fail
    rw [← hW]
    clear hW
    refine (HP1.out _ HG.out).mono ?_
    rintro e w1 ⟨rfl, hg1⟩
    have HG1 := hid (HG.out.trans hg1)
    clear hg1 HP1
    go_wp2_with fail
    refine (HS.out _ HG1.out).mono ?_
    rintro e w2 ⟨rfl, hg2⟩
    have HG2 := hid (HG1.out.trans hg2)
    clear hg2
    go_wp2_with fail
    go_ret
    exact ⟨rfl, HG2.out⟩
end Go.Proofs.YtjdgcgpidhljpaaGreatDoor

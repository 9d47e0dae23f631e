/- Stage 11: an object added, the walk. -/
import Derived.Test.YtcfknfiddadgbaaDoorObW
namespace Go.Proofs.YtcfknfiddadgbaaDoor
open Go.RowKit

/-- What the count's operations give. -/
def BF (sg gx j cj : Nat) (k : Nat) (v : Value) (_ : World) : Prop := match k with
  | 1 => v = .pointer (some ⟨gx, 1, none⟩)
  | 2 => v = .int .i64 ((j : Nat) : Int)
  | 4 => v = .pointer (some ⟨sg, 2, none⟩)
  | 5 => v = .pointer (some ⟨sg, 2 + j, none⟩)
  | 6 => v = .int .i64 ((cj : Nat) : Int)
  | 7 => v = .int .i64 ((cj : Nat) + 1 : Int)
  | 9 => v = .pointer (some ⟨sg, 2, none⟩)
  | 10 => v = .pointer (some ⟨sg, 2 + j, none⟩)
  | _ => v = .pointer (some ⟨sg, 0, none⟩)
set_option maxRecDepth 100000 in
set_option maxHeartbeats 8000000 in
theorem add_c (s : SV) (B : Nat) (v : OV) (w : World) (h : StoreAt w B s) (hv : OvOk w v) (hvA : 0 < v.o.f.length → ∀ ad, v.A = some ad → ¬ Owns s ad.block) (hm : Ob.mayB s.up.length v.o = true) (hn : s.its.length < 65536) :
    Calls Tryd.prog 29 #[.pointer (some ⟨s.g, 0, none⟩), .agg #[.int .i64 v.o.cls, .int .i64 v.o.lev, .slice v.A v.o.f.length v.c, .string v.o.b]] w fun e w' => e = .returned (.tuple #[]) ∧ AddIn w B s v.o w' := by
  have hsp := head_spec hm
  have hl8 := h.lens
  obtain ⟨j, hj⟩ : ∃ j : Nat, v.o.lev = (j : Int) := ⟨v.o.lev.toNat, by omega⟩
  have hj8 : j < 8 := by omega
  have HSt := hid h
  have HM := hid hm
  have HJ := hid hj
  have HCC := hid (fun W (hW : Kept (AtRow s.A) w W) => copied_c v W (hv.kept hW (fun hl ad e hk => hvA hl ad e (.inr (.inl hk)))) (by omega))
  clear hvA
  have HB := hid (show B ≤ w.heap.size from Nat.le_trans h.low (Nat.le_of_lt h.blk.lt))
  have hc := st_count s j hj8
  obtain ⟨cj, hcj⟩ : ∃ cj, cj = Ob.cnt (objsI s.its) (j : Int) := ⟨_, rfl⟩
  have hcl : cj ≤ 65536 := by
    rw [hcj]
    have h1 := Ob.cnt_le (objsI s.its) (j : Int)
    rw [objsI_len] at h1
    omega
  have HCJ := hid hcj
  have hcV : cV s j = .int .i64 ((cj : Nat) : Int) := by unfold cV; rw [← hcj]
  rw [hcV] at hc
  have HC := hid hc
  have HRow := hid h.row
  have HRl := hid (fun k (hk : AtRow s.A k) => (at_row_lt h.row k hk).2)
  have HBs := hid h.blk
  have HRn := hid h.rowNe
  have h1c : (stCells s)[1]? = some (.slice s.A s.its.length s.ca) := rfl
  have H1C := hid h1c
  clear hsp hl8 h hm hcj hcV hc h1c
  obtain ⟨⟨cls, lev, f, bt⟩, A0, c0⟩ := v
  simp only at hj HCC HM HJ ⊢
  subst hj
  unfold CopyPost at HCC
  simp only at HCC
  obtain ⟨m, em⟩ : ∃ m, m = f.length := ⟨_, rfl⟩
  rw [← em] at HCC ⊢
  have EM := hid em
  obtain ⟨n, en⟩ : ∃ n, n = s.its.length := ⟨_, rfl⟩
  have EN := hid en
  rw [← en] at HRow H1C hn
  have HN := hid hn
  obtain ⟨sg, esg⟩ : ∃ sg, sg = s.g := ⟨_, rfl⟩
  have ESG := hid esg
  rw [← esg] at HBs HRn ⊢
  obtain ⟨A, eA⟩ : ∃ A, A = s.A := ⟨_, rfl⟩
  have EA := hid eA
  rw [← eA] at HRow HRl HRn H1C HCC
  obtain ⟨ca, eca⟩ : ∃ ca, ca = s.ca := ⟨_, rfl⟩
  have ECA := hid eca
  rw [← eca] at HRow H1C
  obtain ⟨bs, ebs⟩ : ∃ bs, bs = stCells s := ⟨_, rfl⟩
  have EBS := hid ebs
  rw [← ebs] at HBs HC H1C
  obtain ⟨ys, eys⟩ : ∃ ys, ys = s.its.flatMap itF := ⟨_, rfl⟩
  have EYS := hid eys
  rw [← eys] at HRow
  clear em en esg eA eca ebs eys hv
  have G1 := (Grew.refl w).alloc (.cells #[.int .i64 cls, .int .i64 (j : Int), .slice A0 m c0, .string bt] 28)
  have B1 := Blk.new w 28 #[.int .i64 cls, .int .i64 (j : Int), .slice A0 m c0, .string bt]
  go_enter Tryd.func29, Tryd.ntmps29
  go_upto_region 1 with fail
  obtain ⟨gx, egx⟩ : ∃ gx, gx = w.heap.size := ⟨_, rfl⟩
  have hs1 : (w.alloc (.cells #[.int .i64 cls, .int .i64 (j : Int), .slice A0 m c0, .string bt] 28)).heap.size = w.heap.size + 1 := World.size_alloc _ _
  generalize w.alloc (.cells #[.int .i64 cls, .int .i64 (j : Int), .slice A0 m c0, .string bt] 28) = w1 at *
  rw [← egx] at B1 hs1 ⊢
  have EGX := hid egx
  have HG1 := hid G1
  have HS1 := hid hs1
  have HAl : Hid (∀ k, AtRow A k → k < w1.heap.size) := hid (fun k hk => Nat.lt_of_lt_of_le (HRl.out k hk) HG1.out.below.size)
  have hxA : ¬ AtRow A gx := fun hk => by have h1 := HRl.out _ hk; have h2 := EGX.out; omega
  have HXA := hid hxA
  have HJ0 : Hid (AJ B sg gx A n ca ys bs #[.int .i64 cls, .int .i64 (j : Int), .slice A0 m c0, .string bt] (fun _ => false) w1) := hid ⟨fun _ => HRow.out.grew G1, HBs.out.grew G1, B1⟩
  clear G1 B1 egx hs1 hxA
  refine wp_region_facts4 (w0 := w1) w1 19 19 [4, 5, 6, 7, 8, 9, 10, 11, 12, 13, 14, 15, 16, 17, 18, 19, 20, 21, 22] [] (AF w1 B sg gx j cj A n ca ⟨cls, (j : Int), f, bt⟩ A0 m c0 ys) (Kept (AtRow A)) (GR 16 A) (AJ B sg gx A n ca ys bs #[.int .i64 cls, .int .i64 (j : Int), .slice A0 m c0, .string bt]) (May.kept _) GR.zero GR.refl (by kernel_rfl) (by kernel_rfl) (Kept.refl _ _).drew (HJ0.out.grew (Grew.refl _).drew) (fun a b v w w' _ _ hab _ h hr => AF.stable HAl.out a b v w w' hab h hr) ?_ ?_
  · repeat' (first | exact trivial | apply And.intro)
    all_goals
      intro a w' fl hgw hJ hfi hdep hs hA
      have e0 := hs.eval 0 (by decide) (v := .pointer (some ⟨sg, 0, none⟩)) rfl
      have e3 := hs.eval 3 (by decide) (v := .pointer (some ⟨gx, 0, none⟩)) rfl
      have HJ1 := hid hJ
      have HFi := hid hfi
      have HGW := hid hgw
      clear hs hgw hJ hfi hdep
      simp only [Ahead, Region.binds, slotOf, AF, List.getD_cons_succ, List.getD_cons_zero, forall_const, and_true] at hA
      simp only [wantedD, if_true]
      unfold Oper.wp
      have ec : ∀ v, a.eval (.const v) = v := fun _ => rfl
      generalize hfe : a.eval = fe at *
      have ef : ∀ k, fe (.func k) = Act.eval ⟨#[], []⟩ (.func k) := fun k => by rw [← hfe]; rfl
      clear hfe
    · go_simp
      exact Gives3.of rfl (GR.refl 0 _) rfl (HJ1.out.pure 0)
    · go_simp
      exact Gives3.of rfl (GR.refl 1 _) rfl (HJ1.out.pure 1)
    · go_simp
      exact Gives3.of rfl (GR.refl 2 _) rfl (HJ1.out.pure 2)
    · go_simp
      exact Gives3.of rfl (GR.refl 3 _) rfl (HJ1.out.pure 3)
    · have q1 := HJ1.out.2.1.cell 1
      rw [H1C.out] at q1
      go_simp
      exact Gives3.of rfl (GR.refl 4 _) rfl (HJ1.out.pure 4)
    · have q0 := HJ1.out.2.2.cell 0
      have q1 := HJ1.out.2.2.cell 1
      have q2 := HJ1.out.2.2.cell 2
      have q3 := HJ1.out.2.2.cell 3
      simp only [List.getElem?_toArray, List.getElem?_cons_zero, List.getElem?_cons_succ] at q0 q1 q2 q3
      go_simp
      exact Gives3.of rfl (GR.refl 5 _) rfl (HJ1.out.pure 5)
    · go_simp
      have hcall := HCC.out w' ((Kept.of_grew HG1.out).trans HGW.out)
      refine hcall.mono ?_
      rintro e w3 ⟨b, rfl, hb, hbk, hg3⟩
      have hsz := HGW.out.size
      exact Gives3.of rfl (GR.grew (j := 6) hg3) ⟨b, rfl, by omega, hbk⟩ ((HJ1.out.grew hg3).pure 6)
    · go_simp
      exact Gives3.of rfl (GR.refl 7 _) rfl (HJ1.out.pure 7)
    · go_simp
      exact Gives3.of rfl (GR.refl 8 _) rfl (HJ1.out.pure 8)
    · have q1 := HJ1.out.2.2.cell 1
      simp only [List.getElem?_toArray, List.getElem?_cons_zero, List.getElem?_cons_succ] at q1
      go_simp
      exact Gives3.of rfl (GR.refl 9 _) rfl (HJ1.out.pure 9)
    · go_simp
      exact Gives3.of rfl (GR.refl 10 _) rfl (HJ1.out.pure 10)
    · go_simp
      exact Gives3.of rfl (GR.refl 11 _) rfl (HJ1.out.pure 11)
    · have f1 : (j : Int) < 8 := by omega
      go_simp
      exact Gives3.of rfl (GR.refl 12 _) rfl (HJ1.out.pure 12)
    · have q1 := HJ1.out.2.1.cell (2 + j)
      rw [HC.out] at q1
      go_simp
      exact Gives3.of rfl (GR.refl 13 _) rfl (HJ1.out.pure 13)
    · obtain ⟨⟨b, hv1, hnew⟩, hv2⟩ := hA
      have HNw := hid hnew
      clear hnew
      go_simp
      exact Gives3.of rfl (GR.refl 14 _) ⟨b, rfl, HNw.out⟩ (HJ1.out.pure 14)
    · obtain ⟨b, hv1, hnew⟩ := hA
      have HNw := hid hnew
      have hgn : Grew w' (w'.alloc (.cells #[.int .i64 cls, .int .i64 (j : Int), .slice (some ⟨b, 0, none⟩) m m, .string bt, .int .i64 ((cj : Nat) : Int)] 71)) := (Grew.refl w').alloc _
      have hbn := Blk.new w' 71 #[.int .i64 cls, .int .i64 (j : Int), .slice (some ⟨b, 0, none⟩) m m, .string bt, .int .i64 ((cj : Nat) : Int)]
      have HGn := hid hgn
      have HBn := hid hbn
      clear hnew hgn hbn
      go_simp
      have hsz := HGW.out.size
      exact Gives3.of rfl (GR.grew (j := 15) HGn.out) ⟨b, w'.heap.size, rfl, HNw.out.kept (F := fun _ => False) (.of_grew HGn.out) (fun _ h => h.elim), HBn.out, hsz⟩ ((HJ1.out.grew HGn.out).pure 15)
    · obtain ⟨hv1, ⟨b, H, hv2, hnew, hbn, hH⟩, _⟩ := hA
      have HNw := hid hnew
      have hown := HJ1.out.1 HFi.out
      obtain ⟨A3, c3, w2', hrun, r1, r2, r3⟩ := run_catR (P := Tryd.prog) 72 72 71 (.agg #[.int .i64 0, .int .i64 0, .slice none 0 0, .string ⟨#[]⟩, .int .i64 0]) 5 64 Tryd.underlying72 item_info rfl (by decide) w' B (Nat.le_trans HB.out (Nat.le_trans HG1.out.below.size HGW.out.size)) A n ca ys hown (some ⟨H, 0, none⟩) 1 1 [.int .i64 cls, .int .i64 (j : Int), .slice (some ⟨b, 0, none⟩) m m, .string bt, .int .i64 ((cj : Nat) : Int)] rfl (by intro u hu; simp only [List.mem_cons, List.not_mem_nil, or_false] at hu; rcases hu with rfl | rfl | rfl | rfl | rfl <;> rfl) (by intro e; cases e) (blk_row hbn) (by omega) (by omega)
      have HR1 := hid r1
      have HR2 := hid r2
      have HR3 : Hid (RowTo w1 A A3) := hid (by
        rcases r3 with r3 | ⟨q, e1, e2⟩
        · exact .inl r3
        · exact .inr ⟨q, e1, Nat.le_trans HGW.out.size e2⟩)
      have HAb : Hid (¬ AtRow A3 b) := hid (fun hk => by
        have h1 := HNw.out.1
        rcases r3 with r3 | ⟨q, e1, e2⟩
        · rw [r3] at hk
          have h2 := HAl.out _ hk
          omega
        · obtain ⟨ad, e3, e4⟩ := hk
          rw [e1, Option.some.injEq] at e3
          rw [← e3] at e4
          simp only at e4
          have := HNw.out.2.lt
          omega)
      clear hown hbn r1 r2 r3 hnew
      simp only [execOp, resolve, invoke, builtin, Sem.run_bind, Sem.run_pure, Result.andThen_ok, List.map_toArray, List.map_cons, List.map_nil, hv1, hv2, hrun]
      refine Gives3.of rfl ?_ ?_ ?_
      · exact HR2.out
      · exact ⟨b, A3, c3, rfl, HNw.out.kept HR2.out HAl.out, HR1.out, HR3.out, HAb.out⟩
      · exact HJ1.out.app HR2.out HRn.out HXA.out
    · go_simp
      exact Gives3.of rfl (GR.refl 17 _) rfl (HJ1.out.pure 17)
    · go_simp
      exact Gives3.of rfl (GR.refl 18 _) rfl (HJ1.out.pure 18)
  · intro a w3 hgw hs hf hJ _
    have h16 := hf 16 (by decide)
    have h18 := hf 18 (by decide)
    simp only [slotOf, AF, List.getD_cons_succ, List.getD_cons_zero] at h16 h18
    obtain ⟨b, A3, c3, ev, hnew, hrow, hto, hAb⟩ := h16
    obtain ⟨fn, rfl, hft⟩ := hs.put
    rw [hft] at ev h18
    have q1 := hJ.2.1.cell 1
    have q2 := hJ.2.1.frozen 1
    have q3 := hJ.2.1.lt
    rw [H1C.out] at q1
    have HNw := hid hnew
    have Hrow := hid hrow
    have HTo := hid hto
    have HAb := hid hAb
    have HJ3 := hid hJ.2
    have HGw := hid hgw
    clear hf hft hs hgw hJ hnew hrow hto hAb
    simp only [List.drop_succ_cons, List.drop_zero, putAll, List.foldl_cons, List.foldl_nil, Act.put, List.setIfInBounds_toArray, List.set_cons_succ, List.set_cons_zero, ev, h18]
    clear ev h18
    go_upto_region 2 with fail
    have hks : Kept (· = sg) w3 (w3.setCell ⟨sg, 1, none⟩ (.slice A3 (n + 1) c3)) := (Kept.refl (· = sg) w3).setCell (p := ⟨sg, 1, none⟩) (fun _ => rfl) _
    have hb1 := HJ3.out.1.put 1 (.slice A3 (n + 1) c3)
    have hgs : gx ≠ sg := by have h1 := HBs.out.lt; have h2 := EGX.out; omega
    have hb2 := HJ3.out.2.far (p := ⟨sg, 1, none⟩) hgs (.slice A3 (n + 1) c3)
    have HKs := hid hks
    have HB1 := hid hb1
    have HB2 := hid hb2
    generalize w3.setCell ⟨sg, 1, none⟩ (.slice A3 (n + 1) c3) = w4 at *
    have hcell : (bs.setIfInBounds 1 (.slice A3 (n + 1) c3))[2 + j]? = some (.int .i64 ((cj : Nat) : Int)) := by
      rw [Array.getElem?_setIfInBounds_ne (by omega)]; exact HC.out
    have HC4 := hid hcell
    obtain ⟨bs4, hbs4⟩ : ∃ bs4, bs4 = bs.setIfInBounds 1 (.slice A3 (n + 1) c3) := ⟨_, rfl⟩
    rw [← hbs4] at HB1 HC4
    have HBS4 := hid hbs4
    clear hks hb1 hb2 hcell hbs4 q1 q2 q3 hgs
    refine wp_region_facts4 (w0 := w4) w4 11 11 [23, 24, 25, 26, 27, 28, 29, 30, 31, 32, 33] [] (BF sg gx j cj) (Kept (fun _ => False)) (fun _ => Kept (fun _ => False)) (fun _ w => Blk w sg 75 bs4 ∧ Blk w gx 28 #[.int .i64 cls, .int .i64 (j : Int), .slice A0 m c0, .string bt]) (May.kept _) (fun _ _ _ h => h) (fun _ w => Kept.refl _ w) (by kernel_rfl) (by kernel_rfl) (Kept.refl _ _).drew ⟨HB1.out.drew, HB2.out.drew⟩ (fun a b v w w' _ _ hab _ h hr => h) ?_ ?_
    · repeat' (first | exact trivial | apply And.intro)
      all_goals
        intro a w' fl hgw hJ hfi hdep hs hA
        have e0 := hs.eval 0 (by decide) (v := .pointer (some ⟨sg, 0, none⟩)) rfl
        have e3 := hs.eval 3 (by decide) (v := .pointer (some ⟨gx, 0, none⟩)) rfl
        have HJ1 := hid hJ
        clear hs hgw hJ hfi hdep
        simp only [Ahead, Region.binds, slotOf, BF, List.getD_cons_succ, List.getD_cons_zero, forall_const, and_true] at hA
        simp only [wantedD, if_true]
        unfold Oper.wp
        have ec : ∀ v, a.eval (.const v) = v := fun _ => rfl
        generalize hfe : a.eval = fe at *
        clear hfe
      · go_simp
        exact Gives3.of rfl (Kept.refl _ _) rfl HJ1.out
      · go_simp
        exact Gives3.of rfl (Kept.refl _ _) rfl HJ1.out
      · have q1 := HJ1.out.2.cell 1
        simp only [List.getElem?_toArray, List.getElem?_cons_zero, List.getElem?_cons_succ] at q1
        go_simp
        exact Gives3.of rfl (Kept.refl _ _) rfl HJ1.out
      · go_simp
        exact Gives3.of rfl (Kept.refl _ _) rfl HJ1.out
      · go_simp
        exact Gives3.of rfl (Kept.refl _ _) rfl HJ1.out
      · have f1 : (j : Int) < 8 := by omega
        go_simp
        exact Gives3.of rfl (Kept.refl _ _) rfl HJ1.out
      · have q1 := HJ1.out.1.cell (2 + j)
        rw [HC4.out] at q1
        go_simp
        exact Gives3.of rfl (Kept.refl _ _) rfl HJ1.out
      · have hw : IntKind.i64.wrap ((cj : Int) + 1) = (cj : Int) + 1 := by
          simp [IntKind.wrap, IntKind.bits, IntKind.signed]
          omega
        go_simp
        exact Gives3.of rfl (Kept.refl _ _) rfl HJ1.out
      · go_simp
        exact Gives3.of rfl (Kept.refl _ _) rfl HJ1.out
      · go_simp
        exact Gives3.of rfl (Kept.refl _ _) rfl HJ1.out
      · have f1 : (j : Int) < 8 := by omega
        go_simp
        exact Gives3.of rfl (Kept.refl _ _) rfl HJ1.out
    · intro a w5 hgw hs hf hJ _
      have h7 := hf 7 (by decide)
      have h10 := hf 10 (by decide)
      simp only [slotOf, BF, List.getD_cons_succ, List.getD_cons_zero] at h7 h10
      obtain ⟨fn2, rfl, hft⟩ := hs.put
      rw [hft] at h7 h10
      have HG5 := hid hgw
      have HB5 := hid hJ.1
      have q1 := hJ.1.cell (2 + j)
      rw [HC4.out] at q1
      have q2 := hJ.1.frozen (2 + j)
      have q3 := hJ.1.lt
      clear hf hft hs hgw hJ
      simp only [List.drop_succ_cons, List.drop_zero, putAll, List.foldl_cons, List.foldl_nil, Act.put, List.setIfInBounds_toArray, List.set_cons_succ, List.set_cons_zero, h7, h10]
      clear h7 h10
      go_wp2_with fail
      refine bodyPost_end (results_none rfl _ _ _) rfl ⟨rfl, ?_⟩
      have hks2 : Kept (· = sg) w5 (w5.setCell ⟨sg, 2 + j, none⟩ (.int .i64 ((cj : Int) + 1))) := (Kept.refl (· = sg) w5).setCell (p := ⟨sg, 2 + j, none⟩) (fun _ => rfl) _
      have hkk : Kept (· = sg) w3 (w5.setCell ⟨sg, 2 + j, none⟩ (.int .i64 ((cj : Int) + 1))) := (HKs.out.next HG5.out (fun _ _ h => h.elim)).trans hks2
      have hbl := HB5.out.put (2 + j) (.int .i64 ((cj : Int) + 1))
      rw [HBS4.out, EBS.out, EN.out] at hbl
      have e1 := st_add s A3 c3 ⟨cls, (j : Int), f, bt⟩ b j hj8 rfl
      rw [show ((Ob.cnt (objsI s.its) (j : Int) + 1 : Nat) : Int) = (cj : Int) + 1 by rw [← HCJ.out]; rfl] at e1
      rw [e1] at hbl
      have hrow := Hrow.out
      rw [EYS.out, EN.out, EM.out, HCJ.out] at hrow
      have hkA : Kept (AtRow s.A) w w3 := by rw [← EA.out]; exact (Kept.of_grew HG1.out).trans HGw.out
      have hto : RowTo w s.A A3 := by
        rw [← EA.out]
        rcases HTo.out with h1 | ⟨q, h1, h2⟩
        · exact .inl h1
        · exact .inr ⟨q, h1, Nat.le_trans HG1.out.below.size h2⟩
      rw [ESG.out] at hkk hbl ⊢
      exact add_in HSt.out HM.out (by rw [← EN.out]; exact HN.out) hkA ⟨Nat.le_trans HG1.out.below.size HNw.out.1, HNw.out.2⟩ hrow hto HAb.out hbl hkk
end Go.Proofs.YtcfknfiddadgbaaDoor

/- HeapRuns: the walk of the law. -/
import Derived.Test.YtidnaednldcdfaaGreatDoorGeT
import Derived.Test.YtidnaednldcdfaaGreatDoorGeC
import Derived.Test.YtidnaednldcdfaaGreatDoorGeW
import Derived.Deep.CutRange
import Derived.Deep.CutBlock
namespace Go.Proofs.YtidnaednldcdfaaGreatDoor
open Go.RowKit

set_option maxRecDepth 100000 in
set_option maxHeartbeats 64000000 in
theorem runs12_walk (U : Option Addr) (cu : Nat) (up : List Nat) (room : Int) (Q : Option Addr) (cq : Nat) (quota : List Int) (A : Option Addr) (ca : Nat) (acts : List A12) (w : World) (hE : HandleAt w) (hU : BytesAt w w.heap.size U up) (hQ : IntsAt w Q quota) (hA : Acts12 w A acts) :
    Calls Tryz.prog 3 #[.agg #[.slice U up.length cu, .int .i64 room, .slice Q quota.length cq], .slice A acts.length ca] w fun e w' => e = .returned (.bool true) ∧ Grew w w' := by
  have HU := hid hU
  have HQ := hid hQ
  have HAc := hid hA
  have HSu := hid (fun W (hW : Grew w W) => sure_c W (hE.grew hW))
  have HNum := hid (fun (k : Nat) W (hW : Grew w W) => num_c k W (hE.grew hW))
  have HNe : Hid (∀ W, Grew w W → Calls Tryz.prog 8 #[.iface 91 (.int .i64 1)] W fun e w' => e = .returned (.int .i64 1) ∧ Grew W w') := hid (fun W hW => num_c 1 W (hE.grew hW))
  clear hE hU hQ hA
  obtain ⟨n, en⟩ : ∃ n, n = acts.length := ⟨_, rfl⟩
  rw [← en]
  have EN := hid en
  clear en
  have HBs := hid (fun W => bigSetup_c U up.length cu room Q quota.length cq W)
  obtain ⟨bs, ebs⟩ : ∃ bs, bs = bigS up.length quota.length := ⟨_, rfl⟩
  rw [← ebs] at HBs
  have EBS := hid ebs
  clear ebs
  have HGe := hid (fun W => hGet_nil 0 W)
  have HHa := hid (fun W => hHash_nil 0 W)
  rw [show errVal 1 = .iface 91 (.int .i64 1) from rfl] at HGe HHa
  unfold zeroH at HGe
  have B1 := Blk.new w 25 #[.slice U up.length cu, .int .i64 room, .slice Q quota.length cq]
  have G1 := (Grew.refl w).alloc (.cells #[.slice U up.length cu, .int .i64 room, .slice Q quota.length cq] 25)
  go_enter Tryz.func3, Tryz.ntmps3
  go_upto_region 1 with fail
  generalize w.alloc (.cells #[.slice U up.length cu, .int .i64 room, .slice Q quota.length cq] 25) = wb at *
  obtain ⟨gs, egs⟩ : ∃ gs, gs = w.heap.size := ⟨_, rfl⟩
  rw [← egs] at B1 ⊢
  have HG := hid G1
  have HB1 := hid B1
  clear B1 G1 egs
  go_upto_region 3 with (go_at_call 5; refine (HGe.out _).mono ?_; rintro e w1 ⟨rfl, hg1⟩)
  have G2 := hg1.alloc (.cells #[.int .i64 0, .int .i64 0, .slice none 0 0, .string ⟨#[]⟩] 30)
  generalize w1.alloc (.cells #[.int .i64 0, .int .i64 0, .slice none 0 0, .string ⟨#[]⟩] 30) = w2 at *
  have HB2 := hid (HB1.out.grew G2)
  replace HG := hid (HG.out.trans G2)
  generalize w1.heap.size = go0 at *
  clear hg1 G2 HB1 HGe
  go_upto_region 7 with first | (go_at_call 6; refine (HHa.out _).mono ?_; rintro e wq ⟨rfl, hgq⟩; replace HG := hid (HG.out.trans hgq); replace HB2 := hid (HB2.out.grew hgq); clear hgq) | (go_at_call 7; refine (hAdd_nil _).mono ?_; rintro e wq ⟨rfl, hgq⟩; replace HG := hid (HG.out.trans hgq); replace HB2 := hid (HB2.out.grew hgq); clear hgq) | (go_at_call 8; refine (HNe.out _ HG.out).mono ?_; rintro e wq ⟨rfl, hgq⟩; replace HG := hid (HG.out.trans hgq); replace HB2 := hid (HB2.out.grew hgq); clear hgq) | (go_at_call 9; refine (hPut_nil _).mono ?_; rintro e wq ⟨rfl, hgq⟩; replace HG := hid (HG.out.trans hgq); replace HB2 := hid (HB2.out.grew hgq); clear hgq) | (go_at_call 10; refine (hLen_nil _).mono ?_; rintro e wq ⟨rfl, hgq⟩; replace HG := hid (HG.out.trans hgq); replace HB2 := hid (HB2.out.grew hgq); clear hgq) | (go_at_call 11; refine (hUsed_nil _ _).mono ?_; rintro e wq ⟨rfl, hgq⟩; replace HG := hid (HG.out.trans hgq); replace HB2 := hid (HB2.out.grew hgq); clear hgq) | (go_at_call 12; refine (hCollect_nil _).mono ?_; rintro e wq ⟨rfl, hgq⟩; replace HG := hid (HG.out.trans hgq); replace HB2 := hid (HB2.out.grew hgq); clear hgq)
  clear HHa HNe
  have q0 := HB2.out.cell 0
  have q1 := HB2.out.cell 1
  have q2 := HB2.out.cell 2
  have ql := HB2.out.lt
  simp only [List.getElem?_toArray, List.getElem?_cons_zero, List.getElem?_cons_succ] at q0 q1 q2
  cases bs
  rotate_left 1
  · go_wp2_with first | (go_at_call 13; refine (HBs.out _).mono ?_; rintro e w2 ⟨rfl, hg2⟩) | (go_at_call 14; refine (HSu.out w2 (HG.out.trans hg2)).mono ?_; rintro e w3 ⟨rfl, hg3⟩)
    go_ret
    exact ⟨rfl, (HG.out.trans hg2).trans hg3⟩
  · obtain ⟨hu20, hq20⟩ := bigS_fit2 EBS.out.symm
    go_upto_region 9 with (go_at_call 13; refine (HBs.out _).mono ?_; rintro e w4 ⟨rfl, hg4⟩)
    have HB4 := hid (HB2.out.grew hg4)
    have HG4 := hid (HG.out.trans hg4)
    clear q0 q1 q2 ql hg4 HB2 HG HBs EBS
    obtain ⟨k, ek⟩ : ∃ k, k = newCode up room quota := ⟨_, rfl⟩
    obtain ⟨ok, eok⟩ : ∃ ok, ok = decide (k = 0) := ⟨_, rfl⟩
    obtain ⟨er, eer⟩ : ∃ er, er = errVal k := ⟨_, rfl⟩
    have HNk := hid (fun W (hW : Grew w W) => HNum.out k W hW)
    rw [← eer] at HNk
    have HUp := hid (fun W (hW : Grew w4 W) => HU.out.grew (HG4.out.trans hW))
    have HQu := hid (fun W (hW : Grew w4 W) => HQ.out.grew (HG4.out.trans hW))
    have HNw : Hid (∀ (A3 : Option Addr) (c3 : Nat) (A4 : Option Addr) (c4 : Nat) (W : World), BytesAt W W.heap.size A3 up → IntsAt W A4 quota → Calls Tryz.prog 15 #[.agg #[.slice A3 up.length c3], .int .i64 room, .slice A4 quota.length c4] W fun e w' => ∃ p, e = .returned (.tuple #[p, er]) ∧ PnV ok W up room (qf room quota) p w' ∧ Grew W w') := hid (fun A3 c3 A4 c4 W h1 h2 => by
      refine (hNew_c A3 c3 up room A4 c4 quota W hu20 h1 h2 (by omega)).mono ?_
      intro e w' hp
      rw [eer, eok, ek]
      exact pn_new hp)
    have HEk := hid ek
    have HEo := hid eok
    have HEe := hid eer
    clear ek eok eer
    refine wp_region_facts4 (w0 := w4) w4 17 17 [88, 89, 90, 91, 92, 93, 94, 95, 96, 97, 98, 99, 87, 100, 101, 12, 13] [] (NeF w4 gs U cu up room Q cq quota ok er) (Kept (fun _ => False)) (fun _ => Kept (fun _ => False)) (fun _ _ => True) (May.kept _) (fun _ _ _ h => h) (fun _ w => Kept.refl _ w) (by kernel_rfl) (by kernel_rfl) (Kept.refl _ _).drew trivial (fun a _ v w w' _ _ _ _ h hr => NeF.grew a v w w' h (Kept.grew hr (Grew.refl _) (fun _ h => h.elim))) ?_ ?_
    · repeat' (first | exact trivial | apply And.intro)
      all_goals
        intro a w' fl hgk hJ hfi hdep hs hA
        have t2 := hs.eval 2 (by decide) (v := .pointer (some ⟨gs, 0, none⟩)) rfl
        have hgw : Grew w4 w' := Kept.grew hgk (Grew.refl _) (fun _ h => h.elim)
        have HGW := hid hgw
        have HBw := hid (HB4.out.grew hgw)
        clear hs hgk hJ hfi hdep hgw
        simp only [Ahead, Region.binds, slotOf, NeF, List.getD_cons_succ, List.getD_cons_zero, forall_const, gcOff, Bool.false_eq_true, false_implies, and_true] at hA
        simp only [wantedD, if_true]
        unfold Oper.wp
        have ec : ∀ v, a.eval (.const v) = v := fun _ => rfl
        generalize hfe : a.eval = fe at *
        have ef : ∀ k, fe (.func k) = Act.eval ⟨#[], []⟩ (.func k) := fun k => by rw [← hfe]; rfl
        clear hfe
      · have hbn := Blk.new w' 5 #[]
        have hgn := (Grew.refl w').alloc (.cells #[] 5)
        have HBn := hid hbn
        have HGn := hid hgn
        clear hbn hgn
        go_simp
        exact Gives3.of rfl (Kept.of_grew HGn.out) ⟨w'.heap.size, rfl, HBn.out⟩ trivial
      · go_simp
        exact Gives3.of rfl (Kept.refl _ _) rfl trivial
      · have x0 := HBw.out.cell 0
        have xl := HBw.out.lt
        simp only [List.getElem?_toArray, List.getElem?_cons_zero] at x0
        go_simp
        exact Gives3.of rfl (Kept.refl _ _) rfl trivial
      · obtain ⟨⟨H, hv1, hbn⟩, hv2⟩ := hA
        have hb0 := HUp.out w' HGW.out
        obtain ⟨A3, c3, w2', hrun, r1, r2⟩ := run_catZ (P := Tryz.prog) 22 22 5 (.int .u8 0) 1 Tryz.underlying22 u8_info rfl w' H hbn U up.length cu (numCells .u8 up) (numCells_length _ _) (numCells_one _ _) (bytes_none hb0) (bytes_cells hb0) (by omega) (by omega)
        have HR1 := hid (bytes_row hb0.1 r1)
        have HR2 := hid r2
        clear hbn hb0 r1 r2
        simp only [execOp, resolve, invoke, builtin, Sem.run_bind, Sem.run_pure, Result.andThen_ok, List.map_toArray, List.map_cons, List.map_nil, hv1, hv2, hrun, Oper.upon]
        refine Gives3.of rfl ?_ ?_ ?_
        · exact Kept.of_grew HR2.out
        · exact ⟨A3, c3, rfl, HR1.out⟩
        · exact trivial
      · obtain ⟨A', c', hv, hb⟩ := hA
        have HB3 := hid hb
        clear hb
        go_simp
        exact Gives3.of rfl (Kept.refl _ _) ⟨A', c', rfl, HB3.out⟩ trivial
      · go_simp
        exact Gives3.of rfl (Kept.refl _ _) rfl trivial
      · have x0 := HBw.out.cell 1
        have xl := HBw.out.lt
        simp only [List.getElem?_toArray, List.getElem?_cons_zero, List.getElem?_cons_succ] at x0
        go_simp
        exact Gives3.of rfl (Kept.refl _ _) rfl trivial
      · have hbn := Blk.new w' 3 #[]
        have hgn := (Grew.refl w').alloc (.cells #[] 3)
        have HBn := hid hbn
        have HGn := hid hgn
        clear hbn hgn
        go_simp
        exact Gives3.of rfl (Kept.of_grew HGn.out) ⟨w'.heap.size, rfl, HBn.out⟩ trivial
      · go_simp
        exact Gives3.of rfl (Kept.refl _ _) rfl trivial
      · have x0 := HBw.out.cell 2
        have xl := HBw.out.lt
        simp only [List.getElem?_toArray, List.getElem?_cons_zero, List.getElem?_cons_succ] at x0
        go_simp
        exact Gives3.of rfl (Kept.refl _ _) rfl trivial
      · obtain ⟨⟨H, hv1, hbn⟩, hv2⟩ := hA
        have hb0 := HQu.out w' HGW.out
        obtain ⟨A3, c3, w2', hrun, r1, r2⟩ := run_catZ (P := Tryz.prog) 23 23 3 (.int .i64 0) 8 Tryz.underlying23 i64_info rfl w' H hbn Q quota.length cq (quota.flatMap intF) (by rw [flatMap_length intF_len, Nat.mul_one]) (ints_one quota) (ints_none hb0) (ints_cells hb0) (by omega) (by omega)
        have HR1 := hid (ints_row r1)
        have HR2 := hid r2
        clear hbn hb0 r1 r2
        simp only [execOp, resolve, invoke, builtin, Sem.run_bind, Sem.run_pure, Result.andThen_ok, List.map_toArray, List.map_cons, List.map_nil, hv1, hv2, hrun, Oper.upon]
        refine Gives3.of rfl ?_ ?_ ?_
        · exact Kept.of_grew HR2.out
        · exact ⟨A3, c3, rfl, HR1.out⟩
        · exact trivial
      · obtain ⟨⟨A3, c3, hv1, hb⟩, hv2, ⟨A4, c4, hv3, hq⟩, _⟩ := hA
        have HB3 := hid hb
        have HQ4 := hid hq
        clear hb hq
        go_simp
        refine (HNw.out A3 c3 A4 c4 w' HB3.out HQ4.out).mono ?_
        rintro e wz ⟨p, rfl, hp, hgz⟩
        exact Gives3.of rfl (Kept.of_grew hgz) ⟨p, rfl, hp.from HGW.out⟩ trivial
      · obtain ⟨p, hv, hs⟩ := hA
        have HSs := hid hs
        clear hs
        go_simp
        exact Gives3.of rfl (Kept.refl _ _) ⟨p, rfl, HSs.out⟩ trivial
      · obtain ⟨p, hv, hs⟩ := hA
        have HSs := hid hs
        clear hs
        go_simp
        exact Gives3.of rfl (Kept.refl _ _) HSs.out trivial
      · obtain ⟨p, hv, hs⟩ := hA
        clear hs
        go_simp
        exact Gives3.of rfl (Kept.refl _ _) rfl trivial
      · have HSs := hid hA.1
        clear hA
        go_simp
        exact Gives3.of rfl (Kept.refl _ _) HSs.out trivial
      · have hv := hA.1
        go_simp
        exact Gives3.of rfl (Kept.refl _ _) rfl trivial
    · intro a2 wn hgk hs hf _ _
      have hgw : Grew w4 wn := Kept.grew hgk (Grew.refl _) (fun _ h => h.elim)
      have h15 := hf 15 (by decide)
      have h16 := hf 16 (by decide)
      simp only [slotOf, NeF, List.getD_cons_succ, List.getD_cons_zero] at h15 h16
      obtain ⟨fn, rfl, hft⟩ := hs.put
      rw [hft] at h15 h16
      obtain ⟨p, ep⟩ : ∃ p, p = fn 12 := ⟨_, rfl⟩
      rw [← ep] at h15
      have HPh := hid h15
      have HB5 := hid (HB4.out.grew hgw)
      have HG5 := hid (HG4.out.trans hgw)
      have hep := ep.symm
      have HGw := hid hgw
      clear hf hft hs hgk hgw h15 ep HUp HQu HNw HB4
      simp only [List.drop_succ_cons, List.drop_zero, putAll, List.foldl_cons, List.foldl_nil, Act.put, List.setIfInBounds_toArray, List.set_cons_succ, List.set_cons_zero, hep, h16]
      clear h16 hep
      have HHr := hid (fun (hk : k = 0) => show ∀ ad, U = some ad → ad.block < w4.heap.size from fun ad e => by
        have h1 : La.valid up = true := by
          cases hv : La.valid up
          · rw [HEk.out, newCode_lat hv] at hk; cases hk
          · rfl
        obtain ⟨ad', h2, h3, _⟩ := HU.out.2 (La.valid_spec h1).1
        rw [e] at h2
        cases h2
        exact Nat.lt_of_lt_of_le h3 HG4.out.below.size)
      have hcall : Calls Tryz.prog 16 #[.slice U up.length cu, .int .i64 room, .slice Q quota.length cq] wn fun e w' => ∃ r : RV, e = .returned (.tuple #[.agg (rvC r), .int .i64 ((k : Nat) : Int)]) ∧ (ok = true → RHAt w' r up room (qf room quota) [] (fun _ => 0) ∧ r.U = U ∧ ∀ j, RFp r j → wn.heap.size ≤ j) ∧ Grew wn w' := by
        refine (rNew_c U cu up room Q cq quota wn hu20 (HU.out.grew HG5.out) (HQ.out.grew HG5.out) (by omega)).mono ?_
        intro e w' hp
        by_cases hk : k = 0
        · obtain ⟨r, he, h1, h2, h3, h4⟩ := rh_new hp (by rw [← HEk.out]; exact hk)
          exact ⟨r, by rw [he, hk]; rfl, fun _ => ⟨h1, h2, h3⟩, h4⟩
        · unfold RNewV at hp
          rw [← HEk.out, if_neg hk] at hp
          exact ⟨rv0, hp.1, (fun h => by rw [HEo.out, decide_eq_false hk] at h; cases h), hp.2⟩
      have q0 := HB5.out.cell 0
      have q1 := HB5.out.cell 1
      have q2 := HB5.out.cell 2
      have ql := HB5.out.lt
      simp only [List.getElem?_toArray, List.getElem?_cons_zero, List.getElem?_cons_succ] at q0 q1 q2
      go_upto_region 11 with (go_at_call 16; refine hcall.mono ?_; rintro e w5 ⟨rv, rfl, hr, hg5⟩; have HRv := hid hr; simp only [rvC]; clear hr q0 q1 q2 ql)
      have B6 := Blk.new w5 53 #[.slice rv.U rv.up.length rv.cu, .int .i64 rv.room, .slice rv.Q rv.q.length rv.cq, .slice rv.I rv.its.length rv.ci, .slice rv.C rv.cn.length rv.cc]
      have G6 := (Grew.refl w5).alloc (.cells #[.slice rv.U rv.up.length rv.cu, .int .i64 rv.room, .slice rv.Q rv.q.length rv.cq, .slice rv.I rv.its.length rv.ci, .slice rv.C rv.cn.length rv.cc] 53)
      generalize w5.alloc (.cells #[.slice rv.U rv.up.length rv.cu, .int .i64 rv.room, .slice rv.Q rv.q.length rv.cq, .slice rv.I rv.its.length rv.ci, .slice rv.C rv.cn.length rv.cc] 53) = w6 at *
      obtain ⟨gr, egr⟩ : ∃ gr, gr = w5.heap.size := ⟨_, rfl⟩
      rw [← egr] at B6 ⊢
      have HG6 := hid (HG5.out.trans (hg5.trans G6))
      have HB6 := hid B6
      have HG56 := hid G6
      have HG45 := hid hg5
      have EGR := hid egr
      clear B6 G6 egr hg5 hcall HB5
      cases ok
      · have f2 : ((k : Nat) : Int) ≠ 0 := by
          have := HEo.out
          intro e
          rw [decide_eq_true (by omega)] at this
          cases this
        have hp : p = .pointer none := HPh.out
        subst hp
        go_wp2_with first | (go_at_call 8; refine (HNk.out w6 HG6.out).mono ?_; rintro e w7 ⟨rfl, hg7⟩) | (go_at_call 14; refine (HSu.out w7 (HG6.out.trans hg7)).mono ?_; rintro e w8 ⟨rfl, hg8⟩)
        go_ret
        exact ⟨rfl, (HG6.out.trans hg7).trans hg8⟩
      · have hk : k = 0 := of_decide_eq_true HEo.out.symm
        subst hk
        have her : er = .nilIface := by rw [HEe.out]; rfl
        subst her
        obtain ⟨v0, hp, hH⟩ := (show ∃ h : HV, p = .pointer (some ⟨h.g, 0, none⟩) ∧ HAt w4 wn w4.heap.size 0 h up room (qf room quota) [] (fun _ => 0) from HPh.out)
        subst hp
        obtain ⟨h1, h2, h3⟩ := HRv.out rfl
        obtain ⟨B, eB⟩ : ∃ B, B = w4.heap.size := ⟨_, rfl⟩
        rw [← eB] at hH
        have HRun := hid (RunAt.new hH h1 HG45.out (fun ad e => HHr.out rfl ad (by rw [← h2]; exact e)) h3 HG56.out (Nat.le_of_eq EGR.out.symm) HB6.out)
        obtain ⟨sg, esg⟩ : ∃ sg, sg = v0.g := ⟨_, rfl⟩
        rw [← esg]
        have ESG := hid esg
        clear hH h1 h2 h3 eB esg HPh HRv HHr HB6 HG56 HG45 EGR HNk HEk HEo HEe HG6 HG5 HGw
        go_upto_region 16 with fail
        go_loopw [16] (fun s16 wr => ∃ (i : Nat) (v : HV) (rv : RV) (C : Nat) (L : List Hp.It) (cn : Nat → Int), s16 = .int .i64 ((i : Nat) : Int) ∧ i ≤ n ∧ i ≤ 60 ∧ Hid (RunAt w4 wr B C v rv gr up room (qf room quota) L cn L cn) ∧ Hid (C ≤ i ∧ L.length ≤ i) ∧ Hid (v.g = sg)) (fun s16 _ => 60 - (intOf s16).toNat)
        case atStart => exact ⟨0, v0, rv, 0, [], _, rfl, Nat.zero_le _, Nat.zero_le _, HRun, hid ⟨Nat.le_refl _, Nat.le_refl _⟩, hid ESG.out.symm⟩
        case round =>
          clear HRun ESG
          obtain ⟨i, v, rv, C, L, cn, rfl, hi, hi60, HR, HCC, HV⟩ := hrel
          have HGr := hid (HG4.out.trans HR.out.hh.gr)
          by_cases hlt : i < n
          · by_cases h60 : i < 60
            · have f1 : (i : Int) < (n : Int) := by omega
              have f2 : (i : Int) < 60 := by omega
              obtain ⟨ad, x, rfl, hx, hcl, hb, hxok⟩ := act12_at HAc.out HGr.out (i := i) (by rw [← EN.out]; exact hlt)
              have HX0 := hid hxok
              have q0 := hcl 0 _ rfl
              have q1 := hcl 1 _ rfl
              have q2 := hcl 2 _ rfl
              have q3 := hcl 3 _ rfl
              have q4 := hcl 4 _ rfl
              have q5 := hcl 5 _ rfl
              have q6 := hcl 6 _ rfl
              have q7 := hcl 7 _ rfl
              have q8 := hcl 8 _ rfl
              have q9 := hcl 9 _ rfl
              have q10 := hcl 10 _ rfl
              have q11 := hcl 11 _ rfl
              rw [add_zero] at q0
              rw [add_pos (by decide), block_add] at q1 q2 q3 q4 q5 q6 q7 q8 q9 q10 q11
              clear hx hcl hxok
              obtain ⟨kd, ⟨o, oA, oc⟩, xi, xk, xu, xv, rA, rc, rl⟩ := x
              simp only at q0 q1 q2 q3 q4 q5 q6 q7 q8 q9 q10 q11 HX0
              have HBo := hid (fun W => bigObj_c o oA oc W)
              have HBr := hid (fun W (hW : Grew w W) => bigRoots_c rA rc rl W (HX0.out.r.grew hW))
              obtain ⟨cls, ecls⟩ : ∃ cls, cls = o.cls := ⟨_, rfl⟩
              obtain ⟨lev, elev⟩ : ∃ lev, lev = o.lev := ⟨_, rfl⟩
              obtain ⟨m, em⟩ : ∃ m, m = o.f.length := ⟨_, rfl⟩
              obtain ⟨b, eb⟩ : ∃ b, b = o.b := ⟨_, rfl⟩
              obtain ⟨rn, ern⟩ : ∃ rn, rn = rl.length := ⟨_, rfl⟩
              rw [← ecls] at q1
              rw [← elev] at q2
              rw [← em] at q3
              rw [← eb] at q4
              rw [← ern] at q11
              rw [← ecls, ← elev, ← em, ← eb] at HBo
              rw [← ern] at HBr
              have EO := hid (show o.cls = cls ∧ o.lev = lev ∧ o.f.length = m ∧ o.b = b ∧ rl.length = rn from ⟨ecls.symm, elev.symm, em.symm, eb.symm, ern.symm⟩)
              obtain ⟨vk, vn, vl⟩ := xv
              simp only at q8 q9 q10
              clear ecls elev em eb ern
              obtain ⟨xc, exc⟩ : ∃ xc : Array Value, xc = #[.int .u8 ((kd : Nat) : Int), .int .i64 cls, .int .i64 lev, .slice oA m oc, .string b, .int .i64 xi, .int .i64 xk, .int .i64 xu, .int .u8 ((vk : Nat) : Int), .int .i64 vn, .int .i64 vl, .slice rA rn rc] := ⟨_, rfl⟩
              have B1 := Blk.new wr 62 #[.int .u8 ((kd : Nat) : Int), .int .i64 cls, .int .i64 lev, .slice oA m oc, .string b, .int .i64 xi, .int .i64 xk, .int .i64 xu, .int .u8 ((vk : Nat) : Int), .int .i64 vn, .int .i64 vl, .slice rA rn rc]
              have G1 := (Grew.refl wr).alloc (.cells #[.int .u8 ((kd : Nat) : Int), .int .i64 cls, .int .i64 lev, .slice oA m oc, .string b, .int .i64 xi, .int .i64 xk, .int .i64 xu, .int .u8 ((vk : Nat) : Int), .int .i64 vn, .int .i64 vl, .slice rA rn rc] 62)
              have XC := hid exc
              clear exc
              go_upto_region 19 with fail
              generalize wr.alloc (.cells #[.int .u8 ((kd : Nat) : Int), .int .i64 cls, .int .i64 lev, .slice oA m oc, .string b, .int .i64 xi, .int .i64 xk, .int .i64 xu, .int .u8 ((vk : Nat) : Int), .int .i64 vn, .int .i64 vl, .slice rA rn rc] 62) = wx at *
              obtain ⟨gx, egx⟩ : ∃ gx, gx = wr.heap.size := ⟨_, rfl⟩
              rw [← egx] at B1 ⊢
              have HBx := hid (show Blk wx gx 62 xc by rw [XC.out]; exact B1)
              have HGx := hid G1
              have HNg := hid (show gx ≠ gr by have := HR.out.b.lt; omega)
              have p1 := B1.cell 1
              have p2 := B1.cell 2
              have p3 := B1.cell 3
              have p4 := B1.cell 4
              have pl := B1.lt
              simp only [List.getElem?_toArray, List.getElem?_cons_zero, List.getElem?_cons_succ] at p1 p2 p3 p4
              clear q0 q1 q2 q3 q4 q5 q6 q7 q8 q9 q10 q11 hb B1 G1 egx
              have HCell : Hid (∀ W, Blk W gx 62 xc → ∀ j u, (#[.int .u8 ((kd : Nat) : Int), .int .i64 cls, .int .i64 lev, .slice oA m oc, .string b, .int .i64 xi, .int .i64 xk, .int .i64 xu, .int .u8 ((vk : Nat) : Int), .int .i64 vn, .int .i64 vl, .slice rA rn rc] : Array Value)[j]? = some u → W.cell? ⟨gx, j, none⟩ = some u) := hid (fun W hW j u hu => by rw [XC.out] at hW; exact (hW.cell j).trans hu)
              obtain ⟨bo, ebo⟩ : ∃ bo, bo = bigO o := ⟨_, rfl⟩
              obtain ⟨br, ebr⟩ : ∃ br, br = bigR rl := ⟨_, rfl⟩
              rw [← ebo] at HBo
              rw [← ebr] at HBr
              have EBO := hid ebo
              have EBR := hid ebr
              clear ebo ebr
              cases bo
              · cases br
                · go_upto_region 20 with first | (go_at_call 17; refine (HBo.out _).mono ?_; rintro e w5 ⟨rfl, hg5⟩; have HB5 := hid (HBx.out.grew hg5); clear p1 p2 p3 p4 pl; have p11 := HCell.out w5 HB5.out 11 _ rfl; have pl := HB5.out.lt) | (go_at_call 18; refine (HBr.out _ (HGr.out.trans (HGx.out.trans hg5))).mono ?_; rintro e w6 ⟨rfl, hg6⟩; have HB6 := hid (HB5.out.grew hg6); clear p11 pl; have p0 := HCell.out w6 HB6.out 0 _ rfl; have pl := HB6.out.lt)
                  have HR6 := hid (HR.out.more ((HGx.out.trans hg5).trans hg6))
                  have HGf := hid (HG4.out.trans HR6.out.hh.gr)
                  have HFit := hid (bigO_fit EBO.out.symm)
                  have HRt := hid (bigR_fit EBR.out.symm)
                  have HLk := hid (HR6.out.lok (by have := HCC.out.1; omega))
                  clear hg5 hg6 HBo HBr HBx HB5 HGx HGr HR
                  go_upto_block 2 with fail
                  clear p0 pl
                  go_cut [18] from 239 to 239 (fun s18 wx => ∃ (v' : Go.Proofs.YtidnaednldcdfaaGreatDoor.HV) (rv' : RV) (C' : Nat) (L' : List Hp.It) (cn' : Nat → Int), Hid (RunAt w4 wx B C' v' rv' gr up room (qf room quota) L' cn' L' cn') ∧ Hid (Blk wx gx 62 xc) ∧ Hid (C' ≤ i + 1 ∧ L'.length ≤ i + 1) ∧ Hid (v'.g = sg))
                  case first =>
                    by_cases k0 : kd = 0
                    · have u0 : (((kd : Nat) : Int) == 0) = true := by rw [beq_iff_eq]; omega
                      clear k0
                      have HOv := hid (HX0.out.o.f.1)
                      obtain ⟨cs, ecs⟩ : ∃ cs, cs = o.f.flatMap valF := ⟨_, rfl⟩
                      have ECS := hid ecs
                      have HGr := HGf
                      have HLow := hid (show ∀ k, HOwns v k → w.heap.size ≤ k from fun k hk => Nat.le_trans (Nat.le_trans HG4.out.below.size HR6.out.hh.low) (HR6.out.hh.mem.owns hk).1)
                      have hOl : ∀ k, HOwns v k → k < w6.heap.size := fun k hk => (HR6.out.hh.mem.owns hk).2
                      have HJ0 := hid (show GgJ w6 (fun W => MemAt W B v) gx xc (fun _ => false) w6 from ⟨HB6.out, fun _ => ⟨HR6.out.hh.mem, Grew.refl _⟩⟩)
                      obtain ⟨kc, ekc⟩ : ∃ kc : Nat, kc = Hp.addCode up.length L room (qf room quota) o := ⟨_, rfl⟩
                      obtain ⟨r, er1⟩ : ∃ r : Int, r = if kc = 0 then ((Hp.least L : Nat) : Int) else 0 := ⟨_, rfl⟩
                      obtain ⟨er, eer⟩ : ∃ er, er = errVal kc := ⟨_, rfl⟩
                      have EKC := hid ekc
                      have ER1 := hid er1
                      have EER := hid eer
                      have HNk := hid (fun W (hW : Grew w W) => HNum.out kc W hW)
                      rw [← eer] at HNk
                      have HOa := hid (show OvOk w ⟨o, oA, oc⟩ from HX0.out.o)
                      have HGive : Hid (∀ W, Grew w W → Calls Tryz.prog 19 #[.slice oA m oc] W fun e w' => ∃ A' c', e = .returned (.slice A' m c') ∧ Row w' W.heap.size 41 3 A' m c' cs ∧ Grew W w') := hid (fun W hW => by
                        have h1 := giveVals_c oA oc o.f W (HOa.out.f.grew hW) (by have := HFit.out.1; omega)
                        unfold GiveV at h1
                        rw [EO.out.2.2.1, ← ECS.out] at h1
                        exact h1)
                      have HAdd : Hid (∀ A' c' W, MemAt W B v → Grew w6 W → Row W w6.heap.size 41 3 A' m c' cs → Calls Tryz.prog 7 #[.pointer (some ⟨sg, 0, none⟩), .int .i64 cls, .int .i64 lev, .slice A' m c', .string b] W fun e w' => e = .returned (.tuple #[.int .i64 r, er]) ∧ AddV w6 B v C o (.returned (.tuple #[.int .i64 r, er])) w' ∧ Kept (HOwns v) W w') := hid (fun A' c' W hm hg hr => by
                        have h1 := hAdd_c v B C ⟨o, A', c'⟩ W hm HR6.out.hh.ok (by have h5 := HCC.out.1; omega) ⟨row_vals (by rw [ECS.out, ← EO.out.2.2.1] at hr; exact hr) rfl HOv.out, HX0.out.o.cls, HX0.out.o.lev, by simp only [EO.out.2.2.1]; exact hr.cases.2.1⟩ (fun _ ad e hk => by
                          have h2 := Row.at_base hr ad.block ⟨ad, e, rfl⟩
                          have h3 := hOl _ hk
                          omega)
                        simp only at h1
                        rw [EO.out.1, EO.out.2.1, EO.out.2.2.1, EO.out.2.2.2.1, HV.out] at h1
                        refine h1.mono ?_
                        intro e w' hp
                        obtain ⟨v', he, _⟩ := (HR6.out.hh.more hg).add hp
                        have he2 : e = .returned (.tuple #[.int .i64 r, er]) := by rw [he, EER.out, ER1.out, EKC.out]
                        subst he2
                        exact ⟨rfl, hp.from ⟨HR6.out.hh.mem, hg⟩, hp.kept⟩)
                      have hPA : ∀ W W', AddV w6 B v C o (.returned (.tuple #[.int .i64 r, er])) W → Grew W W' → AddV w6 B v C o (.returned (.tuple #[.int .i64 r, er])) W' := fun _ _ h hg => h.grew hg
                      have hMM : ∀ W W', MemAt W B v → Grew W W' → MemAt W' B v := fun _ _ h hg => h.grew hg
                      have HNo := hid (HR6.out.hh.mem.alien HB6.out (by decide) (by decide) (by decide) (by decide))
                      clear ecs er1 ekc eer
                      go_upto_region 27 with fail
                      refine wp_region_facts4 (w0 := w6) w6 20 20 [175, 176, 177, 178, 179, 180, 181, 182, 183, 184, 185, 186, 187, 188, 189, 174, 190, 191, 18, 19] [] (GgF w6 (fun W => AddV w6 B v C o (.returned (.tuple #[.int .i64 r, er])) W) sg gx cls lev oA m oc b cs r er) (Kept (HOwns v)) (GRo 14 (HOwns v)) (GgJ w6 (fun W => MemAt W B v) gx xc) (May.kept _) GRo.zero GRo.refl (by kernel_rfl) (by kernel_rfl) (Kept.refl _ _).drew (HJ0.out.grew hMM (Grew.refl _).drew) (fun a b v w w' _ _ hab _ h hr => GgF.stable hOl hPA a b v w w' hab h hr) ?_ ?_
                      · repeat' (first | exact trivial | apply And.intro)
                        all_goals
                          intro a w' fl hgk hJ hfi hdep hs hA
                          have t12 := hs.eval 12 (by decide) (v := .pointer (some ⟨sg, 0, none⟩)) rfl
                          have t17 := hs.eval 17 (by decide) (v := .pointer (some ⟨gx, 0, none⟩)) rfl
                          have HJ1 := hid hJ
                          have HFi := hid hfi
                          have HGK := hid hgk
                          clear hs hgk hJ hfi hdep
                          simp only [Ahead, Region.binds, slotOf, GgF, List.getD_cons_succ, List.getD_cons_zero, forall_const, and_true] at hA
                          simp only [wantedD, if_true]
                          unfold Oper.wp
                          have ec : ∀ v, a.eval (.const v) = v := fun _ => rfl
                          generalize hfe : a.eval = fe at *
                          have ef : ∀ k, fe (.func k) = Act.eval ⟨#[], []⟩ (.func k) := fun k => by rw [← hfe]; rfl
                          clear hfe
                        · go_simp
                          exact Gives3.of rfl (GRo.refl 0 _) rfl (HJ1.out.pure 0 (by decide))
                        · go_simp
                          exact Gives3.of rfl (GRo.refl 1 _) rfl (HJ1.out.pure 1 (by decide))
                        · go_simp
                          exact Gives3.of rfl (GRo.refl 2 _) rfl (HJ1.out.pure 2 (by decide))
                        · have x0 := HJ1.out.1.cell 1
                          rw [XC.out] at x0
                          have xl := HJ1.out.1.lt
                          simp only [List.getElem?_toArray, List.getElem?_cons_zero, List.getElem?_cons_succ] at x0
                          go_simp
                          exact Gives3.of rfl (GRo.refl 3 _) rfl (HJ1.out.pure 3 (by decide))
                        · go_simp
                          exact Gives3.of rfl (GRo.refl 4 _) rfl (HJ1.out.pure 4 (by decide))
                        · go_simp
                          exact Gives3.of rfl (GRo.refl 5 _) rfl (HJ1.out.pure 5 (by decide))
                        · have x0 := HJ1.out.1.cell 2
                          rw [XC.out] at x0
                          have xl := HJ1.out.1.lt
                          simp only [List.getElem?_toArray, List.getElem?_cons_zero, List.getElem?_cons_succ] at x0
                          go_simp
                          exact Gives3.of rfl (GRo.refl 6 _) rfl (HJ1.out.pure 6 (by decide))
                        · go_simp
                          exact Gives3.of rfl (GRo.refl 7 _) rfl (HJ1.out.pure 7 (by decide))
                        · go_simp
                          exact Gives3.of rfl (GRo.refl 8 _) rfl (HJ1.out.pure 8 (by decide))
                        · have x0 := HJ1.out.1.cell 3
                          rw [XC.out] at x0
                          have xl := HJ1.out.1.lt
                          simp only [List.getElem?_toArray, List.getElem?_cons_zero, List.getElem?_cons_succ] at x0
                          go_simp
                          exact Gives3.of rfl (GRo.refl 9 _) rfl (HJ1.out.pure 9 (by decide))
                        · go_simp
                          refine (HGive.out w' (HGK.out.grew HGr.out HLow.out)).mono ?_
                          rintro e wz ⟨A', c', rfl, hrz, hgz⟩
                          exact Gives3.of rfl (GRo.grew (j := 10) hgz) ⟨A', c', rfl, hrz.low HGK.out.size⟩ ((HJ1.out.grew hMM hgz).pure 10 (by decide))
                        · go_simp
                          exact Gives3.of rfl (GRo.refl 11 _) rfl (HJ1.out.pure 11 (by decide))
                        · go_simp
                          exact Gives3.of rfl (GRo.refl 12 _) rfl (HJ1.out.pure 12 (by decide))
                        · have x0 := HJ1.out.1.cell 4
                          rw [XC.out] at x0
                          have xl := HJ1.out.1.lt
                          simp only [List.getElem?_toArray, List.getElem?_cons_zero, List.getElem?_cons_succ] at x0
                          go_simp
                          exact Gives3.of rfl (GRo.refl 13 _) rfl (HJ1.out.pure 13 (by decide))
                        · obtain ⟨hv0, hv1, hv2, ⟨A', c', hv3, hrz⟩, hv4⟩ := hA
                          have HRz := hid hrz
                          clear hrz
                          go_simp
                          obtain ⟨hm1, hg1⟩ := HJ1.out.2 HFi.out
                          refine (HAdd.out A' c' w' hm1 hg1 HRz.out).mono ?_
                          rintro e wz ⟨rfl, hpa, hkp⟩
                          exact Gives3.of rfl (GRo.at hkp) ⟨rfl, hpa⟩ (HJ1.out.add hkp HNo.out)
                        · have hv := hA.1
                          go_simp
                          exact Gives3.of rfl (GRo.refl 15 _) rfl (HJ1.out.pure 15 (by decide))
                        · go_simp
                          exact Gives3.of rfl (GRo.refl 16 _) rfl (HJ1.out.pure 16 (by decide))
                        · go_simp
                          exact Gives3.of rfl (GRo.refl 17 _) rfl (HJ1.out.pure 17 (by decide))
                        · have hv := hA.1
                          go_simp
                          exact Gives3.of rfl (GRo.refl 18 _) rfl (HJ1.out.pure 18 (by decide))
                        · have hv := hA.1
                          go_simp
                          exact Gives3.of rfl (GRo.refl 19 _) rfl (HJ1.out.pure 19 (by decide))
                      · intro a2 wn hgk hs hf hJ _
                        have h14 := hf 14 (by decide)
                        have h18 := hf 18 (by decide)
                        have h19 := hf 19 (by decide)
                        simp only [slotOf, GgF, List.getD_cons_succ, List.getD_cons_zero] at h14 h18 h19
                        obtain ⟨-, hadd⟩ := h14
                        obtain ⟨fn2, rfl, hft⟩ := hs.put
                        rw [hft] at h18 h19
                        obtain ⟨w7, ew7⟩ : ∃ w7, w7 = wn := ⟨_, rfl⟩
                        subst ew7
                        obtain ⟨va, -, hg2, hs2, hh2⟩ := HR6.out.hh.add hadd
                        have HRa := hid (HR6.out.step hs2 hh2)
                        have HVa := hid hg2
                        have HB7 := hid (HB6.out.kept hgk HNo.out)
                        clear hf hft hs hgk hJ hadd hh2 hg2 hs2
                        simp only [List.drop_succ_cons, List.drop_zero, putAll, List.foldl_cons, List.foldl_nil, Act.put, List.setIfInBounds_toArray, List.set_cons_succ, List.set_cons_zero, h18, h19]
                        clear h18 h19 hOl hPA hMM HAdd HJ0 HLow HR6 HB6 HGive
                        have HG7 := hid (HG4.out.trans HRa.out.hh.gr)
                        have hcall := rAdd_c rv ⟨o, oA, oc⟩ up room (qf room quota) L cn C w7 HRa.out.rr HLk.out (HX0.out.o.grew HG7.out) HFit.out.1 HFit.out.2
                        unfold RAddV at hcall
                        simp only [rvC] at hcall
                        rw [EO.out.1, EO.out.2.1, EO.out.2.2.1, EO.out.2.2.2.1, ← EKC.out, ← ER1.out] at hcall
                        have HBr := hid (show Blk w7 gr 53 #[.slice rv.U rv.up.length rv.cu, .int .i64 rv.room, .slice rv.Q rv.q.length rv.cq, .slice rv.I rv.its.length rv.ci, .slice rv.C rv.cn.length rv.cc] from HRa.out.b)
                        have r0 := HBr.out.cell 0
                        have r1 := HBr.out.cell 1
                        have r2' := HBr.out.cell 2
                        have r3 := HBr.out.cell 3
                        have r4 := HBr.out.cell 4
                        have rl := HBr.out.lt
                        simp only [List.getElem?_toArray, List.getElem?_cons_zero, List.getElem?_cons_succ] at r0 r1 r2' r3 r4
                        have x1 := HCell.out w7 HB7.out 1 _ rfl
                        have x2 := HCell.out w7 HB7.out 2 _ rfl
                        have x3 := HCell.out w7 HB7.out 3 _ rfl
                        have x4 := HCell.out w7 HB7.out 4 _ rfl
                        have xl := HB7.out.lt
                        go_upto_region 29 with (go_at_call 20; refine hcall.mono ?_; rintro e w8 ⟨r2, rfl, hr2, hU2, hfp2, hg8⟩; have HU2 := hid hU2; have HF2 := hid hfp2; have HRr := hid hr2; have HG8 := hid hg8; clear hU2 hfp2 hr2 hg8 hcall r0 r1 r2' r3 r4 rl x1 x2 x3 x4 xl)
                        have B9 := Blk.new w8 53 #[.slice r2.U r2.up.length r2.cu, .int .i64 r2.room, .slice r2.Q r2.q.length r2.cq, .slice r2.I r2.its.length r2.ci, .slice r2.C r2.cn.length r2.cc]
                        have G9 := (Grew.refl w8).alloc (.cells #[.slice r2.U r2.up.length r2.cu, .int .i64 r2.room, .slice r2.Q r2.q.length r2.cq, .slice r2.I r2.its.length r2.ci, .slice r2.C r2.cn.length r2.cc] 53)
                        generalize w8.alloc (.cells #[.slice r2.U r2.up.length r2.cu, .int .i64 r2.room, .slice r2.Q r2.q.length r2.cq, .slice r2.I r2.its.length r2.ci, .slice r2.C r2.cn.length r2.cc] 53) = w9 at *
                        obtain ⟨gt, egt⟩ : ∃ gt, gt = w8.heap.size := ⟨_, rfl⟩
                        rw [← egt] at B9 ⊢
                        have HG79 := hid (HG8.out.trans G9)
                        have HBg := hid (show Blk w9 gr 53 #[.slice rv.U rv.up.length rv.cu, .int .i64 rv.room, .slice rv.Q rv.q.length rv.cq, .slice rv.I rv.its.length rv.ci, .slice rv.C rv.cn.length rv.cc] from HRa.out.b.grew HG79.out)
                        have n1 : gt ≠ gr := by have h1 := HRa.out.b.lt; have h2 := HG8.out.below.size; omega
                        have n2 : gr ≠ gt := fun e => n1 e.symm
                        have HR2 := hid (HRr.out.grew G9)
                        have HBt := hid B9
                        have HB9x := hid (HB7.out.grew HG79.out)
                        clear HRr HG8 G9 egt B9 HB7
                        have t0 := HBt.out.cell 0
                        have t1 := HBt.out.cell 1
                        have t2 := HBt.out.cell 2
                        have t3 := HBt.out.cell 3
                        have t4 := HBt.out.cell 4
                        have tl := HBt.out.lt
                        simp only [List.getElem?_toArray, List.getElem?_cons_zero, List.getElem?_cons_succ] at t0 t1 t2 t3 t4
                        have y0 := HBg.out.cell 0
                        have y1 := HBg.out.cell 1
                        have y2 := HBg.out.cell 2
                        have y3 := HBg.out.cell 3
                        have y4 := HBg.out.cell 4
                        have yl := HBg.out.lt
                        simp only [List.getElem?_toArray, List.getElem?_cons_zero, List.getElem?_cons_succ] at y0 y1 y2 y3 y4
                        have gf := HBg.out.frozen
                        go_upto_region 30 with fail
                        have HBw := hid (HBg.out.put5 (.slice r2.U r2.up.length r2.cu) (.int .i64 r2.room) (.slice r2.Q r2.q.length r2.cq) (.slice r2.I r2.its.length r2.ci) (.slice r2.C r2.cn.length r2.cc))
                        have HKw := hid (kept5 (Kept.refl (fun k => k = gr) w9) (fun _ => rfl) (.slice r2.U r2.up.length r2.cu) (.int .i64 r2.room) (.slice r2.Q r2.q.length r2.cq) (.slice r2.I r2.its.length r2.ci) (.slice r2.C r2.cn.length r2.cc))
                        have HRb := hid (HRa.out.ref HG79.out HR2.out HU2.out (fun k hk => by rcases HF2.out k hk with h1 | h1 | ⟨hl, ad, e, h1⟩; exact .inl h1; exact .inr (.inl h1); exact .inr (.inr (by rw [← h1]; exact Nat.lt_of_lt_of_le (HX0.out.o.blk (by simp only; rw [EO.out.2.2.1]; exact hl) ad e) HG4.out.below.size))) HKw.out HBw.out)
                        have HB9 := hid (HB9x.out.kept HKw.out HNg.out)
                        clear t0 t1 t2 t3 t4 tl y0 y1 y2 y3 y4 yl gf n1 n2 HBg HBt HB9x HR2 HU2 HF2 HRa HG79 HKw
                        generalize (((((w9.setCell ⟨gr, 0, none⟩ (.slice r2.U r2.up.length r2.cu)).setCell ⟨gr, 1, none⟩ (.int .i64 r2.room)).setCell ⟨gr, 2, none⟩ (.slice r2.Q r2.q.length r2.cq)).setCell ⟨gr, 3, none⟩ (.slice r2.I r2.its.length r2.ci)).setCell ⟨gr, 4, none⟩ (.slice r2.C r2.cn.length r2.cc)) = wb2 at *
                        have HLn := hid (show (addL up.length L room (qf room quota) cn o).length ≤ L.length + 1 from addL_len HLk.out)
                        clear HLk HBw
                        go_wp2_with (go_at_call 8; refine (HNk.out _ (HG4.out.trans HRb.out.hh.gr)).mono ?_; rintro e wc ⟨rfl, hgc⟩)
                        go_meet
                        exact ⟨va, r2, C + 1, _, _, hid (HRb.out.more hgc), hid (HB9.out.grew hgc), hid ⟨by have := HCC.out.1; omega, by have h1 := HLn.out; have h2 := HCC.out.2; omega⟩, hid (by rw [HVa.out, HV.out])⟩
                    · have u0 : (((kd : Nat) : Int) == 0) = false := by rw [beq_eq_false_iff_ne]; omega
                      by_cases k1 : kd = 1
                      · have u1 : (((kd : Nat) : Int) == 1) = true := by rw [beq_iff_eq]; omega
                        clear k0 k1
                        obtain ⟨kc, ekc⟩ : ∃ kc : Nat, kc = Hp.putCode up L xi xk xu ⟨vk, vn, vl⟩ := ⟨_, rfl⟩
                        obtain ⟨er, eer⟩ : ∃ er, er = errVal kc := ⟨_, rfl⟩
                        obtain ⟨L2, eL2⟩ : ∃ L2, L2 = Hp.put up L xi xk xu ⟨vk, vn, vl⟩ := ⟨_, rfl⟩
                        have HNk := hid (fun W (hW : Grew w W) => HNum.out kc W hW)
                        rw [← eer] at HNk
                        have HLn := hid (show L2.length ≤ L.length by rw [eL2, Hp.put_len]; exact Nat.le_refl _)
                        have HPut : Hid (Calls Tryz.prog 9 #[.pointer (some ⟨sg, 0, none⟩), .int .i64 xi, .int .i64 xk, .int .i64 xu, .agg #[.int .u8 ((vk : Nat) : Int), .int .i64 vn, .int .i64 vl]] w6 fun e w' => ∃ va, e = .returned er ∧ va.g = v.g ∧ Step w6 B v va w' ∧ HAt w4 w' B C va up room (qf room quota) L2 cn) := hid (by
                          have h1 := hPut_c v B C xi xk xu ⟨vk, vn, vl⟩ w6 HR6.out.hh.mem HR6.out.hh.ok
                          rw [HV.out] at h1
                          refine h1.mono ?_
                          intro e w' hp
                          obtain ⟨va, he, h2, h3, h4⟩ := HR6.out.hh.put hp
                          exact ⟨va, by rw [he, eer, ekc], h2, h3, by rw [eL2]; exact h4⟩)
                        have HRp : Hid (∀ W, RHAt W rv up room (qf room quota) L cn → Calls Tryz.prog 21 #[.agg (rvC rv), .int .i64 xi, .int .i64 xk, .int .i64 xu, .agg #[.int .u8 ((vk : Nat) : Int), .int .i64 vn, .int .i64 vl]] W fun e w' => ∃ r' : RV, e = .returned (.tuple #[.agg (rvC r'), .int .i64 ((kc : Nat) : Int)]) ∧ RHAt w' r' up room (qf room quota) L2 cn ∧ r'.U = rv.U ∧ (∀ k, RFp r' k → RFp rv k ∨ W.heap.size ≤ k) ∧ Grew W w') := hid (fun W hW => by
                          have h1 := rPut_c rv xi xk xu ⟨vk, vn, vl⟩ up room (qf room quota) L cn C W hW HLk.out (by have := HCC.out.2; omega) HX0.out.v
                          unfold RPutV at h1
                          rw [← ekc, ← eL2] at h1
                          exact h1)
                        clear ekc eer eL2
                        go_upto_region 33 with fail
                        have x5 := HCell.out w6 HB6.out 5 _ rfl
                        have x6 := HCell.out w6 HB6.out 6 _ rfl
                        have x7 := HCell.out w6 HB6.out 7 _ rfl
                        have x8 := HCell.out w6 HB6.out 8 _ rfl
                        have x9 := HCell.out w6 HB6.out 9 _ rfl
                        have x10 := HCell.out w6 HB6.out 10 _ rfl
                        have xl := HB6.out.lt
                        go_upto_region 34 with (go_at_call 9; refine HPut.out.mono ?_; rintro e w7 ⟨va, rfl, hg2, hs2, hh2⟩; have HVa := hid hg2; have HS2 := hid hs2; have HH2 := hid hh2; clear hg2 hs2 hh2 x5 x6 x7 x8 x9 x10 xl)
                        have HRa := hid (HR6.out.step HS2.out HH2.out)
                        have HB7 := hid (HB6.out.kept HS2.out.kept (HR6.out.hh.mem.alien HB6.out (by decide) (by decide) (by decide) (by decide)))
                        have hcall := HRp.out w7 HRa.out.rr
                        simp only [rvC] at hcall
                        have HBr := hid (show Blk w7 gr 53 #[.slice rv.U rv.up.length rv.cu, .int .i64 rv.room, .slice rv.Q rv.q.length rv.cq, .slice rv.I rv.its.length rv.ci, .slice rv.C rv.cn.length rv.cc] from HRa.out.b)
                        have r0 := HBr.out.cell 0
                        have r1 := HBr.out.cell 1
                        have r2' := HBr.out.cell 2
                        have r3 := HBr.out.cell 3
                        have r4 := HBr.out.cell 4
                        have rl := HBr.out.lt
                        simp only [List.getElem?_toArray, List.getElem?_cons_zero, List.getElem?_cons_succ] at r0 r1 r2' r3 r4
                        have x5 := HCell.out w7 HB7.out 5 _ rfl
                        have x6 := HCell.out w7 HB7.out 6 _ rfl
                        have x7 := HCell.out w7 HB7.out 7 _ rfl
                        have x8 := HCell.out w7 HB7.out 8 _ rfl
                        have x9 := HCell.out w7 HB7.out 9 _ rfl
                        have x10 := HCell.out w7 HB7.out 10 _ rfl
                        have xl := HB7.out.lt
                        clear HR6 HB6 HS2 HH2 HPut HRp HGf
                        go_upto_region 35 with (go_at_call 21; refine hcall.mono ?_; rintro e w8 ⟨r2, rfl, hr2, hU2, hfp2, hg8⟩; have HU2 := hid hU2; have HF2 := hid hfp2; have HRr := hid hr2; have HG8 := hid hg8; clear hU2 hfp2 hr2 hg8 hcall r0 r1 r2' r3 r4 rl x5 x6 x7 x8 x9 x10 xl)
                        have B9 := Blk.new w8 53 #[.slice r2.U r2.up.length r2.cu, .int .i64 r2.room, .slice r2.Q r2.q.length r2.cq, .slice r2.I r2.its.length r2.ci, .slice r2.C r2.cn.length r2.cc]
                        have G9 := (Grew.refl w8).alloc (.cells #[.slice r2.U r2.up.length r2.cu, .int .i64 r2.room, .slice r2.Q r2.q.length r2.cq, .slice r2.I r2.its.length r2.ci, .slice r2.C r2.cn.length r2.cc] 53)
                        generalize w8.alloc (.cells #[.slice r2.U r2.up.length r2.cu, .int .i64 r2.room, .slice r2.Q r2.q.length r2.cq, .slice r2.I r2.its.length r2.ci, .slice r2.C r2.cn.length r2.cc] 53) = w9 at *
                        obtain ⟨gt, egt⟩ : ∃ gt, gt = w8.heap.size := ⟨_, rfl⟩
                        rw [← egt] at B9 ⊢
                        have HG79 := hid (HG8.out.trans G9)
                        have HBg := hid (show Blk w9 gr 53 #[.slice rv.U rv.up.length rv.cu, .int .i64 rv.room, .slice rv.Q rv.q.length rv.cq, .slice rv.I rv.its.length rv.ci, .slice rv.C rv.cn.length rv.cc] from HRa.out.b.grew HG79.out)
                        have n1 : gt ≠ gr := by have h1 := HRa.out.b.lt; have h2 := HG8.out.below.size; omega
                        have n2 : gr ≠ gt := fun e => n1 e.symm
                        have HR2 := hid (HRr.out.grew G9)
                        have HBt := hid B9
                        have HB9x := hid (HB7.out.grew HG79.out)
                        clear HRr HG8 G9 egt B9 HB7
                        have t0 := HBt.out.cell 0
                        have t1 := HBt.out.cell 1
                        have t2 := HBt.out.cell 2
                        have t3 := HBt.out.cell 3
                        have t4 := HBt.out.cell 4
                        have tl := HBt.out.lt
                        simp only [List.getElem?_toArray, List.getElem?_cons_zero, List.getElem?_cons_succ] at t0 t1 t2 t3 t4
                        have y0 := HBg.out.cell 0
                        have y1 := HBg.out.cell 1
                        have y2 := HBg.out.cell 2
                        have y3 := HBg.out.cell 3
                        have y4 := HBg.out.cell 4
                        have yl := HBg.out.lt
                        simp only [List.getElem?_toArray, List.getElem?_cons_zero, List.getElem?_cons_succ] at y0 y1 y2 y3 y4
                        have gf := HBg.out.frozen
                        go_upto_region 36 with fail
                        have HBw := hid (HBg.out.put5 (.slice r2.U r2.up.length r2.cu) (.int .i64 r2.room) (.slice r2.Q r2.q.length r2.cq) (.slice r2.I r2.its.length r2.ci) (.slice r2.C r2.cn.length r2.cc))
                        have HKw := hid (kept5 (Kept.refl (fun k => k = gr) w9) (fun _ => rfl) (.slice r2.U r2.up.length r2.cu) (.int .i64 r2.room) (.slice r2.Q r2.q.length r2.cq) (.slice r2.I r2.its.length r2.ci) (.slice r2.C r2.cn.length r2.cc))
                        have HRb := hid (HRa.out.ref HG79.out HR2.out HU2.out (fun k hk => (HF2.out k hk).imp id .inl) HKw.out HBw.out)
                        have HB9 := hid (HB9x.out.kept HKw.out HNg.out)
                        clear t0 t1 t2 t3 t4 tl y0 y1 y2 y3 y4 yl gf n1 n2 HBg HBt HB9x HR2 HU2 HF2 HRa HG79 HKw
                        generalize (((((w9.setCell ⟨gr, 0, none⟩ (.slice r2.U r2.up.length r2.cu)).setCell ⟨gr, 1, none⟩ (.int .i64 r2.room)).setCell ⟨gr, 2, none⟩ (.slice r2.Q r2.q.length r2.cq)).setCell ⟨gr, 3, none⟩ (.slice r2.I r2.its.length r2.ci)).setCell ⟨gr, 4, none⟩ (.slice r2.C r2.cn.length r2.cc)) = wb2 at *
                        clear HLk HBw
                        go_wp2_with (go_at_call 8; refine (HNk.out _ (HG4.out.trans HRb.out.hh.gr)).mono ?_; rintro e wc ⟨rfl, hgc⟩)
                        go_meet
                        exact ⟨va, r2, C, _, _, hid (HRb.out.more hgc), hid (HB9.out.grew hgc), hid ⟨by have := HCC.out.1; omega, by have h1 := HLn.out; have h2 := HCC.out.2; omega⟩, hid (by rw [HVa.out, HV.out])⟩
                      · have u1 : (((kd : Nat) : Int) == 1) = false := by rw [beq_eq_false_iff_ne]; omega
                        clear k0 k1
                        have HRv := hid (fun x hx u hu => (HX0.out.r.ok x hx).1 u hu)
                        obtain ⟨d, ed⟩ : ∃ d : Int, d = (L.length : Int) - ((Hp.kept L (flat rl)).length : Int) := ⟨_, rfl⟩
                        have HGi := hid (fun W (hW : Grew w W) => giveRoots_c rA rc rl W (HX0.out.r.grew hW) (by have := HRt.out.1; omega) (fun x hx => by have := HRt.out.2 x hx; omega))
                        unfold GiveR at HGi
                        rw [EO.out.2.2.2.2] at HGi
                        have HCo : Hid (∀ (A' : Option Addr) (c' : Nat) (l' : List LV) (W : World), Grew w6 W → Row W w6.heap.size 28 1 A' l'.length c' (l'.flatMap lvF) → l'.map (·.l) = rl.map (·.l) → (∀ x ∈ l', Row W w6.heap.size 41 3 x.A x.l.length x.c (x.l.flatMap valF)) → Calls Tryz.prog 12 #[.pointer (some ⟨sg, 0, none⟩), .slice A' l'.length c'] W fun e w' => ∃ va, e = .returned (.int .i64 d) ∧ va.g = v.g ∧ Step W B v va w' ∧ HAt w4 w' B C va up room (qf room quota) (Hp.kept L (flat rl)) cn) := hid (fun A' c' l' W hW hr hm hf => by
                          have hW6 := HR6.out.more hW
                          have h1 := hCollect_c v B C A' c' l' W hW6.hh.mem hW6.hh.ok (lists_row hr hf (fun x hx u hu => by obtain ⟨y, hy, e⟩ := map_l_mem hm hx; exact HRv.out y hy u (by rw [e]; exact hu))) (by have h1 := congrArg List.length hm; simp only [List.length_map] at h1; have := HRt.out.1; omega) (fun x hx => by obtain ⟨y, hy, e⟩ := map_l_mem hm hx; have := HRt.out.2 y hy; rw [← e]; omega)
                          rw [map_l_flat hm, HV.out] at h1
                          refine h1.mono ?_
                          intro e w' hp
                          obtain ⟨va, he, h2, h3, h4⟩ := hW6.hh.collect hp
                          exact ⟨va, by rw [he, ed], h2, h3, h4⟩)
                        have HFl := hid (show (flat rl).length ≤ 300000 by have h1 := flat_lens (b := 40) (fun x hx => HRt.out.2 x hx); have := HRt.out.1; omega)
                        have HLn := hid (show (Hp.kept L (flat rl)).length ≤ L.length by unfold Hp.kept; exact List.length_filter_le _ _)
                        have HAll0 : Hid (∀ W, Grew w6 W → Calls Tryz.prog 24 #[.slice rA rn rc] W fun e w' => ∃ A' c', e = .returned (.slice A' (flat rl).length c') ∧ ValsAt w' A' (flat rl) ∧ Grew W w') := hid (fun W hW => by
                          have h1 := all_c rA rc rl W (HX0.out.r.grew (HGf.out.trans hW)) (by have := HRt.out.1; omega) (fun x hx => by have := HRt.out.2 x hx; omega)
                          rw [EO.out.2.2.2.2] at h1
                          exact h1)
                        have ED := hid ed
                        clear ed
                        go_upto_region 21 with fail
                        have x11 := HCell.out w6 HB6.out 11 _ rfl
                        have xl := HB6.out.lt
                        go_upto_region 22 with first | (go_at_call 22; refine (HGi.out w6 HGf.out).mono ?_; rintro e wg ⟨A', c', l', rfl, hr1, hm1, hf1, hgz⟩; have HCa := hid (HCo.out A' c' l' wg hgz hr1 hm1 hf1); have HGz := hid hgz; clear hr1 hm1 hf1 hgz x11 xl) | (go_at_call 12; refine HCa.out.mono ?_; rintro e w7 ⟨va, rfl, hg2, hs2, hh2⟩; have HVa := hid hg2; have HS2 := hid hs2; have HH2 := hid hh2; clear hg2 hs2 hh2)
                        have HRa := hid ((HR6.out.more HGz.out).step HS2.out HH2.out)
                        have HB7 := hid ((HB6.out.grew HGz.out).kept HS2.out.kept ((HR6.out.more HGz.out).hh.mem.alien (HB6.out.grew HGz.out) (by decide) (by decide) (by decide) (by decide)))
                        have HGw7 := hid (HG4.out.trans HRa.out.hh.gr)
                        have HAll : Hid (∀ W, Grew w7 W → Calls Tryz.prog 24 #[.slice rA rn rc] W fun e w' => ∃ A' c', e = .returned (.slice A' (flat rl).length c') ∧ ValsAt w' A' (flat rl) ∧ Grew W w') := hid (fun W hW => by
                          have h1 := all_c rA rc rl W (HX0.out.r.grew (HGw7.out.trans hW)) (by have := HRt.out.1; omega) (fun x hx => by have := HRt.out.2 x hx; omega)
                          rw [EO.out.2.2.2.2] at h1
                          exact h1)
                        have HCl : Hid (∀ (A' : Option Addr) (c' : Nat) (W : World), Grew w7 W → ValsAt W A' (flat rl) → Calls Tryz.prog 23 #[.agg #[.slice rv.U rv.up.length rv.cu, .int .i64 rv.room, .slice rv.Q rv.q.length rv.cq, .slice rv.I rv.its.length rv.ci, .slice rv.C rv.cn.length rv.cc], .slice A' (flat rl).length c'] W fun e w' => ∃ r' : RV, e = .returned (.tuple #[.agg (rvC r'), .int .i64 d]) ∧ (RHAt w' r' up room (qf room quota) (Hp.kept L (flat rl)) cn ∧ r'.U = rv.U ∧ ∀ k, RFp r' k → RFp rv k ∨ w7.heap.size ≤ k) ∧ (∀ k, RFp r' k → RFp rv k ∨ W.heap.size ≤ k) ∧ Grew W w') := hid (fun A' c' W hW hv => by
                          have h1 := rCollect_c rv A' c' (flat rl) up room (qf room quota) L cn C W (HRa.out.rr.grew hW) HLk.out (by have := HCC.out.2; omega) hv HFl.out
                          refine h1.mono ?_
                          rintro e w' ⟨r', he, h2, h3, h4, h5⟩
                          exact ⟨r', by rw [he, ED.out], ⟨h2, h3, fun k hk => (h4 k hk).imp id (fun h => Nat.le_trans hW.below.size h)⟩, h4, h5⟩)
                        have hPR : ∀ (r : RV) (w w' : World), (RHAt w r up room (qf room quota) (Hp.kept L (flat rl)) cn ∧ r.U = rv.U ∧ ∀ k, RFp r k → RFp rv k ∨ w7.heap.size ≤ k) → Grew w w' → (RHAt w' r up room (qf room quota) (Hp.kept L (flat rl)) cn ∧ r.U = rv.U ∧ ∀ k, RFp r k → RFp rv k ∨ w7.heap.size ≤ k) := fun r w w' h hg => ⟨h.1.grew hg, h.2⟩
                        clear HR6 HB6 HS2 HH2 HCa HCo HGi HRv HAll0 HGz HGf
                        refine wp_region_facts7 (w0 := w7) w7 11 11 [161, 162, 163, 164, 165, 160, 166, 167, 27, 168, 28] [] (RgF gx (.agg #[.slice rv.U rv.up.length rv.cu, .int .i64 rv.room, .slice rv.Q rv.q.length rv.cq, .slice rv.I rv.its.length rv.ci, .slice rv.C rv.cn.length rv.cc]) rA rn rc d) (Kept (fun k => w7.heap.size ≤ k)) (fun _ => Kept (fun k => w7.heap.size ≤ k)) (RgJ w7 (fun r W => RHAt W r up room (qf room quota) (Hp.kept L (flat rl)) cn ∧ r.U = rv.U ∧ ∀ k, RFp r k → RFp rv k ∨ w7.heap.size ≤ k) (flat rl) d) (fun f s s' w hs h => h.same hs) (May.kept _) (fun _ _ _ h => h) (fun i o hi ho hd => by obtain rfl := noneAt_eq (m := 9) (by kernel_rfl) hi ho hd; exact ⟨rfl, fun _ _ _ _ => trivial⟩) (by kernel_rfl) (by kernel_rfl) (Kept.refl _ _).drew (RgJ.start _ (Kept.refl _ _).drew) (fun a _ v w w' _ _ _ _ h hr => h) ?_ ?_
                        · repeat' (first | exact trivial | apply And.intro)
                          all_goals
                            intro a w' fl hgk hJ hfi hdep hs hA
                            have t14 := hs.eval 14 (by decide) (v := .pointer (some ⟨gr, 0, none⟩)) rfl
                            have t17 := hs.eval 17 (by decide) (v := .pointer (some ⟨gx, 0, none⟩)) rfl
                            have HJ1 := hid hJ
                            have HFi := hid hfi
                            have HDp := hid hdep
                            have HGw := hid (Kept.grew hgk (Grew.refl _) (fun _ h => h))
                            clear hs hgk hJ hfi hdep
                            simp only [Ahead, Region.binds, slotOf, RgF, List.getD_cons_succ, List.getD_cons_zero, forall_const, gcOff, Bool.false_eq_true, false_implies, and_true] at hA
                            unfold Oper.wp
                            have ec : ∀ v, a.eval (.const v) = v := fun _ => rfl
                            generalize hfe : a.eval = fe at *
                            have ef : ∀ k, fe (.func k) = Act.eval ⟨#[], []⟩ (.func k) := fun k => by rw [← hfe]; rfl
                            have S3 := hid (show slotOf [161, 162, 163, 164, 165, 160, 166, 167, 27, 168, 28] 3 a = fe (.tmp 164) by rw [← hfe]; rfl)
                            have S4 := hid (show slotOf [161, 162, 163, 164, 165, 160, 166, 167, 27, 168, 28] 4 a = fe (.tmp 165) by rw [← hfe]; rfl)
                            have S5 := hid (show slotOf [161, 162, 163, 164, 165, 160, 166, 167, 27, 168, 28] 5 a = fe (.tmp 160) by rw [← hfe]; rfl)
                            have S6 := hid (show slotOf [161, 162, 163, 164, 165, 160, 166, 167, 27, 168, 28] 6 a = fe (.tmp 166) by rw [← hfe]; rfl)
                            have S8 := hid (show slotOf [161, 162, 163, 164, 165, 160, 166, 167, 27, 168, 28] 8 a = fe (.tmp 27) by rw [← hfe]; rfl)
                            clear hfe
                          · have HBr := hid (show Blk w' gr 53 #[.slice rv.U rv.up.length rv.cu, .int .i64 rv.room, .slice rv.Q rv.q.length rv.cq, .slice rv.I rv.its.length rv.ci, .slice rv.C rv.cn.length rv.cc] from HRa.out.b.grew HGw.out)
                            have r0 := HBr.out.cell 0
                            have r1 := HBr.out.cell 1
                            have r2' := HBr.out.cell 2
                            have r3 := HBr.out.cell 3
                            have r4 := HBr.out.cell 4
                            have rl := HBr.out.lt
                            simp only [List.getElem?_toArray, List.getElem?_cons_zero, List.getElem?_cons_succ] at r0 r1 r2' r3 r4
                            go_simp
                            exact Gives3.of rfl (Kept.refl _ _) ⟨rfl, HJ1.out.pure 0 _ (by decide) (by decide) (by decide) (by decide) (by decide) (by decide)⟩ trivial
                          · go_simp
                            exact Gives3.of rfl (Kept.refl _ _) ⟨rfl, HJ1.out.pure 1 _ (by decide) (by decide) (by decide) (by decide) (by decide) (by decide)⟩ trivial
                          · have x11 := HCell.out w' (HB7.out.grew HGw.out) 11 _ rfl
                            have xl := (HB7.out.grew HGw.out).lt
                            go_simp
                            exact Gives3.of rfl (Kept.refl _ _) ⟨rfl, HJ1.out.pure 2 _ (by decide) (by decide) (by decide) (by decide) (by decide) (by decide)⟩ trivial
                          · have hv := hA
                            go_simp
                            refine (HAll.out w' HGw.out).mono ?_
                            rintro e wz ⟨A', c', rfl, hvz, hgz⟩
                            exact Gives3.of rfl (Kept.of_grew hgz) ⟨trivial, (HJ1.out.grew hPR hgz).set3 HFi.out hvz⟩ trivial
                          · have hv := hA
                            have h3 := HDp.out ⟨3, .data⟩ (by simp) rfl
                            have h9 := HJ1.out.no9 (HJ1.out.no6 (HJ1.out.no5 HFi.out))
                            obtain ⟨A', c', e3, hvs⟩ := HJ1.out.j3 h3 h9
                            have hv3 := S3.out.symm.trans e3
                            go_simp
                            refine (HCl.out A' c' w' HGw.out hvs).mono ?_
                            rintro e wz ⟨r', rfl, hpr, hfp, hgz⟩
                            exact Gives3.of rfl (Kept.of_grew hgz) ⟨trivial, (HJ1.out.grew hPR hgz).set4 h3 hpr (fun h8 g hg k hk e => by obtain ⟨g', e8, hg8, hb8, -⟩ := HJ1.out.j8 h8; rw [hg] at e8; cases e8; rcases hfp k hk with h1 | h1; exact absurd (HRa.out.rr.fp_lt h1) (by omega); exact absurd (hb8 h9).lt (by omega))⟩ trivial
                          · have h4 := HDp.out ⟨4, .data⟩ (by simp) rfl
                            have h9 := HJ1.out.no9 (HJ1.out.no6 HFi.out)
                            obtain ⟨r', e4, hpr, hng⟩ := HJ1.out.j4 h4 h9
                            have hv4 := S4.out.symm.trans e4
                            go_simp
                            exact Gives3.of rfl (Kept.refl _ _) ⟨⟨_, rfl⟩, HJ1.out.set5 h4 hpr hng⟩ trivial
                          · have h5 := HDp.out ⟨5, .data⟩ (by simp) rfl
                            have h9 := HJ1.out.no9 HFi.out
                            obtain ⟨r', e5, hpr, hng⟩ := HJ1.out.j5 h5 h9
                            have hv5 := S5.out.symm.trans e5
                            go_simp
                            exact Gives3.of rfl (Kept.refl _ _) ⟨trivial, HJ1.out.set6 h5 HFi.out hpr hng⟩ trivial
                          · obtain ⟨v0, hv5⟩ := hA
                            go_simp
                            exact Gives3.of rfl (Kept.refl _ _) ⟨rfl, HJ1.out.pure 7 _ (by decide) (by decide) (by decide) (by decide) (by decide) (by decide)⟩ trivial
                          · have hbn := Blk.new w' 53 #[.slice none 0 0, .int .i64 0, .slice none 0 0, .slice none 0 0, .slice none 0 0]
                            have hgn := (Grew.refl w').alloc (.cells #[.slice none 0 0, .int .i64 0, .slice none 0 0, .slice none 0 0, .slice none 0 0] 53)
                            have HBn := hid hbn
                            have HGn := hid hgn
                            clear hbn hgn
                            go_simp
                            exact Gives3.of rfl (Kept.of_grew HGn.out) ⟨trivial, HJ1.out.set8 HFi.out HGw.out.below.size (fun r hr k hk e => absurd (hr.1.fp_lt hk) (by omega)) hPR HGn.out HBn.out⟩ trivial
                          · have h6 := HDp.out ⟨6, .data⟩ (by simp) rfl
                            have h8 := HDp.out ⟨8, .data⟩ (by simp) rfl
                            obtain ⟨r', e6, hpr, hng⟩ := HJ1.out.j6 h6 HFi.out
                            obtain ⟨g, e8, hg8, hb8, -⟩ := HJ1.out.j8 h8
                            have hv6 := S6.out.symm.trans e6
                            have hv8 := S8.out.symm.trans e8
                            have HBg := hid (hb8 HFi.out)
                            have HNe := hid (hng h8 g e8)
                            have HPr := hid hpr
                            have HE8 := hid e8
                            clear hpr hng hb8 e8 e6
                            have y0 := HBg.out.cell 0
                            have y1 := HBg.out.cell 1
                            have y2 := HBg.out.cell 2
                            have y3 := HBg.out.cell 3
                            have y4 := HBg.out.cell 4
                            have yl := HBg.out.lt
                            simp only [List.getElem?_toArray, List.getElem?_cons_zero, List.getElem?_cons_succ] at y0 y1 y2 y3 y4
                            have gf := HBg.out.frozen
                            simp only [rvC] at hv6
                            go_simp
                            have hk := kept5 (Kept.refl (fun k => k = g) w') (fun _ => rfl) (.slice r'.U r'.up.length r'.cu) (.int .i64 r'.room) (.slice r'.Q r'.q.length r'.cq) (.slice r'.I r'.its.length r'.ci) (.slice r'.C r'.cn.length r'.cc)
                            have hb2 := HBg.out.put5 (.slice r'.U r'.up.length r'.cu) (.int .i64 r'.room) (.slice r'.Q r'.q.length r'.cq) (.slice r'.I r'.its.length r'.ci) (.slice r'.C r'.cn.length r'.cc)
                            exact ⟨undef, rfl, hk.mono (fun k _ e => by rw [e]; exact hg8), ⟨trivial, HJ1.out.set9 h6 h8 HE8.out hk hb2 ⟨HPr.out.1.kept hk (fun ad e hx => by have h1 := HRa.out.u ad (by rw [← HPr.out.2.1]; exact e); have h2 := HRa.out.hh.gr.below.size; have h3 : ad.block = g := hx; omega) (fun k hk2 e => HNe.out k hk2 e), HPr.out.2⟩⟩, trivial, fun h => by cases h⟩
                          · have hv := hA
                            go_simp
                            exact Gives3.of rfl (Kept.refl _ _) ⟨rfl, HJ1.out.pure 10 _ (by decide) (by decide) (by decide) (by decide) (by decide) (by decide)⟩ trivial
                        · intro a2 wn hgk hs hf hJ _
                          obtain ⟨gt, e27, hg27, -, h9⟩ := hJ.j8 rfl
                          obtain ⟨r2, hb27, hr2, hU2, hfp2⟩ := h9 rfl
                          have h10 := hf 10 (by decide)
                          simp only [slotOf, RgF, List.getD_cons_succ, List.getD_cons_zero] at e27 h10
                          obtain ⟨fn2, rfl, hft⟩ := hs.put
                          rw [hft] at e27 h10
                          have HG79 := hid (Kept.grew hgk (Grew.refl _) (fun _ h => h))
                          obtain ⟨w9, ew9⟩ : ∃ w9, w9 = wn := ⟨_, rfl⟩
                          subst ew9
                          have HU2 := hid hU2
                          have HF2 := hid hfp2
                          have HR2 := hid hr2
                          have HBt := hid (show Blk w9 gt 53 #[.slice r2.U r2.up.length r2.cu, .int .i64 r2.room, .slice r2.Q r2.q.length r2.cq, .slice r2.I r2.its.length r2.ci, .slice r2.C r2.cn.length r2.cc] from hb27)
                          have n1 : gt ≠ gr := by have h1 := HRa.out.b.lt; omega
                          have n2 : gr ≠ gt := fun e => n1 e.symm
                          clear hf hft hs hgk hJ h9 hb27 hr2 hU2 hfp2 hg27 hPR
                          simp only [List.drop_succ_cons, List.drop_zero, putAll, List.foldl_cons, List.foldl_nil, Act.put, List.setIfInBounds_toArray, List.set_cons_succ, List.set_cons_zero, e27, h10]
                          clear e27 h10 HAll HCl
                          have HBg := hid (show Blk w9 gr 53 #[.slice rv.U rv.up.length rv.cu, .int .i64 rv.room, .slice rv.Q rv.q.length rv.cq, .slice rv.I rv.its.length rv.ci, .slice rv.C rv.cn.length rv.cc] from HRa.out.b.grew HG79.out)
                          have HB9x := hid (HB7.out.grew HG79.out)
                          clear HB7
                          have t0 := HBt.out.cell 0
                          have t1 := HBt.out.cell 1
                          have t2 := HBt.out.cell 2
                          have t3 := HBt.out.cell 3
                          have t4 := HBt.out.cell 4
                          have tl := HBt.out.lt
                          simp only [List.getElem?_toArray, List.getElem?_cons_zero, List.getElem?_cons_succ] at t0 t1 t2 t3 t4
                          have y0 := HBg.out.cell 0
                          have y1 := HBg.out.cell 1
                          have y2 := HBg.out.cell 2
                          have y3 := HBg.out.cell 3
                          have y4 := HBg.out.cell 4
                          have yl := HBg.out.lt
                          simp only [List.getElem?_toArray, List.getElem?_cons_zero, List.getElem?_cons_succ] at y0 y1 y2 y3 y4
                          have gf := HBg.out.frozen
                          go_upto_region 24 with fail
                          have HBw := hid (HBg.out.put5 (.slice r2.U r2.up.length r2.cu) (.int .i64 r2.room) (.slice r2.Q r2.q.length r2.cq) (.slice r2.I r2.its.length r2.ci) (.slice r2.C r2.cn.length r2.cc))
                          have HKw := hid (kept5 (Kept.refl (fun k => k = gr) w9) (fun _ => rfl) (.slice r2.U r2.up.length r2.cu) (.int .i64 r2.room) (.slice r2.Q r2.q.length r2.cq) (.slice r2.I r2.its.length r2.ci) (.slice r2.C r2.cn.length r2.cc))
                          have HRb := hid (HRa.out.ref HG79.out HR2.out HU2.out (fun k hk => (HF2.out k hk).imp id .inl) HKw.out HBw.out)
                          have HB9 := hid (HB9x.out.kept HKw.out HNg.out)
                          clear t0 t1 t2 t3 t4 tl y0 y1 y2 y3 y4 yl gf n1 n2 HBg HBt HB9x HR2 HU2 HF2 HRa HG79 HKw
                          generalize (((((w9.setCell ⟨gr, 0, none⟩ (.slice r2.U r2.up.length r2.cu)).setCell ⟨gr, 1, none⟩ (.int .i64 r2.room)).setCell ⟨gr, 2, none⟩ (.slice r2.Q r2.q.length r2.cq)).setCell ⟨gr, 3, none⟩ (.slice r2.I r2.its.length r2.ci)).setCell ⟨gr, 4, none⟩ (.slice r2.C r2.cn.length r2.cc)) = wb2 at *
                          clear HLk HBw
                          go_wp2_with fail
                          go_meet
                          exact ⟨va, r2, C, _, _, HRb, HB9, hid ⟨by have := HCC.out.1; omega, by have h1 := HLn.out; have h2 := HCC.out.2; omega⟩, hid (by rw [HVa.out, HV.out])⟩
                  case rest =>
                    clear HR6 HB6 HGf HLk HFit HRt HCC HV
                    obtain ⟨v', rv', C', L', cn', HRn, HBn, HCn, HVn⟩ := hcut
                    obtain ⟨wt, ewt⟩ : ∃ wt, wt = wc := ⟨_, rfl⟩
                    subst ewt
                    have HGt := hid (HG4.out.trans HRn.out.hh.gr)
                    have HItm := hid (fun W (hW : Grew wt W) => HRn.out.rr.at_.its.grew hW)
                    have HEi := hid HRn.out.rr.eits
                    have HLe := hid (show rv'.its.length = L'.length by rw [← HEi.out, ivI_len])
                    have HBr := hid (show Blk wt gr 53 #[.slice rv'.U rv'.up.length rv'.cu, .int .i64 rv'.room, .slice rv'.Q rv'.q.length rv'.cq, .slice rv'.I rv'.its.length rv'.ci, .slice rv'.C rv'.cn.length rv'.cc] from HRn.out.b)
                    have HSm := hid (show Small (ivI rv'.its) by rw [HEi.out]; exact (HRn.out.lok (by have := HCn.out.1; omega)).small)
                    have HPl := hid (fun W (hW : Grew wt W) => rPlace_c rv' xi W (HItm.out W hW) (by have h1 := HLe.out; have h2 := HCn.out.2; omega))
                    simp only [rvC] at HPl
                    rw [HEi.out] at HPl
                    have HGet := hid (fun W (hW : Grew wt W) => (HRn.out.hh.more hW).getR xi)
                    have HHash := hid (fun W (hW : Grew wt W) => (HRn.out.hh.more hW).hashR xi)
                    rw [HVn.out] at HGet HHash
                    rcases place_spec L' xi with ⟨hp, hf⟩ | ⟨kp, x, hp, hx, hxi, hf⟩
                    · rw [hf] at HGet
                      simp only [Option.isSome_none, Bool.false_eq_true, if_false] at HGet
                      rw [show errVal 3 = .iface 91 (.int .i64 3) from rfl] at HGet
                      have HHash2 : Hid (∀ W, Grew wt W → Calls Tryz.prog 6 #[.pointer (some ⟨sg, 0, none⟩), .int .i64 xi] W fun e w' => e = .returned (.tuple #[.int .i64 (hvH L' xi), .iface 91 (.int .i64 3)]) ∧ Grew W w') := hid (fun W hW => by
                        have h1 := HHash.out W hW
                        rw [hf] at h1
                        exact h1)
                      rw [hp] at HPl
                      have HN3 : Hid (∀ W, Grew w W → Calls Tryz.prog 8 #[.iface 91 (.int .i64 3)] W fun e w' => e = .returned (.int .i64 3) ∧ Grew W w') := hid (fun W hW => HNum.out 3 W hW)
                      generalize hvH L' xi = hv at *
                      clear hp hf HHash
                      have x5 := HCell.out wt HBn.out 5 _ rfl
                      have xl := HBn.out.lt
                      go_upto_region 39 with (go_at_call 5; refine (HGet.out _ (Grew.refl _)).mono ?_; rintro e wg ⟨⟨gk, gl, gA, gn, gc, gb, rfl, -⟩, hgg⟩; clear x5 xl)
                      have Bo := Blk.new wg 30 #[.int .i64 gk, .int .i64 gl, .slice gA gn gc, .string gb]
                      have Gg := (Grew.refl wg).alloc (.cells #[.int .i64 gk, .int .i64 gl, .slice gA gn gc, .string gb] 30)
                      generalize wg.alloc (.cells #[.int .i64 gk, .int .i64 gl, .slice gA gn gc, .string gb] 30) = wo at *
                      obtain ⟨gob, ego⟩ : ∃ gob, gob = wg.heap.size := ⟨_, rfl⟩
                      rw [← ego] at Bo ⊢
                      have HOb := hid Bo
                      have HGo := hid (hgg.trans Gg)
                      clear Bo Gg hgg ego
                      have x5 := HCell.out wo (HBn.out.grew HGo.out) 5 _ rfl
                      have xl := (HBn.out.grew HGo.out).lt
                      go_upto_region 40 with (go_at_call 6; refine (HHash2.out _ HGo.out).mono ?_; rintro e wh ⟨rfl, hgh⟩; clear x5 xl)
                      have HGh := hid (HGo.out.trans hgh)
                      have HOb2 := hid (HOb.out.grew hgh)
                      have HBr2 := hid (HBr.out.grew HGh.out)
                      have HBn2 := hid (HBn.out.grew HGh.out)
                      clear hgh HGo HOb
                      have x5 := HCell.out wh HBn2.out 5 _ rfl
                      have xl := HBn2.out.lt
                      have r0 := HBr2.out.cell 0
                      have r1 := HBr2.out.cell 1
                      have r2' := HBr2.out.cell 2
                      have r3 := HBr2.out.cell 3
                      have r4 := HBr2.out.cell 4
                      have rl := HBr2.out.lt
                      simp only [List.getElem?_toArray, List.getElem?_cons_zero, List.getElem?_cons_succ] at r0 r1 r2' r3 r4
                      go_upto_region 41 with (go_at_call 25; refine (HPl.out _ HGh.out).mono ?_; rintro e wp ⟨rfl, hgp⟩; clear x5 xl r0 r1 r2' r3 r4 rl)
                      have HGp := hid (HGh.out.trans hgp)
                      have HGw := hid (HGt.out.trans HGp.out)
                      have HO3 := hid (HOb2.out.grew hgp)
                      have HR3 := hid (HBr2.out.grew hgp)
                      have HB3 := hid (HBn2.out.grew hgp)
                      clear hgp HGh HOb2 HBr2 HBn2
                      have HUs := hid (fun W (hW : Grew wt W) (hu : 0 ≤ xu) => (HRn.out.hh.more hW).usedR xu hu)
                      rw [HVn.out] at HUs
                      have HRu := hid (fun W (hW : Grew wt W) => rUsed_c rv' xu W (HItm.out W hW) HSm.out)
                      simp only [rvC] at HRu
                      rw [HEi.out] at HRu
                      have X7 := fun (z : After wp) => HCell.out z.w (HB3.out.grew z.grew) 7 _ rfl
                      have XL := fun (z : After wp) => (HB3.out.grew z.grew).lt
                      have R0 := fun (z : After wp) => (HR3.out.grew z.grew).cell 0
                      have R1 := fun (z : After wp) => (HR3.out.grew z.grew).cell 1
                      have R2 := fun (z : After wp) => (HR3.out.grew z.grew).cell 2
                      have R3 := fun (z : After wp) => (HR3.out.grew z.grew).cell 3
                      have R4 := fun (z : After wp) => (HR3.out.grew z.grew).cell 4
                      have RL := fun (z : After wp) => (HR3.out.grew z.grew).lt
                      simp only [List.getElem?_toArray, List.getElem?_cons_zero, List.getElem?_cons_succ] at R0 R1 R2 R3 R4
                      generalize rused L' xu = ru at *
                      by_cases hu : 0 ≤ xu
                      · as_aux_lemma =>
                          refine wp_region_grew_from (w0 := wp) (Grew.refl wp) (by kernel_rfl) (by kernel_rfl) ?_
                          repeat (go_big_quiet_step ((first | (go_at_call 8; exact Calls.grew (After.grew _) (HN3.out _ (HGw.out.trans (After.grew _)))) | (go_at_call 11; exact Calls.grew (After.grew _) (HUs.out _ (HGp.out.trans (After.grew _)) hu)) | (go_at_call 27; exact Calls.grew (After.grew _) (HRu.out _ (HGp.out.trans (After.grew _)))))))
                          refine wpQuiet_nil ?_
                          rintro _ ⟨z, rfl⟩
                          clear X7 XL R0 R1 R2 R3 R4 RL
                          go_wp2_with fail
                          go_round
                          case rel => exact ⟨i + 1, v', rv', C', L', cn', by go_num, by omega, by omega, hid (HRn.out.more (HGp.out.trans z.grew)), HCn, HVn⟩
                          case measure => simp [intOf]; omega
                      · as_aux_lemma =>
                          refine wp_region_grew_from (w0 := wp) (Grew.refl wp) (by kernel_rfl) (by kernel_rfl) ?_
                          repeat (go_big_quiet_step ((first | (go_at_call 8; exact Calls.grew (After.grew _) (HN3.out _ (HGw.out.trans (After.grew _)))) | (go_at_call 11; exact Calls.grew (After.grew _) (HUs.out _ (HGp.out.trans (After.grew _)) hu)) | (go_at_call 27; exact Calls.grew (After.grew _) (HRu.out _ (HGp.out.trans (After.grew _)))))))
                          refine wpQuiet_nil ?_
                          rintro _ ⟨z, rfl⟩
                          clear X7 XL R0 R1 R2 R3 R4 RL
                          go_wp2_with fail
                          go_round
                          case rel => exact ⟨i + 1, v', rv', C', L', cn', by go_num, by omega, by omega, hid (HRn.out.more (HGp.out.trans z.grew)), HCn, HVn⟩
                          case measure => simp [intOf]; omega
                    · have hxl : kp < rv'.its.length := by
                        rw [HLe.out]
                        exact (List.getElem?_eq_some_iff.1 hx).1
                      have HHash2 : Hid (∀ W, Grew wt W → Calls Tryz.prog 6 #[.pointer (some ⟨sg, 0, none⟩), .int .i64 xi] W fun e w' => e = .returned (.tuple #[.int .i64 x.h, .nilIface]) ∧ Grew W w') := hid (fun W hW => by
                        have h1 := HHash.out W hW
                        unfold hvH at h1
                        rw [hf] at h1
                        exact h1)
                      have HGet2 : Hid (∀ W, Grew wt W → Calls Tryz.prog 5 #[.pointer (some ⟨sg, 0, none⟩), .int .i64 xi] W fun e w' => ∃ (gA : Option Addr) (gc : Nat), e = .returned (.tuple #[.agg #[.int .i64 x.o.cls, .int .i64 x.o.lev, .slice gA x.o.f.length gc, .string x.o.b], .nilIface]) ∧ ValsAt w' gA x.o.f ∧ Grew W w') := hid (fun W hW => by
                        refine (HGet.out W hW).mono ?_
                        rintro e w' ⟨⟨k, l, A', n, c, b, rfl, h⟩, hg⟩
                        obtain ⟨rfl, rfl, rfl, rfl, h5⟩ := h x hf
                        exact ⟨A', c, by rw [hf]; rfl, h5, hg⟩)
                      rw [hp] at HPl
                      have HX := hid (And.intro hx hxi)
                      have HXl := hid (show x.o.f.length ≤ 300 from (HSm.out.2 x (by rw [HEi.out]; exact List.mem_of_getElem? hx)).1)
                      have h0 : ¬ ((kp : Nat) : Int) < 0 := by omega
                      have h0' : 0 ≤ ((kp : Nat) : Int) := by omega
                      have h1' : ((kp : Nat) : Int) < ((rv'.its.length : Nat) : Int) := by omega
                      have hkl := hid hxl
                      clear hp hf HHash HGet hx hxi hxl
                      have x5 := HCell.out wt HBn.out 5 _ rfl
                      have xl := HBn.out.lt
                      go_upto_region 39 with (go_at_call 5; refine (HGet2.out _ (Grew.refl _)).mono ?_; rintro e wg ⟨gA, gc, rfl, hgv, hgg⟩; clear x5 xl)
                      have Bo := Blk.new wg 30 #[.int .i64 x.o.cls, .int .i64 x.o.lev, .slice gA x.o.f.length gc, .string x.o.b]
                      have Gg := (Grew.refl wg).alloc (.cells #[.int .i64 x.o.cls, .int .i64 x.o.lev, .slice gA x.o.f.length gc, .string x.o.b] 30)
                      generalize wg.alloc (.cells #[.int .i64 x.o.cls, .int .i64 x.o.lev, .slice gA x.o.f.length gc, .string x.o.b] 30) = wo at *
                      obtain ⟨gob, ego⟩ : ∃ gob, gob = wg.heap.size := ⟨_, rfl⟩
                      rw [← ego] at Bo ⊢
                      have HOb := hid Bo
                      have HGo := hid (hgg.trans Gg)
                      have HVo := hid (hgv.grew Gg)
                      clear Bo Gg hgg ego hgv
                      have x5 := HCell.out wo (HBn.out.grew HGo.out) 5 _ rfl
                      have xl := (HBn.out.grew HGo.out).lt
                      go_upto_region 40 with (go_at_call 6; refine (HHash2.out _ HGo.out).mono ?_; rintro e wh ⟨rfl, hgh⟩; clear x5 xl)
                      have HGh := hid (HGo.out.trans hgh)
                      have HOb2 := hid (HOb.out.grew hgh)
                      have HVo2 := hid (HVo.out.grew hgh)
                      have HBr2 := hid (HBr.out.grew HGh.out)
                      have HBn2 := hid (HBn.out.grew HGh.out)
                      clear hgh HGo HOb HVo
                      have x5 := HCell.out wh HBn2.out 5 _ rfl
                      have xl := HBn2.out.lt
                      have r0 := HBr2.out.cell 0
                      have r1 := HBr2.out.cell 1
                      have r2' := HBr2.out.cell 2
                      have r3 := HBr2.out.cell 3
                      have r4 := HBr2.out.cell 4
                      have rl := HBr2.out.lt
                      simp only [List.getElem?_toArray, List.getElem?_cons_zero, List.getElem?_cons_succ] at r0 r1 r2' r3 r4
                      go_upto_region 41 with (go_at_call 25; refine (HPl.out _ HGh.out).mono ?_; rintro e wp ⟨rfl, hgp⟩; clear x5 xl r0 r1 r2' r3 r4 rl)
                      have HGp := hid (HGh.out.trans hgp)
                      have HGw := hid (HGt.out.trans HGp.out)
                      have HO3 := hid (HOb2.out.grew hgp)
                      have HV3 := hid (HVo2.out.grew hgp)
                      have HR3 := hid (HBr2.out.grew hgp)
                      have HB3 := hid (HBn2.out.grew hgp)
                      clear hgp HGh HOb2 HBr2 HBn2 HVo2
                      have HUs := hid (fun W (hW : Grew wt W) (hu : 0 ≤ xu) => (HRn.out.hh.more hW).usedR xu hu)
                      rw [HVn.out] at HUs
                      have HRu := hid (fun W (hW : Grew wt W) => rUsed_c rv' xu W (HItm.out W hW) HSm.out)
                      simp only [rvC] at HRu
                      rw [HEi.out] at HRu
                      have X7 := fun (z : After wp) => HCell.out z.w (HB3.out.grew z.grew) 7 _ rfl
                      have XL := fun (z : After wp) => (HB3.out.grew z.grew).lt
                      have R0 := fun (z : After wp) => (HR3.out.grew z.grew).cell 0
                      have R1 := fun (z : After wp) => (HR3.out.grew z.grew).cell 1
                      have R2 := fun (z : After wp) => (HR3.out.grew z.grew).cell 2
                      have R3 := fun (z : After wp) => (HR3.out.grew z.grew).cell 3
                      have R4 := fun (z : After wp) => (HR3.out.grew z.grew).cell 4
                      have RL := fun (z : After wp) => (HR3.out.grew z.grew).lt
                      simp only [List.getElem?_toArray, List.getElem?_cons_zero, List.getElem?_cons_succ] at R0 R1 R2 R3 R4
                      have O0 := fun (z : After wp) => (HO3.out.grew z.grew).cell 0
                      have O1 := fun (z : After wp) => (HO3.out.grew z.grew).cell 1
                      have O2 := fun (z : After wp) => (HO3.out.grew z.grew).cell 2
                      have O3 := fun (z : After wp) => (HO3.out.grew z.grew).cell 3
                      have OL := fun (z : After wp) => (HO3.out.grew z.grew).lt
                      simp only [List.getElem?_toArray, List.getElem?_cons_zero, List.getElem?_cons_succ] at O0 O1 O2 O3
                      obtain ⟨ad2, y, ead, hy, hcy, hby, hoky, -, -⟩ := iv_at (HItm.out wt (Grew.refl _)) HGp.out (i := kp) hkl.out
                      have hyx : (⟨y.i, y.h, y.o⟩ : Hp.It) = x := by
                        have h1 := ivI_at hy
                        rw [HEi.out, HX.out.1] at h1
                        exact (Option.some.inj h1).symm
                      have HOj := hid (fun W (hW : Grew wp W) => isObj_c x.o gA gc y.A y.c W (HV3.out.grew hW) (by have h1 := hoky.f.grew hW; rw [← hyx]; exact h1) (by have := HXl.out; omega))
                      have v1 := hcy 1 _ rfl
                      have v2 := hcy 2 _ rfl
                      have v3 := hcy 3 _ rfl
                      have v4 := hcy 4 _ rfl
                      have v5 := hcy 5 _ rfl
                      rw [add_pos (by decide), block_add] at v1 v2 v3 v4 v5
                      have hyh : y.h = x.h := by rw [← hyx]
                      have hyo : y.o = x.o := by rw [← hyx]
                      rw [hyo] at v2 v3 v4 v5
                      rw [hyh] at v1
                      rw [ead] at R3
                      rw [ead] at HRu
                      have V1 := fun (z : After wp) => (z.cell ⟨ad2.block, (ad2.add (kp * 6)).off + 1, none⟩ hby).trans v1
                      have V2 := fun (z : After wp) => (z.cell ⟨ad2.block, (ad2.add (kp * 6)).off + 2, none⟩ hby).trans v2
                      have V3 := fun (z : After wp) => (z.cell ⟨ad2.block, (ad2.add (kp * 6)).off + 3, none⟩ hby).trans v3
                      have V4 := fun (z : After wp) => (z.cell ⟨ad2.block, (ad2.add (kp * 6)).off + 4, none⟩ hby).trans v4
                      have V5 := fun (z : After wp) => (z.cell ⟨ad2.block, (ad2.add (kp * 6)).off + 5, none⟩ hby).trans v5
                      have VL := fun (z : After wp) => z.lt _ hby
                      generalize x.o.f.length = fm at *
                      clear hyx hyh hyo hy hcy hoky
                      generalize rused L' xu = ru at *
                      by_cases hu : 0 ≤ xu
                      · as_aux_lemma =>
                          clear h0 h0'
                          have d0 : decide (((kp : Nat) : Int) < 0) = false := decide_eq_false (by omega)
                          have d1 : decide (0 ≤ ((kp : Nat) : Int)) = true := decide_eq_true (by omega)
                          refine wp_region_grew_from (w0 := wp) (Grew.refl wp) (by kernel_rfl) (by kernel_rfl) ?_
                          repeat (go_big_quiet_step ((first | (go_at_call 26; exact Calls.grew (After.grew _) (HOj.out _ (After.grew _))) | (go_at_call 11; exact Calls.grew (After.grew _) (HUs.out _ (HGp.out.trans (After.grew _)) hu)) | (go_at_call 27; exact Calls.grew (After.grew _) (HRu.out _ (HGp.out.trans (After.grew _)))))))
                          refine wpQuiet_nil ?_
                          rintro _ ⟨z, rfl⟩
                          clear X7 XL R0 R1 R2 R3 R4 RL O0 O1 O2 O3 OL V1 V2 V3 V4 V5 VL
                          go_wp2_with fail
                          go_round
                          case rel => exact ⟨i + 1, v', rv', C', L', cn', by go_num, by omega, by omega, hid (HRn.out.more (HGp.out.trans z.grew)), HCn, HVn⟩
                          case measure => simp [intOf]; omega
                      · as_aux_lemma =>
                          clear h0 h0'
                          have d0 : decide (((kp : Nat) : Int) < 0) = false := decide_eq_false (by omega)
                          have d1 : decide (0 ≤ ((kp : Nat) : Int)) = true := decide_eq_true (by omega)
                          refine wp_region_grew_from (w0 := wp) (Grew.refl wp) (by kernel_rfl) (by kernel_rfl) ?_
                          repeat (go_big_quiet_step ((first | (go_at_call 26; exact Calls.grew (After.grew _) (HOj.out _ (After.grew _))) | (go_at_call 11; exact Calls.grew (After.grew _) (HUs.out _ (HGp.out.trans (After.grew _)) hu)) | (go_at_call 27; exact Calls.grew (After.grew _) (HRu.out _ (HGp.out.trans (After.grew _)))))))
                          refine wpQuiet_nil ?_
                          rintro _ ⟨z, rfl⟩
                          clear X7 XL R0 R1 R2 R3 R4 RL O0 O1 O2 O3 OL V1 V2 V3 V4 V5 VL
                          go_wp2_with fail
                          go_round
                          case rel => exact ⟨i + 1, v', rv', C', L', cn', by go_num, by omega, by omega, hid (HRn.out.more (HGp.out.trans z.grew)), HCn, HVn⟩
                          case measure => simp [intOf]; omega
                · go_wp2_with first | (go_at_call 17; refine (HBo.out _).mono ?_; rintro e w5 ⟨rfl, hg5⟩; have HB5 := hid (HBx.out.grew hg5); clear p1 p2 p3 p4 pl; have p11 := HCell.out w5 HB5.out 11 _ rfl; have pl := HB5.out.lt) | (go_at_call 18; refine (HBr.out _ (HGr.out.trans (HGx.out.trans hg5))).mono ?_; rintro e w6 ⟨rfl, hg6⟩; have HG6 := hid ((HGx.out.trans hg5).trans hg6); clear p11 pl)
                  go_round
                  case rel => exact ⟨i + 1, v, rv, C, L, cn, by go_num, by omega, by omega, hid (HR.out.more HG6.out), hid ⟨by have := HCC.out.1; omega, by have := HCC.out.2; omega⟩, HV⟩
                  case measure => simp [intOf]; omega
              · go_wp2_with (go_at_call 17; refine (HBo.out _).mono ?_; rintro e w5 ⟨rfl, hg5⟩; have HG5 := hid (HGx.out.trans hg5); clear p1 p2 p3 p4 pl hg5)
                go_round
                case rel => exact ⟨i + 1, v, rv, C, L, cn, by go_num, by omega, by omega, hid (HR.out.more HG5.out), hid ⟨by have := HCC.out.1; omega, by have := HCC.out.2; omega⟩, HV⟩
                case measure => simp [intOf]; omega
            · have f1 : (i : Int) < (n : Int) := by omega
              have f2 : ¬ (i : Int) < 60 := by omega
              have HIs := hid (fun W (hW : Grew wr W) => isHeap_c v B C rv W (HR.out.hh.mem.grew hW) HR.out.hh.ok (HR.out.rr.at_.grew hW) (by rw [HR.out.rr.eits, HR.out.hh.its]) (by rw [HR.out.rr.ecn, HR.out.hh.up, HR.out.hh.cn]))
              simp only [rvC] at HIs
              rw [HV.out] at HIs
              have HBr := hid (show Blk wr gr 53 #[.slice rv.U rv.up.length rv.cu, .int .i64 rv.room, .slice rv.Q rv.q.length rv.cq, .slice rv.I rv.its.length rv.ci, .slice rv.C rv.cn.length rv.cc] from HR.out.b)
              have r0 := HBr.out.cell 0
              have r1 := HBr.out.cell 1
              have r2' := HBr.out.cell 2
              have r3 := HBr.out.cell 3
              have r4 := HBr.out.cell 4
              have rl := HBr.out.lt
              simp only [List.getElem?_toArray, List.getElem?_cons_zero, List.getElem?_cons_succ] at r0 r1 r2' r3 r4
              clear HR HCC HV
              go_wp2_with first | (go_at_call 28; refine (HIs.out wr (Grew.refl _)).mono ?_; rintro e w7 ⟨rfl, hg7⟩) | (go_at_call 14; refine (HSu.out w7 (HGr.out.trans hg7)).mono ?_; rintro e w8 ⟨rfl, hg8⟩)
              go_ret
              exact ⟨rfl, (HGr.out.trans hg7).trans hg8⟩
          · have f1 : ¬ (i : Int) < (n : Int) := by omega
            have HIs := hid (fun W (hW : Grew wr W) => isHeap_c v B C rv W (HR.out.hh.mem.grew hW) HR.out.hh.ok (HR.out.rr.at_.grew hW) (by rw [HR.out.rr.eits, HR.out.hh.its]) (by rw [HR.out.rr.ecn, HR.out.hh.up, HR.out.hh.cn]))
            simp only [rvC] at HIs
            rw [HV.out] at HIs
            have HBr := hid (show Blk wr gr 53 #[.slice rv.U rv.up.length rv.cu, .int .i64 rv.room, .slice rv.Q rv.q.length rv.cq, .slice rv.I rv.its.length rv.ci, .slice rv.C rv.cn.length rv.cc] from HR.out.b)
            have r0 := HBr.out.cell 0
            have r1 := HBr.out.cell 1
            have r2' := HBr.out.cell 2
            have r3 := HBr.out.cell 3
            have r4 := HBr.out.cell 4
            have rl := HBr.out.lt
            simp only [List.getElem?_toArray, List.getElem?_cons_zero, List.getElem?_cons_succ] at r0 r1 r2' r3 r4
            clear HR HCC HV
            go_wp2_with first | (go_at_call 28; refine (HIs.out wr (Grew.refl _)).mono ?_; rintro e w7 ⟨rfl, hg7⟩) | (go_at_call 14; refine (HSu.out w7 (HGr.out.trans hg7)).mono ?_; rintro e w8 ⟨rfl, hg8⟩)
            go_ret
            exact ⟨rfl, (HGr.out.trans hg7).trans hg8⟩
end Go.Proofs.YtidnaednldcdfaaGreatDoor

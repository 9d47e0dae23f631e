/- Stage 12: the reference's Reached, walked. -/
import Derived.Test.YtidnaednldcdfaaGreatDoorGeM
namespace Go.Proofs.YtidnaednldcdfaaGreatDoor
open Go.RowKit

theorem marks_bL {L : List Hp.It} {m : Nat} (h : L.length = m) : marksC m [] = bL L [] := by
  rw [bL_nil, h, List.eq_replicate_iff]
  refine ⟨marksC_len m [], fun b hb => ?_⟩
  unfold marksC at hb
  obtain ⟨k, _, rfl⟩ := List.mem_map.1 hb
  simp
theorem vals_cells {w : World} {A : Option Addr} {l : List Ob.Val} (h : ValsAt w A l) : ∀ ad, A = some ad → ∀ j u, (l.flatMap valF)[j]? = some u → w.cell? (ad.add j) = some u := fun ad e j u hu => by
  have hl : 0 < l.length := by
    have := (List.getElem?_eq_some_iff.1 hu).1
    rw [flatMap_length valF_len] at this
    omega
  obtain ⟨ad', h1, _, h3⟩ := h.2 hl
  rw [e] at h1
  cases h1
  exact flat_cell (by decide) valF_len h3 j u hu
theorem vals_none {w : World} {A : Option Addr} {l : List Ob.Val} (h : ValsAt w A l) : A = none → l.length = 0 := fun e => by
  rcases Nat.eq_zero_or_pos l.length with h0 | h0
  · exact h0
  · obtain ⟨ad, h1, _⟩ := h.2 h0
    rw [e] at h1; cases h1
theorem rvals_info : (Tryz.prog.info? 59).map (fun i => (i.zero, i.size, i.bytes)) = some (some (.agg #[.int .u8 0, .int .i64 0, .int .i64 0]), 3, 24) := by kernel_rfl
set_option maxRecDepth 100000 in
set_option maxHeartbeats 16000000 in
theorem rReached_c (r : RV) (A : Option Addr) (c : Nat) (rs : List Ob.Val) (n : Nat) (w : World) (h : ItemsAt w r.I r.its) (hs : Hp.Sorted (ivI r.its)) (hm : ∀ x ∈ ivI r.its, Ob.mayB n x.o = true) (hn : n ≤ 20) (hL : r.its.length ≤ 1000) (hr : ValsAt w A rs) (hrl : rs.length ≤ 300000) :
    Calls Tryz.prog 58 #[.agg (rvC r), .slice A rs.length c] w (RchV w (ivI r.its) rs r.its.length) := by
  have HPl := hid (fun v W (hW : Grew w W) => rPlace_c r v W (h.grew hW) (by omega))
  unfold rvC at HPl ⊢
  obtain ⟨U, cu, up, room, Q, cq, q, I, ci, its, C, cc, cn⟩ := r
  simp only at h hs hm hL HPl ⊢
  generalize up.length = un at *
  generalize q.length = qn at *
  generalize cn.length = kn at *
  obtain ⟨L, eL⟩ : ∃ L, L = ivI its := ⟨_, rfl⟩
  have EL := hid eL
  have HLl := hid (show L.length = its.length by rw [eL, ivI_len])
  rw [← eL] at hs hm HPl ⊢
  obtain ⟨m, em⟩ : ∃ m, m = its.length := ⟨_, rfl⟩
  rw [← em] at hL HPl HLl ⊢
  have EM := hid em
  have HI := hid h
  have HS := hid hs
  have HMy := hid hm
  have HF := hid (show ∀ x ∈ L, x.o.f.length ≤ 300 from fun x hx => by have := hp_head (hm x hx); omega)
  have HL1 := hid (show L.length ≤ 1000 by rw [HLl.out]; exact hL)
  have HRs := hid hr
  have hmk : ∀ W : World, (Instr.makeSlice 103 (.int .i64 ((m : Nat) : Int)) (.int .i64 ((m : Nat) : Int))).run Tryz.prog W = .ok (.slice (some ⟨W.heap.size, 0, none⟩) m m) (W.alloc (.cells (bL L []).toArray 4)) := fun W => by rw [make_bools m (by omega) W, marks_bL HLl.out]
  clear h hs hm hr eL em
  have B1 := Blk.new w 53 #[.slice U un cu, .int .i64 room, .slice Q qn cq, .slice I m ci, .slice C kn cc]
  have G1 := (Grew.refl w).alloc (.cells #[.slice U un cu, .int .i64 room, .slice Q qn cq, .slice I m ci, .slice C kn cc] 53)
  go_enter Tryz.func58, Tryz.ntmps58
  go_upto_region 1 with fail
  generalize w.alloc (.cells #[.slice U un cu, .int .i64 room, .slice Q qn cq, .slice I m ci, .slice C kn cc] 53) = w1 at *
  obtain ⟨gx, egx⟩ : ∃ gx, gx = w.heap.size := ⟨_, rfl⟩
  rw [← egx] at B1 ⊢
  have HB1 := hid B1
  have HG1 := hid G1
  have EGX := hid egx
  clear B1 G1 egx
  have p3 := HB1.out.cell 3
  have pl := HB1.out.lt
  simp only [List.getElem?_toArray, List.getElem?_cons_zero, List.getElem?_cons_succ] at p3
  have B2 := Blk.new w1 4 (bL L []).toArray
  have G2 := (Grew.refl w1).alloc (.cells (bL L []).toArray 4)
  go_upto_region 3 with fail
  clear p3 pl hmk
  generalize w1.alloc (.cells (bL L []).toArray 4) = w2 at *
  obtain ⟨gi, egi⟩ : ∃ gi, gi = w1.heap.size := ⟨_, rfl⟩
  rw [← egi] at B2 ⊢
  have HGi := hid (show gx < gi by rw [egi]; exact HB1.out.lt)
  have HGw := hid (show w.heap.size ≤ gi by rw [egi]; exact HG1.out.below.size)
  have HO := hid (show RcO w gx gi #[.slice U un cu, .int .i64 room, .slice Q qn cq, .slice I m ci, .slice C kn cc] L rs (.slice A rs.length c) w2 (2 * Hp.un L [] + (if rs.length = 0 then 0 else 1)) from ⟨A, c, rs, [], rfl, hrl, HRs.out.grew (HG1.out.trans G2), fun hp ad e => (by obtain ⟨ad', h1, h2, _⟩ := HRs.out.2 hp; rw [e] at h1; cases h1; have h3 := HGw.out; omega), HB1.out.grew G2, B2, HG1.out.trans G2, (Hp.LookInv.start L rs).more (fun u hu => .inl hu), fun v hv hi => .root hv hi, rfl⟩)
  clear B2 G2 egi HB1 HG1 HRs hrl
  go_loopw [6, 7, 8, 9] (fun s6 _ _ _ wr => ∃ k, RcO w gx gi #[.slice U un cu, .int .i64 room, .slice Q qn cq, .slice I m ci, .slice C kn cc] L rs s6 wr k) (fun s6 _ _ _ wr => mu (RcO w gx gi #[.slice U un cu, .int .i64 room, .slice Q qn cq, .slice I m ci, .slice C kn cc] L rs s6 wr))
  case atStart => exact ⟨_, HO.out⟩
  case round =>
    have hsp := mu_spec hrel
    obtain ⟨Ao, co, tl, Mk, rfl, htl, hvt, hne, hbx, hbi, hgr, hli, hre, hmu⟩ := hsp
    have HMu := hid hmu
    have HTl := hid hvt
    have HNe := hid hne
    have HBx := hid hbx
    have HBi := hid hbi
    have HGr := hid hgr
    have HLi := hid hli
    have HRe := hid hre
    obtain ⟨wo, ewo⟩ : ∃ wo, wo = wr := ⟨_, rfl⟩
    subst ewo
    obtain ⟨tn, etn⟩ : ∃ tn, tn = tl.length := ⟨_, rfl⟩
    rw [← etn] at htl HMu ⊢
    have ETN := hid etn
    clear hmu hvt hne hbx hbi hgr hli hre hrel etn HO
    by_cases h0 : tn = 0
    · have f1 : ¬ (0 : Int) < (tn : Int) := by omega
      have HFn := hid (fun i => (show Hp.LookInv L rs (fun _ => False) (Mk, []) from HLi.out.more (fun u hu => by
        rcases hu with hu | hu
        · rw [List.eq_nil_of_length_eq_zero (show tl.length = 0 by rw [← ETN.out]; exact h0)] at hu
          cases hu
        · exact hu)).final i)
      clear h0
      go_wp2_with fail
      go_ret
      exact ⟨gi, Mk, rfl, HBi.out, HFn.out, HGw.out, HGr.out⟩
    · have f1 : (0 : Int) < (tn : Int) := by omega
      rw [if_neg h0] at HMu
      clear h0
      have HX : Hid (∀ i, (nxt L Mk (tl.take i)).length ≤ 300000) := hid (fun i => nxt_fit HS.out HL1.out HF.out HLi.out HRe.out i)
      go_upto_region 6 with fail
      simp only [show decide (0 < tn) = true from decide_eq_true (by omega)]
      go_loopw [7, 8, 9] (fun s7 s8 _ wr => ∃ (i : Nat) (An : Option Addr) (cx nn : Nat), s8 = .int .i64 ((i : Nat) : Int) ∧ i ≤ tn ∧ s7 = .slice An nn cx ∧ Hid (nn = (nxt L Mk (tl.take i)).length) ∧ Hid (Row wr wo.heap.size 59 3 An nn cx ((nxt L Mk (tl.take i)).flatMap valF)) ∧ Hid (Blk wr gi 4 (bL L (Hp.lookAll L (Mk, []) (tl.take i)).1).toArray) ∧ Hid (Kept (fun k => k = gi ∨ wo.heap.size ≤ k) wo wr)) (fun _ s8 _ _ => tn - (intOf s8).toNat)
      case atStart => exact ⟨0, none, 0, 0, rfl, Nat.zero_le _, rfl, hid (by simp [nxt, Hp.lookAll]), hid (by simpa [nxt, Hp.lookAll] using Row.nil _ _ _ _), hid (by simpa [Hp.lookAll] using HBi.out), hid (Kept.refl _ _)⟩
      case round =>
        obtain ⟨i, An, cx, nn, rfl, hi, rfl, HNn, HRn, HBm, HK⟩ := hrel
        have HGq := hid (show Grew w wr from HK.out.grew HGr.out (fun k hk => by have h1 := HGw.out; have h2 := HGr.out.below.size; rcases hk with rfl | hk <;> omega))
        have HTr := hid (show ValsAt wr Ao tl from HTl.out.kept HK.out (fun hp ad e hk => by
          have h1 := HNe.out hp ad e
          obtain ⟨ad', h2, h3, _⟩ := HTl.out.2 hp
          rw [e] at h2
          cases h2
          rcases hk with hk | hk
          · exact h1 hk
          · omega))
        have HBh := hid (HBx.out.kept HK.out (fun hk => by have h1 := HGi.out; have h2 := HBx.out.lt; rcases hk with hk | hk <;> omega))
        by_cases hlt : i < tn
        · have f2 : (i : Int) < (tn : Int) := by omega
          obtain ⟨ad, v, rfl, hv, u0, u1, u2, hbv, hvok⟩ := val_at HTr.out (Grew.refl wr) (i := i) (by rw [← ETN.out]; exact hlt)
          have HV := hid hv
          have x0 := HBh.out.cell 0
          have x1 := HBh.out.cell 1
          have x2 := HBh.out.cell 2
          have x3 := HBh.out.cell 3
          have x4 := HBh.out.cell 4
          have xl := HBh.out.lt
          simp only [List.getElem?_toArray, List.getElem?_cons_zero, List.getElem?_cons_succ] at x0 x1 x2 x3 x4
          clear hv hvok
          by_cases hk4 : v.k = 4
          · have g4 : (((v.k : Nat) : Int) == 4) = true := by rw [beq_iff_eq]; omega
            have HPi := hid (fun W (hW : Grew wr W) => HPl.out v.n W (HGq.out.trans hW))
            have X0 := fun (y : After wr) => (HBh.out.grew y.grew).cell 0
            have X1 := fun (y : After wr) => (HBh.out.grew y.grew).cell 1
            have X2 := fun (y : After wr) => (HBh.out.grew y.grew).cell 2
            have X3 := fun (y : After wr) => (HBh.out.grew y.grew).cell 3
            have X4 := fun (y : After wr) => (HBh.out.grew y.grew).cell 4
            have XL := fun (y : After wr) => (HBh.out.grew y.grew).lt
            simp only [List.getElem?_toArray, List.getElem?_cons_zero, List.getElem?_cons_succ] at X0 X1 X2 X3 X4
            have U1 := fun (y : After wr) => (y.cell ⟨ad.block, (ad.add (i * 3)).off + 1, none⟩ hbv).trans u1
            have UL := fun (y : After wr) => y.lt _ hbv
            rcases place_spec L v.n with ⟨hp, hf⟩ | ⟨p, x, hp, hx, hxi, hf⟩
            · rw [hp] at HPi
              have HNo := hid (nxt_no (L := L) (Mk := Mk) HV.out (.inr (.inl hf)))
              have HNx := hid (show nxt L Mk (tl.take (i + 1)) = nxt L Mk (tl.take i) by unfold nxt; rw [HNo.out])
              clear hp hf hk4
              go_upto_region 10 with fail
              refine wp_region_grew_from (w0 := wr) (Grew.refl wr) (by kernel_rfl) (by kernel_rfl) ?_
              repeat (go_big_quiet_step ((go_at_call 25; exact Calls.grew (After.grew _) (HPi.out _ (After.grew _)))))
              refine wpQuiet_nil ?_
              rintro _ ⟨y, rfl⟩
              clear X0 X1 X2 X3 X4 XL U1 UL
              go_wp2_with fail
              go_round
              case rel => exact ⟨i + 1, An, cx, nn, by go_num, by omega, rfl, hid (by rw [HNx.out]; exact HNn.out), hid (by rw [HNx.out]; exact HRn.out.grew y.grew), hid (by rw [HNo.out]; exact HBm.out.grew y.grew), hid (HK.out.next (Kept.of_grew y.grew : Kept (fun k => k = gi ∨ wo.heap.size ≤ k) wr y.w) (fun k _ h => h))⟩
              case measure => simp [intOf]; omega
            · rw [hp] at HPi
              have hpm : p < m := by have h1 := (List.getElem?_eq_some_iff.1 hx).1; rw [HLl.out] at h1; exact h1
              have g5 : (p : Int) < (m : Int) := by omega
              have g6 : (0 : Int) ≤ (p : Int) := by omega
              obtain ⟨bk, ebk⟩ : ∃ bk, bk = decide (x.i ∈ (Hp.lookAll L (Mk, []) (tl.take i)).1) := ⟨_, rfl⟩
              have HIn : Hid (∀ W, Grew wr W → W.cell? ⟨gi, p, none⟩ = some (.bool bk) ∧ gi < W.heap.size ∧ W.frozen? ⟨gi, p, none⟩ = false) := hid (fun W hW => ⟨by rw [(HBm.out.grew hW).cell p, List.getElem?_toArray, bL_at hx, ebk], (HBm.out.grew hW).lt, (HBm.out.grew hW).frozen p⟩)
              cases bk
              · have hnm : v.n ∉ (Hp.lookAll L (Mk, []) (tl.take i)).1 := by rw [← hxi]; exact of_decide_eq_false ebk.symm
                have HYs := hid (nxt_yes HV.out hk4 hf hnm)
                have HNx := hid (show nxt L Mk (tl.take (i + 1)) = nxt L Mk (tl.take i) ++ x.o.f by unfold nxt; rw [HYs.out, List.flatMap_append]; simp)
                have HSt := hid (show (bL L (Hp.lookAll L (Mk, []) (tl.take i)).1).set p (.bool true) = bL L (Hp.lookAll L (Mk, []) (tl.take (i + 1))).1 by rw [HYs.out, bL_set HS.out hx, hxi])
                have hnx3 := HX.out (i + 1)
                have hnx4 := HX.out i
                obtain ⟨ai, z, rfl, hz, hcz, hbz, hokz, -, -⟩ := iv_at HI.out HGq.out (i := p) (by rw [← EM.out]; exact hpm)
                have hzx : z.o = x.o := by
                  have h1 := ivI_at hz
                  rw [← EL.out, hx] at h1
                  have h2 := Option.some.inj h1
                  rw [h2]
                have z4 := hcz 4 _ rfl
                rw [add_pos (by decide), block_add] at z4
                have HZf := hid (show ValsAt wr z.A x.o.f by rw [← hzx]; exact hokz.f)
                obtain ⟨fm, efm⟩ : ∃ fm, fm = x.o.f.length := ⟨_, rfl⟩
                rw [hzx, ← efm] at z4
                have hfm : fm ≤ 300 := by rw [efm]; exact HF.out x (List.mem_of_getElem? hx)
                have EFm := hid efm
                rw [HNx.out, List.length_append, ← HNn.out, ← efm] at hnx3
                obtain ⟨zA, ezA⟩ : ∃ zA, zA = z.A := ⟨_, rfl⟩
                obtain ⟨zc, ezc⟩ : ∃ zc, zc = z.c := ⟨_, rfl⟩
                rw [← ezA, ← ezc] at z4
                rw [← ezA] at HZf
                have HZb := hid (show 0 < x.o.f.length → ∀ ad, zA = some ad → ad.block ≠ gi from fun hq ad e => by
                  have h1 := (HI.out.ok z (List.mem_of_getElem? hz)).1.f
                  simp only at h1
                  rw [hzx] at h1
                  obtain ⟨ad', h2, h3, _⟩ := h1.2 hq
                  rw [← ezA, e] at h2
                  cases h2
                  have := HGw.out
                  omega)
                have HAi := hid (show ai.block ≠ gi by
                  obtain ⟨ad', h2, h3, _⟩ := HI.out.cells (by rw [← EM.out]; omega)
                  cases h2
                  have := HGw.out
                  omega)
                have HFo := hid (show x.o.f.length = fm from efm.symm)
                obtain ⟨xf, exf⟩ : ∃ xf, xf = x.o.f := ⟨_, rfl⟩
                rw [← exf] at HNx HZf HZb HFo
                clear hp hf hk4 hx hxi ebk hnm hz hcz hokz hzx efm ezA ezc hnx4 exf EFm
                go_upto_region 10 with fail
                refine wp_region_grew_from (w0 := wr) (Grew.refl wr) (by kernel_rfl) (by kernel_rfl) ?_
                repeat (go_big_quiet_step ((go_at_call 25; exact Calls.grew (After.grew _) (HPi.out _ (After.grew _)))))
                refine wpQuiet_nil ?_
                rintro _ ⟨y, rfl⟩
                clear X0 X1 X2 X3 X4 XL U1 UL
                obtain ⟨i0, i1, i2⟩ := HIn.out y.w y.grew
                have HKy := hid (HK.out.next (Kept.of_grew y.grew : Kept (fun k => k = gi ∨ wo.heap.size ≤ k) wr y.w) (fun k _ h => h))
                have HRy := hid (HRn.out.grew y.grew)
                have HBy := hid (HBm.out.grew y.grew)
                have HBhy := hid (HBh.out.grew y.grew)
                have HZy := hid (HZf.out.grew y.grew)
                have Z4y := (y.cell ⟨ai.block, (ai.add (p * 6)).off + 4, none⟩ hbz).trans z4
                have ZLy := y.lt _ hbz
                generalize y.w = w6 at *
                go_upto_region 13 with fail
                clear i0 i1 i2
                have HK7 := hid (HKy.out.setCell (p := ⟨gi, p, none⟩) (fun _ => .inl rfl) (.bool true))
                have k2 : Kept (fun k => k = gi) w6 (w6.setCell ⟨gi, p, none⟩ (.bool true)) := (Kept.refl (fun k => k = gi) w6).setCell (p := ⟨gi, p, none⟩) (fun _ => rfl) _
                have HB7 : Hid (Blk (w6.setCell ⟨gi, p, none⟩ (.bool true)) gi 4 (bL L (Hp.lookAll L (Mk, []) (tl.take (i + 1))).1).toArray) := hid (by have h1 := HBy.out.put p (.bool true); rw [List.setIfInBounds_toArray, HSt.out] at h1; exact h1)
                have HR7 := hid (HRy.out.kept k2 (fun g hA e => by obtain ⟨ds, hd⟩ := HRy.out.blkAt (k := g) ⟨_, hA, rfl⟩; rw [e] at hd; exact absurd (hd.ty HBy.out).1 (by decide)))
                have HBh7 := hid (HBhy.out.kept k2 (by have := HGi.out; omega))
                have HZ7 := hid (HZy.out.kept k2 (fun hq ad e hk => HZb.out hq ad e hk))
                have Z4 := (k2.cell (p := ⟨ai.block, (ai.add (p * 6)).off + 4, none⟩) ZLy (fun e => HAi.out e)).trans Z4y
                have ZL := Nat.lt_of_lt_of_le ZLy k2.size
                clear k2 Z4y ZLy HRy HBy HBhy HZy HKy
                generalize w6.setCell ⟨gi, p, none⟩ (.bool true) = w7 at *
                have x3' := HBh7.out.cell 3
                have xl' := HBh7.out.lt
                simp only [List.getElem?_toArray, List.getElem?_cons_zero, List.getElem?_cons_succ] at x3'
                have HVn := hid (vals_none HZ7.out)
                have HVc := hid (vals_cells HZ7.out)
                rw [HFo.out] at HVn
                have HVl := hid (show (xf.flatMap valF).length = fm * 3 by rw [flatMap_length valF_len, HFo.out])
                go_wp2_with (at_builtin; refine wpList_catR (.agg #[.int .u8 0, .int .i64 0, .int .i64 0]) 3 24 w7 rfl _ _ 56 59 rfl Tryz.underlying56 rvals_info rfl (by decide) wo.heap.size HK7.out.size An nn cx _ rfl HR7.out zA fm zc (xf.flatMap valF) rfl HVl.out (vals_one xf) HVn.out HVc.out (by omega) (by omega) ?_; rintro A8 k8 w8 hR8 hK8 hT8; have HR8 := hid hR8; have HB8 := hid (HB7.out.kept hK8 (fun hq => by obtain ⟨ds, hd⟩ := HR7.out.blkAt hq; exact absurd (hd.ty HB7.out).1 (by decide))); have HK8 := hid (HK7.out.next (hK8.mono (fun k _ hq => Or.inr (Row.at_base HR7.out k hq))) (fun k _ h => h)); clear hR8 hK8 hT8)
                go_round
                case rel => exact ⟨i + 1, A8, k8, nn + fm, by go_num, by omega, rfl, hid (by rw [HNx.out, List.length_append, HNn.out, HFo.out]), hid (by rw [HNx.out, List.flatMap_append]; exact HR8.out), HB8, HK8⟩
                case measure => simp [intOf]; omega
              · have hmm : v.n ∈ (Hp.lookAll L (Mk, []) (tl.take i)).1 := by rw [← hxi]; exact of_decide_eq_true ebk.symm
                have HNo := hid (nxt_no (L := L) (Mk := Mk) HV.out (.inr (.inr hmm)))
                have HNx := hid (show nxt L Mk (tl.take (i + 1)) = nxt L Mk (tl.take i) by unfold nxt; rw [HNo.out])
                clear hp hf hk4 hx hxi ebk hmm
                go_upto_region 10 with fail
                refine wp_region_grew_from (w0 := wr) (Grew.refl wr) (by kernel_rfl) (by kernel_rfl) ?_
                repeat (go_big_quiet_step ((go_at_call 25; exact Calls.grew (After.grew _) (HPi.out _ (After.grew _)))))
                refine wpQuiet_nil ?_
                rintro _ ⟨y, rfl⟩
                clear X0 X1 X2 X3 X4 XL U1 UL
                obtain ⟨i0, i1, -⟩ := HIn.out y.w y.grew
                go_wp2_with fail
                go_round
                case rel => exact ⟨i + 1, An, cx, nn, by go_num, by omega, rfl, hid (by rw [HNx.out]; exact HNn.out), hid (by rw [HNx.out]; exact HRn.out.grew y.grew), hid (by rw [HNo.out]; exact HBm.out.grew y.grew), hid (HK.out.next (Kept.of_grew y.grew : Kept (fun k => k = gi ∨ wo.heap.size ≤ k) wr y.w) (fun k _ h => h))⟩
                case measure => simp [intOf]; omega
          · have g4 : (((v.k : Nat) : Int) == 4) = false := by rw [beq_eq_false_iff_ne]; omega
            have HNo := hid (nxt_no (L := L) (Mk := Mk) HV.out (.inl hk4))
            have HNx := hid (show nxt L Mk (tl.take (i + 1)) = nxt L Mk (tl.take i) by unfold nxt; rw [HNo.out])
            clear hk4
            go_wp2_with fail
            go_round
            case rel => exact ⟨i + 1, An, cx, nn, by go_num, by omega, rfl, hid (by rw [HNx.out]; exact HNn.out), hid (by rw [HNx.out]; exact HRn.out), hid (by rw [HNo.out]; exact HBm.out), HK⟩
            case measure => simp [intOf]; omega
        · obtain rfl : tn = i := by omega
          have HTk := hid (show tl.take tn = tl by rw [ETN.out, List.take_length])
          rw [HTk.out] at HNn HRn HBm
          have HAll := hid (Hp.LookInv.all (T := fun _ => False) HS.out tl HLi.out HRe.out)
          have HMe := hid (Hp.lookAll_measure L tl (Mk, []))
          have hnl := HX.out tn
          rw [HTk.out, ← HNn.out] at hnl
          have hok := nxt_ok hn HS.out HMy.out HLi.out HRe.out tn
          rw [HTk.out] at hok
          have HRc := hid (show RcO w gx gi #[.slice U un cu, .int .i64 room, .slice Q qn cq, .slice I m ci, .slice C kn cc] L rs (.slice An nn cx) wr (2 * Hp.un L (Hp.lookAll L (Mk, []) tl).1 + (if (nxt L Mk tl).length = 0 then 0 else 1)) from ⟨An, cx, nxt L Mk tl, (Hp.lookAll L (Mk, []) tl).1, by rw [HNn.out], by rw [← HNn.out]; exact hnl, row_vals HRn.out HNn.out hok, fun _ ad e hq => (by obtain ⟨ds, hd⟩ := HRn.out.blkAt (k := ad.block) ⟨ad, e, rfl⟩; rw [hq] at hd; exact absurd (hd.ty HBm.out).1 (by decide)), HBh.out, HBm.out, HGq.out, HAll.out.turn, HAll.out.turn_reach, rfl⟩)
          have HLt := hid (show 2 * Hp.un L (Hp.lookAll L (Mk, []) tl).1 + (if (nxt L Mk tl).length = 0 then 0 else 1) < 2 * Hp.un L Mk + 1 by
            have h1 := HMe.out.1
            simp only [List.length_nil] at h1
            split
            · omega
            · rename_i hne
              have h2 : 0 < (Hp.lookAll L (Mk, []) tl).2.length := by
                rcases Nat.eq_zero_or_pos (Hp.lookAll L (Mk, []) tl).2.length with h3 | h3
                · exfalso
                  apply hne
                  unfold nxt
                  rw [List.eq_nil_of_length_eq_zero h3]
                  rfl
                · exact h3
              omega)
          clear hok hnl
          go_wp2_with fail
          go_round
          case rel => exact ⟨_, HRc.out⟩
          case measure =>
            have h2 := mu_le HRc.out
            have h3 := HMu.out
            have h4 := HLt.out
            omega
end Go.Proofs.YtidnaednldcdfaaGreatDoor

/- Stage 12: the reference's counting: Words, Used, over, Place. -/
import Derived.Test.YtidnaednldcdfaaGreatDoorGeP
namespace Go.Proofs.YtidnaednldcdfaaGreatDoor
open Go.RowKit

set_option maxRecDepth 100000 in
theorem rWords_c (o : Ob.Obj) (A : Option Addr) (c : Nat) (w : World) (h1 : o.f.length ≤ 300) (h2 : o.b.size ≤ 2000) : Calls Tryz.prog 59 #[.agg #[.int .i64 o.cls, .int .i64 o.lev, .slice A o.f.length c, .string o.b]] w fun e w' => e = .returned (.int .i64 ((Hp.words o : Nat) : Int)) ∧ Grew w w' := by
  obtain ⟨cls, lev, f, b⟩ := o
  unfold Hp.words
  simp only at h1 h2 ⊢
  obtain ⟨m, em⟩ : ∃ m, m = f.length := ⟨_, rfl⟩
  rw [← em] at h1 ⊢
  have B1 := Blk.new w 58 #[.int .i64 cls, .int .i64 lev, .slice A m c, .string b]
  have G1 := (Grew.refl w).alloc (.cells #[.int .i64 cls, .int .i64 lev, .slice A m c, .string b] 58)
  clear em
  obtain ⟨k, ek⟩ : ∃ k, k = b.size := ⟨_, rfl⟩
  rw [← ek] at h2
  have HQ := hid (show ((2 + 2 * m + (b.size + 7) / 8 : Nat) : Int) = 2 + 2 * (m : Int) + ((b.size : Int) + 7) / 8 by omega)
  go_enter Tryz.func59, Tryz.ntmps59
  go_upto_region 1 with fail
  generalize w.alloc (.cells #[.int .i64 cls, .int .i64 lev, .slice A m c, .string b] 58) = w1 at *
  generalize w.heap.size = g at *
  have q2 := B1.cell 2
  have q3 := B1.cell 3
  have ql := B1.lt
  simp only [List.getElem?_toArray, List.getElem?_cons_zero, List.getElem?_cons_succ] at q2 q3
  have HB := hid B1
  have HG := hid G1
  clear B1 G1
  go_wp2_with fail
  go_ret
  refine ⟨?_, HG.out⟩
  rw [HQ.out]
  rfl
set_option maxRecDepth 100000 in
set_option maxHeartbeats 4000000 in
theorem rUsed_c (r : RV) (v : Int) (w : World) (h : ItemsAt w r.I r.its) (hS : Small (ivI r.its)) : Calls Tryz.prog 27 #[.agg (rvC r), .int .i64 v] w fun e w' => e = .returned (.int .i64 ((rused (ivI r.its) v : Nat) : Int)) ∧ Grew w w' := by
  unfold rvC
  obtain ⟨U, cu, up, room, Q, cq, q, I, ci, its, C, cc, cn⟩ := r
  simp only at h hS ⊢
  generalize up.length = un
  generalize q.length = qn
  generalize cn.length = kn
  obtain ⟨n, en⟩ : ∃ n, n = its.length := ⟨_, rfl⟩
  rw [← en]
  have EN := hid en
  have HI := hid h
  have HS := hid hS
  have hn : n ≤ 100000 := by have := hS.1; rw [ivI_len] at this; omega
  clear h hS en
  have B1 := Blk.new w 53 #[.slice U un cu, .int .i64 room, .slice Q qn cq, .slice I n ci, .slice C kn cc]
  have G1 := (Grew.refl w).alloc (.cells #[.slice U un cu, .int .i64 room, .slice Q qn cq, .slice I n ci, .slice C kn cc] 53)
  go_enter Tryz.func27, Tryz.ntmps27
  go_upto_region 1 with fail
  generalize w.alloc (.cells #[.slice U un cu, .int .i64 room, .slice Q qn cq, .slice I n ci, .slice C kn cc] 53) = w1 at *
  generalize w.heap.size = g at *
  have HB := hid B1
  have HG := hid G1
  clear B1 G1
  go_wp2_with fail
  go_loopw [5, 6] (fun s5 s6 wr => ∃ (i t : Nat), s6 = .int .i64 ((i : Nat) : Int) ∧ i ≤ n ∧ s5 = .int .i64 ((t : Nat) : Int) ∧ t ≤ 74000000 ∧ Hid (t = rused ((ivI its).take i) v) ∧ Hid (Grew w1 wr)) (fun _ s6 _ => n - (intOf s6).toNat)
  case atStart => exact ⟨0, 0, rfl, Nat.zero_le _, rfl, Nat.zero_le _, hid rfl, hid (Grew.refl _)⟩
  case round =>
    obtain ⟨i, t, rfl, hi, rfl, ht, HT, HW⟩ := hrel
    have HBr := hid (HB.out.grew HW.out)
    have p3 := HBr.out.cell 3
    have pl := HBr.out.lt
    simp only [List.getElem?_toArray, List.getElem?_cons_zero, List.getElem?_cons_succ] at p3
    by_cases hlt : i < n
    · have f1 : (i : Int) < (n : Int) := by omega
      obtain ⟨ad, x, rfl, hx, hcl, hb, hok, -, -⟩ := iv_at HI.out (HG.out.trans HW.out) (i := i) (by rw [← EN.out]; exact hlt)
      have HNx := hid (rused_next (v := v) (ivI_at hx))
      have HWd := hid (fun W => rWords_c x.o x.A x.c W (HS.out.2 ⟨x.i, x.h, x.o⟩ (List.mem_of_getElem? (ivI_at hx))).1 (by have := (HS.out.2 ⟨x.i, x.h, x.o⟩ (List.mem_of_getElem? (ivI_at hx))).2; simp only at this; omega))
      have hw7 : Hp.words x.o ≤ 740 := HS.out.words (List.mem_of_getElem? (ivI_at hx))
      have ht2 := HS.out.used v (i + 1)
      have q2 := hcl 2 _ rfl
      have q3 := hcl 3 _ rfl
      have q4 := hcl 4 _ rfl
      have q5 := hcl 5 _ rfl
      rw [add_pos (by decide), block_add] at q2 q3 q4 q5
      clear hx hcl hok
      obtain ⟨xi, xh, o, xA, xc⟩ := x
      simp only at q2 q3 q4 q5 HWd hw7 HNx
      have HUb : Hid (uB v ⟨xi, xh, o⟩ = (decide (v < 0) || decide (o.lev = v))) := hid rfl
      rw [HUb.out] at HNx
      obtain ⟨wd, ewd⟩ : ∃ wd, wd = Hp.words o := ⟨_, rfl⟩
      rw [← ewd] at HWd hw7 HNx
      obtain ⟨cls, lev, f, b⟩ := o
      simp only at q2 q3 q4 q5 HWd HNx
      generalize f.length = m at *
      clear ewd HUb
      by_cases c1 : v < 0
      · rw [decide_eq_true c1, Bool.true_or, if_pos rfl, ← HT.out] at HNx
        have ht3 : t + wd ≤ 74000000 := by rw [← HNx.out]; exact ht2
        clear ht2
        go_upto_region 6 with fail
        go_wp2_with (go_at_call 59; refine (HWd.out wr).mono ?_; rintro e w2 ⟨rfl, hg2⟩)
        go_round
        case rel => exact ⟨i + 1, t + wd, by go_num, by omega, by go_num, ht3, hid HNx.out.symm, hid (HW.out.trans hg2)⟩
        case measure => simp [intOf]; omega
      · rw [decide_eq_false c1, Bool.false_or] at HNx
        by_cases c2 : lev = v
        · rw [decide_eq_true c2, if_pos rfl, ← HT.out] at HNx
          have ht3 : t + wd ≤ 74000000 := by rw [← HNx.out]; exact ht2
          have hb1 : (lev == v) = true := by rw [beq_iff_eq]; exact c2
          clear ht2 c2
          go_upto_region 6 with fail
          go_wp2_with (go_at_call 59; refine (HWd.out wr).mono ?_; rintro e w2 ⟨rfl, hg2⟩)
          go_round
          case rel => exact ⟨i + 1, t + wd, by go_num, by omega, by go_num, ht3, hid HNx.out.symm, hid (HW.out.trans hg2)⟩
          case measure => simp [intOf]; omega
        · rw [decide_eq_false c2, if_neg (by decide), Nat.add_zero, ← HT.out] at HNx
          have hb1 : (lev == v) = false := by rw [beq_eq_false_iff_ne]; exact c2
          clear ht2 c2
          go_wp2_with fail
          go_round
          case rel => exact ⟨i + 1, t, by go_num, by omega, rfl, ht, hid HNx.out.symm, HW⟩
          case measure => simp [intOf]; omega
    · have hin : i = n := by omega
      subst hin
      have HE := hid (show t = rused (ivI its) v by rw [HT.out, List.take_of_length_le (by rw [ivI_len, ← EN.out]; exact Nat.le_refl _)])
      go_wp2_with fail
      go_ret
      exact ⟨by rw [HE.out]; rfl, HG.out.trans HW.out⟩
set_option maxRecDepth 100000 in
set_option maxHeartbeats 4000000 in
theorem rOver_c (r : RV) (w : World) (hr : RvAt w r) (hS : Small (ivI r.its)) (qf : Nat → Int) (hq : r.q = cntL r.up.length qf) : Calls Tryz.prog 55 #[.agg (rvC r)] w fun e w' => e = .returned (.bool (!fitsAll r.up.length (ivI r.its) r.room qf)) ∧ Grew w w' := by
  have HUs := hid (fun (v : Int) W (hW : Grew w W) => rUsed_c r v W (hr.its.grew hW) hS)
  have HQ := hid hr.q
  have hU20 := hr.len
  have hql := hr.ql
  obtain ⟨R, eR⟩ : ∃ R, R = fitsAll r.up.length (ivI r.its) r.room qf := ⟨_, rfl⟩
  have ER := hid eR
  have HL := hid (fun (h : ∀ j, j < r.up.length → (Hp.used (ivI r.its) (j : Int) : Int) ≤ qf j) => show R = decide ((Hp.all (ivI r.its) : Int) ≤ r.room) from eR.trans (fits_loop h))
  have HO := hid (fun j (hj : j < r.up.length) (h : qf j < (Hp.used (ivI r.its) (j : Int) : Int)) => show R = false from eR.trans (fits_over hj h))
  have HA := hid (rused_neg (ivI r.its) (v := -1) (by decide))
  have HN := hid (fun (j : Nat) => rused_nat (ivI r.its) (v := (j : Int)) (by omega))
  have HQv := hid (show ∀ j, j < r.up.length → r.q[j]? = some (qf j) from fun j hj => by rw [hq]; exact cntL_at hj)
  rw [← eR]
  unfold rvC at HUs ⊢
  obtain ⟨U, cu, up, room, Q, cq, q, I, ci, its, C, cc, cn⟩ := r
  simp only at HUs HQ hU20 HL HO HA HN HQv hql ⊢
  obtain ⟨un, eun⟩ : ∃ un, un = up.length := ⟨_, rfl⟩
  rw [← eun] at HUs hU20 HL HO HQv hql ⊢
  rw [hql] at HUs ⊢
  have HQl := hid hql
  generalize its.length = n at *
  generalize cn.length = kn at *
  generalize ivI its = L at *
  clear eun hq hr hS ER eR hql
  have B1 := Blk.new w 53 #[.slice U un cu, .int .i64 room, .slice Q un cq, .slice I n ci, .slice C kn cc]
  have G1 := (Grew.refl w).alloc (.cells #[.slice U un cu, .int .i64 room, .slice Q un cq, .slice I n ci, .slice C kn cc] 53)
  go_enter Tryz.func55, Tryz.ntmps55
  go_upto_region 1 with fail
  generalize w.alloc (.cells #[.slice U un cu, .int .i64 room, .slice Q un cq, .slice I n ci, .slice C kn cc] 53) = w1 at *
  generalize w.heap.size = g at *
  have HB := hid B1
  have HG := hid G1
  clear B1 G1
  go_wp2_with fail
  go_loopw [3] (fun s3 wr => ∃ (i : Nat), s3 = .int .i64 ((i : Nat) : Int) ∧ i ≤ un ∧ Hid (∀ j, j < i → (Hp.used L (j : Int) : Int) ≤ qf j) ∧ Hid (Grew w1 wr)) (fun s3 _ => un - (intOf s3).toNat)
  case atStart => exact ⟨0, rfl, Nat.zero_le _, hid (fun j hj => absurd hj (Nat.not_lt_zero _)), hid (Grew.refl _)⟩
  case round =>
    obtain ⟨i, rfl, hi, HJ, HW⟩ := hrel
    have HBr := hid (HB.out.grew HW.out)
    have p0 := HBr.out.cell 0
    have p1 := HBr.out.cell 1
    have p2 := HBr.out.cell 2
    have p3 := HBr.out.cell 3
    have p4 := HBr.out.cell 4
    have pl := HBr.out.lt
    simp only [List.getElem?_toArray, List.getElem?_cons_zero, List.getElem?_cons_succ] at p0 p1 p2 p3 p4
    have Q0 := fun (y : After wr) => (HBr.out.grew y.grew).cell 0
    have Q1 := fun (y : After wr) => (HBr.out.grew y.grew).cell 1
    have Q2 := fun (y : After wr) => (HBr.out.grew y.grew).cell 2
    have Q3 := fun (y : After wr) => (HBr.out.grew y.grew).cell 3
    have Q4 := fun (y : After wr) => (HBr.out.grew y.grew).cell 4
    have QL := fun (y : After wr) => (HBr.out.grew y.grew).lt
    simp only [List.getElem?_toArray, List.getElem?_cons_zero, List.getElem?_cons_succ] at Q0 Q1 Q2 Q3 Q4
    by_cases hlt : i < un
    · have f1 : (i : Int) < (un : Int) := by omega
      obtain ⟨ad, x, rfl, hx, q0, hb⟩ := int_at HQ.out (HG.out.trans HW.out) (i := i) (by rw [HQl.out]; exact hlt)
      obtain rfl : x = qf i := by have := HQv.out i hlt; rw [hx] at this; exact Option.some.inj this
      have HUi := hid (fun W (hW : Grew w W) => HUs.out (i : Int) W hW)
      rw [HN.out i] at HUi
      have HJn := hid (fun (h : (Hp.used L (i : Int) : Int) ≤ qf i) j (hj : j < i + 1) => show (Hp.used L (j : Int) : Int) ≤ qf j from (by
        rcases Nat.lt_or_ge j i with h1 | h1
        · exact HJ.out j h1
        · obtain rfl : j = i := by omega
          exact h))
      have HOi := hid (HO.out i hlt)
      obtain ⟨us, eus⟩ : ∃ us, us = Hp.used L (i : Int) := ⟨_, rfl⟩
      rw [← eus] at HUi HJn HOi
      obtain ⟨qi, eqi⟩ : ∃ qi, qi = qf i := ⟨_, rfl⟩
      rw [← eqi] at q0 HJn HOi
      clear hx eus eqi
      have Q9 := fun (y : After wr) => (y.cell (ad.add i) (by rw [block_add]; exact hb)).trans q0
      have Q8 := fun (y : After wr) => y.lt _ hb
      go_upto_region 4 with fail
      refine wp_region_grew_from (w0 := wr) (Grew.refl wr) (by kernel_rfl) (by kernel_rfl) ?_
      by_cases c1 : qi < (us : Int)
      · have HE := hid (HOi.out c1)
        repeat (go_big_quiet_step ((go_at_call 27; exact Calls.grew (After.grew _) (HUi.out _ ((HG.out.trans HW.out).trans (After.grew _))))))
        refine wpQuiet_nil ?_
        rintro _ ⟨y, rfl⟩
        clear Q0 Q1 Q2 Q3 Q4 QL Q9 Q8
        go_wp2_with fail
        go_ret
        exact ⟨by rw [HE.out]; rfl, (HG.out.trans HW.out).trans y.grew⟩
      · have HE := hid (HJn.out (by omega))
        repeat (go_big_quiet_step ((go_at_call 27; exact Calls.grew (After.grew _) (HUi.out _ ((HG.out.trans HW.out).trans (After.grew _))))))
        refine wpQuiet_nil ?_
        rintro _ ⟨y, rfl⟩
        clear Q0 Q1 Q2 Q3 Q4 QL Q9 Q8
        go_wp2_with fail
        go_round
        case rel => exact ⟨i + 1, by go_num, by omega, HE, hid (HW.out.trans y.grew)⟩
        case measure => simp [intOf]; omega
    · have hin : i = un := by omega
      subst hin
      have HE := hid (HL.out HJ.out)
      have HUi := hid (fun W (hW : Grew w W) => HUs.out (-1) W hW)
      rw [HA.out] at HUi
      obtain ⟨us, eus⟩ : ∃ us, us = Hp.all L := ⟨_, rfl⟩
      rw [← eus] at HUi HE
      clear eus
      go_upto_region 6 with fail
      refine wp_region_grew_from (w0 := wr) (Grew.refl wr) (by kernel_rfl) (by kernel_rfl) ?_
      by_cases c1 : (us : Int) ≤ room
      · have HF := hid (show R = true by rw [HE.out, decide_eq_true c1])
        have c2 : ¬ room < (us : Int) := by omega
        repeat (go_big_quiet_step ((go_at_call 27; exact Calls.grew (After.grew _) (HUi.out _ ((HG.out.trans HW.out).trans (After.grew _))))))
        refine wpQuiet_nil ?_
        rintro _ ⟨y, rfl⟩
        clear Q0 Q1 Q2 Q3 Q4 QL
        go_wp2_with fail
        go_ret
        exact ⟨by rw [HF.out]; rfl, (HG.out.trans HW.out).trans y.grew⟩
      · have HF := hid (show R = false by rw [HE.out, decide_eq_false c1])
        have c2 : room < (us : Int) := by omega
        repeat (go_big_quiet_step ((go_at_call 27; exact Calls.grew (After.grew _) (HUi.out _ ((HG.out.trans HW.out).trans (After.grew _))))))
        refine wpQuiet_nil ?_
        rintro _ ⟨y, rfl⟩
        clear Q0 Q1 Q2 Q3 Q4 QL
        go_wp2_with fail
        go_ret
        exact ⟨by rw [HF.out]; rfl, (HG.out.trans HW.out).trans y.grew⟩
end Go.Proofs.YtidnaednldcdfaaGreatDoor

/- Stage 11: the reference's May and Hash. -/
import Derived.Test.YtcfknfiddadgbaaDoorOcF
namespace Go.Proofs.YtcfknfiddadgbaaDoor
open Go.RowKit

set_option maxRecDepth 100000 in
set_option maxHeartbeats 4000000 in
theorem rmayO_c (n : Nat) (v : OV) (w : World) (h : OvOk w v) (hl : v.o.f.length ≤ 1000) : Calls Tryd.prog 16 #[.int .i64 ((n : Nat) : Int), .agg #[.int .i64 v.o.cls, .int .i64 v.o.lev, .slice v.A v.o.f.length v.c, .string v.o.b]] w fun e w' => e = .returned (.bool (Ob.mayB n v.o)) ∧ Grew w w' := by
  obtain ⟨R, hR⟩ : ∃ R, R = Ob.mayB n v.o := ⟨_, rfl⟩
  rw [← hR]
  unfold Ob.mayB Ob.headB Ob.inB at hR
  obtain ⟨⟨cls, lev, f, b⟩, A, c⟩ := v
  have HF := hid h.f
  simp only at hR HF hl ⊢
  obtain ⟨m, em⟩ : ∃ m, m = f.length := ⟨_, rfl⟩
  rw [← em] at hR hl ⊢
  have EM := hid em
  have ER := hid hR
  clear hR h em
  have B1 := Blk.new w 52 #[.int .i64 cls, .int .i64 lev, .slice A m c, .string b]
  have G1 := (Grew.refl w).alloc (.cells #[.int .i64 cls, .int .i64 lev, .slice A m c, .string b] 52)
  go_enter Tryd.func16, Tryd.ntmps16
  go_upto_region 1 with fail
  generalize w.alloc (.cells #[.int .i64 cls, .int .i64 lev, .slice A m c, .string b] 52) = w1 at *
  generalize w.heap.size = g at *
  have q0 := B1.cell 0
  have q1 := B1.cell 1
  have q2 := B1.cell 2
  have q3 := B1.cell 3
  have ql := B1.lt
  simp only [List.getElem?_toArray, List.getElem?_cons_zero, List.getElem?_cons_succ] at q0 q1 q2 q3
  have HB := hid B1
  have HG := hid G1
  clear B1 G1
  by_cases a1 : 0 ≤ cls
  · have d1 : ¬ cls < 0 := by omega
    by_cases a2 : cls < 64
    · have d2 : ¬ (63 : Int) < cls := by omega
      by_cases a3 : 0 ≤ lev
      · have d3 : ¬ lev < 0 := by omega
        by_cases a4 : lev < n
        · have d4 : ¬ (n : Int) ≤ lev := by omega
          by_cases a5 : m ≤ 256
          · have d5 : ¬ (256 : Int) < (m : Int) := by omega
            by_cases a6 : b.size ≤ 1024
            · have d6 : ¬ (1024 : Int) < ((b.size : Nat) : Int) := by omega
              by_cases a7 : m = 0
              · have HE := hid (show R = true by
                  have hn : f = [] := List.eq_nil_of_length_eq_zero (by rw [← EM.out]; exact a7)
                  rw [ER.out, decide_eq_true a1, decide_eq_true a2, decide_eq_true a3, decide_eq_true a4, decide_eq_true a5, decide_eq_true a6, decide_eq_true a7, hn]; rfl)
                have d7 : ¬ (0 : Int) < (m : Int) := by omega
                have d8 : (m : Int) ≤ 0 := by omega
                clear ER a1 a2 a3 a4 a5 a6 EM HF
                subst a7
                go_upto_region 4 with fail
                go_loopw [5] (fun s5 wr => s5 = .int .i64 0 ∧ wr = w1) (fun _ _ => 0)
                case atStart => exact ⟨rfl, rfl⟩
                case round =>
                  obtain ⟨rfl, rfl⟩ := hrel
                  go_wp2_with fail
                  go_ret
                  exact ⟨by rw [HE.out]; rfl, HG.out⟩
              · by_cases a8 : b.size = 0
                · have HR := hid (show R = f.all (Ob.valueB n) by
                    rw [ER.out, decide_eq_true a1, decide_eq_true a2, decide_eq_true a3, decide_eq_true a4, decide_eq_true a5, decide_eq_true a6, decide_eq_false a7, decide_eq_true a8]; rfl)
                  have d7 : (0 : Int) < (m : Int) := by omega
                  have d8 : ¬ (0 : Int) < ((b.size : Nat) : Int) := by omega
                  clear ER a1 a2 a3 a4 a6 a7 a8
                  go_upto_region 4 with fail
                  go_loopw [5] (fun s5 wr => ∃ i : Nat, s5 = .int .i64 ((i : Nat) : Int) ∧ i ≤ m ∧ Hid ((f.take i).all (Ob.valueB n) = true) ∧ Hid (Grew w1 wr)) (fun s5 _ => m - (intOf s5).toNat)
                  case atStart => exact ⟨0, rfl, Nat.zero_le _, hid (by simp), hid (Grew.refl _)⟩
                  case round =>
                    obtain ⟨i, rfl, hi, HI, HW⟩ := hrel
                    have HBr := hid (HB.out.grew HW.out)
                    have p2 := HBr.out.cell 2
                    have pl := HBr.out.lt
                    simp only [List.getElem?_toArray, List.getElem?_cons_zero, List.getElem?_cons_succ] at p2
                    clear q0 q1 q2 q3 ql
                    by_cases hlt : i < m
                    · have f1 : (i : Int) < m := by omega
                      obtain ⟨ad, x, rfl, hx, r0, r1, r2, hb, _⟩ := val_at HF.out (HG.out.trans HW.out) (i := i) (by rw [← EM.out]; exact hlt)
                      have HV := hid (rvalue_c n x wr)
                      have HT := hid (show (f.take (i + 1)).all (Ob.valueB n) = Ob.valueB n x by
                        rw [List.take_add_one, hx, List.all_append, HI.out]; simp)
                      have HX := hid (fun (hf : Ob.valueB n x = false) => show R = false by
                        rw [HR.out]
                        cases hall : f.all (Ob.valueB n)
                        · rfl
                        · have := List.all_eq_true.1 hall x (List.mem_of_getElem? hx)
                          rw [hf] at this
                          cases this)
                      generalize Ob.valueB n x = bx at *
                      clear hx
                      obtain ⟨vk, vz, vl⟩ := x
                      simp only at r0 r1 r2 HV
                      cases bx
                      · have HE := hid (HX.out rfl)
                        go_wp2_with (go_at_call 20; refine HV.out.mono ?_; rintro e w2 ⟨rfl, hg2⟩)
                        go_ret
                        exact ⟨by rw [HE.out]; rfl, (HG.out.trans HW.out).trans hg2⟩
                      · go_wp2_with (go_at_call 20; refine HV.out.mono ?_; rintro e w2 ⟨rfl, hg2⟩)
                        go_round
                        case rel => exact ⟨i + 1, by go_num, by omega, HT, hid (HW.out.trans hg2)⟩
                        case measure => simp [intOf]; omega
                    · have hin : i = m := by omega
                      subst hin
                      have HE := hid (show R = true by
                        have := HI.out
                        rw [EM.out, List.take_length] at this
                        rw [HR.out, this])
                      go_wp2_with fail
                      go_ret
                      exact ⟨by rw [HE.out]; rfl, HG.out.trans HW.out⟩
                · have HE := hid (show R = false by
                    rw [ER.out, decide_eq_false a7, decide_eq_false a8]; simp)
                  have d7 : (0 : Int) < (m : Int) := by omega
                  have d8 : (0 : Int) < ((b.size : Nat) : Int) := by omega
                  clear ER a1 a2 a3 a4 a6 a7 a8
                  go_wp2_with fail
                  go_ret
                  exact ⟨by rw [HE.out]; rfl, HG.out⟩
            · have d6 : (1024 : Int) < ((b.size : Nat) : Int) := by omega
              have HE := hid (show R = false by rw [ER.out, decide_eq_false a6]; simp)
              clear ER
              go_wp2_with fail
              go_ret
              exact ⟨by rw [HE.out]; rfl, HG.out⟩
          · have d5 : (256 : Int) < (m : Int) := by omega
            have HE := hid (show R = false by rw [ER.out, decide_eq_false a5]; simp)
            clear ER
            go_wp2_with fail
            go_ret
            exact ⟨by rw [HE.out]; rfl, HG.out⟩
        · have d4 : (n : Int) ≤ lev := by omega
          have HE := hid (show R = false by rw [ER.out, decide_eq_false a4]; simp)
          clear ER
          go_wp2_with fail
          go_ret
          exact ⟨by rw [HE.out]; rfl, HG.out⟩
      · have d3 : lev < 0 := by omega
        have HE := hid (show R = false by rw [ER.out, decide_eq_false a3]; simp)
        clear ER
        go_wp2_with fail
        go_ret
        exact ⟨by rw [HE.out]; rfl, HG.out⟩
    · have d2 : (63 : Int) < cls := by omega
      have HE := hid (show R = false by rw [ER.out, decide_eq_false a2]; simp)
      clear ER
      go_wp2_with fail
      go_ret
      exact ⟨by rw [HE.out]; rfl, HG.out⟩
  · have d1 : cls < 0 := by omega
    have HE := hid (show R = false by rw [ER.out, decide_eq_false a1]; simp)
    clear ER
    go_wp2_with fail
    go_ret
    exact ⟨by rw [HE.out]; rfl, HG.out⟩
set_option maxRecDepth 100000 in
set_option maxHeartbeats 4000000 in
theorem rhash_c (A : Option Addr) (c : Nat) (l : List OV) (i : Nat) (w : World) (h : ObjsAt w A l) (hl : l.length ≤ 1000) (hi : i < l.length) : Calls Tryd.prog 24 #[.slice A l.length c, .int .i64 ((i : Nat) : Int)] w fun e w' => e = .returned (.int .i64 ((Ob.hash (objs l) i : Nat) : Int)) ∧ Grew w w' := by
  obtain ⟨n, en⟩ : ∃ n, n = l.length := ⟨_, rfl⟩
  obtain ⟨ad, v, rfl, hv, _, q1, _, _, hb, _⟩ := ov_get h (Grew.refl w) hi
  have HA := hid h
  have HH := hid (Ob.hash_zero_level (objs_at hv))
  obtain ⟨R, hR⟩ : ∃ R, R = Ob.hash (objs l) i := ⟨_, rfl⟩
  rw [← hR] at HH ⊢
  rw [← en] at hl hi ⊢
  have EN := hid en
  have HQ := hid q1
  clear h en hR hv q1
  obtain ⟨lev, elev⟩ : ∃ lev, lev = v.o.lev := ⟨_, rfl⟩
  rw [← elev] at HH HQ
  clear elev
  have f0 : (i : Int) < n := by omega
  go_enter Tryd.func24, Tryd.ntmps24
  go_wp2_with fail
  go_loopw [5, 6] (fun s5 s6 wr => ∃ (k t : Nat), s6 = .int .i64 ((k : Nat) : Int) ∧ s5 = .int .i64 ((t : Nat) : Int) ∧ k ≤ i ∧ t ≤ k ∧ Hid (t = Ob.cnt ((objs l).take k) lev) ∧ Hid (Grew w wr)) (fun _ s6 _ => i - (intOf s6).toNat)
  case atStart => exact ⟨0, 0, rfl, rfl, Nat.zero_le _, Nat.zero_le _, hid (by simp [Ob.cnt]), hid (Grew.refl _)⟩
  case round =>
    obtain ⟨k, t, rfl, rfl, hk, ht, HK, HG⟩ := hrel
    by_cases hlt : k < i
    · have f1 : (k : Int) < i := by omega
      have f2 : (k : Int) < n := by omega
      obtain ⟨ad', x, e', hx, _, r1, _, _, hb2, _⟩ := ov_get HA.out HG.out (i := k) (by rw [← EN.out]; omega)
      cases e'
      have HC : Hid (Ob.cnt ((objs l).take (k + 1)) lev = t + if x.o.lev = lev then 1 else 0) := hid (by
        rw [List.take_add_one, objs_at hx, Option.toList_some, Ob.cnt_snoc, ← HK.out])
      obtain ⟨xl, exl⟩ : ∃ xl, xl = x.o.lev := ⟨_, rfl⟩
      rw [← exl] at r1 HC
      clear exl hx
      have s1 := fun (y : After wr) => ((HG.out.trans y.grew).below.cell (p := ⟨ad.block, (ad.add (i * 4)).off + 1, none⟩) hb).trans HQ.out
      have s2 := fun (y : After wr) => (y.cell ⟨ad.block, (ad.add (k * 4)).off + 1, none⟩ hb2).trans r1
      have s3 := fun (y : After wr) => y.lt _ hb2
      go_upto_region 5 with fail
      refine wp_region_grew_from (w0 := wr) (Grew.refl wr) (by kernel_rfl) (by kernel_rfl) ?_
      repeat (go_big_quiet_step (fail))
      refine wpQuiet_nil ?_
      rintro _ ⟨y, rfl⟩
      have HG2 := hid (HG.out.trans y.grew)
      by_cases hq : xl = lev
      · rw [if_pos hq] at HC
        have hb1 : (xl == lev) = true := by rw [beq_iff_eq]; exact hq
        clear hq
        go_wp2_with fail
        go_round
        case rel => exact ⟨k + 1, t + 1, by go_num, by go_num, by omega, by omega, hid HC.out.symm, HG2⟩
        case measure => simp [intOf]; omega
      · rw [if_neg hq, Nat.add_zero] at HC
        have hb1 : (xl == lev) = false := by rw [beq_eq_false_iff_ne]; exact hq
        clear hq
        go_wp2_with fail
        go_round
        case rel => exact ⟨k + 1, t, by go_num, rfl, by omega, by omega, hid HC.out.symm, HG2⟩
        case measure => simp [intOf]; omega
    · have hki : k = i := by omega
      subst hki
      have HE := hid (show t = R by rw [HK.out, HH.out])
      go_wp2_with fail
      go_ret
      exact ⟨by rw [← HE.out]; rfl, HG.out⟩
end Go.Proofs.YtcfknfiddadgbaaDoor

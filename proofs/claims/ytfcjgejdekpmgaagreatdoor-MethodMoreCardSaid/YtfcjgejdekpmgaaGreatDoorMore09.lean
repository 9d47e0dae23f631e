/- MethodMore: the law's walk. -/
import Derived.Test.YtfcjgejdekpmgaaGreatDoorMtU
import Derived.Test.YtfcjgejdekpmgaaGreatDoorMtX
namespace Go.Proofs.YtfcjgejdekpmgaaGreatDoor
open Go.RowKit

theorem u8_i64 {n : Nat} (h : n < 256) : IntKind.i64.wrap ((n : Nat) : Int) = ((n : Nat) : Int) := by unfold IntKind.wrap; simp [IntKind.bits, IntKind.signed]; omega
theorem add_i64 {n m : Nat} (h : n < 256) (h2 : m < 256) : IntKind.i64.wrap (((n : Nat) : Int) + ((m : Nat) : Int)) = ((n : Nat) : Int) + ((m : Nat) : Int) := by unfold IntKind.wrap; simp [IntKind.bits, IntKind.signed]; omega
def yes9 (w : World) (e : Ending) (w' : World) : Prop := e = .returned (.bool true) ∧ Grew w w'
set_option maxRecDepth 100000 in
set_option maxHeartbeats 4000000 in
theorem more_walk (v : MV) (p0 p1 q0 q1 : Nat) (hp0 : p0 < 256) (hp1 : p1 < 256) (hq0 : q0 < 256) (hq1 : q1 < 256) (w : World) (h : MethArg w v) (hh : HandleAt w) (hE : Env w) :
    Calls Tryz.prog 5 #[.agg (mvCells v), .agg #[.int .u8 ((p0 : Nat) : Int), .int .u8 ((p1 : Nat) : Int)], .agg #[.int .u8 ((q0 : Nat) : Int), .int .u8 ((q1 : Nat) : Int)]] w (yes9 w) := by
  have HS := hid (fun (w' : World) (hg : Grew w w') => sure9_c w' (hh.grew hg) (hE.grew hg))
  have HH := hid hh
  have HE := hid hE
  have HB := hid (fun (w' : World) (hg : Grew w w') => bigMethod_c v (tru (BigP v)) (tru_iff _) w' (h.grew hg))
  obtain ⟨W, hW⟩ : ∃ W, W = ((w.alloc (.cells (mvCells v) 25)).alloc (.cells #[.int .u8 ((p0 : Nat) : Int), .int .u8 ((p1 : Nat) : Int)] 53)).alloc (.cells #[.int .u8 ((q0 : Nat) : Int), .int .u8 ((q1 : Nat) : Int)] 53) := ⟨_, rfl⟩
  obtain ⟨G, hG⟩ : ∃ G, G = w.heap.size := ⟨_, rfl⟩
  have hg : Grew w W := by rw [hW]; exact (((Grew.refl w).alloc _).alloc _).alloc _
  have b0 : Blk W G 25 (mvCells v) := by
    rw [hW, hG]; exact (Blk.new w _ _).grew (((Grew.refl _).alloc _).alloc _)
  have b1 : Blk W (G + 1) 53 #[.int .u8 ((p0 : Nat) : Int), .int .u8 ((p1 : Nat) : Int)] := by
    have := Blk.new (w.alloc (.cells (mvCells v) 25)) 53 #[.int .u8 ((p0 : Nat) : Int), .int .u8 ((p1 : Nat) : Int)]
    rw [World.size_alloc] at this
    rw [hW, hG]; exact this.grew ((Grew.refl _).alloc _)
  have b2 : Blk W (G + 1 + 1) 53 #[.int .u8 ((q0 : Nat) : Int), .int .u8 ((q1 : Nat) : Int)] := by
    have := Blk.new ((w.alloc (.cells (mvCells v) 25)).alloc (.cells #[.int .u8 ((p0 : Nat) : Int), .int .u8 ((p1 : Nat) : Int)] 53)) 53 #[.int .u8 ((q0 : Nat) : Int), .int .u8 ((q1 : Nat) : Int)]
    rw [World.size_alloc, World.size_alloc] at this
    rw [hW, hG]; exact this
  have HG := hid hg
  have HG0 := hid hG
  have HB0 := hid b0
  have HB1 := hid b1
  have HB2 := hid b2
  have HFit := hid (fun hb => h.fit hb)
  have Hp0 := hid (u8_i64 hp0)
  have Hp1 := hid (u8_i64 hp1)
  have Hq0 := hid (u8_i64 hq0)
  have Hq1 := hid (u8_i64 hq1)
  have HA0 := hid (add_i64 hp0 hq0)
  have HA1 := hid (add_i64 hp1 hq1)
  have HGv := hid (fun (w' : World) (hg : Grew w w') (hb : ¬ BigP v) => giveMethod_c v w' ((h.fit hb).grew hg))
  clear h hh hE hg b0 b1 b2 hG
  have hbt : tru (BigP v) = true ↔ BigP v := tru_iff _
  generalize tru (BigP v) = bb at *
  unfold mvCells at HB HGv hW HB0 ⊢
  obtain ⟨sel, lits, A1, c1, vs, A2, c2⟩ := v
  simp only at HB HGv hW HB0 ⊢
  generalize lits.length = n1 at *
  generalize vs.length = n2 at *
  cases bb
  · have hnb : ¬ BigP ⟨sel, lits, A1, c1, vs, A2, c2⟩ := fun hc => by have := hbt.2 hc; cases this
    have HNb := hid hnb
    clear hnb hbt
    go_enter Tryz.func5, Tryz.ntmps5
    go_wp2_with fail
    rw [← hW, ← HG0.out]
    clear hW
    refine (HB.out _ HG.out).mono ?_
    rintro e w1 ⟨rfl, hg1⟩
    have HG1 := hid (HG.out.trans hg1)
    have m0 := (HB0.out.grew hg1).cell 0
    have m1 := (HB0.out.grew hg1).cell 1
    have m2 := (HB0.out.grew hg1).cell 2
    simp only [List.getElem?_toArray, List.getElem?_cons_zero, List.getElem?_cons_succ] at m0 m1 m2
    have HW1 := hid hg1
    clear hg1 HB
    go_wp2_with fail
    clear m0 m1 m2
    refine (HGv.out _ HG1.out HNb.out).mono ?_
    rintro e w2 ⟨u, rfl, hum, hma, hg2⟩
    have HW2 := hid ((HW1.out.trans hg2).alloc (.cells (mvCells u) 37))
    have HG2 := hid ((HG1.out.trans hg2).alloc (.cells (mvCells u) 37))
    have HBu := hid (Blk.new w2 37 (mvCells u))
    have HMa := hid (hma.grew ((Grew.refl w2).alloc (.cells (mvCells u) 37)))
    have HC1 := hid (fun (w' : World) (hg : Grew (w2.alloc (.cells (mvCells u) 37)) w') => check9_c u p0 p1 (tru (Mt.May u.m p0 p1)) (tru_iff _) w' (HMa.out.grew hg) (HE.out.grew (HG2.out.trans hg)))
    have HC2 := hid (fun (hM : Mt.May u.m p0 p1) (w' : World) (hg : Grew (w2.alloc (.cells (mvCells u) 37)) w') => check9_c u ((p0 : Int) + (q0 : Int)) ((p1 : Int) + (q1 : Int)) true ⟨fun _ => hM.more (by omega) (by omega), fun _ => rfl⟩ w' (HMa.out.grew hg) (HE.out.grew (HG2.out.trans hg)))
    have HSm := hid (fun (w' : World) (hg : Grew (w2.alloc (.cells (mvCells u) 37)) w') => same9_c u u w' (HMa.out.grew hg) (HMa.out.grew hg))
    have hbm : tru (Mt.May u.m p0 p1) = true ↔ Mt.May u.m p0 p1 := tru_iff _
    rw [decide_eq_true rfl] at HSm
    generalize tru (Mt.May u.m p0 p1) = bm at *
    unfold mvCells at *
    clear hum hma hg2 HGv HW1
    obtain ⟨us, ul, uA, uc, uv, uB, ud⟩ := u
    simp only at HC1 HC2 HSm HBu HW2 HG2 HMa ⊢
    generalize ul.length = l1 at *
    generalize uv.length = l2 at *
    go_wp2_with fail
    generalize w2.alloc (.cells #[.string us, .slice uA l1 uc, .slice uB l2 ud] 37) = w3 at *
    generalize w2.heap.size = g at *
    have dl : G + 1 < w3.heap.size := (HB1.out.grew HW2.out).lt
    have d0 := (HB1.out.grew HW2.out).cell 0
    have d1 := (HB1.out.grew HW2.out).cell 1
    simp only [List.getElem?_toArray, List.getElem?_cons_zero, List.getElem?_cons_succ] at d0 d1
    have z0 := Hp0.out
    have z1 := Hp1.out
    refine wp_region_grew_from (Grew.refl _) (by kernel_rfl) (by kernel_rfl) ?_
    repeat (go_big_quiet_step (fail))
    refine wpQuiet_nil ?_
    rintro _ ⟨y4, rfl⟩
    clear d0 d1 dl z0 z1
    have HY := hid y4.grew
    generalize y4.w = w4 at *
    have r0 := (HBu.out.grew HY.out).cell 0
    have r1 := (HBu.out.grew HY.out).cell 1
    have r2 := (HBu.out.grew HY.out).cell 2
    simp only [List.getElem?_toArray, List.getElem?_cons_zero, List.getElem?_cons_succ] at r0 r1 r2
    go_wp2_with fail
    clear r0 r1 r2
    refine (HC1.out _ HY.out).mono ?_
    rintro e w5 ⟨rfl, hg5⟩
    have HY5 := hid (HY.out.trans hg5)
    clear hg5 HC1
    cases bm
    · rw [show ckVal false = errVal 8 from rfl]
      have HN8 := hid (num_c 8 w5 (HH.out.grew (HG2.out.trans HY5.out)))
      rw [show errVal 8 = .iface 66 (.int .i64 8) from rfl] at HN8 ⊢
      go_wp2_with fail
      refine HN8.out.mono ?_
      rintro e w6 ⟨rfl, hg6⟩
      have HY6 := hid (HG2.out.trans (HY5.out.trans hg6))
      clear hg6 HN8
      go_wp2_with fail
      refine (HS.out _ HY6.out).mono ?_
      rintro e w7 ⟨rfl, hg7⟩
      have HY7 := hid (HY6.out.trans hg7)
      clear hg7
      go_wp2_with fail
      go_ret
      exact ⟨rfl, HY7.out⟩
    · rw [show ckVal true = .nilIface from rfl]
      have HC3 := hid (HC2.out (hbm.1 rfl))
      clear HC2 hbm
      have r0 := (HBu.out.grew HY5.out).cell 0
      have r1 := (HBu.out.grew HY5.out).cell 1
      have r2 := (HBu.out.grew HY5.out).cell 2
      have t0 := (HB2.out.grew (HW2.out.trans HY5.out)).cell 0
      have t1 := (HB2.out.grew (HW2.out.trans HY5.out)).cell 1
      simp only [List.getElem?_toArray, List.getElem?_cons_zero, List.getElem?_cons_succ] at r0 r1 r2 t0 t1
      have z0 := Hq0.out
      have z1 := Hq1.out
      have z2 := HA0.out
      have z3 := HA1.out
      go_wp2_with fail
      clear r0 r1 r2 t0 t1 z0 z1 z2 z3
      refine (HC3.out _ HY5.out).mono ?_
      rintro e w6 ⟨rfl, hg6⟩
      have HY6 := hid (HY5.out.trans hg6)
      rw [show ckVal true = .nilIface from rfl]
      clear hg6 HC3
      have r0 := (HBu.out.grew HY6.out).cell 0
      have r1 := (HBu.out.grew HY6.out).cell 1
      have r2 := (HBu.out.grew HY6.out).cell 2
      simp only [List.getElem?_toArray, List.getElem?_cons_zero, List.getElem?_cons_succ] at r0 r1 r2
      go_wp2_with fail
      clear r0 r1 r2
      refine (HSm.out _ HY6.out).mono ?_
      rintro e w7 ⟨rfl, hg7⟩
      have HY7 := hid (HG2.out.trans (HY6.out.trans hg7))
      clear hg7 HSm
      go_wp2_with fail
      refine (HS.out _ HY7.out).mono ?_
      rintro e w8 ⟨rfl, hg8⟩
      have HY8 := hid (HY7.out.trans hg8)
      clear hg8
      go_wp2_with fail
      go_ret
      exact ⟨rfl, HY8.out⟩
  · have hb' : BigP ⟨sel, lits, A1, c1, vs, A2, c2⟩ := hbt.1 rfl
    clear hbt HGv hb'
    go_enter Tryz.func5, Tryz.ntmps5
    go_wp2_with fail
    rw [← hW]
    clear hW
    refine (HB.out _ HG.out).mono ?_
    rintro e w1 ⟨rfl, hg1⟩
    have HG1 := hid (HG.out.trans hg1)
    clear hg1 HB
    go_wp2_with fail
    refine (HS.out _ HG1.out).mono ?_
    rintro e w2 ⟨rfl, hg2⟩
    have HG2 := hid (HG1.out.trans hg2)
    clear hg2
    go_wp2_with fail
    go_ret
    exact ⟨rfl, HG2.out⟩
end Go.Proofs.YtfcjgejdekpmgaaGreatDoor

/- SmallBack: for every two ints the law returns true, and nothing that was there is changed. Conditions: none of ours. -/
import Derived.Test.YtceldfnajemdkaaDoorSure02
import Derived.Deep.DeepCutAuto
namespace Go.Proofs.YtceldfnajemdkaaDoor
open Go.RowKit

theorem add_yes {a b : Int} (h : Sm.ok3 a b (a + b) = true) (w : World) : Calls Tryd.prog 8 #[.int .i64 a, .int .i64 b] w fun e w' => e = .returned (.tuple #[.int .i64 (a + b), .bool true]) ∧ w' = w := by
  have := add_c a b w
  rwa [Sm.val3_yes h, h] at this
theorem add_no {a b : Int} (h : Sm.ok3 a b (a + b) = false) (w : World) : Calls Tryd.prog 8 #[.int .i64 a, .int .i64 b] w fun e w' => e = .returned (.tuple #[.int .i64 0, .bool false]) ∧ w' = w := by
  have := add_c a b w
  rwa [Sm.val3_no h, h] at this
theorem sub_yes {a b : Int} (h : Sm.ok3 a b (a - b) = true) (w : World) : Calls Tryd.prog 10 #[.int .i64 a, .int .i64 b] w fun e w' => e = .returned (.tuple #[.int .i64 (a - b), .bool true]) ∧ w' = w := by
  have := sub_c a b w
  rwa [Sm.val3_yes h, h] at this
theorem mul_yes {a b : Int} (h : Sm.ok3 a b (a * b) = true) (w : World) : Calls Tryd.prog 12 #[.int .i64 a, .int .i64 b] w fun e w' => e = .returned (.tuple #[.int .i64 (a * b), .bool true]) ∧ w' = w := by
  have := mul_c a b w
  rwa [Sm.val3_yes h, h] at this
theorem mul_no {a b : Int} (h : Sm.ok3 a b (a * b) = false) (w : World) : Calls Tryd.prog 12 #[.int .i64 a, .int .i64 b] w fun e w' => e = .returned (.tuple #[.int .i64 0, .bool false]) ∧ w' = w := by
  have := mul_c a b w
  rwa [Sm.val3_no h, h] at this
/-- What was added is taken away again. -/
theorem sub_sum {a b : Int} (h : Sm.ok3 a b (a + b) = true) (w : World) : Calls Tryd.prog 10 #[.int .i64 (a + b), .int .i64 b] w fun e w' => e = .returned (.tuple #[.int .i64 a, .bool true]) ∧ w' = w := by
  obtain ⟨h1, h2, h3⟩ := Sm.ok3_iff.1 h
  have e : a + b - b = a := by omega
  have := sub_yes (a := a + b) (b := b) (Sm.ok3_iff.2 ⟨h3, h2, by rw [e]; exact h1⟩) w
  rwa [e] at this
/-- A product is divided again. -/
theorem div_prod {a b : Int} (h : Sm.ok3 a b (a * b) = true) (h0 : b ≠ 0) (w : World) : Calls Tryd.prog 14 #[.int .i64 (a * b), .int .i64 b] w fun e w' => e = .returned (.tuple #[.int .i64 a, .int .i64 0, .nilIface]) ∧ Grew w w' := by
  obtain ⟨h1, h2, h3⟩ := Sm.ok3_iff.1 h
  have e1 : (a * b).fdiv b = a := Int.mul_fdiv_cancel a h0
  have e2 : (a * b).fmod b = 0 := by
    have := Int.mul_fdiv_add_fmod (a * b) b
    rw [e1, Int.mul_comm b a] at this
    omega
  have e3 : Sm.divE (a * b) b = 0 := Sm.divE_of h3 h2 h0 (by rw [e1]; exact h1)
  have := div_c (a * b) b w
  rwa [show Sm.divQ (a * b) b = a from by simp [Sm.divQ, e3, e1], show Sm.divR (a * b) b = 0 from by simp [Sm.divR, e3, e2], e3, errVal_zero] at this
theorem tag_yes {n : Int} (h : Sm.fits n = true) (w : World) : Calls Tryd.prog 16 #[.int .i64 n] w fun e w' => e = .returned (.tuple #[.int .u64 (Sm.tagW n), .nilIface]) ∧ w' = w := by
  have := tag_c n w
  rwa [show Sm.tagE n = 0 from by simp [Sm.tagE, h], errVal_zero] at this
theorem tag_no {n : Int} (h : Sm.fits n = false) (w : World) : Calls Tryd.prog 16 #[.int .i64 n] w fun e w' => e = .returned (.tuple #[.int .u64 0, .iface 48 (.int .i64 3)]) ∧ w' = w := by
  have := tag_c n w
  rwa [show Sm.tagE n = 3 from by simp [Sm.tagE, h], show Sm.tagW n = 0 from by simp [Sm.tagW, h], show errVal 3 = .iface 48 (.int .i64 3) from rfl] at this
theorem of_tagged {n : Int} (h : Sm.fits n = true) (w : World) : Calls Tryd.prog 18 #[.int .u64 (Sm.tagW n)] w fun e w' => e = .returned (.tuple #[.int .i64 n, .nilIface]) ∧ w' = w := by
  obtain ⟨h1, h2, h3, h4⟩ := Sm.of_tag h
  have := of_c (Sm.tagW n) w h3 h4
  rwa [h2, show Sm.ofE (Sm.tagW n) = 0 from by simp [Sm.ofE, h1], errVal_zero] at this

/-- The errors' side of a quotient. -/
theorem div_err {a b : Int} {k : Nat} (h : Sm.divE a b = k) (hk : k ≠ 0) (w : World) : Calls Tryd.prog 14 #[.int .i64 a, .int .i64 b] w fun e w' => e = .returned (.tuple #[.int .i64 0, .int .i64 0, .iface 48 (.int .i64 k)]) ∧ Grew w w' := by
  have := div_c a b w
  rwa [h, show Sm.divQ a b = 0 from by simp [Sm.divQ, h, hk], show Sm.divR a b = 0 from by simp [Sm.divR, h, hk], show errVal k = .iface 48 (.int .i64 k) from by simp [errVal, hk]] at this
theorem div_yes {a b : Int} (h : Sm.divE a b = 0) (w : World) : Calls Tryd.prog 14 #[.int .i64 a, .int .i64 b] w fun e w' => e = .returned (.tuple #[.int .i64 (a.fdiv b), .int .i64 (a.fmod b), .nilIface]) ∧ Grew w w' := by
  have := div_c a b w
  rwa [h, show Sm.divQ a b = a.fdiv b from by simp [Sm.divQ, h], show Sm.divR a b = a.fmod b from by simp [Sm.divR, h], errVal_zero] at this


set_option maxRecDepth 100000 in
set_option maxHeartbeats 4000000 in
theorem back_walk (a b : Int) (w : World) (hg : HandleAt w) :
    Calls Tryd.prog 4 #[.int .i64 a, .int .i64 b] w fun e w' => e = .returned (.bool true) ∧ Grew w w' := by
  have Hg := hid hg
  clear hg
  go_enter Tryd.func4, Tryd.ntmps4
  go_upto_if 27 with (go_at_call 8; refine (add_c _ _ _).mono ?_; rintro e w ⟨rfl, rfl⟩)
  go_cut [5, 6] (fun _ _ wx => wx = w)
  case first =>
    cases hk : Sm.ok3 a b (a + b)
    · go_wp2_with fail
      go_meet
      case rel => rfl
    · have hv := Sm.val3_yes hk
      go_wp2_with (go_at_call 10; refine (sub_sum hk _).mono ?_; rintro e w ⟨rfl, rfl⟩)
      go_meet
      case rel => rfl
  case rest =>
    subst hcut
    go_upto_region 7 with (go_at_call 12; refine (mul_c _ _ _).mono ?_; rintro e w ⟨rfl, rfl⟩)
    go_cut [9, 10, 51] (fun s9 _ s51 wx => ∃ (c : Bool) (p : Int), s51 = .bool c ∧ s9 = .int .i64 p ∧ Hid (c = true → p = a * b ∧ Sm.ok3 a b (a * b) = true ∧ b ≠ 0) ∧ wx = w)
    case first =>
      cases hk : Sm.ok3 a b (a * b)
      · go_wp2_with fail
        go_meet
        case rel => exact ⟨false, _, rfl, rfl, hid (fun h => by cases h), rfl⟩
      · have hv := Sm.val3_yes hk
        by_cases h0 : b = 0
        · have e0 : (b != 0) = false := by simp [h0]
          go_wp2_with fail
          go_meet
          case rel => exact ⟨false, _, rfl, rfl, hid (fun h => by cases h), rfl⟩
        · have e0 : (b != 0) = true := by simp [h0]
          go_wp2_with fail
          go_meet
          case rel => exact ⟨true, _, rfl, rfl, hid (fun _ => ⟨hv, hk, h0⟩), rfl⟩
    case rest =>
      obtain ⟨c, p, rfl, rfl, hc, rfl⟩ := hcut
      go_upto_if 51 with fail
      go_cut [9, 10] (fun _ _ wx => Grew wc wx)
      case first =>
        cases c
        · go_wp2_with fail
          go_meet
          case rel => exact Grew.refl _
        · obtain ⟨rfl, hk, h0⟩ := hc.out rfl
          go_wp2_with (go_at_call 14; refine (div_prod hk h0 _).mono ?_; rintro e w ⟨rfl, y, rfl⟩)
          go_meet
          case rel => exact y.grew
      case rest =>
        obtain ⟨y, rfl⟩ := hcut
        have Hg2 := hid (Hg.out.grew y.grew)
        clear hc
        cases hf : Sm.fits a
        · have hE : Sm.divE a b = 3 := by simp [Sm.divE, hf]
          go_wp2_with (go_at_call 16; refine (tag_no hf _).mono ?_; rintro e w ⟨rfl, rfl⟩)
          refine (Calls.grew y.grew (div_err hE (by decide) _)).mono ?_
          rintro e w ⟨rfl, y2, rfl⟩
          go_wp2_with fail
          refine (Calls.grew y2.grew (sure_c _ (Hg.out.grew y2.grew))).mono ?_
          rintro e w ⟨rfl, y3, rfl⟩
          go_wp2_with fail
          go_ret
          exact ⟨rfl, y3.grew⟩
        · go_wp2_with (first
            | (go_at_call 16; refine (tag_yes hf _).mono ?_; rintro e w ⟨rfl, rfl⟩)
            | (go_at_call 18; refine (of_tagged hf _).mono ?_; rintro e w ⟨rfl, rfl⟩))
          by_cases hE : Sm.divE a b = 0
          · refine (Calls.grew y.grew (div_yes hE _)).mono ?_
            rintro e w ⟨rfl, y2, rfl⟩
            obtain ⟨ha, hb, h0, hq⟩ := Sm.divE_zero hE
            have hm := Sm.fmod_bd (a := a) h0
            have hd := Int.mul_fdiv_add_fmod a b
            have ba := Sm.fits_iff.1 ha
            have bb := Sm.fits_iff.1 hb
            rw [Int.mul_comm] at hd
            generalize a.fdiv b = q at *
            generalize a.fmod b = r at *
            have e1 : wrap64 (q * b) = a - r := by
              rw [wrap_fit (by omega)]; omega
            have e2 : (a - r + r == a) = true := by rw [beq_iff_eq]; omega
            clear hd hE ha hb hq
            rcases Int.lt_or_gt_of_ne h0 with hb0 | hb0
            · have f1 : decide (b < 0) = true := by simp; omega
              have f2 : decide (0 < b) = false := by simp; omega
              have hr : b < r ∧ r ≤ 0 := by
                rcases hm.2 with h | h
                · omega
                · rw [f1] at h
                  have : r < 0 := by simpa using h
                  omega
              clear hm
              by_cases hr0 : r = 0
              · subst hr0
                go_wp2_with fail
                refine (Calls.grew y2.grew (sure_c _ (Hg.out.grew y2.grew))).mono ?_
                rintro e w ⟨rfl, y3, rfl⟩
                go_wp2_with fail
                go_ret
                exact ⟨rfl, y3.grew⟩
              · have f3 : (r == 0) = false := by simpa using hr0
                have f4 : decide (r < 0) = true := by simp; omega
                go_wp2_with fail
                refine (Calls.grew y2.grew (sure_c _ (Hg.out.grew y2.grew))).mono ?_
                rintro e w ⟨rfl, y3, rfl⟩
                go_wp2_with fail
                go_ret
                exact ⟨rfl, y3.grew⟩
            · have f1 : decide (b < 0) = false := by simp; omega
              have f2 : decide (0 < b) = true := by simp; omega
              have hr : 0 ≤ r ∧ r < b := by
                rcases hm.2 with h | h
                · omega
                · rw [f1] at h
                  have : ¬ r < 0 := by simpa using h
                  omega
              clear hm
              by_cases hr0 : r = 0
              · subst hr0
                go_wp2_with fail
                refine (Calls.grew y2.grew (sure_c _ (Hg.out.grew y2.grew))).mono ?_
                rintro e w ⟨rfl, y3, rfl⟩
                go_wp2_with fail
                go_ret
                exact ⟨rfl, y3.grew⟩
              · have f3 : (r == 0) = false := by simpa using hr0
                have f4 : decide (r < 0) = false := by simp; omega
                go_wp2_with fail
                refine (Calls.grew y2.grew (sure_c _ (Hg.out.grew y2.grew))).mono ?_
                rintro e w ⟨rfl, y3, rfl⟩
                go_wp2_with fail
                go_ret
                exact ⟨rfl, y3.grew⟩
          · refine (Calls.grew y.grew (div_err rfl hE _)).mono ?_
            rintro e w ⟨rfl, y2, rfl⟩
            go_wp2_with fail
            refine (Calls.grew y2.grew (sure_c _ (Hg.out.grew y2.grew))).mono ?_
            rintro e w ⟨rfl, y3, rfl⟩
            go_wp2_with fail
            go_ret
            exact ⟨rfl, y3.grew⟩
end Go.Proofs.YtceldfnajemdkaaDoor

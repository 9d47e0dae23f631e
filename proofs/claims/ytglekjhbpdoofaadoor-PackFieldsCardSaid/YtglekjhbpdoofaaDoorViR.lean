/- The walks of the document's own numbers as bytes: Put. -/
import Derived.Test.YtglekjhbpdoofaaDoorVi4
namespace Go.Proofs.YtglekjhbpdoofaaDoor
open Go.RowKit

theorem int_congr {k : IntKind} {a b : Int} (h : a = b) : Value.int k a = .int k b := by rw [h]

theorem tmod_neg {m : Int} (h : m.tmod 128 < 0) : wrap64 (m.tmod 128 + 128) = m % 128 := by
  rw [Int.tmod_eq_emod] at h ⊢
  split at h
  · omega
  · rename_i h1
    rw [if_neg h1]
    unfold wrap64
    simp only [show ((128 : Int).natAbs : Int) = 128 from rfl] at *
    omega
theorem tmod_pos {m : Int} (h : 0 ≤ m.tmod 128) : m.tmod 128 = m % 128 := by
  rw [Int.tmod_eq_emod] at h ⊢
  split at h
  · rename_i h1
    rw [if_pos h1]; omega
  · simp only [show ((128 : Int).natAbs : Int) = 128 from rfl] at *
    omega
theorem quo_128 {m : Int} (h1 : -9223372036854775808 ≤ m) (h2 : m ≤ 9223372036854775807) : wrap64 ((wrap64 (m - m % 128)).tdiv 128) = m / 128 := by
  rw [wrap64_fit (n := m - m % 128) (by omega), show m - m % 128 = 128 * (m / 128) by omega, Int.mul_tdiv_cancel_left _ (by decide), wrap64_fit (by omega)]
theorem low_tests {m : Int} (h : -64 ≤ m ∧ m < 64) : (m / 128 = 0 ∧ m % 128 < 64) ∨ (m / 128 = -1 ∧ ¬ m % 128 < 64) := by omega
theorem high_tests {m : Int} (h : ¬ (-64 ≤ m ∧ m < 64)) : (m / 128 = 0 ∧ ¬ m % 128 < 64) ∨ (m / 128 = -1 ∧ m % 128 < 64) ∨ (m / 128 ≠ 0 ∧ m / 128 ≠ -1) := by omega

set_option maxRecDepth 100000 in
set_option maxHeartbeats 2000000 in
theorem rput_c (A : Option Addr) (c : Nat) (xs : List Nat) (n : Int) (w : World) (ha : NumsAt .u8 w w.heap.size A xs) (hn : Vi.I64 n) (hl : xs.length ≤ 1000000000000) :
    Calls Tryd.prog 30 #[.slice A xs.length c, .int .i64 n] w (PutPost w xs n) := by
  have HA := hid ha
  have HF := hid (Vi.fits_nine hn)
  obtain ⟨hn1, hn2⟩ := hn
  clear ha
  go_enter Tryd.func30, Tryd.ntmps30
  go_wp2_with (at_builtin; refine wpList_catM .u8 1 w w rfl _ _ 23 5 rfl Tryd.underlying23 v_u8 (Grew.refl _) _ _ [] rfl (OwnNums.nil _ _ _ _) A c xs rfl HA.out (by simp; omega) (by simp; omega) ?_; rintro A1 c1 M W2 HM hO2 hG2)
  have HM2 := hid (show M = xs by rw [HM.out]; rfl)
  clear HM
  go_loopg [1, 5, 6] 9 (fun gf s1 s5 s6 wx => ∃ (m : Int) (G : Option Addr) (h : Nat) (L : List Nat) (i : Nat), s1 = .int .i64 m ∧ s5 = .slice G L.length h ∧ s6 = .int .i64 ((i : Nat) : Int) ∧ OwnNums .u8 w wx 5 G h L ∧ Grew w wx ∧ -9223372036854775808 ≤ m ∧ m ≤ 9223372036854775807 ∧ L.length + gf ≤ xs.length + 9 ∧ i + gf = 9 ∧ Hid (xs ++ Vi.enc n = L ++ Vi.encF gf m ∧ Vi.Fits gf m))
  case atStart => exact ⟨n, A1, c1, M, 0, rfl, rfl, rfl, hO2, hG2, hn1, hn2, by rw [HM2.out]; omega, rfl, hid ⟨by rw [HM2.out]; rfl, HF.out⟩⟩
  case round =>
    clear hO2 hG2 HM2 HF hn1 hn2 HA
    obtain ⟨m, G, h, L, i, rfl, rfl, rfl, hown, hg, hm1, hm2, hL, hi, HE⟩ := hrel
    have f1 : (i : Int) < 10 := by omega
    have HI := hid hi
    clear hi
    go_upto_if 18 with (fail)
    go_cut [7] (fun s7 wx => s7 = .int .i64 (m % 128) ∧ wx = wr)
    case first =>
      by_cases hr : m.tmod 128 < 0
      · have HC := hid (tmod_neg hr)
        go_wp2_with fail
        go_meet
        case rel => exact ⟨int_congr HC.out, rfl⟩
      · have HC := hid (tmod_pos (m := m) (by omega))
        have hr' : 0 ≤ m.tmod 128 := by omega
        go_wp2_with fail
        go_meet
        case rel => exact ⟨int_congr HC.out, rfl⟩
    case rest =>
      obtain ⟨rfl, hw⟩ := hcut
      rw [hw]
      clear hw wc
      have HQ := hid (show (m - m % 128).tdiv 128 = m / 128 by rw [show m - m % 128 = 128 * (m / 128) by omega, Int.mul_tdiv_cancel_left _ (by decide)])
      go_upto_if 26 with (fail)
      go_cut [1, 7] (fun s1 s7 wx => s1 = .int .i64 (m / 128) ∧ s7 = .int .i64 (m % 128) ∧ wx = wr)
      case first =>
        by_cases h9 : i = 9
        · have h9' : ((i : Int) == 9) = true := by rw [h9]; rfl
          go_wp2_with fail
          go_meet
          case rel => exact ⟨int_congr HQ.out, int_congr (by omega), rfl⟩
        · have h9' : ((i : Int) == 9) = false := by rw [beq_eq_false_iff_ne]; omega
          go_wp2_with fail
          go_meet
          case rel => exact ⟨int_congr HQ.out, rfl, rfl⟩
      case rest =>
        obtain ⟨rfl, rfl, hw⟩ := hcut
        rw [hw]
        clear hw HQ
        by_cases hlow : -64 ≤ m ∧ m < 64
        · have HL := hid (Vi.encF_low gk hlow)
          have HP := hid (put_u8 (m := m) (x := m % 128) rfl)
          have HK := hid (low_tests hlow)
          clear hlow hm1 hm2
          generalize hq : m / 128 = q at *
          generalize hr : m % 128 = r at *
          clear hq hr
          rcases HK.out with ⟨rfl, hk⟩ | ⟨rfl, hk⟩
          all_goals
            try (have hk2 : 64 ≤ r := by omega)
            go_wp2_with (at_builtin; refine wpList_push .u8 1 w wr rfl _ _ 23 5 rfl Tryd.underlying23 v_u8 hg G h L rfl hown r.toNat _ rfl rfl _ (by exact congrArg _ HP.out) (by omega) (by omega) ?_; rintro A2 c2 W3 hO3 hG3)
            go_ret
            exact ⟨A2, c2, L ++ [r.toNat], by simp, hO3, by rw [HE.out.1, HL.out], hG3⟩
        · obtain ⟨gf, rfl⟩ : ∃ gf, gk = gf + 1 := by
            cases gk with
            | zero => exact absurd (Vi.fits_zero.1 HE.out.2) hlow
            | succ gf => exact ⟨gf, rfl⟩
          have HE2 := hid (show xs ++ Vi.enc n = (L ++ [(m % 128 + 128).toNat]) ++ Vi.encF gf (m / 128) ∧ Vi.Fits gf (m / 128) from ⟨by rw [HE.out.1, Vi.encF_high _ hlow, List.append_assoc]; rfl, Vi.fits_succ HE.out.2⟩)
          have HK := hid (high_tests hlow)
          have hq1 : -9223372036854775808 ≤ m / 128 := by omega
          have hq2 : m / 128 ≤ 9223372036854775807 := by omega
          have hr1 : 0 ≤ m % 128 := by omega
          have hr2 : m % 128 < 128 := by omega
          clear hlow hm1 hm2
          generalize hq : m / 128 = q at *
          generalize hr : m % 128 = r at *
          clear hq hr HE
          rcases HK.out with ⟨rfl, hk⟩ | ⟨rfl, hk⟩ | ⟨hk1, hk2⟩
          all_goals
            try (have k1 : (q == 0) = false := by simpa using hk1)
            try (have k2 : (q == -1) = false := by simpa using hk2)
            clear HK
            go_wp2_with (at_builtin; refine wpList_pushK .u8 1 w wr rfl _ _ 23 5 rfl Tryd.underlying23 v_u8 hg G h L rfl hown (r + 128).toNat _ rfl rfl _ (int_congr (show r + 128 = (((r + 128).toNat : Nat) : Int) by omega)) (by omega) (by omega) ?_; rintro A2 c2 M3 W3 HM3 hO3 hG3 _)
            go_roundg gf
            case rel => exact ⟨_, A2, c2, M3, i + 1, rfl, rfl, by go_num, hO3, hG3, by omega, by omega, by rw [HM3.out, List.length_append, List.length_cons, List.length_nil]; omega, by have := HI.out; omega, hid (by rw [HM3.out]; exact HE2.out)⟩
            case measure => omega
end Go.Proofs.YtglekjhbpdoofaaDoor

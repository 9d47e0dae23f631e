/- math/bits.Div64: the walk. -/
import Derived.Test.YtmcfciifjgdgoaaDoorPl15
import Derived.Test.YtmcfciifjgdgoaaDoorMg38
import Derived.Deep.CutBlock
namespace Go.Proofs.YtmcfciifjgdgoaaDoor
open Go.RowKit

theorem pow_cast (a s : Nat) : ((a : Nat) : Int) * 2 ^ s = ((a * 2 ^ s : Nat) : Int) := by push_cast; rfl
theorem wrap_nat {n : Nat} (h : n < 18446744073709551616) : IntKind.u64.wrap ((n : Nat) : Int) = ((n : Nat) : Int) := by
  rw [IntKind.wrap_u64]; omega
theorem dv_e1 {y s : Nat} (h : y * 2 ^ s < 18446744073709551616) : IntKind.u64.wrap ((y : Int) * 2 ^ s) = ((y * 2 ^ s : Nat) : Int) := by rw [pow_cast, wrap_nat h]
theorem dv_e4 (lo s : Nat) : IntKind.u64.wrap ((lo : Int) * 2 ^ s) = ((lo * 2 ^ s % 18446744073709551616 : Nat) : Int) := by
  rw [pow_cast, IntKind.wrap_u64]; omega
theorem dv_mask {n : Nat} (h : n < 18446744073709551616) : bits .and .u64 ((n : Nat) : Int) 4294967295 = ((n % 4294967296 : Nat) : Int) := by
  have e := u64_and_nat n 4294967295 h (by decide)
  rw [show (((4294967295 : Nat) : Nat) : Int) = 4294967295 from rfl] at e
  rw [e]
  have := Nat.and_two_pow_sub_one_eq_mod n 32
  rw [show (2 ^ 32 - 1 : Nat) = 4294967295 by decide, show (2 ^ 32 : Nat) = 4294967296 by decide] at this
  rw [this]
theorem dv_e3 {hi lo y s : Nat} (hs : s ≤ 64) (h1 : hi < y) (h2 : y * 2 ^ s < 18446744073709551616) (h3 : lo < 18446744073709551616) :
    bits .or .u64 (IntKind.u64.wrap ((hi : Int) * 2 ^ s)) ((lo : Int) / 2 ^ (64 - s)) = ((hi * 2 ^ s + lo / 2 ^ (64 - s) : Nat) : Int) := by
  have hh : hi * 2 ^ s < 18446744073709551616 := Nat.lt_of_le_of_lt (Nat.mul_le_mul_right _ (Nat.le_of_lt h1)) h2
  have hl : lo / 2 ^ (64 - s) < 2 ^ s := by
    rw [Nat.div_lt_iff_lt_mul (Nat.pow_pos (by decide)), Nat.mul_comm, Dv.pow_split hs]
    exact h3
  have hl2 : lo / 2 ^ (64 - s) < 18446744073709551616 := Nat.lt_of_le_of_lt (Nat.div_le_self _ _) h3
  have ec : (lo : Int) / 2 ^ (64 - s) = ((lo / 2 ^ (64 - s) : Nat) : Int) := by push_cast; rfl
  rw [dv_e1 hh, ec, u64_or_nat _ _ hh hl2, nat_join s _ _ (Nat.mul_mod_left _ _) hl]

theorem two_cast (a b : Nat) : ((a * 4294967296 + b : Nat) : Int) = (a : Int) * 4294967296 + (b : Int) := by rw [Int.natCast_add, Int.natCast_mul]; rfl
theorem div_cast (a s : Nat) : ((a / 2 ^ s : Nat) : Int) = (a : Int) / 2 ^ s := by push_cast; rfl
theorem rest_wrap {U L A YN V : Nat} (hA : A = (U * 4294967296 + L) / YN) (hV : V = (U * 4294967296 + L) % YN) (hy : 0 < YN) (hy2 : YN < 18446744073709551616) :
    IntKind.u64.wrap (IntKind.u64.wrap (IntKind.u64.wrap (((U : Nat) : Int) * 4294967296) + ((L : Nat) : Int)) - IntKind.u64.wrap (((A : Nat) : Int) * ((YN : Nat) : Int))) = ((V : Nat) : Int) := by
  have h := Nat.div_add_mod (U * 4294967296 + L) YN
  rw [← hA, ← hV] at h
  have hlt : V < YN := by rw [hV]; exact Nat.mod_lt _ hy
  have e : ((A : Nat) : Int) * ((YN : Nat) : Int) = ((YN * A : Nat) : Int) := by push_cast; rw [Int.mul_comm]
  rw [e]
  generalize YN * A = T at *
  simp only [IntKind.wrap_u64]
  omega
theorem dv_congr {k : IntKind} {a b : Int} (h : a = b) : Value.int k a = .int k b := by rw [h]
def DvPost (w : World) (Q R : Nat) (e : Ending) (w' : World) : Prop := e = .returned (.tuple #[.int .u64 ((Q : Nat) : Int), .int .u64 ((R : Nat) : Int)]) ∧ w' = w

set_option maxRecDepth 100000 in
set_option maxHeartbeats 4000000 in
theorem div64_high (hi lo y s : Nat) (w : World) (h0 : 0 < hi) (h1 : hi < y) (h2 : y < 18446744073709551616) (h3 : lo < 18446744073709551616) (hs : s < 64) (hb : (64 - (Lib.bitLen y : Int)) = (s : Int)) (hy1 : 9223372036854775808 ≤ y * 2 ^ s) (hy2 : y * 2 ^ s < 18446744073709551616) :
    Calls Tryd.prog 85 #[.int .u64 ((hi : Nat) : Int), .int .u64 ((lo : Nat) : Int), .int .u64 ((y : Nat) : Int)] w (DvPost w ((hi * 18446744073709551616 + lo) / y) ((hi * 18446744073709551616 + lo) % y)) := by
  have CL := Tryd.bits_LeadingZeros64 (y : Int) w (by omega) (by omega)
  rw [Int.toNat_natCast, hb] at CL
  replace CL := hid CL
  have E1 := dv_e1 hy2
  have E3 := dv_e3 (Nat.le_of_lt hs) h1 hy2 h3
  have E4 := dv_e4 lo s
  have HW := hid (Dv.whole (hi := hi) (lo := lo) (y := y) (s := s) (Nat.le_of_lt hs) (by omega))
  have HU := Dv.shift_lt (hi := hi) (lo := lo) (y := y) (Nat.le_of_lt hs) h1 h3
  obtain ⟨YN, hYN⟩ : ∃ n, n = y * 2 ^ s := ⟨_, rfl⟩
  obtain ⟨U, hU⟩ : ∃ n, n = hi * 2 ^ s + lo / 2 ^ (64 - s) := ⟨_, rfl⟩
  obtain ⟨LN, hLN⟩ : ∃ n, n = lo * 2 ^ s % 18446744073709551616 := ⟨_, rfl⟩
  have hLN2 : LN < 18446744073709551616 := by rw [hLN]; exact Nat.mod_lt _ (by decide)
  rw [← hYN] at E1 HU hy1 hy2
  rw [← hU] at E3 HU
  rw [← hLN] at E4
  have HDef := hid (And.intro hYN (And.intro hU hLN))
  clear hYN hU hLN hb
  have E2 := dv_mask hy2
  have E5 := dv_mask hLN2
  obtain ⟨Y1, hY1⟩ : ∃ n, n = YN / 4294967296 := ⟨_, rfl⟩
  obtain ⟨Y0, hY0⟩ : ∃ n, n = YN % 4294967296 := ⟨_, rfl⟩
  obtain ⟨L1, hL1⟩ : ∃ n, n = LN / 4294967296 := ⟨_, rfl⟩
  obtain ⟨L0, hL0⟩ : ∃ n, n = LN % 4294967296 := ⟨_, rfl⟩
  have E6 : ((YN : Nat) : Int) / 4294967296 = ((Y1 : Nat) : Int) := by omega
  have E7 : ((LN : Nat) : Int) / 4294967296 = ((L1 : Nat) : Int) := by omega
  rw [← hY0] at E2
  rw [← hL0] at E5
  have hYd : YN = Y1 * 4294967296 + Y0 := by omega
  have FA : Dv.Form U L1 Y1 Y0 := ⟨by omega, by omega, by omega, by omega, by omega⟩
  have gS := Dv.Guess.start FA
  obtain ⟨Q, hQ⟩ : ∃ n, n = U / Y1 := ⟨_, rfl⟩
  obtain ⟨P, hP⟩ : ∃ n, n = Q * Y1 := ⟨_, rfl⟩
  obtain ⟨R, hR⟩ : ∃ n, n = U % Y1 := ⟨_, rfl⟩
  rw [← hQ, ← hR] at gS
  have hPU : P + R = U := by rw [hP]; exact gS.sum
  have EQ : ((U : Nat) : Int) / ((Y1 : Nat) : Int) = ((Q : Nat) : Int) := by rw [hQ]; push_cast; rfl
  have EP : ((Q : Nat) : Int) * ((Y1 : Nat) : Int) = ((P : Nat) : Int) := by rw [hP]; push_cast; rfl
  have hQ2 : Q ≤ 4294967297 := gS.top
  have hU2 : U < 18446744073709551616 := by omega
  have hP2 : P < 18446744073709551616 := by omega
  have hPU2 : P ≤ U := by omega
  have hY1p : 2147483648 ≤ Y1 := by omega
  have hY1q : Y1 < 4294967296 := by omega
  have hRlt : R < 4294967296 := by rw [hR]; exact Nat.lt_trans (Nat.mod_lt _ (by omega)) hY1q
  have HR := hid (And.intro hPU hYd)
  have HS := hid gS
  have HFA := hid FA
  have HL := hid (And.intro hL1 hL0)
  have HYY := hid (And.intro hY1 hY0)
  have HH := hid (And.intro h1 (And.intro h2 h3))
  have e0 : ((hi : Int) == 0) = false := by rw [beq_eq_false_iff_ne]; omega
  have e1 : ((y : Int) == 0) = false := by rw [beq_eq_false_iff_ne]; omega
  have e2 : ¬ (y : Int) ≤ (hi : Int) := by omega
  have e3 : (s : Int) ≤ 64 := by omega
  clear hQ hP hR hPU hYd FA gS hL1 hL0 hY1 hY0 h0 h1 h2 h3 HU hy1
  go_enter Tryd.func85, Tryd.ntmps85
  go_upto_block 0 with (go_at_call 90; refine CL.out.mono ?_; rintro e w' ⟨rfl, rfl⟩)
  clear E1 E3 E4 CL
  go_cut [15, 16] (fun s15 _ wx => s15 = .int .u64 ((Dv.quo U L1 Y1 Y0 : Nat) : Int) ∧ wx = w')
  case first =>
    go_wp2_with fail
    go_loop [15, 16] (fun s15 s16 => ∃ q r : Nat, s15 = .int .u64 ((q : Nat) : Int) ∧ s16 = .int .u64 ((r : Nat) : Int) ∧ q ≤ 4294967297 ∧ r < 4294967296 ∧ Hid (Dv.Guess U L1 Y1 Y0 q r)) (fun s15 _ => (intOf s15).toNat)
    case atStart => exact ⟨Q, R, rfl, dv_congr (by have := HR.out.1; omega), hQ2, hRlt, HS⟩
    case round =>
      clear HS
      obtain ⟨q, r, rfl, rfl, hq, hr, HG⟩ := hrel
      have hL1 : L1 < 4294967296 := HFA.out.vhi
      by_cases hbig : 4294967296 ≤ q
      · have hb' : (4294967296 : Int) ≤ (q : Int) := by omega
        have HD := hid (HG.out.dec HFA.out (.inl hbig))
        have hq0 : (1 : Int) ≤ (q : Int) := by omega
        by_cases hbr : 4294967296 ≤ r + Y1
        · have hbr' : (4294967296 : Int) ≤ (r : Int) + (Y1 : Int) := by omega
          go_wp2_with fail
          go_meet
          case rel => exact ⟨dv_congr (by have := HD.out.2.1.broke HFA.out HD.out.2.2 hbr; omega), rfl⟩
        · have hbr' : ¬ (4294967296 : Int) ≤ (r : Int) + (Y1 : Int) := by omega
          go_wp2_with fail
          go_round
          case rel => exact ⟨q - 1, r + Y1, dv_congr (by omega), dv_congr (by omega), by omega, by omega, hid HD.out.2.1⟩
          case measure => simp [intOf]; omega
      · have hb' : ¬ (4294967296 : Int) ≤ (q : Int) := by omega
        obtain ⟨p, hp⟩ : ∃ p, p = q * Y0 := ⟨_, rfl⟩
        have EPQ : ((q : Nat) : Int) * ((Y0 : Nat) : Int) = ((p : Nat) : Int) := by rw [hp]; push_cast; rfl
        have hp2 : p < 18446744073709551616 := by
          have h1 : q * Y0 ≤ 4294967296 * Y0 := Nat.mul_le_mul_right _ (by omega)
          have := HFA.out.y0hi
          omega
        by_cases hc : r * 4294967296 + L1 < p
        · have hc' : 4294967296 * (r : Int) + (L1 : Int) < (p : Int) := by omega
          have HD := hid (HG.out.dec HFA.out (.inr (by rw [← hp]; exact hc)))
          have hq0 : (1 : Int) ≤ (q : Int) := by have := HD.out.1; omega
          clear hp hc
          by_cases hbr : 4294967296 ≤ r + Y1
          · have hbr' : (4294967296 : Int) ≤ (r : Int) + (Y1 : Int) := by omega
            go_wp2_with fail
            go_meet
            case rel => exact ⟨dv_congr (by have := HD.out.2.1.broke HFA.out HD.out.2.2 hbr; omega), rfl⟩
          · have hbr' : ¬ (4294967296 : Int) ≤ (r : Int) + (Y1 : Int) := by omega
            go_wp2_with fail
            go_round
            case rel => exact ⟨q - 1, r + Y1, dv_congr (by omega), dv_congr (by omega), by omega, by omega, hid HD.out.2.1⟩
            case measure => simp [intOf]; omega
        · have hc' : ¬ 4294967296 * (r : Int) + (L1 : Int) < (p : Int) := by omega
          have HE := hid (HG.out.done HFA.out (by rw [← hp]; omega))
          clear hp hc
          go_wp2_with fail
          go_meet
          case rel => exact ⟨dv_congr (by rw [HE.out]), rfl⟩
  case rest =>
    obtain ⟨rfl, hw⟩ := hcut
    rw [hw]
    clear hw
    have hqlt := HFA.out.quo_lt
    have hyn0 : 0 < YN := by omega
    obtain ⟨B1, hB1⟩ : ∃ n, n = Dv.quo U L1 Y1 Y0 := ⟨_, rfl⟩
    rw [← hB1] at hqlt ⊢
    have hB1' : B1 = (U * 4294967296 + L1) / YN := by rw [hB1, HR.out.2]; rfl
    obtain ⟨V, hV⟩ : ∃ n, n = (U * 4294967296 + L1) % YN := ⟨_, rfl⟩
    have EV := rest_wrap hB1' hV hyn0 hy2
    have hVlt : V < YN := by rw [hV]; exact Nat.mod_lt _ hyn0
    have hYd := HR.out.2
    have FB : Dv.Form V L0 Y1 Y0 := ⟨HFA.out.y1lo, HFA.out.y1hi, HFA.out.y0hi, by rw [HL.out.2]; exact Nat.mod_lt _ (by decide), by omega⟩
    have gS2 := Dv.Guess.start FB
    obtain ⟨Q2, hQ2'⟩ : ∃ n, n = V / Y1 := ⟨_, rfl⟩
    obtain ⟨P2, hP2'⟩ : ∃ n, n = Q2 * Y1 := ⟨_, rfl⟩
    obtain ⟨R2, hR2'⟩ : ∃ n, n = V % Y1 := ⟨_, rfl⟩
    rw [← hQ2', ← hR2'] at gS2
    have hPU3 : P2 + R2 = V := by rw [hP2']; exact gS2.sum
    have EQ2 : ((V : Nat) : Int) / ((Y1 : Nat) : Int) = ((Q2 : Nat) : Int) := by rw [hQ2']; push_cast; rfl
    have EP2 : ((Q2 : Nat) : Int) * ((Y1 : Nat) : Int) = ((P2 : Nat) : Int) := by rw [hP2']; push_cast; rfl
    have hQ22 : Q2 ≤ 4294967297 := gS2.top
    have hV2 : V < 18446744073709551616 := by omega
    have hP22 : P2 < 18446744073709551616 := by omega
    have hPV : P2 ≤ V := by omega
    have hRlt2 : R2 < 4294967296 := by rw [hR2']; exact Nat.lt_trans (Nat.mod_lt _ (by omega)) hY1q
    have HR2 := hid hPU3
    have HS2 := hid gS2
    have HFB := hid FB
    have HBV := hid (And.intro hB1' hV)
    clear hB1 hB1' hV hYd FB gS2 hQ2' hP2' hR2' hPU3 hVlt
    go_upto_block 2 with (fail)
    clear EV EQ2 EP2
    go_cut [18, 16] (fun s18 _ wx => s18 = .int .u64 ((Dv.quo V L0 Y1 Y0 : Nat) : Int) ∧ wx = w')
    case first =>
      go_wp2_with fail
      go_loop [18, 16] (fun s18 s16 => ∃ q r : Nat, s18 = .int .u64 ((q : Nat) : Int) ∧ s16 = .int .u64 ((r : Nat) : Int) ∧ q ≤ 4294967297 ∧ r < 4294967296 ∧ Hid (Dv.Guess V L0 Y1 Y0 q r)) (fun s18 _ => (intOf s18).toNat)
      case atStart => exact ⟨Q2, R2, rfl, dv_congr (by have := HR2.out; omega), hQ22, hRlt2, HS2⟩
      case round =>
        clear HS2
        obtain ⟨q, r, rfl, rfl, hq, hr, HG⟩ := hrel
        have hL0 : L0 < 4294967296 := HFB.out.vhi
        by_cases hbig : 4294967296 ≤ q
        · have hb' : (4294967296 : Int) ≤ (q : Int) := by omega
          have HD := hid (HG.out.dec HFB.out (.inl hbig))
          have hq0 : (1 : Int) ≤ (q : Int) := by omega
          by_cases hbr : 4294967296 ≤ r + Y1
          · have hbr' : (4294967296 : Int) ≤ (r : Int) + (Y1 : Int) := by omega
            go_wp2_with fail
            go_meet
            case rel => exact ⟨dv_congr (by have := HD.out.2.1.broke HFB.out HD.out.2.2 hbr; omega), rfl⟩
          · have hbr' : ¬ (4294967296 : Int) ≤ (r : Int) + (Y1 : Int) := by omega
            go_wp2_with fail
            go_round
            case rel => exact ⟨q - 1, r + Y1, dv_congr (by omega), dv_congr (by omega), by omega, by omega, hid HD.out.2.1⟩
            case measure => simp [intOf]; omega
        · have hb' : ¬ (4294967296 : Int) ≤ (q : Int) := by omega
          obtain ⟨p, hp⟩ : ∃ p, p = q * Y0 := ⟨_, rfl⟩
          have EPQ : ((q : Nat) : Int) * ((Y0 : Nat) : Int) = ((p : Nat) : Int) := by rw [hp]; push_cast; rfl
          have hp2 : p < 18446744073709551616 := by
            have h1 : q * Y0 ≤ 4294967296 * Y0 := Nat.mul_le_mul_right _ (by omega)
            have := HFB.out.y0hi
            omega
          by_cases hc : r * 4294967296 + L0 < p
          · have hc' : 4294967296 * (r : Int) + (L0 : Int) < (p : Int) := by omega
            have HD := hid (HG.out.dec HFB.out (.inr (by rw [← hp]; exact hc)))
            have hq0 : (1 : Int) ≤ (q : Int) := by have := HD.out.1; omega
            clear hp hc
            by_cases hbr : 4294967296 ≤ r + Y1
            · have hbr' : (4294967296 : Int) ≤ (r : Int) + (Y1 : Int) := by omega
              go_wp2_with fail
              go_meet
              case rel => exact ⟨dv_congr (by have := HD.out.2.1.broke HFB.out HD.out.2.2 hbr; omega), rfl⟩
            · have hbr' : ¬ (4294967296 : Int) ≤ (r : Int) + (Y1 : Int) := by omega
              go_wp2_with fail
              go_round
              case rel => exact ⟨q - 1, r + Y1, dv_congr (by omega), dv_congr (by omega), by omega, by omega, hid HD.out.2.1⟩
              case measure => simp [intOf]; omega
          · have hc' : ¬ 4294967296 * (r : Int) + (L0 : Int) < (p : Int) := by omega
            have HE := hid (HG.out.done HFB.out (by rw [← hp]; omega))
            clear hp hc
            go_wp2_with fail
            go_meet
            case rel => exact ⟨dv_congr (by rw [HE.out]), rfl⟩
    case rest =>
      obtain ⟨rfl, hw⟩ := hcut
      rw [hw]
      clear hw
      have hqlt2 := HFB.out.quo_lt
      obtain ⟨B2, hB2⟩ : ∃ n, n = Dv.quo V L0 Y1 Y0 := ⟨_, rfl⟩
      rw [← hB2] at hqlt2 ⊢
      have hB2' : B2 = (V * 4294967296 + L0) / YN := by rw [hB2, HR.out.2]; rfl
      obtain ⟨X, hX⟩ : ∃ n, n = (V * 4294967296 + L0) % YN := ⟨_, rfl⟩
      have EX := rest_wrap hB2' hX hyn0 hy2
      have HX := hid (And.intro hB2' hX)
      clear hB2 hB2' hX
      go_wp2_with fail
      go_ret2
      obtain ⟨w1, w2⟩ := HW.out
      rw [← HDef.out.1, ← HDef.out.2.1, ← HDef.out.2.2, ← HL.out.1, ← HL.out.2, ← HBV.out.2] at w1 w2
      rw [← HBV.out.1, ← HX.out.1] at w1
      rw [← HX.out.2] at w2
      refine ⟨?_, rfl⟩
      rw [w1, w2]
      rw [two_cast, div_cast]
      rfl
end Go.Proofs.YtmcfciifjgdgoaaDoor

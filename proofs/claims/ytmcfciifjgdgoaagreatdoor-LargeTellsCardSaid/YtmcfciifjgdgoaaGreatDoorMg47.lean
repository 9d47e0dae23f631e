/- Texts of this claim in one: Dv Dv2 Pd1 Pd2 Ld. -/
import Derived.Test.YtmcfciifjgdgoaaGreatDoorBase
import Derived.Test.YtmcfciifjgdgoaaGreatDoorPl15
import Derived.Deep.CutBlock
import Derived.Test.YtmcfciifjgdgoaaGreatDoorDig2
section
/- Plain mathematics of a division of two words by one: one half of the quotient, guessed and set right. No program is named here. -/
namespace Go.Proofs.YtmcfciifjgdgoaaGreatDoor.Dv

/-- The half of the quotient that is looked for. -/
def quo (u v y1 y0 : Nat) : Nat := (u * 4294967296 + v) / (y1 * 4294967296 + y0)
/-- What holds of the guess. -/
structure Guess (u v y1 y0 q r : Nat) : Prop where
  sum : q * y1 + r = u
  le : quo u v y1 y0 ≤ q
  top : q ≤ 4294967297
structure Form (u v y1 y0 : Nat) : Prop where
  y1lo : 2147483648 ≤ y1
  y1hi : y1 < 4294967296
  y0hi : y0 < 4294967296
  vhi : v < 4294967296
  ult : u < y1 * 4294967296 + y0
theorem Form.quo_lt {u v y1 y0 : Nat} (h : Form u v y1 y0) : quo u v y1 y0 < 4294967296 := by
  have := h.ult
  have := h.vhi
  unfold quo
  rw [Nat.div_lt_iff_lt_mul (by have := h.y1lo; omega)]
  omega
theorem Guess.start {u v y1 y0 : Nat} (h : Form u v y1 y0) : Guess u v y1 y0 (u / y1) (u % y1) := by
  have h1 := h.y1lo
  have h2 := h.y1hi
  have h3 := h.y0hi
  have h4 := h.vhi
  have h5 := h.ult
  have hd := Nat.div_add_mod u y1
  refine ⟨by rw [Nat.mul_comm]; exact hd, ?_, ?_⟩
  · rw [Nat.le_div_iff_mul_le (by omega)]
    have hq : quo u v y1 y0 * (y1 * 4294967296 + y0) ≤ u * 4294967296 + v := Nat.div_mul_le_self _ _
    rw [Nat.mul_add, ← Nat.mul_assoc] at hq
    omega
  · have hle : u / y1 ≤ (y1 * 4294967297 + (y1 - 1)) / y1 := Nat.div_le_div_right (by omega)
    have he : (y1 * 4294967297 + (y1 - 1)) / y1 = 4294967297 := by
      rw [Nat.mul_add_div (by omega), Nat.div_eq_of_lt (by omega)]
    omega
theorem dec_aux (a b r u v : Nat) (h1 : a + r = u) (h2 : r * 4294967296 + v < b) : u * 4294967296 + v < a * 4294967296 + b := by
  subst h1
  rw [Nat.add_mul, Nat.add_assoc]
  exact Nat.add_lt_add_left h2 _
theorem Guess.dec {u v y1 y0 q r : Nat} (h : Form u v y1 y0) (g : Guess u v y1 y0 q r) (hc : 4294967296 ≤ q ∨ r * 4294967296 + v < q * y0) : 0 < q ∧ Guess u v y1 y0 (q - 1) (r + y1) ∧ q - 1 ≤ 4294967296 := by
  have hlt : quo u v y1 y0 < q := by
    rcases hc with hc | hc
    · exact Nat.lt_of_lt_of_le h.quo_lt hc
    · unfold quo
      rw [Nat.div_lt_iff_lt_mul (Nat.lt_of_lt_of_le (Nat.mul_pos (Nat.lt_of_lt_of_le (by decide) h.y1lo) (by decide)) (Nat.le_add_right _ _)), Nat.mul_add, ← Nat.mul_assoc]
      exact dec_aux _ _ _ _ _ g.sum hc
  refine ⟨by omega, ⟨?_, by omega, by have := g.top; omega⟩, by have := g.top; omega⟩
  have := g.sum
  obtain ⟨k, rfl⟩ : ∃ k, q = k + 1 := ⟨q - 1, by omega⟩
  rw [Nat.add_mul] at this
  rw [Nat.add_sub_cancel]
  omega
theorem Guess.done {u v y1 y0 q r : Nat} (h : Form u v y1 y0) (g : Guess u v y1 y0 q r) (hc : q * y0 ≤ r * 4294967296 + v) : q = quo u v y1 y0 := by
  refine Nat.le_antisymm ?_ g.le
  unfold quo
  rw [Nat.le_div_iff_mul_le (by have := h.y1lo; omega), Nat.mul_add, ← Nat.mul_assoc]
  have := g.sum
  omega
theorem Guess.broke {u v y1 y0 q r : Nat} (h : Form u v y1 y0) (g : Guess u v y1 y0 q r) (hq : q ≤ 4294967296) (hr : 4294967296 ≤ r) : q = quo u v y1 y0 := by
  refine g.done h ?_
  have h1 : q * y0 ≤ 4294967296 * y0 := Nat.mul_le_mul_right _ hq
  have := h.y0hi
  omega
/-- What is left over, as the next half's dividend. -/
theorem rest_eq {u v y1 y0 : Nat} : u * 4294967296 + v = quo u v y1 y0 * (y1 * 4294967296 + y0) + (u * 4294967296 + v) % (y1 * 4294967296 + y0) := by
  unfold quo
  have := Nat.div_add_mod (u * 4294967296 + v) (y1 * 4294967296 + y0)
  rw [Nat.mul_comm ((u * 4294967296 + v) / (y1 * 4294967296 + y0))]
  exact this.symm
set_option maxRecDepth 100000 in
/-- Both halves together. -/
theorem both (hi lo1 lo0 y : Nat) (hy : 0 < y) : (hi * 18446744073709551616 + (lo1 * 4294967296 + lo0)) / y = (hi * 4294967296 + lo1) / y * 4294967296 + ((hi * 4294967296 + lo1) % y * 4294967296 + lo0) / y ∧
    (hi * 18446744073709551616 + (lo1 * 4294967296 + lo0)) % y = ((hi * 4294967296 + lo1) % y * 4294967296 + lo0) % y := by
  have h := Nat.div_add_mod (hi * 4294967296 + lo1) y
  have key : ∀ a b : Nat, y * a + b = hi * 4294967296 + lo1 → (hi * 18446744073709551616 + (lo1 * 4294967296 + lo0)) / y = a * 4294967296 + (b * 4294967296 + lo0) / y ∧ (hi * 18446744073709551616 + (lo1 * 4294967296 + lo0)) % y = (b * 4294967296 + lo0) % y := by
    intro a b hab
    have e : hi * 18446744073709551616 + (lo1 * 4294967296 + lo0) = y * (a * 4294967296) + (b * 4294967296 + lo0) := by
      rw [← Nat.mul_assoc]
      omega
    rw [e, Nat.mul_add_div hy, Nat.mul_add_mod]
    exact ⟨rfl, rfl⟩
  exact key _ _ h
end Go.Proofs.YtmcfciifjgdgoaaGreatDoor.Dv
end

section
/- Plain mathematics of a division of two words by one: the shift ahead of it, and what comes of both halves. No program is named here. -/
namespace Go.Proofs.YtmcfciifjgdgoaaGreatDoor.Dv

theorem pow_split {s : Nat} (hs : s ≤ 64) : 2 ^ (64 - s) * 2 ^ s = 18446744073709551616 := by
  rw [← Nat.pow_add, Nat.sub_add_cancel hs]
/-- The high word and the low one, shifted. -/
theorem shift_sum {hi lo s : Nat} (hs : s ≤ 64) : (hi * 2 ^ s + lo / 2 ^ (64 - s)) * 18446744073709551616 + lo * 2 ^ s % 18446744073709551616 = (hi * 18446744073709551616 + lo) * 2 ^ s := by
  have hd : lo * 2 ^ s / 18446744073709551616 = lo / 2 ^ (64 - s) := by
    rw [← pow_split hs]
    exact Nat.mul_div_mul_right _ _ (Nat.pow_pos (by decide))
  have h := Nat.div_add_mod (lo * 2 ^ s) 18446744073709551616
  rw [hd, Nat.mul_comm] at h
  rw [Nat.add_mul, Nat.add_assoc, h, Nat.add_mul, Nat.mul_right_comm]
theorem shift_lt {hi lo y s : Nat} (hs : s ≤ 64) (hh : hi < y) (hl : lo < 18446744073709551616) : hi * 2 ^ s + lo / 2 ^ (64 - s) < y * 2 ^ s := by
  have h1 : lo / 2 ^ (64 - s) < 2 ^ s := by
    rw [Nat.div_lt_iff_lt_mul (Nat.pow_pos (by decide)), Nat.mul_comm, pow_split hs]
    exact hl
  have h2 : (hi + 1) * 2 ^ s ≤ y * 2 ^ s := Nat.mul_le_mul_right _ hh
  rw [Nat.add_mul, Nat.one_mul] at h2
  exact Nat.lt_of_lt_of_le (Nat.add_lt_add_left h1 _) h2
theorem unshift_div {U y s : Nat} : (U * 2 ^ s) / (y * 2 ^ s) = U / y := Nat.mul_div_mul_right _ _ (Nat.pow_pos (by decide))
theorem unshift_mod {U y s : Nat} : (U * 2 ^ s) % (y * 2 ^ s) / 2 ^ s = U % y := by
  rw [Nat.mul_mod_mul_right, Nat.mul_div_cancel _ (Nat.pow_pos (by decide))]
/-- The whole: from the shifted words' halves to quotient and remainder. -/
theorem whole {hi lo y s : Nat} (hs : s ≤ 64) (hy : 0 < y) :
    let yn := y * 2 ^ s
    let un32 := hi * 2 ^ s + lo / 2 ^ (64 - s)
    let un10 := lo * 2 ^ s % 18446744073709551616
    let un21 := (un32 * 4294967296 + un10 / 4294967296) % yn
    (hi * 18446744073709551616 + lo) / y = (un32 * 4294967296 + un10 / 4294967296) / yn * 4294967296 + (un21 * 4294967296 + un10 % 4294967296) / yn ∧
      (hi * 18446744073709551616 + lo) % y = (un21 * 4294967296 + un10 % 4294967296) % yn / 2 ^ s := by
  intro yn un32 un10 un21
  have hyn : 0 < yn := Nat.mul_pos hy (Nat.pow_pos (by decide))
  have h := both un32 (un10 / 4294967296) (un10 % 4294967296) yn hyn
  have e : un10 / 4294967296 * 4294967296 + un10 % 4294967296 = un10 := by
    rw [Nat.mul_comm]; exact Nat.div_add_mod _ _
  rw [e, shift_sum hs] at h
  obtain ⟨h1, h2⟩ := h
  constructor
  · rw [← h1]; exact unshift_div.symm
  · rw [← h2]; exact unshift_mod.symm
end Go.Proofs.YtmcfciifjgdgoaaGreatDoor.Dv
end

section
/- math/bits.Div64: the walk. -/
namespace Go.Proofs.YtmcfciifjgdgoaaGreatDoor
open Go.RowKit

theorem pow_cast (a s : Nat) : ((a : Nat) : Int) * 2 ^ s = ((a * 2 ^ s : Nat) : Int) := by push_cast; rfl
theorem wrap_nat {n : Nat} (h : n < 18446744073709551616) : IntKind.u64.wrap ((n : Nat) : Int) = ((n : Nat) : Int) := by
  rw [IntKind.wrap_u64]; omega
theorem dv_e1 {y s : Nat} (h : y * 2 ^ s < 18446744073709551616) : IntKind.u64.wrap ((y : Int) * 2 ^ s) = ((y * 2 ^ s : Nat) : Int) := by rw [pow_cast, wrap_nat h]
theorem dv_e4 (lo s : Nat) : IntKind.u64.wrap ((lo : Int) * 2 ^ s) = ((lo * 2 ^ s % 18446744073709551616 : Nat) : Int) := by
  rw [pow_cast, IntKind.wrap_u64]; omega
theorem dv_mask {n : Nat} (h : n < 18446744073709551616) : bits .and .u64 ((n : Nat) : Int) 4294967295 = ((n % 4294967296 : Nat) : Int) := by
  have e := u64_and_nat n 4294967295 h (by decide)
  rw [show (((4294967295 : Nat) : Nat) : Int) = 4294967295 from rfl] at e
  rw [e]
  have := Nat.and_two_pow_sub_one_eq_mod n 32
  rw [show (2 ^ 32 - 1 : Nat) = 4294967295 by decide, show (2 ^ 32 : Nat) = 4294967296 by decide] at this
  rw [this]
theorem dv_e3 {hi lo y s : Nat} (hs : s ≤ 64) (h1 : hi < y) (h2 : y * 2 ^ s < 18446744073709551616) (h3 : lo < 18446744073709551616) :
    bits .or .u64 (IntKind.u64.wrap ((hi : Int) * 2 ^ s)) ((lo : Int) / 2 ^ (64 - s)) = ((hi * 2 ^ s + lo / 2 ^ (64 - s) : Nat) : Int) := by
  have hh : hi * 2 ^ s < 18446744073709551616 := Nat.lt_of_le_of_lt (Nat.mul_le_mul_right _ (Nat.le_of_lt h1)) h2
  have hl : lo / 2 ^ (64 - s) < 2 ^ s := by
    rw [Nat.div_lt_iff_lt_mul (Nat.pow_pos (by decide)), Nat.mul_comm, Dv.pow_split hs]
    exact h3
  have hl2 : lo / 2 ^ (64 - s) < 18446744073709551616 := Nat.lt_of_le_of_lt (Nat.div_le_self _ _) h3
  have ec : (lo : Int) / 2 ^ (64 - s) = ((lo / 2 ^ (64 - s) : Nat) : Int) := by push_cast; rfl
  rw [dv_e1 hh, ec, u64_or_nat _ _ hh hl2, nat_join s _ _ (Nat.mul_mod_left _ _) hl]

theorem two_cast (a b : Nat) : ((a * 4294967296 + b : Nat) : Int) = (a : Int) * 4294967296 + (b : Int) := by rw [Int.natCast_add, Int.natCast_mul]; rfl
theorem div_cast (a s : Nat) : ((a / 2 ^ s : Nat) : Int) = (a : Int) / 2 ^ s := by push_cast; rfl
theorem rest_wrap {U L A YN V : Nat} (hA : A = (U * 4294967296 + L) / YN) (hV : V = (U * 4294967296 + L) % YN) (hy : 0 < YN) (hy2 : YN < 18446744073709551616) :
    IntKind.u64.wrap (IntKind.u64.wrap (IntKind.u64.wrap (((U : Nat) : Int) * 4294967296) + ((L : Nat) : Int)) - IntKind.u64.wrap (((A : Nat) : Int) * ((YN : Nat) : Int))) = ((V : Nat) : Int) := by
  have h := Nat.div_add_mod (U * 4294967296 + L) YN
  rw [← hA, ← hV] at h
  have hlt : V < YN := by rw [hV]; exact Nat.mod_lt _ hy
  have e : ((A : Nat) : Int) * ((YN : Nat) : Int) = ((YN * A : Nat) : Int) := by push_cast; rw [Int.mul_comm]
  rw [e]
  generalize YN * A = T at *
  simp only [IntKind.wrap_u64]
  omega
theorem dv_congr {k : IntKind} {a b : Int} (h : a = b) : Value.int k a = .int k b := by rw [h]
def DvPost (w : World) (Q R : Nat) (e : Ending) (w' : World) : Prop := e = .returned (.tuple #[.int .u64 ((Q : Nat) : Int), .int .u64 ((R : Nat) : Int)]) ∧ w' = w

set_option maxRecDepth 100000 in
set_option maxHeartbeats 4000000 in
theorem div64_high (hi lo y s : Nat) (w : World) (h0 : 0 < hi) (h1 : hi < y) (h2 : y < 18446744073709551616) (h3 : lo < 18446744073709551616) (hs : s < 64) (hb : (64 - (Lib.bitLen y : Int)) = (s : Int)) (hy1 : 9223372036854775808 ≤ y * 2 ^ s) (hy2 : y * 2 ^ s < 18446744073709551616) :
    Calls Tryz.prog 84 #[.int .u64 ((hi : Nat) : Int), .int .u64 ((lo : Nat) : Int), .int .u64 ((y : Nat) : Int)] w (DvPost w ((hi * 18446744073709551616 + lo) / y) ((hi * 18446744073709551616 + lo) % y)) := by
  have CL := Tryz.bits_LeadingZeros64 (y : Int) w (by omega) (by omega)
  rw [Int.toNat_natCast, hb] at CL
  replace CL := hid CL
  have E1 := dv_e1 hy2
  have E3 := dv_e3 (Nat.le_of_lt hs) h1 hy2 h3
  have E4 := dv_e4 lo s
  have HW := hid (Dv.whole (hi := hi) (lo := lo) (y := y) (s := s) (Nat.le_of_lt hs) (by omega))
  have HU := Dv.shift_lt (hi := hi) (lo := lo) (y := y) (Nat.le_of_lt hs) h1 h3
  obtain ⟨YN, hYN⟩ : ∃ n, n = y * 2 ^ s := ⟨_, rfl⟩
  obtain ⟨U, hU⟩ : ∃ n, n = hi * 2 ^ s + lo / 2 ^ (64 - s) := ⟨_, rfl⟩
  obtain ⟨LN, hLN⟩ : ∃ n, n = lo * 2 ^ s % 18446744073709551616 := ⟨_, rfl⟩
  have hLN2 : LN < 18446744073709551616 := by rw [hLN]; exact Nat.mod_lt _ (by decide)
  rw [← hYN] at E1 HU hy1 hy2
  rw [← hU] at E3 HU
  rw [← hLN] at E4
  have HDef := hid (And.intro hYN (And.intro hU hLN))
  clear hYN hU hLN hb
  have E2 := dv_mask hy2
  have E5 := dv_mask hLN2
  obtain ⟨Y1, hY1⟩ : ∃ n, n = YN / 4294967296 := ⟨_, rfl⟩
  obtain ⟨Y0, hY0⟩ : ∃ n, n = YN % 4294967296 := ⟨_, rfl⟩
  obtain ⟨L1, hL1⟩ : ∃ n, n = LN / 4294967296 := ⟨_, rfl⟩
  obtain ⟨L0, hL0⟩ : ∃ n, n = LN % 4294967296 := ⟨_, rfl⟩
  have E6 : ((YN : Nat) : Int) / 4294967296 = ((Y1 : Nat) : Int) := by omega
  have E7 : ((LN : Nat) : Int) / 4294967296 = ((L1 : Nat) : Int) := by omega
  rw [← hY0] at E2
  rw [← hL0] at E5
  have hYd : YN = Y1 * 4294967296 + Y0 := by omega
  have FA : Dv.Form U L1 Y1 Y0 := ⟨by omega, by omega, by omega, by omega, by omega⟩
  have gS := Dv.Guess.start FA
  obtain ⟨Q, hQ⟩ : ∃ n, n = U / Y1 := ⟨_, rfl⟩
  obtain ⟨P, hP⟩ : ∃ n, n = Q * Y1 := ⟨_, rfl⟩
  obtain ⟨R, hR⟩ : ∃ n, n = U % Y1 := ⟨_, rfl⟩
  rw [← hQ, ← hR] at gS
  have hPU : P + R = U := by rw [hP]; exact gS.sum
  have EQ : ((U : Nat) : Int) / ((Y1 : Nat) : Int) = ((Q : Nat) : Int) := by rw [hQ]; push_cast; rfl
  have EP : ((Q : Nat) : Int) * ((Y1 : Nat) : Int) = ((P : Nat) : Int) := by rw [hP]; push_cast; rfl
  have hQ2 : Q ≤ 4294967297 := gS.top
  have hU2 : U < 18446744073709551616 := by omega
  have hP2 : P < 18446744073709551616 := by omega
  have hPU2 : P ≤ U := by omega
  have hY1p : 2147483648 ≤ Y1 := by omega
  have hY1q : Y1 < 4294967296 := by omega
  have hRlt : R < 4294967296 := by rw [hR]; exact Nat.lt_trans (Nat.mod_lt _ (by omega)) hY1q
  have HR := hid (And.intro hPU hYd)
  have HS := hid gS
  have HFA := hid FA
  have HL := hid (And.intro hL1 hL0)
  have HYY := hid (And.intro hY1 hY0)
  have HH := hid (And.intro h1 (And.intro h2 h3))
  have e0 : ((hi : Int) == 0) = false := by rw [beq_eq_false_iff_ne]; omega
  have e1 : ((y : Int) == 0) = false := by rw [beq_eq_false_iff_ne]; omega
  have e2 : ¬ (y : Int) ≤ (hi : Int) := by omega
  have e3 : (s : Int) ≤ 64 := by omega
  clear hQ hP hR hPU hYd FA gS hL1 hL0 hY1 hY0 h0 h1 h2 h3 HU hy1
  go_enter Tryz.func84, Tryz.ntmps84
  go_upto_block 0 with (go_at_call 89; refine CL.out.mono ?_; rintro e w' ⟨rfl, rfl⟩)
  clear E1 E3 E4 CL
  go_cut [15, 16] (fun s15 _ wx => s15 = .int .u64 ((Dv.quo U L1 Y1 Y0 : Nat) : Int) ∧ wx = w')
  case first =>
    go_wp2_with fail
    go_loop [15, 16] (fun s15 s16 => ∃ q r : Nat, s15 = .int .u64 ((q : Nat) : Int) ∧ s16 = .int .u64 ((r : Nat) : Int) ∧ q ≤ 4294967297 ∧ r < 4294967296 ∧ Hid (Dv.Guess U L1 Y1 Y0 q r)) (fun s15 _ => (intOf s15).toNat)
    case atStart => exact ⟨Q, R, rfl, dv_congr (by have := HR.out.1; omega), hQ2, hRlt, HS⟩
    case round =>
      clear HS
      obtain ⟨q, r, rfl, rfl, hq, hr, HG⟩ := hrel
      have hL1 : L1 < 4294967296 := HFA.out.vhi
      by_cases hbig : 4294967296 ≤ q
      · have hb' : (4294967296 : Int) ≤ (q : Int) := by omega
        have HD := hid (HG.out.dec HFA.out (.inl hbig))
        have hq0 : (1 : Int) ≤ (q : Int) := by omega
        by_cases hbr : 4294967296 ≤ r + Y1
        · have hbr' : (4294967296 : Int) ≤ (r : Int) + (Y1 : Int) := by omega
          go_wp2_with fail
          go_meet
          case rel => exact ⟨dv_congr (by have := HD.out.2.1.broke HFA.out HD.out.2.2 hbr; omega), rfl⟩
        · have hbr' : ¬ (4294967296 : Int) ≤ (r : Int) + (Y1 : Int) := by omega
          go_wp2_with fail
          go_round
          case rel => exact ⟨q - 1, r + Y1, dv_congr (by omega), dv_congr (by omega), by omega, by omega, hid HD.out.2.1⟩
          case measure => simp [intOf]; omega
      · have hb' : ¬ (4294967296 : Int) ≤ (q : Int) := by omega
        obtain ⟨p, hp⟩ : ∃ p, p = q * Y0 := ⟨_, rfl⟩
        have EPQ : ((q : Nat) : Int) * ((Y0 : Nat) : Int) = ((p : Nat) : Int) := by rw [hp]; push_cast; rfl
        have hp2 : p < 18446744073709551616 := by
          have h1 : q * Y0 ≤ 4294967296 * Y0 := Nat.mul_le_mul_right _ (by omega)
          have := HFA.out.y0hi
          omega
        by_cases hc : r * 4294967296 + L1 < p
        · have hc' : 4294967296 * (r : Int) + (L1 : Int) < (p : Int) := by omega
          have HD := hid (HG.out.dec HFA.out (.inr (by rw [← hp]; exact hc)))
          have hq0 : (1 : Int) ≤ (q : Int) := by have := HD.out.1; omega
          clear hp hc
          by_cases hbr : 4294967296 ≤ r + Y1
          · have hbr' : (4294967296 : Int) ≤ (r : Int) + (Y1 : Int) := by omega
            go_wp2_with fail
            go_meet
            case rel => exact ⟨dv_congr (by have := HD.out.2.1.broke HFA.out HD.out.2.2 hbr; omega), rfl⟩
          · have hbr' : ¬ (4294967296 : Int) ≤ (r : Int) + (Y1 : Int) := by omega
            go_wp2_with fail
            go_round
            case rel => exact ⟨q - 1, r + Y1, dv_congr (by omega), dv_congr (by omega), by omega, by omega, hid HD.out.2.1⟩
            case measure => simp [intOf]; omega
        · have hc' : ¬ 4294967296 * (r : Int) + (L1 : Int) < (p : Int) := by omega
          have HE := hid (HG.out.done HFA.out (by rw [← hp]; omega))
          clear hp hc
          go_wp2_with fail
          go_meet
          case rel => exact ⟨dv_congr (by rw [HE.out]), rfl⟩
  case rest =>
    obtain ⟨rfl, hw⟩ := hcut
    rw [hw]
    clear hw
    have hqlt := HFA.out.quo_lt
    have hyn0 : 0 < YN := by omega
    obtain ⟨B1, hB1⟩ : ∃ n, n = Dv.quo U L1 Y1 Y0 := ⟨_, rfl⟩
    rw [← hB1] at hqlt ⊢
    have hB1' : B1 = (U * 4294967296 + L1) / YN := by rw [hB1, HR.out.2]; rfl
    obtain ⟨V, hV⟩ : ∃ n, n = (U * 4294967296 + L1) % YN := ⟨_, rfl⟩
    have EV := rest_wrap hB1' hV hyn0 hy2
    have hVlt : V < YN := by rw [hV]; exact Nat.mod_lt _ hyn0
    have hYd := HR.out.2
    have FB : Dv.Form V L0 Y1 Y0 := ⟨HFA.out.y1lo, HFA.out.y1hi, HFA.out.y0hi, by rw [HL.out.2]; exact Nat.mod_lt _ (by decide), by omega⟩
    have gS2 := Dv.Guess.start FB
    obtain ⟨Q2, hQ2'⟩ : ∃ n, n = V / Y1 := ⟨_, rfl⟩
    obtain ⟨P2, hP2'⟩ : ∃ n, n = Q2 * Y1 := ⟨_, rfl⟩
    obtain ⟨R2, hR2'⟩ : ∃ n, n = V % Y1 := ⟨_, rfl⟩
    rw [← hQ2', ← hR2'] at gS2
    have hPU3 : P2 + R2 = V := by rw [hP2']; exact gS2.sum
    have EQ2 : ((V : Nat) : Int) / ((Y1 : Nat) : Int) = ((Q2 : Nat) : Int) := by rw [hQ2']; push_cast; rfl
    have EP2 : ((Q2 : Nat) : Int) * ((Y1 : Nat) : Int) = ((P2 : Nat) : Int) := by rw [hP2']; push_cast; rfl
    have hQ22 : Q2 ≤ 4294967297 := gS2.top
    have hV2 : V < 18446744073709551616 := by omega
    have hP22 : P2 < 18446744073709551616 := by omega
    have hPV : P2 ≤ V := by omega
    have hRlt2 : R2 < 4294967296 := by rw [hR2']; exact Nat.lt_trans (Nat.mod_lt _ (by omega)) hY1q
    have HR2 := hid hPU3
    have HS2 := hid gS2
    have HFB := hid FB
    have HBV := hid (And.intro hB1' hV)
    clear hB1 hB1' hV hYd FB gS2 hQ2' hP2' hR2' hPU3 hVlt
    go_upto_block 2 with (fail)
    clear EV EQ2 EP2
    go_cut [18, 16] (fun s18 _ wx => s18 = .int .u64 ((Dv.quo V L0 Y1 Y0 : Nat) : Int) ∧ wx = w')
    case first =>
      go_wp2_with fail
      go_loop [18, 16] (fun s18 s16 => ∃ q r : Nat, s18 = .int .u64 ((q : Nat) : Int) ∧ s16 = .int .u64 ((r : Nat) : Int) ∧ q ≤ 4294967297 ∧ r < 4294967296 ∧ Hid (Dv.Guess V L0 Y1 Y0 q r)) (fun s18 _ => (intOf s18).toNat)
      case atStart => exact ⟨Q2, R2, rfl, dv_congr (by have := HR2.out; omega), hQ22, hRlt2, HS2⟩
      case round =>
        clear HS2
        obtain ⟨q, r, rfl, rfl, hq, hr, HG⟩ := hrel
        have hL0 : L0 < 4294967296 := HFB.out.vhi
        by_cases hbig : 4294967296 ≤ q
        · have hb' : (4294967296 : Int) ≤ (q : Int) := by omega
          have HD := hid (HG.out.dec HFB.out (.inl hbig))
          have hq0 : (1 : Int) ≤ (q : Int) := by omega
          by_cases hbr : 4294967296 ≤ r + Y1
          · have hbr' : (4294967296 : Int) ≤ (r : Int) + (Y1 : Int) := by omega
            go_wp2_with fail
            go_meet
            case rel => exact ⟨dv_congr (by have := HD.out.2.1.broke HFB.out HD.out.2.2 hbr; omega), rfl⟩
          · have hbr' : ¬ (4294967296 : Int) ≤ (r : Int) + (Y1 : Int) := by omega
            go_wp2_with fail
            go_round
            case rel => exact ⟨q - 1, r + Y1, dv_congr (by omega), dv_congr (by omega), by omega, by omega, hid HD.out.2.1⟩
            case measure => simp [intOf]; omega
        · have hb' : ¬ (4294967296 : Int) ≤ (q : Int) := by omega
          obtain ⟨p, hp⟩ : ∃ p, p = q * Y0 := ⟨_, rfl⟩
          have EPQ : ((q : Nat) : Int) * ((Y0 : Nat) : Int) = ((p : Nat) : Int) := by rw [hp]; push_cast; rfl
          have hp2 : p < 18446744073709551616 := by
            have h1 : q * Y0 ≤ 4294967296 * Y0 := Nat.mul_le_mul_right _ (by omega)
            have := HFB.out.y0hi
            omega
          by_cases hc : r * 4294967296 + L0 < p
          · have hc' : 4294967296 * (r : Int) + (L0 : Int) < (p : Int) := by omega
            have HD := hid (HG.out.dec HFB.out (.inr (by rw [← hp]; exact hc)))
            have hq0 : (1 : Int) ≤ (q : Int) := by have := HD.out.1; omega
            clear hp hc
            by_cases hbr : 4294967296 ≤ r + Y1
            · have hbr' : (4294967296 : Int) ≤ (r : Int) + (Y1 : Int) := by omega
              go_wp2_with fail
              go_meet
              case rel => exact ⟨dv_congr (by have := HD.out.2.1.broke HFB.out HD.out.2.2 hbr; omega), rfl⟩
            · have hbr' : ¬ (4294967296 : Int) ≤ (r : Int) + (Y1 : Int) := by omega
              go_wp2_with fail
              go_round
              case rel => exact ⟨q - 1, r + Y1, dv_congr (by omega), dv_congr (by omega), by omega, by omega, hid HD.out.2.1⟩
              case measure => simp [intOf]; omega
          · have hc' : ¬ 4294967296 * (r : Int) + (L0 : Int) < (p : Int) := by omega
            have HE := hid (HG.out.done HFB.out (by rw [← hp]; omega))
            clear hp hc
            go_wp2_with fail
            go_meet
            case rel => exact ⟨dv_congr (by rw [HE.out]), rfl⟩
    case rest =>
      obtain ⟨rfl, hw⟩ := hcut
      rw [hw]
      clear hw
      have hqlt2 := HFB.out.quo_lt
      obtain ⟨B2, hB2⟩ : ∃ n, n = Dv.quo V L0 Y1 Y0 := ⟨_, rfl⟩
      rw [← hB2] at hqlt2 ⊢
      have hB2' : B2 = (V * 4294967296 + L0) / YN := by rw [hB2, HR.out.2]; rfl
      obtain ⟨X, hX⟩ : ∃ n, n = (V * 4294967296 + L0) % YN := ⟨_, rfl⟩
      have EX := rest_wrap hB2' hX hyn0 hy2
      have HX := hid (And.intro hB2' hX)
      clear hB2 hB2' hX
      go_wp2_with fail
      go_ret2
      obtain ⟨w1, w2⟩ := HW.out
      rw [← HDef.out.1, ← HDef.out.2.1, ← HDef.out.2.2, ← HL.out.1, ← HL.out.2, ← HBV.out.2] at w1 w2
      rw [← HBV.out.1, ← HX.out.1] at w1
      rw [← HX.out.2] at w2
      refine ⟨?_, rfl⟩
      rw [w1, w2]
      rw [two_cast, div_cast]
      rfl
end Go.Proofs.YtmcfciifjgdgoaaGreatDoor
end

section
/- math/bits.Div64: any two words by one that is greater than the high one. -/
namespace Go.Proofs.YtmcfciifjgdgoaaGreatDoor
open Go.RowKit

theorem bitLen_span : ∀ (f x : Nat), x < 2 ^ f → f ≤ 64 → 0 < x → 1 ≤ Lib.bitLen x ∧ Lib.bitLen x ≤ 64 ∧ 2 ^ (Lib.bitLen x - 1) ≤ x ∧ x < 2 ^ Lib.bitLen x
  | 0, x, h, _, h0 => by simp at h; omega
  | f + 1, x, h, hf, h0 => by
    have h64 : x < 2 ^ 64 := Nat.lt_of_lt_of_le h (Nat.pow_le_pow_right (by decide) hf)
    have hb := Lib.bitLen_half x (by omega) h64
    rw [Nat.pow_succ] at h
    rcases Nat.eq_zero_or_pos (x / 2) with hz | hz
    · have hx : x = 1 := by omega
      subst hx
      exact ⟨by decide, by decide, by decide, by decide⟩
    · obtain ⟨i1, i2, i3, i4⟩ := bitLen_span f (x / 2) (by omega) (by omega) hz
      rw [hb]
      generalize Lib.bitLen (x / 2) = L at *
      obtain ⟨k, rfl⟩ : ∃ k, L = k + 1 := ⟨L - 1, by omega⟩
      rw [Nat.add_sub_cancel] at i3
      have e1 : 1 + (k + 1) - 1 = k + 1 := by omega
      have e2 : 1 + (k + 1) = k + 1 + 1 := by omega
      rw [e1, e2]
      rw [Nat.pow_succ] at i4
      refine ⟨by omega, ?_, ?_, ?_⟩
      · rcases Nat.lt_or_ge (k + 1) 64 with h5 | h5
        · omega
        · exfalso
          have h6 : (2 : Nat) ^ 64 ≤ 2 ^ (k + 1) := Nat.pow_le_pow_right (by decide) h5
          rw [Nat.pow_succ] at h6
          omega
      · rw [Nat.pow_succ]; omega
      · rw [Nat.pow_succ, Nat.pow_succ]; omega
theorem shift_of {y : Nat} (h0 : 0 < y) (h1 : y < 18446744073709551616) : ∃ s : Nat, s < 64 ∧ (64 - (Lib.bitLen y : Int)) = (s : Int) ∧ 9223372036854775808 ≤ y * 2 ^ s ∧ y * 2 ^ s < 18446744073709551616 := by
  obtain ⟨b1, b2, b3, b4⟩ := bitLen_span 64 y h1 (Nat.le_refl _) h0
  refine ⟨64 - Lib.bitLen y, by omega, by omega, ?_, ?_⟩
  · have h2 : 2 ^ (Lib.bitLen y - 1) * 2 ^ (64 - Lib.bitLen y) ≤ y * 2 ^ (64 - Lib.bitLen y) := Nat.mul_le_mul_right _ b3
    rw [← Nat.pow_add, show Lib.bitLen y - 1 + (64 - Lib.bitLen y) = 63 by omega] at h2
    exact h2
  · have h2 : y * 2 ^ (64 - Lib.bitLen y) < 2 ^ Lib.bitLen y * 2 ^ (64 - Lib.bitLen y) := Nat.mul_lt_mul_of_pos_right b4 (Nat.pow_pos (by decide))
    rw [← Nat.pow_add, show Lib.bitLen y + (64 - Lib.bitLen y) = 64 by omega] at h2
    exact h2

set_option maxRecDepth 100000 in
set_option maxHeartbeats 1000000 in
theorem div64_c (hi lo y : Nat) (w : World) (h1 : hi < y) (h2 : y < 18446744073709551616) (h3 : lo < 18446744073709551616) :
    Calls Tryz.prog 84 #[.int .u64 ((hi : Nat) : Int), .int .u64 ((lo : Nat) : Int), .int .u64 ((y : Nat) : Int)] w fun e w' => e = .returned (.tuple #[.int .u64 (((hi * 18446744073709551616 + lo) / y : Nat) : Int), .int .u64 (((hi * 18446744073709551616 + lo) % y : Nat) : Int)]) ∧ Grew w w' := by
  rcases Nat.eq_zero_or_pos hi with h0 | h0
  · subst h0
    rw [Nat.zero_mul, Nat.zero_add]
    have e1 : ((y : Int) == 0) = false := by rw [beq_eq_false_iff_ne]; omega
    have e2 : ¬ (y : Int) ≤ 0 := by omega
    have e3 : (y : Int) ≠ 0 := by omega
    have H2 := hid h2
    have H3 := hid h3
    clear h1 h2 h3
    rw [show (((0 : Nat) : Nat) : Int) = 0 from rfl]
    go_enter Tryz.func84, Tryz.ntmps84
    go_wp2_with fail
    go_quiet (fail)
    go_wp2_with fail
    go_ret2
    have q1 : lo / y < 18446744073709551616 := Nat.lt_of_le_of_lt (Nat.div_le_self _ _) H3
    refine ⟨?_, Grew.mk (below_drewN (Below.refl _ _) _)⟩
    have q2 : IntKind.u64.wrap ((lo : Int) / (y : Int)) = ((lo / y : Nat) : Int) := by
      rw [← Int.natCast_ediv]
      exact wrap_nat q1
    first
      | (rw [q2]; rfl)
      | (simp only [q2]; rfl)
  · obtain ⟨s, s1, s2, s3, s4⟩ := shift_of (by omega) h2
    exact (div64_high hi lo y s w h0 h1 h2 h3 s1 s2 s3 s4).mono fun e w' ⟨he, hw⟩ => ⟨he, by rw [hw]; exact Grew.refl _⟩
end Go.Proofs.YtmcfciifjgdgoaaGreatDoor
end

section
/- Plain mathematics of the long division: the guess of a digit, what is taken away, and one round. No program is named here. -/
namespace Go.Proofs.YtmcfciifjgdgoaaGreatDoor
namespace Dg

/-- The guess from the three and the two highest words is the digit, or one more. -/
theorem guess_num {B p U Al y Yl : Nat} (hAl : Al < p) (hYl : Yl < p) (hy : B ≤ y) (hlt : Al + p * U < B * (Yl + p * y)) :
    (Al + p * U) / (Yl + p * y) ≤ min (U / y) (B - 1) ∧ min (U / y) (B - 1) ≤ (Al + p * U) / (Yl + p * y) + 1 := by
  have hp : 0 < p := by omega
  have hB : 0 < B := by
    rcases Nat.eq_zero_or_pos B with h | h
    · subst h; simp at hlt
    · exact h
  have hY : 0 < Yl + p * y := by
    have := Nat.mul_pos hp (show 0 < y by omega)
    omega
  constructor
  · refine Nat.le_min.2 ⟨?_, ?_⟩
    · rw [Nat.le_div_iff_mul_le (by omega)]
      have h1 := Nat.div_mul_le_self (Al + p * U) (Yl + p * y)
      generalize (Al + p * U) / (Yl + p * y) = Q at *
      have h2 : Q * (p * y) ≤ Q * (Yl + p * y) := Nat.mul_le_mul_left _ (Nat.le_add_left _ _)
      have h3 : p * (Q * y) < p * (U + 1) := by
        rw [Nat.mul_left_comm, Nat.mul_add, Nat.mul_one]
        omega
      have := Nat.lt_of_mul_lt_mul_left h3
      omega
    · have : (Al + p * U) / (Yl + p * y) < B := (Nat.div_lt_iff_lt_mul hY).2 hlt
      omega
  · have h1 : min (U / y) (B - 1) * y ≤ U := by
      rw [← Nat.le_div_iff_mul_le (by omega)]
      exact Nat.min_le_left _ _
    have h2 : min (U / y) (B - 1) ≤ B - 1 := Nat.min_le_right _ _
    generalize min (U / y) (B - 1) = g at *
    rcases Nat.eq_zero_or_pos g with h0 | h0
    · rw [h0]; exact Nat.zero_le _
    obtain ⟨k, rfl⟩ : ∃ k, g = k + 1 := ⟨g - 1, by omega⟩
    refine Nat.succ_le_succ ?_
    rw [Nat.le_div_iff_mul_le hY]
    have h3 : k * (Yl + p * y) ≤ k * (p + p * y) := Nat.mul_le_mul_left _ (by omega)
    have h4 : k * (p + p * y) = p * (k + k * y) := by rw [Nat.mul_add, Nat.mul_add, Nat.mul_comm k p, Nat.mul_left_comm]
    have h5 : k + k * y ≤ U := by
      rw [Nat.add_mul, Nat.one_mul] at h1
      omega
    have h6 : p * (k + k * y) ≤ p * U := Nat.mul_le_mul_left _ h5
    omega

/-- The two highest of words. -/
theorem split_two {B : Nat} {ys : List Nat} {n : Nat} (hn : ys.length = n + 2) : val B ys = val B (ys.take n) + B ^ n * (ys.getD (n + 1) 0 * B + ys.getD n 0) := by
  have h1 := val_take_succ B (xs := ys) (k := n) (by omega)
  have h2 := val_take_succ B (xs := ys) (k := n + 1) (by omega)
  rw [List.take_of_length_le (by omega)] at h2
  rw [h2, h1, Nat.pow_succ, Nat.mul_add, Nat.add_assoc, Nat.add_comm (B ^ n * ys.getD n 0), Nat.mul_assoc, Nat.mul_comm B]
/-- The three highest of words. -/
theorem split_three {B : Nat} {ys : List Nat} {n : Nat} (hn : ys.length = n + 3) : val B ys = val B (ys.take n) + B ^ n * (ys.getD (n + 2) 0 * (B * B) + (ys.getD (n + 1) 0 * B + ys.getD n 0)) := by
  have h2 := val_take_succ B (xs := ys) (k := n + 2) (by omega)
  rw [List.take_of_length_le (by omega)] at h2
  have h1 := split_two (B := B) (ys := ys.take (n + 2)) (n := n) (by simp; omega)
  rw [List.take_take, Nat.min_eq_left (by omega)] at h1
  have e1 : (ys.take (n + 2)).getD (n + 1) 0 = ys.getD (n + 1) 0 := by simp [List.getD_eq_getElem?_getD]
  have e2 : (ys.take (n + 2)).getD n 0 = ys.getD n 0 := by simp [List.getD_eq_getElem?_getD]
  rw [e1, e2] at h1
  rw [h2, h1, Nat.pow_add, Nat.pow_two]
  rw [Nat.mul_assoc (B ^ n), Nat.mul_comm (B * B), Nat.add_assoc, ← Nat.mul_add, Nat.add_comm (ys.getD (n + 1) 0 * B + ys.getD n 0)]
/-- The guess, of lists of words. -/
theorem guess {B : Nat} {P Y : List Nat} {n : Nat} (hP : P.length = n + 3) (hY : Y.length = n + 2) (lP : Low B P) (lY : Low B Y) (hB : 1 < B) (ht : Y.getD (n + 1) 0 ≠ 0) (hlt : val B P < B * val B Y) :
    val B P / val B Y ≤ min ((P.getD (n + 2) 0 * (B * B) + (P.getD (n + 1) 0 * B + P.getD n 0)) / (Y.getD (n + 1) 0 * B + Y.getD n 0)) (B - 1) ∧
      min ((P.getD (n + 2) 0 * (B * B) + (P.getD (n + 1) 0 * B + P.getD n 0)) / (Y.getD (n + 1) 0 * B + Y.getD n 0)) (B - 1) ≤ val B P / val B Y + 1 ∧ P.getD (n + 2) 0 < Y.getD (n + 1) 0 * B + Y.getD n 0 := by
  have h1 := val_lt (lP.take n)
  have h2 := val_lt (lY.take n)
  rw [List.length_take, Nat.min_eq_left (by omega)] at h1 h2
  have hy : B ≤ Y.getD (n + 1) 0 * B + Y.getD n 0 := by
    have : 1 * B ≤ Y.getD (n + 1) 0 * B := Nat.mul_le_mul_right _ (by omega)
    omega
  have h3 := lP.getD (by omega) (n + 2)
  rw [split_three hP, split_two hY] at hlt ⊢
  have := guess_num h1 h2 hy hlt
  exact ⟨this.1, this.2, by omega⟩

/-- What stands from the part on is the part, where it is below the divisor times the base. -/
theorem part_val {B N : Nat} {L : List Nat} {Y : Nat} (hB : 0 < B) (hY : Y < B ^ N) (h : val B L < B * Y) : val B (L.take (N + 1)) = val B L ∧ val B (L.drop (N + 1)) = 0 := by
  have e : val B L = val B (L.take (N + 1)) + B ^ (L.take (N + 1)).length * val B (L.drop (N + 1)) := by
    rw [← val_append, List.take_append_drop]
  rcases Nat.lt_or_ge (N + 1) L.length with hl | hl
  · rw [List.length_take, Nat.min_eq_left (by omega)] at e
    have h1 : B * Y < B ^ (N + 1) := by rw [Nat.pow_succ, Nat.mul_comm]; exact Nat.mul_lt_mul_of_pos_right hY hB
    have h2 : val B (L.drop (N + 1)) = 0 := by
      rcases Nat.eq_zero_or_pos (val B (L.drop (N + 1))) with h3 | h3
      · exact h3
      · have h4 : B ^ (N + 1) * 1 ≤ B ^ (N + 1) * val B (L.drop (N + 1)) := Nat.mul_le_mul_left _ h3
        omega
    rw [h2] at e
    exact ⟨by omega, h2⟩
  · rw [List.take_of_length_le hl, List.drop_of_length_le hl]
    exact ⟨rfl, rfl⟩
/-- What stands behind the digits that are done. -/
def LdInv (B : Nat) (xs Q L : List Nat) (Y i : Nat) : Prop := val B (xs.drop i) = val B (Q.drop i) * Y + val B (L.drop i) ∧ val B (L.drop i) < Y ∧ L.take i = xs.take i
theorem LdInv.part {B : Nat} {xs Q L : List Nat} {Y N i : Nat} (h : LdInv B xs Q L Y (i + 1)) (lL : Low B L) (hB : 0 < B) (hi : i < L.length) (hY : Y < B ^ N) : val B ((L.drop i).take (N + 1)) = val B (L.drop i) ∧ val B (L.drop i) < B * Y ∧ val B ((L.drop i).drop (N + 1)) = 0 := by
  have h1 : val B (L.drop i) < B * Y := by
    rw [val_drop B hi]
    have h2 := lL.getD hB i
    have h3 : B * (val B (L.drop (i + 1)) + 1) ≤ B * Y := Nat.mul_le_mul_left _ h.2.1
    rw [Nat.mul_add, Nat.mul_one] at h3
    omega
  have := part_val hB hY h1
  exact ⟨this.1, h1, this.2⟩
/-- One round. -/
theorem LdInv.step {B : Nat} {xs Q L P' : List Nat} {Y N i : Nat} (h : LdInv B xs Q L Y (i + 1)) (lL : Low B L) (hB : 0 < B) (hl : L.length = xs.length) (hi : i + (N + 1) ≤ L.length) (hq : i < Q.length) (hY0 : 0 < Y) (hY : Y < B ^ N)
    (hP : P'.length = N + 1) (hv : val B P' = val B ((L.drop i).take (N + 1)) % Y) :
    LdInv B xs (Q.set i (val B ((L.drop i).take (N + 1)) / Y)) (L.take i ++ (P' ++ L.drop (i + (N + 1)))) Y i := by
  obtain ⟨p1, p2, p3⟩ := h.part (N := N) lL hB (by omega) hY
  obtain ⟨h1, h2, h3⟩ := h
  rw [p1] at hv ⊢
  have hd : (L.take i ++ (P' ++ L.drop (i + (N + 1)))).drop i = P' ++ L.drop (i + (N + 1)) := List.drop_left' (by simp; omega)
  have hv2 : val B (P' ++ L.drop (i + (N + 1))) = val B (L.drop i) % Y := by
    rw [List.drop_drop] at p3
    rw [val_append, p3, Nat.mul_zero, Nat.add_zero, hv]
  have hx : xs.getD i 0 = L.getD i 0 := by
    have e1 : (L.take (i + 1)).getD i 0 = L.getD i 0 := by simp [List.getD_eq_getElem?_getD]
    have e2 : (xs.take (i + 1)).getD i 0 = xs.getD i 0 := by simp [List.getD_eq_getElem?_getD]
    rw [← e1, ← e2, h3]
  refine ⟨?_, ?_, ?_⟩
  · rw [hd, hv2]
    have hq2 : i < (Q.set i (val B (L.drop i) / Y)).length := by rw [List.length_set]; exact hq
    rw [val_drop B hq2, List.drop_set_of_lt (by omega)]
    rw [val_drop B (by omega : i < xs.length), h1, hx]
    have e3 : (Q.set i (val B (L.drop i) / Y)).getD i 0 = val B (L.drop i) / Y := by simp [List.getD_eq_getElem?_getD, hq]
    rw [e3, Nat.add_mul, Nat.add_right_comm, Nat.mul_comm (val B (L.drop i) / Y) Y, Nat.div_add_mod, val_drop B (by omega : i < L.length)]
    rw [Nat.mul_add, Nat.mul_assoc]
    omega
  · rw [hd, hv2]
    exact Nat.mod_lt _ hY0
  · rw [List.take_left' (by simp; omega)]
    have e4 : (L.take (i + 1)).take i = L.take i := by rw [List.take_take, Nat.min_eq_left (by omega)]
    have e5 : (xs.take (i + 1)).take i = xs.take i := by rw [List.take_take, Nat.min_eq_left (by omega)]
    rw [← e4, h3, e5]
/-- As it begins. -/
theorem LdInv.start {B : Nat} {xs Q : List Nat} {Y N m : Nat} (lx : Low B xs) (hl : xs.length + 1 = m + N) (hm : Q.length = m) (hY : B ^ (N - 1) ≤ Y) (hN : 1 ≤ N) : LdInv B (xs ++ [0]) Q (xs ++ [0]) Y m := by
  refine ⟨by rw [List.drop_of_length_le (by omega : Q.length ≤ m)]; simp, ?_, rfl⟩
  rw [List.drop_append_of_le_length (by omega), val_snoc, Nat.mul_zero, Nat.add_zero]
  have h1 := val_lt (lx.drop m)
  rw [List.length_drop, show xs.length - m = N - 1 by omega] at h1
  omega
theorem LdInv.done {B : Nat} {xs Q L : List Nat} {Y : Nat} (h : LdInv B (xs ++ [0]) Q L Y 0) : val B Q * Y + val B L = val B xs ∧ val B L < Y := by
  obtain ⟨h1, h2, _⟩ := h
  rw [List.drop_zero, List.drop_zero, List.drop_zero, val_snoc, Nat.mul_zero, Nat.add_zero] at h1
  rw [List.drop_zero] at h2
  exact ⟨h1.symm, h2⟩
/-- A guess that was too high by one: what was taken away too much comes back. -/
theorem take_back {B N g P Y P1 bw : Nat} (hg : P / Y ≤ g) (hg1 : g ≤ P / Y + 1) (hY0 : 0 < Y) (hP1 : P1 < B ^ N) (h : P1 + g * Y = P + B ^ N * bw) (hb : bw ≤ 1) :
    (bw = 0 → g = P / Y ∧ P1 = P % Y) ∧ (bw ≠ 0 → g = P / Y + 1 ∧ P1 + Y = B ^ N + P % Y) := by
  have e := Nat.div_add_mod P Y
  have hr := Nat.mod_lt P hY0
  rcases (show g = P / Y ∨ g = P / Y + 1 by omega) with rfl | rfl
  · rw [Nat.mul_comm] at h
    constructor
    · intro h0
      subst h0
      omega
    · intro h0
      have : bw = 1 := by omega
      subst this
      omega
  · rw [Nat.add_mul, Nat.one_mul, Nat.mul_comm (P / Y)] at h
    constructor
    · intro h0
      subst h0
      omega
    · intro h0
      have : bw = 1 := by omega
      subst this
      omega
theorem back_take {B : Nat} {S : List Nat} {N r : Nat} (lS : Low B S) (hl : N ≤ S.length) (h : val B S = B ^ N + r) (hr : r < B ^ N) : val B (S.take N) = r := by
  have e : val B S = val B (S.take N) + B ^ N * val B (S.drop N) := by
    have e1 : (S.take N).length = N := by simp; omega
    conv => lhs; rw [← List.take_append_drop N S, val_append, e1]
  have h1 := val_lt (lS.take N)
  rw [List.length_take, Nat.min_eq_left hl] at h1
  have h2 : val B (S.take N) % B ^ N = r := by
    have h3 : (val B (S.take N) + B ^ N * val B (S.drop N)) % B ^ N = (B ^ N + r) % B ^ N := by rw [← e, h]
    rw [Nat.add_mul_mod_self_left, Nat.add_mod_left] at h3
    rw [h3]
    exact Nat.mod_eq_of_lt hr
  rw [← h2]
  exact (Nat.mod_eq_of_lt h1).symm
end Dg
end Go.Proofs.YtmcfciifjgdgoaaGreatDoor
end

/- The walks of package varint: value, Get. -/
import Derived.Test.YtglekjhbpdoofaaDoorVi1
namespace Go.Proofs.YtglekjhbpdoofaaDoor
open Go.RowKit

theorem wrap64_fit {n : Int} (h : -9223372036854775808 ≤ n ∧ n ≤ 9223372036854775807) : wrap64 n = n := IntWalk.wrap64_in n h
theorem test_128 {x : Nat} (h : x < 256) (hm : 128 ≤ x) : (bits .and .u8 (x : Int) 128 != 0) = true := by
  have e := u8_and_nat x 128 h (by decide)
  rw [show (((128 : Nat) : Nat) : Int) = 128 from rfl] at e
  rw [e, show (128 : Nat) = 2 ^ 7 from rfl, nat_bit]
  have : x / 2 ^ 7 % 2 = 1 := by omega
  rw [this]; rfl
theorem test_128n {x : Nat} (h : x < 256) (hm : ¬ 128 ≤ x) : (bits .and .u8 (x : Int) 128 != 0) = false := by
  have e := u8_and_nat x 128 h (by decide)
  rw [show (((128 : Nat) : Nat) : Int) = 128 from rfl] at e
  rw [e, show (128 : Nat) = 2 ^ 7 from rfl, nat_bit]
  have : x / 2 ^ 7 % 2 = 0 := by omega
  rw [this]; rfl
theorem test_64 {x : Nat} (h : x < 128) (hm : 64 ≤ x) : (bits .and .u8 (x : Int) 64 != 0) = true := by
  have e := u8_and_nat x 64 (by omega) (by decide)
  rw [show (((64 : Nat) : Nat) : Int) = 64 from rfl] at e
  rw [e, show (64 : Nat) = 2 ^ 6 from rfl, nat_bit]
  have : x / 2 ^ 6 % 2 = 1 := by omega
  rw [this]; rfl
theorem test_64n {x : Nat} (h : x < 128) (hm : ¬ 64 ≤ x) : (bits .and .u8 (x : Int) 64 != 0) = false := by
  have e := u8_and_nat x 64 (by omega) (by decide)
  rw [show (((64 : Nat) : Nat) : Int) = 64 from rfl] at e
  rw [e, show (64 : Nat) = 2 ^ 6 from rfl, nat_bit]
  have : x / 2 ^ 6 % 2 = 0 := by omega
  rw [this]; rfl
def ValuePost (w : World) (xs : List Nat) (e : Ending) (w' : World) : Prop :=
  ∃ v, e = .returned (.int .i64 v) ∧ Vi.I64 v ∧ (∀ l, Vi.cut 10 xs = some l → v = Vi.val l) ∧ w' = w

set_option maxRecDepth 100000 in
set_option maxHeartbeats 1000000 in
theorem value_c (A : Option Addr) (c : Nat) (xs : List Nat) (w : World) (ha : BytesAt w w.heap.size A xs) (hc : xs.length ≤ c) (hl : c ≤ 9223372036854775807) :
    Calls Tryd.prog 33 #[.slice A xs.length c] w (ValuePost w xs) := by
  have HA := hid ha
  clear ha
  obtain ⟨N, hN⟩ : ∃ N, N = min xs.length 10 := ⟨_, rfl⟩
  have HN := hid hN
  have hN1 : N ≤ xs.length := by omega
  have hN2 : N ≤ 10 := by omega
  rcases Nat.lt_or_ge 10 xs.length with h10 | h10
  all_goals
    first
      | (have h10' : ¬ (xs.length : Int) ≤ 10 := by omega
         have HB := hid (show ∀ i : Nat, ¬ i < N → ¬ (i : Int) < 10 by omega))
      | (have h10' : (xs.length : Int) ≤ 10 := by omega
         have HB := hid (show ∀ i : Nat, ¬ i < N → ¬ (i : Int) < xs.length by omega))
    clear hN
    go_enter Tryd.func33, Tryd.ntmps33
    go_wp2_with fail
    try rw [show (max (10 : Int) 0) = 10 from rfl]
    go_loop [3, 12] (fun s3 s12 => ∃ (n : Int) (i : Nat), s3 = .int .i64 n ∧ s12 = .int .i64 ((i : Nat) : Int) ∧ i ≤ N ∧ Hid (Vi.Run xs i n)) (fun _ s12 => N - (intOf s12).toNat)
    case atStart => exact ⟨0, 0, rfl, rfl, Nat.zero_le _, hid (Vi.Run.start xs)⟩
    case round =>
      obtain ⟨n, i, rfl, rfl, hi, HR⟩ := hrel
      by_cases hlt : i < N
      · obtain ⟨ad, rfl, hb, hcell⟩ := HA.out.2 (by omega)
        have hx := hcell i (by omega)
        have hx256 := HA.out.lt i
        have f1 : (i : Int) < 10 := by omega
        have f2 : (i : Int) < xs.length := by omega
        clear hcell hb HB
        have e1 : bits .and .u8 ((xs.getD i 0 : Nat) : Int) 127 = ((xs.getD i 0 % 128 : Nat) : Int) := by
          have := u8_and_nat (xs.getD i 0) 127 hx256 (by decide)
          rw [nat_mask7] at this; exact this
        have e2 := hid (show bits .or .i64 n (wrap64 (wrap64 (bits .and .u8 ((xs.getD i 0 : Nat) : Int) 127) * 2 ^ (7 * i))) = wrap64 ((Vi.uv (xs.take (i + 1)) : Nat) : Int) by
          rw [e1, wrap64_fit (n := ((xs.getD i 0 % 128 : Nat) : Int)) (by omega)]
          exact HR.out.put (by omega) (by omega))
        clear e1
        obtain ⟨x, hxx⟩ : ∃ x, x = xs.getD i 0 := ⟨_, rfl⟩
        rw [← hxx] at hx hx256 e2
        have HX := hid hxx
        clear hxx
        have f3 : 0 ≤ 7 * ((i : Int) + 1) := by omega
        by_cases hm : 128 ≤ x
        · have t1 := test_128 hx256 hm
          go_wp2_with fail
          go_round
          case rel => exact ⟨_, i + 1, rfl, by go_num, by omega, hid (by rw [e2.out]; exact HR.out.more (by omega) (by rw [← HX.out]; exact hm))⟩
          case measure => simp [intOf]; omega
        · have t1 := test_128n hx256 hm
          by_cases hn : 64 ≤ x
          · have t2 := test_64 (by omega) hn
            have HH := hid (HR.out.high (by omega) (by omega) (by rw [← HX.out]; exact hn) (by rw [← HX.out]; omega))
            go_wp2_with fail
            go_ret
            refine ⟨_, rfl, ?_, fun l hl => ?_, rfl⟩
            · rw [e2.out, HH.out.2]; exact Vi.wrap64_bounds _
            · rw [e2.out, HH.out.2]
              rw [HH.out.1] at hl
              rw [Option.some.inj hl]
          · have t2 := test_64n (by omega) hn
            have HH := hid (HR.out.low (by omega) (by omega) (by rw [← HX.out]; omega))
            go_wp2_with fail
            go_ret
            refine ⟨_, rfl, ?_, fun l hl => ?_, rfl⟩
            · rw [e2.out]; exact Vi.wrap64_bounds _
            · rw [e2.out, HH.out.2]
              rw [HH.out.1] at hl
              rw [Option.some.inj hl]
      · have hB := HB.out i hlt
        have HE := hid (show Vi.cut 10 xs = none from Vi.Run.none (n := n) (by rw [← HN.out, show N = i by omega]; exact HR.out))
        go_wp2_with fail
        go_ret
        exact ⟨n, rfl, ⟨HR.out.2.2.1, HR.out.2.2.2⟩, fun l hl => (by rw [HE.out] at hl; cases hl), rfl⟩
end Go.Proofs.YtglekjhbpdoofaaDoor

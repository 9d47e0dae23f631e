/- Stage 7: the program's own number. -/
import Derived.Test.YtilikjfjbnabfaaGreatDoorOp8
import Derived.Laws.BitsAllLaws
namespace Go.Proofs.YtilikjfjbnabfaaGreatDoor
open Go.RowKit

theorem wrap64_of (n : Int) : IntKind.i64.wrap n = wrap64 n := by
  rw [IntKind.wrap_i64]; unfold wrap64; omega
theorem ofInt_i64 (n : Int) : (BitVec.ofInt 64 n).toNat = (n % 18446744073709551616).toNat := by
  simp [BitVec.toNat_ofInt]
theorem i64_or (a b : Int) : bits .or .i64 a b = wrap64 (((a % 18446744073709551616).toNat ||| (b % 18446744073709551616).toNat : Nat) : Int) := by
  show IntKind.i64.wrap ((BitVec.ofInt 64 a ||| BitVec.ofInt 64 b).toNat : Int) = _
  rw [BitVec.toNat_or, ofInt_i64, ofInt_i64, wrap64_of]
theorem or_256 (x y : Nat) (hx : x < 256) (hy : y < 256) : bits .or .i64 ((x : Int) * 256) (y : Int) = ((256 * x + y : Nat) : Int) := by
  rw [i64_or, show (((x : Int) * 256) % 18446744073709551616).toNat = x <<< 8 by rw [Nat.shiftLeft_eq]; omega, show ((y : Int) % 18446744073709551616).toNat = y by omega, ← Nat.shiftLeft_add_eq_or_of_lt (by omega : y < 2 ^ 8), Nat.shiftLeft_eq]
  unfold wrap64
  omega
theorem or_0 (x : Nat) (hx : x < 256) : bits .or .i64 0 (x : Int) = (x : Int) := by
  have := or_256 0 x (by decide) hx
  simpa using this

set_option maxRecDepth 100000 in
set_option maxHeartbeats 2000000 in
theorem number_c (A : Option Addr) (c : Nat) (xs : List Nat) (w : World) (hl : xs.length ≤ 2) (hb : ∀ x ∈ xs, x < 256) (h : NumsAt .u8 w w.heap.size A xs) :
    Calls Tryz.prog 68 #[.slice A xs.length c] w (fun e w' => e = .returned (.int .i64 ((Op7.un xs : Nat) : Int)) ∧ w' = w) := by
  match xs, hl, hb, h with
  | [], _, _, _ =>
    go_enter Tryz.func68, Tryz.ntmps68
    go_wp2_with fail
    refine wp_loop_rounds 3 ?_
    rw [rounds_succ]
    go_wp2_with fail
    go_ret
    exact ⟨rfl, rfl⟩
  | [x], _, hb, h =>
    have hx := hb x (by simp)
    obtain ⟨ad, rfl, hlt, hc⟩ := h (by simp)
    have c0 := hc 0 (by simp)
    rw [add_zero] at c0
    change _ = some (Value.int .u8 ((x : Nat) : Int)) at c0
    have o0 := or_0 x hx
    clear hc h
    rw [show ([x] : List Nat).length = 1 from rfl]
    go_enter Tryz.func68, Tryz.ntmps68
    go_wp2_with fail
    refine wp_loop_rounds 3 ?_
    rw [rounds_succ]
    go_wp2_with fail
    rw [rounds_succ]
    go_wp2_with fail
    go_ret
    exact ⟨rfl, rfl⟩
  | [x, y], _, hb, h =>
    have hx := hb x (by simp)
    have hy := hb y (by simp)
    obtain ⟨ad, rfl, hlt, hc⟩ := h (by simp)
    have c0 := hc 0 (by simp)
    have c1 := hc 1 (by simp)
    rw [add_zero] at c0
    change _ = some (Value.int .u8 ((x : Nat) : Int)) at c0
    change _ = some (Value.int .u8 ((y : Nat) : Int)) at c1
    rw [show ad.add 1 = ⟨ad.block, ad.off + 1, none⟩ by simp [Addr.add]] at c1
    have o0 := or_0 x hx
    have o1 := or_256 x y hx hy
    clear hc h
    rw [show ([x, y] : List Nat).length = 2 from rfl]
    go_enter Tryz.func68, Tryz.ntmps68
    go_wp2_with fail
    refine wp_loop_rounds 3 ?_
    rw [rounds_succ]
    go_wp2_with fail
    rw [rounds_succ]
    go_wp2_with fail
    rw [rounds_succ]
    go_wp2_with fail
    go_ret
    exact ⟨ret_int (by simp [Op7.un]), rfl⟩
end Go.Proofs.YtilikjfjbnabfaaGreatDoor

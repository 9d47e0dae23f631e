/- The walks of the document's own large numbers, part 1: bits in lists. -/
import Derived.Test.YtmcfciifjgdgoaaDoorProg
import Derived.Test.YtmcfciifjgdgoaaDoorOwn
import Derived.Test.YtmcfciifjgdgoaaDoorDig
namespace Go.Proofs.YtmcfciifjgdgoaaDoor
open Go.RowKit

theorem Tryd.info_u8 : (Tryd.prog.info? 5).map (fun i => (i.zero, i.size, i.bytes)) = some (some (.int .u8 0), 1, 1) := by kernel_rfl
theorem Tryd.info_u32 : (Tryd.prog.info? 48).map (fun i => (i.zero, i.size, i.bytes)) = some (some (.int .u32 0), 1, 4) := by kernel_rfl

theorem cut_step {bs : List Nat} {n : Nat} (hn : n < bs.length) (h : Dg.cut (bs.take (n + 1)) = Dg.cut bs) (hz : bs.getD n 0 = 0) : Dg.cut (bs.take n) = Dg.cut bs := by
  rw [← h, Dg.take_succ hn, hz, Dg.cut_snoc_zero]
theorem cut_stop {bs : List Nat} {n : Nat} (hn : n < bs.length) (h : Dg.cut (bs.take (n + 1)) = Dg.cut bs) (hz : bs.getD n 0 ≠ 0) : Dg.cut bs = bs.take (n + 1) := by
  rw [← h]
  refine Dg.cut_of_top ?_
  rw [Dg.take_succ hn]
  exact Dg.Top.snoc hz

/-! ### Bits of words -/
/-- The 'k' lowest bits of a number, the lowest first. -/
def low (x : Nat) : Nat → List Nat
  | 0 => []
  | k + 1 => low x k ++ [x / 2 ^ k % 2]
theorem low_len (x : Nat) : ∀ k, (low x k).length = k
  | 0 => rfl
  | k + 1 => by simp [low, low_len x k]
theorem low_low (x : Nat) : ∀ k, Dg.Low 2 (low x k)
  | 0 => Dg.Low.nil 2
  | k + 1 => (low_low x k).snoc (Nat.mod_lt _ (by decide))
theorem low_val (x : Nat) : ∀ k, Dg.val 2 (low x k) = x % 2 ^ k
  | 0 => by simp [low, Nat.mod_one]
  | k + 1 => by
    rw [low, Dg.val_snoc, low_len, low_val x k, Nat.pow_succ, Nat.mod_mul]
def flat (xs : List Nat) : List Nat := xs.flatMap (low · 32)
theorem flat_snoc (xs : List Nat) (x : Nat) : flat (xs ++ [x]) = flat xs ++ low x 32 := by simp [flat]
theorem flat_len : ∀ xs : List Nat, (flat xs).length = 32 * xs.length
  | [] => rfl
  | x :: r => by
    have := flat_len r
    simp only [flat, List.flatMap_cons, List.length_append, low_len, List.length_cons] at this ⊢
    omega
theorem flat_low : ∀ xs : List Nat, Dg.Low 2 (flat xs)
  | [] => Dg.Low.nil 2
  | x :: r => by
    have := flat_low r
    simp only [flat, List.flatMap_cons] at this ⊢
    exact (low_low x 32).append this
theorem flat_val : ∀ {xs : List Nat}, Dg.Low 4294967296 xs → Dg.val 2 (flat xs) = Dg.val 4294967296 xs
  | [], _ => rfl
  | x :: r, h => by
    have e : flat (x :: r) = low x 32 ++ flat r := by simp [flat]
    have h1 := h.head
    rw [e, Dg.val_append, low_len, low_val, flat_val h.tail, Dg.val_cons, Nat.mod_eq_of_lt h1]

theorem bit_val (x m : Nat) : Value.int .u8 (((x : Int) / 2 ^ m).tmod 2 % 256) = .int .u8 ((x / 2 ^ m % 2 : Nat) : Int) := by
  have e : ((x : Int) / 2 ^ m) = ((x / 2 ^ m : Nat) : Int) := by push_cast; rfl
  rw [e, Int.tmod_eq_emod_of_nonneg (Int.natCast_nonneg _)]
  congr 1
  omega

end Go.Proofs.YtmcfciifjgdgoaaDoor

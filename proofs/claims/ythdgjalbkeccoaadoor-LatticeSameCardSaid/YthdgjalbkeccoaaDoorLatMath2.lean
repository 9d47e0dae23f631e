/- What the laws say of the exported functions of a lattice, as plain facts. No program is named here. -/
import Derived.Test.YthdgjalbkeccoaaDoorLatMath
namespace Go.Proofs.YthdgjalbkeccoaaDoor.La

theorem level_nat {up : List Nat} {a : Nat} (ha : a < up.length) : isLevel up (a : Int) = true := by
  rw [isLevel, decide_eq_true (by omega), decide_eq_true (by omega)]; rfl
theorem leq_nat {up : List Nat} (hv : valid up = true) {a b : Nat} (ha : a < up.length) (hb : b < up.length) : leq up (a : Int) (b : Int) = low up a b := by
  rw [leq, can, level_nat ha, level_nat hb, hv, Int.toNat_natCast, Int.toNat_natCast]; rfl
theorem leq_past {up : List Nat} (a : Int) : leq up a (up.length : Int) = false := by
  have : isLevel up (up.length : Int) = false := by rw [isLevel, decide_eq_false (p := (up.length : Int) < up.length) (by omega), Bool.and_false]
  rw [leq, can, this]; simp
theorem leq_below {up : List Nat} (b : Int) : leq up (-1) b = false := by
  have : isLevel up (-1) = false := by rw [isLevel]; rfl
  rw [leq, can, this]; simp
theorem joinOf_nat {up : List Nat} (hv : valid up = true) {a b : Nat} (ha : a < up.length) (hb : b < up.length) : joinOf up (a : Int) (b : Int) = join up a b := by
  rw [joinOf, can, level_nat ha, level_nat hb, hv, Int.toNat_natCast, Int.toNat_natCast]; rfl
theorem meetOf_nat {up : List Nat} (hv : valid up = true) {a b : Nat} (ha : a < up.length) (hb : b < up.length) : meetOf up (a : Int) (b : Int) = join (flip up) a b := by
  rw [meetOf, can, level_nat ha, level_nat hb, hv, Int.toNat_natCast, Int.toNat_natCast]; rfl
theorem mod_nat (x n : Nat) (hn : 0 < n) : ∃ a : Nat, a < n ∧ ((x : Int) % (n : Int)) = (a : Int) := ⟨x % n, Nat.mod_lt _ hn, by push_cast; rfl⟩
theorem meet_iff {up : List Nat} {a b m d : Nat} (hml : m < up.length) (ha : a < up.length) (hb : b < up.length) (hd : d < up.length) (hm : IsJoin (flip up) a b m) : low up d m = (low up d a && low up d b) := by
  have := hm.2 d (by rw [flip_length]; exact hd)
  rwa [low_flip hml hd, low_flip ha hd, low_flip hb hd] at this
end Go.Proofs.YthdgjalbkeccoaaDoor.La

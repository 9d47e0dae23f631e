/- The document's own answers for law 07: put. -/
import Derived.Test.YtilikjfjbnabfaaGreatDoorOp2
namespace Go.Proofs.YtilikjfjbnabfaaGreatDoor
open Go.RowKit

theorem op_u8 : (Tryz.prog.info? 5).map (fun i => (i.zero, i.size, i.bytes)) = some (some (.int .u8 0), 1, 1) := by kernel_rfl

/-- What 'put' writes, whether the number fits or not. -/
def beI (n : Int) : Nat → List Nat
  | 0 => []
  | 1 => [(n % 256).toNat]
  | _ => [(n.tdiv 256 % 256).toNat, (n.tmod 256 % 256).toNat]
theorem beI_be {n : Int} {w : Nat} (h : w ≤ 2) (hf : Op7.fits n w) : beI n w = Op7.be n.toNat w := by
  obtain ⟨h0, h1⟩ := hf
  rcases (by omega : w = 0 ∨ w = 1 ∨ w = 2) with rfl | rfl | rfl
  · rfl
  · simp only [beI, Op7.be]
    congr 1; omega
  · simp only [beI, Op7.be]
    rw [Int.tdiv_eq_ediv_of_nonneg h0, Int.tmod_eq_emod_of_nonneg h0]
    congr 1
    · omega
    · congr 1; omega
theorem beI_len (n : Int) {w : Nat} (h : w ≤ 2) : (beI n w).length = w := by
  rcases (by omega : w = 0 ∨ w = 1 ∨ w = 2) with rfl | rfl | rfl <;> rfl
theorem beI_byte (n : Int) (w : Nat) : ∀ x ∈ beI n w, x < 256 := by
  intro x hx
  unfold beI at hx
  split at hx
  · simp at hx
  · simp at hx; omega
  · simp at hx; omega
theorem fits_0 (n : Int) : Op7.fits n 0 ↔ n = 0 := by unfold Op7.fits; rw [Int.pow_zero]; omega
theorem fits_1 (n : Int) : Op7.fits n 1 ↔ 0 ≤ n ∧ n < 256 := by unfold Op7.fits; rw [show (256 : Int) ^ 1 = 256 by decide]
theorem fits_2 (n : Int) : Op7.fits n 2 ↔ 0 ≤ n ∧ n < 65536 := by unfold Op7.fits; rw [show (256 : Int) ^ 2 = 65536 by decide]
theorem OwnNums.two {W : World} {e : TypeId} {k : IntKind} {u v : Value} {x y : Nat} (hu : u = .int k (x : Nat)) (hv : v = .int k (y : Nat)) : NumsAt k (W.alloc (.cells #[u, v] e)) (W.alloc (.cells #[u, v] e)).heap.size (some ⟨W.heap.size, 0, none⟩) [x, y] := by
  subst hu hv
  intro _
  refine ⟨_, rfl, by simp, fun j hj => ?_⟩
  rcases (by simpa using hj : j < 2) with h
  rcases (by omega : j = 0 ∨ j = 1) with rfl | rfl
  · rw [add_zero]; simp
  · simp [Addr.add]

theorem int_same {k : IntKind} {a b : Int} (h : a = b) : Value.int k a = .int k b := by rw [h]
theorem wrap64_low (x : Int) : wrap64 x % 256 = x % 256 := by unfold wrap64; omega
def RPutPost (w0 : World) (xs : List Nat) (n : Int) (k : Nat) (e : Ending) (w' : World) : Prop :=
  ∃ A' c' L, e = .returned (.tuple #[.slice A' (List.length L) c', .bool (decide (Op7.fits n k))]) ∧ L = xs ++ beI n k ∧ OwnNums .u8 w0 w' 5 A' c' L ∧ Grew w0 w'
end Go.Proofs.YtilikjfjbnabfaaGreatDoor

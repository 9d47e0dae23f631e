/- Texts of this claim in one: Pl14 LgQ. -/
import Derived.Test.YtmcfciifjgdgoaaDoorPl12
import Derived.Test.YtmcfciifjgdgoaaDoorPl4
import Derived.Test.YtmcfciifjgdgoaaDoorMg6
section
/- The developers' large numbers, part 14: a magnitude divided by one word. -/
namespace Go.Proofs.YtmcfciifjgdgoaaDoor
open Go.RowKit

/-- The quotient and what is left. -/
def DmPost (w : World) (X Y : Nat) (e : Ending) (w' : World) : Prop := ∃ A c Q B d R, e = .returned (.tuple #[.slice A (List.length Q) c, .slice B (List.length R) d]) ∧ OwnNums .u32 w w' 48 A c Q ∧ OwnNums .u32 w w' 48 B d R ∧ (Dg.Low 4294967296 Q ∧ Dg.Low 4294967296 R ∧ Dg.Top R) ∧ (Dg.val 4294967296 Q * Y + Dg.val 4294967296 R = X ∧ Dg.val 4294967296 R < Y) ∧ (Q.length ≤ 100000 ∧ R.length ≤ 100000) ∧ Grew w w'

set_option maxHeartbeats 2000000 in
theorem pdivMags_1 (A : Option Addr) (c : Nat) (xs : List Nat) (B : Option Addr) (d : Nat) (y : Nat) (w : World) (ha : NumsAt .u32 w w.heap.size A xs) (hb : NumsAt .u32 w w.heap.size B [y]) (la : Dg.Low 4294967296 xs) (hy0 : 0 < y) (hy : y < 4294967296) (h0 : 0 < xs.length) (hn : xs.length ≤ 64) :
    Calls Tryd.prog 35 #[.slice A xs.length c, .slice B 1 d] w (DmPost w (Dg.val 4294967296 xs) y) := by
  have CW := hid (pdivWord_c A c xs y w ha la hy0 hy (by omega))
  obtain ⟨ad, rfl, had, hca⟩ := hb (show 0 < [y].length from Nat.one_pos)
  have hc0 := hca 0 (show 0 < [y].length from Nat.one_pos)
  rw [show ([y].getD 0 0) = y from rfl, show ad.add 0 = ad from rfl] at hc0
  clear ha hca
  have t1 : ¬ (xs.length : Int) < 1 := by omega
  go_enter Tryd.func35, Tryd.ntmps35
  go_wp2_with fail
  refine CW.out.mono ?_
  rintro e w1 ⟨A', c', M', r, rfl, hO, hl, ht, hv, hr, hg⟩
  have hMl := Dg.len_le (B := 4294967296) (by decide) la ht (by rw [← hv]; exact Nat.le_trans (Nat.le_mul_of_pos_right _ hy0) (Nat.le_add_right _ _))
  have hN := OwnNums.new .u32 48 [r] hg (by simp)
  rw [one_cells] at hN
  have HN := hid hN
  have CT := ptrim_c (some ⟨w1.heap.size, 0, none⟩) 1 [r] (w1.alloc (.cells #[.int .u32 ((r : Nat) : Int)] 48)) hN.at (by simp) (by simp) (by decide)
  rw [show [r].length = 1 from rfl] at CT
  replace CT := hid CT
  have HR := hid (show Dg.val 4294967296 (Dg.cut [r]) = r by rw [Dg.cut_val, one_val])
  have HRl := hid (show Dg.Low 4294967296 (Dg.cut [r]) ∧ Dg.Top (Dg.cut [r]) ∧ (Dg.cut [r]).length ≤ 1 from ⟨Dg.cut_low (one_low (by omega)), Dg.cut_top _, Dg.cut_len [r]⟩)
  have HNT := hid (show OwnNums .u32 w (w1.alloc (.cells #[.int .u32 ((r : Nat) : Int)] 48)) 48 (some ⟨w1.heap.size, 0, none⟩) 1 (Dg.cut [r]) by
    have h := hN.take (Dg.cut [r]).length
    rwa [← Dg.cut_take] at h)
  have HOA := hid (hO.alloc (.cells #[.int .u32 ((r : Nat) : Int)] 48))
  have HG := hid (hg.alloc (.cells #[.int .u32 ((r : Nat) : Int)] 48))
  have HV := hid hv
  generalize Dg.cut [r] = R at *
  clear hN HN hO hg CW hv
  go_wp2_with fail
  refine CT.out.mono ?_
  rintro e w2 ⟨rfl, rfl⟩
  go_wp2_with fail
  refine bodyPost_ret (v := .tuple #[.slice A' M'.length c', .slice (some ⟨w1.heap.size, 0, none⟩) R.length 1]) (by simp [results, Tryd.results35, go_sem, *]) rfl ?_
  exact ⟨A', c', M', _, 1, R, rfl, HOA.out, HNT.out, ⟨hl, HRl.out.1, HRl.out.2.1⟩, by rw [HR.out]; exact ⟨HV.out, hr⟩, by have := HRl.out.2.2; omega, HG.out⟩
end Go.Proofs.YtmcfciifjgdgoaaDoor
end

section
/- Quotients that are rounded down, with signs. No program is named here. -/
namespace Go.Proofs.YtmcfciifjgdgoaaDoor
namespace Lg
open Dg
theorem small_mult {b k : Int} (h : (b * k).natAbs < b.natAbs) : k = 0 := by
  rw [Int.natAbs_mul] at h
  have : k.natAbs = 0 := by
    rcases Nat.eq_zero_or_pos k.natAbs with h1 | h1
    · exact h1
    · exfalso
      have := Nat.le_mul_of_pos_right b.natAbs h1
      omega
  omega
theorem fmod_neg_bd (a : Int) {b : Int} (hb : b < 0) : b < a.fmod b ∧ a.fmod b ≤ 0 := by
  have e := Int.neg_fmod_neg (-a) (-b)
  have h1 := Int.fmod_nonneg_of_pos (-a) (b := -b) (by omega)
  have h2 := Int.fmod_lt_of_pos (-a) (b := -b) (by omega)
  rw [Int.neg_neg, Int.neg_neg] at e
  omega
/-- The quotient that is rounded down is told by what is left. -/
theorem fdiv_unique {a b q r : Int} (h0 : b ≠ 0) (h : q * b + r = a) (hp : 0 < b → 0 ≤ r ∧ r < b) (hn : b < 0 → b < r ∧ r ≤ 0) : a.fdiv b = q ∧ a.fmod b = r := by
  have h1 := Int.mul_fdiv_add_fmod a b
  have e : b * (a.fdiv b - q) = r - a.fmod b := by
    rw [Int.mul_sub, Int.mul_comm b q]; omega
  have : a.fdiv b - q = 0 := by
    refine small_mult (b := b) ?_
    rw [e]
    rcases Int.lt_or_gt_of_ne h0 with hb | hb
    · have h2 := fmod_neg_bd a hb
      have hr := hn hb
      omega
    · have h2 := Int.fmod_nonneg_of_pos a hb
      have h3 := Int.fmod_lt_of_pos a hb
      have hr := hp hb
      omega
  have hq : a.fdiv b = q := by omega
  rw [this, Int.mul_zero] at e
  exact ⟨hq, by omega⟩
/-- The signs' part of a quotient that is rounded down. -/
theorem div_signs {na nb : Bool} {x y n r : Nat} (h : x = n * y + r) (hr : r < y) :
    (na = nb → (sgn na x).fdiv (sgn nb y) = sgn false n ∧ (sgn na x).fmod (sgn nb y) = sgn nb r) ∧
    (na ≠ nb → r = 0 → (sgn na x).fdiv (sgn nb y) = sgn true n ∧ (sgn na x).fmod (sgn nb y) = sgn nb 0) ∧
    (na ≠ nb → 0 < r → (sgn na x).fdiv (sgn nb y) = sgn true (n + 1) ∧ (sgn na x).fmod (sgn nb y) = sgn nb (y - r)) := by
  have hx : (x : Int) = (n : Int) * (y : Int) + (r : Int) := by rw [h]; push_cast; rfl
  have hy : 0 < y := by omega
  have hsub : ∀ k : Nat, k ≤ y → ((y - k : Nat) : Int) = (y : Int) - (k : Int) := fun k hk => by omega
  refine ⟨fun e => ?_, fun e hz => ?_, fun e hp => ?_⟩
  · subst e
    cases na
    · refine fdiv_unique (by simp [sgn]; omega) (by simp [sgn]; omega) (fun _ => by simp [sgn]; omega) (fun hb => by simp [sgn] at hb; omega)
    · refine fdiv_unique (by simp [sgn]; omega) (by simp [sgn, Int.mul_neg]; omega) (fun hb => by simp [sgn] at hb; omega) (fun _ => by simp [sgn]; omega)
  · subst hz
    cases na <;> cases nb
    · exact absurd rfl e
    · refine fdiv_unique (by simp [sgn]; omega) (by simp [sgn, Int.neg_mul, Int.mul_neg]; omega) (fun hb => by simp [sgn] at hb; omega) (fun _ => by simp [sgn]; omega)
    · refine fdiv_unique (by simp [sgn]; omega) (by simp [sgn, Int.neg_mul]; omega) (fun _ => by simp [sgn]; omega) (fun hb => by simp [sgn] at hb; omega)
    · exact absurd rfl e
  · have hs := hsub r (by omega)
    cases na <;> cases nb
    · exact absurd rfl e
    · refine fdiv_unique (by simp [sgn]; omega) ?_ (fun hb => by simp [sgn] at hb; omega) (fun _ => by simp [sgn]; omega)
      simp only [sgn, if_true, Bool.false_eq_true, if_false, hs, Int.neg_mul_neg]
      push_cast
      rw [Int.add_mul]
      omega
    · refine fdiv_unique (by simp [sgn]; omega) ?_ (fun _ => by simp [sgn]; omega) (fun hb => by simp [sgn] at hb; omega)
      simp only [sgn, if_true, Bool.false_eq_true, if_false, hs, Int.neg_mul]
      push_cast
      rw [Int.add_mul]
      omega
    · exact absurd rfl e
end Lg
end Go.Proofs.YtmcfciifjgdgoaaDoor
end

/- The developers' large numbers, part 14: a magnitude divided by one word. -/
import Derived.Test.YtmcfciifjgdgoaaGreatDoorPl12
import Derived.Test.YtmcfciifjgdgoaaGreatDoorPl4
namespace Go.Proofs.YtmcfciifjgdgoaaGreatDoor
open Go.RowKit

/-- The quotient and what is left. -/
def DmPost (w : World) (X Y : Nat) (e : Ending) (w' : World) : Prop := ∃ A c Q B d R, e = .returned (.tuple #[.slice A (List.length Q) c, .slice B (List.length R) d]) ∧ OwnNums .u32 w w' 55 A c Q ∧ OwnNums .u32 w w' 55 B d R ∧ (Dg.Low 4294967296 Q ∧ Dg.Low 4294967296 R ∧ Dg.Top R) ∧ (Dg.val 4294967296 Q * Y + Dg.val 4294967296 R = X ∧ Dg.val 4294967296 R < Y) ∧ (Q.length ≤ 100000 ∧ R.length ≤ 100000) ∧ Grew w w'

set_option maxHeartbeats 2000000 in
theorem pdivMags_1 (A : Option Addr) (c : Nat) (xs : List Nat) (B : Option Addr) (d : Nat) (y : Nat) (w : World) (ha : NumsAt .u32 w w.heap.size A xs) (hb : NumsAt .u32 w w.heap.size B [y]) (la : Dg.Low 4294967296 xs) (hy0 : 0 < y) (hy : y < 4294967296) (h0 : 0 < xs.length) (hn : xs.length ≤ 64) :
    Calls Tryz.prog 35 #[.slice A xs.length c, .slice B 1 d] w (DmPost w (Dg.val 4294967296 xs) y) := by
  have CW := hid (pdivWord_c A c xs y w ha la hy0 hy (by omega))
  obtain ⟨ad, rfl, had, hca⟩ := hb (show 0 < [y].length from Nat.one_pos)
  have hc0 := hca 0 (show 0 < [y].length from Nat.one_pos)
  rw [show ([y].getD 0 0) = y from rfl, show ad.add 0 = ad from rfl] at hc0
  clear ha hca
  have t1 : ¬ (xs.length : Int) < 1 := by omega
  go_enter Tryz.func35, Tryz.ntmps35
  go_wp2_with fail
  refine CW.out.mono ?_
  rintro e w1 ⟨A', c', M', r, rfl, hO, hl, ht, hv, hr, hg⟩
  have hMl := Dg.len_le (B := 4294967296) (by decide) la ht (by rw [← hv]; exact Nat.le_trans (Nat.le_mul_of_pos_right _ hy0) (Nat.le_add_right _ _))
  have hN := OwnNums.new .u32 55 [r] hg (by simp)
  rw [one_cells] at hN
  have HN := hid hN
  have CT := ptrim_c (some ⟨w1.heap.size, 0, none⟩) 1 [r] (w1.alloc (.cells #[.int .u32 ((r : Nat) : Int)] 55)) hN.at (by simp) (by simp) (by decide)
  rw [show [r].length = 1 from rfl] at CT
  replace CT := hid CT
  have HR := hid (show Dg.val 4294967296 (Dg.cut [r]) = r by rw [Dg.cut_val, one_val])
  have HRl := hid (show Dg.Low 4294967296 (Dg.cut [r]) ∧ Dg.Top (Dg.cut [r]) ∧ (Dg.cut [r]).length ≤ 1 from ⟨Dg.cut_low (one_low (by omega)), Dg.cut_top _, Dg.cut_len [r]⟩)
  have HNT := hid (show OwnNums .u32 w (w1.alloc (.cells #[.int .u32 ((r : Nat) : Int)] 55)) 55 (some ⟨w1.heap.size, 0, none⟩) 1 (Dg.cut [r]) by
    have h := hN.take (Dg.cut [r]).length
    rwa [← Dg.cut_take] at h)
  have HOA := hid (hO.alloc (.cells #[.int .u32 ((r : Nat) : Int)] 55))
  have HG := hid (hg.alloc (.cells #[.int .u32 ((r : Nat) : Int)] 55))
  have HV := hid hv
  generalize Dg.cut [r] = R at *
  clear hN HN hO hg CW hv
  go_wp2_with fail
  refine CT.out.mono ?_
  rintro e w2 ⟨rfl, rfl⟩
  go_wp2_with fail
  refine bodyPost_ret (v := .tuple #[.slice A' M'.length c', .slice (some ⟨w1.heap.size, 0, none⟩) R.length 1]) (by simp [results, Tryz.results35, go_sem, *]) rfl ?_
  exact ⟨A', c', M', _, 1, R, rfl, HOA.out, HNT.out, ⟨hl, HRl.out.1, HRl.out.2.1⟩, by rw [HR.out]; exact ⟨HV.out, hr⟩, by have := HRl.out.2.2; omega, HG.out⟩
end Go.Proofs.YtmcfciifjgdgoaaGreatDoor

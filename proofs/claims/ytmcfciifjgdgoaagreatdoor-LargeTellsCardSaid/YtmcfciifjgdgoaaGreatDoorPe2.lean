/- The developers' large numbers: a digit's times a divisor taken away from words that lie within others. -/
import Derived.Test.YtmcfciifjgdgoaaGreatDoorMg45
import Derived.Test.YtmcfciifjgdgoaaGreatDoorPl6
import Derived.Test.YtmcfciifjgdgoaaGreatDoorPl12
namespace Go.Proofs.YtmcfciifjgdgoaaGreatDoor
open Go.RowKit

/-- What holds between two rounds. -/
def TkInv (P M L : List Nat) (j bw : Nat) : Prop := L.length = P.length ∧ Dg.Low 4294967296 L ∧ Dg.val 4294967296 (L.take j) + Dg.val 4294967296 (M.take j) = Dg.val 4294967296 (P.take j) + 4294967296 ^ j * bw ∧ ∀ k, j ≤ k → L.getD k 0 = P.getD k 0

set_option maxRecDepth 100000 in
set_option maxHeartbeats 4000000 in
theorem take_c (H i c : Nat) (pre P post : List Nat) (sp : List Value) (B : Option Addr) (d : Nat) (Y : List Nat) (n g : Nat) (w : World) (hB : Blk w H 55 (rowOf (pre ++ (P ++ post)) sp)) (hi : pre.length = i) (hY : Y.length = n) (hP : P.length = n + 1)
    (hb : NumsAt .u32 w w.heap.size B Y) (hne : ∀ ad, B = some ad → ad.block ≠ H) (lP : Dg.Low 4294967296 P) (lY : Dg.Low 4294967296 Y) (hg : g < 4294967296) (hn : n ≤ 90000) :
    Calls Tryz.prog 74 #[.slice (some ⟨H, i, none⟩) (n + 1) c, .slice B n d, .int .u32 ((g : Nat) : Int)] w fun e w' => ∃ (P' : List Nat) (bw : Nat), e = .returned (.bool (((bw : Nat) : Int) != 0)) ∧ (bw ≤ 1 ∧ P'.length = n + 1 ∧ Dg.Low 4294967296 P' ∧ Dg.val 4294967296 P' + g * Dg.val 4294967296 Y = Dg.val 4294967296 P + 4294967296 ^ (n + 1) * bw) ∧ But H w w' ∧ Blk w' H 55 (rowOf (pre ++ (P' ++ post)) sp) := by
  have HB := hid hB
  have HN := hid hne
  have HI := hid hi
  have HP := hid hP
  have CM := hid (fun (V : World) (hv : Grew w V) => pmulMags_c B d Y (some ⟨V.heap.size, 0, none⟩) 1 [g] (V.alloc (.cells #[.int .u32 ((g : Nat) : Int)] 55)) (hb.grew (hv.alloc _)) (NumsAt.one _ _ _ _) lY (one_low hg) (by omega) (by simp))
  rw [hY, show [g].length = 1 from rfl] at CM
  have hlt := hB.lt
  clear hB hne hi hP hb lY
  go_enter Tryz.func74, Tryz.ntmps74
  go_wp2_with fail
  refine (CM.out w (Grew.refl _)).mono ?_
  rintro e w1 ⟨A1, c1, M, rfl, hO, lM, vM, hM, hG⟩
  have HG := hid (((Grew.refl w).alloc (.cells #[.int .u32 ((g : Nat) : Int)] 55)).trans hG)
  have HO := hid hO
  have HV := hid vM
  rw [hM]
  have HM := hid hM
  have HMN := hid (show 0 < M.length → ∀ ad, A1 = some ad → ad.block ≠ H from fun _ ad e => by
    rcases hO.cases with ⟨h1, _⟩ | ⟨g1, h1, h2, _⟩
    · rw [h1] at e; cases e
    · rw [h1] at e
      cases e
      rw [World.size_alloc] at h2
      show g1 ≠ H
      omega)
  clear CM hO hG vM hM
  go_wp2_with fail
  go_loopw [7, 15] (fun cv kv wr => ∃ (j bw : Nat) (L : List Nat), kv = .int .i64 ((j : Nat) : Int) ∧ cv = .int .u32 ((bw : Nat) : Int) ∧ j ≤ n + 1 ∧ bw ≤ 1 ∧ Hid (Blk wr H 55 (rowOf (pre ++ (L ++ post)) sp)) ∧ Hid (But H w1 wr) ∧ Hid (TkInv P M L j bw)) (fun _ kv _ => n + 1 - (intOf kv).toNat)
  case atStart => exact ⟨0, 0, P, rfl, rfl, Nat.zero_le _, Nat.zero_le _, hid (HB.out.grew HG.out), hid (But.refl _ _), hid ⟨rfl, lP, by simp, fun _ _ => rfl⟩⟩
  case round =>
    obtain ⟨j, bw, L, rfl, rfl, hj, hbw, HK, HU, HT⟩ := hrel
    by_cases hlt2 : j < n + 1
    · have hlt' : (j : Int) < (n : Int) + 1 := by omega
      obtain ⟨ad, rfl, had, hca⟩ := (But.nums HO.out.at HU.out HMN.out) (by rw [HM.out]; omega)
      have hcm := hca j (by rw [HM.out]; exact hlt2)
      have hcp := HK.out.cell (i + j)
      have hfp := HK.out.frozen (i + j)
      have hL := HT.out.1
      rw [rowOf_get (by simp only [List.length_append]; have := HI.out; have := HP.out; omega), mid_get HI.out (by have := HP.out; omega), HT.out.2.2.2 j (Nat.le_refl _)] at hcp
      have hx := Dg.Low.getD (by decide) lP j
      have hy := Dg.Low.getD (by decide) lM j
      clear hca
      obtain ⟨x, ex⟩ : ∃ x, x = P.getD j 0 := ⟨_, rfl⟩
      obtain ⟨y, ey⟩ : ∃ y, y = M.getD j 0 := ⟨_, rfl⟩
      rw [← ex] at hcp hx
      rw [← ey] at hcm hy
      have HR := hid (Dg.sub_round (B := 4294967296) (d := (x + 8589934592 - y - bw) % 4294967296) (bw' := if x < y + bw then 1 else 0) (by have := HP.out; omega) HT.out.2.2.1 (by rw [← ex, ← ey]; exact Dg.sub_word hx hy hbw))
      have hb1 : (if x < y + bw then 1 else 0 : Nat) ≤ 1 := by split <;> omega
      have CS := hid (sub32_c x y bw wr hx hy hbw)
      have HDD := hid (show (x + 8589934592 - y - bw) % 4294967296 < 4294967296 from Nat.mod_lt _ (by decide))
      clear ex ey hL
      generalize (x + 8589934592 - y - bw) % 4294967296 = dd at *
      generalize (if x < y + bw then 1 else 0 : Nat) = bb at *
      go_wp2_with (go_at_call 60; ((with_reducible refine CS.out.mono ?_); rintro e w' ⟨rfl, rfl⟩))
      go_roundw
      case rel =>
        refine ⟨j + 1, bb, L.set j dd, by go_num, rfl, by omega, hb1, hid ?_, hid (HU.out.setCell rfl _), hid ⟨by rw [List.length_set]; exact HT.out.1, HT.out.2.1.set HDD.out _, HR.out, fun k hk => ?_⟩⟩
        · have := HK.out.put (i + j) (.int .u32 ((dd : Nat) : Int))
          rw [rowOf_set (by simp only [List.length_append]; have := HI.out; have := HT.out.1; have := HP.out; omega), mid_set HI.out (by have := HT.out.1; have := HP.out; omega)] at this
          exact this
        · rw [Dg.getD_set_ne (by omega)]
          exact HT.out.2.2.2 k (by omega)
      case measure => simp [intOf]; omega
    · obtain rfl : j = n + 1 := by omega
      have HE := hid (show Dg.val 4294967296 L + g * Dg.val 4294967296 Y = Dg.val 4294967296 P + 4294967296 ^ (n + 1) * bw by
        have h1 := HT.out.2.2.1
        rw [List.take_of_length_le (by have := HT.out.1; have := HP.out; omega), List.take_of_length_le (by rw [HM.out]; exact Nat.le_refl _), List.take_of_length_le (by have := HP.out; omega)] at h1
        rw [← h1, HV.out, one_val, Nat.mul_comm])
      go_wp2_with fail
      go_ret
      exact ⟨L, bw, rfl, ⟨hbw, by rw [HT.out.1, HP.out], HT.out.2.1, HE.out⟩, (But.of_grew HG.out).trans HU.out, HK.out⟩
end Go.Proofs.YtmcfciifjgdgoaaGreatDoor

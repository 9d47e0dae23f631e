/- The developers' large numbers, part 6: magnitudes multiplied. -/
import Derived.Test.YtmcfciifjgdgoaaGreatDoorPl2
import Derived.Test.YtmcfciifjgdgoaaGreatDoorDig2
namespace Go.Proofs.YtmcfciifjgdgoaaGreatDoor
open Go.RowKit

set_option maxRecDepth 100000 in
set_option maxHeartbeats 4000000 in
theorem pmulMags_c (A : Option Addr) (c : Nat) (xs : List Nat) (B : Option Addr) (d : Nat) (ys : List Nat) (w : World) (ha : NumsAt .u32 w w.heap.size A xs) (hb : NumsAt .u32 w w.heap.size B ys) (la : Dg.Low 4294967296 xs) (lb : Dg.Low 4294967296 ys) (hn : xs.length ≤ 100000) (hm : ys.length ≤ 100000) :
    Calls Tryz.prog 33 #[.slice A xs.length c, .slice B ys.length d] w fun e w' => ∃ A' c' L, e = .returned (.slice A' L.length c') ∧ OwnNums .u32 w w' 55 A' c' L ∧ Dg.Low 4294967296 L ∧ Dg.val 4294967296 L = Dg.val 4294967296 xs * Dg.val 4294967296 ys ∧ L.length = xs.length + ys.length ∧ Grew w w' := by
  have HA := hid ha
  have HB := hid hb
  clear ha hb
  obtain ⟨n, en⟩ : ∃ n, n = xs.length := ⟨_, rfl⟩
  obtain ⟨m, em⟩ : ∃ m, m = ys.length := ⟨_, rfl⟩
  have EN := hid en
  have EM := hid em
  rw [← en] at hn ⊢
  rw [← em] at hm ⊢
  clear en em
  have hmk : ∀ W, (Instr.makeSlice 22 (.int .i64 ((n : Int) + (m : Int))) (.int .i64 ((n : Int) + (m : Int)))).run Tryz.prog W = .ok (.slice (some ⟨W.heap.size, 0, none⟩) (n + m) (n + m)) (W.alloc (.cells (numCells .u32 (List.replicate (n + m) 0)).toArray 55)) := fun W => by
    have := make_u32 Tryz.underlying22 Tryz.info_u32 (n + m) (by omega) W
    rwa [Int.natCast_add] at this
  go_enter Tryz.func33, Tryz.ntmps33
  go_wp2_with fail
  clear hmk
  have hO := OwnNums.new .u32 55 (List.replicate (n + m) 0) (Grew.refl w) (by simp; omega)
  rw [List.length_replicate] at hO
  have HO := hid hO
  have HG := hid ((Grew.refl w).alloc (.cells (numCells .u32 (List.replicate (n + m) 0)).toArray 55))
  clear hO
  generalize w.alloc (.cells (numCells .u32 (List.replicate (n + m) 0)).toArray 55) = wq at *
  go_loopw [19] (fun kv wr => ∃ (i : Nat) (L : List Nat), kv = .int .i64 i ∧ OwnNums .u32 w wr 55 (some ⟨w.heap.size, 0, none⟩) (n + m) L ∧ Grew w wr ∧ i ≤ n ∧ Hid (L.length = n + m ∧ Dg.Low 4294967296 L ∧ Dg.val 4294967296 (L.take (i + m)) = Dg.val 4294967296 (xs.take i) * Dg.val 4294967296 ys ∧ ∀ j, i + m ≤ j → L.getD j 0 = 0)) (fun kv _ => n - (intOf kv).toNat)
  case atStart => exact ⟨0, List.replicate (n + m) 0, rfl, HO.out, HG.out, by omega, hid ⟨by simp, Dg.low_zeros _ _ (by decide), by rw [List.take_replicate, Dg.val_zeros]; simp, fun j _ => by simp [List.getD_eq_getElem?_getD, List.getElem?_replicate]; split <;> rfl⟩⟩
  case round =>
    clear HO HG
    obtain ⟨i, L, rfl, hown, hg, hi, HL⟩ := hrel
    by_cases hlt : i < n
    · have hlt' : (i : Int) < (n : Int) := by omega
      obtain ⟨ad, rfl, had, hca⟩ := HA.out (by have := EN.out; omega)
      have hcx : wr.cell? (ad.add i) = some (.int .u32 ((xs.getD i 0 : Nat) : Int)) := by rw [hg.below.cell (by rw [block_add]; exact had)]; exact hca i (by have := EN.out; omega)
      clear hca
      have hx := Dg.Low.getD (by decide) la i
      obtain ⟨x, ex⟩ : ∃ x, x = xs.getD i 0 := ⟨_, rfl⟩
      rw [← ex] at hx hcx
      have EX := hid ex
      clear ex
      obtain ⟨wo, rfl⟩ : ∃ wo : World, wo = wr := ⟨_, rfl⟩
      go_wp2_with fail
      go_loopw [8, 26] (fun cv kv wr => ∃ (j cy : Nat) (P : List Nat), kv = .int .i64 j ∧ cv = .int .u64 cy ∧ OwnNums .u32 w wr 55 (some ⟨w.heap.size, 0, none⟩) (n + m) P ∧ Grew w wr ∧ j ≤ m ∧ cy < 4294967296 ∧ Hid (P.length = n + m ∧ Dg.Low 4294967296 P ∧ Dg.val 4294967296 (P.take (i + j)) + 4294967296 ^ (i + j) * cy = Dg.val 4294967296 (L.take (i + j)) + 4294967296 ^ i * (x * Dg.val 4294967296 (ys.take j)) ∧ ∀ k, i + j ≤ k → P.getD k 0 = L.getD k 0)) (fun _ kv _ => m - (intOf kv).toNat)
      case atStart => exact ⟨0, 0, L, rfl, rfl, hown, hg, by omega, by decide, hid ⟨HL.out.1, HL.out.2.1, by simp, fun _ _ => rfl⟩⟩
      case round =>
        clear hown hg hcx
        obtain ⟨j, cy, P, rfl, rfl, hown, hg, hj, hcy, HP⟩ := hrel
        by_cases hlt2 : j < m
        · have hlt2' : (j : Int) < (m : Int) := by omega
          obtain ⟨bd, rfl, hbd, hcb⟩ := HB.out (by have := EM.out; omega)
          have hcy2 : wr.cell? (bd.add j) = some (.int .u32 ((ys.getD j 0 : Nat) : Int)) := by rw [hg.below.cell (by rw [block_add]; exact hbd)]; exact hcb j (by have := EM.out; omega)
          clear hcb
          have hy := Dg.Low.getD (by decide) lb j
          obtain ⟨y, ey⟩ : ∃ y, y = ys.getD j 0 := ⟨_, rfl⟩
          rw [← ey] at hy hcy2
          rcases hown.cases with ⟨h1, _⟩ | ⟨g, h1, hg0, hg1, hcell, hfro, hcap⟩
          · cases h1
          obtain rfl : w.heap.size = g := by simpa using h1
          have c1 := hcell (i + j) (by have := HP.out.1; omega)
          have f1 := hfro (i + j)
          have hp := Dg.Low.getD (by decide) HP.out.2.1 (i + j)
          clear hcell hfro h1
          obtain ⟨p, ep⟩ : ∃ p, p = P.getD (i + j) 0 := ⟨_, rfl⟩
          rw [← ep] at c1 hp
          have ep2 : p = L.getD (i + j) 0 := ep.trans (HP.out.2.2.2 (i + j) (Nat.le_refl _))
          have HR := hid (Dg.mul_round (B := 4294967296) (t := cy + (x * y + p)) (by have := HP.out.1; omega) HP.out.2.2.1 ey (by rw [ep2]))
          have hb := Dg.mul_carry hx hy hcy hp
          clear ep ep2 ey
          obtain ⟨q, eq⟩ : ∃ q, q = x * y := ⟨_, rfl⟩
          have hq : (x : Int) * (y : Int) = (q : Int) := by rw [eq]; push_cast; rfl
          rw [← eq] at HR hb
          clear eq
          go_wp2_with fail
          go_roundw
          case rel => exact ⟨j + 1, (cy + (q + p)) / 4294967296, P.set (i + j) ((cy + (q + p)) % 4294967296), by go_num, rfl, hown.set (i + j) _, hg.setCell (Nat.le_refl _) _, by omega, by omega, hid ⟨by rw [List.length_set]; exact HP.out.1, HP.out.2.1.set (Nat.mod_lt _ (by decide)) _, HR.out, fun k hk => by rw [← HP.out.2.2.2 k (by omega)]; exact Dg.getD_set_ne (by omega)⟩⟩
          case measure => simp [intOf]; omega
        · obtain rfl : j = m := by omega
          rcases hown.cases with ⟨h1, _⟩ | ⟨g, h1, hg0, hg1, hcell, hfro, hcap⟩
          · cases h1
          obtain rfl : w.heap.size = g := by simpa using h1
          have c1 := hcell (i + j) (by have := HP.out.1; omega)
          have f1 := hfro (i + j)
          clear hcell hfro h1
          generalize P.getD (i + j) 0 = p at *
          have HE := hid (Dg.mul_next (B := 4294967296) (P := P) (P0 := L) (xs := xs) (ys := ys) (i := i) (w := x) (c := cy) (by have := HP.out.1; have := EM.out; omega) EX.out (by rw [← EM.out]; exact HL.out.2.2.1) (by rw [← EM.out]; exact HP.out.2.2.1))
          rw [← EM.out] at HE
          go_wp2_with fail
          go_roundw
          case rel => exact ⟨i + 1, P.set (i + j) cy, by go_num, by have := hown.set (i + j) cy; exact this, hg.setCell (Nat.le_refl _) _, by omega, hid ⟨by rw [List.length_set]; exact HP.out.1, HP.out.2.1.set hcy _, HE.out, fun k hk => by rw [Dg.getD_set_ne (by omega), HP.out.2.2.2 k (by omega)]; exact HL.out.2.2.2 k (by omega)⟩⟩
          case measure => simp [intOf]; omega
    · obtain rfl : i = n := by omega
      have HE := hid (show Dg.val 4294967296 L = Dg.val 4294967296 xs * Dg.val 4294967296 ys by
        have := HL.out.2.2.1
        rwa [List.take_of_length_le (by rw [HL.out.1]; omega), List.take_of_length_le (by rw [EN.out]; omega)] at this)
      go_wp2_with fail
      go_ret
      exact ⟨some ⟨w.heap.size, 0, none⟩, i + m, L, by rw [HL.out.1]; rfl, hown, HL.out.2.1, HE.out, HL.out.1, hg⟩
end Go.Proofs.YtmcfciifjgdgoaaGreatDoor

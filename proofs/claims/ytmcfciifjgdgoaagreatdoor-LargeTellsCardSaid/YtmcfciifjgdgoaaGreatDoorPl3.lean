/- The developers' large numbers, part 3: magnitudes added and taken off. -/
import Derived.Test.YtmcfciifjgdgoaaGreatDoorPl2
import Derived.Test.YtmcfciifjgdgoaaGreatDoorDig2
namespace Go.Proofs.YtmcfciifjgdgoaaGreatDoor
open Go.RowKit

set_option maxRecDepth 100000 in
set_option maxHeartbeats 4000000 in
theorem paddMags_c (A : Option Addr) (c : Nat) (xs : List Nat) (B : Option Addr) (d : Nat) (ys : List Nat) (w : World) (ha : NumsAt .u32 w w.heap.size A xs) (hb : NumsAt .u32 w w.heap.size B ys) (la : Dg.Low 4294967296 xs) (lb : Dg.Low 4294967296 ys) (hn : xs.length ≤ 100000) (hm : ys.length ≤ 100000) :
    Calls Tryz.prog 36 #[.slice A xs.length c, .slice B ys.length d] w fun e w' => ∃ A' c' L, e = .returned (.slice A' L.length c') ∧ OwnNums .u32 w w' 55 A' c' L ∧ Dg.Low 4294967296 L ∧ Dg.val 4294967296 L = Dg.val 4294967296 xs + Dg.val 4294967296 ys ∧ L.length = max xs.length ys.length + 1 ∧ Grew w w' := by
  have HA := hid ha
  have HB := hid hb
  clear ha hb
  obtain ⟨n, en⟩ : ∃ n, n = xs.length := ⟨_, rfl⟩
  obtain ⟨m, em⟩ : ∃ m, m = ys.length := ⟨_, rfl⟩
  have EN := hid en
  have EM := hid em
  rw [← en] at hn ⊢
  rw [← em] at hm ⊢
  clear en em
  rcases Nat.lt_or_ge n m with hlt | hlt
  all_goals
    first
      | (obtain ⟨N, rfl⟩ : ∃ N, N = m := ⟨_, rfl⟩
         have HX := hid (show xs.length ≤ N ∧ ys.length ≤ N ∧ N + 1 = max n N + 1 by have := EN.out; have := EM.out; omega))
      | (obtain ⟨N, rfl⟩ : ∃ N, N = n := ⟨_, rfl⟩
         have HX := hid (show xs.length ≤ N ∧ ys.length ≤ N ∧ N + 1 = max N m + 1 by have := EN.out; have := EM.out; omega))
    have hNb : N ≤ 100000 := by omega
    have hmk : ∀ W, (Instr.makeSlice 22 (.int .i64 ((N : Int) + 1)) (.int .i64 ((N : Int) + 1))).run Tryz.prog W = .ok (.slice (some ⟨W.heap.size, 0, none⟩) (N + 1) (N + 1)) (W.alloc (.cells (numCells .u32 (List.replicate (N + 1) 0)).toArray 55)) := fun W => by
      have := make_u32 Tryz.underlying22 Tryz.info_u32 (N + 1) (by omega) W
      rwa [Int.natCast_add, Int.natCast_one] at this
    go_enter Tryz.func36, Tryz.ntmps36
    go_wp2_with fail
    clear hmk
    have hO := OwnNums.new .u32 55 (List.replicate (N + 1) 0) (Grew.refl w) (by simp; omega)
    rw [List.length_replicate] at hO
    have HO := hid hO
    have HG := hid ((Grew.refl w).alloc (.cells (numCells .u32 (List.replicate (N + 1) 0)).toArray 55))
    clear hO
    generalize w.alloc (.cells (numCells .u32 (List.replicate (N + 1) 0)).toArray 55) = wq at *
    go_loopw [6, 17] (fun cv kv wr => ∃ (k cy : Nat) (L : List Nat), kv = .int .i64 k ∧ cv = .int .u32 cy ∧ OwnNums .u32 w wr 55 (some ⟨w.heap.size, 0, none⟩) (N + 1) L ∧ Grew w wr ∧ cy ≤ 1 ∧ k ≤ N + 1 ∧ Hid (L.length = N + 1 ∧ Dg.Low 4294967296 L ∧ Dg.val 4294967296 (L.take k) + 4294967296 ^ k * cy = Dg.val 4294967296 (xs.take k) + Dg.val 4294967296 (ys.take k))) (fun _ kv _ => N + 1 - (intOf kv).toNat)
    case atStart => exact ⟨0, 0, List.replicate (N + 1) 0, rfl, rfl, HO.out, HG.out, by decide, by omega, hid ⟨by simp, Dg.low_zeros _ _ (by decide), by simp⟩⟩
    case round =>
      clear HO HG
      obtain ⟨k, cy, L, rfl, rfl, hown, hg, hcy, hk, HL⟩ := hrel
      by_cases hlt2 : k < N + 1
      · have hlt' : (k : Int) < (N : Int) + 1 := by omega
        have hx := Dg.Low.getD (by decide) la k
        have hy := Dg.Low.getD (by decide) lb k
        have Cx0 := pat_c A c xs k wr (HA.out.grew hg) (by have := HX.out; omega) (by omega)
        have Cy0 := pat_c B d ys k wr (HB.out.grew hg) (by have := HX.out; omega) (by omega)
        obtain ⟨x, ex⟩ : ∃ x, x = xs.getD k 0 := ⟨_, rfl⟩
        obtain ⟨y, ey⟩ : ∃ y, y = ys.getD k 0 := ⟨_, rfl⟩
        rw [← ex, ← EN.out] at Cx0
        rw [← ey, ← EM.out] at Cy0
        rw [← ex] at hx
        rw [← ey] at hy
        have Cx := hid Cx0
        have Cy := hid Cy0
        have HR := hid (Dg.add_round (B := 4294967296) (t := x + y + cy) (by have := HL.out.1; omega) HL.out.2.2 (by rw [ex, ey]))
        clear Cx0 Cy0 ex ey
        rcases hown.cases with ⟨h1, _⟩ | ⟨g, h1, hg0, hg1, hcell, hfro, hcap⟩
        · cases h1
        obtain rfl : w.heap.size = g := by simpa using h1
        have c1 := hcell k (by have := HL.out.1; omega)
        have f1 := hfro k
        clear hcell hfro h1
        generalize L.getD k 0 = old at *
        go_wp2_with (first
          | (go_at_call 42; ((with_reducible refine Cx.out.mono ?_); rintro e w' ⟨rfl, rfl⟩))
          | (go_at_call 42; ((with_reducible refine Cy.out.mono ?_); rintro e w' ⟨rfl, rfl⟩))
          | (go_at_call 59; ((with_reducible refine (add32_c x y cy _ hx hy hcy).mono ?_); rintro e w' ⟨rfl, rfl⟩)))
        go_roundw
        case rel => exact ⟨k + 1, (x + y + cy) / 4294967296, L.set k ((x + y + cy) % 4294967296), by go_num, rfl, hown.set k _, hg.setCell (Nat.le_refl _) _, by omega, by omega, hid ⟨by rw [List.length_set]; exact HL.out.1, HL.out.2.1.set (Nat.mod_lt _ (by decide)) _, HR.out⟩⟩
        case measure => simp [intOf]; omega
      · obtain rfl : k = N + 1 := by omega
        have HE := hid (Dg.add_end (by decide) la lb (by have := HX.out; omega) (by have := HX.out; omega) HL.out.1 HL.out.2.2)
        go_wp2_with fail
        go_ret
        exact ⟨some ⟨w.heap.size, 0, none⟩, N + 1, L, by rw [HL.out.1]; rfl, hown, HL.out.2.1, HE.out, by rw [HL.out.1]; exact HX.out.2.2, hg⟩

set_option maxRecDepth 100000 in
set_option maxHeartbeats 4000000 in
/-- The second one is not greater than the first, and no longer. -/
theorem psubMags_c (A : Option Addr) (c : Nat) (xs : List Nat) (B : Option Addr) (d : Nat) (ys : List Nat) (w : World) (ha : NumsAt .u32 w w.heap.size A xs) (hb : NumsAt .u32 w w.heap.size B ys) (la : Dg.Low 4294967296 xs) (lb : Dg.Low 4294967296 ys) (hn : xs.length ≤ 100000) (hm : ys.length ≤ xs.length) (hle : Dg.val 4294967296 ys ≤ Dg.val 4294967296 xs) :
    Calls Tryz.prog 37 #[.slice A xs.length c, .slice B ys.length d] w fun e w' => ∃ A' c' L, e = .returned (.slice A' L.length c') ∧ OwnNums .u32 w w' 55 A' c' L ∧ Dg.Low 4294967296 L ∧ Dg.val 4294967296 L + Dg.val 4294967296 ys = Dg.val 4294967296 xs ∧ L.length = xs.length ∧ Grew w w' := by
  have HA := hid ha
  have HB := hid hb
  have HM := hid hm
  have HLE := hid hle
  clear ha hb hm hle
  obtain ⟨N, en⟩ : ∃ N, N = xs.length := ⟨_, rfl⟩
  have EN := hid en
  rw [← en] at hn ⊢
  clear en
  have hmk := make_u32 Tryz.underlying22 Tryz.info_u32 N (by omega)
  go_enter Tryz.func37, Tryz.ntmps37
  go_wp2_with fail
  clear hmk
  have hO := OwnNums.new .u32 55 (List.replicate N 0) (Grew.refl w) (by simp; omega)
  rw [List.length_replicate] at hO
  have HO := hid hO
  have HG := hid ((Grew.refl w).alloc (.cells (numCells .u32 (List.replicate N 0)).toArray 55))
  clear hO
  generalize w.alloc (.cells (numCells .u32 (List.replicate N 0)).toArray 55) = wq at *
  go_loopw [6, 14] (fun cv kv wr => ∃ (k cy : Nat) (L : List Nat), kv = .int .i64 k ∧ cv = .int .u32 cy ∧ OwnNums .u32 w wr 55 (some ⟨w.heap.size, 0, none⟩) N L ∧ Grew w wr ∧ cy ≤ 1 ∧ k ≤ N ∧ Hid (L.length = N ∧ Dg.Low 4294967296 L ∧ Dg.val 4294967296 (L.take k) + Dg.val 4294967296 (ys.take k) = Dg.val 4294967296 (xs.take k) + 4294967296 ^ k * cy)) (fun _ kv _ => N - (intOf kv).toNat)
  case atStart => exact ⟨0, 0, List.replicate N 0, rfl, rfl, HO.out, HG.out, by decide, by omega, hid ⟨by simp, Dg.low_zeros _ _ (by decide), by simp⟩⟩
  case round =>
    clear HO HG
    obtain ⟨k, cy, L, rfl, rfl, hown, hg, hcy, hk, HL⟩ := hrel
    by_cases hlt2 : k < N
    · have hlt' : (k : Int) < (N : Int) := by omega
      have hx := Dg.Low.getD (by decide) la k
      have hy := Dg.Low.getD (by decide) lb k
      obtain ⟨ad, rfl, had, hca⟩ := HA.out (by have := EN.out; omega)
      have hcx := hca k (by have := EN.out; omega)
      have hcx : wr.cell? (ad.add k) = some (.int .u32 ((xs.getD k 0 : Nat) : Int)) := by rw [hg.below.cell (by rw [block_add]; exact had)]; exact hcx
      clear hca
      have Cy0 := pat_c B d ys k wr (HB.out.grew hg) (by have := HM.out; have := EN.out; omega) (by omega)
      obtain ⟨x, ex⟩ : ∃ x, x = xs.getD k 0 := ⟨_, rfl⟩
      obtain ⟨y, ey⟩ : ∃ y, y = ys.getD k 0 := ⟨_, rfl⟩
      rw [← ey] at Cy0 hy
      rw [← ex] at hx hcx
      have Cy := hid Cy0
      have HR := hid (Dg.sub_round (B := 4294967296) (d := (x + 8589934592 - y - cy) % 4294967296) (bw' := if x < y + cy then 1 else 0) (by have := HL.out.1; omega) HL.out.2.2 (by rw [← ex, ← ey]; exact Dg.sub_word hx hy hcy))
      clear Cy0 ex ey
      rcases hown.cases with ⟨h1, _⟩ | ⟨g, h1, hg0, hg1, hcell, hfro, hcap⟩
      · cases h1
      obtain rfl : w.heap.size = g := by simpa using h1
      have c1 := hcell k (by have := HL.out.1; omega)
      have f1 := hfro k
      clear hcell hfro h1
      generalize L.getD k 0 = old at *
      have hb1 : (if x < y + cy then 1 else 0 : Nat) ≤ 1 := by split <;> omega
      have CS := hid (sub32_c x y cy wr hx hy hcy)
      have HDD := hid (show (x + 8589934592 - y - cy) % 4294967296 < 4294967296 from Nat.mod_lt _ (by decide))
      generalize (x + 8589934592 - y - cy) % 4294967296 = dd at *
      generalize (if x < y + cy then 1 else 0 : Nat) = bb at *
      go_wp2_with (first
        | (go_at_call 42; ((with_reducible refine Cy.out.mono ?_); rintro e w' ⟨rfl, rfl⟩))
        | (go_at_call 60; ((with_reducible refine CS.out.mono ?_); rintro e w' ⟨rfl, rfl⟩)))
      go_roundw
      case rel => exact ⟨k + 1, bb, L.set k dd, by go_num, rfl, hown.set k _, hg.setCell (Nat.le_refl _) _, hb1, by omega, hid ⟨by rw [List.length_set]; exact HL.out.1, HL.out.2.1.set HDD.out _, HR.out⟩⟩
      case measure => simp [intOf]; omega
    · obtain rfl : k = N := by omega
      have HE := hid (Dg.sub_end HL.out.2.1 (by rw [HL.out.1, EN.out]) HM.out HLE.out (by rw [← EN.out]; exact HL.out.2.2))
      go_wp2_with fail
      go_ret
      exact ⟨some ⟨w.heap.size, 0, none⟩, k, L, by rw [HL.out.1]; rfl, hown, HL.out.2.1, HE.out, HL.out.1, hg⟩
end Go.Proofs.YtmcfciifjgdgoaaGreatDoor

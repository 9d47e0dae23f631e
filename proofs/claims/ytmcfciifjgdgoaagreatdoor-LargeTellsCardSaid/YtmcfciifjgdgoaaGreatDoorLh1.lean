/- Law 03's own helpers: too much to look at here, a number given on, the same word by word. -/
import Derived.Test.YtmcfciifjgdgoaaGreatDoorRf11
namespace Go.Proofs.YtmcfciifjgdgoaaGreatDoor
open Go.RowKit

def big3 (n : Nat) : Bool := decide (20 < n) && decide (n < 60) || decide (100 < n)

set_option maxHeartbeats 1000000 in
theorem great_c (neg : Bool) (A : Option Addr) (c : Nat) (n : Nat) (w : World) (hn : n ≤ 35184372088832) :
    Calls Tryz.prog 4 #[.agg #[.bool neg, .slice A n c]] w fun e w' => e = .returned (.bool (big3 n)) ∧ Grew w w' := by
  have hn' : (n : Int) ≤ 35184372088832 := by omega
  rcases (show n ≤ 20 ∨ (20 < n ∧ n < 60) ∨ (60 ≤ n ∧ n ≤ 100) ∨ 100 < n by omega) with h | ⟨h, k⟩ | ⟨h, k⟩ | h
  · have E := hid (show big3 n = false by simp [big3]; omega)
    have t1 : ¬ (20 : Int) < (n : Int) := by omega
    have t2 : ¬ (100 : Int) < (n : Int) := by omega
    go_enter Tryz.func4, Tryz.ntmps4
    go_wp2_with fail
    go_ret
    exact ⟨by rw [E.out]; rfl, (Grew.refl _).alloc _⟩
  · have E := hid (show big3 n = true by simp [big3]; omega)
    have t1 : (20 : Int) < (n : Int) := by omega
    have t2 : (n : Int) < 60 := by omega
    go_enter Tryz.func4, Tryz.ntmps4
    go_wp2_with fail
    go_ret
    exact ⟨by rw [E.out]; rfl, (Grew.refl _).alloc _⟩
  · have E := hid (show big3 n = false by simp [big3]; omega)
    have t1 : (20 : Int) < (n : Int) := by omega
    have t2 : ¬ (n : Int) < 60 := by omega
    have t3 : ¬ (100 : Int) < (n : Int) := by omega
    go_enter Tryz.func4, Tryz.ntmps4
    go_wp2_with fail
    go_ret
    exact ⟨by rw [E.out]; rfl, (Grew.refl _).alloc _⟩
  · have E := hid (show big3 n = true by simp [big3]; omega)
    have t1 : (20 : Int) < (n : Int) := by omega
    have t2 : ¬ (n : Int) < 60 := by omega
    have t3 : (100 : Int) < (n : Int) := by omega
    go_enter Tryz.func4, Tryz.ntmps4
    go_wp2_with fail
    go_ret
    exact ⟨by rw [E.out]; rfl, (Grew.refl _).alloc _⟩

theorem take_succ_ne {xs ys : List Nat} {m : Nat} (hne : xs.getD m 0 ≠ ys.getD m 0) : xs ≠ ys := by
  rintro rfl; exact hne rfl
theorem eq_of_getD {xs ys : List Nat} (hl : xs.length = ys.length) (h : ∀ j, j < ys.length → xs.getD j 0 = ys.getD j 0) : xs = ys := by
  refine List.ext_getElem hl fun i h1 h2 => ?_
  have := h i h2
  rwa [List.getD_eq_getElem?_getD, List.getD_eq_getElem?_getD, List.getElem?_eq_getElem h1, List.getElem?_eq_getElem h2] at this

set_option maxHeartbeats 2000000 in
theorem isNum_c (na : Bool) (A : Option Addr) (c : Nat) (xs : List Nat) (nb : Bool) (B : Option Addr) (d : Nat) (ys : List Nat) (w : World) (ha : NumsAt .u32 w w.heap.size A xs) (hb : NumsAt .u32 w w.heap.size B ys) (hm : ys.length ≤ 1000000000000) :
    Calls Tryz.prog 12 #[.agg #[.bool na, .slice A xs.length c], .agg #[.bool nb, .slice B ys.length d]] w fun e w' => e = .returned (.bool (decide (na = nb ∧ xs = ys))) ∧ Grew w w' := by
  have HA := hid ha
  have HB := hid hb
  clear ha hb
  obtain ⟨r, hr⟩ : ∃ r, r = decide (na = nb ∧ xs = ys) := ⟨_, rfl⟩
  rw [← hr]
  have HR := hid hr
  clear hr
  by_cases hnb : na = nb
  · by_cases hl : xs.length = ys.length
    · subst hnb
      have HL := hid hl
      rw [hl]
      clear hl
      go_enter Tryz.func12, Tryz.ntmps12
      go_wp2_with fail
      obtain ⟨wb, hw1⟩ : ∃ wb, wb = (w.alloc (.cells #[.bool na, .slice A ys.length c] 27)).alloc (.cells #[.bool na, .slice B ys.length d] 24) := ⟨_, rfl⟩
      have hG : Grew w wb := by rw [hw1]; exact ((Grew.refl _).alloc _).alloc _
      have l1 : w.heap.size + 1 < wb.heap.size := by rw [hw1]; simp only [World.size_alloc]; omega
      have l0 : w.heap.size < wb.heap.size := by omega
      have a1 : wb.cell? ⟨w.heap.size, 1, none⟩ = some (.slice A ys.length c) := by rw [hw1, World.cell?_alloc_lt _ _ _ (by simp only [World.size_alloc]; omega)]; simp
      have b1 : wb.cell? ⟨w.heap.size + 1, 1, none⟩ = some (.slice B ys.length d) := by rw [hw1]; simp
      rw [← hw1]
      clear hw1
      have HA2 := hid (HA.out.grew hG)
      have HB2 := hid (HB.out.grew hG)
      have HG := hid hG
      clear hG HA HB
      go_loopw [5] (fun i wr => ∃ (m : Nat), i = .int .i64 ((m : Nat) : Int) ∧ Grew wb wr ∧ m ≤ ys.length ∧ Hid (∀ j, j < m → xs.getD j 0 = ys.getD j 0)) (fun i _ => ys.length - (intOf i).toNat)
      case atStart => exact ⟨0, rfl, Grew.refl _, Nat.zero_le _, hid fun j hj => absurd hj (Nat.not_lt_zero j)⟩
      case round =>
        obtain ⟨m, rfl, ⟨z, rfl⟩, hmy, HJ⟩ := hrel
        by_cases hlt : m < ys.length
        · have hlt' : (m : Int) < (ys.length : Int) := by omega
          obtain ⟨ad, ea, had, hca⟩ := HA2.out (by have := HL.out; omega)
          obtain ⟨bd, eb, hbd, hcb⟩ := HB2.out (by omega)
          subst ea eb
          have h1 := hca m (by have := HL.out; omega)
          have h2 := hcb m hlt
          clear hca hcb
          have HE1 := hid (show xs.getD m 0 ≠ ys.getD m 0 → r = false from fun h => by
            rw [HR.out, decide_eq_false]
            exact fun q => take_succ_ne h q.2)
          have HE2 := hid (show xs.getD m 0 = ys.getD m 0 → ∀ j, j < m + 1 → xs.getD j 0 = ys.getD j 0 from fun h j hj => by
            rcases Nat.lt_or_ge j m with h3 | h3
            · exact HJ.out j h3
            · obtain rfl : j = m := by omega
              exact h)
          obtain ⟨x, hx⟩ : ∃ x, x = xs.getD m 0 := ⟨_, rfl⟩
          obtain ⟨y, hy⟩ : ∃ y, y = ys.getD m 0 := ⟨_, rfl⟩
          rw [← hx] at h1
          rw [← hy] at h2
          have HXY := hid (show x = xs.getD m 0 ∧ y = ys.getD m 0 from ⟨hx, hy⟩)
          clear hx hy
          by_cases he : x = y
          · have HE := hid (HE2.out (by rw [← HXY.out.1, ← HXY.out.2]; exact he))
            subst he
            go_wp2_with fail
            refine wp_region_grew_from z.grew (by kernel_rfl) (by kernel_rfl) ?_
            repeat (go_big_quiet_step (fail))
            refine wpQuiet_nil ?_
            rintro _ ⟨z2, rfl⟩
            go_wp2_with fail
            go_roundw
            case rel => exact ⟨m + 1, by go_num, z2.grew, by omega, hid HE.out⟩
            case measure => simp [intOf] <;> omega
          · have HE := hid (HE1.out (by rw [← HXY.out.1, ← HXY.out.2]; exact he))
            have t1 : (((x : Nat) : Int) != ((y : Nat) : Int)) = true := by rw [bne_iff_ne]; omega
            go_wp2_with fail
            refine wp_region_grew_from z.grew (by kernel_rfl) (by kernel_rfl) ?_
            repeat (go_big_quiet_step (fail))
            refine wpQuiet_nil ?_
            rintro _ ⟨z2, rfl⟩
            go_wp2_with fail
            go_ret
            exact ⟨by rw [HE.out]; rfl, HG.out.trans z2.grew⟩
        · obtain rfl : m = ys.length := by omega
          have HE := hid (show r = true by rw [HR.out, decide_eq_true_iff]; exact ⟨by first | trivial | rfl, eq_of_getD HL.out HJ.out⟩)
          go_wp2_with fail
          go_ret
          exact ⟨by rw [HE.out]; rfl, HG.out.trans z.grew⟩
    · subst hnb
      have HE := hid (show r = false by rw [HR.out, decide_eq_false]; exact fun q => hl (by rw [q.2]))
      have t1 : (((xs.length : Nat) : Int) != ((ys.length : Nat) : Int)) = true := by rw [bne_iff_ne]; omega
      clear HR HA HB
      go_enter Tryz.func12, Tryz.ntmps12
      go_wp2_with fail
      go_ret
      exact ⟨by rw [HE.out]; rfl, ((Grew.refl _).alloc _).alloc _⟩
  · have HE := hid (show r = false by rw [HR.out, decide_eq_false]; exact fun q => hnb q.1)
    clear HR HA HB
    cases na <;> cases nb
    all_goals first
      | exact absurd rfl hnb
      | (clear hnb
         go_enter Tryz.func12, Tryz.ntmps12
         go_wp2_with fail
         go_ret
         exact ⟨by rw [HE.out]; rfl, ((Grew.refl _).alloc _).alloc _⟩)
end Go.Proofs.YtmcfciifjgdgoaaGreatDoor

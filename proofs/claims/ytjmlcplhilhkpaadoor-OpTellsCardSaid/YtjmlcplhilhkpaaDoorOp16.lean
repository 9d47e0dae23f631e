/- The walks of law 07: giveOps, areOps, ints. -/
import Derived.Test.YtjmlcplhilhkpaaDoorOp15
import Derived.BigQuiet
namespace Go.Proofs.YtjmlcplhilhkpaaDoor
open Go.RowKit

theorem nats_eq {xs ys : List Nat} (hl : xs.length = ys.length) (h : ∀ j, j < ys.length → xs.getD j 0 = ys.getD j 0) : xs = ys := by
  refine List.ext_getElem hl fun i h1 h2 => ?_
  have := h i h2
  rwa [List.getD_eq_getElem?_getD, List.getD_eq_getElem?_getD, List.getElem?_eq_getElem h1, List.getElem?_eq_getElem h2] at this
set_option maxRecDepth 100000 in
set_option maxHeartbeats 2000000 in
theorem ints_c (A : Option Addr) (c : Nat) (xs : List Nat) (B : Option Addr) (d : Nat) (ys : List Nat) (w : World) (ha : NumsAt .i64 w w.heap.size A xs) (hb : NumsAt .i64 w w.heap.size B ys) (hm : xs.length ≤ 1000000000000 ∨ ys.length ≤ 1000000000000) :
    Calls Tryd.prog 17 #[.slice A xs.length c, .slice B ys.length d] w fun e w' => e = .returned (.bool (decide (xs = ys))) ∧ Grew w w' := by
  have HA := hid ha
  have HB := hid hb
  clear ha hb
  obtain ⟨r, hr⟩ : ∃ r, r = decide (xs = ys) := ⟨_, rfl⟩
  rw [← hr]
  have HR := hid hr
  clear hr
  by_cases hl : xs.length = ys.length
  · have HL := hid hl
    obtain ⟨n, en⟩ : ∃ n, n = ys.length := ⟨_, rfl⟩
    rw [hl, ← en]
    have EN := hid en
    have hm' : n ≤ 1000000000000 := by omega
    clear hl en hm
    go_enter Tryd.func17, Tryd.ntmps17
    go_wp2_with fail
    go_loopw [5] (fun i wr => ∃ (m : Nat), i = .int .i64 ((m : Nat) : Int) ∧ Grew w wr ∧ m ≤ n ∧ Hid (∀ j, j < m → xs.getD j 0 = ys.getD j 0)) (fun i _ => n - (intOf i).toNat)
    case atStart => exact ⟨0, rfl, Grew.refl _, Nat.zero_le _, hid fun j hj => absurd hj (Nat.not_lt_zero j)⟩
    case round =>
      obtain ⟨m, rfl, ⟨z, rfl⟩, hmy, HJ⟩ := hrel
      by_cases hlt : m < n
      · have hlt' : (m : Int) < (n : Int) := by omega
        obtain ⟨ad, ea, had, hca⟩ := HA.out (by rw [HL.out, ← EN.out]; omega)
        obtain ⟨bd, eb, hbd, hcb⟩ := HB.out (by rw [← EN.out]; omega)
        subst ea eb
        have h1 := hca m (by rw [HL.out, ← EN.out]; exact hlt)
        have h2 := hcb m (by rw [← EN.out]; exact hlt)
        clear hca hcb
        have HE1 := hid (show xs.getD m 0 ≠ ys.getD m 0 → r = false from fun h => by
          rw [HR.out, decide_eq_false]
          rintro rfl
          exact h rfl)
        have HE2 := hid (show xs.getD m 0 = ys.getD m 0 → ∀ j, j < m + 1 → xs.getD j 0 = ys.getD j 0 from fun h j hj => by
          rcases Nat.lt_or_ge j m with h3 | h3
          · exact HJ.out j h3
          · obtain rfl : j = m := by omega
            exact h)
        obtain ⟨x, hx⟩ : ∃ x, x = xs.getD m 0 := ⟨_, rfl⟩
        obtain ⟨y, hy⟩ : ∃ y, y = ys.getD m 0 := ⟨_, rfl⟩
        rw [← hx] at h1
        rw [← hy] at h2
        have HXY := hid (show x = xs.getD m 0 ∧ y = ys.getD m 0 from ⟨hx, hy⟩)
        clear hx hy
        by_cases he : x = y
        · have HE := hid (HE2.out (by rw [← HXY.out.1, ← HXY.out.2]; exact he))
          subst he
          go_wp2_with fail
          refine wp_region_grew_from z.grew (by kernel_rfl) (by kernel_rfl) ?_
          repeat (go_big_quiet_step (fail))
          refine wpQuiet_nil ?_
          rintro _ ⟨z2, rfl⟩
          go_wp2_with fail
          go_roundw
          case rel => exact ⟨m + 1, by go_num, z2.grew, by omega, hid HE.out⟩
          case measure => simp [intOf] <;> omega
        · have HE := hid (HE1.out (by rw [← HXY.out.1, ← HXY.out.2]; exact he))
          have t1 : ((x : Int) != (y : Int)) = true := by rw [bne_iff_ne]; omega
          have t2 : (x != y) = true := by rw [bne_iff_ne]; omega
          go_wp2_with fail
          refine wp_region_grew_from z.grew (by kernel_rfl) (by kernel_rfl) ?_
          repeat (go_big_quiet_step (fail))
          refine wpQuiet_nil ?_
          rintro _ ⟨z2, rfl⟩
          go_wp2_with fail
          go_ret
          exact ⟨by rw [HE.out]; rfl, z2.grew⟩
      · obtain rfl : m = n := by omega
        have HE := hid (show r = true by rw [HR.out, decide_eq_true_iff]; exact nats_eq HL.out (by rw [← EN.out]; exact HJ.out))
        go_wp2_with fail
        go_ret
        exact ⟨by rw [HE.out]; rfl, z.grew⟩
  · have HE := hid (show r = false by rw [HR.out, decide_eq_false]; exact fun q => hl (by rw [q]))
    have t1 : (((xs.length : Nat) : Int) != ((ys.length : Nat) : Int)) = true := by rw [bne_iff_ne]; omega
    have t2 : (xs.length != ys.length) = true := by rw [bne_iff_ne]; omega
    clear HR HA HB
    go_enter Tryd.func17, Tryd.ntmps17
    go_wp2_with fail
    go_ret
    exact ⟨by rw [HE.out]; rfl, Grew.refl _⟩
set_option maxRecDepth 100000 in
set_option maxHeartbeats 2000000 in
theorem areOps_c (A : Option Addr) (c : Nat) (xs : List Op7.Ins) (B : Option Addr) (d : Nat) (ys : List Op7.Ins) (w : World) (ha : OpsAt w w.heap.size A xs) (hb : OpsAt w w.heap.size B ys) (hm : xs.length ≤ 1000000000000 ∨ ys.length ≤ 1000000000000) :
    Calls Tryd.prog 16 #[.slice A xs.length c, .slice B ys.length d] w fun e w' => e = .returned (.bool (decide (xs = ys))) ∧ Grew w w' := by
  have HA := hid ha
  have HB := hid hb
  clear ha hb
  obtain ⟨r, hr⟩ : ∃ r, r = decide (xs = ys) := ⟨_, rfl⟩
  rw [← hr]
  have HR := hid hr
  clear hr
  by_cases hl : xs.length = ys.length
  · have HL := hid hl
    obtain ⟨n, en⟩ : ∃ n, n = ys.length := ⟨_, rfl⟩
    rw [hl, ← en]
    have EN := hid en
    have hm' : n ≤ 1000000000000 := by omega
    clear hl en hm
    go_enter Tryd.func16, Tryd.ntmps16
    go_wp2_with fail
    go_loopw [5] (fun i wr => ∃ (m : Nat), i = .int .i64 ((m : Nat) : Int) ∧ Grew w wr ∧ m ≤ n ∧ Hid (∀ j, j < m → xs[j]? = ys[j]?)) (fun i _ => n - (intOf i).toNat)
    case atStart => exact ⟨0, rfl, Grew.refl _, Nat.zero_le _, hid fun j hj => absurd hj (Nat.not_lt_zero j)⟩
    case round =>
      obtain ⟨m, rfl, ⟨z, rfl⟩, hmy, HJ⟩ := hrel
      by_cases hlt : m < n
      · have hlt' : (m : Int) < (n : Int) := by omega
        obtain ⟨ad, ea, had, hca⟩ := HA.out.2 (by rw [HL.out, ← EN.out]; omega)
        obtain ⟨bd, eb, hbd, hcb⟩ := HB.out.2 (by rw [← EN.out]; omega)
        subst ea eb
        obtain ⟨x, hx⟩ : ∃ x, xs[m]? = some x := ⟨_, List.getElem?_eq_getElem (show m < xs.length by rw [HL.out, ← EN.out]; exact hlt)⟩
        obtain ⟨y, hy⟩ : ∃ y, ys[m]? = some y := ⟨_, List.getElem?_eq_getElem (show m < ys.length by rw [← EN.out]; exact hlt)⟩
        obtain ⟨p0, p1, p2⟩ := op_cell (hca m x hx)
        obtain ⟨q0, q1, q2⟩ := op_cell (hcb m y hy)
        clear hca hcb
        have HE1 := hid (show x ≠ y → r = false from fun h => by
          rw [HR.out, decide_eq_false]
          rintro rfl
          rw [hx] at hy
          exact h (Option.some.inj hy))
        have HE2 := hid (show x = y → ∀ j, j < m + 1 → xs[j]? = ys[j]? from fun h j hj => by
          rcases Nat.lt_or_ge j m with h3 | h3
          · exact HJ.out j h3
          · obtain rfl : j = m := by omega
            rw [hx, hy, h])
        clear hx hy
        by_cases he : x = y
        · have HE := hid (HE2.out he)
          subst he
          go_wp2_with fail
          refine wp_region_grew_from z.grew (by kernel_rfl) (by kernel_rfl) ?_
          repeat (go_big_quiet_step (fail))
          refine wpQuiet_nil ?_
          rintro _ ⟨z2, rfl⟩
          go_wp2_with fail
          go_roundw
          case rel => exact ⟨m + 1, by go_num, z2.grew, by omega, hid HE.out⟩
          case measure => simp [intOf] <;> omega
        · have HE := hid (HE1.out he)
          clear HE1 HE2
          obtain ⟨c1, a1, b1⟩ := x
          obtain ⟨c2, a2, b2⟩ := y
          have hne : ¬ c1 = c2 ∨ (c1 = c2 ∧ ¬ a1 = a2) ∨ (c1 = c2 ∧ a1 = a2 ∧ ¬ b1 = b2) := by
            by_cases h1 : c1 = c2
            · by_cases h2 : a1 = a2
              · exact .inr (.inr ⟨h1, h2, fun h3 => he (by rw [h1, h2, h3])⟩)
              · exact .inr (.inl ⟨h1, h2⟩)
            · exact .inl h1
          clear he
          simp only at p0 p1 p2 q0 q1 q2
          rcases hne with h1 | ⟨rfl, h2⟩ | ⟨rfl, rfl, h3⟩
          all_goals
            go_wp2_with fail
            refine wp_region_grew_from z.grew (by kernel_rfl) (by kernel_rfl) ?_
            repeat (go_big_quiet_step (fail))
            refine wpQuiet_nil ?_
            rintro _ ⟨z2, rfl⟩
            go_wp2_with fail
            go_ret
            exact ⟨by rw [HE.out]; rfl, z2.grew⟩
      · obtain rfl : m = n := by omega
        have HE := hid (show r = true by
          rw [HR.out, decide_eq_true_iff]
          refine List.ext_getElem? fun j => ?_
          rcases Nat.lt_or_ge j m with h | h
          · exact HJ.out j h
          · rw [List.getElem?_eq_none (by rw [HL.out, ← EN.out]; exact h), List.getElem?_eq_none (by rw [← EN.out]; exact h)])
        go_wp2_with fail
        go_ret
        exact ⟨by rw [HE.out]; rfl, z.grew⟩
  · have HE := hid (show r = false by rw [HR.out, decide_eq_false]; exact fun q => hl (by rw [q]))
    have t1 : (((xs.length : Nat) : Int) != ((ys.length : Nat) : Int)) = true := by rw [bne_iff_ne]; omega
    have t2 : (xs.length != ys.length) = true := by rw [bne_iff_ne]; omega
    clear HR HA HB
    go_enter Tryd.func16, Tryd.ntmps16
    go_wp2_with fail
    go_ret
    exact ⟨by rw [HE.out]; rfl, Grew.refl _⟩
end Go.Proofs.YtjmlcplhilhkpaaDoor

/- The walks of the document's own large numbers, part 2: bits added, taken off, compared. -/
import Derived.Test.YtmcfciifjgdgoaaGreatDoorRf1
namespace Go.Proofs.YtmcfciifjgdgoaaGreatDoor
open Go.RowKit

theorem plus_round {xs ys L : List Nat} {k cy t : Nat} (hl : L.length = k) (hv : Dg.val 2 L + 2 ^ k * cy = Dg.val 2 (xs.take k) + Dg.val 2 (ys.take k)) (ht : t = cy + xs.getD k 0 + ys.getD k 0) :
    Dg.val 2 (L ++ [t % 2]) + 2 ^ (k + 1) * (t / 2) = Dg.val 2 (xs.take (k + 1)) + Dg.val 2 (ys.take (k + 1)) := by
  rw [Dg.val_snoc, hl, Dg.val_take_any, Dg.val_take_any, Nat.pow_succ, Nat.mul_assoc, Nat.add_assoc, ← Nat.mul_add]
  have e : t % 2 + 2 * (t / 2) = t := by omega
  rw [e, ht, Nat.mul_add, Nat.mul_add]
  omega

set_option maxHeartbeats 2000000 in
theorem plus_c (A : Option Addr) (c : Nat) (xs : List Nat) (B : Option Addr) (d : Nat) (ys : List Nat) (w : World) (ha : NumsAt .u8 w w.heap.size A xs) (hb : NumsAt .u8 w w.heap.size B ys) (la : Dg.Low 2 xs) (lb : Dg.Low 2 ys) (hn : xs.length ≤ 100000) (hm : ys.length ≤ 100000) :
    Calls Tryz.prog 29 #[.slice A xs.length c, .slice B ys.length d] w fun e w' => ∃ A' c' L, e = .returned (.slice A' L.length c') ∧ OwnNums .u8 w w' 5 A' c' L ∧ Dg.Low 2 L ∧ Dg.val 2 L = Dg.val 2 xs + Dg.val 2 ys ∧ L.length ≤ max xs.length ys.length + 1 ∧ Grew w w' := by
  have HA := hid ha
  have HB := hid hb
  clear ha hb
  have hn' : (xs.length : Int) ≤ 100000 := by omega
  have hm' : (ys.length : Int) ≤ 100000 := by omega
  go_enter Tryz.func29, Tryz.ntmps29
  go_wp2
  go_loopw [5, 6, 7] (fun s cv i wr => ∃ (k cy : Nat) (E : Option Addr) (f : Nat) (L : List Nat), i = .int .i64 k ∧ cv = .int .u8 cy ∧ s = .slice E L.length f ∧ OwnNums .u8 w wr 5 E f L ∧ Grew w wr ∧ cy ≤ 1 ∧ L.length ≤ k ∧ (k ≤ max xs.length ys.length ∨ k = max xs.length ys.length + 1 ∧ cy = 0) ∧ Hid (L.length = k ∧ Dg.Low 2 L ∧ Dg.val 2 L + 2 ^ k * cy = Dg.val 2 (xs.take k) + Dg.val 2 (ys.take k))) (fun _ _ i _ => max xs.length ys.length + 2 - (intOf i).toNat)
  case atStart => exact ⟨0, 0, none, 0, [], rfl, rfl, rfl, OwnNums.nil _ _ _ _, Grew.refl _, by decide, by decide, .inl (Nat.zero_le _), hid ⟨rfl, Dg.Low.nil 2, by simp⟩⟩
  case round =>
    obtain ⟨k, cy, E, f, L, rfl, rfl, rfl, hown, hg, hcy, hlk, hk, HL⟩ := hrel
    have hx := Dg.Low.getD (by decide) la k
    have hy := Dg.Low.getD (by decide) lb k
    obtain ⟨x, ex⟩ : ∃ x, x = xs.getD k 0 := ⟨_, rfl⟩
    obtain ⟨y, ey⟩ : ∃ y, y = ys.getD k 0 := ⟨_, rfl⟩
    have Cx := hid (at_c A c xs k wr (HA.out.grew hg) (by omega) (by omega))
    have Cy := hid (at_c B d ys k wr (HB.out.grew hg) (by omega) (by omega))
    rw [← ex] at hx Cx
    rw [← ey] at hy Cy
    have EX := hid ex
    have EY := hid ey
    clear ex ey
    by_cases hgo : k < xs.length ∨ k < ys.length ∨ 0 < cy
    · have hkb : L.length ≤ 100001 := by omega
      have hkk : k ≤ 100001 := by omega
      have HR := hid (plus_round HL.out.1 HL.out.2.2 (t := cy + x + y) (by rw [EX.out, EY.out]))
      have hk2 : k + 1 ≤ max xs.length ys.length ∨ k + 1 = max xs.length ys.length + 1 ∧ (cy + x + y) / 2 = 0 := by
        by_cases h1 : k < max xs.length ys.length
        · exact .inl (by omega)
        · have hx0 : x = 0 := by rw [EX.out]; exact Dg.getD_past (by omega)
          have hy0 : y = 0 := by rw [EY.out]; exact Dg.getD_past (by omega)
          exact .inr ⟨by omega, by omega⟩
      have hm2 : k < max xs.length ys.length + 1 := by omega
      have HK := hid hk2
      have HM := hid hm2
      clear hk2 hm2 hk
      rcases (show (k < xs.length) ∨ (¬ k < xs.length ∧ k < ys.length) ∨ (¬ k < xs.length ∧ ¬ k < ys.length ∧ 0 < cy) by omega) with h1 | ⟨h1, h2⟩ | ⟨h1, h2, h3⟩
      all_goals
        clear hgo
        go_wp2_with (first
          | (go_at_call 50; ((with_reducible refine Cx.out.mono ?_); rintro e w' ⟨rfl, rfl⟩))
          | (go_at_call 50; ((with_reducible refine Cy.out.mono ?_); rintro e w' ⟨rfl, rfl⟩))
          | (at_builtin; refine wpList_push .u8 1 w _ rfl _ _ 57 5 rfl Tryz.underlying57 Tryz.info_u8 hg E f L rfl hown ((cy + x + y) % 2) _ rfl rfl _ (by first | rfl | (congr 1; omega)) (by omega) (by omega) ?_; rintro A' c' W1 hO hG))
        go_roundw
        case rel => exact ⟨k + 1, (cy + x + y) / 2, A', c', L ++ [(cy + x + y) % 2], by go_num, by first | rfl | (congr 1; omega), by simp, hO, hG, by omega, by simp; omega, HK.out, hid ⟨by simp [HL.out.1], HL.out.2.1.snoc (by omega), HR.out⟩⟩
        case measure => have := HM.out; simp [intOf]; omega
    · obtain rfl : cy = 0 := by omega
      have h1 : ¬ k < xs.length := by omega
      have h2 : ¬ k < ys.length := by omega
      have HE : Hid (Dg.val 2 L = Dg.val 2 xs + Dg.val 2 ys) := hid (by
        have := HL.out.2.2
        rw [List.take_of_length_le (by omega), List.take_of_length_le (by omega), Nat.mul_zero, Nat.add_zero] at this
        exact this)
      have HLL := hid (show L.length ≤ max xs.length ys.length + 1 by omega)
      clear hk hgo
      go_wp2
      go_ret
      exact ⟨E, f, L, rfl, hown, HL.out.2.1, HE.out, HLL.out, hg⟩

/-! ### Taking off -/
theorem minus_round {xs ys L : List Nat} {k lack off : Nat} (hl : L.length = k) (hv : Dg.val 2 L + Dg.val 2 (ys.take k) = Dg.val 2 (xs.take k) + 2 ^ k * lack) (ho : off = ys.getD k 0 + lack) (hx : xs.getD k 0 < 2) (hy : ys.getD k 0 < 2) (hlack : lack ≤ 1) :
    Dg.val 2 (L ++ [(xs.getD k 0 + 2 * (if xs.getD k 0 < off then 1 else 0) - off) % 2]) + Dg.val 2 (ys.take (k + 1)) = Dg.val 2 (xs.take (k + 1)) + 2 ^ (k + 1) * (if xs.getD k 0 < off then 1 else 0) := by
  rw [Dg.val_snoc, hl, Dg.val_take_any, Dg.val_take_any, Nat.pow_succ, Nat.mul_assoc]
  generalize xs.getD k 0 = x at *
  generalize ys.getD k 0 = y at *
  subst ho
  have key : (x + 2 * (if x < y + lack then 1 else 0) - (y + lack)) % 2 + y + lack = x + 2 * (if x < y + lack then 1 else 0) := by
    split <;> omega
  generalize (if x < y + lack then 1 else 0) = n at *
  generalize (x + 2 * n - (y + lack)) % 2 = r at *
  have e : 2 ^ k * r + 2 ^ k * y + 2 ^ k * lack = 2 ^ k * x + 2 ^ k * (2 * n) := by
    rw [← Nat.mul_add, ← Nat.mul_add, ← Nat.mul_add, key]
  omega

set_option maxHeartbeats 2000000 in
theorem minus_c (A : Option Addr) (c : Nat) (xs : List Nat) (B : Option Addr) (d : Nat) (ys : List Nat) (w : World) (ha : NumsAt .u8 w w.heap.size A xs) (hb : NumsAt .u8 w w.heap.size B ys) (la : Dg.Low 2 xs) (lb : Dg.Low 2 ys) (tb : Dg.Top ys) (hle : Dg.val 2 ys ≤ Dg.val 2 xs) (hn : xs.length ≤ 100000) :
    Calls Tryz.prog 31 #[.slice A xs.length c, .slice B ys.length d] w fun e w' => ∃ A' c' L, e = .returned (.slice A' L.length c') ∧ OwnNums .u8 w w' 5 A' c' L ∧ Dg.Low 2 L ∧ Dg.Top L ∧ Dg.val 2 L = Dg.val 2 xs - Dg.val 2 ys ∧ L.length ≤ xs.length ∧ Grew w w' := by
  have HA := hid ha
  have HB := hid hb
  have hlen := Dg.len_le (by decide) la tb hle
  have HV := hid hle
  have HT := hid tb
  clear ha hb tb hle
  have hn' : (xs.length : Int) ≤ 100000 := by omega
  have hm' : (ys.length : Int) ≤ 100000 := by omega
  go_enter Tryz.func31, Tryz.ntmps31
  go_wp2
  go_loopw [5, 6, 7, 8] (fun s cv i _ wr => ∃ (k lack : Nat) (E : Option Addr) (f : Nat) (L : List Nat), i = .int .i64 k ∧ cv = .int .u8 lack ∧ s = .slice E L.length f ∧ OwnNums .u8 w wr 5 E f L ∧ Grew w wr ∧ lack ≤ 1 ∧ k ≤ xs.length ∧ L.length ≤ k ∧ Hid (L.length = k ∧ Dg.Low 2 L ∧ Dg.val 2 L + Dg.val 2 (ys.take k) = Dg.val 2 (xs.take k) + 2 ^ k * lack)) (fun _ _ i _ _ => xs.length - (intOf i).toNat)
  case atStart => exact ⟨0, 0, none, 0, [], rfl, rfl, rfl, OwnNums.nil _ _ _ _, Grew.refl _, by decide, Nat.zero_le _, Nat.le_refl _, hid ⟨rfl, Dg.Low.nil 2, by simp⟩⟩
  case round =>
    obtain ⟨k, lack, E, f, L, rfl, rfl, rfl, hown, hg, hcy, hk, hlk, HL⟩ := hrel
    by_cases hlt : k < xs.length
    · have hx := Dg.Low.getD (by decide) la k
      have hy := Dg.Low.getD (by decide) lb k
      have HR := hid (minus_round HL.out.1 HL.out.2.2 rfl hx hy hcy)
      obtain ⟨ad, ea, had, hcell⟩ := (HA.out.grew hg) (by omega)
      subst ea
      have hck := hcell k hlt
      have Cy := hid (at_c B d ys k wr (HB.out.grew hg) (by omega) (by omega))
      clear hcell
      generalize xs.getD k 0 = x at *
      generalize ys.getD k 0 = y at *
      by_cases hxy : x < y + lack
      · have HR' := HR.out
        rw [if_pos hxy] at HR'
        have HS := hid HR'
        clear HR HR'
        go_wp2_with (first
          | (go_at_call 50; ((with_reducible refine Cy.out.mono ?_); rintro e w' ⟨rfl, rfl⟩))
          | (at_builtin; refine wpList_push .u8 1 w _ rfl _ _ 57 5 rfl Tryz.underlying57 Tryz.info_u8 hg E f L rfl hown ((x + 2 * 1 - (y + lack)) % 2) _ rfl rfl _ (by first | rfl | (congr 1; omega)) (by omega) (by omega) ?_; rintro A' c' W1 hO hG))
        go_roundw
        case rel => exact ⟨k + 1, 1, A', c', L ++ [(x + 2 * 1 - (y + lack)) % 2], by go_num, rfl, by simp, hO, hG, by decide, by omega, by simp; omega, hid ⟨by simp [HL.out.1], HL.out.2.1.snoc (by omega), HS.out⟩⟩
        case measure => simp [intOf] <;> omega
      · have HR' := HR.out
        rw [if_neg hxy] at HR'
        have HS := hid HR'
        clear HR HR'
        go_wp2_with (first
          | (go_at_call 50; ((with_reducible refine Cy.out.mono ?_); rintro e w' ⟨rfl, rfl⟩))
          | (at_builtin; refine wpList_push .u8 1 w _ rfl _ _ 57 5 rfl Tryz.underlying57 Tryz.info_u8 hg E f L rfl hown ((x + 2 * 0 - (y + lack)) % 2) _ rfl rfl _ (by first | rfl | (congr 1; omega)) (by omega) (by omega) ?_; rintro A' c' W1 hO hG))
        go_roundw
        case rel => exact ⟨k + 1, 0, A', c', L ++ [(x + 2 * 0 - (y + lack)) % 2], by go_num, rfl, by simp, hO, hG, by decide, by omega, by simp; omega, hid ⟨by simp [HL.out.1], HL.out.2.1.snoc (by omega), HS.out⟩⟩
        case measure => simp [intOf] <;> omega
    · obtain rfl : k = xs.length := by omega
      have HE : Hid (Dg.val 2 (Dg.cut L) = Dg.val 2 xs - Dg.val 2 ys) := hid (by
        have h1 := HL.out.2.2
        have h2 := Dg.val_lt HL.out.2.1
        have h3 := HV.out
        rw [HL.out.1] at h2
        rw [List.take_of_length_le hlen, List.take_length] at h1
        rw [Dg.cut_val]
        have : lack = 0 := by
          rcases Nat.eq_zero_or_pos lack with h | h
          · exact h
          · obtain rfl : lack = 1 := by omega
            omega
        subst this
        omega)
      have hLl : L.length ≤ 1000000 := by omega
      go_wp2_with (go_at_call 39; refine (cut_c E f L _ hown.at hLl hown.cap.1 hown.cap.2).mono ?_; rintro e w' ⟨rfl, rfl⟩)
      go_ret
      refine ⟨E, f, Dg.cut L, rfl, ?_, Dg.cut_low HL.out.2.1, Dg.cut_top L, HE.out, Nat.le_trans (Dg.cut_len _) hlk, hg⟩
      rw [Dg.cut_take]
      exact hown.take _

/-! ### Which is more -/
theorem more_at {xs ys : List Nat} {k : Nat} (lx : Dg.Low 2 xs) (ly : Dg.Low 2 ys) (hl : xs.length = ys.length) (hk : k < xs.length) (h : xs.drop (k + 1) = ys.drop (k + 1)) (hne : ys.getD k 0 < xs.getD k 0) : Dg.val 2 ys < Dg.val 2 xs := by
  have e1 : xs = xs.take k ++ xs.getD k 0 :: xs.drop (k + 1) := by rw [← Dg.drop_at hk, List.take_append_drop]
  have e2 : ys = ys.take k ++ ys.getD k 0 :: ys.drop (k + 1) := by rw [← Dg.drop_at (by omega), List.take_append_drop]
  have h1 := Dg.val_lt (lx.take k)
  have h2 := Dg.val_lt (ly.take k)
  have l1 : (xs.take k).length = k := by rw [List.length_take]; omega
  have l2 : (ys.take k).length = k := by rw [List.length_take]; omega
  rw [l1] at h1
  rw [l2] at h2
  have v1 : Dg.val 2 xs = Dg.val 2 (xs.take k) + 2 ^ k * (xs.getD k 0 + 2 * Dg.val 2 (xs.drop (k + 1))) := by
    conv => lhs; rw [e1]
    rw [Dg.val_append, l1, Dg.val_cons]
  have v2 : Dg.val 2 ys = Dg.val 2 (ys.take k) + 2 ^ k * (ys.getD k 0 + 2 * Dg.val 2 (ys.drop (k + 1))) := by
    conv => lhs; rw [e2]
    rw [Dg.val_append, l2, Dg.val_cons]
  rw [v1, v2, ← h]
  generalize Dg.val 2 (xs.drop (k + 1)) = v at *
  have h3 : 2 ^ k * (ys.getD k 0 + 2 * v + 1) ≤ 2 ^ k * (xs.getD k 0 + 2 * v) := Nat.mul_le_mul_left _ (by omega)
  rw [Nat.mul_add (2 ^ k) (ys.getD k 0 + 2 * v) 1] at h3
  omega
theorem more_len {xs ys : List Nat} (lx : Dg.Low 2 xs) (ty : Dg.Top ys) (h : xs.length < ys.length) : Dg.val 2 xs < Dg.val 2 ys := by
  rcases Nat.lt_or_ge (Dg.val 2 xs) (Dg.val 2 ys) with h1 | h1
  · exact h1
  · exact absurd (Dg.len_le (by decide) lx ty h1) (by omega)

set_option maxHeartbeats 2000000 in
theorem more_c (A : Option Addr) (c : Nat) (xs : List Nat) (B : Option Addr) (d : Nat) (ys : List Nat) (w : World) (ha : NumsAt .u8 w w.heap.size A xs) (hb : NumsAt .u8 w w.heap.size B ys) (la : Dg.Low 2 xs) (lb : Dg.Low 2 ys) (ta : Dg.Top xs) (tb : Dg.Top ys) (hn : xs.length ≤ 100000) (hm : ys.length ≤ 100000) :
    Calls Tryz.prog 30 #[.slice A xs.length c, .slice B ys.length d] w fun e w' => e = .returned (.bool (decide (Dg.val 2 ys ≤ Dg.val 2 xs))) ∧ Grew w w' := by
  have hn' : (xs.length : Int) ≤ 100000 := by omega
  have hm' : (ys.length : Int) ≤ 100000 := by omega
  by_cases hl : xs.length = ys.length
  · obtain ⟨r, hr⟩ : ∃ r, r = decide (Dg.val 2 ys ≤ Dg.val 2 xs) := ⟨_, rfl⟩
    rw [← hr]
    have HRR := hid hr
    have HLL := hid hl
    have HA := hid ha
    have HB := hid hb
    clear hr ha hb hm hm'
    have hl2 : Hid (xs.length = ys.length) := hid hl
    rw [← hl]
    clear hl
    go_enter Tryz.func30, Tryz.ntmps30
    go_wp2
    go_loopw [5] (fun i wr => ∃ k : Nat, i = .int .i64 ((k : Int) - 1) ∧ k ≤ xs.length ∧ Grew w wr ∧ Hid (xs.drop k = ys.drop k)) (fun i _ => (intOf i + 1).toNat)
    case atStart => exact ⟨xs.length, rfl, Nat.le_refl _, Grew.refl _, hid (by rw [List.drop_of_length_le (Nat.le_refl _), List.drop_of_length_le (by rw [HLL.out]; exact Nat.le_refl _)])⟩
    case round =>
      obtain ⟨k, rfl, hk, ⟨z, rfl⟩, HD⟩ := hrel
      rcases Nat.eq_zero_or_pos k with h0 | h0
      · subst h0
        have HE : Hid (r = true) := hid (by
          have := HD.out
          simp only [List.drop_zero] at this
          rw [HRR.out, this]; simp)
        go_wp2
        go_ret
        exact ⟨by rw [HE.out]; rfl, z.grew⟩
      · obtain ⟨m, rfl⟩ : ∃ m, k = m + 1 := ⟨k - 1, by omega⟩
        obtain ⟨ad, ea, had, hca⟩ := HA.out (by omega)
        obtain ⟨bd, eb, hbd, hcb⟩ := HB.out (by rw [← HLL.out]; omega)
        subst ea eb
        have ca := hca m (by omega)
        have cb := hcb m (by rw [← HLL.out]; omega)
        have gx := Dg.Low.getD (by decide) la m
        have gy := Dg.Low.getD (by decide) lb m
        have F1 : Hid (ys.getD m 0 < xs.getD m 0 → r = true) := hid (fun h => by
          have := more_at la lb HLL.out (by omega) HD.out h
          rw [HRR.out]; simp; omega)
        have F2 : Hid (xs.getD m 0 < ys.getD m 0 → r = false) := hid (fun h => by
          have := more_at lb la HLL.out.symm (by rw [← HLL.out]; omega) HD.out.symm h
          rw [HRR.out]; simp; omega)
        have F3 : Hid (xs.getD m 0 = ys.getD m 0 → xs.drop m = ys.drop m) := hid (fun h => by
          rw [Dg.drop_at (show m < xs.length by omega), Dg.drop_at (show m < ys.length by rw [← HLL.out]; omega), h, HD.out])
        clear hca hcb
        generalize xs.getD m 0 = x at *
        generalize ys.getD m 0 = y at *
        have hk' : (m : Int) < (xs.length : Int) := by omega
        rcases Nat.lt_trichotomy x y with hxy | hxy | hxy
        · have t1 : (((x : Nat) : Int) != ((y : Nat) : Int)) = true := by rw [bne_iff_ne]; omega
          have t2 : decide (((y : Nat) : Int) < ((x : Nat) : Int)) = false := by simp; omega
          go_wp2_with fail
          refine wp_region_grew_from z.grew (by kernel_rfl) (by kernel_rfl) ?_
          repeat (go_big_quiet_step (fail))
          refine wpQuiet_nil ?_
          rintro _ ⟨z2, rfl⟩
          go_wp2_with fail
          refine wp_region_grew_from z2.grew (by kernel_rfl) (by kernel_rfl) ?_
          repeat (go_big_quiet_step (fail))
          refine wpQuiet_nil ?_
          rintro _ ⟨z3, rfl⟩
          go_wp2_with fail
          go_ret
          exact ⟨ret_bool (by rw [F2.out hxy]; simp; omega), z3.grew⟩
        · have E3 := hid (F3.out hxy)
          clear F1 F2 F3
          subst hxy
          go_wp2_with fail
          refine wp_region_grew_from z.grew (by kernel_rfl) (by kernel_rfl) ?_
          repeat (go_big_quiet_step (fail))
          refine wpQuiet_nil ?_
          rintro _ ⟨z2, rfl⟩
          go_wp2_with fail
          go_roundw
          case rel => exact ⟨m, by go_num, by omega, z2.grew, E3⟩
          case measure => simp [intOf]
        · have t1 : (((x : Nat) : Int) != ((y : Nat) : Int)) = true := by rw [bne_iff_ne]; omega
          have t2 : decide (((y : Nat) : Int) < ((x : Nat) : Int)) = true := by simp; omega
          go_wp2_with fail
          refine wp_region_grew_from z.grew (by kernel_rfl) (by kernel_rfl) ?_
          repeat (go_big_quiet_step (fail))
          refine wpQuiet_nil ?_
          rintro _ ⟨z2, rfl⟩
          go_wp2_with fail
          refine wp_region_grew_from z2.grew (by kernel_rfl) (by kernel_rfl) ?_
          repeat (go_big_quiet_step (fail))
          refine wpQuiet_nil ?_
          rintro _ ⟨z3, rfl⟩
          go_wp2_with fail
          go_ret
          exact ⟨ret_bool (by rw [F1.out hxy]), z3.grew⟩
  · have hne : (((xs.length : Nat) : Int) != ((ys.length : Nat) : Int)) = true := by rw [bne_iff_ne]; omega
    have E : Hid (decide (Dg.val 2 ys ≤ Dg.val 2 xs) = decide (ys.length < xs.length)) := hid (by
      rcases Nat.lt_or_gt_of_ne hl with h | h
      · have := more_len la tb h
        rw [decide_eq_false (by omega), decide_eq_false (by omega)]
      · have := more_len lb ta h
        rw [decide_eq_true (by omega), decide_eq_true (by omega)])
    clear hl
    go_enter Tryz.func30, Tryz.ntmps30
    go_wp2
    go_ret
    exact ⟨by rw [E.out]; rfl, Grew.refl _⟩
end Go.Proofs.YtmcfciifjgdgoaaGreatDoor

/- The walks of the document's own numbers of 62 bits, by the same contracts. -/
import Derived.Test.YtceldfnajemdkaaDoorSm1
import Derived.Laws.Shifts
namespace Go.Proofs.YtceldfnajemdkaaDoor
open Go.RowKit

theorem radd_c (a b : Int) (w : World) : Calls Tryd.prog 9 #[.int .i64 a, .int .i64 b] w fun e w' => e = .returned (.tuple #[.int .i64 (Sm.val3 a b (a + b)), .bool (Sm.ok3 a b (a + b))]) ∧ w' = w := by
  rw [← val3_congr (m := wrap64 (a + b)) wrap_add, ← ok3_congr (m := wrap64 (a + b)) wrap_add]
  have e1 : Sm.val3 a b (wrap64 (a + b)) = if (Sm.fits a && Sm.fits b && Sm.fits (wrap64 (a + b))) = true then wrap64 (a + b) else 0 := rfl
  have e2 : Sm.ok3 a b (wrap64 (a + b)) = (Sm.fits a && Sm.fits b && Sm.fits (wrap64 (a + b))) := rfl
  rw [e1, e2]
  clear e1 e2
  cases ha : Sm.fits a <;> cases hb : Sm.fits b <;> cases hn : Sm.fits (wrap64 (a + b))
  all_goals
    go_enter Tryd.func9, Tryd.ntmps9
    go_wp2_with (go_at_call 21; refine (rfits_c _ _).mono ?_; rintro e w' ⟨rfl, rfl⟩)
    go_ret2
    exact ⟨rfl, rfl⟩
theorem rsub_c (a b : Int) (w : World) : Calls Tryd.prog 11 #[.int .i64 a, .int .i64 b] w fun e w' => e = .returned (.tuple #[.int .i64 (Sm.val3 a b (a - b)), .bool (Sm.ok3 a b (a - b))]) ∧ w' = w := by
  rw [← val3_congr (m := wrap64 (a - b)) wrap_sub, ← ok3_congr (m := wrap64 (a - b)) wrap_sub]
  have e1 : Sm.val3 a b (wrap64 (a - b)) = if (Sm.fits a && Sm.fits b && Sm.fits (wrap64 (a - b))) = true then wrap64 (a - b) else 0 := rfl
  have e2 : Sm.ok3 a b (wrap64 (a - b)) = (Sm.fits a && Sm.fits b && Sm.fits (wrap64 (a - b))) := rfl
  rw [e1, e2]
  clear e1 e2
  cases ha : Sm.fits a <;> cases hb : Sm.fits b <;> cases hn : Sm.fits (wrap64 (a - b))
  all_goals
    go_enter Tryd.func11, Tryd.ntmps11
    go_wp2_with (go_at_call 21; refine (rfits_c _ _).mono ?_; rintro e w' ⟨rfl, rfl⟩)
    go_ret2
    exact ⟨rfl, rfl⟩

theorem rtag_c (n : Int) (w : World) : Calls Tryd.prog 17 #[.int .i64 n] w fun e w' => e = .returned (.tuple #[.int .u64 (Sm.tagW n), .int .i64 (Sm.tagE n)]) ∧ w' = w := by
  cases hn : Sm.fits n
  · rw [show Sm.tagW n = 0 by simp [Sm.tagW, hn], show Sm.tagE n = 3 by simp [Sm.tagE, hn]]
    go_enter Tryd.func17, Tryd.ntmps17
    go_wp2_with (go_at_call 21; refine (rfits_c _ _).mono ?_; rintro e w' ⟨rfl, rfl⟩)
    go_ret2
    exact ⟨rfl, rfl⟩
  · rw [show Sm.tagW n = (4 * n + 1) % 18446744073709551616 by simp [Sm.tagW, hn], show Sm.tagE n = 0 by simp [Sm.tagE, hn]]
    go_enter Tryd.func17, Tryd.ntmps17
    go_wp2_with (go_at_call 21; refine (rfits_c _ _).mono ?_; rintro e w' ⟨rfl, rfl⟩)
    go_ret2
    exact ⟨ret_iv (by simp only [IntKind.wrap_u64]; omega) rfl, rfl⟩
theorem rof_c (n : Int) (w : World) (h0 : 0 ≤ n) (h1 : n < 18446744073709551616) : Calls Tryd.prog 19 #[.int .u64 n] w fun e w' => e = .returned (.tuple #[.int .i64 (Sm.ofN n), .int .i64 (Sm.ofE n)]) ∧ w' = w := by
  by_cases hn : n % 4 = 1
  · have E1 := hid (show Sm.ofE n = 0 by simp [Sm.ofE, hn])
    have E2 := hid (show Sm.ofN n = if n < 9223372036854775808 then n / 4 else n / 4 - 4611686018427387904 by simp [Sm.ofN, hn])
    have t : (n % 4 != 1) = false := by simpa using hn
    clear hn
    go_enter Tryd.func19, Tryd.ntmps19
    go_wp2
    all_goals
      rename_i h
      go_ret2
      exact ⟨ret_iv (by rw [E2.out]; first | rw [if_pos (by omega)] | rw [if_neg (by omega)]) (by rw [E1.out]; rfl), rfl⟩
  · have E1 := hid (show Sm.ofE n = 2 by simp [Sm.ofE, hn])
    have E2 := hid (show Sm.ofN n = 0 by simp [Sm.ofN, hn])
    have t : (n % 4 != 1) = true := by simpa using hn
    clear hn
    go_enter Tryd.func19, Tryd.ntmps19
    go_wp2
    go_ret2
    exact ⟨ret_iv E2.out.symm (by rw [E1.out]; rfl), rfl⟩

theorem rdiv_c (a b : Int) (w : World) : Calls Tryd.prog 15 #[.int .i64 a, .int .i64 b] w fun e w' => e = .returned (.tuple #[.int .i64 (Sm.divQ a b), .int .i64 (Sm.divR a b), .int .i64 (Sm.divE a b)]) ∧ Grew w w' := by
  by_cases hab : Sm.fits a = true ∧ Sm.fits b = true
  · obtain ⟨ha, hb⟩ := hab
    by_cases h0 : b = 0
    · subst h0
      have E := hid (show Sm.divE a 0 = 10 by simp [Sm.divE, ha, hb])
      go_enter Tryd.func15, Tryd.ntmps15
      go_wp2_with (go_at_call 21; refine (rfits_c _ _).mono ?_; rintro e w' ⟨rfl, rfl⟩)
      go_ret3
      exact ⟨ret_ie3 (by simp [Sm.divQ, E.out]) (by simp [Sm.divR, E.out]) (by rw [E.out]; rfl), Grew.refl _⟩
    · have ba := Sm.fits_iff.1 ha
      have bb := Sm.fits_iff.1 hb
      have bt := Sm.tmod_bd (a := a) h0
      have bf := (Sm.fmod_bd (a := a) h0).1
      have h0' : (b == 0) = false := by simpa using h0
      have key := Sm.ref_fmod (a := a) h0
      obtain ⟨q, hq⟩ : ∃ q, q = a.fdiv b := ⟨_, rfl⟩
      obtain ⟨r, hr⟩ : ∃ r, r = a.fmod b := ⟨_, rfl⟩
      have E := hid (div_rest a b _ _ h0 ha hb hq.symm hr.symm)
      have k1 : wrap64 ((wrap64 (a.tmod b + b)).tmod b) = r := by
        rw [wrap_fit (n := a.tmod b + b) (by omega), key.1, wrap_fit (n := a.fmod b) (by omega), hr]
      have k1' : (a.tmod b + b).tmod b = r := by rw [key.1, hr]
      have k2 : (a - r).tdiv b = q := by rw [hr, key.2, hq]
      rw [← hr] at bf
      have bq : q.natAbs ≤ 6917529027641081856 := by
        rw [← k2]
        have : ((a - r).tdiv b).natAbs = (a - r).natAbs / b.natAbs := Int.natAbs_tdiv _ _
        have := Nat.div_le_self (a - r).natAbs b.natAbs
        omega
      have k3 : wrap64 q = q := wrap_fit (by omega)
      clear key hq hr
      cases hf : Sm.fits q
      all_goals
        go_enter Tryd.func15, Tryd.ntmps15
        go_wp2_with (go_at_call 21; refine (rfits_c _ _).mono ?_; rintro e w' ⟨rfl, rfl⟩)
        go_ret3
        first
          | exact ⟨ret_ie3 (E.out.1 hf).1.symm (E.out.1 hf).2.1.symm (by rw [(E.out.1 hf).2.2]; rfl), Grew.refl _⟩
          | exact ⟨ret_ie3 (E.out.2 hf).1.symm (E.out.2 hf).2.1.symm (by rw [(E.out.2 hf).2.2]; rfl), Grew.refl _⟩
  · have E := hid (show Sm.divE a b = 3 by simp only [Sm.divE, hab, not_false_eq_true, if_true])
    have hab' : Hid (¬ (Sm.fits a = true ∧ Sm.fits b = true)) := hid hab
    clear hab
    cases ha : Sm.fits a <;> cases hb : Sm.fits b
    case true.true => exact absurd ⟨ha, hb⟩ hab'.out
    all_goals
      go_enter Tryd.func15, Tryd.ntmps15
      go_wp2_with (go_at_call 21; refine (rfits_c _ _).mono ?_; rintro e w' ⟨rfl, rfl⟩)
      go_ret3
      exact ⟨ret_ie3 (by simp [Sm.divQ, E.out]) (by simp [Sm.divR, E.out]) (by rw [E.out]; rfl), Grew.refl _⟩
end Go.Proofs.YtceldfnajemdkaaDoor

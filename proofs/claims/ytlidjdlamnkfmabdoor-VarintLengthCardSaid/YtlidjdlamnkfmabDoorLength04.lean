/- VarintLength: for every int the law returns true, and nothing that was there is changed. Conditions: none of ours. -/
import Derived.Test.YtlidjdlamnkfmabDoorVi4
namespace Go.Proofs.YtlidjdlamnkfmabDoor
open Go.RowKit

theorem put_len {n : Int} {k : Nat} (w : World) (hn : Vi.I64 n) (hk : (Vi.enc n).length = k) : Calls Tryd.prog 7 #[.slice none 0 0, .int .i64 n] w fun e w' => ∃ A c, e = .returned (.slice A k c) ∧ Grew w w' := by
  refine (put_c none 0 [] n w (NumsAt.nil _ _ _ _) hn (by simp)).mono fun e w' ⟨A, c, L, he, hO, hL, hg⟩ => ⟨A, c, ?_, hg⟩
  rw [he, hL, List.nil_append, hk]
theorem span_c {n : Int} {k : Nat} (hn : Vi.I64 n) (hk : (Vi.enc n).length = k) : Vi.Fits (k - 1) n ∧ (1 < k → ¬ Vi.Fits (k - 2) n) := by
  subst hk
  exact Vi.encF_span (Vi.fits_nine hn)

set_option maxRecDepth 100000 in
set_option maxHeartbeats 4000000 in
theorem length_walk (n : Int) (w : World) (hn : Vi.I64 n) (hg : HandleAt w) :
    Calls Tryd.prog 4 #[.int .i64 n] w fun e w' => e = .returned (.bool true) ∧ Grew w w' := by
  have Hg := hid hg
  clear hg
  obtain ⟨k, hk⟩ : ∃ k, (Vi.enc n).length = k := ⟨_, rfl⟩
  have hkb := Vi.enc_len n
  rw [hk] at hkb
  have HP := hid (put_len w hn hk)
  have hs := span_c hn hk
  obtain ⟨n1, n2⟩ := hn
  clear hk
  rcases (by omega : k = 1 ∨ k = 2 ∨ k = 3 ∨ k = 4 ∨ k = 5 ∨ k = 6 ∨ k = 7 ∨ k = 8 ∨ k = 9 ∨ k = 10) with rfl | rfl | rfl | rfl | rfl | rfl | rfl | rfl | rfl | rfl
  all_goals
    clear hkb
    obtain ⟨⟨s1, s2⟩, s3⟩ := hs
    simp only [Nat.reduceSub, Int.reducePow, Int.reduceMul, Int.reduceNeg] at s1 s2
  · have t1 : ¬ n < -64 := by omega
    have t2 : ¬ 64 ≤ n := by omega
    clear s1 s2 s3
    go_enter Tryd.func4, Tryd.ntmps4
    go_wp2_with fail
    refine HP.out.mono ?_
    rintro e w1 ⟨A, c, rfl, y, rfl⟩
    go_wp2_with fail
    refine (Calls.grew y.grew (sure_c _ (Hg.out.grew y.grew))).mono ?_
    rintro e w ⟨rfl, y3, rfl⟩
    go_wp2_with fail
    go_ret
    exact ⟨rfl, y3.grew⟩
  all_goals
    have s4 := s3 (by decide)
    unfold Vi.Fits at s4
    simp only [Nat.reduceSub, Int.reducePow, Int.reduceMul, Int.reduceNeg] at s4
    rw [Decidable.not_and_iff_not_or_not] at s4
    clear s3
    rcases s4 with s4 | s4
    all_goals
      go_enter Tryd.func4, Tryd.ntmps4
      go_wp2_with fail
      refine HP.out.mono ?_
      rintro e w1 ⟨A, c, rfl, y, rfl⟩
      go_wp2_with fail
      all_goals
        refine (Calls.grew y.grew (sure_c _ (Hg.out.grew y.grew))).mono ?_
        rintro e w ⟨rfl, y3, rfl⟩
        go_wp2_with fail
        go_ret
        first
          | exact ⟨rfl, y3.grew⟩
          | exact ⟨ret_bool (by simp; omega), y3.grew⟩
end Go.Proofs.YtlidjdlamnkfmabDoor

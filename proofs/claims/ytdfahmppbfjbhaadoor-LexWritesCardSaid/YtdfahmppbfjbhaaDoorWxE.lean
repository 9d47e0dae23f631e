/- Stage 13: the program's own May. -/
import Derived.Test.YtdfahmppbfjbhaaDoorWxD
namespace Go.Proofs.YtdfahmppbfjbhaaDoor
open Go.RowKit

theorem mayT_same {k : Nat} (hk : k = 0 ∨ k = 1 ∨ k = 5) (l : List UInt8) : Lx.mayT 0 l = Lx.mayT k l := by
  rw [mayT_name (.inl rfl), mayT_name hk]
set_option maxRecDepth 100000 in
set_option maxHeartbeats 2000000 in
theorem may_c (k : Nat) (hk : k < 256) (s : ByteArray) (o : Int) (hs : s.size ≤ 4294967280) (w : World) : Calls Tryd.prog 12 #[.agg #[.int .u8 ((k : Nat) : Int), .string s, .int .i64 o]] w fun e w' => e = .returned (.bool (Lx.may ⟨k, s, o⟩)) ∧ Grew w w' := by
  unfold Lx.may
  simp only
  have HG := hid ((Grew.refl w).alloc (.cells #[.int .u8 ((k : Nat) : Int), .string s, .int .i64 o] 37))
  by_cases h0 : 0 ≤ o
  · rw [decide_eq_true h0, Bool.true_and]
    change Calls _ _ _ _ fun e w' => e = .returned (.bool (Lx.mayT k (bs s))) ∧ Grew w w'
    by_cases h015 : k = 0 ∨ k = 1 ∨ k = 5
    · have HN := hid (fun W => isName_c s hs W)
      rw [mayT_same h015] at HN
      generalize Lx.mayT k (bs s) = b at *
      rcases h015 with rfl | rfl | rfl
      all_goals
        go_enter Tryd.func12, Tryd.ntmps12
        go_wp2_with fail
        refine (HN.out _).mono ?_
        rintro e w1 ⟨rfl, hg⟩
        go_wp2_with fail
        go_ret
        exact ⟨rfl, HG.out.trans hg⟩
    by_cases h2 : k = 2
    · subst h2
      have HN := hid (fun W => isBinary_c s hs W)
      generalize Lx.mayT 2 (bs s) = b at *
      go_enter Tryd.func12, Tryd.ntmps12
      go_wp2_with fail
      refine (HN.out _).mono ?_
      rintro e w1 ⟨rfl, hg⟩
      go_wp2_with fail
      go_ret
      exact ⟨rfl, HG.out.trans hg⟩
    by_cases h3 : k = 3
    · subst h3
      have HN := hid (fun W => isNumeral_c s hs W)
      generalize Lx.mayT 3 (bs s) = b at *
      go_enter Tryd.func12, Tryd.ntmps12
      go_wp2_with fail
      refine (HN.out _).mono ?_
      rintro e w1 ⟨rfl, hg⟩
      go_wp2_with fail
      go_ret
      exact ⟨rfl, HG.out.trans hg⟩
    by_cases h4 : k = 4
    · subst h4
      have e4 : Lx.mayT 4 (bs s) = decide (((s.size : Nat) : Int) ≤ 1024) := by
        rw [show Lx.mayT 4 (bs s) = decide ((bs s).length ≤ 1024) from rfl, bs_len, decide_eq_decide]
        omega
      rw [e4]
      clear e4
      go_enter Tryd.func12, Tryd.ntmps12
      go_wp2_with fail
      go_ret
      exact ⟨rfl, HG.out⟩
    have f0 : (((k : Nat) : Int) == 0) = false := by rw [beq_eq_false_iff_ne]; omega
    have f1 : (((k : Nat) : Int) == 1) = false := by rw [beq_eq_false_iff_ne]; omega
    have f5 : (((k : Nat) : Int) == 5) = false := by rw [beq_eq_false_iff_ne]; omega
    have f2 : (((k : Nat) : Int) == 2) = false := by rw [beq_eq_false_iff_ne]; omega
    have f3 : (((k : Nat) : Int) == 3) = false := by rw [beq_eq_false_iff_ne]; omega
    have f4 : (((k : Nat) : Int) == 4) = false := by rw [beq_eq_false_iff_ne]; omega
    have em : Lx.mayT k (bs s) = (decide (k ≤ 16) && s.toList.isEmpty) := by
      unfold Lx.mayT
      rw [if_neg h015, if_neg h2, if_neg h3, if_neg h4, str_data]
    rw [em]
    clear em h015 h2 h3 h4
    by_cases h16 : k ≤ 16
    · have t : ((k : Nat) : Int) ≤ 16 := by omega
      rw [decide_eq_true h16, Bool.true_and]
      go_enter Tryd.func12, Tryd.ntmps12
      go_wp2_with fail
      go_ret
      exact ⟨rfl, HG.out⟩
    · have t : ¬ ((k : Nat) : Int) ≤ 16 := by omega
      rw [decide_eq_false h16, Bool.false_and]
      go_enter Tryd.func12, Tryd.ntmps12
      go_wp2_with fail
      go_ret
      exact ⟨rfl, HG.out⟩
  · rw [decide_eq_false h0, Bool.false_and]
    go_enter Tryd.func12, Tryd.ntmps12
    go_wp2_with fail
    go_ret
    exact ⟨rfl, HG.out⟩
end Go.Proofs.YtdfahmppbfjbhaaDoor

/- Stage 13, the document's own: May. -/
import Derived.Test.YtdfahmppbfjbhaaDoorRwA
import Derived.Test.YtdfahmppbfjbhaaDoorWxE
namespace Go.Proofs.YtdfahmppbfjbhaaDoor
open Go.RowKit

theorem isLD_cls : (fun c => cls c == 97 || cls c == 48) = Lx.isLD := by
  funext c
  rw [cls_a, cls_0]
  rfl
theorem isOp_cls : (fun c => cls c == 43 || cls c == 43) = Lx.isOp := by
  funext c
  rw [Bool.or_self, cls_p]
theorem isD_cls : (fun c => cls c == 48 || cls c == 48) = Lx.isD := by
  funext c
  rw [Bool.or_self, cls_0]
theorem rall_name (s : ByteArray) (hs : s.size ≤ 4294967280) (w : World) : Calls Tryd.prog 27 #[.string s, .int .u8 97, .int .u8 48] w fun e w' => e = .returned (.bool ((bs s).all Lx.isLD)) ∧ w' = w := by
  have := rall_c s 97 48 hs w
  rw [isLD_cls] at this
  exact this
theorem rall_op (s : ByteArray) (hs : s.size ≤ 4294967280) (w : World) : Calls Tryd.prog 27 #[.string s, .int .u8 43, .int .u8 43] w fun e w' => e = .returned (.bool ((bs s).all Lx.isOp)) ∧ w' = w := by
  have := rall_c s 43 43 hs w
  rw [isOp_cls] at this
  exact this
theorem rall_num (s : ByteArray) (hs : s.size ≤ 4294967280) (w : World) : Calls Tryd.prog 27 #[.string s, .int .u8 48, .int .u8 48] w fun e w' => e = .returned (.bool ((bs s).all Lx.isD)) ∧ w' = w := by
  have := rall_c s 48 48 hs w
  rw [isD_cls] at this
  exact this
set_option maxRecDepth 100000 in
set_option maxHeartbeats 4000000 in
theorem rmay_c (k : Nat) (hk : k < 256) (s : ByteArray) (o : Int) (hs : s.size ≤ 4294967280) (w : World) : Calls Tryd.prog 13 #[.agg #[.int .u8 ((k : Nat) : Int), .string s, .int .i64 o]] w fun e w' => e = .returned (.bool (Lx.may ⟨k, s, o⟩)) ∧ Grew w w' := by
  unfold Lx.may
  simp only
  have HG := hid ((Grew.refl w).alloc (.cells #[.int .u8 ((k : Nat) : Int), .string s, .int .i64 o] 35))
  rcases (Decidable.em (0 ≤ o)).symm with h0 | h0
  · have f0 : o < 0 := by omega
    rw [decide_eq_false h0, Bool.false_and]
    go_enter Tryd.func13, Tryd.ntmps13
    go_wp2_with fail
    go_ret
    exact ⟨rfl, HG.out⟩
  rw [decide_eq_true h0, Bool.true_and]
  change Calls _ _ _ _ fun e w' => e = .returned (.bool (Lx.mayT k (bs s))) ∧ Grew w w'
  have hlen := bs_len s
  by_cases h015 : k = 0 ∨ k = 1 ∨ k = 5
  · have em : Lx.mayT k (bs s) = (decide (1 ≤ s.size) && decide (s.size ≤ 64) && (bs s).all Lx.isLD && ((bs s).head?.any Lx.isL)) := by
      unfold Lx.mayT
      rw [if_pos h015, hlen]
    rw [em]
    clear em hlen
    rcases (Decidable.em (1 ≤ s.size)).symm with h1 | h1
    · have f1 : ¬ (1 : Int) ≤ ((s.size : Nat) : Int) := by omega
      rw [decide_eq_false h1, Bool.false_and, Bool.false_and, Bool.false_and]
      rcases h015 with rfl | rfl | rfl
      all_goals
        go_enter Tryd.func13, Tryd.ntmps13
        go_wp2_with fail
        go_ret
        exact ⟨rfl, HG.out⟩
    have f1 : (1 : Int) ≤ ((s.size : Nat) : Int) := by omega
    rw [decide_eq_true h1, Bool.true_and]
    rcases (Decidable.em (s.size ≤ 64)).symm with h2 | h2
    · have f2 : ¬ ((s.size : Nat) : Int) ≤ 64 := by omega
      rw [decide_eq_false h2, Bool.false_and, Bool.false_and]
      rcases h015 with rfl | rfl | rfl
      all_goals
        go_enter Tryd.func13, Tryd.ntmps13
        go_wp2_with fail
        go_ret
        exact ⟨rfl, HG.out⟩
    have f2 : ((s.size : Nat) : Int) ≤ 64 := by omega
    rw [decide_eq_true h2, Bool.true_and]
    have HA := hid (fun W => rall_name s hs W)
    obtain ⟨c, hc, hb⟩ := bs_at s 0 (by omega)
    rw [← List.head?_eq_getElem?] at hc
    rw [hc, show (some c).any Lx.isL = Lx.isL c from rfl]
    have HC := hid (fun W => rclass_c c W)
    have e1 : ((((cls c).toNat : Nat) : Int) == 97) = Lx.isL c := by
      rw [← cls_a]; exact u8_beq (cls c) 97
    clear hc
    generalize (bs s).all Lx.isLD = p at *
    generalize Lx.isL c = q at *
    generalize (cls c).toNat = z at *
    generalize c.toNat = v at *
    cases p
    · rw [Bool.false_and]
      rcases h015 with rfl | rfl | rfl
      all_goals
        go_enter Tryd.func13, Tryd.ntmps13
        go_wp2_with fail
        refine (HA.out _).mono ?_
        rintro e w1 ⟨rfl, rfl⟩
        go_wp2_with fail
        go_ret
        exact ⟨rfl, HG.out⟩
    · rw [Bool.true_and]
      rcases h015 with rfl | rfl | rfl
      all_goals
        go_enter Tryd.func13, Tryd.ntmps13
        go_wp2_with fail
        refine (HA.out _).mono ?_
        rintro e w1 ⟨rfl, rfl⟩
        go_wp2_with fail
        refine (HC.out _).mono ?_
        rintro e w1 ⟨rfl, rfl⟩
        go_wp2_with fail
        go_ret
        exact ⟨rfl, HG.out⟩
  by_cases h2 : k = 2
  · subst h2
    have em : Lx.mayT 2 (bs s) = (decide (1 ≤ s.size) && decide (s.size ≤ 2) && (bs s).all Lx.isOp) := by
      unfold Lx.mayT
      rw [if_neg (by decide), if_pos rfl, hlen]
    rw [em]
    clear em hlen h015
    have HA := hid (fun W => rall_op s hs W)
    generalize (bs s).all Lx.isOp = p at *
    rcases (Decidable.em (1 ≤ s.size)).symm with h1 | h1
    · have f1 : ¬ (1 : Int) ≤ ((s.size : Nat) : Int) := by omega
      rw [decide_eq_false h1, Bool.false_and, Bool.false_and]
      go_enter Tryd.func13, Tryd.ntmps13
      go_wp2_with fail
      go_ret
      exact ⟨rfl, HG.out⟩
    have f1 : (1 : Int) ≤ ((s.size : Nat) : Int) := by omega
    rw [decide_eq_true h1, Bool.true_and]
    rcases (Decidable.em (s.size ≤ 2)).symm with h2 | h2
    · have f2 : ¬ ((s.size : Nat) : Int) ≤ 2 := by omega
      rw [decide_eq_false h2, Bool.false_and]
      go_enter Tryd.func13, Tryd.ntmps13
      go_wp2_with fail
      go_ret
      exact ⟨rfl, HG.out⟩
    have f2 : ((s.size : Nat) : Int) ≤ 2 := by omega
    rw [decide_eq_true h2, Bool.true_and]
    go_enter Tryd.func13, Tryd.ntmps13
    go_wp2_with fail
    refine (HA.out _).mono ?_
    rintro e w1 ⟨rfl, rfl⟩
    go_wp2_with fail
    go_ret
    exact ⟨rfl, HG.out⟩
  by_cases h3 : k = 3
  · subst h3
    have em : Lx.mayT 3 (bs s) = (decide (1 ≤ s.size) && decide (s.size ≤ 700) && (bs s).all Lx.isD && (decide (s.size = 1) || (bs s).head? != some 48)) := by
      unfold Lx.mayT
      rw [if_neg (by decide), if_neg (by decide), if_pos rfl, hlen]
    rw [em]
    clear em hlen h015 h2
    have HA := hid (fun W => rall_num s hs W)
    generalize (bs s).all Lx.isD = p at *
    rcases (Decidable.em (1 ≤ s.size)).symm with h1 | h1
    · have f1 : ¬ (1 : Int) ≤ ((s.size : Nat) : Int) := by omega
      rw [decide_eq_false h1, Bool.false_and, Bool.false_and, Bool.false_and]
      go_enter Tryd.func13, Tryd.ntmps13
      go_wp2_with fail
      go_ret
      exact ⟨rfl, HG.out⟩
    have f1 : (1 : Int) ≤ ((s.size : Nat) : Int) := by omega
    rw [decide_eq_true h1, Bool.true_and]
    rcases (Decidable.em (s.size ≤ 700)).symm with h2 | h2
    · have f2 : ¬ ((s.size : Nat) : Int) ≤ 700 := by omega
      rw [decide_eq_false h2, Bool.false_and, Bool.false_and]
      go_enter Tryd.func13, Tryd.ntmps13
      go_wp2_with fail
      go_ret
      exact ⟨rfl, HG.out⟩
    have f2 : ((s.size : Nat) : Int) ≤ 700 := by omega
    rw [decide_eq_true h2, Bool.true_and]
    cases p
    · rw [Bool.false_and]
      go_enter Tryd.func13, Tryd.ntmps13
      go_wp2_with fail
      refine (HA.out _).mono ?_
      rintro e w1 ⟨rfl, rfl⟩
      go_wp2_with fail
      go_ret
      exact ⟨rfl, HG.out⟩
    rw [Bool.true_and]
    by_cases h3 : s.size = 1
    · have f3 : ((s.size : Nat) : Int) = 1 := by omega
      rw [decide_eq_true h3, Bool.true_or]
      go_enter Tryd.func13, Tryd.ntmps13
      go_wp2_with fail
      refine (HA.out _).mono ?_
      rintro e w1 ⟨rfl, rfl⟩
      go_wp2_with fail
      go_ret
      exact ⟨rfl, HG.out⟩
    have f3 : (((s.size : Nat) : Int) == 1) = false := by rw [beq_eq_false_iff_ne]; omega
    rw [decide_eq_false h3, Bool.false_or]
    obtain ⟨c, hc, hb⟩ := bs_at s 0 (by omega)
    rw [← List.head?_eq_getElem?] at hc
    have e1 : ((((c).toNat : Nat) : Int) != 48) = ((some c) != some 48) := by
      have := u8_beq c 48
      rw [bne, bne]
      rw [show ((some c : Option UInt8) == some 48) = (c == 48) from rfl, ← this]
      rfl
    rw [hc]
    generalize ((some c) != some 48) = q at *
    clear hc
    generalize c.toNat = v at *
    go_enter Tryd.func13, Tryd.ntmps13
    go_wp2_with fail
    refine (HA.out _).mono ?_
    rintro e w1 ⟨rfl, rfl⟩
    go_wp2_with fail
    go_ret
    exact ⟨rfl, HG.out⟩
  by_cases h4 : k = 4
  · subst h4
    have e4 : Lx.mayT 4 (bs s) = decide (((s.size : Nat) : Int) ≤ 1024) := by
      rw [show Lx.mayT 4 (bs s) = decide ((bs s).length ≤ 1024) from rfl, bs_len, decide_eq_decide]
      omega
    rw [e4]
    clear e4 hlen h015 h2 h3
    go_enter Tryd.func13, Tryd.ntmps13
    go_wp2_with fail
    go_ret
    exact ⟨rfl, HG.out⟩
  have f0 : (((k : Nat) : Int) == 0) = false := by rw [beq_eq_false_iff_ne]; omega
  have f1 : (((k : Nat) : Int) == 1) = false := by rw [beq_eq_false_iff_ne]; omega
  have f5 : (((k : Nat) : Int) == 5) = false := by rw [beq_eq_false_iff_ne]; omega
  have f2 : (((k : Nat) : Int) == 2) = false := by rw [beq_eq_false_iff_ne]; omega
  have f3 : (((k : Nat) : Int) == 3) = false := by rw [beq_eq_false_iff_ne]; omega
  have f4 : (((k : Nat) : Int) == 4) = false := by rw [beq_eq_false_iff_ne]; omega
  have em : Lx.mayT k (bs s) = (decide (k ≤ 16) && s.toList.isEmpty) := by
    unfold Lx.mayT
    rw [if_neg h015, if_neg h2, if_neg h3, if_neg h4, str_data]
  rw [em]
  clear em hlen h015 h2 h3 h4
  by_cases h16 : k ≤ 16
  · have f6 : ¬ (16 : Int) < ((k : Nat) : Int) := by omega
    rw [decide_eq_true h16, Bool.true_and]
    go_enter Tryd.func13, Tryd.ntmps13
    go_wp2_with fail
    go_ret
    exact ⟨rfl, HG.out⟩
  · have f6 : (16 : Int) < ((k : Nat) : Int) := by omega
    rw [decide_eq_false h16, Bool.false_and]
    go_enter Tryd.func13, Tryd.ntmps13
    go_wp2_with fail
    go_ret
    exact ⟨rfl, HG.out⟩
end Go.Proofs.YtdfahmppbfjbhaaDoor

/- LatticeChains: for every number and every two numbers the law returns true, and nothing that was there is changed. Conditions: none of ours. -/
import Derived.Test.YthdgjalbkeccoaaDoorSure01
import Derived.Test.YthdgjalbkeccoaaDoorLatMath4
namespace Go.Proofs.YthdgjalbkeccoaaDoor
open Go.RowKit

set_option maxHeartbeats 8000000 in
theorem chains_walk (n a b : Int) (w : World) (hg : HandleAt w) :
    Calls Tryd.prog 3 #[.int .i64 n, .agg #[.int .i64 a, .int .i64 b]] w fun e w' => e = .returned (.bool true) ∧ Grew w w' := by
  have Hg := hid hg
  clear hg
  by_cases hn : n < 1 ∨ 8 < n
  · have hc := hid (fun W => chain_no n W hn)
    have hs : n < 1 ∨ 1 ≤ n ∧ 8 < n := by omega
    clear hn
    rcases hs with h | ⟨h, h2⟩
    · go_enter Tryd.func3, Tryd.ntmps3
      go_wp2_with fail
      refine (hc.out _).mono ?_
      rw [show errVal 1 = .iface 41 (.int .i64 1) from rfl]
      rintro e w1 ⟨rfl, z1, rfl⟩
      have GG := hid ((((Grew.refl w).alloc _).trans z1.grew).alloc (.cells #[.slice none 0 0] 25))
      go_wp2_with fail
      refine (num_1 _ (Hg.out.grew GG.out)).mono ?_
      rintro e w2 ⟨rfl, z2, rfl⟩
      go_wp2_with fail
      refine (Calls.grew z2.grew (sure_c _ (Hg.out.grew (GG.out.trans z2.grew)))).mono ?_
      rintro e w3 ⟨rfl, z3, rfl⟩
      go_wp2_with fail
      go_ret
      exact ⟨rfl, GG.out.trans z3.grew⟩
    · go_enter Tryd.func3, Tryd.ntmps3
      go_wp2_with fail
      refine (hc.out _).mono ?_
      rw [show errVal 1 = .iface 41 (.int .i64 1) from rfl]
      rintro e w1 ⟨rfl, z1, rfl⟩
      have GG := hid ((((Grew.refl w).alloc _).trans z1.grew).alloc (.cells #[.slice none 0 0] 25))
      go_wp2_with fail
      refine (num_1 _ (Hg.out.grew GG.out)).mono ?_
      rintro e w2 ⟨rfl, z2, rfl⟩
      go_wp2_with fail
      refine (Calls.grew z2.grew (sure_c _ (Hg.out.grew (GG.out.trans z2.grew)))).mono ?_
      rintro e w3 ⟨rfl, z3, rfl⟩
      go_wp2_with fail
      go_ret
      exact ⟨rfl, GG.out.trans z3.grew⟩
  · obtain ⟨n, rfl⟩ := Int.eq_ofNat_of_zero_le (show 0 ≤ n by omega)
    have h1 : 1 ≤ n := by omega
    have h8 : n ≤ 8 := by omega
    have h1' : (1 : Int) ≤ (n : Int) := by omega
    have h8' : (n : Int) ≤ 8 := by omega
    have h1'' : ¬ (n : Int) < 1 := by omega
    clear hn
    have hc := hid (fun W => chain_yes n W h1 h8)
    have hv := La.chain_valid h1 h8
    have EL := hid (La.chain_leq h1 h8 a b)
    have EB := hid (show (if La.valid (La.chain n) then La.bottom (La.chain n) else 0) = 0 by rw [hv, if_pos rfl]; exact La.chain_bottom9 ⟨n, by omega⟩ h1)
    have ET := hid (show (if La.valid (La.chain n) then La.bottom (La.flip (La.chain n)) else 0) = (n : Int) - 1 by rw [hv, if_pos rfl]; exact La.chain_top9 ⟨n, by omega⟩ h1)
    have EC := hid (show errVal (if La.valid (La.chain n) then 0 else 7) = .nilIface by rw [hv]; rfl)
    have hlen := hid (La.chain_length n)
    have H20 := hid (show (La.chain n).length ≤ 20 by rw [La.chain_length]; omega)
    clear hv
    go_enter Tryd.func3, Tryd.ntmps3
    go_wp2_with fail
    refine (hc.out _).mono ?_
    rw [show errVal 0 = .nilIface from rfl]
    rintro e W1 ⟨g, rfl, hA, hW1⟩
    have c0 : W1.cell? ⟨w.heap.size, 0, none⟩ = some (.int .i64 a) := by rw [hW1.below.cell (by simp)]; simp
    have c1 : W1.cell? ⟨w.heap.size, 1, none⟩ = some (.int .i64 b) := by rw [hW1.below.cell (by simp)]; simp
    have lb : w.heap.size < W1.heap.size := by have := hW1.below.size; simp at this; omega
    have lb' : w.heap.size ≤ W1.heap.size := by omega
    have GG := hid ((((Grew.refl w).alloc _).trans hW1).alloc (.cells #[.slice (some ⟨g, 0, none⟩) n n] 25))
    have HA2 := hid (hA.grew ((Grew.refl _).alloc (.cells #[.slice (some ⟨g, 0, none⟩) n n] 25)))
    have Hg2 := hid (Hg.out.grew GG.out)
    clear hA hW1 Hg hc
    go_wp2_with fail
    refine wp_region_grew_from (Grew.refl _) (by kernel_rfl) (by kernel_rfl) ?_
    repeat (go_big_quiet_step (fail))
    refine wpQuiet_nil ?_
    rintro _ ⟨y, rfl⟩
    clear c0 c1
    have f_cell : (W1.alloc (.cells #[.slice (some ⟨g, 0, none⟩) n n] 25)).cell? ⟨W1.heap.size, 0, none⟩ = some (.slice (some ⟨g, 0, none⟩) n n) := by simp
    have f_lt : W1.heap.size < (W1.alloc (.cells #[.slice (some ⟨g, 0, none⟩) n n] 25)).heap.size := by simp
    have Hsure := hid (fun (W : World) (hW : Grew (W1.alloc (.cells #[.slice (some ⟨g, 0, none⟩) n n] 25)) W) => Calls.grew hW (sure_c W (Hg2.out.grew hW)))
    have Ccheck := hid (fun (W : World) (hW : Grew (W1.alloc (.cells #[.slice (some ⟨g, 0, none⟩) n n] 25)) W) => Calls.grew hW (check_c (some ⟨g, 0, none⟩) n (La.chain n) W H20.out (HA2.out.grew hW)))
    have Cbot := hid (fun (W : World) (hW : Grew (W1.alloc (.cells #[.slice (some ⟨g, 0, none⟩) n n] 25)) W) => Calls.grew hW (bottom_c (some ⟨g, 0, none⟩) n (La.chain n) W H20.out (HA2.out.grew hW)))
    have Ctop := hid (fun (W : World) (hW : Grew (W1.alloc (.cells #[.slice (some ⟨g, 0, none⟩) n n] 25)) W) => Calls.grew hW (top_c (some ⟨g, 0, none⟩) n (La.chain n) W H20.out (HA2.out.grew hW)))
    have Cleq := hid (fun (W : World) (hW : Grew (W1.alloc (.cells #[.slice (some ⟨g, 0, none⟩) n n] 25)) W) => Calls.grew hW (leq_c (some ⟨g, 0, none⟩) n (La.chain n) a b W H20.out (HA2.out.grew hW)))
    have Cjoin := hid (fun (W : World) (hW : Grew (W1.alloc (.cells #[.slice (some ⟨g, 0, none⟩) n n] 25)) W) => Calls.grew hW (join_c (some ⟨g, 0, none⟩) n (La.chain n) a b W H20.out (HA2.out.grew hW)))
    have Cmeet := hid (fun (W : World) (hW : Grew (W1.alloc (.cells #[.slice (some ⟨g, 0, none⟩) n n] 25)) W) => Calls.grew hW (meet_c (some ⟨g, 0, none⟩) n (La.chain n) a b W H20.out (HA2.out.grew hW)))
    rw [hlen.out] at Ccheck Cbot Ctop Cleq Cjoin Cmeet
    rw [EC.out] at Ccheck
    rw [EB.out] at Cbot
    rw [ET.out] at Ctop
    have hs : (a < 0) ∨ (0 ≤ a ∧ ¬ a < n) ∨ (0 ≤ a ∧ a < n ∧ b < 0) ∨ (0 ≤ a ∧ a < n ∧ 0 ≤ b ∧ ¬ b < n) ∨ (0 ≤ a ∧ a < n ∧ 0 ≤ b ∧ b < n ∧ a ≤ b) ∨ (0 ≤ a ∧ a < n ∧ 0 ≤ b ∧ b < n ∧ ¬ a ≤ b) := by omega
    rcases hs with h | ⟨h, k⟩ | ⟨h, k, i⟩ | ⟨h, k, i, j⟩ | ⟨h, k, i, j, l⟩ | ⟨h, k, i, j, l⟩
    · have EL2 : La.leq (La.chain n) a b = false := by
        rw [EL.out, decide_eq_false (p := 0 ≤ a) (by omega)]
        simp
      rw [EL2] at Cleq
      clear EL EL2 Cjoin Cmeet
      go_wp2_with (first | (go_at_call 11; refine (Ccheck.out _ (After.grew _)).mono ?_; rintro e w ⟨rfl, z, rfl⟩) | (go_at_call 12; refine (Cleq.out _ (After.grew _)).mono ?_; rintro e w ⟨rfl, z, rfl⟩) | (go_at_call 13; refine (Cbot.out _ (After.grew _)).mono ?_; rintro e w ⟨rfl, z, rfl⟩) | (go_at_call 14; refine (Ctop.out _ (After.grew _)).mono ?_; rintro e w ⟨rfl, z, rfl⟩) | (go_at_call 15; refine (Cjoin.out _ (After.grew _)).mono ?_; rintro e w ⟨rfl, z, rfl⟩) | (go_at_call 16; refine (Cmeet.out _ (After.grew _)).mono ?_; rintro e w ⟨rfl, z, rfl⟩) | (go_at_call 10; refine (Hsure.out _ (After.grew _)).mono ?_; rintro e w ⟨rfl, z, rfl⟩))
      go_ret
      exact ⟨rfl, GG.out.trans (After.grew _)⟩
    · have EL2 : La.leq (La.chain n) a b = false := by
        rw [EL.out, decide_eq_false (p := a < (n : Int)) (by omega)]
        simp
      rw [EL2] at Cleq
      clear EL EL2 Cjoin Cmeet
      go_wp2_with (first | (go_at_call 11; refine (Ccheck.out _ (After.grew _)).mono ?_; rintro e w ⟨rfl, z, rfl⟩) | (go_at_call 12; refine (Cleq.out _ (After.grew _)).mono ?_; rintro e w ⟨rfl, z, rfl⟩) | (go_at_call 13; refine (Cbot.out _ (After.grew _)).mono ?_; rintro e w ⟨rfl, z, rfl⟩) | (go_at_call 14; refine (Ctop.out _ (After.grew _)).mono ?_; rintro e w ⟨rfl, z, rfl⟩) | (go_at_call 15; refine (Cjoin.out _ (After.grew _)).mono ?_; rintro e w ⟨rfl, z, rfl⟩) | (go_at_call 16; refine (Cmeet.out _ (After.grew _)).mono ?_; rintro e w ⟨rfl, z, rfl⟩) | (go_at_call 10; refine (Hsure.out _ (After.grew _)).mono ?_; rintro e w ⟨rfl, z, rfl⟩))
      go_ret
      exact ⟨rfl, GG.out.trans (After.grew _)⟩
    · have EL2 : La.leq (La.chain n) a b = false := by
        rw [EL.out, decide_eq_false (p := 0 ≤ b) (by omega)]
        simp
      rw [EL2] at Cleq
      clear EL EL2 Cjoin Cmeet
      go_wp2_with (first | (go_at_call 11; refine (Ccheck.out _ (After.grew _)).mono ?_; rintro e w ⟨rfl, z, rfl⟩) | (go_at_call 12; refine (Cleq.out _ (After.grew _)).mono ?_; rintro e w ⟨rfl, z, rfl⟩) | (go_at_call 13; refine (Cbot.out _ (After.grew _)).mono ?_; rintro e w ⟨rfl, z, rfl⟩) | (go_at_call 14; refine (Ctop.out _ (After.grew _)).mono ?_; rintro e w ⟨rfl, z, rfl⟩) | (go_at_call 15; refine (Cjoin.out _ (After.grew _)).mono ?_; rintro e w ⟨rfl, z, rfl⟩) | (go_at_call 16; refine (Cmeet.out _ (After.grew _)).mono ?_; rintro e w ⟨rfl, z, rfl⟩) | (go_at_call 10; refine (Hsure.out _ (After.grew _)).mono ?_; rintro e w ⟨rfl, z, rfl⟩))
      go_ret
      exact ⟨rfl, GG.out.trans (After.grew _)⟩
    · have EL2 : La.leq (La.chain n) a b = false := by
        rw [EL.out, decide_eq_false (p := b < (n : Int)) (by omega)]
        simp
      rw [EL2] at Cleq
      clear EL EL2 Cjoin Cmeet
      go_wp2_with (first | (go_at_call 11; refine (Ccheck.out _ (After.grew _)).mono ?_; rintro e w ⟨rfl, z, rfl⟩) | (go_at_call 12; refine (Cleq.out _ (After.grew _)).mono ?_; rintro e w ⟨rfl, z, rfl⟩) | (go_at_call 13; refine (Cbot.out _ (After.grew _)).mono ?_; rintro e w ⟨rfl, z, rfl⟩) | (go_at_call 14; refine (Ctop.out _ (After.grew _)).mono ?_; rintro e w ⟨rfl, z, rfl⟩) | (go_at_call 15; refine (Cjoin.out _ (After.grew _)).mono ?_; rintro e w ⟨rfl, z, rfl⟩) | (go_at_call 16; refine (Cmeet.out _ (After.grew _)).mono ?_; rintro e w ⟨rfl, z, rfl⟩) | (go_at_call 10; refine (Hsure.out _ (After.grew _)).mono ?_; rintro e w ⟨rfl, z, rfl⟩))
      go_ret
      exact ⟨rfl, GG.out.trans (After.grew _)⟩
    · obtain ⟨a, rfl⟩ := Int.eq_ofNat_of_zero_le h
      obtain ⟨b, rfl⟩ := Int.eq_ofNat_of_zero_le i
      have EL2 : La.leq (La.chain n) (a : Int) (b : Int) = true := by
        rw [EL.out, decide_eq_true h, decide_eq_true k, decide_eq_true i, decide_eq_true j, decide_eq_true l]
        rfl
      rw [EL2] at Cleq
      rw [La.chain_join h1 h8 (by omega) (by omega), show max a b = b from by omega] at Cjoin
      rw [La.chain_meet h1 h8 (by omega) (by omega), show min a b = a from by omega] at Cmeet
      have hmax : max (a : Int) (b : Int) = (b : Int) := by omega
      have hmin : min (a : Int) (b : Int) = (a : Int) := by omega
      clear EL EL2
      go_wp2_with (first | (go_at_call 11; refine (Ccheck.out _ (After.grew _)).mono ?_; rintro e w ⟨rfl, z, rfl⟩) | (go_at_call 12; refine (Cleq.out _ (After.grew _)).mono ?_; rintro e w ⟨rfl, z, rfl⟩) | (go_at_call 13; refine (Cbot.out _ (After.grew _)).mono ?_; rintro e w ⟨rfl, z, rfl⟩) | (go_at_call 14; refine (Ctop.out _ (After.grew _)).mono ?_; rintro e w ⟨rfl, z, rfl⟩) | (go_at_call 15; refine (Cjoin.out _ (After.grew _)).mono ?_; rintro e w ⟨rfl, z, rfl⟩) | (go_at_call 16; refine (Cmeet.out _ (After.grew _)).mono ?_; rintro e w ⟨rfl, z, rfl⟩) | (go_at_call 10; refine (Hsure.out _ (After.grew _)).mono ?_; rintro e w ⟨rfl, z, rfl⟩))
      go_ret
      exact ⟨rfl, GG.out.trans (After.grew _)⟩
    · obtain ⟨a, rfl⟩ := Int.eq_ofNat_of_zero_le h
      obtain ⟨b, rfl⟩ := Int.eq_ofNat_of_zero_le i
      have EL2 : La.leq (La.chain n) (a : Int) (b : Int) = false := by
        rw [EL.out, decide_eq_true h, decide_eq_true k, decide_eq_true i, decide_eq_true j, decide_eq_false l]
        rfl
      rw [EL2] at Cleq
      rw [La.chain_join h1 h8 (by omega) (by omega), show max a b = a from by omega] at Cjoin
      rw [La.chain_meet h1 h8 (by omega) (by omega), show min a b = b from by omega] at Cmeet
      have hmax : max (a : Int) (b : Int) = (a : Int) := by omega
      have hmin : min (a : Int) (b : Int) = (b : Int) := by omega
      clear EL EL2
      go_wp2_with (first | (go_at_call 11; refine (Ccheck.out _ (After.grew _)).mono ?_; rintro e w ⟨rfl, z, rfl⟩) | (go_at_call 12; refine (Cleq.out _ (After.grew _)).mono ?_; rintro e w ⟨rfl, z, rfl⟩) | (go_at_call 13; refine (Cbot.out _ (After.grew _)).mono ?_; rintro e w ⟨rfl, z, rfl⟩) | (go_at_call 14; refine (Ctop.out _ (After.grew _)).mono ?_; rintro e w ⟨rfl, z, rfl⟩) | (go_at_call 15; refine (Cjoin.out _ (After.grew _)).mono ?_; rintro e w ⟨rfl, z, rfl⟩) | (go_at_call 16; refine (Cmeet.out _ (After.grew _)).mono ?_; rintro e w ⟨rfl, z, rfl⟩) | (go_at_call 10; refine (Hsure.out _ (After.grew _)).mono ?_; rintro e w ⟨rfl, z, rfl⟩))
      go_ret
      exact ⟨rfl, GG.out.trans (After.grew _)⟩
end Go.Proofs.YthdgjalbkeccoaaDoor

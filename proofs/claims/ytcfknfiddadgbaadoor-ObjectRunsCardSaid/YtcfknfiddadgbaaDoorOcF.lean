/- Stage 11: the reference's small functions. -/
import Derived.Test.YtcfknfiddadgbaaDoorOcD
import Derived.Test.YtcfknfiddadgbaaDoorRlB
namespace Go.Proofs.YtcfknfiddadgbaaDoor
open Go.RowKit

set_option maxRecDepth 100000 in
theorem rJoin_c (A : Option Addr) (cp : Nat) (up : List Nat) (a b : Int) (w : World) (hn : up.length ≤ 20) (h : BytesAt w w.heap.size A up) :
    Calls Tryd.prog 43 #[.slice A up.length cp, .int .i64 a, .int .i64 b] w fun e w' => e = .returned (.int .i64 (La.joinOf up a b)) ∧ w' = w := by
  have HM := hid (rmay_c A cp up w hn h)
  have HA := hid (rleq_c A cp up a a w hn h)
  have HB := hid (rleq_c A cp up b b w hn h)
  have HJ := hid (rjoin_c A cp up false a b w hn h)
  rw [← La.rjoinOf h.1]
  clear h
  generalize up.length = n at *
  generalize La.rmay up = x1 at *
  generalize La.rleq up a a = x2 at *
  generalize La.rleq up b b = x3 at *
  generalize La.rjoin up false a b = j at *
  cases x1
  · go_enter Tryd.func43, Tryd.ntmps43
    go_wp2_with (first | (go_at_call 18; with_reducible refine HM.out.mono ?_; rintro e w2 ⟨rfl, hw2⟩; have hw3 := hw2.symm; subst hw3))
    go_ret
    exact ⟨rfl, rfl⟩
  · cases x2
    · go_enter Tryd.func43, Tryd.ntmps43
      go_wp2_with (first | (go_at_call 18; with_reducible refine HM.out.mono ?_; rintro e w2 ⟨rfl, hw2⟩; have hw3 := hw2.symm; subst hw3) | (go_at_call 40; with_reducible refine HA.out.mono ?_; rintro e w2 ⟨rfl, hw2⟩; have hw3 := hw2.symm; subst hw3))
      go_ret
      exact ⟨rfl, rfl⟩
    · cases x3
      · go_enter Tryd.func43, Tryd.ntmps43
        go_wp2_with (first | (go_at_call 18; with_reducible refine HM.out.mono ?_; rintro e w2 ⟨rfl, hw2⟩; have hw3 := hw2.symm; subst hw3) | (go_at_call 40; with_reducible refine HA.out.mono ?_; rintro e w2 ⟨rfl, hw2⟩; have hw3 := hw2.symm; subst hw3) | (go_at_call 40; with_reducible refine HB.out.mono ?_; rintro e w2 ⟨rfl, hw2⟩; have hw3 := hw2.symm; subst hw3))
        go_ret
        exact ⟨rfl, rfl⟩
      · go_enter Tryd.func43, Tryd.ntmps43
        go_wp2_with (first | (go_at_call 18; with_reducible refine HM.out.mono ?_; rintro e w2 ⟨rfl, hw2⟩; have hw3 := hw2.symm; subst hw3) | (go_at_call 41; with_reducible refine HJ.out.mono ?_; rintro e w2 ⟨rfl, hw2⟩; have hw3 := hw2.symm; subst hw3) | (go_at_call 40; with_reducible refine HA.out.mono ?_; rintro e w2 ⟨rfl, hw2⟩; have hw3 := hw2.symm; subst hw3) | (go_at_call 40; with_reducible refine HB.out.mono ?_; rintro e w2 ⟨rfl, hw2⟩; have hw3 := hw2.symm; subst hw3))
        go_ret
        exact ⟨rfl, rfl⟩
set_option maxRecDepth 100000 in
set_option maxHeartbeats 4000000 in
theorem rvalue_c (n : Nat) (v : Ob.Val) (w : World) : Calls Tryd.prog 20 #[.int .i64 ((n : Nat) : Int), .agg #[.int .u8 ((v.k : Nat) : Int), .int .i64 v.n, .int .i64 v.l]] w fun e w' => e = .returned (.bool (Ob.valueB n v)) ∧ Grew w w' := by
  obtain ⟨R, hR⟩ : ∃ R, R = Ob.valueB n v := ⟨_, rfl⟩
  rw [← hR]
  unfold Ob.valueB Ob.inB Ob.numB at hR
  obtain ⟨k, z, l⟩ := v
  simp only at hR ⊢
  have ER := hid hR
  clear hR
  have B1 := Blk.new w 55 #[.int .u8 ((k : Nat) : Int), .int .i64 z, .int .i64 l]
  have G1 := (Grew.refl w).alloc (.cells #[.int .u8 ((k : Nat) : Int), .int .i64 z, .int .i64 l] 55)
  go_enter Tryd.func20, Tryd.ntmps20
  go_upto_region 1 with fail
  generalize w.alloc (.cells #[.int .u8 ((k : Nat) : Int), .int .i64 z, .int .i64 l] 55) = w1 at *
  generalize w.heap.size = g at *
  have q0 := B1.cell 0
  have q1 := B1.cell 1
  have q2 := B1.cell 2
  have ql := B1.lt
  simp only [List.getElem?_toArray, List.getElem?_cons_zero, List.getElem?_cons_succ] at q0 q1 q2
  have HG := hid G1
  clear B1 G1
  by_cases h1 : 0 ≤ l
  · by_cases h2 : l < n
    · have HR : Hid (R = if k ≤ 2 then decide (z = 0) else if k = 3 then decide (-2305843009213693952 ≤ z) && decide (z ≤ 2305843009213693951) else if k = 4 then decide (0 ≤ z) && decide (z < 65536) else if k = 5 then decide (0 ≤ z) && decide (z < 64) else false) := hid (by rw [ER.out, decide_eq_true h1, decide_eq_true h2]; rfl)
      have n1 : ¬ l < 0 := by omega
      have n2 : ¬ (n : Int) ≤ l := by omega
      clear ER
      by_cases hk : k ≤ 2
      · rw [if_pos hk] at HR
        have f : ∀ j : Nat, k = j → ((k : Nat) : Int) = (j : Int) := fun j h => by rw [h]
        by_cases hz : z = 0
        · have HE := hid (show R = true by rw [HR.out, decide_eq_true hz])
          subst hz
          rcases (by omega : k = 0 ∨ k = 1 ∨ k = 2) with rfl | rfl | rfl
          all_goals
            clear f
            go_wp2_with fail
            go_ret
            exact ⟨by rw [HE.out]; rfl, HG.out⟩
        · have HE := hid (show R = false by rw [HR.out, decide_eq_false hz])
          have hz0 : (z == 0) = false := by rw [beq_eq_false_iff_ne]; exact hz
          clear hz
          rcases (by omega : k = 0 ∨ k = 1 ∨ k = 2) with rfl | rfl | rfl
          all_goals
            clear f
            go_wp2_with fail
            go_ret
            exact ⟨by rw [HE.out]; rfl, HG.out⟩
      · rw [if_neg hk] at HR
        by_cases h3 : k = 3
        · subst h3
          rw [if_pos rfl] at HR
          by_cases c1 : -2305843009213693952 ≤ z
          · by_cases c2 : z ≤ 2305843009213693951
            · have HE := hid (show R = true by rw [HR.out, decide_eq_true c1, decide_eq_true c2]; rfl)
              go_wp2_with fail
              go_ret
              exact ⟨by rw [HE.out]; rfl, HG.out⟩
            · have HE := hid (show R = false by rw [HR.out, decide_eq_true c1, decide_eq_false c2]; rfl)
              go_wp2_with fail
              go_ret
              exact ⟨by rw [HE.out]; rfl, HG.out⟩
          · have HE := hid (show R = false by rw [HR.out, decide_eq_false c1]; rfl)
            go_wp2_with fail
            go_ret
            exact ⟨by rw [HE.out]; rfl, HG.out⟩
        · rw [if_neg h3] at HR
          by_cases h4 : k = 4
          · subst h4
            rw [if_pos rfl] at HR
            by_cases c1 : 0 ≤ z
            · by_cases c2 : z < 65536
              · have c3 : z ≤ 65535 := by omega
                have HE := hid (show R = true by rw [HR.out, decide_eq_true c1, decide_eq_true c2]; rfl)
                go_wp2_with fail
                go_ret
                exact ⟨by rw [HE.out]; rfl, HG.out⟩
              · have c3 : ¬ z ≤ 65535 := by omega
                have HE := hid (show R = false by rw [HR.out, decide_eq_true c1, decide_eq_false c2]; rfl)
                go_wp2_with fail
                go_ret
                exact ⟨by rw [HE.out]; rfl, HG.out⟩
            · have HE := hid (show R = false by rw [HR.out, decide_eq_false c1]; rfl)
              go_wp2_with fail
              go_ret
              exact ⟨by rw [HE.out]; rfl, HG.out⟩
          · rw [if_neg h4] at HR
            by_cases h5 : k = 5
            · subst h5
              rw [if_pos rfl] at HR
              by_cases c1 : 0 ≤ z
              · by_cases c2 : z < 64
                · have c3 : z ≤ 63 := by omega
                  have HE := hid (show R = true by rw [HR.out, decide_eq_true c1, decide_eq_true c2]; rfl)
                  go_wp2_with fail
                  go_ret
                  exact ⟨by rw [HE.out]; rfl, HG.out⟩
                · have c3 : ¬ z ≤ 63 := by omega
                  have HE := hid (show R = false by rw [HR.out, decide_eq_true c1, decide_eq_false c2]; rfl)
                  go_wp2_with fail
                  go_ret
                  exact ⟨by rw [HE.out]; rfl, HG.out⟩
              · have HE := hid (show R = false by rw [HR.out, decide_eq_false c1]; rfl)
                go_wp2_with fail
                go_ret
                exact ⟨by rw [HE.out]; rfl, HG.out⟩
            · rw [if_neg h5] at HR
              have f : ∀ j : Int, j ≤ 5 → 0 ≤ j → (((k : Nat) : Int) == j) = false := fun j hj h0 => by
                rw [beq_eq_false_iff_ne]; omega
              have f0 := f 0 (by decide) (by decide)
              have f1 := f 1 (by decide) (by decide)
              have f2 := f 2 (by decide) (by decide)
              have f3 := f 3 (by decide) (by decide)
              have f4 := f 4 (by decide) (by decide)
              have f5 := f 5 (by decide) (by decide)
              clear f h3 h4 h5 hk
              go_wp2_with fail
              go_ret
              exact ⟨by rw [HR.out]; rfl, HG.out⟩
    · have n1 : ¬ l < 0 := by omega
      have n2 : (n : Int) ≤ l := by omega
      have HE := hid (show R = false by rw [ER.out, decide_eq_false h2, Bool.and_false, Bool.false_and])
      go_wp2_with fail
      go_ret
      exact ⟨by rw [HE.out]; rfl, HG.out⟩
  · have n1 : l < 0 := by omega
    have HE := hid (show R = false by rw [ER.out, decide_eq_false h1, Bool.false_and, Bool.false_and])
    go_wp2_with fail
    go_ret
    exact ⟨by rw [HE.out]; rfl, HG.out⟩
end Go.Proofs.YtcfknfiddadgbaaDoor

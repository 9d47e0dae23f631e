/- Stage 11: which values and objects may be. -/
import Derived.Test.YtcfknfiddadgbaaDoorProg
import Derived.Test.YtcfknfiddadgbaaDoorObM
import Derived.Deep.Cut
namespace Go.Proofs.YtcfknfiddadgbaaDoor
open Go.RowKit

theorem isIndex_c (i n : Int) (w : World) : Calls Tryd.prog 31 #[.int .i64 i, .int .i64 n] w fun e w' => e = .returned (.bool (Ob.inB i n)) ∧ Grew w w' := by
  unfold Ob.inB
  by_cases h1 : 0 ≤ i
  · rw [decide_eq_true h1, Bool.true_and]
    by_cases h2 : i < n
    · rw [decide_eq_true h2]
      go_enter Tryd.func31, Tryd.ntmps31
      go_wp2_with fail
      go_ret
      exact ⟨rfl, Grew.refl _⟩
    · rw [decide_eq_false h2]
      go_enter Tryd.func31, Tryd.ntmps31
      go_wp2_with fail
      go_ret
      exact ⟨rfl, Grew.refl _⟩
  · rw [decide_eq_false h1, Bool.false_and]
    go_enter Tryd.func31, Tryd.ntmps31
    go_wp2_with fail
    go_ret
    exact ⟨rfl, Grew.refl _⟩
theorem isNumber_c (k : Nat) (n : Int) (w : World) : Calls Tryd.prog 42 #[.int .u8 ((k : Nat) : Int), .int .i64 n] w fun e w' => e = .returned (.bool (Ob.numB k n)) ∧ Grew w w' := by
  unfold Ob.numB
  by_cases h : k ≤ 2
  · rw [if_pos h]
    rcases (by omega : k = 0 ∨ k = 1 ∨ k = 2) with rfl | rfl | rfl <;> by_cases hz : n = 0
    all_goals
      go_enter Tryd.func42, Tryd.ntmps42
      go_wp2_with fail
      go_ret
      refine ⟨?_, Grew.refl _⟩
      simp [hz]
  · rw [if_neg h]
    by_cases h3 : k = 3
    · subst h3
      rw [if_pos rfl]
      by_cases h1 : -2305843009213693952 ≤ n
      · by_cases h2 : n ≤ 2305843009213693951
        all_goals
          go_enter Tryd.func42, Tryd.ntmps42
          go_wp2_with fail
          go_ret
          refine ⟨?_, Grew.refl _⟩
          simp [h1, h2]
      · go_enter Tryd.func42, Tryd.ntmps42
        go_wp2_with fail
        go_ret
        refine ⟨?_, Grew.refl _⟩
        rw [decide_eq_false (by omega), Bool.false_and]
        rfl
    · rw [if_neg h3]
      by_cases h4 : k = 4
      · subst h4
        rw [if_pos rfl]
        go_enter Tryd.func42, Tryd.ntmps42
        go_wp2_with (go_at_call 31; refine (isIndex_c n 65536 _).mono ?_; rintro e w2 ⟨rfl, hg2⟩)
        go_ret
        exact ⟨rfl, hg2⟩
      · rw [if_neg h4]
        by_cases h5 : k = 5
        · subst h5
          rw [if_pos rfl]
          go_enter Tryd.func42, Tryd.ntmps42
          go_wp2_with (go_at_call 31; refine (isIndex_c n 64 _).mono ?_; rintro e w2 ⟨rfl, hg2⟩)
          go_ret
          exact ⟨rfl, hg2⟩
        · rw [if_neg h5]
          have f : ∀ j : Int, j ≤ 5 → 0 ≤ j → (((k : Nat) : Int) == j) = false := fun j hj h0 => by
            rw [beq_eq_false_iff_ne]; omega
          have f0 := f 0 (by decide) (by decide)
          have f1 := f 1 (by decide) (by decide)
          have f2 := f 2 (by decide) (by decide)
          have f3 := f 3 (by decide) (by decide)
          have f4 := f 4 (by decide) (by decide)
          have f5 := f 5 (by decide) (by decide)
          clear f
          go_enter Tryd.func42, Tryd.ntmps42
          go_wp2_with fail
          go_ret
          exact ⟨rfl, Grew.refl _⟩
theorem value_c (n : Nat) (v : Ob.Val) (w : World) : Calls Tryd.prog 19 #[.int .i64 ((n : Nat) : Int), .agg #[.int .u8 ((v.k : Nat) : Int), .int .i64 v.n, .int .i64 v.l]] w fun e w' => e = .returned (.bool (Ob.valueB n v)) ∧ Grew w w' := by
  unfold Ob.valueB
  obtain ⟨k, z, l⟩ := v
  simp only
  cases hb : Ob.inB l n
  · have HI := hid (fun W => isIndex_c l ((n : Nat) : Int) W)
    rw [hb] at HI
    clear hb
    rw [Bool.false_and]
    go_enter Tryd.func19, Tryd.ntmps19
    go_wp2_with (go_at_call 31; refine (HI.out _).mono ?_; rintro e w2 ⟨rfl, hg2⟩)
    go_ret
    exact ⟨rfl, ((Grew.refl _).alloc _).trans hg2⟩
  · have HI := hid (fun W => isIndex_c l ((n : Nat) : Int) W)
    rw [hb] at HI
    clear hb
    have HN := hid (fun W => isNumber_c k z W)
    generalize Ob.numB k z = b at *
    rw [Bool.true_and]
    have B1 := Blk.new w 39 #[.int .u8 ((k : Nat) : Int), .int .i64 z, .int .i64 l]
    have G1 := (Grew.refl w).alloc (.cells #[.int .u8 ((k : Nat) : Int), .int .i64 z, .int .i64 l] 39)
    go_enter Tryd.func19, Tryd.ntmps19
    go_upto_region 1 with fail
    generalize w.alloc (.cells #[.int .u8 ((k : Nat) : Int), .int .i64 z, .int .i64 l] 39) = w1 at *
    generalize w.heap.size = g at *
    have q0 := B1.cell 0
    have q1 := B1.cell 1
    have q2 := B1.cell 2
    have ql := B1.lt
    simp only [List.getElem?_toArray, List.getElem?_cons_zero, List.getElem?_cons_succ] at q0 q1 q2
    have HB := hid B1
    have HG := hid G1
    clear B1 G1
    go_wp2_with (go_at_call 31; refine (HI.out _).mono ?_; rintro e w2 ⟨rfl, hg2⟩; have HB2 := hid (HB.out.grew hg2); have HG2 := hid (HG.out.trans hg2); have r0 := HB2.out.cell 0; have r1 := HB2.out.cell 1; have rl := HB2.out.lt; simp only [List.getElem?_toArray, List.getElem?_cons_zero, List.getElem?_cons_succ] at r0 r1; clear q0 q1 q2 ql hg2)
    refine (HN.out _).mono ?_
    rintro e w3 ⟨rfl, hg3⟩
    go_wp2_with fail
    go_ret
    exact ⟨rfl, HG2.out.trans hg3⟩
end Go.Proofs.YtcfknfiddadgbaaDoor

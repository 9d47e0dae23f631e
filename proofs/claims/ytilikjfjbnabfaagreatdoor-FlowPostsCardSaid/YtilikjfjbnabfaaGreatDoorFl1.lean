/- Stage 8: the program's own continues, at, isJoin, effect, depthAfter. -/
import Derived.Test.YtilikjfjbnabfaaGreatDoorOp14
import Derived.Test.YtilikjfjbnabfaaGreatDoorFlP
import Derived.Test.YtilikjfjbnabfaaGreatDoorShelf
namespace Go.Proofs.YtilikjfjbnabfaaGreatDoor
open Go.RowKit

set_option maxRecDepth 100000 in
set_option maxHeartbeats 1000000 in
theorem continues_c (o : Op7.Ins) (w : World) :
    Calls Tryz.prog 41 #[.agg (opCells o)] w (fun e w' => e = .returned (.bool (Fl.cont o.code)) ∧ Grew w w') := by
  obtain ⟨c, a, b⟩ := o
  show Calls _ _ #[.agg #[.int .u8 ((c : Nat) : Int), .int .i64 a, .int .i64 b]] w _
  unfold Fl.cont
  simp only
  have hg := hid ((Grew.refl w).alloc (.cells #[.int .u8 ((c : Nat) : Int), .int .i64 a, .int .i64 b] 51))
  by_cases h1 : c = 17
  · subst h1
    go_enter Tryz.func41, Tryz.ntmps41
    go_wp2_with fail
    go_ret
    exact ⟨rfl, hg.out⟩
  by_cases h2 : c = 18
  · subst h2
    go_enter Tryz.func41, Tryz.ntmps41
    go_wp2_with fail
    go_ret
    exact ⟨rfl, hg.out⟩
  by_cases h3 : c = 19
  · subst h3
    go_enter Tryz.func41, Tryz.ntmps41
    go_wp2_with fail
    go_ret
    exact ⟨rfl, hg.out⟩
  by_cases h4 : c = 13
  · subst h4
    go_enter Tryz.func41, Tryz.ntmps41
    go_wp2_with fail
    go_ret
    exact ⟨rfl, hg.out⟩
  have e1 : (((c : Nat) : Int) == 17) = false := by rw [beq_eq_false_iff_ne]; omega
  have e2 : (((c : Nat) : Int) == 18) = false := by rw [beq_eq_false_iff_ne]; omega
  have e3 : (((c : Nat) : Int) == 19) = false := by rw [beq_eq_false_iff_ne]; omega
  have e4 : (((c : Nat) : Int) == 13) = false := by rw [beq_eq_false_iff_ne]; omega
  rw [show (!(c == 17 || c == 18 || c == 19 || c == 13)) = true by simp [h1, h2, h3, h4]]
  go_enter Tryz.func41, Tryz.ntmps41
  go_wp2_with fail
  go_ret
  exact ⟨rfl, hg.out⟩
set_option maxRecDepth 100000 in
set_option maxHeartbeats 2000000 in
theorem effect_c (o : Op7.Ins) (w : World) (hb : 0 ≤ o.b ∧ o.b ≤ 65536) :
    Calls Tryz.prog 65 #[.agg (opCells o)] w (fun e w' => e = .returned (.tuple #[.int .i64 (Fl.effect o).1, .int .i64 (Fl.effect o).2]) ∧ Grew w w') := by
  obtain ⟨c, a, b⟩ := o
  show Calls _ _ #[.agg #[.int .u8 ((c : Nat) : Int), .int .i64 a, .int .i64 b]] w _
  change 0 ≤ b ∧ b ≤ 65536 at hb
  obtain ⟨b0, b1⟩ := hb
  have hg := hid ((Grew.refl w).alloc (.cells #[.int .u8 ((c : Nat) : Int), .int .i64 a, .int .i64 b] 51))
  have key : ∀ k, k < 21 → c = k → Calls Tryz.prog 65 #[.agg #[.int .u8 ((k : Nat) : Int), .int .i64 a, .int .i64 b]] w (fun e w' => e = .returned (.tuple #[.int .i64 (Fl.effect ⟨k, a, b⟩).1, .int .i64 (Fl.effect ⟨k, a, b⟩).2]) ∧ Grew w w') := by
    intro k hk hc
    subst hc
    unfold Fl.effect
    simp only
    rcases (by omega : c = 0 ∨ c = 1 ∨ c = 2 ∨ c = 3 ∨ c = 4 ∨ c = 5 ∨ c = 6 ∨ c = 7 ∨ c = 8 ∨ c = 9 ∨ c = 10 ∨ c = 11 ∨ c = 12 ∨ c = 13 ∨ c = 14 ∨ c = 15 ∨ c = 16 ∨ c = 17 ∨ c = 18 ∨ c = 19 ∨ c = 20) with h | h | h | h | h | h | h | h | h | h | h | h | h | h | h | h | h | h | h | h | h
    all_goals
      subst h
      go_enter Tryz.func65, Tryz.ntmps65
      go_wp2_with fail
      go_ret2
      exact ⟨rfl, hg.out⟩
  by_cases h : c < 21
  · exact key c h rfl
  · have n0 : Fl.effect ⟨c, a, b⟩ = (0, 0) := by
      unfold Fl.effect
      simp only
      rw [if_neg (by omega), if_neg (by omega), if_neg (by omega), if_pos (by omega)]
    rw [n0]
    have m : ∀ k : Nat, k < 21 → (((c : Nat) : Int) == (k : Int)) = false := fun k hk => by rw [beq_eq_false_iff_ne]; omega
    have m0 : (((c : Nat) : Int) == 0) = false := m 0 (by omega)
    have m1 : (((c : Nat) : Int) == 1) = false := m 1 (by omega)
    have m2 : (((c : Nat) : Int) == 2) = false := m 2 (by omega)
    have m3 : (((c : Nat) : Int) == 3) = false := m 3 (by omega)
    have m4 : (((c : Nat) : Int) == 4) = false := m 4 (by omega)
    have m5 : (((c : Nat) : Int) == 5) = false := m 5 (by omega)
    have m6 : (((c : Nat) : Int) == 6) = false := m 6 (by omega)
    have m7 : (((c : Nat) : Int) == 7) = false := m 7 (by omega)
    have m8 : (((c : Nat) : Int) == 8) = false := m 8 (by omega)
    have m9 : (((c : Nat) : Int) == 9) = false := m 9 (by omega)
    have m10 : (((c : Nat) : Int) == 10) = false := m 10 (by omega)
    have m11 : (((c : Nat) : Int) == 11) = false := m 11 (by omega)
    have m12 : (((c : Nat) : Int) == 12) = false := m 12 (by omega)
    have m14 : (((c : Nat) : Int) == 14) = false := m 14 (by omega)
    have m16 : (((c : Nat) : Int) == 16) = false := m 16 (by omega)
    have m17 : (((c : Nat) : Int) == 17) = false := m 17 (by omega)
    have m19 : (((c : Nat) : Int) == 19) = false := m 19 (by omega)
    have m20 : (((c : Nat) : Int) == 20) = false := m 20 (by omega)
    clear m
    go_enter Tryz.func65, Tryz.ntmps65
    go_wp2_with fail
    go_ret2
    exact ⟨rfl, hg.out⟩
set_option maxRecDepth 100000 in
set_option maxHeartbeats 1000000 in
theorem depthAfter_c (o : Op7.Ins) (d : Int) (w : World) (hb : 0 ≤ o.b ∧ o.b ≤ 65536) (hd : -1 ≤ d ∧ d ≤ 32) :
    Calls Tryz.prog 47 #[.agg (opCells o), .int .i64 d] w (fun e w' => e = .returned (.tuple #[.int .i64 (Fl.after o d), .bool (Fl.may o d)]) ∧ Grew w w') := by
  have HE := hid (fun w' => effect_c o w' hb)
  unfold Fl.may Fl.after
  have hx : 0 ≤ (Fl.effect o).1 ∧ (Fl.effect o).1 ≤ 65537 ∧ 0 ≤ (Fl.effect o).2 ∧ (Fl.effect o).2 ≤ 2 := by
    unfold Fl.effect
    split
    · decide
    · split
      · simp only; omega
      · split
        · decide
        · split <;> decide
  obtain ⟨x0, x1, x2, x3⟩ := hx
  generalize (Fl.effect o).1 = x at *
  generalize (Fl.effect o).2 = y at *
  obtain ⟨c, a, b⟩ := o
  unfold opCells at HE ⊢
  simp only at HE ⊢
  obtain ⟨d0, d1⟩ := hd
  clear hb
  have hg := hid ((Grew.refl w).alloc (.cells #[.int .u8 ((c : Nat) : Int), .int .i64 a, .int .i64 b] 51))
  go_enter Tryz.func47, Tryz.ntmps47
  go_wp2_with fail
  refine (Calls.grew hg.out (HE.out _)).mono ?_
  rintro e w1 ⟨rfl, hg1⟩
  by_cases h1 : x ≤ d
  · go_wp2_with fail
    go_ret2
    exact ⟨by simp [h1], hg1⟩
  · go_wp2_with fail
    go_ret2
    exact ⟨by simp; omega, hg1⟩

/-- What 'at' answers. -/
def AtPost (w : World) (r : Option Nat) (e : Ending) (w' : World) : Prop := ∃ (k : Nat) (b : Bool), e = .returned (.tuple #[.int .i64 ((k : Nat) : Int), .bool b]) ∧ r = (if b then some k else none) ∧ Grew w w'
theorem toI_getD (os : List Nat) (j : Nat) : (Fl.toI os).getD j 0 = ((os.getD j 0 : Nat) : Int) := by
  unfold Fl.toI
  simp only [List.getD_eq_getElem?_getD, List.getElem?_map]
  cases os[j]? <;> rfl
theorem toI_len (os : List Nat) : (Fl.toI os).length = os.length := by simp [Fl.toI]
theorem search_c (A : Option Addr) (c : Nat) (os : List Nat) (x : Int) (B : Nat) (w : World) (h : RowN w B A c os) (hs : os.Pairwise (· < ·)) (hl : os.length ≤ 100000) :
    Calls Tryz.prog 61 #[.slice A os.length c, .int .i64 x] w (AtPost w (Fl.place os x)) := by
  rcases Row.cases h with ⟨_, _, _, ⟨rfl, h0, _⟩ | ⟨g, rfl, _, _, hc, _⟩⟩
  · obtain rfl := List.eq_nil_of_length_eq_zero h0
    refine (Tryz.slices_BinarySearch_int_empty none c x w).mono ?_
    rintro e w' ⟨rfl, rfl⟩
    exact ⟨0, false, rfl, rfl, Grew.refl _⟩
  · have := Tryz.slices_BinarySearch_int g 0 os.length c (Fl.toI os) x w (by rw [toI_len]; omega) (by omega) (fun j hj => by
      rw [toI_len] at hj
      rw [toI_getD, Nat.zero_add]
      exact hc j _ (numCells_get .i64 os j hj)) (by
      rw [List.take_of_length_le (by rw [toI_len]; omega)]
      unfold Fl.toI
      rw [List.pairwise_map]
      exact hs.imp fun h => by omega)
    rw [List.take_of_length_le (by rw [toI_len]; omega)] at this
    refine this.mono ?_
    rintro e w' ⟨rfl, q, rfl⟩
    exact ⟨_, _, rfl, rfl, (Grew.refl w).drewN q⟩
end Go.Proofs.YtilikjfjbnabfaaGreatDoor

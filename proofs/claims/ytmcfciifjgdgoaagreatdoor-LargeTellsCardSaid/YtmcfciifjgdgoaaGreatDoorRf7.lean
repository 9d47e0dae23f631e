/- The walks of the document's own large numbers, part 7: which is less, products. -/
import Derived.Test.YtmcfciifjgdgoaaGreatDoorRf6
namespace Go.Proofs.YtmcfciifjgdgoaaGreatDoor
open Go.RowKit

theorem sgnOf_long {na nb : Bool} {xs ys : List Nat} (lx : Dg.Low 4294967296 xs) (ly : Dg.Low 4294967296 ys) (ha : Lg.may na xs = true) (hb : Lg.may nb ys = true) (h : ¬ Lg.small (Lg.num na xs + flip true (Lg.num nb ys))) : sgnOf (Lg.num na xs + flip true (Lg.num nb ys)) = if na = true then -1 else 1 := by
  have ra := Lg.Rep.of_may lx ha
  have rb := Lg.Rep.of_may ly hb
  have sa := ra.len.1 (Lg.may_iff.1 ha).1
  have sb := rb.len.1 (Lg.may_iff.1 hb).1
  have na' := ra.neg
  generalize Lg.num na xs = x at *
  generalize Lg.num nb ys = y at *
  unfold Lg.small at *
  simp only [flip, if_true] at *
  generalize (4294967296 : Nat) ^ 64 = M at *
  unfold sgnOf
  by_cases hx : x < 0
  · rw [decide_eq_true hx] at na'
    rw [na', if_pos (show x + -y < 0 by omega), if_pos rfl]
  · rw [decide_eq_false hx] at na'
    have h1 : ¬ x + -y < 0 := by omega
    have h2 : ¬ x + -y = 0 := by omega
    rw [na', if_neg h1, if_neg h2]
    rfl

set_option maxHeartbeats 2000000 in
theorem rcmp_c (na : Bool) (A : Option Addr) (c : Nat) (xs : List Nat) (nb : Bool) (B : Option Addr) (d : Nat) (ys : List Nat) (w : World) (ha : NumsAt .u32 w w.heap.size A xs) (hb : NumsAt .u32 w w.heap.size B ys) (lx : Dg.Low 4294967296 xs) (ly : Dg.Low 4294967296 ys) (hn : xs.length ≤ 1000000000000) (hm : ys.length ≤ 1000000000000) :
    Calls Tryz.prog 17 #[.agg #[.bool na, .slice A xs.length c], .agg #[.bool nb, .slice B ys.length d]] w fun e w' => e = .returned (.tuple #[.int .i64 (cmpV (Lg.may na xs && Lg.may nb ys) (Lg.num na xs + flip true (Lg.num nb ys))), .int .i64 (cmpE (Lg.may na xs && Lg.may nb ys))]) ∧ Grew w w' := by
  have HA := hid ha
  have HB := hid hb
  clear ha hb
  go_enter Tryz.func17, Tryz.ntmps17
  go_wp2_with fail
  have hg0 : Grew w ((w.alloc (.cells #[.bool na, .slice A xs.length c] 24)).alloc (.cells #[.bool nb, .slice B ys.length d] 24)) := ((Grew.refl _).alloc _).alloc _
  have l0 : w.heap.size < ((w.alloc (.cells #[.bool na, .slice A xs.length c] 24)).alloc (.cells #[.bool nb, .slice B ys.length d] 24)).heap.size := by simp only [World.size_alloc]; omega
  have a0 : ((w.alloc (.cells #[.bool na, .slice A xs.length c] 24)).alloc (.cells #[.bool nb, .slice B ys.length d] 24)).cell? ⟨w.heap.size, 0, none⟩ = some (.bool na) := by rw [World.cell?_alloc_lt _ _ _ (by simp only [World.size_alloc]; omega)]; simp
  generalize (w.alloc (.cells #[.bool na, .slice A xs.length c] 24)).alloc (.cells #[.bool nb, .slice B ys.length d] 24) = wb at *
  have HG := hid hg0
  clear hg0
  refine (radd_c na A c xs nb B d ys true wb (HA.out.grew HG.out) (HB.out.grew HG.out) lx ly hn hm).mono ?_
  obtain ⟨z, hz⟩ : ∃ z, z = Lg.num na xs + flip true (Lg.num nb ys) := ⟨_, rfl⟩
  have HL : Hid (Lg.may na xs = true → Lg.may nb ys = true → ¬ Lg.small z → sgnOf z = if na = true then -1 else 1) := hid (fun h1 h2 h3 => by rw [hz] at h3 ⊢; exact sgnOf_long lx ly h1 h2 h3)
  rw [← hz]
  have HZ := hid hz
  clear hz
  rintro e w1 ⟨A', c', ng, L, k, rfl, hO, hOut, y1, rfl⟩
  cases hok : (Lg.may na xs && Lg.may nb ys)
  · rw [hok] at hOut
    obtain ⟨rfl, rfl, rfl⟩ := hOut.no rfl
    have E := hid (show cmpV (Lg.may na xs && Lg.may nb ys) (Lg.num na xs + flip true (Lg.num nb ys)) = 0 ∧ cmpE (Lg.may na xs && Lg.may nb ys) = 1 by rw [hok]; exact ⟨rfl, rfl⟩)
    clear hok hOut
    go_wp2_with fail
    go_ret2
    exact ⟨ret_ii E.out.1.symm (by rw [E.out.2]; rfl), (HG.out.trans y1.grew).alloc _⟩
  · rw [hok] at hOut
    have hO1 := hOut.yes rfl
    have E0 := hid (show cmpV (Lg.may na xs && Lg.may nb ys) (Lg.num na xs + flip true (Lg.num nb ys)) = sgnOf z ∧ cmpE (Lg.may na xs && Lg.may nb ys) = 0 by rw [hok, HZ.out]; exact ⟨rfl, rfl⟩)
    rw [Bool.and_eq_true] at hok
    have HLo := HL.out hok.1 hok.2
    clear hok hOut HL
    by_cases hs : Lg.small z
    · obtain ⟨rfl, hr⟩ := hO1.yes hs
      clear hO1 HLo hs
      rcases Nat.eq_zero_or_pos L.length with h0 | h0
      · have e := List.eq_nil_of_length_eq_zero h0
        subst e
        have E := hid (show sgnOf z = 0 by
          have := hr.val
          have : z = 0 := by simp at this; omega
          rw [this]; rfl)
        clear h0 hr
        go_wp2_with fail
        go_ret2
        exact ⟨ret_ii (by rw [E0.out.1, E.out]) (by rw [E0.out.2]; rfl), (HG.out.trans y1.grew).alloc _⟩
      · have hpos : 0 < z.natAbs := by
          rw [← hr.val]
          exact Dg.val_pos (by decide) hr.top (by rintro rfl; simp at h0)
        have hng := hr.neg
        have hl0 : (((L.length : Nat) : Int) == 0) = false := by rw [beq_eq_false_iff_ne]; omega
        clear hr
        by_cases hz0 : z < 0
        · rw [decide_eq_true hz0] at hng
          subst hng
          have E := hid (show sgnOf z = -1 by rw [sgnOf, if_pos hz0])
          clear hz0 hpos h0
          go_wp2_with fail
          go_ret2
          exact ⟨ret_ii (by rw [E0.out.1, E.out]) (by rw [E0.out.2]; rfl), (HG.out.trans y1.grew).alloc _⟩
        · rw [decide_eq_false hz0] at hng
          subst hng
          have E := hid (show sgnOf z = 1 by rw [sgnOf, if_neg hz0, if_neg (by omega)])
          clear hz0 hpos h0
          go_wp2_with fail
          go_ret2
          exact ⟨ret_ii (by rw [E0.out.1, E.out]) (by rw [E0.out.2]; rfl), (HG.out.trans y1.grew).alloc _⟩
    · obtain ⟨rfl, rfl, rfl⟩ := hO1.no hs
      have E := hid (HLo hs)
      clear hO1 HLo hs
      cases na
      · have E2 := hid (show sgnOf z = 1 by rw [E.out]; rfl)
        clear E
        go_wp2_with fail
        go_ret2
        exact ⟨ret_ii (by rw [E0.out.1, E2.out]) (by rw [E0.out.2]; rfl), (HG.out.trans y1.grew).alloc _⟩
      · have E2 := hid (show sgnOf z = -1 by rw [E.out]; rfl)
        clear E
        go_wp2_with fail
        go_ret2
        exact ⟨ret_ii (by rw [E0.out.1, E2.out]) (by rw [E0.out.2]; rfl), (HG.out.trans y1.grew).alloc _⟩
end Go.Proofs.YtmcfciifjgdgoaaGreatDoor

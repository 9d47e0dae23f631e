/- The reference's levels, walked. -/
import Derived.Test.YtcfknfiddadgbaaDoorProg
import Derived.Test.YtcfknfiddadgbaaDoorZBase
import Derived.Test.YtcfknfiddadgbaaDoorRlP
import Derived.Deep.Cut
namespace Go.Proofs.YtcfknfiddadgbaaDoor
open Go.RowKit

theorem bit_shr (x k : Nat) (hx : x < 256) : (((x : Int) / 2 ^ min k 8).tmod 2 == 1) = x.testBit k := by
  have e : ((x : Int) / 2 ^ min k 8) = ((x / 2 ^ min k 8 : Nat) : Int) := by push_cast; rfl
  have e2 : ∀ q : Nat, ((q : Nat) : Int).tmod 2 = ((q % 2 : Nat) : Int) := fun _ => rfl
  rw [e, e2, Nat.testBit_eq_decide_div_mod_eq]
  rcases Nat.le_total k 8 with h | h
  · rw [Nat.min_eq_left h]
    generalize x / 2 ^ k % 2 = y
    by_cases h1 : y = 1
    · simp [h1]
    · rw [decide_eq_false h1, beq_eq_false_iff_ne]
      omega
  · rw [Nat.min_eq_right h]
    have h1 : x / 2 ^ 8 = 0 := Nat.div_eq_of_lt hx
    have h2 : x / 2 ^ k = 0 := Nat.div_eq_of_lt (Nat.lt_of_lt_of_le hx (by calc 256 = 2 ^ 8 := rfl
      _ ≤ 2 ^ k := Nat.pow_le_pow_right (by decide) h))
    rw [h1, h2]
    rfl
set_option maxRecDepth 100000 in
set_option maxHeartbeats 2000000 in
theorem rleq_c (A : Option Addr) (c : Nat) (up : List Nat) (a b : Int) (w : World) (hn : up.length ≤ 20) (h : BytesAt w w.heap.size A up) :
    Calls Tryd.prog 40 #[.slice A up.length c, .int .i64 a, .int .i64 b] w fun e w' => e = .returned (.bool (La.rleq up a b)) ∧ w' = w := by
  have hn' : (up.length : Int) ≤ 20 := by omega
  unfold La.rleq La.isLevel
  obtain ⟨n, en⟩ : ∃ n, n = up.length := ⟨_, rfl⟩
  rw [← en] at hn' ⊢
  by_cases h1 : 0 ≤ a
  · rw [decide_eq_true h1, Bool.true_and]
    by_cases h2 : a < n
    · rw [decide_eq_true h2, Bool.true_and]
      by_cases h3 : 0 ≤ b
      · rw [decide_eq_true h3, Bool.true_and]
        by_cases h4 : b < n
        · rw [decide_eq_true h4, Bool.true_and]
          obtain ⟨i, rfl⟩ : ∃ i : Nat, a = i := ⟨a.toNat, by omega⟩
          obtain ⟨k, rfl⟩ : ∃ k : Nat, b = k := ⟨b.toNat, by omega⟩
          simp only [Int.toNat_natCast]
          obtain ⟨ad, rfl, hbk, hc⟩ := h.2 (by omega)
          have hx := h.lt i
          have hc1 := hc i (by omega)
          unfold La.low
          generalize up.getD i 0 = x at *
          clear h hc
          go_enter Tryd.func40, Tryd.ntmps40
          go_wp2_with fail
          go_ret
          exact ⟨congrArg (fun z => Ending.returned (.bool z)) (bit_shr x k hx), rfl⟩
        · rw [decide_eq_false h4, Bool.false_and]
          clear h en
          go_enter Tryd.func40, Tryd.ntmps40
          go_wp2_with fail
          go_ret
          exact ⟨rfl, rfl⟩
      · rw [decide_eq_false h3]
        clear h en
        go_enter Tryd.func40, Tryd.ntmps40
        go_wp2_with fail
        go_ret
        exact ⟨rfl, rfl⟩
    · rw [decide_eq_false h2]
      clear h en
      go_enter Tryd.func40, Tryd.ntmps40
      go_wp2_with fail
      go_ret
      exact ⟨rfl, rfl⟩
  · rw [decide_eq_false h1]
    clear h en
    go_enter Tryd.func40, Tryd.ntmps40
    go_wp2_with fail
    go_ret
    exact ⟨rfl, rfl⟩
set_option maxRecDepth 100000 in
theorem rbound_c (A : Option Addr) (cp : Nat) (up : List Nat) (dn : Bool) (c a b : Int) (w : World) (hn : up.length ≤ 20) (h : BytesAt w w.heap.size A up) :
    Calls Tryd.prog 54 #[.slice A up.length cp, .int .i64 c, .int .i64 a, .int .i64 b, .bool dn] w fun e w' => e = .returned (.bool (La.rbound up dn c a b)) ∧ w' = w := by
  have HL := hid (fun x y => rleq_c A cp up x y w hn h)
  unfold La.rbound
  clear h
  generalize up.length = n at *
  cases dn
  · have H1 := hid (HL.out a c)
    have H2 := hid (HL.out b c)
    rw [if_neg (by decide)]
    generalize La.rleq up a c = r1 at *
    generalize La.rleq up b c = r2 at *
    cases r1
    all_goals
      go_enter Tryd.func54, Tryd.ntmps54
      go_wp2_with (go_at_call 40; first | (with_reducible refine H1.out.mono ?_; rintro e w2 ⟨rfl, rfl⟩) | (with_reducible refine H2.out.mono ?_; rintro e w2 ⟨rfl, rfl⟩))
      go_ret
      exact ⟨rfl, rfl⟩
  · have H1 := hid (HL.out c a)
    have H2 := hid (HL.out c b)
    rw [if_pos rfl]
    generalize La.rleq up c a = r1 at *
    generalize La.rleq up c b = r2 at *
    cases r1
    all_goals
      go_enter Tryd.func54, Tryd.ntmps54
      go_wp2_with (go_at_call 40; first | (with_reducible refine H1.out.mono ?_; rintro e w2 ⟨rfl, rfl⟩) | (with_reducible refine H2.out.mono ?_; rintro e w2 ⟨rfl, rfl⟩))
      go_ret
      exact ⟨rfl, rfl⟩
end Go.Proofs.YtcfknfiddadgbaaDoor

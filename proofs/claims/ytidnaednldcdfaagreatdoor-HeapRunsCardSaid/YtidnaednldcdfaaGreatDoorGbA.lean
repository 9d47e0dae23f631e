/- Parts of elder texts that this layer needs, joined: XRlA XRlB XOcE XOcF XOcG XOcH XOcI. -/
import Derived.Test.YtidnaednldcdfaaGreatDoorProg
import Derived.Test.YtidnaednldcdfaaGreatDoorZBase
import Derived.Test.YtidnaednldcdfaaGreatDoorRlP
import Derived.Deep.Cut
import Derived.Test.YtidnaednldcdfaaGreatDoorGaA
namespace Go.Proofs.YtidnaednldcdfaaGreatDoor
open Go.RowKit

theorem bit_shr (x k : Nat) (hx : x < 256) : (((x : Int) / 2 ^ min k 8).tmod 2 == 1) = x.testBit k := by
  have e : ((x : Int) / 2 ^ min k 8) = ((x / 2 ^ min k 8 : Nat) : Int) := by push_cast; rfl
  have e2 : ∀ q : Nat, ((q : Nat) : Int).tmod 2 = ((q % 2 : Nat) : Int) := fun _ => rfl
  rw [e, e2, Nat.testBit_eq_decide_div_mod_eq]
  rcases Nat.le_total k 8 with h | h
  · rw [Nat.min_eq_left h]
    generalize x / 2 ^ k % 2 = y
    by_cases h1 : y = 1
    · simp [h1]
    · rw [decide_eq_false h1, beq_eq_false_iff_ne]
      omega
  · rw [Nat.min_eq_right h]
    have h1 : x / 2 ^ 8 = 0 := Nat.div_eq_of_lt hx
    have h2 : x / 2 ^ k = 0 := Nat.div_eq_of_lt (Nat.lt_of_lt_of_le hx (by calc 256 = 2 ^ 8 := rfl
      _ ≤ 2 ^ k := Nat.pow_le_pow_right (by decide) h))
    rw [h1, h2]
    rfl
set_option maxRecDepth 100000 in
set_option maxHeartbeats 2000000 in
theorem rleq_c (A : Option Addr) (c : Nat) (up : List Nat) (a b : Int) (w : World) (hn : up.length ≤ 20) (h : BytesAt w w.heap.size A up) :
    Calls Tryz.prog 81 #[.slice A up.length c, .int .i64 a, .int .i64 b] w fun e w' => e = .returned (.bool (La.rleq up a b)) ∧ w' = w := by
  have hn' : (up.length : Int) ≤ 20 := by omega
  unfold La.rleq La.isLevel
  obtain ⟨n, en⟩ : ∃ n, n = up.length := ⟨_, rfl⟩
  rw [← en] at hn' ⊢
  by_cases h1 : 0 ≤ a
  · rw [decide_eq_true h1, Bool.true_and]
    by_cases h2 : a < n
    · rw [decide_eq_true h2, Bool.true_and]
      by_cases h3 : 0 ≤ b
      · rw [decide_eq_true h3, Bool.true_and]
        by_cases h4 : b < n
        · rw [decide_eq_true h4, Bool.true_and]
          obtain ⟨i, rfl⟩ : ∃ i : Nat, a = i := ⟨a.toNat, by omega⟩
          obtain ⟨k, rfl⟩ : ∃ k : Nat, b = k := ⟨b.toNat, by omega⟩
          simp only [Int.toNat_natCast]
          obtain ⟨ad, rfl, hbk, hc⟩ := h.2 (by omega)
          have hx := h.lt i
          have hc1 := hc i (by omega)
          unfold La.low
          generalize up.getD i 0 = x at *
          clear h hc
          go_enter Tryz.func81, Tryz.ntmps81
          go_wp2_with fail
          go_ret
          exact ⟨congrArg (fun z => Ending.returned (.bool z)) (bit_shr x k hx), rfl⟩
        · rw [decide_eq_false h4, Bool.false_and]
          clear h en
          go_enter Tryz.func81, Tryz.ntmps81
          go_wp2_with fail
          go_ret
          exact ⟨rfl, rfl⟩
      · rw [decide_eq_false h3]
        clear h en
        go_enter Tryz.func81, Tryz.ntmps81
        go_wp2_with fail
        go_ret
        exact ⟨rfl, rfl⟩
    · rw [decide_eq_false h2]
      clear h en
      go_enter Tryz.func81, Tryz.ntmps81
      go_wp2_with fail
      go_ret
      exact ⟨rfl, rfl⟩
  · rw [decide_eq_false h1]
    clear h en
    go_enter Tryz.func81, Tryz.ntmps81
    go_wp2_with fail
    go_ret
    exact ⟨rfl, rfl⟩
set_option maxRecDepth 100000 in
theorem rbound_c (A : Option Addr) (cp : Nat) (up : List Nat) (dn : Bool) (c a b : Int) (w : World) (hn : up.length ≤ 20) (h : BytesAt w w.heap.size A up) :
    Calls Tryz.prog 96 #[.slice A up.length cp, .int .i64 c, .int .i64 a, .int .i64 b, .bool dn] w fun e w' => e = .returned (.bool (La.rbound up dn c a b)) ∧ w' = w := by
  have HL := hid (fun x y => rleq_c A cp up x y w hn h)
  unfold La.rbound
  clear h
  generalize up.length = n at *
  cases dn
  · have H1 := hid (HL.out a c)
    have H2 := hid (HL.out b c)
    rw [if_neg (by decide)]
    generalize La.rleq up a c = r1 at *
    generalize La.rleq up b c = r2 at *
    cases r1
    all_goals
      go_enter Tryz.func96, Tryz.ntmps96
      go_wp2_with (go_at_call 81; first | (with_reducible refine H1.out.mono ?_; rintro e w2 ⟨rfl, rfl⟩) | (with_reducible refine H2.out.mono ?_; rintro e w2 ⟨rfl, rfl⟩))
      go_ret
      exact ⟨rfl, rfl⟩
  · have H1 := hid (HL.out c a)
    have H2 := hid (HL.out c b)
    rw [if_pos rfl]
    generalize La.rleq up c a = r1 at *
    generalize La.rleq up c b = r2 at *
    cases r1
    all_goals
      go_enter Tryz.func96, Tryz.ntmps96
      go_wp2_with (go_at_call 81; first | (with_reducible refine H1.out.mono ?_; rintro e w2 ⟨rfl, rfl⟩) | (with_reducible refine H2.out.mono ?_; rintro e w2 ⟨rfl, rfl⟩))
      go_ret
      exact ⟨rfl, rfl⟩
end Go.Proofs.YtidnaednldcdfaaGreatDoor
namespace Go.Proofs.YtidnaednldcdfaaGreatDoor
open Go.RowKit

theorem all_range_succ (p : Nat → Bool) (n : Nat) : (List.range (n + 1)).all p = ((List.range n).all p && p n) := by
  rw [List.range_succ, List.all_append]; simp
set_option maxRecDepth 100000 in
set_option maxHeartbeats 4000000 in
theorem rjoin_c (A : Option Addr) (cp : Nat) (up : List Nat) (dn : Bool) (a b : Int) (w : World) (hn : up.length ≤ 20) (h : BytesAt w w.heap.size A up) :
    Calls Tryz.prog 82 #[.slice A up.length cp, .int .i64 a, .int .i64 b, .bool dn] w fun e w' => e = .returned (.int .i64 (La.rjoin up dn a b)) ∧ w' = w := by
  obtain ⟨n, en⟩ : ∃ n, n = up.length := ⟨_, rfl⟩
  have hn' : (n : Int) ≤ 20 := by omega
  have HB := hid (fun x => rbound_c A cp up dn x a b w hn h)
  have HL := hid (fun x y => rleq_c A cp up x y w hn h)
  rw [← en] at HB HL hn ⊢
  have EN := hid en
  clear h en
  go_enter Tryz.func82, Tryz.ntmps82
  go_wp2_with fail
  go_loopw [9, 10, 11] (fun s9 _ _ wr => ∃ (i : Nat), s9 = .int .i64 ((i : Nat) : Int) ∧ i ≤ n ∧ Hid (∀ j, j < i → La.rone up dn a b j = false) ∧ w = wr) (fun s9 _ _ _ => n - (intOf s9).toNat)
  case atStart => exact ⟨0, rfl, Nat.zero_le _, hid (fun j hj => by omega), rfl⟩
  case round =>
    obtain ⟨i, rfl, hi, HI, rfl⟩ := hrel
    by_cases hlt : i < n
    · have f1 : (i : Int) < n := by omega
      have HBi := hid (HB.out (i : Int))
      obtain ⟨rb, erb⟩ : ∃ rb, rb = La.rbound up dn (i : Int) a b := ⟨_, rfl⟩
      rw [← erb] at HBi
      have ERB := hid erb
      clear erb
      go_upto_region 6 with (go_at_call 96; refine HBi.out.mono ?_; rintro e w2 ⟨rfl, hw2⟩; have hw3 := hw2.symm; subst hw3)
      clear HBi
      go_loopw [10, 11] (fun s10 s11 wr => ∃ (k : Nat) (r : Bool), s11 = .int .i64 ((k : Nat) : Int) ∧ s10 = .bool r ∧ k ≤ n ∧ Hid (r = (rb && (List.range k).all (La.rkeep up dn a b i))) ∧ w = wr) (fun _ s11 _ => n - (intOf s11).toNat)
      case atStart => exact ⟨0, rb, rfl, rfl, Nat.zero_le _, hid (by simp), rfl⟩
      case round =>
        obtain ⟨k, r, rfl, rfl, hk, HK, rfl⟩ := hrel
        by_cases hkn : k < n
        · have f2 : (k : Int) < n := by omega
          have HBk := hid (HB.out (k : Int))
          have HL1 := hid (HL.out (k : Int) (i : Int))
          have HL2 := hid (HL.out (i : Int) (k : Int))
          have HKp := hid (show La.rkeep up dn a b i k = !(La.rbound up dn (k : Int) a b && (dn && !La.rleq up (k : Int) (i : Int) || !dn && !La.rleq up (i : Int) (k : Int))) from rfl)
          have HS := hid (all_range_succ (La.rkeep up dn a b i) k)
          generalize La.rkeep up dn a b i k = kp at *
          generalize La.rbound up dn (k : Int) a b = bk at *
          generalize La.rleq up (k : Int) (i : Int) = l1 at *
          generalize La.rleq up (i : Int) (k : Int) = l2 at *
          cases bk
          · have HS2 := hid (show r = (rb && (List.range (k + 1)).all (La.rkeep up dn a b i)) by rw [HS.out, HKp.out, HK.out]; simp)
            go_wp2_with (go_at_call 96; with_reducible refine HBk.out.mono ?_; rintro e w2 ⟨rfl, hw2⟩; have hw3 := hw2.symm; subst hw3)
            go_round
            case rel => exact ⟨k + 1, r, by go_num, rfl, by omega, HS2, trivial⟩
            case measure => simp [intOf]; omega
          · cases dn
            · cases l2
              · have HS2 := hid (show false = (rb && (List.range (k + 1)).all (La.rkeep up false a b i)) by rw [HS.out, HKp.out]; simp)
                go_wp2_with (first | (go_at_call 96; with_reducible refine HBk.out.mono ?_; rintro e w2 ⟨rfl, hw2⟩; have hw3 := hw2.symm; subst hw3) | (go_at_call 81; with_reducible refine HL2.out.mono ?_; rintro e w2 ⟨rfl, hw2⟩; have hw3 := hw2.symm; subst hw3))
                go_round
                case rel => exact ⟨k + 1, false, by go_num, rfl, by omega, HS2, trivial⟩
                case measure => simp [intOf]; omega
              · have HS2 := hid (show r = (rb && (List.range (k + 1)).all (La.rkeep up false a b i)) by rw [HS.out, HKp.out, HK.out]; simp)
                go_wp2_with (first | (go_at_call 96; with_reducible refine HBk.out.mono ?_; rintro e w2 ⟨rfl, hw2⟩; have hw3 := hw2.symm; subst hw3) | (go_at_call 81; with_reducible refine HL2.out.mono ?_; rintro e w2 ⟨rfl, hw2⟩; have hw3 := hw2.symm; subst hw3))
                go_round
                case rel => exact ⟨k + 1, r, by go_num, rfl, by omega, HS2, trivial⟩
                case measure => simp [intOf]; omega
            · cases l1
              · have HS2 := hid (show false = (rb && (List.range (k + 1)).all (La.rkeep up true a b i)) by rw [HS.out, HKp.out]; simp)
                go_wp2_with (first | (go_at_call 96; with_reducible refine HBk.out.mono ?_; rintro e w2 ⟨rfl, hw2⟩; have hw3 := hw2.symm; subst hw3) | (go_at_call 81; with_reducible refine HL1.out.mono ?_; rintro e w2 ⟨rfl, hw2⟩; have hw3 := hw2.symm; subst hw3))
                go_round
                case rel => exact ⟨k + 1, false, by go_num, rfl, by omega, HS2, trivial⟩
                case measure => simp [intOf]; omega
              · have HS2 := hid (show r = (rb && (List.range (k + 1)).all (La.rkeep up true a b i)) by rw [HS.out, HKp.out, HK.out]; simp)
                go_wp2_with (first | (go_at_call 96; with_reducible refine HBk.out.mono ?_; rintro e w2 ⟨rfl, hw2⟩; have hw3 := hw2.symm; subst hw3) | (go_at_call 81; with_reducible refine HL1.out.mono ?_; rintro e w2 ⟨rfl, hw2⟩; have hw3 := hw2.symm; subst hw3))
                go_round
                case rel => exact ⟨k + 1, r, by go_num, rfl, by omega, HS2, trivial⟩
                case measure => simp [intOf]; omega
        · have hkk : k = n := by omega
          subst hkk
          have HOne := hid (show La.rone up dn a b i = r by rw [HK.out, La.rone, ← ERB.out, ← EN.out])
          cases r
          · go_wp2_with fail
            go_round
            case rel => exact ⟨i + 1, by go_num, by omega, hid (fun j hj => by
              by_cases e : j = i
              · subst e; exact HOne.out
              · exact HI.out j (by omega)), trivial⟩
            case measure => simp [intOf]; omega
          · have HE := hid (show La.rjoin up dn a b = (i : Int) from La.rjoin_at (by rw [← EN.out]; exact hlt) HOne.out HI.out)
            go_wp2_with fail
            go_ret
            exact ⟨by rw [HE.out]; rfl, rfl⟩
    · have hin : i = n := by omega
      subst hin
      have HE := hid (show La.rjoin up dn a b = -1 from La.rjoin_no (by rw [← EN.out]; exact HI.out))
      go_wp2_with fail
      go_ret
      exact ⟨by rw [HE.out]; rfl, rfl⟩
theorem bool4 (d q1 q2 : Bool) : (d = true ∧ q1 = true ∧ q2 = true) ∨ (d = false ∧ q1 = false) ∨ (d = false ∧ q1 = true) ∨ (d = true ∧ q1 = false) ∨ (d = true ∧ q1 = true ∧ q2 = false) := by
  cases d <;> cases q1 <;> cases q2 <;> simp
set_option maxRecDepth 100000 in
set_option maxHeartbeats 8000000 in
theorem rmay_c (A : Option Addr) (cp : Nat) (up : List Nat) (w : World) (hn : up.length ≤ 20) (h : BytesAt w w.heap.size A up) :
    Calls Tryz.prog 53 #[.slice A up.length cp] w fun e w' => e = .returned (.bool (La.rmay up)) ∧ w' = w := by
  obtain ⟨n, en⟩ : ∃ n, n = up.length := ⟨_, rfl⟩
  have hn' : (n : Int) ≤ 20 := by omega
  have HL := hid (fun x y => rleq_c A cp up x y w hn h)
  have HJ := hid (fun dn x y => rjoin_c A cp up dn x y w hn h)
  have HB := hid h
  obtain ⟨R, hR⟩ : ∃ R, R = La.rmay up := ⟨_, rfl⟩
  have ER := hid (show R = (decide (1 ≤ n) && (decide (n ≤ 8) && ((List.range n).all (La.rrow up) && (List.range n).all (La.rjs up)))) by rw [hR, en]; rfl)
  rw [← hR]
  rw [← en] at HL HJ hn ⊢
  have EN := hid en
  clear h en hR
  by_cases h1 : 1 ≤ n
  · by_cases h8 : n ≤ 8
    · have g1 : ¬ (n : Int) < 1 := by omega
      have g2 : ¬ (8 : Int) < (n : Int) := by omega
      have HR := hid (show R = ((List.range n).all (La.rrow up) && (List.range n).all (La.rjs up)) by rw [ER.out, decide_eq_true h1, decide_eq_true h8]; rfl)
      have HF1 : Hid (∀ a, a < n → La.rrow up a = false → R = false) := hid (fun a ha hf => by rw [HR.out, La.all_range_no ha hf, Bool.false_and])
      have HF2 : Hid (∀ a, a < n → La.rjs up a = false → R = false) := hid (fun a ha hf => by rw [HR.out, La.all_range_no ha hf, Bool.and_false])
      clear ER
      go_enter Tryz.func53, Tryz.ntmps53
      go_wp2_with fail
      go_loopw [4, 5, 6, 7] (fun s4 _ _ _ wr => ∃ (i : Nat), s4 = .int .i64 ((i : Nat) : Int) ∧ i ≤ n ∧ Hid (∀ j, j < i → La.rrow up j = true) ∧ w = wr) (fun s4 _ _ _ _ => n - (intOf s4).toNat)
      case atStart => exact ⟨0, rfl, Nat.zero_le _, hid (fun j hj => by omega), rfl⟩
      case round =>
        obtain ⟨i, rfl, hi, HI, rfl⟩ := hrel
        by_cases hlt : i < n
        · have f1 : (i : Int) < n := by omega
          have HRow := hid (show La.rrow up i = (La.rhigh up i && (La.rleq up (i : Int) (i : Int) && (List.range n).all fun b => La.ranti up i b && La.rtr up i b)) by rw [EN.out]; rfl)
          go_upto_region 8 with fail
          go_loopw [5] (fun s5 wr => ∃ (k : Nat), s5 = .int .i64 ((k : Nat) : Int) ∧ n ≤ k ∧ k ≤ 8 ∧ Hid (∀ j, j < k → (decide (j < up.length) || !La.low up i j) = true) ∧ w = wr) (fun s5 _ => 8 - (intOf s5).toNat)
          case atStart => exact ⟨n, rfl, Nat.le_refl _, h8, hid (fun j hj => by rw [decide_eq_true (by rw [← EN.out]; exact hj)]; rfl), rfl⟩
          case round =>
            obtain ⟨k, rfl, hk, hk8, HK, rfl⟩ := hrel
            by_cases hkn : k < 8
            · have f2 : (k : Int) < 8 := by omega
              obtain ⟨ad, rfl, hbk, hc⟩ := HB.out.2 (by rw [← EN.out]; omega)
              have hx := HB.out.lt i
              have hc1 := hc i (by rw [← EN.out]; exact hlt)
              have hbit := bit_shr (up.getD i 0) k hx
              rw [Nat.min_eq_left (by omega)] at hbit
              have HLow := hid (show La.low up i k = (up.getD i 0).testBit k from rfl)
              obtain ⟨bb, ebb⟩ : ∃ bb, bb = (up.getD i 0).testBit k := ⟨_, rfl⟩
              rw [← ebb] at hbit HLow
              generalize up.getD i 0 = x at *
              clear hc ebb
              cases bb
              · go_wp2_with fail
                go_round
                case rel => exact ⟨k + 1, by go_num, by omega, by omega, hid (fun j hj => by
                  by_cases e : j = k
                  · subst e; rw [HLow.out, Bool.not_false, Bool.or_true]
                  · exact HK.out j (by omega)), trivial⟩
                case measure => simp [intOf]; omega
              · have HE := hid (HF1.out i hlt (by rw [HRow.out, show La.rhigh up i = false from La.all_range_no hkn (by rw [HLow.out, decide_eq_false (by rw [← EN.out]; omega)]; rfl), Bool.false_and]))
                go_wp2_with fail
                go_ret
                exact ⟨by rw [HE.out]; rfl, rfl⟩
            · have hk0 : k = 8 := by omega
              subst hk0
              have HHigh := hid (show La.rhigh up i = true from La.all_range HK.out)
              have HLi := hid (HL.out (i : Int) (i : Int))
              obtain ⟨q, eq⟩ : ∃ q, q = La.rleq up (i : Int) (i : Int) := ⟨_, rfl⟩
              rw [← eq] at HLi HRow
              clear eq HK
              cases q
              · have HE := hid (HF1.out i hlt (by rw [HRow.out, Bool.false_and, Bool.and_false]))
                go_wp2_with (go_at_call 81; with_reducible refine HLi.out.mono ?_; rintro e w2 ⟨rfl, hw2⟩; have hw3 := hw2.symm; subst hw3)
                go_ret
                exact ⟨by rw [HE.out]; rfl, rfl⟩
              · go_upto_region 15 with (go_at_call 81; with_reducible refine HLi.out.mono ?_; rintro e w2 ⟨rfl, hw2⟩; have hw3 := hw2.symm; subst hw3)
                clear HLi
                go_loopw [6, 7] (fun s6 _ wr => ∃ (k : Nat), s6 = .int .i64 ((k : Nat) : Int) ∧ k ≤ n ∧ Hid (∀ j, j < k → (La.ranti up i j && La.rtr up i j) = true) ∧ w = wr) (fun s6 _ _ => n - (intOf s6).toNat)
                case atStart => exact ⟨0, rfl, Nat.zero_le _, hid (fun j hj => by omega), rfl⟩
                case round =>
                  obtain ⟨k, rfl, hk, HK, rfl⟩ := hrel
                  by_cases hkn : k < n
                  · have f2 : (k : Int) < n := by omega
                    have HL1 := hid (HL.out (i : Int) (k : Int))
                    have HL2 := hid (HL.out (k : Int) (i : Int))
                    have HAn := hid (show La.ranti up i k = !(i != k && La.rleq up (i : Int) (k : Int) && La.rleq up (k : Int) (i : Int)) from rfl)
                    have HAll : Hid (∀ b, b < n → (La.ranti up i b && La.rtr up i b) = false → R = false) := hid (fun b hb hf => HF1.out i hlt (by rw [HRow.out, La.all_range_no hb hf, Bool.and_false, Bool.and_false]))
                    obtain ⟨T, eT⟩ : ∃ T : Nat → Bool, T = fun c : Nat => !(La.rleq up (i : Int) (k : Int) && La.rleq up (k : Int) (c : Int) && !La.rleq up (i : Int) (c : Int)) := ⟨_, rfl⟩
                    have HTr := hid (show La.rtr up i k = (List.range n).all T by rw [EN.out, eT]; rfl)
                    have HTm := hid (show ∀ c : Nat, T c = !(La.rleq up (i : Int) (k : Int) && La.rleq up (k : Int) (c : Int) && !La.rleq up (i : Int) (c : Int)) from fun c => by rw [eT])
                    clear eT
                    obtain ⟨q1, eq1⟩ : ∃ q1, q1 = La.rleq up (i : Int) (k : Int) := ⟨_, rfl⟩
                    obtain ⟨q2, eq2⟩ : ∃ q2, q2 = La.rleq up (k : Int) (i : Int) := ⟨_, rfl⟩
                    rw [← eq1] at HL1 HAn HTm
                    rw [← eq2] at HL2 HAn
                    clear eq1 eq2
                    obtain ⟨d, ed⟩ : ∃ d, d = ((i : Int) != (k : Int)) := ⟨_, rfl⟩
                    have hd : (i != k) = d := by
                      rw [ed, Bool.eq_iff_iff, bne_iff_ne, bne_iff_ne]
                      constructor <;> intro h1 h2 <;> apply h1 <;> omega
                    rw [hd] at HAn
                    have ed' := ed.symm
                    clear hd ed
                    have hq : (d = true ∧ q1 = true ∧ q2 = true) ∨ (d = false ∧ q1 = false) ∨ (d = false ∧ q1 = true) ∨ (d = true ∧ q1 = false) ∨ (d = true ∧ q1 = true ∧ q2 = false) := bool4 d q1 q2
                    rcases hq with ⟨rfl, rfl, rfl⟩ | ⟨rfl, rfl⟩ | ⟨rfl, rfl⟩ | ⟨rfl, rfl⟩ | ⟨rfl, rfl, rfl⟩
                    · have HE := hid (HAll.out k hkn (by rw [HAn.out]; rfl))
                      go_wp2_with (go_at_call 81; first | (with_reducible refine HL1.out.mono ?_; rintro e w2 ⟨rfl, hw2⟩; have hw3 := hw2.symm; subst hw3) | (with_reducible refine HL2.out.mono ?_; rintro e w2 ⟨rfl, hw2⟩; have hw3 := hw2.symm; subst hw3))
                      go_ret
                      exact ⟨by rw [HE.out]; rfl, rfl⟩
                    all_goals
                      have HAt := hid (show La.ranti up i k = true by rw [HAn.out]; simp)
                      go_upto_region 20 with (go_at_call 81; first | (with_reducible refine HL1.out.mono ?_; rintro e w2 ⟨rfl, hw2⟩; have hw3 := hw2.symm; subst hw3) | (with_reducible refine HL2.out.mono ?_; rintro e w2 ⟨rfl, hw2⟩; have hw3 := hw2.symm; subst hw3))
                      clear HL2 HAn ed'
                      go_loopw [7] (fun s7 wr => ∃ (m : Nat), s7 = .int .i64 ((m : Nat) : Int) ∧ m ≤ n ∧ Hid (∀ j, j < m → T j = true) ∧ w = wr) (fun s7 _ => n - (intOf s7).toNat)
                      case atStart => exact ⟨0, rfl, Nat.zero_le _, hid (fun j hj => by omega), rfl⟩
                      case round =>
                        obtain ⟨m, rfl, hm, HM, rfl⟩ := hrel
                        by_cases hmn : m < n
                        · have f3 : (m : Int) < n := by omega
                          have HL3 := hid (HL.out (k : Int) (m : Int))
                          have HL4 := hid (HL.out (i : Int) (m : Int))
                          have HNo := hid (fun (hf : T m = false) => HAll.out k hkn (by rw [HTr.out, La.all_range_no hmn hf, Bool.and_false]))
                          have HNx := hid (fun (hf : T m = true) => show ∀ j, j < m + 1 → T j = true from fun j hj => by
                            by_cases e : j = m
                            · subst e; exact hf
                            · exact HM.out j (by omega))
                          have HTmm := hid (HTm.out m)
                          generalize La.rleq up (k : Int) (m : Int) = q3 at *
                          generalize La.rleq up (i : Int) (m : Int) = q4 at *
                          cases q3 <;> cases q4
                          all_goals first
                            | (have HE := hid (HNo.out (by rw [HTmm.out]; rfl))
                               go_wp2_with (go_at_call 81; first | (with_reducible refine HL1.out.mono ?_; rintro e w2 ⟨rfl, hw2⟩; have hw3 := hw2.symm; subst hw3) | (with_reducible refine HL3.out.mono ?_; rintro e w2 ⟨rfl, hw2⟩; have hw3 := hw2.symm; subst hw3) | (with_reducible refine HL4.out.mono ?_; rintro e w2 ⟨rfl, hw2⟩; have hw3 := hw2.symm; subst hw3))
                               go_ret
                               exact ⟨by rw [HE.out]; rfl, rfl⟩)
                            | (have HS := hid (HNx.out (by rw [HTmm.out]; rfl))
                               go_wp2_with (go_at_call 81; first | (with_reducible refine HL1.out.mono ?_; rintro e w2 ⟨rfl, hw2⟩; have hw3 := hw2.symm; subst hw3) | (with_reducible refine HL3.out.mono ?_; rintro e w2 ⟨rfl, hw2⟩; have hw3 := hw2.symm; subst hw3) | (with_reducible refine HL4.out.mono ?_; rintro e w2 ⟨rfl, hw2⟩; have hw3 := hw2.symm; subst hw3))
                               go_round
                               case rel => exact ⟨m + 1, by go_num, by omega, HS, trivial⟩
                               case measure => simp [intOf]; omega)
                        · have hm0 : m = n := by omega
                          subst hm0
                          have HT := hid (show La.rtr up i k = true by rw [HTr.out]; exact La.all_range HM.out)
                          go_wp2_with fail
                          go_round
                          case rel => exact ⟨k + 1, by go_num, by omega, hid (fun j hj => by
                            by_cases e : j = k
                            · subst e; rw [HAt.out, HT.out]; rfl
                            · exact HK.out j (by omega)), trivial⟩
                          case measure => simp [intOf]; omega
                  · have hk0 : k = n := by omega
                    subst hk0
                    have HRi := hid (show La.rrow up i = true by rw [HRow.out, HHigh.out, Bool.true_and, Bool.true_and]; exact La.all_range HK.out)
                    go_wp2_with fail
                    go_round
                    case rel => exact ⟨i + 1, by go_num, by omega, hid (fun j hj => by
                      by_cases e : j = i
                      · subst e; exact HRi.out
                      · exact HI.out j (by omega)), trivial⟩
                    case measure => simp [intOf]; omega
        · have hin : i = n := by omega
          subst hin
          have HAr := hid (show (List.range i).all (La.rrow up) = true from La.all_range HI.out)
          go_upto_region 25 with fail
          go_loopw [8, 9] (fun s8 _ wr => ∃ (k : Nat), s8 = .int .i64 ((k : Nat) : Int) ∧ k ≤ i ∧ Hid (∀ j, j < k → La.rjs up j = true) ∧ w = wr) (fun s8 _ _ => i - (intOf s8).toNat)
          case atStart => exact ⟨0, rfl, Nat.zero_le _, hid (fun j hj => by omega), rfl⟩
          case round =>
            obtain ⟨k, rfl, hk, HK, rfl⟩ := hrel
            by_cases hkn : k < i
            · have f2 : (k : Int) < i := by omega
              have HJk := hid (show La.rjs up k = (List.range i).all (La.rtwo up k) by rw [EN.out]; rfl)
              go_upto_region 28 with fail
              go_loopw [9] (fun s9 wr => ∃ (m : Nat), s9 = .int .i64 ((m : Nat) : Int) ∧ m ≤ i ∧ Hid (∀ j, j < m → La.rtwo up k j = true) ∧ w = wr) (fun s9 _ => i - (intOf s9).toNat)
              case atStart => exact ⟨0, rfl, Nat.zero_le _, hid (fun j hj => by omega), rfl⟩
              case round =>
                obtain ⟨m, rfl, hm, HM, rfl⟩ := hrel
                by_cases hmn : m < i
                · have f3 : (m : Int) < i := by omega
                  have HJ1 := hid (HJ.out false (k : Int) (m : Int))
                  have HJ2 := hid (HJ.out true (k : Int) (m : Int))
                  have HNo := hid (fun (hf : La.rtwo up k m = false) => HF2.out k hkn (by rw [HJk.out, La.all_range_no hmn hf]))
                  have HTw := hid (show La.rtwo up k m = (decide (0 ≤ La.rjoin up false (k : Int) (m : Int)) && decide (0 ≤ La.rjoin up true (k : Int) (m : Int))) from rfl)
                  generalize La.rjoin up false (k : Int) (m : Int) = j1 at *
                  generalize La.rjoin up true (k : Int) (m : Int) = j2 at *
                  by_cases c1 : 0 ≤ j1
                  · have d1 : ¬ j1 < 0 := by omega
                    by_cases c2 : 0 ≤ j2
                    · have d2 : ¬ j2 < 0 := by omega
                      have HS := hid (show La.rtwo up k m = true by rw [HTw.out, decide_eq_true c1, decide_eq_true c2]; rfl)
                      clear c1 c2
                      go_wp2_with (go_at_call 82; first | (with_reducible refine HJ1.out.mono ?_; rintro e w2 ⟨rfl, hw2⟩; have hw3 := hw2.symm; subst hw3) | (with_reducible refine HJ2.out.mono ?_; rintro e w2 ⟨rfl, hw2⟩; have hw3 := hw2.symm; subst hw3))
                      go_round
                      case rel => exact ⟨m + 1, by go_num, by omega, hid (fun j hj => by
                        by_cases e : j = m
                        · subst e; exact HS.out
                        · exact HM.out j (by omega)), trivial⟩
                      case measure => simp [intOf]; omega
                    · have d2 : j2 < 0 := by omega
                      have HE := hid (HNo.out (by rw [HTw.out, decide_eq_false c2, Bool.and_false]))
                      clear c1 c2
                      go_wp2_with (go_at_call 82; first | (with_reducible refine HJ1.out.mono ?_; rintro e w2 ⟨rfl, hw2⟩; have hw3 := hw2.symm; subst hw3) | (with_reducible refine HJ2.out.mono ?_; rintro e w2 ⟨rfl, hw2⟩; have hw3 := hw2.symm; subst hw3))
                      go_ret
                      exact ⟨by rw [HE.out]; rfl, rfl⟩
                  · have d1 : j1 < 0 := by omega
                    have HE := hid (HNo.out (by rw [HTw.out, decide_eq_false c1, Bool.false_and]))
                    clear c1
                    go_wp2_with (go_at_call 82; first | (with_reducible refine HJ1.out.mono ?_; rintro e w2 ⟨rfl, hw2⟩; have hw3 := hw2.symm; subst hw3) | (with_reducible refine HJ2.out.mono ?_; rintro e w2 ⟨rfl, hw2⟩; have hw3 := hw2.symm; subst hw3))
                    go_ret
                    exact ⟨by rw [HE.out]; rfl, rfl⟩
                · have hm0 : m = i := by omega
                  subst hm0
                  have HS := hid (show La.rjs up k = true by rw [HJk.out]; exact La.all_range HM.out)
                  go_wp2_with fail
                  go_round
                  case rel => exact ⟨k + 1, by go_num, by omega, hid (fun j hj => by
                    by_cases e : j = k
                    · subst e; exact HS.out
                    · exact HK.out j (by omega)), trivial⟩
                  case measure => simp [intOf]; omega
            · have hk0 : k = i := by omega
              subst hk0
              have HE := hid (show R = true by rw [HR.out, HAr.out, La.all_range HK.out]; rfl)
              go_wp2_with fail
              go_ret
              exact ⟨by rw [HE.out]; rfl, rfl⟩
    · have g1 : ¬ (n : Int) < 1 := by omega
      have g2 : (8 : Int) < (n : Int) := by omega
      have HE := hid (show R = false by rw [ER.out, decide_eq_false h8, Bool.false_and, Bool.and_false])
      go_enter Tryz.func53, Tryz.ntmps53
      go_wp2_with fail
      go_ret
      exact ⟨by rw [HE.out]; rfl, rfl⟩
  · have g1 : (n : Int) < 1 := by omega
    have HE := hid (show R = false by rw [ER.out, decide_eq_false h1, Bool.false_and])
    go_enter Tryz.func53, Tryz.ntmps53
    go_wp2_with fail
    go_ret
    exact ⟨by rw [HE.out]; rfl, rfl⟩
end Go.Proofs.YtidnaednldcdfaaGreatDoor
namespace Go.Proofs.YtidnaednldcdfaaGreatDoor
open Go.RowKit

/-- Objects in a row of the call's own, the fields of each apart from it. -/
structure OwnO (t : TypeId) (w : World) (B : Nat) (A : Option Addr) (c : Nat) (vs : List OV) : Prop where
  row : Row w B t 4 A vs.length c (vs.flatMap ovF)
  ok : ∀ v ∈ vs, OvOk w v
  ne : ∀ v ∈ vs, 0 < v.o.f.length → ∀ ad, v.A = some ad → ¬ AtRow A ad.block
theorem OwnO.nil (t : TypeId) (w : World) (B : Nat) : OwnO t w B none 0 [] := ⟨Row.nil _ _ _ _, by simp, by simp⟩
theorem OwnO.grew {t : TypeId} {w w' : World} {B : Nat} {A : Option Addr} {c : Nat} {vs : List OV} (h : OwnO t w B A c vs) (hg : Grew w w') : OwnO t w' B A c vs :=
  ⟨h.row.grew hg, fun v hv => (h.ok v hv).grew hg, h.ne⟩
theorem OwnO.at {t : TypeId} {w : World} {B : Nat} {A : Option Addr} {c : Nat} {vs : List OV} (h : OwnO t w B A c vs) : ObjsAt w A vs := row_objs h.row rfl h.ok
theorem OwnO.low {t : TypeId} {w : World} {B B' : Nat} {A : Option Addr} {c : Nat} {vs : List OV} (h : OwnO t w B A c vs) (hB : B' ≤ B) : OwnO t w B' A c vs := ⟨h.row.low hB, h.ok, h.ne⟩
theorem OvOk.blk {w : World} {v : OV} (h : OvOk w v) (h0 : 0 < v.o.f.length) : ∀ ad, v.A = some ad → ad.block < w.heap.size := fun ad e => by
  obtain ⟨ad', h1, h2, _⟩ := h.f.2 h0
  rw [e] at h1
  cases h1
  exact h2
/-- What is changed elsewhere leaves them. -/
theorem OwnO.kept {F : Nat → Prop} {t : TypeId} {w w' : World} {B : Nat} {A : Option Addr} {c : Nat} {vs : List OV} (h : OwnO t w B A c vs) (hk : Kept F w w') (h1 : ∀ k, AtRow A k → ¬ F k) (h2 : ∀ v ∈ vs, 0 < v.o.f.length → ∀ ad, v.A = some ad → ¬ F ad.block) : OwnO t w' B A c vs :=
  ⟨h.row.kept hk (fun g hA => h1 g ⟨_, hA, rfl⟩), fun v hv => (h.ok v hv).kept hk (h2 v hv), h.ne⟩
theorem rowto_at {w : World} {A A' : Option Addr} (h : RowTo w A A') {k : Nat} (hk : AtRow A' k) : AtRow A k ∨ w.heap.size ≤ k := by
  rcases h with e | ⟨q, e1, e2⟩
  · rw [e] at hk; exact .inl hk
  · obtain ⟨ad, h1, h2⟩ := hk
    rw [e1] at h1
    cases h1
    exact .inr (by rw [← h2]; exact e2)
/-- One more behind. -/
theorem OwnO.app {t : TypeId} {w w' : World} {B : Nat} {A A' : Option Addr} {c c' : Nat} {vs : List OV} {y : OV} (h : OwnO t w B A c vs) (hr : Row w' B t 4 A' (vs.length + 1) c' (vs.flatMap ovF ++ ovF y)) (hk : Kept (AtRow A) w w') (ht : RowTo w A A') (hy : OvOk w y) (hA : 0 < y.o.f.length → ∀ ad, y.A = some ad → ¬ AtRow A ad.block) : OwnO t w' B A' c' (vs ++ [y]) := by
  have hlow : ∀ v ∈ vs ++ [y], OvOk w v ∧ (0 < v.o.f.length → ∀ ad, v.A = some ad → ¬ AtRow A ad.block) := fun v hv => by
    rcases List.mem_append.1 hv with hv | hv
    · exact ⟨h.ok v hv, h.ne v hv⟩
    · obtain rfl := List.mem_singleton.1 hv
      exact ⟨hy, hA⟩
  refine ⟨by rw [List.flatMap_append, List.length_append]; simpa using hr, fun v hv => (hlow v hv).1.kept hk (hlow v hv).2, fun v hv h0 ad e hk2 => ?_⟩
  rcases rowto_at ht hk2 with h1 | h1
  · exact (hlow v hv).2 h0 ad e h1
  · have := (hlow v hv).1.blk h0 ad e
    omega
end Go.Proofs.YtidnaednldcdfaaGreatDoor
namespace Go.Proofs.YtidnaednldcdfaaGreatDoor
open Go.RowKit

set_option maxRecDepth 100000 in
theorem rJoin_c (A : Option Addr) (cp : Nat) (up : List Nat) (a b : Int) (w : World) (hn : up.length ≤ 20) (h : BytesAt w w.heap.size A up) :
    Calls Tryz.prog 84 #[.slice A up.length cp, .int .i64 a, .int .i64 b] w fun e w' => e = .returned (.int .i64 (La.joinOf up a b)) ∧ w' = w := by
  have HM := hid (rmay_c A cp up w hn h)
  have HA := hid (rleq_c A cp up a a w hn h)
  have HB := hid (rleq_c A cp up b b w hn h)
  have HJ := hid (rjoin_c A cp up false a b w hn h)
  rw [← La.rjoinOf h.1]
  clear h
  generalize up.length = n at *
  generalize La.rmay up = x1 at *
  generalize La.rleq up a a = x2 at *
  generalize La.rleq up b b = x3 at *
  generalize La.rjoin up false a b = j at *
  cases x1
  · go_enter Tryz.func84, Tryz.ntmps84
    go_wp2_with (first | (go_at_call 53; with_reducible refine HM.out.mono ?_; rintro e w2 ⟨rfl, hw2⟩; have hw3 := hw2.symm; subst hw3))
    go_ret
    exact ⟨rfl, rfl⟩
  · cases x2
    · go_enter Tryz.func84, Tryz.ntmps84
      go_wp2_with (first | (go_at_call 53; with_reducible refine HM.out.mono ?_; rintro e w2 ⟨rfl, hw2⟩; have hw3 := hw2.symm; subst hw3) | (go_at_call 81; with_reducible refine HA.out.mono ?_; rintro e w2 ⟨rfl, hw2⟩; have hw3 := hw2.symm; subst hw3))
      go_ret
      exact ⟨rfl, rfl⟩
    · cases x3
      · go_enter Tryz.func84, Tryz.ntmps84
        go_wp2_with (first | (go_at_call 53; with_reducible refine HM.out.mono ?_; rintro e w2 ⟨rfl, hw2⟩; have hw3 := hw2.symm; subst hw3) | (go_at_call 81; with_reducible refine HA.out.mono ?_; rintro e w2 ⟨rfl, hw2⟩; have hw3 := hw2.symm; subst hw3) | (go_at_call 81; with_reducible refine HB.out.mono ?_; rintro e w2 ⟨rfl, hw2⟩; have hw3 := hw2.symm; subst hw3))
        go_ret
        exact ⟨rfl, rfl⟩
      · go_enter Tryz.func84, Tryz.ntmps84
        go_wp2_with (first | (go_at_call 53; with_reducible refine HM.out.mono ?_; rintro e w2 ⟨rfl, hw2⟩; have hw3 := hw2.symm; subst hw3) | (go_at_call 82; with_reducible refine HJ.out.mono ?_; rintro e w2 ⟨rfl, hw2⟩; have hw3 := hw2.symm; subst hw3) | (go_at_call 81; with_reducible refine HA.out.mono ?_; rintro e w2 ⟨rfl, hw2⟩; have hw3 := hw2.symm; subst hw3) | (go_at_call 81; with_reducible refine HB.out.mono ?_; rintro e w2 ⟨rfl, hw2⟩; have hw3 := hw2.symm; subst hw3))
        go_ret
        exact ⟨rfl, rfl⟩
set_option maxRecDepth 100000 in
set_option maxHeartbeats 4000000 in
theorem rvalue_c (n : Nat) (v : Ob.Val) (w : World) : Calls Tryz.prog 83 #[.int .i64 ((n : Nat) : Int), .agg #[.int .u8 ((v.k : Nat) : Int), .int .i64 v.n, .int .i64 v.l]] w fun e w' => e = .returned (.bool (Ob.valueB n v)) ∧ Grew w w' := by
  obtain ⟨R, hR⟩ : ∃ R, R = Ob.valueB n v := ⟨_, rfl⟩
  rw [← hR]
  unfold Ob.valueB Ob.inB Ob.numB at hR
  obtain ⟨k, z, l⟩ := v
  simp only at hR ⊢
  have ER := hid hR
  clear hR
  have B1 := Blk.new w 59 #[.int .u8 ((k : Nat) : Int), .int .i64 z, .int .i64 l]
  have G1 := (Grew.refl w).alloc (.cells #[.int .u8 ((k : Nat) : Int), .int .i64 z, .int .i64 l] 59)
  go_enter Tryz.func83, Tryz.ntmps83
  go_upto_region 1 with fail
  generalize w.alloc (.cells #[.int .u8 ((k : Nat) : Int), .int .i64 z, .int .i64 l] 59) = w1 at *
  generalize w.heap.size = g at *
  have q0 := B1.cell 0
  have q1 := B1.cell 1
  have q2 := B1.cell 2
  have ql := B1.lt
  simp only [List.getElem?_toArray, List.getElem?_cons_zero, List.getElem?_cons_succ] at q0 q1 q2
  have HG := hid G1
  clear B1 G1
  by_cases h1 : 0 ≤ l
  · by_cases h2 : l < n
    · have HR : Hid (R = if k ≤ 2 then decide (z = 0) else if k = 3 then decide (-2305843009213693952 ≤ z) && decide (z ≤ 2305843009213693951) else if k = 4 then decide (0 ≤ z) && decide (z < 65536) else if k = 5 then decide (0 ≤ z) && decide (z < 64) else false) := hid (by rw [ER.out, decide_eq_true h1, decide_eq_true h2]; rfl)
      have n1 : ¬ l < 0 := by omega
      have n2 : ¬ (n : Int) ≤ l := by omega
      clear ER
      by_cases hk : k ≤ 2
      · rw [if_pos hk] at HR
        have f : ∀ j : Nat, k = j → ((k : Nat) : Int) = (j : Int) := fun j h => by rw [h]
        by_cases hz : z = 0
        · have HE := hid (show R = true by rw [HR.out, decide_eq_true hz])
          subst hz
          rcases (by omega : k = 0 ∨ k = 1 ∨ k = 2) with rfl | rfl | rfl
          all_goals
            clear f
            go_wp2_with fail
            go_ret
            exact ⟨by rw [HE.out]; rfl, HG.out⟩
        · have HE := hid (show R = false by rw [HR.out, decide_eq_false hz])
          have hz0 : (z == 0) = false := by rw [beq_eq_false_iff_ne]; exact hz
          clear hz
          rcases (by omega : k = 0 ∨ k = 1 ∨ k = 2) with rfl | rfl | rfl
          all_goals
            clear f
            go_wp2_with fail
            go_ret
            exact ⟨by rw [HE.out]; rfl, HG.out⟩
      · rw [if_neg hk] at HR
        by_cases h3 : k = 3
        · subst h3
          rw [if_pos rfl] at HR
          by_cases c1 : -2305843009213693952 ≤ z
          · by_cases c2 : z ≤ 2305843009213693951
            · have HE := hid (show R = true by rw [HR.out, decide_eq_true c1, decide_eq_true c2]; rfl)
              go_wp2_with fail
              go_ret
              exact ⟨by rw [HE.out]; rfl, HG.out⟩
            · have HE := hid (show R = false by rw [HR.out, decide_eq_true c1, decide_eq_false c2]; rfl)
              go_wp2_with fail
              go_ret
              exact ⟨by rw [HE.out]; rfl, HG.out⟩
          · have HE := hid (show R = false by rw [HR.out, decide_eq_false c1]; rfl)
            go_wp2_with fail
            go_ret
            exact ⟨by rw [HE.out]; rfl, HG.out⟩
        · rw [if_neg h3] at HR
          by_cases h4 : k = 4
          · subst h4
            rw [if_pos rfl] at HR
            by_cases c1 : 0 ≤ z
            · by_cases c2 : z < 65536
              · have c3 : z ≤ 65535 := by omega
                have HE := hid (show R = true by rw [HR.out, decide_eq_true c1, decide_eq_true c2]; rfl)
                go_wp2_with fail
                go_ret
                exact ⟨by rw [HE.out]; rfl, HG.out⟩
              · have c3 : ¬ z ≤ 65535 := by omega
                have HE := hid (show R = false by rw [HR.out, decide_eq_true c1, decide_eq_false c2]; rfl)
                go_wp2_with fail
                go_ret
                exact ⟨by rw [HE.out]; rfl, HG.out⟩
            · have HE := hid (show R = false by rw [HR.out, decide_eq_false c1]; rfl)
              go_wp2_with fail
              go_ret
              exact ⟨by rw [HE.out]; rfl, HG.out⟩
          · rw [if_neg h4] at HR
            by_cases h5 : k = 5
            · subst h5
              rw [if_pos rfl] at HR
              by_cases c1 : 0 ≤ z
              · by_cases c2 : z < 64
                · have c3 : z ≤ 63 := by omega
                  have HE := hid (show R = true by rw [HR.out, decide_eq_true c1, decide_eq_true c2]; rfl)
                  go_wp2_with fail
                  go_ret
                  exact ⟨by rw [HE.out]; rfl, HG.out⟩
                · have c3 : ¬ z ≤ 63 := by omega
                  have HE := hid (show R = false by rw [HR.out, decide_eq_true c1, decide_eq_false c2]; rfl)
                  go_wp2_with fail
                  go_ret
                  exact ⟨by rw [HE.out]; rfl, HG.out⟩
              · have HE := hid (show R = false by rw [HR.out, decide_eq_false c1]; rfl)
                go_wp2_with fail
                go_ret
                exact ⟨by rw [HE.out]; rfl, HG.out⟩
            · rw [if_neg h5] at HR
              have f : ∀ j : Int, j ≤ 5 → 0 ≤ j → (((k : Nat) : Int) == j) = false := fun j hj h0 => by
                rw [beq_eq_false_iff_ne]; omega
              have f0 := f 0 (by decide) (by decide)
              have f1 := f 1 (by decide) (by decide)
              have f2 := f 2 (by decide) (by decide)
              have f3 := f 3 (by decide) (by decide)
              have f4 := f 4 (by decide) (by decide)
              have f5 := f 5 (by decide) (by decide)
              clear f h3 h4 h5 hk
              go_wp2_with fail
              go_ret
              exact ⟨by rw [HR.out]; rfl, HG.out⟩
    · have n1 : ¬ l < 0 := by omega
      have n2 : (n : Int) ≤ l := by omega
      have HE := hid (show R = false by rw [ER.out, decide_eq_false h2, Bool.and_false, Bool.false_and])
      go_wp2_with fail
      go_ret
      exact ⟨by rw [HE.out]; rfl, HG.out⟩
  · have n1 : l < 0 := by omega
    have HE := hid (show R = false by rw [ER.out, decide_eq_false h1, Bool.false_and, Bool.false_and])
    go_wp2_with fail
    go_ret
    exact ⟨by rw [HE.out]; rfl, HG.out⟩
end Go.Proofs.YtidnaednldcdfaaGreatDoor
namespace Go.Proofs.YtidnaednldcdfaaGreatDoor
open Go.RowKit

set_option maxRecDepth 100000 in
set_option maxHeartbeats 4000000 in
theorem rmayO_c (n : Nat) (v : OV) (w : World) (h : OvOk w v) (hl : v.o.f.length ≤ 1000) : Calls Tryz.prog 54 #[.int .i64 ((n : Nat) : Int), .agg #[.int .i64 v.o.cls, .int .i64 v.o.lev, .slice v.A v.o.f.length v.c, .string v.o.b]] w fun e w' => e = .returned (.bool (Ob.mayB n v.o)) ∧ Grew w w' := by
  obtain ⟨R, hR⟩ : ∃ R, R = Ob.mayB n v.o := ⟨_, rfl⟩
  rw [← hR]
  unfold Ob.mayB Ob.headB Ob.inB at hR
  obtain ⟨⟨cls, lev, f, b⟩, A, c⟩ := v
  have HF := hid h.f
  simp only at hR HF hl ⊢
  obtain ⟨m, em⟩ : ∃ m, m = f.length := ⟨_, rfl⟩
  rw [← em] at hR hl ⊢
  have EM := hid em
  have ER := hid hR
  clear hR h em
  have B1 := Blk.new w 58 #[.int .i64 cls, .int .i64 lev, .slice A m c, .string b]
  have G1 := (Grew.refl w).alloc (.cells #[.int .i64 cls, .int .i64 lev, .slice A m c, .string b] 58)
  go_enter Tryz.func54, Tryz.ntmps54
  go_upto_region 1 with fail
  generalize w.alloc (.cells #[.int .i64 cls, .int .i64 lev, .slice A m c, .string b] 58) = w1 at *
  generalize w.heap.size = g at *
  have q0 := B1.cell 0
  have q1 := B1.cell 1
  have q2 := B1.cell 2
  have q3 := B1.cell 3
  have ql := B1.lt
  simp only [List.getElem?_toArray, List.getElem?_cons_zero, List.getElem?_cons_succ] at q0 q1 q2 q3
  have HB := hid B1
  have HG := hid G1
  clear B1 G1
  by_cases a1 : 0 ≤ cls
  · have d1 : ¬ cls < 0 := by omega
    by_cases a2 : cls < 64
    · have d2 : ¬ (63 : Int) < cls := by omega
      by_cases a3 : 0 ≤ lev
      · have d3 : ¬ lev < 0 := by omega
        by_cases a4 : lev < n
        · have d4 : ¬ (n : Int) ≤ lev := by omega
          by_cases a5 : m ≤ 256
          · have d5 : ¬ (256 : Int) < (m : Int) := by omega
            by_cases a6 : b.size ≤ 1024
            · have d6 : ¬ (1024 : Int) < ((b.size : Nat) : Int) := by omega
              by_cases a7 : m = 0
              · have HE := hid (show R = true by
                  have hn : f = [] := List.eq_nil_of_length_eq_zero (by rw [← EM.out]; exact a7)
                  rw [ER.out, decide_eq_true a1, decide_eq_true a2, decide_eq_true a3, decide_eq_true a4, decide_eq_true a5, decide_eq_true a6, decide_eq_true a7, hn]; rfl)
                have d7 : ¬ (0 : Int) < (m : Int) := by omega
                have d8 : (m : Int) ≤ 0 := by omega
                clear ER a1 a2 a3 a4 a5 a6 EM HF
                subst a7
                go_upto_region 4 with fail
                go_loopw [5] (fun s5 wr => s5 = .int .i64 0 ∧ wr = w1) (fun _ _ => 0)
                case atStart => exact ⟨rfl, rfl⟩
                case round =>
                  obtain ⟨rfl, rfl⟩ := hrel
                  go_wp2_with fail
                  go_ret
                  exact ⟨by rw [HE.out]; rfl, HG.out⟩
              · by_cases a8 : b.size = 0
                · have HR := hid (show R = f.all (Ob.valueB n) by
                    rw [ER.out, decide_eq_true a1, decide_eq_true a2, decide_eq_true a3, decide_eq_true a4, decide_eq_true a5, decide_eq_true a6, decide_eq_false a7, decide_eq_true a8]; rfl)
                  have d7 : (0 : Int) < (m : Int) := by omega
                  have d8 : ¬ (0 : Int) < ((b.size : Nat) : Int) := by omega
                  clear ER a1 a2 a3 a4 a6 a7 a8
                  go_upto_region 4 with fail
                  go_loopw [5] (fun s5 wr => ∃ i : Nat, s5 = .int .i64 ((i : Nat) : Int) ∧ i ≤ m ∧ Hid ((f.take i).all (Ob.valueB n) = true) ∧ Hid (Grew w1 wr)) (fun s5 _ => m - (intOf s5).toNat)
                  case atStart => exact ⟨0, rfl, Nat.zero_le _, hid (by simp), hid (Grew.refl _)⟩
                  case round =>
                    obtain ⟨i, rfl, hi, HI, HW⟩ := hrel
                    have HBr := hid (HB.out.grew HW.out)
                    have p2 := HBr.out.cell 2
                    have pl := HBr.out.lt
                    simp only [List.getElem?_toArray, List.getElem?_cons_zero, List.getElem?_cons_succ] at p2
                    clear q0 q1 q2 q3 ql
                    by_cases hlt : i < m
                    · have f1 : (i : Int) < m := by omega
                      obtain ⟨ad, x, rfl, hx, r0, r1, r2, hb, _⟩ := val_at HF.out (HG.out.trans HW.out) (i := i) (by rw [← EM.out]; exact hlt)
                      have HV := hid (rvalue_c n x wr)
                      have HT := hid (show (f.take (i + 1)).all (Ob.valueB n) = Ob.valueB n x by
                        rw [List.take_add_one, hx, List.all_append, HI.out]; simp)
                      have HX := hid (fun (hf : Ob.valueB n x = false) => show R = false by
                        rw [HR.out]
                        cases hall : f.all (Ob.valueB n)
                        · rfl
                        · have := List.all_eq_true.1 hall x (List.mem_of_getElem? hx)
                          rw [hf] at this
                          cases this)
                      generalize Ob.valueB n x = bx at *
                      clear hx
                      obtain ⟨vk, vz, vl⟩ := x
                      simp only at r0 r1 r2 HV
                      cases bx
                      · have HE := hid (HX.out rfl)
                        go_wp2_with (go_at_call 83; refine HV.out.mono ?_; rintro e w2 ⟨rfl, hg2⟩)
                        go_ret
                        exact ⟨by rw [HE.out]; rfl, (HG.out.trans HW.out).trans hg2⟩
                      · go_wp2_with (go_at_call 83; refine HV.out.mono ?_; rintro e w2 ⟨rfl, hg2⟩)
                        go_round
                        case rel => exact ⟨i + 1, by go_num, by omega, HT, hid (HW.out.trans hg2)⟩
                        case measure => simp [intOf]; omega
                    · have hin : i = m := by omega
                      subst hin
                      have HE := hid (show R = true by
                        have := HI.out
                        rw [EM.out, List.take_length] at this
                        rw [HR.out, this])
                      go_wp2_with fail
                      go_ret
                      exact ⟨by rw [HE.out]; rfl, HG.out.trans HW.out⟩
                · have HE := hid (show R = false by
                    rw [ER.out, decide_eq_false a7, decide_eq_false a8]; simp)
                  have d7 : (0 : Int) < (m : Int) := by omega
                  have d8 : (0 : Int) < ((b.size : Nat) : Int) := by omega
                  clear ER a1 a2 a3 a4 a6 a7 a8
                  go_wp2_with fail
                  go_ret
                  exact ⟨by rw [HE.out]; rfl, HG.out⟩
            · have d6 : (1024 : Int) < ((b.size : Nat) : Int) := by omega
              have HE := hid (show R = false by rw [ER.out, decide_eq_false a6]; simp)
              clear ER
              go_wp2_with fail
              go_ret
              exact ⟨by rw [HE.out]; rfl, HG.out⟩
          · have d5 : (256 : Int) < (m : Int) := by omega
            have HE := hid (show R = false by rw [ER.out, decide_eq_false a5]; simp)
            clear ER
            go_wp2_with fail
            go_ret
            exact ⟨by rw [HE.out]; rfl, HG.out⟩
        · have d4 : (n : Int) ≤ lev := by omega
          have HE := hid (show R = false by rw [ER.out, decide_eq_false a4]; simp)
          clear ER
          go_wp2_with fail
          go_ret
          exact ⟨by rw [HE.out]; rfl, HG.out⟩
      · have d3 : lev < 0 := by omega
        have HE := hid (show R = false by rw [ER.out, decide_eq_false a3]; simp)
        clear ER
        go_wp2_with fail
        go_ret
        exact ⟨by rw [HE.out]; rfl, HG.out⟩
    · have d2 : (63 : Int) < cls := by omega
      have HE := hid (show R = false by rw [ER.out, decide_eq_false a2]; simp)
      clear ER
      go_wp2_with fail
      go_ret
      exact ⟨by rw [HE.out]; rfl, HG.out⟩
  · have d1 : cls < 0 := by omega
    have HE := hid (show R = false by rw [ER.out, decide_eq_false a1]; simp)
    clear ER
    go_wp2_with fail
    go_ret
    exact ⟨by rw [HE.out]; rfl, HG.out⟩
end Go.Proofs.YtidnaednldcdfaaGreatDoor
namespace Go.Proofs.YtidnaednldcdfaaGreatDoor
open Go.RowKit

theorem rval_info : (Tryz.prog.info? 59).map (fun i => (i.zero, i.size, i.bytes)) = some (some (.agg #[.int .u8 0, .int .i64 0, .int .i64 0]), 3, 24) := by kernel_rfl
theorem robj_info : (Tryz.prog.info? 58).map (fun i => (i.zero, i.size, i.bytes)) = some (some (.agg #[.int .i64 0, .int .i64 0, .slice none 0 0, .string ⟨#[]⟩]), 4, 56) := by kernel_rfl
/-- What the reference's Put answers: the same objects, and an error's number; or other ones. -/
def RPut (w : World) (up : List Nat) (A : Option Addr) (c : Nat) (l : List OV) (i k under : Int) (v : Ob.Val) (e : Ending) (w' : World) : Prop :=
  (Ob.putCode up (objs l) i k under v ≠ 0 ∧ e = .returned (.tuple #[.slice A l.length c, .int .i64 ((Ob.putCode up (objs l) i k under v : Nat) : Int)]) ∧ Grew w w') ∨
  (Ob.putCode up (objs l) i k under v = 0 ∧ ∃ (l' : List OV) (A' : Option Addr) (c' : Nat), e = .returned (.tuple #[.slice A' l'.length c', .int .i64 0]) ∧ OwnO 58 w' w.heap.size A' c' l' ∧ objs l' = Ob.put up (objs l) i k under v ∧ Grew w w' ∧ (∀ v ∈ l', 0 < v.o.f.length → ∀ ad, v.A = some ad → w.heap.size ≤ ad.block ∨ ∃ u ∈ l, 0 < u.o.f.length ∧ u.A = some ad))
theorem rput_same {w w' : World} {up : List Nat} {A : Option Addr} {c : Nat} {l : List OV} {i k under : Int} {v : Ob.Val} (n : Nat) (hn : n = l.length) (x : Nat) (h0 : x ≠ 0) (hc : Ob.putCode up (objs l) i k under v = x) (hg : Grew w w') : RPut w up A c l i k under v (.returned (.tuple #[.slice A n c, .int .i64 ((x : Nat) : Int)])) w' :=
  .inl ⟨by rw [hc]; exact h0, by rw [hc, hn], hg⟩
/-- The fields so far. -/
def fTo (f : List Ob.Val) (b : Nat) (x : Ob.Val) (j : Nat) : List Ob.Val := (f.set b x).take j
theorem fTo_next {f : List Ob.Val} {b j : Nat} {x y : Ob.Val} (hy : f[j]? = some y) : fTo f b x (j + 1) = fTo f b x j ++ [if j = b then x else y] := by
  unfold fTo
  rw [List.take_add_one, List.getElem?_set]
  by_cases h : b = j
  · subst h
    have hl := (List.getElem?_eq_some_iff.1 hy).1
    simp [hl]
  · have h2 : ¬ j = b := fun e => h e.symm
    rw [if_neg h, hy, if_neg h2]
    rfl
/-- The objects so far. -/
def lTo (l : List Ob.Obj) (a b : Nat) (x : Ob.Val) (j : Nat) : List Ob.Obj := (l.modify a (fun o => Ob.setF o b x)).take j
theorem lTo_next {l : List Ob.Obj} {a b j : Nat} {x : Ob.Val} {o : Ob.Obj} (ho : l[j]? = some o) : lTo l a b x (j + 1) = lTo l a b x j ++ [if j = a then Ob.setF o b x else o] := by
  unfold lTo
  rw [List.take_add_one, List.getElem?_modify, ho]
  by_cases h : a = j
  · simp [h]
  · have h2 : ¬ j = a := fun e => h e.symm
    simp [h, h2]
/-- What the operations that make the new value give. -/
def RF (gx : Nat) (U : Option Addr) (un cu vk : Nat) (vn vl under jl : Int) (k : Nat) (v : Value) (_ : World) : Prop := match k with
  | 0 => v = .pointer (some ⟨gx, 0, none⟩)
  | 1 => v = .int .u8 ((vk : Nat) : Int)
  | 2 => v = .pointer (some ⟨gx, 1, none⟩)
  | 3 => v = .int .i64 vn
  | 4 => v = .slice U un cu
  | 5 => v = .pointer (some ⟨gx, 2, none⟩)
  | 6 => v = .int .i64 vl
  | 7 => v = .int .i64 under
  | 8 => v = .int .i64 jl
  | _ => v = .agg #[.int .u8 ((vk : Nat) : Int), .int .i64 vn, .int .i64 jl]
set_option maxRecDepth 100000 in
set_option maxHeartbeats 16000000 in
theorem rput_c (U : Option Addr) (cu : Nat) (up : List Nat) (A : Option Addr) (c : Nat) (l : List OV) (i k under : Int) (v : Ob.Val) (w : World) (hn : up.length ≤ 20) (hU : BytesAt w w.heap.size U up) (h : ObjsAt w A l) (hl : l.length ≤ 1000) (hf : ∀ v ∈ l, v.o.f.length ≤ 1000) (hv : ValOk v) :
    Calls Tryz.prog 56 #[.slice U up.length cu, .slice A l.length c, .int .i64 i, .int .i64 k, .int .i64 under, .agg #[.int .u8 ((v.k : Nat) : Int), .int .i64 v.n, .int .i64 v.l]] w (RPut w up A c l i k under v) := by
  have HU := hid hU
  have HN := hid hn
  have HA := hid h
  have HF := hid hf
  have HV := hid (fun W => rvalue_c up.length v W)
  obtain ⟨b1, e1⟩ : ∃ b1, b1 = Ob.valueB up.length v := ⟨_, rfl⟩
  rw [← e1] at HV
  have E1 := hid e1
  have HVo := hid hv
  obtain ⟨un, eun⟩ : ∃ un, un = up.length := ⟨_, rfl⟩
  obtain ⟨n, en⟩ : ∃ n, n = l.length := ⟨_, rfl⟩
  rw [← eun] at HV hn ⊢
  rw [← en] at hl ⊢
  have EUN := hid eun
  have EN := hid en
  clear hU h hf e1 eun en hv
  obtain ⟨vk, vn, vl⟩ := v
  simp only at HV ⊢
  have G1 := (Grew.refl w).alloc (.cells #[.int .u8 ((vk : Nat) : Int), .int .i64 vn, .int .i64 vl] 59)
  have B1 := Blk.new w 59 #[.int .u8 ((vk : Nat) : Int), .int .i64 vn, .int .i64 vl]
  go_enter Tryz.func56, Tryz.ntmps56
  go_upto_region 1 with fail
  obtain ⟨gx, egx⟩ : ∃ gx, gx = w.heap.size := ⟨_, rfl⟩
  generalize w.alloc (.cells #[.int .u8 ((vk : Nat) : Int), .int .i64 vn, .int .i64 vl] 59) = w1 at *
  rw [← egx] at B1 ⊢
  have EGX := hid egx
  have HG1 := hid G1
  have HB1 := hid B1
  have q0 := B1.cell 0
  have q1 := B1.cell 1
  have q2 := B1.cell 2
  have ql := B1.lt
  simp only [List.getElem?_toArray, List.getElem?_cons_zero, List.getElem?_cons_succ] at q0 q1 q2
  clear G1 B1 egx
  cases b1
  · have HC := hid (Ob.code_arg (up := up) (l := objs l) (i := i) (k := k) (under := under) (v := ⟨vk, vn, vl⟩) (by rw [← E1.out]; rfl))
    go_wp2_with (go_at_call 83; refine (HV.out w1).mono ?_; rintro e w2 ⟨rfl, hg2⟩)
    go_ret2
    exact rput_same n EN.out 1 (by decide) HC.out (HG1.out.trans hg2)
  · by_cases u1 : 0 ≤ under
    · have d1 : ¬ under < 0 := by omega
      by_cases u2 : under < un
      · have d2 : ¬ (un : Int) ≤ under := by omega
        have HAg := hid (show (Ob.valueB up.length ⟨vk, vn, vl⟩ && Ob.inB under ((up.length : Nat) : Int)) = true by rw [← E1.out, Ob.inB, decide_eq_true u1, decide_eq_true (by rw [← EUN.out]; exact u2)]; rfl)
        go_upto_region 3 with (go_at_call 83; refine (HV.out w1).mono ?_; rintro e w2 ⟨rfl, hg2⟩)
        have HG2 := hid (HG1.out.trans hg2)
        have HB2 := hid (HB1.out.grew hg2)
        clear q0 q1 q2 ql hg2 HB1 HG1 HV u1 u2 E1
        by_cases a1 : 0 ≤ i
        · have d3 : ¬ i < 0 := by omega
          by_cases a2 : i < n
          · have d4 : ¬ (n : Int) ≤ i := by omega
            obtain ⟨a, rfl⟩ : ∃ a : Nat, i = a := ⟨i.toNat, by omega⟩
            obtain ⟨ad, x, rfl, hx, p0, p1, p2, p3, pl, hxo⟩ := ov_get HA.out HG2.out (i := a) (by rw [← EN.out]; omega)
            have hm : x.o.f.length ≤ 1000 := HF.out x (List.mem_of_getElem? hx)
            have HXo := hid hxo
            have HX := hid hx
            clear hx hxo p0 p1 p3
            obtain ⟨m, em⟩ : ∃ m, m = x.o.f.length := ⟨_, rfl⟩
            rw [← em] at p2 hm
            have EM := hid em
            clear em
            by_cases a3 : 0 ≤ k
            · have d5 : ¬ k < 0 := by omega
              by_cases a4 : k < m
              · have d6 : ¬ (m : Int) ≤ k := by omega
                obtain ⟨b, rfl⟩ : ∃ b : Nat, k = b := ⟨k.toNat, by omega⟩
                obtain ⟨xA, exA⟩ : ∃ xA, xA = x.A := ⟨_, rfl⟩
                have HFx := hid (show ValsAt w2 xA x.o.f by rw [exA]; exact HXo.out.f)
                rw [← exA] at p2
                clear exA
                obtain ⟨ad2, y, rfl, hy, r0, r1, r2, rl, _⟩ := val_at HFx.out (Grew.refl w2) (i := b) (by rw [← EM.out]; omega)
                have HC := hid (Ob.code_leq HAg.out (objs_at HX.out) hy)
                obtain ⟨yl, eyl⟩ : ∃ yl, yl = y.l := ⟨_, rfl⟩
                rw [← eyl] at r2 HC
                have HLq := hid (rleq_c U cu up under yl w2 HN.out (HU.out.grew HG2.out))
                obtain ⟨r, er⟩ : ∃ r, r = La.rleq up under yl := ⟨_, rfl⟩
                rw [← er] at HLq HC
                rw [← EUN.out] at HLq
                clear eyl er hy r0 r1
                cases r
                · go_wp2_with (go_at_call 81; with_reducible refine HLq.out.mono ?_; rintro e w3 ⟨rfl, hw2⟩; have hw3 := hw2.symm; subst hw3)
                  go_ret2
                  exact rput_same n EN.out 11 (by decide) HC.out HG2.out
                · have HC0 := hid (show Ob.putCode up (objs l) (a : Int) (b : Int) under ⟨vk, vn, vl⟩ = 0 from HC.out)
                  go_upto_region 9 with (go_at_call 81; with_reducible refine HLq.out.mono ?_; rintro e w3 ⟨rfl, hw2⟩; have hw3 := hw2.symm; subst hw3)
                  clear p2 pl r2 rl HC HLq
                  have HB0 := hid (show w.heap.size ≤ w2.heap.size from HG2.out.below.size)
                  clear d1 d2 d3 d4 d5 d6
                  go_loopw [14, 15, 16, 17, 18, 19] (fun s14 s15 _ _ _ _ wr => ∃ (j : Nat) (A' : Option Addr) (k' : Nat) (vs : List OV), s15 = .int .i64 ((j : Nat) : Int) ∧ j ≤ n ∧ s14 = .slice A' j k' ∧ Hid (OwnO 58 wr w2.heap.size A' k' vs ∧ vs.length = j) ∧ Hid (objs vs = lTo (objs l) a b (Ob.putV up under ⟨vk, vn, vl⟩) j) ∧ Hid (Grew w2 wr) ∧ Hid (∀ v ∈ vs, 0 < v.o.f.length → ∀ ad, v.A = some ad → w.heap.size ≤ ad.block ∨ ∃ u ∈ l, 0 < u.o.f.length ∧ u.A = some ad)) (fun _ s15 _ _ _ _ _ => n - (intOf s15).toNat)
                  case atStart => exact ⟨0, none, 0, [], rfl, Nat.zero_le _, rfl, hid ⟨OwnO.nil _ _ _, rfl⟩, hid rfl, hid (Grew.refl _), hid (fun v hv => by cases hv)⟩
                  case round =>
                    obtain ⟨j, A', k', vs, rfl, hj, rfl, HR, HO, HG, HW⟩ := hrel
                    by_cases hlt : j < n
                    · have f1 : (j : Int) < n := by omega
                      obtain ⟨ad', z, e', hz, p0, p1, p2, p3, pl, hzo⟩ := ov_get HA.out (HG2.out.trans HG.out) (i := j) (by rw [← EN.out]; exact hlt)
                      cases e'
                      have HZ := hid hz
                      have HZo := hid hzo
                      have HLn := hid (lTo_next (a := a) (b := b) (x := Ob.putV up under ⟨vk, vn, vl⟩) (objs_at hz))
                      have HZl := hid (HF.out z (List.mem_of_getElem? hz))
                      clear hz hzo
                      have HBn := hid (Blk.new wr 58 #[.int .i64 z.o.cls, .int .i64 z.o.lev, .slice z.A z.o.f.length z.c, .string z.o.b])
                      have HGn := hid ((Grew.refl wr).alloc (.cells #[.int .i64 z.o.cls, .int .i64 z.o.lev, .slice z.A z.o.f.length z.c, .string z.o.b] 58))
                      obtain ⟨zb, ezb⟩ : ∃ zb, zb = z.o.b := ⟨_, rfl⟩
                      obtain ⟨zA, ezA⟩ : ∃ zA, zA = z.A := ⟨_, rfl⟩
                      obtain ⟨zc, ezc⟩ : ∃ zc, zc = z.c := ⟨_, rfl⟩
                      obtain ⟨zm, ezm⟩ : ∃ zm, zm = z.o.f.length := ⟨_, rfl⟩
                      obtain ⟨z1, ez1⟩ : ∃ z1, z1 = z.o.cls := ⟨_, rfl⟩
                      obtain ⟨z2, ez2⟩ : ∃ z2, z2 = z.o.lev := ⟨_, rfl⟩
                      rw [← ezb, ← ezA, ← ezc, ← ezm, ← ez1, ← ez2] at HBn HGn
                      rw [← ez1] at p0
                      rw [← ez2] at p1
                      rw [← ezA, ← ezm, ← ezc] at p2
                      rw [← ezb] at p3
                      have EZ := hid (And.intro ezb (And.intro ezA (And.intro ezc (And.intro ezm (And.intro ez1 ez2)))))
                      clear ezb ezA ezc ezm ez1 ez2
                      go_upto_region 12 with fail
                      clear p0 p1 p2 p3 pl
                      obtain ⟨gb, egb⟩ : ∃ gb, gb = wr.heap.size := ⟨_, rfl⟩
                      generalize wr.alloc (.cells #[.int .i64 z1, .int .i64 z2, .slice zA zm zc, .string zb] 58) = wb at *
                      rw [← egb] at HBn ⊢
                      have EGB := hid egb
                      clear egb
                      have t0 := HBn.out.cell 0
                      have t1 := HBn.out.cell 1
                      have t2 := HBn.out.cell 2
                      have t3 := HBn.out.cell 3
                      have tl := HBn.out.lt
                      simp only [List.getElem?_toArray, List.getElem?_cons_zero, List.getElem?_cons_succ] at t0 t1 t2 t3
                      have HRb := hid (HR.out.1.grew HGn.out)
                      have HLv := hid HR.out.2
                      have HGb := hid (HG.out.trans HGn.out)
                      have HGo := hid HG.out.below.size
                      have HRl := hid (fun k hk => (at_row_lt HR.out.1.row k hk).2)
                      have HRf := hid (fun v hv h0 ad e => (HR.out.1.ok v hv).blk h0 ad e)
                      rw [← EGB.out] at HRl HRf
                      clear HR HG
                      by_cases hja : j = a
                      · subst hja
                        have hb0 : ((j : Int) == (j : Int)) = true := by simp
                        obtain rfl : z = x := Option.some.inj (HZ.out.symm.trans HX.out)
                        have HLn2 := hid (show lTo (objs l) j b (Ob.putV up under ⟨vk, vn, vl⟩) (j + 1) = lTo (objs l) j b (Ob.putV up under ⟨vk, vn, vl⟩) j ++ [Ob.setF z.o b (Ob.putV up under ⟨vk, vn, vl⟩)] by rw [HLn.out, if_pos rfl])
                        obtain ⟨jl, ejl⟩ : ∃ jl, jl = La.joinOf up vl under := ⟨_, rfl⟩
                        have HXv := hid (show Ob.putV up under ⟨vk, vn, vl⟩ = ⟨vk, vn, jl⟩ by rw [ejl]; rfl)
                        have HJo := hid (fun W (hW : Grew w W) => rJoin_c U cu up vl under W HN.out (HU.out.grew hW))
                        rw [← ejl, ← EUN.out] at HJo
                        clear ejl HLn
                        rw [HXv.out] at HLn2 HO
                        have HXok : Hid (ValOk ⟨vk, vn, jl⟩) := hid (by
                          rw [← HXv.out]
                          have h1 := Bool.and_eq_true _ _ ▸ HAg.out
                          refine ⟨HVo.out.k, HVo.out.n, ?_⟩
                          show N64 (La.joinOf up vl under)
                          unfold La.joinOf
                          split
                          · unfold La.join La.find
                            rcases La.find_spec (fun x => x == (up.getD vl.toNat 0 &&& up.getD under.toNat 0)) up with ⟨h, _⟩ | ⟨q, h1, h2, _⟩
                            · unfold La.find at h; rw [h]; exact ⟨by decide, by decide⟩
                            · unfold La.find at h2; rw [h2]; have h3 := HN.out; exact ⟨by omega, by omega⟩
                          · exact ⟨by decide, by decide⟩)
                        have hzm : zm ≤ 1000 := by rw [EZ.out.2.2.2.1]; exact HZl.out
                        go_upto_region 15 with fail
                        go_loopw [17, 18, 19] (fun s17 s18 _ wq => ∃ (q : Nat) (Fa : Option Addr) (fk : Nat), s18 = .int .i64 ((q : Nat) : Int) ∧ q ≤ zm ∧ s17 = .slice Fa q fk ∧ Hid (Row wq wb.heap.size 59 3 Fa q fk ((fTo z.o.f b ⟨vk, vn, jl⟩ q).flatMap valF)) ∧ Hid (Grew wb wq)) (fun _ s18 _ _ => zm - (intOf s18).toNat)
                        case atStart => exact ⟨0, none, 0, rfl, Nat.zero_le _, rfl, hid (Row.nil _ _ _ _), hid (Grew.refl _)⟩
                        case round =>
                          obtain ⟨q, Fa, fk, rfl, hq, rfl, HFr, HQ⟩ := hrel
                          clear t0 t1 t2 t3 tl
                          have HBq := hid (HBn.out.grew HQ.out)
                          have s0 := HBq.out.cell 0
                          have s1 := HBq.out.cell 1
                          have s2 := HBq.out.cell 2
                          have s3 := HBq.out.cell 3
                          have sl := HBq.out.lt
                          have sf := HBq.out.frozen 2
                          simp only [List.getElem?_toArray, List.getElem?_cons_zero, List.getElem?_cons_succ] at s0 s1 s2 s3
                          have HGq := hid ((HG2.out.trans HGb.out).trans HQ.out)
                          by_cases hqz : q < zm
                          · have f2 : (q : Int) < zm := by omega
                            obtain ⟨ad3, y3, e3, hy3, r0, r1, r2, rl, hyok⟩ := val_at (HZo.out.f.grew (HGn.out.trans HQ.out)) (Grew.refl wr) (i := q) (by rw [← EZ.out.2.2.2.1]; exact hqz)
                            rw [← EZ.out.2.1] at e3
                            subst e3
                            have HFn := hid (fTo_next (b := b) (x := ⟨vk, vn, jl⟩) hy3)
                            clear hy3
                            obtain ⟨yk, yn, yl3⟩ := y3
                            simp only at r0 r1 r2
                            have HYn := hid (Blk.new wr 59 #[.int .u8 ((yk : Nat) : Int), .int .i64 yn, .int .i64 yl3])
                            have HYg := hid ((Grew.refl wr).alloc (.cells #[.int .u8 ((yk : Nat) : Int), .int .i64 yn, .int .i64 yl3] 59))
                            go_upto_region 18 with fail
                            clear r0 r1 r2 rl s0 s1 s2 s3 sl sf
                            obtain ⟨gy, egy⟩ : ∃ gy, gy = wr.heap.size := ⟨_, rfl⟩
                            generalize wr.alloc (.cells #[.int .u8 ((yk : Nat) : Int), .int .i64 yn, .int .i64 yl3] 59) = wy at *
                            rw [← egy] at HYn ⊢
                            have EGY := hid egy
                            clear egy
                            have y0 := HYn.out.cell 0
                            have y1 := HYn.out.cell 1
                            have y2 := HYn.out.cell 2
                            have yl := HYn.out.lt
                            have yf := HYn.out.frozen
                            simp only [List.getElem?_toArray, List.getElem?_cons_zero, List.getElem?_cons_succ] at y0 y1 y2
                            have HFy := hid (HFr.out.grew HYg.out)
                            have HQy := hid (HQ.out.trans HYg.out)
                            have HGy := hid (HGq.out.trans HYg.out)
                            have HFl := hid (fun k hk => (at_row_lt HFr.out k hk).2)
                            have HQs := hid HQ.out.below.size
                            rw [← EGY.out] at HFl HQs
                            clear HFr
                            by_cases hqb : q = b
                            · subst hqb
                              have hc0 : ((q : Int) == (q : Int)) = true := by simp
                              rw [if_pos rfl] at HFn
                              go_upto_region 19 with fail
                              refine wp_region_facts4 (w0 := wy) wy 10 10 [101, 102, 103, 104, 105, 106, 107, 108, 109, 110] [] (RF gx U un cu vk vn vl under jl) (Kept (fun _ => False)) (fun _ => Kept (fun _ => False)) (fun _ _ => True) (May.kept _) (fun _ _ _ h => h) (fun _ w => Kept.refl _ w) (by kernel_rfl) (by kernel_rfl) (Kept.refl _ _).drew trivial (fun _ _ _ _ _ _ _ _ _ h _ => h) ?_ ?_
                              · have HBx := hid (HB2.out.grew (HGb.out.trans HQy.out))
                                repeat' (first | exact trivial | apply And.intro)
                                all_goals
                                  intro a w' fl hgk hJ hfi hdep hs hA
                                  have hgw : Grew wy w' := Kept.grew hgk (Grew.refl _) (fun _ h => h.elim)
                                  have e0 := hs.eval 0 (by decide) (v := .slice U un cu) rfl
                                  have e4 := hs.eval 4 (by decide) (v := .int .i64 under) rfl
                                  have e11 := hs.eval 11 (by decide) (v := .pointer (some ⟨gx, 0, none⟩)) rfl
                                  have HGw := hid (HGy.out.trans hgw)
                                  have x0 := (HBx.out.grew hgw).cell 0
                                  have x1 := (HBx.out.grew hgw).cell 1
                                  have x2 := (HBx.out.grew hgw).cell 2
                                  have xl := (HBx.out.grew hgw).lt
                                  simp only [List.getElem?_toArray, List.getElem?_cons_zero, List.getElem?_cons_succ] at x0 x1 x2
                                  clear hs hgk hJ hfi hdep hgw
                                  simp only [Ahead, Region.binds, slotOf, RF, List.getD_cons_succ, List.getD_cons_zero, forall_const, and_true] at hA
                                  simp only [wantedD, if_true]
                                  unfold Oper.wp
                                  have ec : ∀ v, a.eval (.const v) = v := fun _ => rfl
                                  generalize hfe : a.eval = fe at *
                                  have ef : ∀ k, fe (.func k) = Act.eval ⟨#[], []⟩ (.func k) := fun k => by rw [← hfe]; rfl
                                  clear hfe
                                  first
                                    | (go_simp; exact Gives3.of rfl (Kept.refl _ _) rfl trivial)
                                    | (go_simp
                                       refine (HJo.out w' HGw.out).mono ?_
                                       rintro e w6 ⟨rfl, hw6⟩
                                       have hw7 := hw6.symm
                                       subst hw7
                                       exact Gives3.of rfl (Kept.refl _ _) rfl trivial)
                              · intro a3 w3 hgk hs hf _ _
                                have hgw : Grew wy w3 := Kept.grew hgk (Grew.refl _) (fun _ h => h.elim)
                                have h9 := hf 9 (by decide)
                                simp only [slotOf, RF, List.getD_cons_succ, List.getD_cons_zero] at h9
                                obtain ⟨fn, rfl, hft⟩ := hs.put
                                rw [hft] at h9
                                clear y0 y1 y2 yl yf
                                have HY3 := hid (HYn.out.grew hgw)
                                have y0 := HY3.out.cell 0
                                have y1 := HY3.out.cell 1
                                have y2 := HY3.out.cell 2
                                have yl := HY3.out.lt
                                have yf := HY3.out.frozen
                                simp only [List.getElem?_toArray, List.getElem?_cons_zero, List.getElem?_cons_succ] at y0 y1 y2
                                have HF3 := hid (HFy.out.grew hgw)
                                have HQ3 := hid (HQy.out.trans hgw)
                                clear hf hft hs hgw hgk HFy
                                simp only [List.drop_succ_cons, List.drop_zero, putAll, List.foldl_cons, List.foldl_nil, Act.put, List.setIfInBounds_toArray, List.set_cons_succ, List.set_cons_zero, h9]
                                clear h9
                                go_upto_region 20 with fail
                                have hw3 := kept3 (F := (· = gy)) (g := gy) (o := 0) (Kept.refl (· = gy) w3) (fun _ => rfl) (.int .u8 ((vk : Nat) : Int)) (.int .i64 vn) (.int .i64 jl)
                                have hb3 := ((HY3.out.put 0 (.int .u8 ((vk : Nat) : Int))).put 1 (.int .i64 vn)).put 2 (.int .i64 jl)
                                simp only [List.setIfInBounds_toArray, List.set_cons_succ, List.set_cons_zero] at hb3
                                simp only [Nat.zero_add] at hw3
                                have HK3 := hid hw3
                                have HB3 := hid hb3
                                clear hw3 hb3 y0 y1 y2 yl yf HY3
                                generalize ((w3.setCell ⟨gy, 0, none⟩ (.int .u8 ((vk : Nat) : Int))).setCell ⟨gy, 1, none⟩ (.int .i64 vn)).setCell ⟨gy, 2, none⟩ (.int .i64 jl) = w4 at *
                                have HF4 := hid (HF3.out.kept HK3.out (fun g hg e => by have h1 := HFl.out g ⟨_, hg, rfl⟩; omega))
                                have HQ4 := hid (HK3.out.grew HQ3.out (fun k hk => by subst hk; exact HQs.out))
                                have y0 := HB3.out.cell 0
                                have y1 := HB3.out.cell 1
                                have y2 := HB3.out.cell 2
                                have yl := HB3.out.lt
                                simp only [List.getElem?_toArray, List.getElem?_cons_zero, List.getElem?_cons_succ] at y0 y1 y2
                                clear HF3 HQ3
                                go_wp2_with (at_builtin; refine wpList_pushS (.agg #[.int .u8 0, .int .i64 0, .int .i64 0]) 3 24 w4 rfl _ _ 56 59 rfl Tryz.underlying56 rval_info rfl (by decide) wb.heap.size HQ4.out.below.size Fa q fk _ rfl HF4.out _ rfl rfl [.int .u8 ((vk : Nat) : Int), .int .i64 vn, .int .i64 jl] rfl (by intro u hu; simp only [List.mem_cons, List.not_mem_nil, or_false] at hu; rcases hu with rfl | rfl | rfl <;> rfl) (by omega) (by omega) ?_; intro F8 f8 w8 hR8 hK8 hT8; have HR8 := hid hR8; have HK8 := hid (hK8.grew HQ4.out (Row.at_base HF4.out)); clear hR8 hK8 hT8)
                                have e8 : [(⟨vk, vn, jl⟩ : Ob.Val)].flatMap valF = [.int .u8 ((vk : Nat) : Int), .int .i64 vn, .int .i64 jl] := rfl
                                refine ⟨⟨q + 1, F8, f8, by go_num, by omega, rfl, hid ?_, HK8⟩, by simp [intOf]; omega⟩
                                rw [HFn.out, List.flatMap_append, e8]
                                exact HR8.out
                            · have hc0 : ((q : Int) == (b : Int)) = false := by rw [beq_eq_false_iff_ne]; omega
                              rw [if_neg hqb] at HFn
                              clear hqb
                              go_wp2_with (at_builtin; refine wpList_pushS (.agg #[.int .u8 0, .int .i64 0, .int .i64 0]) 3 24 wy rfl _ _ 56 59 rfl Tryz.underlying56 rval_info rfl (by decide) wb.heap.size HQy.out.below.size Fa q fk _ rfl HFy.out _ rfl rfl [.int .u8 ((yk : Nat) : Int), .int .i64 yn, .int .i64 yl3] rfl (by intro u hu; simp only [List.mem_cons, List.not_mem_nil, or_false] at hu; rcases hu with rfl | rfl | rfl <;> rfl) (by omega) (by omega) ?_; intro F8 f8 w8 hR8 hK8 hT8; have HR8 := hid hR8; have HK8 := hid (hK8.grew HQy.out (Row.at_base HFy.out)); clear hR8 hK8 hT8)
                              have e8 : [(⟨yk, yn, yl3⟩ : Ob.Val)].flatMap valF = [.int .u8 ((yk : Nat) : Int), .int .i64 yn, .int .i64 yl3] := rfl
                              refine ⟨⟨q + 1, F8, f8, by go_num, by omega, rfl, hid ?_, HK8⟩, by simp [intOf]; omega⟩
                              rw [HFn.out, List.flatMap_append, e8]
                              exact HR8.out
                          · have hqm : q = zm := by omega
                            subst hqm
                            have HFe := hid (show fTo z.o.f b ⟨vk, vn, jl⟩ q = z.o.f.set b ⟨vk, vn, jl⟩ by rw [fTo, EZ.out.2.2.2.1, List.take_of_length_le (by rw [List.length_set]; exact Nat.le_refl _)])
                            rw [HFe.out] at HFr
                            go_upto_region 22 with fail
                            clear s0 s1 s2 s3 sl sf
                            have HK9 := hid ((Kept.refl (· = gb) wr).setCell (p := ⟨gb, 2, none⟩) (fun _ => rfl) (.slice Fa q fk))
                            have HB9 := hid (HBq.out.put 2 (.slice Fa q fk))
                            generalize wr.setCell ⟨gb, 2, none⟩ (.slice Fa q fk) = w9 at *
                            simp only [List.setIfInBounds_toArray, List.set_cons_succ, List.set_cons_zero] at HB9
                            have s0 := HB9.out.cell 0
                            have s1 := HB9.out.cell 1
                            have s2 := HB9.out.cell 2
                            have s3 := HB9.out.cell 3
                            have sl := HB9.out.lt
                            simp only [List.getElem?_toArray, List.getElem?_cons_zero, List.getElem?_cons_succ] at s0 s1 s2 s3
                            have HGs := hid HBn.out.lt
                            have HR9 := hid ((HRb.out.grew HQ.out).kept HK9.out (fun k hk e => by have h1 := HRl.out k hk; omega) (fun v hv h0 ad e e2 => by have h1 := HRf.out v hv h0 ad e; omega))
                            have HFr9 := hid (HFr.out.kept HK9.out (fun g hg e => by have h1 := Row.at_base HFr.out g ⟨_, hg, rfl⟩; have h2 := HGs.out; omega))
                            have HQ9 := hid (HK9.out.grew (HGb.out.trans HQ.out) (fun k hk => by subst hk; rw [EGB.out]; exact HGo.out))
                            have HSl := hid (show (z.o.f.set b ⟨vk, vn, jl⟩).length = q by rw [List.length_set, EZ.out.2.2.2.1])
                            have HY : Hid (OvOk w9 ⟨Ob.setF z.o b ⟨vk, vn, jl⟩, Fa, fk⟩) := hid ⟨row_vals HFr9.out HSl.out.symm (fun x hx => by
                              rcases List.mem_or_eq_of_mem_set hx with hx | rfl
                              · exact HZo.out.f.1 x hx
                              · exact HXok.out), HZo.out.cls, HZo.out.lev, by
                              show (z.o.f.set b ⟨vk, vn, jl⟩).length ≤ fk
                              rw [HSl.out]
                              exact HFr9.out.cases.2.1⟩
                            have HAp : Hid (0 < (Ob.setF z.o b ⟨vk, vn, jl⟩).f.length → ∀ a, Fa = some a → ¬ AtRow A' a.block) := hid (fun _ a ea hk => by
                              have h1 := Row.at_base HFr.out a.block ⟨a, ea, rfl⟩
                              have h2 := HRl.out _ hk
                              have h3 := HGs.out
                              omega)
                            have HEq := hid (show ovF ⟨Ob.setF z.o b ⟨vk, vn, jl⟩, Fa, fk⟩ = [.int .i64 z1, .int .i64 z2, .slice Fa q fk, .string zb] by
                              rw [EZ.out.1, EZ.out.2.2.2.2.1, EZ.out.2.2.2.2.2, ← HSl.out]; rfl)
                            clear HFr HBq HK9
                            go_wp2_with (at_builtin; refine wpList_pushS (.agg #[.int .i64 0, .int .i64 0, .slice none 0 0, .string ⟨#[]⟩]) 4 56 w9 rfl _ _ 114 58 rfl Tryz.underlying114 robj_info rfl (by decide) w2.heap.size HQ9.out.below.size A' j k' _ rfl (by have h1 := HR9.out.row; rw [HLv.out] at h1; exact h1) _ rfl rfl [.int .i64 z1, .int .i64 z2, .slice Fa q fk, .string zb] rfl (by intro u hu; simp only [List.mem_cons, List.not_mem_nil, or_false] at hu; rcases hu with rfl | rfl | rfl | rfl <;> rfl) (by omega) (by omega) ?_; intro A8 k8 w8 hR8 hK8 hT8; have HR8 := hid hR8; have HK8 := hid hK8; have HT8 := hid hT8; clear hR8 hK8 hT8)
                            refine ⟨⟨j + 1, A8, k8, vs ++ [⟨Ob.setF z.o b ⟨vk, vn, jl⟩, Fa, fk⟩], by go_num, by omega, rfl, hid ⟨?_, ?_⟩, hid ?_, hid ?_, hid ?_⟩, by simp [intOf]; omega⟩
                            · exact HR9.out.app (by rw [HEq.out, HLv.out]; exact HR8.out) HK8.out HT8.out HY.out HAp.out
                            · rw [List.length_append, HLv.out]; rfl
                            · rw [HXv.out, objs_snoc, HO.out, HLn2.out]
                            · exact HK8.out.grew HQ9.out (Row.at_base HR9.out.row)
                            · intro v hv h0 ad e
                              rcases List.mem_append.1 hv with hv | hv
                              · exact HW.out v hv h0 ad e
                              · obtain rfl := List.mem_singleton.1 hv
                                have h1 := Row.at_base HFr9.out ad.block ⟨ad, e, rfl⟩
                                have h2 := HGb.out.below.size
                                have h3 := HB0.out
                                exact .inl (by omega)
                      · have hb0 : ((j : Int) == (a : Int)) = false := by rw [beq_eq_false_iff_ne]; omega
                        have HLn2 := hid (show lTo (objs l) a b (Ob.putV up under ⟨vk, vn, vl⟩) (j + 1) = lTo (objs l) a b (Ob.putV up under ⟨vk, vn, vl⟩) j ++ [z.o] by rw [HLn.out, if_neg hja])
                        have HY : Hid (OvOk wb z) := hid (HZo.out.grew HGn.out)
                        have HAp : Hid (0 < z.o.f.length → ∀ q, z.A = some q → ¬ AtRow A' q.block) := hid (fun h0 q eq hk => by
                          have h1 := (HA.out.ok z (List.mem_of_getElem? HZ.out)).blk h0 q eq
                          have h2 := (at_row_lt HRb.out.row _ hk).1
                          have h3 := HB0.out
                          omega)
                        clear hja
                        go_wp2_with (at_builtin; refine wpList_pushS (.agg #[.int .i64 0, .int .i64 0, .slice none 0 0, .string ⟨#[]⟩]) 4 56 wb rfl _ _ 114 58 rfl Tryz.underlying114 robj_info rfl (by decide) w2.heap.size HGb.out.below.size A' j k' _ rfl (by have h1 := HRb.out.row; rw [HLv.out] at h1; exact h1) _ rfl rfl [.int .i64 z1, .int .i64 z2, .slice zA zm zc, .string zb] rfl (by intro u hu; simp only [List.mem_cons, List.not_mem_nil, or_false] at hu; rcases hu with rfl | rfl | rfl | rfl <;> rfl) (by omega) (by omega) ?_; intro A8 k8 w8 hR8 hK8 hT8; have HR8 := hid hR8; have HK8 := hid hK8; have HT8 := hid hT8; clear hR8 hK8 hT8)
                        have HEq := hid (show ovF z = [.int .i64 z1, .int .i64 z2, .slice zA zm zc, .string zb] by rw [EZ.out.1, EZ.out.2.1, EZ.out.2.2.1, EZ.out.2.2.2.1, EZ.out.2.2.2.2.1, EZ.out.2.2.2.2.2]; rfl)
                        refine ⟨⟨j + 1, A8, k8, vs ++ [z], by go_num, by omega, rfl, hid ⟨?_, ?_⟩, hid ?_, hid ?_, hid ?_⟩, by simp [intOf]; omega⟩
                        · exact HRb.out.app (by rw [HEq.out, HLv.out]; exact HR8.out) HK8.out HT8.out HY.out HAp.out
                        · rw [List.length_append, HLv.out]; rfl
                        · rw [objs_snoc, HO.out, HLn2.out]
                        · exact HK8.out.grew HGb.out (Row.at_base HRb.out.row)
                        · intro v hv h0 ad e
                          rcases List.mem_append.1 hv with hv | hv
                          · exact HW.out v hv h0 ad e
                          · obtain rfl := List.mem_singleton.1 hv
                            exact .inr ⟨v, List.mem_of_getElem? HZ.out, h0, e⟩
                    · have hjn : j = n := by omega
                      subst hjn
                      have HE := hid (show objs vs = Ob.put up (objs l) (a : Int) (b : Int) under ⟨vk, vn, vl⟩ by
                        rw [HO.out, Ob.put_at HC0.out, lTo, List.take_of_length_le (by rw [List.length_modify, objs_len, ← EN.out]; exact Nat.le_refl _)])
                      go_wp2_with fail
                      go_ret2
                      exact .inr ⟨HC0.out, vs, A', k', by rw [HR.out.2]; rfl, HR.out.1.low HB0.out, HE.out, HG2.out.trans HG.out, HW.out⟩
              · have d6 : (m : Int) ≤ k := by omega
                have HC := hid (Ob.code_field HAg.out (objs_at HX.out) (k := k) (by rw [← EM.out, Ob.inB, decide_eq_false a4, Bool.and_false]))
                go_wp2_with fail
                go_ret2
                exact rput_same n EN.out 3 (by decide) HC.out HG2.out
            · have d5 : k < 0 := by omega
              have HC := hid (Ob.code_field HAg.out (objs_at HX.out) (k := k) (by rw [Ob.inB, decide_eq_false a3, Bool.false_and]))
              go_wp2_with fail
              go_ret2
              exact rput_same n EN.out 3 (by decide) HC.out HG2.out
          · have d4 : (n : Int) ≤ i := by omega
            have HC := hid (Ob.code_obj (l := objs l) (i := i) (k := k) HAg.out (by rw [objs_len, ← EN.out, Ob.inB, decide_eq_false a2, Bool.and_false]))
            go_wp2_with fail
            go_ret2
            exact rput_same n EN.out 3 (by decide) HC.out HG2.out
        · have d3 : i < 0 := by omega
          have HC := hid (Ob.code_obj (l := objs l) (i := i) (k := k) HAg.out (by rw [Ob.inB, decide_eq_false a1, Bool.false_and]))
          go_wp2_with fail
          go_ret2
          exact rput_same n EN.out 3 (by decide) HC.out HG2.out
      · have d2 : (un : Int) ≤ under := by omega
        have HC := hid (Ob.code_arg (up := up) (l := objs l) (i := i) (k := k) (under := under) (v := ⟨vk, vn, vl⟩) (by rw [Ob.inB, ← EUN.out, decide_eq_false u2, Bool.and_false, Bool.and_false]))
        go_wp2_with (go_at_call 83; refine (HV.out w1).mono ?_; rintro e w2 ⟨rfl, hg2⟩)
        go_ret2
        exact rput_same n EN.out 1 (by decide) HC.out (HG1.out.trans hg2)
    · have d1 : under < 0 := by omega
      have HC := hid (Ob.code_arg (up := up) (l := objs l) (i := i) (k := k) (under := under) (v := ⟨vk, vn, vl⟩) (by rw [Ob.inB, decide_eq_false u1, Bool.false_and, Bool.and_false]))
      go_wp2_with (go_at_call 83; refine (HV.out w1).mono ?_; rintro e w2 ⟨rfl, hg2⟩)
      go_ret2
      exact rput_same n EN.out 1 (by decide) HC.out (HG1.out.trans hg2)
end Go.Proofs.YtidnaednldcdfaaGreatDoor
namespace Go.Proofs.YtidnaednldcdfaaGreatDoor
open Go.RowKit

set_option maxRecDepth 100000 in
set_option maxHeartbeats 4000000 in
theorem isObj_c (o : Ob.Obj) (A1 : Option Addr) (c1 : Nat) (A2 : Option Addr) (c2 : Nat) (w : World) (h1 : ValsAt w A1 o.f) (h2 : ValsAt w A2 o.f) (hl : o.f.length ≤ 1000) :
    Calls Tryz.prog 26 #[.agg #[.int .i64 o.cls, .int .i64 o.lev, .slice A1 o.f.length c1, .string o.b], .agg #[.int .i64 o.cls, .int .i64 o.lev, .slice A2 o.f.length c2, .string o.b]] w fun e w' => e = .returned (.bool true) ∧ Grew w w' := by
  obtain ⟨cls, lev, f, b⟩ := o
  have H1 := hid h1
  have H2 := hid h2
  simp only at H1 H2 hl ⊢
  obtain ⟨m, em⟩ : ∃ m, m = f.length := ⟨_, rfl⟩
  rw [← em] at hl ⊢
  have EM := hid em
  clear h1 h2 em
  have G1 := (Grew.refl w).alloc (.cells #[.int .i64 cls, .int .i64 lev, .slice A1 m c1, .string b] 30)
  have G2 := G1.alloc (.cells #[.int .i64 cls, .int .i64 lev, .slice A2 m c2, .string b] 58)
  have B1 := (Blk.new w 30 #[.int .i64 cls, .int .i64 lev, .slice A1 m c1, .string b]).grew ((Grew.refl _).alloc (.cells #[.int .i64 cls, .int .i64 lev, .slice A2 m c2, .string b] 58))
  have B2 := Blk.new (w.alloc (.cells #[.int .i64 cls, .int .i64 lev, .slice A1 m c1, .string b] 30)) 58 #[.int .i64 cls, .int .i64 lev, .slice A2 m c2, .string b]
  have e1 : (w.alloc (.cells #[.int .i64 cls, .int .i64 lev, .slice A1 m c1, .string b] 30)).heap.size = w.heap.size + 1 := World.size_alloc _ _
  rw [e1] at B2
  clear G1 e1
  go_enter Tryz.func26, Tryz.ntmps26
  go_upto_region 1 with fail
  generalize (w.alloc (.cells #[.int .i64 cls, .int .i64 lev, .slice A1 m c1, .string b] 30)).alloc (.cells #[.int .i64 cls, .int .i64 lev, .slice A2 m c2, .string b] 58) = w1 at *
  generalize w.heap.size = g at *
  have HG := hid G2
  have HB1 := hid B1
  have HB2 := hid B2
  have q0 := B1.cell 0
  have q1 := B1.cell 1
  have q2 := B1.cell 2
  have q3 := B1.cell 3
  have ql := B1.lt
  have p0 := B2.cell 0
  have p1 := B2.cell 1
  have p2 := B2.cell 2
  have p3 := B2.cell 3
  have pl := B2.lt
  simp only [List.getElem?_toArray, List.getElem?_cons_zero, List.getElem?_cons_succ] at q0 q1 q2 q3 p0 p1 p2 p3
  clear G2 B1 B2
  go_upto_region 4 with fail
  go_loopw [5] (fun s5 wr => ∃ i : Nat, s5 = .int .i64 ((i : Nat) : Int) ∧ i ≤ m ∧ Hid (Grew w1 wr)) (fun s5 _ => m - (intOf s5).toNat)
  case atStart => exact ⟨0, rfl, Nat.zero_le _, hid (Grew.refl _)⟩
  case round =>
    obtain ⟨i, rfl, hi, HW⟩ := hrel
    have HC1 := hid (HB1.out.grew HW.out)
    have HC2 := hid (HB2.out.grew HW.out)
    clear q0 q1 q2 q3 ql p0 p1 p2 p3 pl
    have r2 := HC2.out.cell 2
    have rl := HC2.out.lt
    simp only [List.getElem?_toArray, List.getElem?_cons_zero, List.getElem?_cons_succ] at r2
    by_cases hlt : i < m
    · have f1 : (i : Int) < m := by omega
      obtain ⟨ad, x, rfl, hx, u0, u1, u2, hb, _⟩ := val_at H1.out (HG.out.trans HW.out) (i := i) (by rw [← EM.out]; exact hlt)
      obtain ⟨ad2, x2, rfl, hx2, v0, v1, v2, hb2, _⟩ := val_at H2.out (HG.out.trans HW.out) (i := i) (by rw [← EM.out]; exact hlt)
      rw [hx] at hx2
      obtain rfl := Option.some.inj hx2
      clear hx hx2
      obtain ⟨k, z, l⟩ := x
      simp only at u0 u1 u2 v0 v1 v2
      go_upto_region 6 with fail
      have U0 := fun (y : After wr) => (y.cell (ad.add (i * 3)) (by rw [block_add]; exact hb)).trans u0
      have U1 := fun (y : After wr) => (y.cell ⟨ad.block, (ad.add (i * 3)).off + 1, none⟩ hb).trans u1
      have U2 := fun (y : After wr) => (y.cell ⟨ad.block, (ad.add (i * 3)).off + 2, none⟩ hb).trans u2
      have V0 := fun (y : After wr) => (y.cell (ad2.add (i * 3)) (by rw [block_add]; exact hb2)).trans v0
      have V1 := fun (y : After wr) => (y.cell ⟨ad2.block, (ad2.add (i * 3)).off + 1, none⟩ hb2).trans v1
      have V2 := fun (y : After wr) => (y.cell ⟨ad2.block, (ad2.add (i * 3)).off + 2, none⟩ hb2).trans v2
      have L1 := fun (y : After wr) => y.lt _ hb
      have L2 := fun (y : After wr) => y.lt _ hb2
      have M2 := fun (y : After wr) => (HC1.out.grew y.grew).cell 2
      have M3 := fun (y : After wr) => (HC1.out.grew y.grew).lt
      have N2 := fun (y : After wr) => (HC2.out.grew y.grew).cell 2
      have N3 := fun (y : After wr) => (HC2.out.grew y.grew).lt
      simp only [List.getElem?_toArray, List.getElem?_cons_zero, List.getElem?_cons_succ] at M2 N2
      refine wp_region_grew_from (w0 := wr) (Grew.refl wr) (by kernel_rfl) (by kernel_rfl) ?_
      repeat (go_big_quiet_step (fail))
      refine wpQuiet_nil ?_
      rintro _ ⟨y, rfl⟩
      clear U0 U1 U2 V0 V1 V2 L1 L2 M2 M3 N2 N3
      go_wp2_with fail
      go_round
      case rel => exact ⟨i + 1, by go_num, by omega, hid (HW.out.trans y.grew)⟩
      case measure => simp [intOf]; omega
    · have hin : i = m := by omega
      subst hin
      go_wp2_with fail
      go_ret
      exact ⟨rfl, HG.out.trans HW.out⟩
end Go.Proofs.YtidnaednldcdfaaGreatDoor

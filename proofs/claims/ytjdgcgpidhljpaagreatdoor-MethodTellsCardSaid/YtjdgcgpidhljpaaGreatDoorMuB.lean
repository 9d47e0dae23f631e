/- Stage 9, the document's own: small, sign, Arity. -/
import Derived.Test.YtjdgcgpidhljpaaGreatDoorMuA
import Derived.Test.YtjdgcgpidhljpaaGreatDoorYNum
import Derived.Test.YtjdgcgpidhljpaaGreatDoorYLgM
import Derived.Test.YtjdgcgpidhljpaaGreatDoorYRfB
import Derived.BigQuiet
namespace Go.Proofs.YtjdgcgpidhljpaaGreatDoor
open Go.RowKit

theorem rsmall_c (x : Nat) (w : World) : Calls Tryz.prog 74 #[.int .u8 ((x : Nat) : Int)] w fun e w' => e = .returned (.bool (Mt.small x)) ∧ w' = w := by
  unfold Mt.small
  by_cases h1 : 97 ≤ x
  · have t1 : (97 : Int) ≤ ((x : Nat) : Int) := by omega
    by_cases h2 : x ≤ 122
    · have t2 : ((x : Nat) : Int) ≤ 122 := by omega
      rw [show (decide (97 ≤ x) && decide (x ≤ 122)) = true by rw [decide_eq_true h1, decide_eq_true h2]; rfl]
      go_enter Tryz.func74, Tryz.ntmps74
      go_wp2_with fail
      go_ret
      exact ⟨rfl, rfl⟩
    · have t2 : ¬ ((x : Nat) : Int) ≤ 122 := by omega
      rw [show (decide (97 ≤ x) && decide (x ≤ 122)) = false by rw [decide_eq_false h2, Bool.and_false]]
      go_enter Tryz.func74, Tryz.ntmps74
      go_wp2_with fail
      go_ret
      exact ⟨rfl, rfl⟩
  · have t1 : ¬ (97 : Int) ≤ ((x : Nat) : Int) := by omega
    rw [show (decide (97 ≤ x) && decide (x ≤ 122)) = false by rw [decide_eq_false h1, Bool.false_and]]
    go_enter Tryz.func74, Tryz.ntmps74
    go_wp2_with fail
    go_ret
    exact ⟨rfl, rfl⟩
theorem sign_mem {x : Nat} (i : Nat) (h : Mt.signs[i]? = some x) : Mt.sign x = true := by
  unfold Mt.sign
  rw [List.contains_iff_mem]
  exact List.mem_of_getElem? h
theorem sign_none {x : Nat} (h : ∀ i, i < 10 → Mt.signs[i]? ≠ some x) : Mt.sign x = false := by
  cases hs : Mt.sign x
  · rfl
  · unfold Mt.sign at hs
    rw [List.contains_iff_mem] at hs
    obtain ⟨i, hi, e⟩ := List.mem_iff_getElem.1 hs
    exact absurd (by rw [List.getElem?_eq_getElem hi, e]) (h i hi)
set_option maxHeartbeats 2000000 in
theorem rsign_c (x : Nat) (w : World) : Calls Tryz.prog 73 #[.int .u8 ((x : Nat) : Int)] w fun e w' => e = .returned (.bool (Mt.sign x)) ∧ w' = w := by
  go_enter Tryz.func73, Tryz.ntmps73
  go_wp2_with fail
  go_loopw [4] (fun s4 wr => ∃ i : Nat, s4 = .int .i64 ((i : Nat) : Int) ∧ i ≤ 10 ∧ Hid (∀ j, j < i → Mt.signs[j]? ≠ some x) ∧ wr = w) (fun s4 _ => 10 - (intOf s4).toNat)
  case atStart => exact ⟨0, rfl, Nat.zero_le _, hid (fun j hj => absurd hj (Nat.not_lt_zero j)), rfl⟩
  case round =>
    obtain ⟨i, rfl, hi, HN, rfl⟩ := hrel
    by_cases hlt : i < 10
    · have hlt' : (i : Int) < 10 := by omega
      have hb := Lg.bytes_at ⟨#[43, 45, 42, 47, 92, 60, 62, 61, 126, 44]⟩ i hlt
      obtain ⟨c, hc⟩ : ∃ c, Mt.signs[i]? = some c := ⟨_, List.getElem?_eq_getElem hlt⟩
      rw [show (Lg.bytes ⟨#[43, 45, 42, 47, 92, 60, 62, 61, 126, 44]⟩).getD i 0 = c by
        rw [List.getD_eq_getElem?_getD, show Lg.bytes ⟨#[43, 45, 42, 47, 92, 60, 62, 61, 126, 44]⟩ = Mt.signs from rfl, hc]; rfl] at hb
      have HC := hid hc
      clear hc
      by_cases hx : x = c
      · have HY := hid (sign_mem i (by rw [HC.out, hx]) : Mt.sign x = true)
        subst hx
        go_wp2_with fail
        go_ret
        exact ⟨congrArg (fun z => Ending.returned (.bool z)) HY.out.symm, rfl⟩
      · have HS : Hid (∀ j, j < i + 1 → Mt.signs[j]? ≠ some x) := hid (fun j hj e => by
          rcases Nat.lt_or_ge j i with h | h
          · exact HN.out j h e
          · obtain rfl : j = i := by omega
            rw [HC.out] at e
            exact hx (Option.some.inj e).symm)
        have f1 : ¬ ((c : Nat) : Int) = ((x : Nat) : Int) := by omega
        go_wp2_with fail
        go_round
        case rel => exact ⟨i + 1, by go_num, by omega, HS, trivial⟩
        case measure => simp [intOf]; omega
    · obtain rfl : i = 10 := by omega
      have HS := hid (sign_none HN.out)
      go_wp2_with fail
      go_ret
      exact ⟨congrArg (fun z => Ending.returned (.bool z)) HS.out.symm, rfl⟩
/-- What the document's Arity answers. -/
def RArPost (w : World) (r : Option Nat) (e : Ending) (w' : World) : Prop := ∃ k : Int, e = .returned (.tuple #[.int .i64 k, .bool r.isSome]) ∧ (∀ n, r = some n → k = ((n : Nat) : Int)) ∧ w' = w
theorem RArPost.none {w : World} {r : Option Nat} {k : Int} (h : r = none) : RArPost w r (.returned (.tuple #[.int .i64 k, .bool false])) w := ⟨k, by rw [h]; rfl, (fun n hn => by rw [h] at hn; cases hn), rfl⟩
theorem RArPost.some {w : World} {r : Option Nat} {n : Nat} {k : Int} (h : r = some n) (hk : k = ((n : Nat) : Int)) : RArPost w r (.returned (.tuple #[.int .i64 k, .bool true])) w := ⟨k, by rw [h]; rfl, (fun m hm => by rw [h] at hm; rw [hk, Option.some.inj hm]), rfl⟩
set_option maxRecDepth 100000 in
set_option maxHeartbeats 4000000 in
theorem rarity_c (s : ByteArray) (w : World) : Calls Tryz.prog 36 #[.string s] w (RArPost w (Mt.arity (Lg.bytes s))) := by
  have HLen := hid (Lg.bytes_len s)
  by_cases h1 : s.size < 1
  · have HN := hid (show Mt.arity (Lg.bytes s) = none by
      have : Lg.bytes s = [] := List.length_eq_zero_iff.1 (by rw [HLen.out]; omega)
      rw [this]; rfl)
    have f1 : (s.size : Int) < 1 := by omega
    go_enter Tryz.func36, Tryz.ntmps36
    go_wp2_with fail
    go_ret2
    exact RArPost.none HN.out
  · have f1 : ¬ (s.size : Int) < 1 := by omega
    by_cases h64 : 64 < s.size
    · have HN := hid (show Mt.arity (Lg.bytes s) = none by unfold Mt.arity; rw [if_pos (by rw [HLen.out]; exact h64)])
      have f2 : (64 : Int) < (s.size : Int) := by omega
      go_enter Tryz.func36, Tryz.ntmps36
      go_wp2_with fail
      go_ret2
      exact RArPost.none HN.out
    · have f2 : ¬ (64 : Int) < (s.size : Int) := by omega
      have hs0 : 0 < s.size := by omega
      have f0 : (0 : Int) < (s.size : Int) := by omega
      have hb0 := Lg.bytes_at s 0 hs0
      obtain ⟨c, r, hcr⟩ : ∃ c r, Lg.bytes s = c :: r := by
        cases h : Lg.bytes s with
        | nil => have := HLen.out; rw [h, List.length_nil] at this; omega
        | cons c r => exact ⟨c, r, rfl⟩
      rw [hcr, List.getD_cons_zero] at hb0
      have hl : (c :: r).length ≤ 64 := by rw [← hcr, HLen.out]; omega
      have HCall := hid (rsign_c c w)
      cases hsg : Mt.sign c
      · rw [hsg] at HCall
        have HA := hid (show Mt.arity (Lg.bytes s) = Mt.told (Mt.scan (Lg.bytes s) 0 true) by rw [hcr]; exact Mt.arity_scan hsg hl)
        obtain ⟨R, hR⟩ : ∃ R, R = Mt.scan (Lg.bytes s) 0 true := ⟨_, rfl⟩
        rw [← hR] at HA
        have HR := hid hR
        clear hR
        clear hcr hl hsg
        go_enter Tryz.func36, Tryz.ntmps36
        go_wp2_with fail
        refine HCall.out.mono ?_
        rintro e w1 ⟨rfl, rfl⟩
        clear hb0
        go_wp2_with fail
        go_loopw [5, 6, 7, 8] (fun s5 s6 s7 _ wr => ∃ (n i : Nat) (f : Bool), s5 = .int .i64 ((n : Nat) : Int) ∧ s6 = .bool f ∧ s7 = .int .i64 ((i : Nat) : Int) ∧ i ≤ s.size ∧ n ≤ i ∧ Hid (Mt.scan ((Lg.bytes s).drop i) n f = R) ∧ wr = w1) (fun _ _ s7 _ _ => s.size - (intOf s7).toNat)
        case atStart => exact ⟨0, 0, true, rfl, rfl, rfl, Nat.zero_le _, Nat.le_refl _, hid HR.out.symm, rfl⟩
        case round =>
          obtain ⟨n, i, f, rfl, rfl, rfl, hi, hni, HS, rfl⟩ := hrel
          by_cases hlt : i < s.size
          · have hlt' : (i : Int) < (s.size : Int) := by omega
            have hb := Lg.bytes_at s i hlt
            have hdr : (Lg.bytes s).drop i = (Lg.bytes s).getD i 0 :: (Lg.bytes s).drop (i + 1) := by
              rw [List.drop_eq_getElem_cons (by rw [HLen.out]; exact hlt), List.getD_eq_getElem?_getD, List.getElem?_eq_getElem (by rw [HLen.out]; exact hlt)]
              rfl
            have HS' := HS.out
            rw [hdr] at HS'
            generalize (Lg.bytes s).getD i 0 = x at hb HS'
            clear hdr
            have HSm := hid (rsmall_c x wr)
            cases f
            · unfold Mt.scan at HS'
              by_cases h58 : x = 58
              · rw [if_pos h58] at HS'
                have HS2 := hid HS'
                subst h58
                clear HS'
                go_wp2_with fail
                go_round
                case rel => exact ⟨n + 1, i + 1, true, by go_num, rfl, by go_num, by omega, by omega, HS2, trivial⟩
                case measure => simp [intOf]; omega
              · have f5 : ¬ ((x : Nat) : Int) = 58 := by omega
                rw [if_neg h58] at HS'
                unfold Mt.letter Mt.capital Mt.digit at HS'
                cases hsm : Mt.small x
                · rw [hsm] at HSm HS'
                  by_cases hc : 65 ≤ x ∧ x ≤ 90
                  · obtain ⟨c1, c2⟩ := hc
                    rw [decide_eq_true c1, decide_eq_true c2] at HS'
                    have HS2 := hid HS'
                    have g1 : ¬ ((x : Nat) : Int) < 65 := by omega
                    have g2 : ¬ (90 : Int) < ((x : Nat) : Int) := by omega
                    clear HS' hsm
                    go_wp2_with fail
                    refine HSm.out.mono ?_
                    rintro e w1 ⟨rfl, rfl⟩
                    go_wp2_with fail
                    go_round
                    case rel => exact ⟨n, i + 1, false, rfl, rfl, by go_num, by omega, by omega, HS2, trivial⟩
                    case measure => simp [intOf]; omega
                  · have hcap : (decide (65 ≤ x) && decide (x ≤ 90)) = false := by
                      rw [Bool.and_eq_false_iff, decide_eq_false_iff_not, decide_eq_false_iff_not]; omega
                    by_cases hd : 48 ≤ x ∧ x ≤ 57
                    · obtain ⟨c1, c2⟩ := hd
                      rw [hcap, decide_eq_true c1, decide_eq_true c2] at HS'
                      have HS2 := hid HS'
                      have g1 : ((x : Nat) : Int) < 65 := by omega
                      have g3 : ¬ ((x : Nat) : Int) < 48 := by omega
                      have g4 : ¬ (57 : Int) < ((x : Nat) : Int) := by omega
                      clear HS' hsm hcap hc
                      go_wp2_with fail
                      refine HSm.out.mono ?_
                      rintro e w1 ⟨rfl, rfl⟩
                      go_wp2_with fail
                      go_round
                      case rel => exact ⟨n, i + 1, false, rfl, rfl, by go_num, by omega, by omega, HS2, trivial⟩
                      case measure => simp [intOf]; omega
                    · have hdig : (decide (48 ≤ x) && decide (x ≤ 57)) = false := by
                        rw [Bool.and_eq_false_iff, decide_eq_false_iff_not, decide_eq_false_iff_not]; omega
                      rw [hcap, hdig] at HS'
                      have HN := hid (show Mt.arity (Lg.bytes s) = none by rw [HA.out, ← HS']; rfl)
                      clear HS' hsm hcap hdig
                      rcases (show x < 48 ∨ (57 < x ∧ x < 65) ∨ 90 < x by omega) with h | ⟨h, h'⟩ | h
                      · have g1 : ((x : Nat) : Int) < 65 := by omega
                        have g2 : ((x : Nat) : Int) < 48 := by omega
                        go_wp2_with fail
                        refine HSm.out.mono ?_
                        rintro e w1 ⟨rfl, rfl⟩
                        go_wp2_with fail
                        go_ret2
                        exact RArPost.none HN.out
                      · have g1 : ((x : Nat) : Int) < 65 := by omega
                        have g2 : ¬ ((x : Nat) : Int) < 48 := by omega
                        have g3 : (57 : Int) < ((x : Nat) : Int) := by omega
                        go_wp2_with fail
                        refine HSm.out.mono ?_
                        rintro e w1 ⟨rfl, rfl⟩
                        go_wp2_with fail
                        go_ret2
                        exact RArPost.none HN.out
                      · have g1 : ¬ ((x : Nat) : Int) < 65 := by omega
                        have g2 : (90 : Int) < ((x : Nat) : Int) := by omega
                        have g3 : ¬ ((x : Nat) : Int) < 48 := by omega
                        have g4 : (57 : Int) < ((x : Nat) : Int) := by omega
                        go_wp2_with fail
                        refine HSm.out.mono ?_
                        rintro e w1 ⟨rfl, rfl⟩
                        go_wp2_with fail
                        go_ret2
                        exact RArPost.none HN.out
                · rw [hsm] at HSm HS'
                  have HS2 := hid HS'
                  clear HS' hsm
                  go_wp2_with fail
                  refine HSm.out.mono ?_
                  rintro e w1 ⟨rfl, rfl⟩
                  go_wp2_with fail
                  go_round
                  case rel => exact ⟨n, i + 1, false, rfl, rfl, by go_num, by omega, by omega, HS2, trivial⟩
                  case measure => simp [intOf]; omega
            · unfold Mt.scan at HS'
              cases hsm : Mt.small x
              · rw [hsm] at HSm HS'
                have HN := hid (show Mt.arity (Lg.bytes s) = none by rw [HA.out, ← HS']; rfl)
                clear HS' hsm
                go_wp2_with fail
                refine HSm.out.mono ?_
                rintro e w1 ⟨rfl, rfl⟩
                go_wp2_with fail
                go_ret2
                exact RArPost.none HN.out
              · rw [hsm] at HSm HS'
                have HS2 := hid HS'
                clear HS' hsm
                go_wp2_with fail
                refine HSm.out.mono ?_
                rintro e w1 ⟨rfl, rfl⟩
                go_wp2_with fail
                go_round
                case rel => exact ⟨n, i + 1, false, rfl, rfl, by go_num, by omega, by omega, HS2, trivial⟩
                case measure => simp [intOf]; omega
          · obtain rfl : i = s.size := by omega
            have hA := HA.out
            rw [← HS.out, List.drop_eq_nil_of_le (by rw [HLen.out]; exact Nat.le_refl _)] at hA
            unfold Mt.scan at hA
            cases n with
            | zero =>
              have HN := hid (show Mt.arity (Lg.bytes s) = some 0 from hA)
              clear hA HS
              go_wp2_with fail
              go_ret2
              exact RArPost.some HN.out rfl
            | succ n =>
              have g0 : ¬ (((n + 1 : Nat) : Nat) : Int) = 0 := by omega
              cases f
              · have HN := hid (show Mt.arity (Lg.bytes s) = none from hA)
                clear hA HS
                go_wp2_with fail
                go_ret2
                exact RArPost.none HN.out
              · by_cases h8 : n + 1 ≤ 8
                · have HN := hid (show Mt.arity (Lg.bytes s) = some (n + 1) by rw [hA]; exact if_pos h8)
                  have g1 : ¬ (8 : Int) < (((n + 1 : Nat) : Nat) : Int) := by omega
                  clear hA HS
                  go_wp2_with fail
                  go_ret2
                  exact RArPost.some HN.out rfl
                · have HN := hid (show Mt.arity (Lg.bytes s) = none by rw [hA]; exact if_neg h8)
                  have g1 : (8 : Int) < (((n + 1 : Nat) : Nat) : Int) := by omega
                  clear hA HS
                  go_wp2_with fail
                  go_ret2
                  exact RArPost.none HN.out
      · rw [hsg] at HCall
        have hA : Mt.arity (Lg.bytes s) = if Mt.isBin (c :: r) = true then some 1 else none := by rw [hcr]; exact Mt.arity_sign hsg hl
        by_cases hone : s.size = 1
        · have HA := hid (show Mt.arity (Lg.bytes s) = some 1 by
            rw [hA, if_pos]
            have : r = [] := List.length_eq_zero_iff.1 (by have := HLen.out; rw [hcr, List.length_cons] at this; omega)
            subst this
            simp [Mt.isBin, hsg])
          have f3 : (s.size : Int) = 1 := by omega
          clear hcr hl hsg hA
          go_enter Tryz.func36, Tryz.ntmps36
          go_wp2_with fail
          refine HCall.out.mono ?_
          rintro e w1 ⟨rfl, rfl⟩
          go_wp2_with fail
          go_ret2
          exact RArPost.some HA.out rfl
        · have f3 : ¬ (s.size : Int) = 1 := by omega
          by_cases htwo : s.size = 2 ∧ Mt.isBin (c :: r) = true
          · obtain ⟨htwo, hbin⟩ := htwo
            have HA := hid (show Mt.arity (Lg.bytes s) = some 1 by rw [hA, if_pos hbin])
            have f4 : (s.size : Int) = 2 := by omega
            have h1' : 1 < s.size := by omega
            have hb1 := Lg.bytes_at s 1 h1'
            have HCall2 := hid (rsign_c ((Lg.bytes s).getD 1 0) w)
            have hd : Mt.sign ((Lg.bytes s).getD 1 0) = true := by
              have h2 := HLen.out
              rw [hcr, List.length_cons] at h2
              unfold Mt.isBin at hbin
              rw [Bool.and_eq_true] at hbin
              refine List.all_eq_true.1 hbin.2 _ ?_
              rw [hcr, List.getD_eq_getElem?_getD]
              cases r with
              | nil => rw [List.length_nil] at h2; omega
              | cons d t => simp
            rw [hd] at HCall2
            generalize (Lg.bytes s).getD 1 0 = d at hb1 HCall2
            clear hcr hl hsg hA hd hbin
            go_enter Tryz.func36, Tryz.ntmps36
            go_wp2_with fail
            refine HCall.out.mono ?_
            rintro e w1 ⟨rfl, rfl⟩
            go_wp2_with fail
            refine HCall2.out.mono ?_
            rintro e w1 ⟨rfl, rfl⟩
            go_wp2_with fail
            go_ret2
            exact RArPost.some HA.out rfl
          · have hbin : Mt.isBin (c :: r) = false := by
              cases hb : Mt.isBin (c :: r)
              · rfl
              · exfalso
                refine htwo ⟨?_, hb⟩
                unfold Mt.isBin at hb
                rw [Bool.and_eq_true, Bool.and_eq_true, decide_eq_true_iff, decide_eq_true_iff, ← hcr, HLen.out] at hb
                omega
            have HA := hid (show Mt.arity (Lg.bytes s) = none by rw [hA, hbin, if_neg (by decide)])
            by_cases h2 : s.size = 2
            · have f4 : (s.size : Int) = 2 := by omega
              have h1' : 1 < s.size := by omega
              have hb1 := Lg.bytes_at s 1 h1'
              have HCall2 := hid (rsign_c ((Lg.bytes s).getD 1 0) w)
              have hd : Mt.sign ((Lg.bytes s).getD 1 0) = false := by
                have h3 := HLen.out
                rw [hcr, List.length_cons, h2] at h3
                rw [hcr]
                match r, h3, hbin with
                | [d], _, hbin =>
                  simp [Mt.isBin, hsg] at hbin
                  simpa using hbin
              rw [hd] at HCall2
              generalize (Lg.bytes s).getD 1 0 = d at hb1 HCall2
              clear hcr hl hsg hA hd hbin htwo
              go_enter Tryz.func36, Tryz.ntmps36
              go_wp2_with fail
              refine HCall.out.mono ?_
              rintro e w1 ⟨rfl, rfl⟩
              go_wp2_with fail
              refine HCall2.out.mono ?_
              rintro e w1 ⟨rfl, rfl⟩
              clear hb0 hb1
              go_wp2_with fail
              go_loopw [4] (fun s4 wr => ∃ i : Nat, s4 = .int .i64 ((i : Nat) : Int) ∧ i ≤ s.size ∧ wr = w1) (fun s4 _ => s.size - (intOf s4).toNat)
              case atStart => exact ⟨0, rfl, Nat.zero_le _, rfl⟩
              case round =>
                obtain ⟨i, rfl, hi, rfl⟩ := hrel
                by_cases hlt : i < s.size
                · have hlt' : (i : Int) < (s.size : Int) := by omega
                  have hb := Lg.bytes_at s i hlt
                  generalize (Lg.bytes s).getD i 0 = x at hb
                  have HX := hid (rsign_c x wr)
                  cases hq : Mt.sign x
                  · rw [hq] at HX
                    clear hq
                    go_wp2_with fail
                    refine HX.out.mono ?_
                    rintro e w1 ⟨rfl, rfl⟩
                    go_wp2_with fail
                    go_ret2
                    exact RArPost.none HA.out
                  · rw [hq] at HX
                    clear hq
                    go_wp2_with fail
                    refine HX.out.mono ?_
                    rintro e w1 ⟨rfl, rfl⟩
                    go_wp2_with fail
                    go_round
                    case rel => exact ⟨i + 1, by go_num, by omega, trivial⟩
                    case measure => simp [intOf]; omega
                · go_wp2_with fail
                  go_ret2
                  exact RArPost.none HA.out
            · have f4 : ¬ (s.size : Int) = 2 := by omega
              clear hcr hl hsg hA hbin htwo
              go_enter Tryz.func36, Tryz.ntmps36
              go_wp2_with fail
              refine HCall.out.mono ?_
              rintro e w1 ⟨rfl, rfl⟩
              clear hb0
              go_wp2_with fail
              rw [show (((s.size : Nat) : Int) == 1) = false by rw [beq_eq_false_iff_ne]; exact f3]
              go_loopw [4] (fun s4 wr => ∃ i : Nat, s4 = .int .i64 ((i : Nat) : Int) ∧ i ≤ s.size ∧ wr = w1) (fun s4 _ => s.size - (intOf s4).toNat)
              case atStart => exact ⟨0, rfl, Nat.zero_le _, rfl⟩
              case round =>
                obtain ⟨i, rfl, hi, rfl⟩ := hrel
                by_cases hlt : i < s.size
                · have hlt' : (i : Int) < (s.size : Int) := by omega
                  have hb := Lg.bytes_at s i hlt
                  generalize (Lg.bytes s).getD i 0 = x at hb
                  have HX := hid (rsign_c x wr)
                  cases hq : Mt.sign x
                  · rw [hq] at HX
                    clear hq
                    go_wp2_with fail
                    refine HX.out.mono ?_
                    rintro e w1 ⟨rfl, rfl⟩
                    go_wp2_with fail
                    go_ret2
                    exact RArPost.none HA.out
                  · rw [hq] at HX
                    clear hq
                    go_wp2_with fail
                    refine HX.out.mono ?_
                    rintro e w1 ⟨rfl, rfl⟩
                    go_wp2_with fail
                    go_round
                    case rel => exact ⟨i + 1, by go_num, by omega, trivial⟩
                    case measure => simp [intOf]; omega
                · go_wp2_with fail
                  go_ret2
                  exact RArPost.none HA.out
end Go.Proofs.YtjdgcgpidhljpaaGreatDoor

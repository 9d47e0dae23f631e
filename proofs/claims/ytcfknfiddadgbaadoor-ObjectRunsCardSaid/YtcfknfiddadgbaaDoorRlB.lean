/- The reference's joins, walked. -/
import Derived.Test.YtcfknfiddadgbaaDoorRlA
namespace Go.Proofs.YtcfknfiddadgbaaDoor
open Go.RowKit

theorem all_range_succ (p : Nat → Bool) (n : Nat) : (List.range (n + 1)).all p = ((List.range n).all p && p n) := by
  rw [List.range_succ, List.all_append]; simp
set_option maxRecDepth 100000 in
set_option maxHeartbeats 4000000 in
theorem rjoin_c (A : Option Addr) (cp : Nat) (up : List Nat) (dn : Bool) (a b : Int) (w : World) (hn : up.length ≤ 20) (h : BytesAt w w.heap.size A up) :
    Calls Tryd.prog 41 #[.slice A up.length cp, .int .i64 a, .int .i64 b, .bool dn] w fun e w' => e = .returned (.int .i64 (La.rjoin up dn a b)) ∧ w' = w := by
  obtain ⟨n, en⟩ : ∃ n, n = up.length := ⟨_, rfl⟩
  have hn' : (n : Int) ≤ 20 := by omega
  have HB := hid (fun x => rbound_c A cp up dn x a b w hn h)
  have HL := hid (fun x y => rleq_c A cp up x y w hn h)
  rw [← en] at HB HL hn ⊢
  have EN := hid en
  clear h en
  go_enter Tryd.func41, Tryd.ntmps41
  go_wp2_with fail
  go_loopw [9, 10, 11] (fun s9 _ _ wr => ∃ (i : Nat), s9 = .int .i64 ((i : Nat) : Int) ∧ i ≤ n ∧ Hid (∀ j, j < i → La.rone up dn a b j = false) ∧ w = wr) (fun s9 _ _ _ => n - (intOf s9).toNat)
  case atStart => exact ⟨0, rfl, Nat.zero_le _, hid (fun j hj => by omega), rfl⟩
  case round =>
    obtain ⟨i, rfl, hi, HI, rfl⟩ := hrel
    by_cases hlt : i < n
    · have f1 : (i : Int) < n := by omega
      have HBi := hid (HB.out (i : Int))
      obtain ⟨rb, erb⟩ : ∃ rb, rb = La.rbound up dn (i : Int) a b := ⟨_, rfl⟩
      rw [← erb] at HBi
      have ERB := hid erb
      clear erb
      go_upto_region 6 with (go_at_call 54; refine HBi.out.mono ?_; rintro e w2 ⟨rfl, hw2⟩; have hw3 := hw2.symm; subst hw3)
      clear HBi
      go_loopw [10, 11] (fun s10 s11 wr => ∃ (k : Nat) (r : Bool), s11 = .int .i64 ((k : Nat) : Int) ∧ s10 = .bool r ∧ k ≤ n ∧ Hid (r = (rb && (List.range k).all (La.rkeep up dn a b i))) ∧ w = wr) (fun _ s11 _ => n - (intOf s11).toNat)
      case atStart => exact ⟨0, rb, rfl, rfl, Nat.zero_le _, hid (by simp), rfl⟩
      case round =>
        obtain ⟨k, r, rfl, rfl, hk, HK, rfl⟩ := hrel
        by_cases hkn : k < n
        · have f2 : (k : Int) < n := by omega
          have HBk := hid (HB.out (k : Int))
          have HL1 := hid (HL.out (k : Int) (i : Int))
          have HL2 := hid (HL.out (i : Int) (k : Int))
          have HKp := hid (show La.rkeep up dn a b i k = !(La.rbound up dn (k : Int) a b && (dn && !La.rleq up (k : Int) (i : Int) || !dn && !La.rleq up (i : Int) (k : Int))) from rfl)
          have HS := hid (all_range_succ (La.rkeep up dn a b i) k)
          generalize La.rkeep up dn a b i k = kp at *
          generalize La.rbound up dn (k : Int) a b = bk at *
          generalize La.rleq up (k : Int) (i : Int) = l1 at *
          generalize La.rleq up (i : Int) (k : Int) = l2 at *
          cases bk
          · have HS2 := hid (show r = (rb && (List.range (k + 1)).all (La.rkeep up dn a b i)) by rw [HS.out, HKp.out, HK.out]; simp)
            go_wp2_with (go_at_call 54; with_reducible refine HBk.out.mono ?_; rintro e w2 ⟨rfl, hw2⟩; have hw3 := hw2.symm; subst hw3)
            go_round
            case rel => exact ⟨k + 1, r, by go_num, rfl, by omega, HS2, trivial⟩
            case measure => simp [intOf]; omega
          · cases dn
            · cases l2
              · have HS2 := hid (show false = (rb && (List.range (k + 1)).all (La.rkeep up false a b i)) by rw [HS.out, HKp.out]; simp)
                go_wp2_with (first | (go_at_call 54; with_reducible refine HBk.out.mono ?_; rintro e w2 ⟨rfl, hw2⟩; have hw3 := hw2.symm; subst hw3) | (go_at_call 40; with_reducible refine HL2.out.mono ?_; rintro e w2 ⟨rfl, hw2⟩; have hw3 := hw2.symm; subst hw3))
                go_round
                case rel => exact ⟨k + 1, false, by go_num, rfl, by omega, HS2, trivial⟩
                case measure => simp [intOf]; omega
              · have HS2 := hid (show r = (rb && (List.range (k + 1)).all (La.rkeep up false a b i)) by rw [HS.out, HKp.out, HK.out]; simp)
                go_wp2_with (first | (go_at_call 54; with_reducible refine HBk.out.mono ?_; rintro e w2 ⟨rfl, hw2⟩; have hw3 := hw2.symm; subst hw3) | (go_at_call 40; with_reducible refine HL2.out.mono ?_; rintro e w2 ⟨rfl, hw2⟩; have hw3 := hw2.symm; subst hw3))
                go_round
                case rel => exact ⟨k + 1, r, by go_num, rfl, by omega, HS2, trivial⟩
                case measure => simp [intOf]; omega
            · cases l1
              · have HS2 := hid (show false = (rb && (List.range (k + 1)).all (La.rkeep up true a b i)) by rw [HS.out, HKp.out]; simp)
                go_wp2_with (first | (go_at_call 54; with_reducible refine HBk.out.mono ?_; rintro e w2 ⟨rfl, hw2⟩; have hw3 := hw2.symm; subst hw3) | (go_at_call 40; with_reducible refine HL1.out.mono ?_; rintro e w2 ⟨rfl, hw2⟩; have hw3 := hw2.symm; subst hw3))
                go_round
                case rel => exact ⟨k + 1, false, by go_num, rfl, by omega, HS2, trivial⟩
                case measure => simp [intOf]; omega
              · have HS2 := hid (show r = (rb && (List.range (k + 1)).all (La.rkeep up true a b i)) by rw [HS.out, HKp.out, HK.out]; simp)
                go_wp2_with (first | (go_at_call 54; with_reducible refine HBk.out.mono ?_; rintro e w2 ⟨rfl, hw2⟩; have hw3 := hw2.symm; subst hw3) | (go_at_call 40; with_reducible refine HL1.out.mono ?_; rintro e w2 ⟨rfl, hw2⟩; have hw3 := hw2.symm; subst hw3))
                go_round
                case rel => exact ⟨k + 1, r, by go_num, rfl, by omega, HS2, trivial⟩
                case measure => simp [intOf]; omega
        · have hkk : k = n := by omega
          subst hkk
          have HOne := hid (show La.rone up dn a b i = r by rw [HK.out, La.rone, ← ERB.out, ← EN.out])
          cases r
          · go_wp2_with fail
            go_round
            case rel => exact ⟨i + 1, by go_num, by omega, hid (fun j hj => by
              by_cases e : j = i
              · subst e; exact HOne.out
              · exact HI.out j (by omega)), trivial⟩
            case measure => simp [intOf]; omega
          · have HE := hid (show La.rjoin up dn a b = (i : Int) from La.rjoin_at (by rw [← EN.out]; exact hlt) HOne.out HI.out)
            go_wp2_with fail
            go_ret
            exact ⟨by rw [HE.out]; rfl, rfl⟩
    · have hin : i = n := by omega
      subst hin
      have HE := hid (show La.rjoin up dn a b = -1 from La.rjoin_no (by rw [← EN.out]; exact HI.out))
      go_wp2_with fail
      go_ret
      exact ⟨by rw [HE.out]; rfl, rfl⟩
theorem bool4 (d q1 q2 : Bool) : (d = true ∧ q1 = true ∧ q2 = true) ∨ (d = false ∧ q1 = false) ∨ (d = false ∧ q1 = true) ∨ (d = true ∧ q1 = false) ∨ (d = true ∧ q1 = true ∧ q2 = false) := by
  cases d <;> cases q1 <;> cases q2 <;> simp
set_option maxRecDepth 100000 in
set_option maxHeartbeats 8000000 in
theorem rmay_c (A : Option Addr) (cp : Nat) (up : List Nat) (w : World) (hn : up.length ≤ 20) (h : BytesAt w w.heap.size A up) :
    Calls Tryd.prog 18 #[.slice A up.length cp] w fun e w' => e = .returned (.bool (La.rmay up)) ∧ w' = w := by
  obtain ⟨n, en⟩ : ∃ n, n = up.length := ⟨_, rfl⟩
  have hn' : (n : Int) ≤ 20 := by omega
  have HL := hid (fun x y => rleq_c A cp up x y w hn h)
  have HJ := hid (fun dn x y => rjoin_c A cp up dn x y w hn h)
  have HB := hid h
  obtain ⟨R, hR⟩ : ∃ R, R = La.rmay up := ⟨_, rfl⟩
  have ER := hid (show R = (decide (1 ≤ n) && (decide (n ≤ 8) && ((List.range n).all (La.rrow up) && (List.range n).all (La.rjs up)))) by rw [hR, en]; rfl)
  rw [← hR]
  rw [← en] at HL HJ hn ⊢
  have EN := hid en
  clear h en hR
  by_cases h1 : 1 ≤ n
  · by_cases h8 : n ≤ 8
    · have g1 : ¬ (n : Int) < 1 := by omega
      have g2 : ¬ (8 : Int) < (n : Int) := by omega
      have HR := hid (show R = ((List.range n).all (La.rrow up) && (List.range n).all (La.rjs up)) by rw [ER.out, decide_eq_true h1, decide_eq_true h8]; rfl)
      have HF1 : Hid (∀ a, a < n → La.rrow up a = false → R = false) := hid (fun a ha hf => by rw [HR.out, La.all_range_no ha hf, Bool.false_and])
      have HF2 : Hid (∀ a, a < n → La.rjs up a = false → R = false) := hid (fun a ha hf => by rw [HR.out, La.all_range_no ha hf, Bool.and_false])
      clear ER
      go_enter Tryd.func18, Tryd.ntmps18
      go_wp2_with fail
      go_loopw [4, 5, 6, 7] (fun s4 _ _ _ wr => ∃ (i : Nat), s4 = .int .i64 ((i : Nat) : Int) ∧ i ≤ n ∧ Hid (∀ j, j < i → La.rrow up j = true) ∧ w = wr) (fun s4 _ _ _ _ => n - (intOf s4).toNat)
      case atStart => exact ⟨0, rfl, Nat.zero_le _, hid (fun j hj => by omega), rfl⟩
      case round =>
        obtain ⟨i, rfl, hi, HI, rfl⟩ := hrel
        by_cases hlt : i < n
        · have f1 : (i : Int) < n := by omega
          have HRow := hid (show La.rrow up i = (La.rhigh up i && (La.rleq up (i : Int) (i : Int) && (List.range n).all fun b => La.ranti up i b && La.rtr up i b)) by rw [EN.out]; rfl)
          go_upto_region 8 with fail
          go_loopw [5] (fun s5 wr => ∃ (k : Nat), s5 = .int .i64 ((k : Nat) : Int) ∧ n ≤ k ∧ k ≤ 8 ∧ Hid (∀ j, j < k → (decide (j < up.length) || !La.low up i j) = true) ∧ w = wr) (fun s5 _ => 8 - (intOf s5).toNat)
          case atStart => exact ⟨n, rfl, Nat.le_refl _, h8, hid (fun j hj => by rw [decide_eq_true (by rw [← EN.out]; exact hj)]; rfl), rfl⟩
          case round =>
            obtain ⟨k, rfl, hk, hk8, HK, rfl⟩ := hrel
            by_cases hkn : k < 8
            · have f2 : (k : Int) < 8 := by omega
              obtain ⟨ad, rfl, hbk, hc⟩ := HB.out.2 (by rw [← EN.out]; omega)
              have hx := HB.out.lt i
              have hc1 := hc i (by rw [← EN.out]; exact hlt)
              have hbit := bit_shr (up.getD i 0) k hx
              rw [Nat.min_eq_left (by omega)] at hbit
              have HLow := hid (show La.low up i k = (up.getD i 0).testBit k from rfl)
              obtain ⟨bb, ebb⟩ : ∃ bb, bb = (up.getD i 0).testBit k := ⟨_, rfl⟩
              rw [← ebb] at hbit HLow
              generalize up.getD i 0 = x at *
              clear hc ebb
              cases bb
              · go_wp2_with fail
                go_round
                case rel => exact ⟨k + 1, by go_num, by omega, by omega, hid (fun j hj => by
                  by_cases e : j = k
                  · subst e; rw [HLow.out, Bool.not_false, Bool.or_true]
                  · exact HK.out j (by omega)), trivial⟩
                case measure => simp [intOf]; omega
              · have HE := hid (HF1.out i hlt (by rw [HRow.out, show La.rhigh up i = false from La.all_range_no hkn (by rw [HLow.out, decide_eq_false (by rw [← EN.out]; omega)]; rfl), Bool.false_and]))
                go_wp2_with fail
                go_ret
                exact ⟨by rw [HE.out]; rfl, rfl⟩
            · have hk0 : k = 8 := by omega
              subst hk0
              have HHigh := hid (show La.rhigh up i = true from La.all_range HK.out)
              have HLi := hid (HL.out (i : Int) (i : Int))
              obtain ⟨q, eq⟩ : ∃ q, q = La.rleq up (i : Int) (i : Int) := ⟨_, rfl⟩
              rw [← eq] at HLi HRow
              clear eq HK
              cases q
              · have HE := hid (HF1.out i hlt (by rw [HRow.out, Bool.false_and, Bool.and_false]))
                go_wp2_with (go_at_call 40; with_reducible refine HLi.out.mono ?_; rintro e w2 ⟨rfl, hw2⟩; have hw3 := hw2.symm; subst hw3)
                go_ret
                exact ⟨by rw [HE.out]; rfl, rfl⟩
              · go_upto_region 15 with (go_at_call 40; with_reducible refine HLi.out.mono ?_; rintro e w2 ⟨rfl, hw2⟩; have hw3 := hw2.symm; subst hw3)
                clear HLi
                go_loopw [6, 7] (fun s6 _ wr => ∃ (k : Nat), s6 = .int .i64 ((k : Nat) : Int) ∧ k ≤ n ∧ Hid (∀ j, j < k → (La.ranti up i j && La.rtr up i j) = true) ∧ w = wr) (fun s6 _ _ => n - (intOf s6).toNat)
                case atStart => exact ⟨0, rfl, Nat.zero_le _, hid (fun j hj => by omega), rfl⟩
                case round =>
                  obtain ⟨k, rfl, hk, HK, rfl⟩ := hrel
                  by_cases hkn : k < n
                  · have f2 : (k : Int) < n := by omega
                    have HL1 := hid (HL.out (i : Int) (k : Int))
                    have HL2 := hid (HL.out (k : Int) (i : Int))
                    have HAn := hid (show La.ranti up i k = !(i != k && La.rleq up (i : Int) (k : Int) && La.rleq up (k : Int) (i : Int)) from rfl)
                    have HAll : Hid (∀ b, b < n → (La.ranti up i b && La.rtr up i b) = false → R = false) := hid (fun b hb hf => HF1.out i hlt (by rw [HRow.out, La.all_range_no hb hf, Bool.and_false, Bool.and_false]))
                    obtain ⟨T, eT⟩ : ∃ T : Nat → Bool, T = fun c : Nat => !(La.rleq up (i : Int) (k : Int) && La.rleq up (k : Int) (c : Int) && !La.rleq up (i : Int) (c : Int)) := ⟨_, rfl⟩
                    have HTr := hid (show La.rtr up i k = (List.range n).all T by rw [EN.out, eT]; rfl)
                    have HTm := hid (show ∀ c : Nat, T c = !(La.rleq up (i : Int) (k : Int) && La.rleq up (k : Int) (c : Int) && !La.rleq up (i : Int) (c : Int)) from fun c => by rw [eT])
                    clear eT
                    obtain ⟨q1, eq1⟩ : ∃ q1, q1 = La.rleq up (i : Int) (k : Int) := ⟨_, rfl⟩
                    obtain ⟨q2, eq2⟩ : ∃ q2, q2 = La.rleq up (k : Int) (i : Int) := ⟨_, rfl⟩
                    rw [← eq1] at HL1 HAn HTm
                    rw [← eq2] at HL2 HAn
                    clear eq1 eq2
                    obtain ⟨d, ed⟩ : ∃ d, d = ((i : Int) != (k : Int)) := ⟨_, rfl⟩
                    have hd : (i != k) = d := by
                      rw [ed, Bool.eq_iff_iff, bne_iff_ne, bne_iff_ne]
                      constructor <;> intro h1 h2 <;> apply h1 <;> omega
                    rw [hd] at HAn
                    have ed' := ed.symm
                    clear hd ed
                    have hq : (d = true ∧ q1 = true ∧ q2 = true) ∨ (d = false ∧ q1 = false) ∨ (d = false ∧ q1 = true) ∨ (d = true ∧ q1 = false) ∨ (d = true ∧ q1 = true ∧ q2 = false) := bool4 d q1 q2
                    rcases hq with ⟨rfl, rfl, rfl⟩ | ⟨rfl, rfl⟩ | ⟨rfl, rfl⟩ | ⟨rfl, rfl⟩ | ⟨rfl, rfl, rfl⟩
                    · have HE := hid (HAll.out k hkn (by rw [HAn.out]; rfl))
                      go_wp2_with (go_at_call 40; first | (with_reducible refine HL1.out.mono ?_; rintro e w2 ⟨rfl, hw2⟩; have hw3 := hw2.symm; subst hw3) | (with_reducible refine HL2.out.mono ?_; rintro e w2 ⟨rfl, hw2⟩; have hw3 := hw2.symm; subst hw3))
                      go_ret
                      exact ⟨by rw [HE.out]; rfl, rfl⟩
                    all_goals
                      have HAt := hid (show La.ranti up i k = true by rw [HAn.out]; simp)
                      go_upto_region 20 with (go_at_call 40; first | (with_reducible refine HL1.out.mono ?_; rintro e w2 ⟨rfl, hw2⟩; have hw3 := hw2.symm; subst hw3) | (with_reducible refine HL2.out.mono ?_; rintro e w2 ⟨rfl, hw2⟩; have hw3 := hw2.symm; subst hw3))
                      clear HL2 HAn ed'
                      go_loopw [7] (fun s7 wr => ∃ (m : Nat), s7 = .int .i64 ((m : Nat) : Int) ∧ m ≤ n ∧ Hid (∀ j, j < m → T j = true) ∧ w = wr) (fun s7 _ => n - (intOf s7).toNat)
                      case atStart => exact ⟨0, rfl, Nat.zero_le _, hid (fun j hj => by omega), rfl⟩
                      case round =>
                        obtain ⟨m, rfl, hm, HM, rfl⟩ := hrel
                        by_cases hmn : m < n
                        · have f3 : (m : Int) < n := by omega
                          have HL3 := hid (HL.out (k : Int) (m : Int))
                          have HL4 := hid (HL.out (i : Int) (m : Int))
                          have HNo := hid (fun (hf : T m = false) => HAll.out k hkn (by rw [HTr.out, La.all_range_no hmn hf, Bool.and_false]))
                          have HNx := hid (fun (hf : T m = true) => show ∀ j, j < m + 1 → T j = true from fun j hj => by
                            by_cases e : j = m
                            · subst e; exact hf
                            · exact HM.out j (by omega))
                          have HTmm := hid (HTm.out m)
                          generalize La.rleq up (k : Int) (m : Int) = q3 at *
                          generalize La.rleq up (i : Int) (m : Int) = q4 at *
                          cases q3 <;> cases q4
                          all_goals first
                            | (have HE := hid (HNo.out (by rw [HTmm.out]; rfl))
                               go_wp2_with (go_at_call 40; first | (with_reducible refine HL1.out.mono ?_; rintro e w2 ⟨rfl, hw2⟩; have hw3 := hw2.symm; subst hw3) | (with_reducible refine HL3.out.mono ?_; rintro e w2 ⟨rfl, hw2⟩; have hw3 := hw2.symm; subst hw3) | (with_reducible refine HL4.out.mono ?_; rintro e w2 ⟨rfl, hw2⟩; have hw3 := hw2.symm; subst hw3))
                               go_ret
                               exact ⟨by rw [HE.out]; rfl, rfl⟩)
                            | (have HS := hid (HNx.out (by rw [HTmm.out]; rfl))
                               go_wp2_with (go_at_call 40; first | (with_reducible refine HL1.out.mono ?_; rintro e w2 ⟨rfl, hw2⟩; have hw3 := hw2.symm; subst hw3) | (with_reducible refine HL3.out.mono ?_; rintro e w2 ⟨rfl, hw2⟩; have hw3 := hw2.symm; subst hw3) | (with_reducible refine HL4.out.mono ?_; rintro e w2 ⟨rfl, hw2⟩; have hw3 := hw2.symm; subst hw3))
                               go_round
                               case rel => exact ⟨m + 1, by go_num, by omega, HS, trivial⟩
                               case measure => simp [intOf]; omega)
                        · have hm0 : m = n := by omega
                          subst hm0
                          have HT := hid (show La.rtr up i k = true by rw [HTr.out]; exact La.all_range HM.out)
                          go_wp2_with fail
                          go_round
                          case rel => exact ⟨k + 1, by go_num, by omega, hid (fun j hj => by
                            by_cases e : j = k
                            · subst e; rw [HAt.out, HT.out]; rfl
                            · exact HK.out j (by omega)), trivial⟩
                          case measure => simp [intOf]; omega
                  · have hk0 : k = n := by omega
                    subst hk0
                    have HRi := hid (show La.rrow up i = true by rw [HRow.out, HHigh.out, Bool.true_and, Bool.true_and]; exact La.all_range HK.out)
                    go_wp2_with fail
                    go_round
                    case rel => exact ⟨i + 1, by go_num, by omega, hid (fun j hj => by
                      by_cases e : j = i
                      · subst e; exact HRi.out
                      · exact HI.out j (by omega)), trivial⟩
                    case measure => simp [intOf]; omega
        · have hin : i = n := by omega
          subst hin
          have HAr := hid (show (List.range i).all (La.rrow up) = true from La.all_range HI.out)
          go_upto_region 25 with fail
          go_loopw [8, 9] (fun s8 _ wr => ∃ (k : Nat), s8 = .int .i64 ((k : Nat) : Int) ∧ k ≤ i ∧ Hid (∀ j, j < k → La.rjs up j = true) ∧ w = wr) (fun s8 _ _ => i - (intOf s8).toNat)
          case atStart => exact ⟨0, rfl, Nat.zero_le _, hid (fun j hj => by omega), rfl⟩
          case round =>
            obtain ⟨k, rfl, hk, HK, rfl⟩ := hrel
            by_cases hkn : k < i
            · have f2 : (k : Int) < i := by omega
              have HJk := hid (show La.rjs up k = (List.range i).all (La.rtwo up k) by rw [EN.out]; rfl)
              go_upto_region 28 with fail
              go_loopw [9] (fun s9 wr => ∃ (m : Nat), s9 = .int .i64 ((m : Nat) : Int) ∧ m ≤ i ∧ Hid (∀ j, j < m → La.rtwo up k j = true) ∧ w = wr) (fun s9 _ => i - (intOf s9).toNat)
              case atStart => exact ⟨0, rfl, Nat.zero_le _, hid (fun j hj => by omega), rfl⟩
              case round =>
                obtain ⟨m, rfl, hm, HM, rfl⟩ := hrel
                by_cases hmn : m < i
                · have f3 : (m : Int) < i := by omega
                  have HJ1 := hid (HJ.out false (k : Int) (m : Int))
                  have HJ2 := hid (HJ.out true (k : Int) (m : Int))
                  have HNo := hid (fun (hf : La.rtwo up k m = false) => HF2.out k hkn (by rw [HJk.out, La.all_range_no hmn hf]))
                  have HTw := hid (show La.rtwo up k m = (decide (0 ≤ La.rjoin up false (k : Int) (m : Int)) && decide (0 ≤ La.rjoin up true (k : Int) (m : Int))) from rfl)
                  generalize La.rjoin up false (k : Int) (m : Int) = j1 at *
                  generalize La.rjoin up true (k : Int) (m : Int) = j2 at *
                  by_cases c1 : 0 ≤ j1
                  · have d1 : ¬ j1 < 0 := by omega
                    by_cases c2 : 0 ≤ j2
                    · have d2 : ¬ j2 < 0 := by omega
                      have HS := hid (show La.rtwo up k m = true by rw [HTw.out, decide_eq_true c1, decide_eq_true c2]; rfl)
                      clear c1 c2
                      go_wp2_with (go_at_call 41; first | (with_reducible refine HJ1.out.mono ?_; rintro e w2 ⟨rfl, hw2⟩; have hw3 := hw2.symm; subst hw3) | (with_reducible refine HJ2.out.mono ?_; rintro e w2 ⟨rfl, hw2⟩; have hw3 := hw2.symm; subst hw3))
                      go_round
                      case rel => exact ⟨m + 1, by go_num, by omega, hid (fun j hj => by
                        by_cases e : j = m
                        · subst e; exact HS.out
                        · exact HM.out j (by omega)), trivial⟩
                      case measure => simp [intOf]; omega
                    · have d2 : j2 < 0 := by omega
                      have HE := hid (HNo.out (by rw [HTw.out, decide_eq_false c2, Bool.and_false]))
                      clear c1 c2
                      go_wp2_with (go_at_call 41; first | (with_reducible refine HJ1.out.mono ?_; rintro e w2 ⟨rfl, hw2⟩; have hw3 := hw2.symm; subst hw3) | (with_reducible refine HJ2.out.mono ?_; rintro e w2 ⟨rfl, hw2⟩; have hw3 := hw2.symm; subst hw3))
                      go_ret
                      exact ⟨by rw [HE.out]; rfl, rfl⟩
                  · have d1 : j1 < 0 := by omega
                    have HE := hid (HNo.out (by rw [HTw.out, decide_eq_false c1, Bool.false_and]))
                    clear c1
                    go_wp2_with (go_at_call 41; first | (with_reducible refine HJ1.out.mono ?_; rintro e w2 ⟨rfl, hw2⟩; have hw3 := hw2.symm; subst hw3) | (with_reducible refine HJ2.out.mono ?_; rintro e w2 ⟨rfl, hw2⟩; have hw3 := hw2.symm; subst hw3))
                    go_ret
                    exact ⟨by rw [HE.out]; rfl, rfl⟩
                · have hm0 : m = i := by omega
                  subst hm0
                  have HS := hid (show La.rjs up k = true by rw [HJk.out]; exact La.all_range HM.out)
                  go_wp2_with fail
                  go_round
                  case rel => exact ⟨k + 1, by go_num, by omega, hid (fun j hj => by
                    by_cases e : j = k
                    · subst e; exact HS.out
                    · exact HK.out j (by omega)), trivial⟩
                  case measure => simp [intOf]; omega
            · have hk0 : k = i := by omega
              subst hk0
              have HE := hid (show R = true by rw [HR.out, HAr.out, La.all_range HK.out]; rfl)
              go_wp2_with fail
              go_ret
              exact ⟨by rw [HE.out]; rfl, rfl⟩
    · have g1 : ¬ (n : Int) < 1 := by omega
      have g2 : (8 : Int) < (n : Int) := by omega
      have HE := hid (show R = false by rw [ER.out, decide_eq_false h8, Bool.false_and, Bool.and_false])
      go_enter Tryd.func18, Tryd.ntmps18
      go_wp2_with fail
      go_ret
      exact ⟨by rw [HE.out]; rfl, rfl⟩
  · have g1 : (n : Int) < 1 := by omega
    have HE := hid (show R = false by rw [ER.out, decide_eq_false h1, Bool.false_and])
    go_enter Tryd.func18, Tryd.ntmps18
    go_wp2_with fail
    go_ret
    exact ⟨by rw [HE.out]; rfl, rfl⟩
end Go.Proofs.YtcfknfiddadgbaaDoor

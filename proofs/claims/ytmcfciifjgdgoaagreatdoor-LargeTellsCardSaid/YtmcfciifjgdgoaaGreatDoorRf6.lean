/- The walks of the document's own large numbers, part 6: sums and differences, and which is more. -/
import Derived.Test.YtmcfciifjgdgoaaGreatDoorRf5
import Derived.Test.YtmcfciifjgdgoaaGreatDoorLgA
import Derived.Deep.DeepCutAuto
import Derived.Deep.RegionHeld3
namespace Go.Proofs.YtmcfciifjgdgoaaGreatDoor
open Go.RowKit

set_option maxHeartbeats 4000000 in
theorem radd_c (na : Bool) (A : Option Addr) (c : Nat) (xs : List Nat) (nb : Bool) (B : Option Addr) (d : Nat) (ys : List Nat) (sub : Bool) (w : World) (ha : NumsAt .u32 w w.heap.size A xs) (hb : NumsAt .u32 w w.heap.size B ys) (lx : Dg.Low 4294967296 xs) (ly : Dg.Low 4294967296 ys) (hn : xs.length ≤ 1000000000000) (hm : ys.length ≤ 1000000000000) :
    Calls Tryz.prog 8 #[.agg #[.bool na, .slice A xs.length c], .agg #[.bool nb, .slice B ys.length d], .bool sub] w fun e w' => ∃ A' c' ng L k, e = .returned (.tuple #[.agg #[.bool ng, .slice A' L.length c'], .int .i64 ((k : Nat) : Int)]) ∧ OwnNums .u32 w w' 55 A' c' L ∧ OutA (Lg.may na xs && Lg.may nb ys) (Lg.num na xs + flip sub (Lg.num nb ys)) ng L k ∧ Grew w w' := by
  have HA := hid ha
  have HB := hid hb
  clear ha hb
  have hbox := Box3.mk' w 24 24 24 na A xs.length c nb B ys.length d
  go_enter Tryz.func8, Tryz.ntmps8
  go_wp2_with fail
  generalize ((w.alloc (.cells #[.bool na, .slice A xs.length c] 24)).alloc (.cells #[.bool nb, .slice B ys.length d] 24)).alloc (.cells #[.bool false, .slice none 0 0] 24) = wb at *
  obtain ⟨hg, l0, l1, l2, a0, a1, b0, b1, r0, r1, fr⟩ := hbox
  have HG := hid hg
  clear hg
  refine (may_c na A c xs wb (HA.out.grew HG.out) hn).mono ?_
  cases hma : Lg.may na xs
  · rintro e w1 ⟨rfl, y1, rfl⟩
    go_wp2_with fail
    refine bodyPost_ret (v := .tuple #[.agg #[.bool false, .slice none 0 0], .int .i64 1]) (by simp [results, Tryz.results8, go_sem, *]) rfl ?_
    exact ⟨none, 0, false, [], 1, rfl, OwnNums.nil _ _ _ _, OutA.mk (fun h => by simp [*] at h) (fun _ => ⟨rfl, rfl, rfl⟩), ((HG.out.trans y1.grew).setCell (by simp <;> omega) _).setCell (by simp <;> omega) _⟩
  · rintro e w1 ⟨rfl, y1, rfl⟩
    go_wp2_with fail
    refine (Calls.grew y1.grew (may_c nb B d ys _ ((HB.out.grew HG.out).grew y1.grew) hm)).mono ?_
    cases hmb : Lg.may nb ys
    · rintro e w1 ⟨rfl, y2, rfl⟩
      go_wp2_with fail
      refine bodyPost_ret (v := .tuple #[.agg #[.bool false, .slice none 0 0], .int .i64 1]) (by simp [results, Tryz.results8, go_sem, *]) rfl ?_
      exact ⟨none, 0, false, [], 1, rfl, OwnNums.nil _ _ _ _, OutA.mk (fun h => by simp [*] at h) (fun _ => ⟨rfl, rfl, rfl⟩), ((HG.out.trans y2.grew).setCell (by simp <;> omega) _).setCell (by simp <;> omega) _⟩
    · rintro e w1 ⟨rfl, y2, rfl⟩
      have hlx := (Lg.may_iff.1 hma).1
      have hly := (Lg.may_iff.1 hmb).1
      go_upto_region 3 with fail
      go_cut [8, 9] (fun s8 s9 wx => ∃ (A3 : Option Addr) (c3 : Nat) (A4 : Option Addr) (c4 : Nat) (y : After wb), s8 = .slice A3 (Dg.cut (flat xs)).length c3 ∧ s9 = .slice A4 (Dg.cut (flat ys)).length c4 ∧ OwnNums .u8 wb y.w 5 A3 c3 (Dg.cut (flat xs)) ∧ OwnNums .u8 wb y.w 5 A4 c4 (Dg.cut (flat ys)) ∧ wx = y.w)
      case first =>
        go_region_with ((first
          | (go_at_call 27; ((with_reducible refine (bits_c A c xs _ (HA.out.grew (HG.out.trans (by first | exact After.grew _ | exact (After.grew _).drew))) (by omega)).mono ?_); rintro e w3 ⟨A3, c3, rfl, hO3, hG3⟩); obtain ⟨y3, rfl⟩ := Grew.trans (show Grew wb _ by first | exact After.grew _ | exact (After.grew _).drew) hG3)
          | (go_at_call 27; ((with_reducible refine (bits_c B d ys _ (HB.out.grew (HG.out.trans (by first | exact After.grew _ | exact (After.grew _).drew))) (by omega)).mono ?_); rintro e w4 ⟨A4, c4, rfl, hO4, hG4⟩); obtain ⟨y4, rfl⟩ := Grew.trans (show Grew wb _ by first | exact After.grew _ | exact (After.grew _).drew) hG4)))
        all_goals
          go_wp2_with fail
          go_meet
          case rel => exact ⟨A3, c3, A4, c4, y4, rfl, rfl, (OwnNums.mono hO3 (by first | exact After.grew _ | exact (After.grew _).drew)).grew hG4, OwnNums.mono hO4 (by first | exact After.grew _ | exact (After.grew _).drew), rfl⟩
      case rest =>
        obtain ⟨A3, c3, A4, c4, y, rfl, rfl, hO3, hO4, rfl⟩ := hcut
        obtain ⟨pl, pt, pv, pn⟩ := bits_of xs lx
        obtain ⟨ql, qt, qv, qn⟩ := bits_of ys ly
        generalize Dg.cut (flat xs) = P at *
        generalize Dg.cut (flat ys) = Q at *
        obtain ⟨q, hq⟩ : ∃ q, (nb == sub) = q := ⟨_, rfl⟩
        have HN : Hid (Lg.num na xs + flip sub (Lg.num nb ys) = Lg.sgn na (Dg.val 2 P) + Lg.sgn (!q) (Dg.val 2 Q)) := hid (by rw [Lg.num, Lg.num, flip_sgn, hq, pv, qv])
        have hPl : P.length ≤ 2048 := by omega
        have hQl : Q.length ≤ 2048 := by omega
        clear pv qv pn qn
        cases na <;> cases q
        · go_wp2_with fail
          refine (more_c A3 c3 P A4 c4 Q _ hO3.at hO4.at pl ql pt qt (by omega) (by omega)).mono ?_
          by_cases hle : Dg.val 2 Q ≤ Dg.val 2 P
          · rw [decide_eq_true hle]
            rintro e w5 ⟨rfl, hg5⟩
            replace hO3 := hO3.grew hg5
            replace hO4 := hO4.grew hg5
            obtain ⟨y5, rfl⟩ := y.grew.trans hg5
            clear hg5
            have HLE := hid hle
            clear hle
            go_wp2_with fail
            have hle := HLE.out
            go_region_with ((first
              | (go_at_call 31; ((with_reducible refine (minus_c A3 c3 P A4 c4 Q _ (hO3.at.grew (by first | exact Grew.refl _ | exact (Grew.refl _).drew)) (hO4.at.grew (by first | exact Grew.refl _ | exact (Grew.refl _).drew)) pl ql qt hle (by omega)).mono ?_); rintro e w5 ⟨A5, c5, L, rfl, hO5, hl5, ht5, hv5, hn5, hG5⟩); obtain ⟨y5, rfl⟩ := Grew.trans (show Grew wb _ by first | exact After.grew _ | exact (After.grew _).drew) hG5)
              | (go_at_call 28; ((with_reducible refine (made_c false _ _ _ _ hO5.at hl5 (by omega) hO5.cap.1 hO5.cap.2).mono ?_); rintro e w6 ⟨A6, c6, ng, M, k, rfl, hO6, hOut, hG6⟩); obtain ⟨y6, rfl⟩ := Grew.trans (show Grew wb _ by first | exact After.grew _ | exact (After.grew _).drew) hG6)))
            all_goals
              have HF := hid (show ∀ g, A6 = some ⟨g, 0, none⟩ → g ≠ w.heap.size + 1 + 1 from fun g hA => by
                have h1 := (World.ownsRow.lt (OwnNums.mono hO6 (by first | exact After.grew _ | exact (After.grew _).drew) : OwnNums _ wb _ _ _ _ _)) g (by rw [hA]; rfl)
                omega)
              have HO := hid (OwnNums.mono (w0 := wb) hO6 (by first | exact After.grew _ | exact (After.grew _).drew))
              have HX := hid (show Lg.num _ xs + flip sub (Lg.num nb ys) = _ from by rw [HN.out, ← (show Lg.sgn false (Dg.val 2 L) = Lg.sgn false (Dg.val 2 P) + Lg.sgn (!false) (Dg.val 2 Q) from by rw [hv5]; simp [Lg.sgn] <;> omega)])
              have HOut := hid hOut
              clear hOut hv5
              go_wp2_with fail
              refine bodyPost_ret (v := .tuple #[.agg #[.bool ng, .slice A6 M.length c6], .int .i64 ((k : Nat) : Int)]) (by simp [results, Tryz.results8, go_sem, *]) rfl ?_
              exact ⟨A6, c6, ng, M, k, rfl, ((HO.out.mono HG.out).far (fun g hA => HF.out g hA) _).far (fun g hA => HF.out g hA) _, OutA.mk (fun _ => by rw [HX.out]; exact HOut.out) (fun h => by simp [hma, hmb] at h), ((HG.out.trans (After.grew y6)).setCell (by simp <;> omega) _).setCell (by simp <;> omega) _⟩
          · rw [decide_eq_false hle]
            rintro e w5 ⟨rfl, hg5⟩
            replace hO3 := hO3.grew hg5
            replace hO4 := hO4.grew hg5
            obtain ⟨y5, rfl⟩ := y.grew.trans hg5
            clear hg5
            go_wp2_with (first
              | (go_at_call 31; ((with_reducible refine (minus_c A4 c4 Q A3 c3 P _ (hO4.at.grew (by first | exact Grew.refl _ | exact (Grew.refl _).drew)) (hO3.at.grew (by first | exact Grew.refl _ | exact (Grew.refl _).drew)) ql pl pt (by omega) (by omega)).mono ?_); rintro e w5 ⟨A5, c5, L, rfl, hO5, hl5, ht5, hv5, hn5, hG5⟩); obtain ⟨y5, rfl⟩ := Grew.trans (show Grew wb _ by first | exact After.grew _ | exact (After.grew _).drew) hG5)
              | (go_at_call 28; ((with_reducible refine (made_c true _ _ _ _ hO5.at hl5 (by omega) hO5.cap.1 hO5.cap.2).mono ?_); rintro e w6 ⟨A6, c6, ng, M, k, rfl, hO6, hOut, hG6⟩); obtain ⟨y6, rfl⟩ := Grew.trans (show Grew wb _ by first | exact After.grew _ | exact (After.grew _).drew) hG6))
            have HF := hid (show ∀ g, A6 = some ⟨g, 0, none⟩ → g ≠ w.heap.size + 1 + 1 from fun g hA => by
              have h1 := (World.ownsRow.lt (OwnNums.mono hO6 (by first | exact After.grew _ | exact (After.grew _).drew) : OwnNums _ wb _ _ _ _ _)) g (by rw [hA]; rfl)
              omega)
            have HO := hid (OwnNums.mono (w0 := wb) hO6 (by first | exact After.grew _ | exact (After.grew _).drew))
            have HX := hid (show Lg.num _ xs + flip sub (Lg.num nb ys) = _ from by rw [HN.out, ← (show Lg.sgn true (Dg.val 2 L) = Lg.sgn false (Dg.val 2 P) + Lg.sgn (!false) (Dg.val 2 Q) from by rw [hv5]; simp [Lg.sgn] <;> omega)])
            have HOut := hid hOut
            clear hOut hv5
            go_wp2_with fail
            refine bodyPost_ret (v := .tuple #[.agg #[.bool ng, .slice A6 M.length c6], .int .i64 ((k : Nat) : Int)]) (by simp [results, Tryz.results8, go_sem, *]) rfl ?_
            exact ⟨A6, c6, ng, M, k, rfl, ((HO.out.mono HG.out).far (fun g hA => HF.out g hA) _).far (fun g hA => HF.out g hA) _, OutA.mk (fun _ => by rw [HX.out]; exact HOut.out) (fun h => by simp [hma, hmb] at h), ((HG.out.trans (After.grew y6)).setCell (by simp <;> omega) _).setCell (by simp <;> omega) _⟩
        · go_wp2_with fail
          go_region_with ((first
            | (go_at_call 29; ((with_reducible refine (plus_c A3 c3 P A4 c4 Q _ (hO3.at.grew (by first | exact Grew.refl _ | exact (Grew.refl _).drew)) (hO4.at.grew (by first | exact Grew.refl _ | exact (Grew.refl _).drew)) pl ql (by omega) (by omega)).mono ?_); rintro e w5 ⟨A5, c5, L, rfl, hO5, hl5, hv5, hn5, hG5⟩); obtain ⟨y5, rfl⟩ := Grew.trans (show Grew wb _ by first | exact After.grew _ | exact (After.grew _).drew) hG5)
            | (go_at_call 28; ((with_reducible refine (made_c false _ _ _ _ hO5.at hl5 (by omega) hO5.cap.1 hO5.cap.2).mono ?_); rintro e w6 ⟨A6, c6, ng, M, k, rfl, hO6, hOut, hG6⟩); obtain ⟨y6, rfl⟩ := Grew.trans (show Grew wb _ by first | exact After.grew _ | exact (After.grew _).drew) hG6)))
          all_goals
            have HF := hid (show ∀ g, A6 = some ⟨g, 0, none⟩ → g ≠ w.heap.size + 1 + 1 from fun g hA => by
              have h1 := (World.ownsRow.lt (OwnNums.mono hO6 (by first | exact After.grew _ | exact (After.grew _).drew) : OwnNums _ wb _ _ _ _ _)) g (by rw [hA]; rfl)
              omega)
            have HO := hid (OwnNums.mono (w0 := wb) hO6 (by first | exact After.grew _ | exact (After.grew _).drew))
            have HX := hid (show Lg.num _ xs + flip sub (Lg.num nb ys) = _ from by rw [HN.out, ← (show Lg.sgn false (Dg.val 2 L) = Lg.sgn false (Dg.val 2 P) + Lg.sgn (!true) (Dg.val 2 Q) from by rw [hv5]; simp [Lg.sgn] <;> omega)])
            have HOut := hid hOut
            clear hOut hv5
            go_wp2_with fail
            refine bodyPost_ret (v := .tuple #[.agg #[.bool ng, .slice A6 M.length c6], .int .i64 ((k : Nat) : Int)]) (by simp [results, Tryz.results8, go_sem, *]) rfl ?_
            exact ⟨A6, c6, ng, M, k, rfl, ((HO.out.mono HG.out).far (fun g hA => HF.out g hA) _).far (fun g hA => HF.out g hA) _, OutA.mk (fun _ => by rw [HX.out]; exact HOut.out) (fun h => by simp [hma, hmb] at h), ((HG.out.trans (After.grew y6)).setCell (by simp <;> omega) _).setCell (by simp <;> omega) _⟩
        · go_wp2_with fail
          go_region_with ((first
            | (go_at_call 29; ((with_reducible refine (plus_c A3 c3 P A4 c4 Q _ (hO3.at.grew (by first | exact Grew.refl _ | exact (Grew.refl _).drew)) (hO4.at.grew (by first | exact Grew.refl _ | exact (Grew.refl _).drew)) pl ql (by omega) (by omega)).mono ?_); rintro e w5 ⟨A5, c5, L, rfl, hO5, hl5, hv5, hn5, hG5⟩); obtain ⟨y5, rfl⟩ := Grew.trans (show Grew wb _ by first | exact After.grew _ | exact (After.grew _).drew) hG5)
            | (go_at_call 28; ((with_reducible refine (made_c true _ _ _ _ hO5.at hl5 (by omega) hO5.cap.1 hO5.cap.2).mono ?_); rintro e w6 ⟨A6, c6, ng, M, k, rfl, hO6, hOut, hG6⟩); obtain ⟨y6, rfl⟩ := Grew.trans (show Grew wb _ by first | exact After.grew _ | exact (After.grew _).drew) hG6)))
          all_goals
            have HF := hid (show ∀ g, A6 = some ⟨g, 0, none⟩ → g ≠ w.heap.size + 1 + 1 from fun g hA => by
              have h1 := (World.ownsRow.lt (OwnNums.mono hO6 (by first | exact After.grew _ | exact (After.grew _).drew) : OwnNums _ wb _ _ _ _ _)) g (by rw [hA]; rfl)
              omega)
            have HO := hid (OwnNums.mono (w0 := wb) hO6 (by first | exact After.grew _ | exact (After.grew _).drew))
            have HX := hid (show Lg.num _ xs + flip sub (Lg.num nb ys) = _ from by rw [HN.out, ← (show Lg.sgn true (Dg.val 2 L) = Lg.sgn true (Dg.val 2 P) + Lg.sgn (!false) (Dg.val 2 Q) from by rw [hv5]; simp [Lg.sgn] <;> omega)])
            have HOut := hid hOut
            clear hOut hv5
            go_wp2_with fail
            refine bodyPost_ret (v := .tuple #[.agg #[.bool ng, .slice A6 M.length c6], .int .i64 ((k : Nat) : Int)]) (by simp [results, Tryz.results8, go_sem, *]) rfl ?_
            exact ⟨A6, c6, ng, M, k, rfl, ((HO.out.mono HG.out).far (fun g hA => HF.out g hA) _).far (fun g hA => HF.out g hA) _, OutA.mk (fun _ => by rw [HX.out]; exact HOut.out) (fun h => by simp [hma, hmb] at h), ((HG.out.trans (After.grew y6)).setCell (by simp <;> omega) _).setCell (by simp <;> omega) _⟩
        · go_wp2_with fail
          refine (more_c A3 c3 P A4 c4 Q _ hO3.at hO4.at pl ql pt qt (by omega) (by omega)).mono ?_
          by_cases hle : Dg.val 2 Q ≤ Dg.val 2 P
          · rw [decide_eq_true hle]
            rintro e w5 ⟨rfl, hg5⟩
            replace hO3 := hO3.grew hg5
            replace hO4 := hO4.grew hg5
            obtain ⟨y5, rfl⟩ := y.grew.trans hg5
            clear hg5
            have HLE := hid hle
            clear hle
            go_wp2_with fail
            have hle := HLE.out
            go_region_with ((first
              | (go_at_call 31; ((with_reducible refine (minus_c A3 c3 P A4 c4 Q _ (hO3.at.grew (by first | exact Grew.refl _ | exact (Grew.refl _).drew)) (hO4.at.grew (by first | exact Grew.refl _ | exact (Grew.refl _).drew)) pl ql qt hle (by omega)).mono ?_); rintro e w5 ⟨A5, c5, L, rfl, hO5, hl5, ht5, hv5, hn5, hG5⟩); obtain ⟨y5, rfl⟩ := Grew.trans (show Grew wb _ by first | exact After.grew _ | exact (After.grew _).drew) hG5)
              | (go_at_call 28; ((with_reducible refine (made_c true _ _ _ _ hO5.at hl5 (by omega) hO5.cap.1 hO5.cap.2).mono ?_); rintro e w6 ⟨A6, c6, ng, M, k, rfl, hO6, hOut, hG6⟩); obtain ⟨y6, rfl⟩ := Grew.trans (show Grew wb _ by first | exact After.grew _ | exact (After.grew _).drew) hG6)))
            all_goals
              have HF := hid (show ∀ g, A6 = some ⟨g, 0, none⟩ → g ≠ w.heap.size + 1 + 1 from fun g hA => by
                have h1 := (World.ownsRow.lt (OwnNums.mono hO6 (by first | exact After.grew _ | exact (After.grew _).drew) : OwnNums _ wb _ _ _ _ _)) g (by rw [hA]; rfl)
                omega)
              have HO := hid (OwnNums.mono (w0 := wb) hO6 (by first | exact After.grew _ | exact (After.grew _).drew))
              have HX := hid (show Lg.num _ xs + flip sub (Lg.num nb ys) = _ from by rw [HN.out, ← (show Lg.sgn true (Dg.val 2 L) = Lg.sgn true (Dg.val 2 P) + Lg.sgn (!true) (Dg.val 2 Q) from by rw [hv5]; simp [Lg.sgn] <;> omega)])
              have HOut := hid hOut
              clear hOut hv5
              go_wp2_with fail
              refine bodyPost_ret (v := .tuple #[.agg #[.bool ng, .slice A6 M.length c6], .int .i64 ((k : Nat) : Int)]) (by simp [results, Tryz.results8, go_sem, *]) rfl ?_
              exact ⟨A6, c6, ng, M, k, rfl, ((HO.out.mono HG.out).far (fun g hA => HF.out g hA) _).far (fun g hA => HF.out g hA) _, OutA.mk (fun _ => by rw [HX.out]; exact HOut.out) (fun h => by simp [hma, hmb] at h), ((HG.out.trans (After.grew y6)).setCell (by simp <;> omega) _).setCell (by simp <;> omega) _⟩
          · rw [decide_eq_false hle]
            rintro e w5 ⟨rfl, hg5⟩
            replace hO3 := hO3.grew hg5
            replace hO4 := hO4.grew hg5
            obtain ⟨y5, rfl⟩ := y.grew.trans hg5
            clear hg5
            go_wp2_with (first
              | (go_at_call 31; ((with_reducible refine (minus_c A4 c4 Q A3 c3 P _ (hO4.at.grew (by first | exact Grew.refl _ | exact (Grew.refl _).drew)) (hO3.at.grew (by first | exact Grew.refl _ | exact (Grew.refl _).drew)) ql pl pt (by omega) (by omega)).mono ?_); rintro e w5 ⟨A5, c5, L, rfl, hO5, hl5, ht5, hv5, hn5, hG5⟩); obtain ⟨y5, rfl⟩ := Grew.trans (show Grew wb _ by first | exact After.grew _ | exact (After.grew _).drew) hG5)
              | (go_at_call 28; ((with_reducible refine (made_c false _ _ _ _ hO5.at hl5 (by omega) hO5.cap.1 hO5.cap.2).mono ?_); rintro e w6 ⟨A6, c6, ng, M, k, rfl, hO6, hOut, hG6⟩); obtain ⟨y6, rfl⟩ := Grew.trans (show Grew wb _ by first | exact After.grew _ | exact (After.grew _).drew) hG6))
            have HF := hid (show ∀ g, A6 = some ⟨g, 0, none⟩ → g ≠ w.heap.size + 1 + 1 from fun g hA => by
              have h1 := (World.ownsRow.lt (OwnNums.mono hO6 (by first | exact After.grew _ | exact (After.grew _).drew) : OwnNums _ wb _ _ _ _ _)) g (by rw [hA]; rfl)
              omega)
            have HO := hid (OwnNums.mono (w0 := wb) hO6 (by first | exact After.grew _ | exact (After.grew _).drew))
            have HX := hid (show Lg.num _ xs + flip sub (Lg.num nb ys) = _ from by rw [HN.out, ← (show Lg.sgn false (Dg.val 2 L) = Lg.sgn true (Dg.val 2 P) + Lg.sgn (!true) (Dg.val 2 Q) from by rw [hv5]; simp [Lg.sgn] <;> omega)])
            have HOut := hid hOut
            clear hOut hv5
            go_wp2_with fail
            refine bodyPost_ret (v := .tuple #[.agg #[.bool ng, .slice A6 M.length c6], .int .i64 ((k : Nat) : Int)]) (by simp [results, Tryz.results8, go_sem, *]) rfl ?_
            exact ⟨A6, c6, ng, M, k, rfl, ((HO.out.mono HG.out).far (fun g hA => HF.out g hA) _).far (fun g hA => HF.out g hA) _, OutA.mk (fun _ => by rw [HX.out]; exact HOut.out) (fun h => by simp [hma, hmb] at h), ((HG.out.trans (After.grew y6)).setCell (by simp <;> omega) _).setCell (by simp <;> omega) _⟩
end Go.Proofs.YtmcfciifjgdgoaaGreatDoor

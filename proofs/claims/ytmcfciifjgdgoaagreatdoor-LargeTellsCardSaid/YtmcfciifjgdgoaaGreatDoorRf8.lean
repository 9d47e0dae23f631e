/- The walks of the document's own large numbers, part 8: products. -/
import Derived.Test.YtmcfciifjgdgoaaGreatDoorRf7
namespace Go.Proofs.YtmcfciifjgdgoaaGreatDoor
open Go.RowKit

theorem OwnNums.made1 (k : IntKind) (w0 w : World) (e : TypeId) (x : Nat) (hg : Grew w0 w) : OwnNums k w0 (w.alloc (.cells #[.int k ((x : Nat) : Int)] e)) e (some ⟨w.heap.size, 0, none⟩) 1 [x] := by
  refine ⟨by simp [numCells], .inr ⟨w.heap.size, 1, #[.int k ((x : Nat) : Int)], rfl, hg.below.size, heap_alloc_new w _, Nat.le_refl _, by decide, rfl, by simp [numCells]⟩⟩
theorem mul_round {P Q L : List Nat} {m : Nat} (hm : m < Q.length) (hv : Dg.val 2 L = Dg.val 2 P * Dg.val 2 (Q.drop (m + 1))) :
    (Q.getD m 0 = 0 → Dg.val 2 ([0] ++ L) = Dg.val 2 P * Dg.val 2 (Q.drop m)) ∧ (Q.getD m 0 = 1 → Dg.val 2 ([0] ++ L) + Dg.val 2 P = Dg.val 2 P * Dg.val 2 (Q.drop m)) := by
  have e : Dg.val 2 ([0] ++ L) = 2 * Dg.val 2 L := by simp
  rw [e, hv, Dg.val_drop 2 hm]
  refine ⟨fun h => ?_, fun h => ?_⟩
  · rw [h, Nat.zero_add, ← Nat.mul_assoc, ← Nat.mul_assoc, Nat.mul_comm 2]
  · rw [h, Nat.mul_add, Nat.mul_one, ← Nat.mul_assoc, ← Nat.mul_assoc, Nat.mul_comm 2]
    omega

set_option maxHeartbeats 8000000 in
theorem rmul_c (na : Bool) (A : Option Addr) (c : Nat) (xs : List Nat) (nb : Bool) (B : Option Addr) (d : Nat) (ys : List Nat) (w : World) (ha : NumsAt .u32 w w.heap.size A xs) (hb : NumsAt .u32 w w.heap.size B ys) (lx : Dg.Low 4294967296 xs) (ly : Dg.Low 4294967296 ys) (hn : xs.length ≤ 1000000000000) (hm : ys.length ≤ 1000000000000) :
    Calls Tryz.prog 11 #[.agg #[.bool na, .slice A xs.length c], .agg #[.bool nb, .slice B ys.length d]] w fun e w' => ∃ A' c' ng L k, e = .returned (.tuple #[.agg #[.bool ng, .slice A' L.length c'], .int .i64 ((k : Nat) : Int)]) ∧ OwnNums .u32 w w' 55 A' c' L ∧ OutA (Lg.may na xs && Lg.may nb ys) (Lg.num na xs * Lg.num nb ys) ng L k ∧ Grew w w' := by
  have HA := hid ha
  have HB := hid hb
  clear ha hb
  have hbox := Box3.mk' w 24 24 24 na A xs.length c nb B ys.length d
  go_enter Tryz.func11, Tryz.ntmps11
  go_wp2_with fail
  generalize ((w.alloc (.cells #[.bool na, .slice A xs.length c] 24)).alloc (.cells #[.bool nb, .slice B ys.length d] 24)).alloc (.cells #[.bool false, .slice none 0 0] 24) = wb at *
  obtain ⟨hg, l0, l1, l2, a0, a1, b0, b1, r0, r1, fr⟩ := hbox
  have HG := hid hg
  clear hg
  refine (may_c na A c xs wb (HA.out.grew HG.out) hn).mono ?_
  cases hma : Lg.may na xs
  · rintro e w1 ⟨rfl, y1, rfl⟩
    go_wp2_with fail
    refine bodyPost_ret (v := .tuple #[.agg #[.bool false, .slice none 0 0], .int .i64 1]) (by simp [results, Tryz.results11, go_sem, *]) rfl ?_
    exact ⟨none, 0, false, [], 1, rfl, OwnNums.nil _ _ _ _, OutA.mk (fun h => by simp [*] at h) (fun _ => ⟨rfl, rfl, rfl⟩), ((HG.out.trans y1.grew).setCell (by simp <;> omega) _).setCell (by simp <;> omega) _⟩
  · rintro e w1 ⟨rfl, y1, rfl⟩
    go_wp2_with fail
    refine (Calls.grew y1.grew (may_c nb B d ys _ ((HB.out.grew HG.out).grew y1.grew) hm)).mono ?_
    cases hmb : Lg.may nb ys
    · rintro e w1 ⟨rfl, y2, rfl⟩
      go_wp2_with fail
      refine bodyPost_ret (v := .tuple #[.agg #[.bool false, .slice none 0 0], .int .i64 1]) (by simp [results, Tryz.results11, go_sem, *]) rfl ?_
      exact ⟨none, 0, false, [], 1, rfl, OwnNums.nil _ _ _ _, OutA.mk (fun h => by simp [*] at h) (fun _ => ⟨rfl, rfl, rfl⟩), ((HG.out.trans y2.grew).setCell (by simp <;> omega) _).setCell (by simp <;> omega) _⟩
    · rintro e w1 ⟨rfl, y2, rfl⟩
      have hlx := (Lg.may_iff.1 hma).1
      have hly := (Lg.may_iff.1 hmb).1
      go_upto_region 3 with fail
      go_cut [6, 7] (fun s8 s9 wx => ∃ (A3 : Option Addr) (c3 : Nat) (A4 : Option Addr) (c4 : Nat) (y : After wb), s8 = .slice A3 (Dg.cut (flat xs)).length c3 ∧ s9 = .slice A4 (Dg.cut (flat ys)).length c4 ∧ OwnNums .u8 wb y.w 5 A3 c3 (Dg.cut (flat xs)) ∧ OwnNums .u8 wb y.w 5 A4 c4 (Dg.cut (flat ys)) ∧ wx = y.w)
      case first =>
        go_region_with ((first
          | (go_at_call 27; ((with_reducible refine (bits_c A c xs _ (HA.out.grew (HG.out.trans (by first | exact After.grew _ | exact (After.grew _).drew))) (by omega)).mono ?_); rintro e w3 ⟨A3, c3, rfl, hO3, hG3⟩); obtain ⟨y3, rfl⟩ := Grew.trans (show Grew wb _ by first | exact After.grew _ | exact (After.grew _).drew) hG3)
          | (go_at_call 27; ((with_reducible refine (bits_c B d ys _ (HB.out.grew (HG.out.trans (by first | exact After.grew _ | exact (After.grew _).drew))) (by omega)).mono ?_); rintro e w4 ⟨A4, c4, rfl, hO4, hG4⟩); obtain ⟨y4, rfl⟩ := Grew.trans (show Grew wb _ by first | exact After.grew _ | exact (After.grew _).drew) hG4)))
        all_goals
          go_wp2_with fail
          go_meet
          case rel => exact ⟨A3, c3, A4, c4, y4, rfl, rfl, (OwnNums.mono hO3 (by first | exact After.grew _ | exact (After.grew _).drew)).grew hG4, OwnNums.mono hO4 (by first | exact After.grew _ | exact (After.grew _).drew), rfl⟩
      case rest =>
        obtain ⟨A3, c3, A4, c4, y, rfl, rfl, hO3, hO4, rfl⟩ := hcut
        obtain ⟨pl, pt, pv, pn⟩ := bits_of xs lx
        obtain ⟨ql, qt, qv, qn⟩ := bits_of ys ly
        generalize Dg.cut (flat xs) = P at *
        generalize Dg.cut (flat ys) = Q at *
        have HN : Hid (Lg.num na xs * Lg.num nb ys = Lg.sgn (!(na == nb)) (Dg.val 2 P * Dg.val 2 Q)) := hid (by rw [Lg.num, Lg.num, prod_sgn, pv, qv])
        have hPl : P.length ≤ 2048 := by omega
        have hQl : Q.length ≤ 2048 := by omega
        have HO3 := hid hO3
        have HO4 := hid hO4
        clear pv qv pn qn hO3 hO4
        go_wp2_with fail
        go_loopw [8, 9] (fun s i wr => ∃ (k : Nat) (E : Option Addr) (f : Nat) (L : List Nat) (z : After wb), i = .int .i64 ((k : Int) - 1) ∧ s = .slice E L.length f ∧ OwnNums .u8 wb wr 5 E f L ∧ wr = z.w ∧ OwnNums .u8 wb wr 5 A3 c3 P ∧ OwnNums .u8 wb wr 5 A4 c4 Q ∧ k ≤ Q.length ∧ L.length ≤ 2100 + 2 * (Q.length - k) ∧ Hid (Dg.Low 2 L ∧ Dg.val 2 L = Dg.val 2 P * Dg.val 2 (Q.drop k))) (fun _ i _ => (intOf i + 1).toNat)
        case atStart => exact ⟨Q.length, none, 0, [], y, by go_num, rfl, OwnNums.nil _ _ _ _, rfl, HO3.out, HO4.out, Nat.le_refl _, by simp, hid ⟨Dg.Low.nil 2, by simp⟩⟩
        case round =>
          clear HO3 HO4
          obtain ⟨k, E, f, L, z, rfl, rfl, hown, rfl, hO3, hO4, hk, hLl, HL⟩ := hrel
          rcases Nat.eq_zero_or_pos k with h0 | h0
          · subst h0
            have HV := hid (show Dg.val 2 L = Dg.val 2 P * Dg.val 2 Q by simpa using HL.out.2)
            have HLo := hid HL.out.1
            have hLb : L.length ≤ 10000 := by omega
            clear HL hLl
            go_wp2_with ((go_at_call 28; refine (made_c _ _ _ _ _ hown.at HLo.out (by omega) hown.cap.1 hown.cap.2).mono ?_; rintro e w6 ⟨A6, c6, ng, M, k, rfl, hO6, hOut, hG6⟩; obtain ⟨y6, rfl⟩ := z.grew.trans hG6))
            have HF := hid (show ∀ g, A6 = some ⟨g, 0, none⟩ → g ≠ w.heap.size + 1 + 1 from fun g hA => by
              have h1 := (World.ownsRow.lt (OwnNums.mono hO6 z.grew : OwnNums _ wb _ _ _ _ _)) g (by rw [hA]; rfl)
              omega)
            have HO := hid (OwnNums.mono (w0 := wb) hO6 z.grew)
            have HOut := hid (show Lg.Out (Lg.num na xs * Lg.num nb ys) ng M k by rw [HN.out, ← HV.out]; exact hOut)
            refine bodyPost_ret (v := .tuple #[.agg #[.bool ng, .slice A6 M.length c6], .int .i64 ((k : Nat) : Int)]) (by simp [results, Tryz.results11, go_sem, *]) rfl ?_
            exact ⟨A6, c6, ng, M, k, rfl, ((HO.out.mono HG.out).far (fun g hA => HF.out g hA) _).far (fun g hA => HF.out g hA) _, OutA.mk (fun _ => HOut.out) (fun h => by simp [hma, hmb] at h), ((HG.out.trans (After.grew y6)).setCell (by simp <;> omega) _).setCell (by simp <;> omega) _⟩
          · obtain ⟨m, rfl⟩ : ∃ m, k = m + 1 := ⟨k - 1, by omega⟩
            have hmr := mul_round (show m < Q.length by omega) HL.out.2
            have hx := Dg.Low.getD (by decide) ql m
            obtain ⟨ad, rfl, had, hca⟩ := hO4.at (by omega)
            have hcm := hca m (by omega)
            clear hca
            generalize Q.getD m 0 = x at *
            rcases (show x = 0 ∨ x = 1 by omega) with rfl | rfl
            · have HR := hid (hmr.1 rfl)
              clear hmr
              go_wp2_with (at_builtin; refine wpList_catM .u8 1 z.w _ rfl _ _ 57 5 rfl Tryz.underlying57 Tryz.info_u8 ((Grew.refl _).alloc _) (some ⟨z.w.heap.size, 0, none⟩) 1 [0] rfl (OwnNums.made1 .u8 z.w z.w 5 0 (Grew.refl _)) E f L rfl ((hown.alloc _).at) (by simp; omega) (by simp; omega) ?_; rintro A' c' M W1 hM hO hG; have hcm1 : W1.cell? (ad.add m) = some (.int .u8 ((0 : Nat) : Int)) := (hG.below.cell (by rw [block_add]; exact had)).trans hcm)
              have hMl : M.length = 1 + L.length := by rw [hM.out]; simp; omega
              replace hO3 := hO3.grew hG
              replace hO4 := hO4.grew hG
              replace hO := hO.mono z.grew
              obtain ⟨z2, rfl⟩ := z.grew.trans hG
              have HLow := hid (show Dg.Low 2 M by rw [hM.out]; exact Dg.Low.cons (by decide) HL.out.1)
              have HV := hid (show Dg.val 2 M = Dg.val 2 P * Dg.val 2 (Q.drop m) by rw [hM.out]; exact HR.out)
              go_roundw
              case rel => exact ⟨m, A', c', M, z2, by go_num, rfl, hO, rfl, hO3, hO4, by omega, by omega, hid ⟨HLow.out, HV.out⟩⟩
              case measure => simp [intOf]
            · have HR := hid (hmr.2 rfl)
              clear hmr
              go_wp2_with (at_builtin; refine wpList_catM .u8 1 z.w _ rfl _ _ 57 5 rfl Tryz.underlying57 Tryz.info_u8 ((Grew.refl _).alloc _) (some ⟨z.w.heap.size, 0, none⟩) 1 [0] rfl (OwnNums.made1 .u8 z.w z.w 5 0 (Grew.refl _)) E f L rfl ((hown.alloc _).at) (by simp; omega) (by simp; omega) ?_; rintro A' c' M W1 hM hO hG; have hcm1 : W1.cell? (ad.add m) = some (.int .u8 ((1 : Nat) : Int)) := (hG.below.cell (by rw [block_add]; exact had)).trans hcm)
              have hMl : M.length = 1 + L.length := by rw [hM.out]; simp; omega
              have HLow := hid (show Dg.Low 2 M by rw [hM.out]; exact Dg.Low.cons (by decide) HL.out.1)
              have HV := hid (show Dg.val 2 M + Dg.val 2 P = Dg.val 2 P * Dg.val 2 (Q.drop m) by rw [hM.out]; exact HR.out)
              replace hO3 := hO3.grew hG
              replace hO4 := hO4.grew hG
              refine (plus_c A' c' M A3 c3 P _ hO.at hO3.at HLow.out pl (by omega) (by omega)).mono ?_
              rintro e W2 ⟨A5, c5, N, rfl, hO5, hl5, hv5, hn5, hG5⟩
              replace hO3 := hO3.grew hG5
              replace hO4 := hO4.grew hG5
              replace hO5 := hO5.mono (z.grew.trans hG)
              obtain ⟨z2, rfl⟩ := (z.grew.trans hG).trans hG5
              have HV5 := hid (hv5.trans HV.out)
              clear hv5
              go_wp2_with fail
              go_roundw
              case rel => exact ⟨m, A5, c5, N, z2, by go_num, rfl, hO5, rfl, hO3, hO4, by omega, by omega, hid ⟨hl5, HV5.out⟩⟩
              case measure => simp [intOf]
end Go.Proofs.YtmcfciifjgdgoaaGreatDoor

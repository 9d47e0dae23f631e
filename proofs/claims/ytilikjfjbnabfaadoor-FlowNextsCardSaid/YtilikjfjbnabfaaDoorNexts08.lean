/- Law FlowNexts walked. -/
import Derived.Test.YtilikjfjbnabfaaDoorFlE
namespace Go.Proofs.YtilikjfjbnabfaaDoor
open Go.RowKit

theorem decode8 {A : Option Addr} {c : Nat} {bs : List Nat} {w : World} {l : List Op7.Ins} {os : List Nat} (h : Arg w A c bs) (hd : Op7.decR bs = (l, os, 0)) :
    Calls Tryd.prog 9 #[.slice A bs.length c] w fun e w' => ∃ A1 c1 A2 c2 n, e = .returned (.tuple #[.slice A1 n c1, .slice A2 n c2, .nilIface]) ∧ n = l.length ∧ OpsAt w' w'.heap.size A1 l ∧ n ≤ c1 ∧ c1 ≤ 9223372036854775807 ∧ Grew w w' :=
  (odecode_c A c bs w h.at_ h.tab h.cap h.max).mono fun _ _ ⟨A1, c1, A2, c2, L, h1, h2, h3, h4, h5⟩ => by
    rw [hd] at h1 h2 h4
    subst h2
    exact ⟨A1, c1, A2, c2, L.length, by rw [h1]; rfl, rfl, h3.ops, h3.1.cases.2.1, h3.1.cases.2.2.1, h5⟩
theorem up_at {s : List Nat} (h : s.Pairwise (· < ·)) {k : Nat} (hk : k + 1 < s.length) : s.getD k 0 < s.getD (k + 1) 0 := by
  have := List.pairwise_iff_getElem.1 h k (k + 1) (by omega) hk (by omega)
  simpa [List.getD_eq_getElem?_getD, hk, show k < s.length by omega] using this
set_option maxRecDepth 100000 in
set_option maxHeartbeats 4000000 in
theorem nexts_walk (A : Option Addr) (c : Nat) (bs : List Nat) (w : World) (h : Arg w A c bs) (hh : HandleAt w) :
    Calls Tryd.prog 5 #[.slice A bs.length c] w fun e w' => e = .returned (.bool true) ∧ Grew w w' := by
  have HZ := hid (fun w' (hg : Grew w w') => sure_c w' (hh.grew hg) (h.tab.grew hg))
  have HU := hid (fun w' (hg : Grew w w') => sure_u w' (hh.grew hg) 3 (by decide))
  have HA := hid (fun w' (hg : Grew w w') => h.grew hg)
  have HBy := hid h.at_.1
  clear hh
  obtain ⟨n0, en⟩ : ∃ n0, n0 = bs.length := ⟨_, rfl⟩
  by_cases h6 : 600 < n0
  · have f6 : (600 : Int) < n0 := by omega
    rw [← en]
    clear h HU HA HBy en
    go_enter Tryd.func5, Tryd.ntmps5
    go_wp2_with fail
    refine (HZ.out _ (Grew.refl _)).mono ?_
    rintro e w1 ⟨rfl, hg⟩
    go_wp2_with fail
    go_ret
    exact ⟨rfl, hg⟩
  have f6 : ¬ (600 : Int) < n0 := by omega
  rcases well_or_bad bs with ⟨l, os, G, D, hW⟩ | ⟨k, hb⟩
  · have HC := hid (check_ok h hW)
    have HD := hid (fun w' (hg : Grew w w') => decode8 (HA.out w' hg) hW.dec)
    have HNx := hid (fun w' (hg : Grew w w') i (hi : i < l.length) s (hs : Fl.succ l os i = some s) => next_ok (HA.out w' hg) hW.dec hi hs)
    have HNo := hid (fun w' (hg : Grew w w') i (hi : l.length ≤ i) => next_out (HA.out w' hg) hW.dec hi)
    have HW := hid hW
    rw [← en] at HC HD HNx HNo ⊢
    clear h HA hW en h6
    go_enter Tryd.func5, Tryd.ntmps5
    go_wp2_with fail
    refine HC.out.mono ?_
    rintro e w1 ⟨rfl, hg1⟩
    have G1 := hid hg1
    clear hg1 HC
    go_wp2_with fail
    refine (HD.out _ G1.out).mono ?_
    rintro e w2 ⟨A1, c1, A2, c2, n, rfl, hn, hO, hn1, hn2, hg2⟩
    have HN := hid hn
    have HO := hid hO
    have G2 := hid (G1.out.trans hg2)
    clear hn hO hg2 G1 HD
    go_wp2_with fail
    go_loopw [6] (fun s6 wr => ∃ i : Nat, s6 = .int .i64 ((i : Nat) : Int) ∧ i ≤ n ∧ (∃ y : After w2, wr = y.w)) (fun s6 _ => n - (intOf s6).toNat)
    case atStart => exact ⟨0, rfl, Nat.zero_le _, Grew.refl _⟩
    case round =>
      obtain ⟨i, rfl, hi, y, rfl⟩ := hrel
      by_cases hlt : i < n
      · have f1 : (i : Int) < n := by omega
        obtain ⟨o, ho⟩ : ∃ o, l[i]? = some o := ⟨_, List.getElem?_eq_getElem (show i < l.length by rw [← HN.out]; exact hlt)⟩
        obtain ⟨s, hsg, hss⟩ := Fl.graph_succ HW.out.graph (i := i) (by rw [← HN.out]; exact hlt)
        have HE := hid (Fl.succ_ends hss ho)
        have HUp := hid (Fl.succ_up hss)
        have HLt := hid (Fl.succ_lt HW.out.os_len hss)
        have HCx := hid (HNx.out y.w (G2.out.trans y.grew) i (by rw [← HN.out]; exact hlt) s hss)
        obtain ⟨ad, rfl, hb, hc⟩ := HO.out.2 (by rw [← HN.out]; omega)
        have HQ := hid (op_cell (o := o) (i := i) (ad := ad) (w := w2) (hc i o ho))
        clear hsg hss hc ho
        go_wp2_with fail
        refine HCx.out.mono ?_
        clear HCx
        rintro e w3 ⟨A3, c3, t, rfl, ht, hR, hg3⟩
        subst ht
        have HR := hid hR.nums
        have G3 := hid (y.grew.trans hg3)
        obtain ⟨y3, rfl⟩ := G3.out
        obtain ⟨q0, _, _⟩ := HQ.out
        obtain ⟨m, hm⟩ : ∃ m, m = t.length := ⟨_, rfl⟩
        rw [← hm]
        have hE : ((m : Int) == 0) = Fl.ends o.code := by
          rw [Bool.eq_iff_iff, ← HE.out, beq_iff_eq]
          constructor
          · intro h0
            exact List.eq_nil_of_length_eq_zero (by omega)
          · intro h0
            rw [h0] at hm
            simp at hm
            omega
        have HM := hid hm
        have hmx : m ≤ 9223372036854775807 := by have := hR.cases; omega
        clear hm hR hg3 HE HQ
        obtain ⟨cd, oa, ob⟩ := o
        simp only at q0 hE
        have f2 : (i : Int) + 1 ≤ n := by omega
        rcases (by omega : cd = 17 ∨ cd = 18 ∨ cd = 19 ∨ (cd ≠ 17 ∧ cd ≠ 18 ∧ cd ≠ 19)) with rfl | rfl | rfl | ⟨n17, n18, n19⟩
        · rw [show Fl.ends 17 = true from rfl] at hE
          have HZ0 := hid (show m = 0 by have := beq_iff_eq.1 hE; omega)
          go_wp2_with fail
          clear hE q0
          go_loopw [10] (fun s10 wr => ∃ k : Nat, s10 = .int .i64 ((k : Nat) : Int) ∧ k ≤ m ∧ (∃ y : After y3.w, wr = y.w)) (fun s10 _ => m - (intOf s10).toNat)
          case atStart => exact ⟨0, rfl, Nat.zero_le _, Grew.refl _⟩
          case round =>
            obtain ⟨k, rfl, hk, y4, rfl⟩ := hrel
            by_cases hkm : k < m
            · exfalso
              have := HZ0.out
              omega
            · obtain rfl : k = m := by omega
              go_wp2_with fail
              go_round
              case rel => exact ⟨i + 1, by go_num, by omega, G3.out.trans y4.grew⟩
              case measure => simp [intOf]; omega
        · rw [show Fl.ends 18 = true from rfl] at hE
          have HZ0 := hid (show m = 0 by have := beq_iff_eq.1 hE; omega)
          go_wp2_with fail
          clear hE q0
          go_loopw [10] (fun s10 wr => ∃ k : Nat, s10 = .int .i64 ((k : Nat) : Int) ∧ k ≤ m ∧ (∃ y : After y3.w, wr = y.w)) (fun s10 _ => m - (intOf s10).toNat)
          case atStart => exact ⟨0, rfl, Nat.zero_le _, Grew.refl _⟩
          case round =>
            obtain ⟨k, rfl, hk, y4, rfl⟩ := hrel
            by_cases hkm : k < m
            · exfalso
              have := HZ0.out
              omega
            · obtain rfl : k = m := by omega
              go_wp2_with fail
              go_round
              case rel => exact ⟨i + 1, by go_num, by omega, G3.out.trans y4.grew⟩
              case measure => simp [intOf]; omega
        · rw [show Fl.ends 19 = true from rfl] at hE
          have HZ0 := hid (show m = 0 by have := beq_iff_eq.1 hE; omega)
          go_wp2_with fail
          clear hE q0
          go_loopw [10] (fun s10 wr => ∃ k : Nat, s10 = .int .i64 ((k : Nat) : Int) ∧ k ≤ m ∧ (∃ y : After y3.w, wr = y.w)) (fun s10 _ => m - (intOf s10).toNat)
          case atStart => exact ⟨0, rfl, Nat.zero_le _, Grew.refl _⟩
          case round =>
            obtain ⟨k, rfl, hk, y4, rfl⟩ := hrel
            by_cases hkm : k < m
            · exfalso
              have := HZ0.out
              omega
            · obtain rfl : k = m := by omega
              go_wp2_with fail
              go_round
              case rel => exact ⟨i + 1, by go_num, by omega, G3.out.trans y4.grew⟩
              case measure => simp [intOf]; omega
        · rw [show Fl.ends cd = false by unfold Fl.ends; simp [n17, n18, n19]] at hE
          have e17 : (((cd : Nat) : Int) == 17) = false := by rw [beq_eq_false_iff_ne]; omega
          have e18 : (((cd : Nat) : Int) == 18) = false := by rw [beq_eq_false_iff_ne]; omega
          have e19 : (((cd : Nat) : Int) == 19) = false := by rw [beq_eq_false_iff_ne]; omega
          go_wp2_with fail
          clear hE q0
          go_loopw [10] (fun s10 wr => ∃ k : Nat, s10 = .int .i64 ((k : Nat) : Int) ∧ k ≤ m ∧ (∃ y : After y3.w, wr = y.w)) (fun s10 _ => m - (intOf s10).toNat)
          case atStart => exact ⟨0, rfl, Nat.zero_le _, Grew.refl _⟩
          case round =>
            obtain ⟨k, rfl, hk, y4, rfl⟩ := hrel
            by_cases hkm : k < m
            · have f3 : (k : Int) < m := by omega
              obtain ⟨bd, rfl, hbd, hcb⟩ := HR.out (by rw [← HM.out]; omega)
              have q1 := (y4.grew.below.cell (by rw [block_add]; exact hbd)).trans (hcb k (by rw [← HM.out]; exact hkm))
              have hx := HLt.out (t.getD k 0) (by
                rw [List.getD_eq_getElem?_getD, List.getElem?_eq_getElem (by rw [← HM.out]; exact hkm)]
                exact List.getElem_mem _)
              rw [← HN.out] at hx
              rcases Nat.eq_zero_or_pos k with hk0 | hk0
              · have q0' := hcb k (by rw [← HM.out]; exact hkm)
                generalize t.getD k 0 = x at *
                have b1 : decide ((x : Int) < 0) = false := by rw [decide_eq_false_iff_not]; omega
                have b2 : decide (n ≤ x) = false := by rw [decide_eq_false_iff_not]; omega
                have b3 : decide ((0 : Int) < (k : Int)) = false := by rw [decide_eq_false_iff_not]; omega
                have b4 : decide (0 < k) = false := by rw [decide_eq_false_iff_not]; omega
                clear hcb hk0 q1
                go_wp2_with fail
                refine wp_region_grew_from y4.grew (by kernel_rfl) (by kernel_rfl) ?_
                repeat (go_big_quiet_step (fail))
                refine wpQuiet_nil ?_
                rintro _ ⟨z2, rfl⟩
                go_wp2_with fail
                go_round
                case rel => exact ⟨k + 1, by go_num, by omega, z2.grew⟩
                case measure => simp [intOf]; omega
              · obtain ⟨q, rfl⟩ : ∃ q, k = q + 1 := ⟨k - 1, by omega⟩
                have q2 := (y4.grew.below.cell (by rw [block_add]; exact hbd)).trans (hcb q (by rw [← HM.out]; omega))
                have hup := up_at HUp.out (k := q) (by rw [← HM.out]; exact hkm)
                generalize t.getD (q + 1) 0 = x at *
                generalize t.getD q 0 = z at *
                have b1 : decide ((x : Int) < 0) = false := by rw [decide_eq_false_iff_not]; omega
                have b2 : decide (n ≤ x) = false := by rw [decide_eq_false_iff_not]; omega
                have b4 : decide (x ≤ z) = false := by rw [decide_eq_false_iff_not]; omega
                have b3 : decide ((0 : Int) < (q : Int) + 1) = true := by rw [decide_eq_true_iff]; omega
                clear hcb
                rw [show bd.add (q + 1) = ⟨bd.block, bd.off + (q + 1), none⟩ by simp [Addr.add]] at q1
                have g0 : (q : Int) + 1 < m := by omega
                have g1 : (0 : Int) < (q : Int) + 1 := by omega
                have g4 : (0 : Int) ≤ (q : Int) + 1 := by omega
                have g5 : (q : Int) < m := by omega
                have g3 : ((q : Int) + 1).toNat = q + 1 := by omega
                have g2 : IntKind.i64.wrap (q : Int) = q := IntWalk.i64_in _ (by omega)
                go_wp2_with fail
                refine wp_region_still_lit (by kernel_rfl) (by kernel_rfl) ?_
                repeat still_step
                refine wpStill_nil ?_
                go_wp2_with fail
                go_round
                case rel => exact ⟨q + 1 + 1, by go_num, by omega, y4.grew.drew⟩
                case measure => simp [intOf]; omega
            · obtain rfl : k = m := by omega
              go_wp2_with fail
              go_round
              case rel => exact ⟨i + 1, by go_num, by omega, G3.out.trans y4.grew⟩
              case measure => simp [intOf]; omega
      · obtain rfl : i = n := by omega
        have HNz := hid (HNo.out y.w (G2.out.trans y.grew) i (by rw [← HN.out]; exact Nat.le_refl _))
        go_wp2_with fail
        refine HNz.out.mono ?_
        rintro e w3 ⟨rfl, hg3⟩
        have G3 := hid ((G2.out.trans y.grew).trans hg3)
        have HU3 := hid (HU.out _ G3.out)
        clear hg3 HNz HU
        go_wp2_with fail
        refine HU3.out.mono ?_
        rintro e w4 ⟨rfl, hg4⟩
        have G4 := hid (G3.out.trans hg4)
        clear hg4
        go_wp2_with fail
        refine (HZ.out _ G4.out).mono ?_
        rintro e w5 ⟨rfl, hg5⟩
        go_wp2_with fail
        go_ret
        exact ⟨rfl, G4.out.trans hg5⟩
  · have HC := hid (check_bad h hb)
    rw [← en] at HC ⊢
    clear h HU HA HBy en hb h6
    go_enter Tryd.func5, Tryd.ntmps5
    go_wp2_with fail
    refine HC.out.mono ?_
    rintro e w1 ⟨rfl, hg1⟩
    go_wp2_with fail
    refine (HZ.out _ hg1).mono ?_
    rintro e w2 ⟨rfl, hg⟩
    go_wp2_with fail
    go_ret
    exact ⟨rfl, hg1.trans hg⟩
end Go.Proofs.YtilikjfjbnabfaaDoor

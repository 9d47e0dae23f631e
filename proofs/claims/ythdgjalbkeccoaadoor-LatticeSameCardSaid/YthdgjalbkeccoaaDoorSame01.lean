/- LatticeSame: for every two lists of bytes the law returns true, and nothing that was there is changed. Conditions: none of ours. -/
import Derived.Test.YthdgjalbkeccoaaDoorSure01
import Derived.Test.YthdgjalbkeccoaaDoorLatMath5
namespace Go.Proofs.YthdgjalbkeccoaaDoor
open Go.RowKit

set_option maxHeartbeats 16000000 in
theorem same_walk (A B : Option Addr) (c d : Nat) (up vp : List Nat) (w : World) (h : BytesAt w w.heap.size A up) (k : BytesAt w w.heap.size B vp) (hlen : (up.length : Int) ≤ 140737488351232) (klen : (vp.length : Int) ≤ 140737488351232) (hg : HandleAt w) :
    Calls Tryd.prog 7 #[.slice A up.length c, .slice B vp.length d] w fun e w' => e = .returned (.bool true) ∧ Grew w w' := by
  have h1 := hid h
  have k1 := hid k
  have Hg := hid hg
  clear h k hg
  by_cases h20u : up.length ≤ 20
  · have h20u' : (up.length : Int) ≤ 20 := by omega
    by_cases h20v : vp.length ≤ 20
    · have h20v' : (vp.length : Int) ≤ 20 := by omega
      cases hvu : La.valid up
      · go_enter Tryd.func7, Tryd.ntmps7
        go_wp2_with (first | (at_builtin; refine wpList_copy_bytes w rfl _ _ 23 5 rfl Tryd.underlying23 info_u8 A c up _ rfl (by rfl) (by rfl) h1.out (by omega) ?_; rintro A' c' W1 hA hW1; have HA := hid hA; have HW1 := hid hW1; clear hA hW1) | (at_builtin; refine wpList_copy_bytes W1 rfl _ _ 23 5 rfl Tryd.underlying23 info_u8 B d vp _ rfl (by rfl) (by rfl) (k1.out.grew HW1.out) (by omega) ?_; rintro B' d' W2 hB hW2; have HB := hid hB; have HW2 := hid hW2; clear hB hW2))
        have GG := hid (((HW1.out.trans HW2.out).alloc (.cells #[.slice A' up.length c'] 25)).alloc (.cells #[.slice B' vp.length d'] 25))
        have HA3 := hid (HA.out.grew ((HW2.out.alloc (.cells #[.slice A' up.length c'] 25)).alloc (.cells #[.slice B' vp.length d'] 25)))
        have HB3 := hid (HB.out.grew (((Grew.refl W2).alloc (.cells #[.slice A' up.length c'] 25)).alloc (.cells #[.slice B' vp.length d'] 25)))
        have Hg3 := hid (Hg.out.grew GG.out)
        have Hsure := hid (fun (W : World) (hW : Grew ((W2.alloc (.cells #[.slice A' up.length c'] 25)).alloc (.cells #[.slice B' vp.length d'] 25)) W) => Calls.grew hW (sure_c W (Hg3.out.grew hW)))
        have Ccu := hid (fun (W : World) (hW : Grew ((W2.alloc (.cells #[.slice A' up.length c'] 25)).alloc (.cells #[.slice B' vp.length d'] 25)) W) => Calls.grew hW (check_c A' c' up W h20u (HA3.out.grew hW)))
        rw [show errVal (if La.valid up then 0 else 7) = .iface 41 (.int .i64 7) by rw [hvu, if_neg (by simp)]; rfl] at Ccu
        refine (Ccu.out _ (Grew.refl _)).mono ?_
        rintro e w ⟨rfl, z, rfl⟩
        go_wp2_with fail
        refine (Hsure.out _ (After.grew _)).mono ?_
        rintro e w ⟨rfl, z, rfl⟩
        go_wp2_with fail
        go_ret
        exact ⟨rfl, GG.out.trans (After.grew _)⟩
      · cases hvv : La.valid vp
        · go_enter Tryd.func7, Tryd.ntmps7
          go_wp2_with (first | (at_builtin; refine wpList_copy_bytes w rfl _ _ 23 5 rfl Tryd.underlying23 info_u8 A c up _ rfl (by rfl) (by rfl) h1.out (by omega) ?_; rintro A' c' W1 hA hW1; have HA := hid hA; have HW1 := hid hW1; clear hA hW1) | (at_builtin; refine wpList_copy_bytes W1 rfl _ _ 23 5 rfl Tryd.underlying23 info_u8 B d vp _ rfl (by rfl) (by rfl) (k1.out.grew HW1.out) (by omega) ?_; rintro B' d' W2 hB hW2; have HB := hid hB; have HW2 := hid hW2; clear hB hW2))
          have GG := hid (((HW1.out.trans HW2.out).alloc (.cells #[.slice A' up.length c'] 25)).alloc (.cells #[.slice B' vp.length d'] 25))
          have HA3 := hid (HA.out.grew ((HW2.out.alloc (.cells #[.slice A' up.length c'] 25)).alloc (.cells #[.slice B' vp.length d'] 25)))
          have HB3 := hid (HB.out.grew (((Grew.refl W2).alloc (.cells #[.slice A' up.length c'] 25)).alloc (.cells #[.slice B' vp.length d'] 25)))
          have Hg3 := hid (Hg.out.grew GG.out)
          have Hsure := hid (fun (W : World) (hW : Grew ((W2.alloc (.cells #[.slice A' up.length c'] 25)).alloc (.cells #[.slice B' vp.length d'] 25)) W) => Calls.grew hW (sure_c W (Hg3.out.grew hW)))
          have Ccu := hid (fun (W : World) (hW : Grew ((W2.alloc (.cells #[.slice A' up.length c'] 25)).alloc (.cells #[.slice B' vp.length d'] 25)) W) => Calls.grew hW (check_c A' c' up W h20u (HA3.out.grew hW)))
          rw [show errVal (if La.valid up then 0 else 7) = .nilIface by rw [hvu, if_pos rfl]; rfl] at Ccu
          have Ccv := hid (fun (W : World) (hW : Grew ((W2.alloc (.cells #[.slice A' up.length c'] 25)).alloc (.cells #[.slice B' vp.length d'] 25)) W) => Calls.grew hW (check_c B' d' vp W h20v (HB3.out.grew hW)))
          rw [show errVal (if La.valid vp then 0 else 7) = .iface 41 (.int .i64 7) by rw [hvv, if_neg (by simp)]; rfl] at Ccv
          refine (Ccu.out _ (Grew.refl _)).mono ?_
          rintro e w ⟨rfl, z, rfl⟩
          go_wp2_with fail
          refine (Ccv.out _ (After.grew _)).mono ?_
          rintro e w ⟨rfl, z, rfl⟩
          go_wp2_with fail
          refine (Hsure.out _ (After.grew _)).mono ?_
          rintro e w ⟨rfl, z, rfl⟩
          go_wp2_with fail
          go_ret
          exact ⟨rfl, GG.out.trans (After.grew _)⟩
        · have LU := hid (La.lattice_of_valid h1.out.1 hvu)
          have LV := hid (La.lattice_of_valid k1.out.1 hvv)
          go_enter Tryd.func7, Tryd.ntmps7
          go_wp2_with (first | (at_builtin; refine wpList_copy_bytes w rfl _ _ 23 5 rfl Tryd.underlying23 info_u8 A c up _ rfl (by rfl) (by rfl) h1.out (by omega) ?_; rintro A' c' W1 hA hW1; have HA := hid hA; have HW1 := hid hW1; clear hA hW1) | (at_builtin; refine wpList_copy_bytes W1 rfl _ _ 23 5 rfl Tryd.underlying23 info_u8 B d vp _ rfl (by rfl) (by rfl) (k1.out.grew HW1.out) (by omega) ?_; rintro B' d' W2 hB hW2; have HB := hid hB; have HW2 := hid hW2; clear hB hW2))
          have GG := hid (((HW1.out.trans HW2.out).alloc (.cells #[.slice A' up.length c'] 25)).alloc (.cells #[.slice B' vp.length d'] 25))
          have HA3 := hid (HA.out.grew ((HW2.out.alloc (.cells #[.slice A' up.length c'] 25)).alloc (.cells #[.slice B' vp.length d'] 25)))
          have HB3 := hid (HB.out.grew (((Grew.refl W2).alloc (.cells #[.slice A' up.length c'] 25)).alloc (.cells #[.slice B' vp.length d'] 25)))
          have Hg3 := hid (Hg.out.grew GG.out)
          have Hsure := hid (fun (W : World) (hW : Grew ((W2.alloc (.cells #[.slice A' up.length c'] 25)).alloc (.cells #[.slice B' vp.length d'] 25)) W) => Calls.grew hW (sure_c W (Hg3.out.grew hW)))
          have Ccu := hid (fun (W : World) (hW : Grew ((W2.alloc (.cells #[.slice A' up.length c'] 25)).alloc (.cells #[.slice B' vp.length d'] 25)) W) => Calls.grew hW (check_c A' c' up W h20u (HA3.out.grew hW)))
          rw [show errVal (if La.valid up then 0 else 7) = .nilIface by rw [hvu, if_pos rfl]; rfl] at Ccu
          have Ccv := hid (fun (W : World) (hW : Grew ((W2.alloc (.cells #[.slice A' up.length c'] 25)).alloc (.cells #[.slice B' vp.length d'] 25)) W) => Calls.grew hW (check_c B' d' vp W h20v (HB3.out.grew hW)))
          rw [show errVal (if La.valid vp then 0 else 7) = .nilIface by rw [hvv, if_pos rfl]; rfl] at Ccv
          have HVu := hid hvu
          have HVv := hid hvv
          clear hvu hvv
          refine (Ccu.out _ (Grew.refl _)).mono ?_
          rintro e w ⟨rfl, z, rfl⟩
          go_wp2_with fail
          refine (Ccv.out _ (After.grew _)).mono ?_
          rintro e w ⟨rfl, z, rfl⟩
          go_wp2_with fail
          have l1 : W2.heap.size < ((W2.alloc (.cells #[.slice A' up.length c'] 25)).alloc (.cells #[.slice B' vp.length d'] 25)).heap.size := by simp; omega
          have l2 : W2.heap.size + 1 < ((W2.alloc (.cells #[.slice A' up.length c'] 25)).alloc (.cells #[.slice B' vp.length d'] 25)).heap.size := by simp
          have f1 : ((W2.alloc (.cells #[.slice A' up.length c'] 25)).alloc (.cells #[.slice B' vp.length d'] 25)).cell? ⟨W2.heap.size, 0, none⟩ = some (.slice A' up.length c') := by
            rw [World.cell?_alloc_lt _ _ _ (by simp)]; simp
          have f2 : ((W2.alloc (.cells #[.slice A' up.length c'] 25)).alloc (.cells #[.slice B' vp.length d'] 25)).cell? ⟨W2.heap.size + 1, 0, none⟩ = some (.slice B' vp.length d') := by
            rw [World.cell?_alloc_at _ _ _ _ (by simp)]; rfl
          have Cll := hid (fun (W : World) (a b : Nat) (ha : a < up.length) (hb : b < up.length) (hW : Grew ((W2.alloc (.cells #[.slice A' up.length c'] 25)).alloc (.cells #[.slice B' vp.length d'] 25)) W) => Calls.after hW (leq_c A' c' up (a : Int) (b : Int) W h20u (HA3.out.grew hW)))
          have Clm := hid (fun (W : World) (a b : Nat) (ha : a < vp.length) (hb : b < vp.length) (hW : Grew ((W2.alloc (.cells #[.slice A' up.length c'] 25)).alloc (.cells #[.slice B' vp.length d'] 25)) W) => Calls.after hW (leq_c B' d' vp (a : Int) (b : Int) W h20v (HB3.out.grew hW)))
          have Csl := hid (fun (W : World) (hW : Grew ((W2.alloc (.cells #[.slice A' up.length c'] 25)).alloc (.cells #[.slice B' vp.length d'] 25)) W) => Calls.grew hW (same_c A' B' c' d' up vp W (HA3.out.grew hW) (HB3.out.grew hW)))
          have Csm := hid (fun (W : World) (hW : Grew ((W2.alloc (.cells #[.slice A' up.length c'] 25)).alloc (.cells #[.slice B' vp.length d'] 25)) W) => Calls.grew hW (same_c B' A' d' c' vp up W (HB3.out.grew hW) (HA3.out.grew hW)))
          have hs1 : ((up.length : Int) == (vp.length : Int)) = La.agree up vp 0 0 := by rw [La.agree_zero]; exact beq_cast _ _
          have Hs1 := hid hs1
          clear hs1 HA HB HW1 HW2 Ccu Ccv h1 k1 Hg
          obtain ⟨r, hr⟩ : ∃ r, r = (up == vp) := ⟨_, rfl⟩
          have hr2 : (vp == up) = r := by rw [hr, Bool.eq_iff_iff, beq_iff_eq, beq_iff_eq]; exact eq_comm
          rw [hr2] at Csm
          rw [← hr] at Csl
          have Hr := hid hr
          clear hr hr2
          go_loopw [7, 8] (fun s i wr => ∃ k : Nat, k ≤ up.length ∧ i = .int .i64 k ∧ s = .bool (La.agree up vp k 0) ∧ Grew ((W2.alloc (.cells #[.slice A' up.length c'] 25)).alloc (.cells #[.slice B' vp.length d'] 25)) wr) (fun _ i _ => up.length - (intOf i).toNat)
          case atStart => exact ⟨0, Nat.zero_le _, rfl, by rw [Hs1.out], After.grew _⟩
          case round =>
            obtain ⟨k, hk, rfl, rfl, ⟨y, rfl⟩⟩ := hrel
            obtain ⟨s, hs⟩ : ∃ s, s = La.agree up vp k 0 := ⟨_, rfl⟩
            rw [← hs]
            have Hs := hid hs
            clear hs
            by_cases hlt : k < up.length
            · cases s
              · have e : r = false := Hr.out.trans (La.agree_no Hs.out.symm)
                subst e
                go_wp2_with fail
                refine (Csl.out _ (After.grew _)).mono ?_
                rintro e w ⟨rfl, z, rfl⟩
                go_wp2_with fail
                refine (Csm.out _ (After.grew _)).mono ?_
                rintro e w ⟨rfl, z, rfl⟩
                go_wp2_with fail
                refine (Hsure.out _ (After.grew _)).mono ?_
                rintro e w ⟨rfl, z, rfl⟩
                go_wp2_with fail
                go_ret
                exact ⟨rfl, GG.out.trans (After.grew _)⟩
              · have Hl := hid (La.agree_length Hs.out.symm)
                go_wp2_with fail
                go_loopw [7, 9] (fun s j wr => ∃ m : Nat, m ≤ up.length ∧ j = .int .i64 m ∧ s = .bool (La.agree up vp k m) ∧ Grew ((W2.alloc (.cells #[.slice A' up.length c'] 25)).alloc (.cells #[.slice B' vp.length d'] 25)) wr) (fun _ j _ => up.length - (intOf j).toNat)
                case atStart => exact ⟨0, Nat.zero_le _, rfl, by rw [← Hs.out], y.grew⟩
                case round =>
                  obtain ⟨m, hm, rfl, rfl, ⟨x, rfl⟩⟩ := hrel
                  obtain ⟨s2, hs2⟩ : ∃ s2, s2 = La.agree up vp k m := ⟨_, rfl⟩
                  rw [← hs2]
                  have Hs2 := hid hs2
                  clear hs2
                  by_cases hlm : m < up.length
                  · have hkv : k < vp.length := by rw [← Hl.out]; exact hlt
                    have hmv : m < vp.length := by rw [← Hl.out]; exact hlm
                    cases s2
                    · go_wp2_with fail
                      refine wp_region_grew_from x.grew (by kernel_rfl) (by kernel_rfl) ?_
                      repeat (go_big_quiet_step (fail))
                      refine wpQuiet_nil ?_
                      rintro _ ⟨x2, rfl⟩
                      go_wp2_with fail
                      go_roundw
                      case rel => exact ⟨m + 1, by omega, by go_num, by rw [La.agree_step, ← Hs2.out]; rfl, x2.grew⟩
                      case measure => simp [intOf]; omega
                    · go_wp2_with fail
                      refine wp_region_grew_from x.grew (by kernel_rfl) (by kernel_rfl) ?_
                      repeat (go_big_quiet_step ((first | (go_at_call 12; with_reducible exact Cll.out _ k m hlt hlm (After.grew _)) | (go_at_call 12; with_reducible exact Clm.out _ k m hkv hmv (After.grew _)))))
                      refine wpQuiet_nil ?_
                      rintro _ ⟨x2, rfl⟩
                      go_wp2_with fail
                      go_roundw
                      case rel => exact ⟨m + 1, by omega, by go_num, by rw [La.agree_step, ← Hs2.out, La.leq_nat HVu.out hlt hlm, La.leq_nat HVv.out hkv hmv]; rfl, x2.grew⟩
                      case measure => simp [intOf]; omega
                  · obtain rfl : m = up.length := by omega
                    go_wp2_with fail
                    go_roundw
                    case rel => exact ⟨k + 1, by omega, by go_num, by rw [← La.agree_next, ← Hs2.out], x.grew⟩
                    case measure => simp [intOf]; omega
            · obtain rfl : k = up.length := by omega
              have e : r = s := Hr.out.trans ((La.agree_end LU.out.toOrd LV.out.toOrd).symm.trans Hs.out.symm)
              subst e
              cases r
              all_goals
                go_wp2_with fail
                refine (Csl.out _ (After.grew _)).mono ?_
                rintro e w ⟨rfl, z, rfl⟩
                go_wp2_with fail
                refine (Csm.out _ (After.grew _)).mono ?_
                rintro e w ⟨rfl, z, rfl⟩
                go_wp2_with fail
                refine (Hsure.out _ (After.grew _)).mono ?_
                rintro e w ⟨rfl, z, rfl⟩
                go_wp2_with fail
                go_ret
                exact ⟨rfl, GG.out.trans (After.grew _)⟩
    · have h20v' : ¬ (vp.length : Int) ≤ 20 := by omega
      go_enter Tryd.func7, Tryd.ntmps7
      go_wp2_with (first | (at_builtin; refine wpList_copy_bytes w rfl _ _ 23 5 rfl Tryd.underlying23 info_u8 A c up _ rfl (by rfl) (by rfl) h1.out (by omega) ?_; rintro A' c' W1 hA hW1; have HA := hid hA; have HW1 := hid hW1; clear hA hW1) | (at_builtin; refine wpList_copy_bytes W1 rfl _ _ 23 5 rfl Tryd.underlying23 info_u8 B d vp _ rfl (by rfl) (by rfl) (k1.out.grew HW1.out) (by omega) ?_; rintro B' d' W2 hB hW2; have HB := hid hB; have HW2 := hid hW2; clear hB hW2))
      have GG := hid (((HW1.out.trans HW2.out).alloc (.cells #[.slice A' up.length c'] 25)).alloc (.cells #[.slice B' vp.length d'] 25))
      have HA3 := hid (HA.out.grew ((HW2.out.alloc (.cells #[.slice A' up.length c'] 25)).alloc (.cells #[.slice B' vp.length d'] 25)))
      have HB3 := hid (HB.out.grew (((Grew.refl W2).alloc (.cells #[.slice A' up.length c'] 25)).alloc (.cells #[.slice B' vp.length d'] 25)))
      have Hg3 := hid (Hg.out.grew GG.out)
      have Hsure := hid (fun (W : World) (hW : Grew ((W2.alloc (.cells #[.slice A' up.length c'] 25)).alloc (.cells #[.slice B' vp.length d'] 25)) W) => Calls.grew hW (sure_c W (Hg3.out.grew hW)))
      go_wp2_with (go_at_call 10; refine (Hsure.out _ (by first | exact Grew.refl _ | exact After.grew _)).mono ?_; rintro e w ⟨rfl, z, rfl⟩)
      go_ret
      exact ⟨rfl, GG.out.trans (After.grew _)⟩
  · have h20u' : ¬ (up.length : Int) ≤ 20 := by omega
    go_enter Tryd.func7, Tryd.ntmps7
    go_wp2_with (first | (at_builtin; refine wpList_copy_bytes w rfl _ _ 23 5 rfl Tryd.underlying23 info_u8 A c up _ rfl (by rfl) (by rfl) h1.out (by omega) ?_; rintro A' c' W1 hA hW1; have HA := hid hA; have HW1 := hid hW1; clear hA hW1) | (at_builtin; refine wpList_copy_bytes W1 rfl _ _ 23 5 rfl Tryd.underlying23 info_u8 B d vp _ rfl (by rfl) (by rfl) (k1.out.grew HW1.out) (by omega) ?_; rintro B' d' W2 hB hW2; have HB := hid hB; have HW2 := hid hW2; clear hB hW2))
    have GG := hid (((HW1.out.trans HW2.out).alloc (.cells #[.slice A' up.length c'] 25)).alloc (.cells #[.slice B' vp.length d'] 25))
    have HA3 := hid (HA.out.grew ((HW2.out.alloc (.cells #[.slice A' up.length c'] 25)).alloc (.cells #[.slice B' vp.length d'] 25)))
    have HB3 := hid (HB.out.grew (((Grew.refl W2).alloc (.cells #[.slice A' up.length c'] 25)).alloc (.cells #[.slice B' vp.length d'] 25)))
    have Hg3 := hid (Hg.out.grew GG.out)
    have Hsure := hid (fun (W : World) (hW : Grew ((W2.alloc (.cells #[.slice A' up.length c'] 25)).alloc (.cells #[.slice B' vp.length d'] 25)) W) => Calls.grew hW (sure_c W (Hg3.out.grew hW)))
    go_wp2_with (go_at_call 10; refine (Hsure.out _ (by first | exact Grew.refl _ | exact After.grew _)).mono ?_; rintro e w ⟨rfl, z, rfl⟩)
    go_ret
    exact ⟨rfl, GG.out.trans (After.grew _)⟩
end Go.Proofs.YthdgjalbkeccoaaDoor

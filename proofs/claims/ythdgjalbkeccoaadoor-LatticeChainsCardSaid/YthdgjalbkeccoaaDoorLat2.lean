/- The walks of package lattice, second part: joins, orders, what may be. -/
import Derived.Test.YthdgjalbkeccoaaDoorLat1
namespace Go.Proofs.YthdgjalbkeccoaaDoor
open Go.RowKit

theorem findJoin_c (A : Option Addr) (c : Nat) (up : List Nat) (a b : Nat) (w : World) (hn : up.length ≤ 20) (h : BytesAt w w.heap.size A up) (ha : a < up.length) (hb : b < up.length) :
    Calls Tryd.prog 25 #[.agg #[.slice A up.length c], .int .i64 a, .int .i64 b] w fun e w' => e = .returned (.int .i64 (La.join up a b)) ∧ Grew w w' := by
  have hn' : (up.length : Int) ≤ 20 := by omega
  have h1 := h.grew ((Grew.refl w).alloc (.cells #[.slice A up.length c] 25))
  obtain ⟨ad, rfl, hbk, hcell⟩ := h.2 (by omega)
  have hca := hcell a ha
  have hcb := hcell b hb
  have hx := h.lt a
  have hy := h.lt b
  have ha0 : (0 : Int) ≤ (a : Int) := by omega
  have ha1 : (a : Int) < (up.length : Int) := by omega
  have hb0 : (0 : Int) ≤ (b : Int) := by omega
  have hb1 : (b : Int) < (up.length : Int) := by omega
  unfold La.join
  obtain ⟨x, hxe⟩ : ∃ x, x = up.getD a 0 := ⟨_, rfl⟩
  obtain ⟨y, hye⟩ : ∃ y, y = up.getD b 0 := ⟨_, rfl⟩
  rw [← hxe] at hx hca ⊢
  rw [← hye] at hy hcb ⊢
  have hand : x &&& y < 256 := Nat.lt_of_le_of_lt Nat.and_le_left hx
  clear hxe hye hcell h
  have H1 := hid h1
  clear h1
  go_enter Tryd.func25, Tryd.ntmps25
  go_wp2
  refine wp_region_grew (by kernel_rfl) (by kernel_rfl) ?_
  repeat (go_big_quiet_step ((go_at_call 37; rw [u8_and_nat _ _ hx hy]; exact Calls.grew_same (After.grew _) (indexByte_c (some ad) c up (x &&& y) _ (H1.out.grew (After.grew _)) (by omega) hand))))
  refine wpQuiet_nil ?_
  rintro _ ⟨z, rfl⟩
  go_wp2
  go_ret
  exact ⟨rfl, After.grew_of ((Grew.refl _).alloc _) z⟩

set_option maxHeartbeats 1000000 in
theorem hasJoins_c (A : Option Addr) (c : Nat) (up : List Nat) (w : World) (hn : up.length ≤ 20) (h : BytesAt w w.heap.size A up) :
    Calls Tryd.prog 32 #[.agg #[.slice A up.length c]] w fun e w' => e = .returned (.bool (La.hasJoins up)) ∧ Grew w w' := by
  have hn' : (up.length : Int) ≤ 20 := by omega
  have h1 := h.grew ((Grew.refl w).alloc (.cells #[.slice A up.length c] 25))
  have H1 := hid h1
  clear h1 h
  go_enter Tryd.func32, Tryd.ntmps32
  go_wp2_with fail
  go_loopw [8] (fun i wr => ∃ k : Nat, k ≤ up.length ∧ i = .int .i64 k ∧ Grew (w.alloc (.cells #[.slice A up.length c] 25)) wr ∧ (∀ a, a < k → ∀ b, b < a → 0 ≤ La.join up a b)) (fun i _ => up.length - (intOf i).toNat)
  case atStart => exact ⟨0, Nat.zero_le _, rfl, Grew.refl _, fun i hi => by omega⟩
  case round =>
    obtain ⟨k, hk, rfl, ⟨y, rfl⟩, hno⟩ := hrel
    have Hno := hid hno
    clear hno
    by_cases hlt : k < up.length
    · go_wp2_with fail
      go_loopw [12] (fun i wr => ∃ m : Nat, m ≤ k ∧ i = .int .i64 m ∧ Grew (w.alloc (.cells #[.slice A up.length c] 25)) wr ∧ (∀ b, b < m → 0 ≤ La.join up k b)) (fun i _ => k - (intOf i).toNat)
      case atStart => exact ⟨0, Nat.zero_le _, rfl, y.grew, fun i hi => by omega⟩
      case round =>
        obtain ⟨m, hm, rfl, ⟨z, rfl⟩, hno2⟩ := hrel
        have Hno2 := hid hno2
        clear hno2
        by_cases hlm : m < k
        · obtain ⟨r, hr⟩ : ∃ r, r = La.join up k m := ⟨_, rfl⟩
          have Hr := hid hr
          clear hr
          by_cases hneg : r < 0
          · go_wp2_with (go_at_call 25; refine (findJoin_c A c up k m _ hn (H1.out.grew z.grew) hlt (by omega)).mono ?_; rw [← Hr.out]; rintro e w' ⟨rfl, u, rfl⟩)
            go_ret
            exact ⟨ret_bool (La.hasJoins_no hlt hlm (by rw [← Hr.out]; exact hneg)).symm, (((Grew.refl _).alloc _).trans z.grew).trans u.grew⟩
          · go_wp2_with (go_at_call 25; refine (findJoin_c A c up k m _ hn (H1.out.grew z.grew) hlt (by omega)).mono ?_; rw [← Hr.out]; rintro e w' ⟨rfl, u, rfl⟩)
            go_roundw
            case rel =>
              refine ⟨m + 1, by omega, by go_num, z.grew.trans u.grew, fun b hb => ?_⟩
              by_cases hbm : b = m
              · subst hbm; rw [← Hr.out]; omega
              · exact Hno2.out b (by omega)
            case measure => simp [intOf]; omega
        · go_wp2_with fail
          go_roundw
          case rel =>
            refine ⟨k + 1, by omega, by go_num, z.grew, fun a ha b hb => ?_⟩
            by_cases hak : a = k
            · subst hak; exact Hno2.out b (by omega)
            · exact Hno.out a (by omega) b hb
          case measure => simp [intOf]; omega
    · go_wp2_with fail
      go_ret
      exact ⟨ret_bool (La.hasJoins_yes fun a ha b hb => Hno.out a (by omega) b hb).symm, ((Grew.refl _).alloc _).trans y.grew⟩

set_option maxHeartbeats 4000000 in
theorem isOrder_c (A : Option Addr) (c : Nat) (up : List Nat) (w : World) (hn : up.length ≤ 8) (h : BytesAt w w.heap.size A up) :
    Calls Tryd.prog 31 #[.agg #[.slice A up.length c]] w fun e w' => e = .returned (.bool (La.isOrder up)) ∧ Grew w w' := by
  have hn' : (up.length : Int) ≤ 8 := by omega
  have h1 := h.grew ((Grew.refl w).alloc (.cells #[.slice A up.length c] 25))
  have H := hid h
  have H1 := hid h1
  clear h1 h
  go_enter Tryd.func31, Tryd.ntmps31
  go_wp2_with fail
  go_loopw [10] (fun i wr => ∃ k : Nat, k ≤ up.length ∧ i = .int .i64 k ∧ Grew (w.alloc (.cells #[.slice A up.length c] 25)) wr ∧ (∀ a, a < k → La.headOk up a = true ∧ ∀ b, b < up.length → La.rowOk up a b = true)) (fun i _ => up.length - (intOf i).toNat)
  case atStart => exact ⟨0, Nat.zero_le _, rfl, Grew.refl _, fun i hi => by omega⟩
  case round =>
    obtain ⟨k, hk, rfl, ⟨y, rfl⟩, hno⟩ := hrel
    have Hno := hid hno
    clear hno
    by_cases hlt : k < up.length
    · obtain ⟨ad, rfl, hbk, hcell⟩ := H.out.2 (by omega)
      have hx := H.out.lt k
      have hck := hcell k hlt
      obtain ⟨x, hxe⟩ : ∃ x, x = up.getD k 0 := ⟨_, rfl⟩
      rw [← hxe] at hx hck
      have Hx := hid hxe
      clear hcell hxe
      have hbel := fun W hW => below_c (some ad) c up k k W (by omega) hW hlt (by omega)
      have Hbel := hid hbel
      clear hbel
      have hdiv : ((x : Int) / 2 ^ up.length) = ((x / 2 ^ up.length : Nat) : Int) := by push_cast; rfl
      have Hdiv := hid hdiv
      clear hdiv
      by_cases hd : (x : Int) / 2 ^ up.length = 0
      · cases hlow : La.low up k k
        · have Hlow := hid hlow
          clear hlow
          go_wp2_with (go_at_call 22; refine (Hbel.out _ (H1.out.grew y.grew)).mono ?_; rw [Hlow.out]; rintro e w' ⟨rfl, u, rfl⟩)
          go_ret
          exact ⟨ret_bool (La.isOrder_no_head hlt (by simp [La.headOk, Hlow.out])).symm, (((Grew.refl _).alloc _).trans y.grew).trans u.grew⟩
        · have Hlow := hid hlow
          clear hlow
          have hhead : La.headOk up k = true := by
            rw [La.headOk, Hlow.out, ← Hx.out]
            have h3 : x / 2 ^ up.length = 0 := by have := Hdiv.out; omega
            rw [h3]; rfl
          have Hhead := hid hhead
          clear hhead
          go_wp2_with (go_at_call 22; refine (Hbel.out _ (H1.out.grew y.grew)).mono ?_; rw [Hlow.out]; rintro e w' ⟨rfl, u, rfl⟩)
          go_loopw [31] (fun i wr => ∃ m : Nat, m ≤ up.length ∧ i = .int .i64 m ∧ Grew (w.alloc (.cells #[.slice (some ad) up.length c] 25)) wr ∧ (∀ b, b < m → La.rowOk up k b = true)) (fun i _ => up.length - (intOf i).toNat)
          case atStart => exact ⟨0, Nat.zero_le _, rfl, y.grew.trans u.grew, fun i hi => by omega⟩
          case round =>
            obtain ⟨m, hm, rfl, ⟨z, rfl⟩, hno2⟩ := hrel
            have Hno2 := hid hno2
            clear hno2
            by_cases hlm : m < up.length
            · obtain ⟨ad2, had2, hbk2, hcell2⟩ := H.out.2 (by omega)
              obtain rfl := Option.some.inj had2
              have hxm := H.out.lt m
              have hcm := hcell2 m hlm
              obtain ⟨x2, hxe2⟩ : ∃ x2, x2 = up.getD m 0 := ⟨_, rfl⟩
              rw [← hxe2] at hxm hcm
              have Hx2 := hid hxe2
              clear hcell2 hxe2 had2 hbk2
              have hbel1 := fun W hW => below_c (some ad) c up k m W (by omega) hW hlt (by omega)
              have Hbel1 := hid hbel1
              have hbel2 := fun W hW => below_c (some ad) c up m k W (by omega) hW hlm (by omega)
              have Hbel2 := hid hbel2
              clear hbel1 hbel2
              by_cases hkm : k = m
              · subst hkm
                go_wp2_with fail
                go_roundw
                case rel =>
                  refine ⟨k + 1, by omega, by go_num, z.grew, fun b hb => ?_⟩
                  by_cases hbm : b = k
                  · subst hbm; simp [La.rowOk]
                  · exact Hno2.out b (by omega)
                case measure => simp [intOf]; omega
              · have hkm' : ((k : Int) == (m : Int)) = false := by rw [beq_eq_false_iff_ne]; omega
                have hkm2 : (k == m) = false := by rw [beq_eq_false_iff_ne]; exact hkm
                have Hkm2 := hid hkm2
                clear hkm2
                cases hl1 : La.low up k m
                · have Hl1 := hid hl1
                  clear hl1
                  go_wp2_with (go_at_call 22; refine (Hbel1.out _ (H1.out.grew z.grew)).mono ?_; rw [Hl1.out]; rintro e w' ⟨rfl, v, rfl⟩)
                  go_roundw
                  case rel =>
                    refine ⟨m + 1, by omega, by go_num, z.grew.trans v.grew, fun b hb => ?_⟩
                    by_cases hbm : b = m
                    · subst hbm; simp [La.rowOk, Hl1.out]
                    · exact Hno2.out b (by omega)
                  case measure => simp [intOf]; omega
                · have Hl1 := hid hl1
                  clear hl1
                  cases hl2 : La.low up m k
                  · have Hl2 := hid hl2
                    clear hl2
                    have hbits := u8_andNot_nat x2 x hxm hx
                    obtain ⟨q, hq⟩ : ∃ q, q = x2 &&& (255 - x) := ⟨_, rfl⟩
                    rw [← hq] at hbits
                    have Hq := hid hq
                    clear hq
                    by_cases hq0 : q = 0
                    · subst hq0
                      go_wp2_with fail
                      refine (Hbel1.out _ (H1.out.grew z.grew)).mono ?_
                      rw [Hl1.out]
                      rintro e w' ⟨rfl, v, rfl⟩
                      go_wp2_with fail
                      refine (Hbel2.out _ (H1.out.grew (z.grew.trans v.grew))).mono ?_
                      rw [Hl2.out]
                      rintro e w' ⟨rfl, v2, rfl⟩
                      go_wp2_with fail
                      go_roundw
                      case rel =>
                        refine ⟨m + 1, by omega, by go_num, (z.grew.trans v.grew).trans v2.grew, fun b hb => ?_⟩
                        by_cases hbm : b = m
                        · subst hbm
                          have hh : (up.getD b 0 &&& (255 - up.getD k 0)) = 0 := by rw [← Hx.out, ← Hx2.out]; exact Hq.out.symm
                          rw [La.rowOk, Hl2.out, hh, Hl1.out, Hkm2.out]; rfl
                        · exact Hno2.out b (by omega)
                      case measure => simp [intOf]; omega
                    · have hq1 : ((q : Int) != 0) = true := by rw [bne_iff_ne]; omega
                      go_wp2_with fail
                      refine (Hbel1.out _ (H1.out.grew z.grew)).mono ?_
                      rw [Hl1.out]
                      rintro e w' ⟨rfl, v, rfl⟩
                      go_wp2_with fail
                      refine (Hbel2.out _ (H1.out.grew (z.grew.trans v.grew))).mono ?_
                      rw [Hl2.out]
                      rintro e w' ⟨rfl, v2, rfl⟩
                      go_wp2_with fail
                      go_ret
                      refine ⟨ret_bool (La.isOrder_no_row hlt hlm ?_).symm, ((((Grew.refl _).alloc _).trans z.grew).trans v.grew).trans v2.grew⟩
                      have hh : ((up.getD m 0 &&& (255 - up.getD k 0)) == 0) = false := by rw [← Hx.out, ← Hx2.out, beq_eq_false_iff_ne, ← Hq.out]; exact hq0
                      rw [La.rowOk, Hl2.out, hh, Hl1.out, Hkm2.out]; rfl
                  · have Hl2 := hid hl2
                    clear hl2
                    go_wp2_with fail
                    refine (Hbel1.out _ (H1.out.grew z.grew)).mono ?_
                    rw [Hl1.out]
                    rintro e w' ⟨rfl, v, rfl⟩
                    go_wp2_with fail
                    refine (Hbel2.out _ (H1.out.grew (z.grew.trans v.grew))).mono ?_
                    rw [Hl2.out]
                    rintro e w' ⟨rfl, v2, rfl⟩
                    go_wp2_with fail
                    go_ret
                    refine ⟨ret_bool (La.isOrder_no_row hlt hlm ?_).symm, ((((Grew.refl _).alloc _).trans z.grew).trans v.grew).trans v2.grew⟩
                    rw [La.rowOk, Hl2.out, Hl1.out, Hkm2.out]; rfl
            · go_wp2_with fail
              go_roundw
              case rel =>
                refine ⟨k + 1, by omega, by go_num, z.grew, fun a ha => ?_⟩
                by_cases hak : a = k
                · subst hak; exact ⟨Hhead.out, fun b hb => Hno2.out b (by omega)⟩
                · exact Hno.out a (by omega)
              case measure => simp [intOf]; omega
      · go_wp2_with fail
        go_ret
        refine ⟨ret_bool (La.isOrder_no_head hlt ?_).symm, ((Grew.refl _).alloc _).trans y.grew⟩
        rw [La.headOk, ← Hx.out]
        have h3 : ¬ x / 2 ^ up.length = 0 := by have := Hdiv.out; omega
        rw [beq_eq_false_iff_ne.2 h3]; rfl
    · go_wp2_with fail
      go_ret
      exact ⟨ret_bool (La.isOrder_yes fun a ha => Hno.out a (by omega)).symm, ((Grew.refl _).alloc _).trans y.grew⟩

theorem valid_c (A : Option Addr) (c : Nat) (up : List Nat) (w : World) (hn : up.length ≤ 20) (h : BytesAt w w.heap.size A up) :
    Calls Tryd.prog 20 #[.agg #[.slice A up.length c]] w fun e w' => e = .returned (.bool (La.valid up)) ∧ Grew w w' := by
  have hn' : (up.length : Int) ≤ 20 := by omega
  have h1 := hid (h.grew ((Grew.refl w).alloc (.cells #[.slice A up.length c] 25)))
  clear h
  unfold La.valid
  by_cases c1 : 1 ≤ up.length
  · by_cases c2 : up.length ≤ 8
    · have c1' : (1 : Int) ≤ (up.length : Int) := by omega
      have c2' : (up.length : Int) ≤ 8 := by omega
      have hO := fun W hW => isOrder_c A c up W c2 hW
      have HO := hid hO
      clear hO
      rw [decide_eq_true c1, decide_eq_true c2, Bool.true_and, Bool.true_and]
      cases ho : La.isOrder up
      · rw [ho] at HO
        clear ho
        go_enter Tryd.func20, Tryd.ntmps20
        go_wp2_with (go_at_call 31; refine (HO.out _ h1.out).mono ?_; rintro e w' ⟨rfl, u, rfl⟩)
        go_ret
        exact ⟨rfl, ((Grew.refl _).alloc _).trans u.grew⟩
      · rw [ho] at HO
        clear ho
        rw [Bool.true_and]
        have hB := fun W hW => findBottom_c A c up W hn hW (by omega)
        have HB := hid hB
        clear hB
        obtain ⟨r, hr⟩ : ∃ r, r = La.bottom up := ⟨_, rfl⟩
        rw [← hr] at HB ⊢
        clear hr
        by_cases hneg : 0 ≤ r
        · rw [decide_eq_true hneg, Bool.true_and]
          go_enter Tryd.func20, Tryd.ntmps20
          go_wp2_with fail
          refine (HO.out _ h1.out).mono ?_
          rintro e w' ⟨rfl, u, rfl⟩
          go_wp2_with fail
          refine (HB.out _ (h1.out.grew u.grew)).mono ?_
          rintro e w' ⟨rfl, u2, rfl⟩
          go_wp2_with fail
          refine (hasJoins_c A c up _ hn (h1.out.grew (u.grew.trans u2.grew))).mono ?_
          rintro e w' ⟨rfl, u3, rfl⟩
          go_wp2_with fail
          go_ret
          exact ⟨rfl, ((((Grew.refl _).alloc _).trans u.grew).trans u2.grew).trans u3.grew⟩
        · rw [decide_eq_false hneg, Bool.false_and]
          go_enter Tryd.func20, Tryd.ntmps20
          go_wp2_with fail
          refine (HO.out _ h1.out).mono ?_
          rintro e w' ⟨rfl, u, rfl⟩
          go_wp2_with fail
          refine (HB.out _ (h1.out.grew u.grew)).mono ?_
          rintro e w' ⟨rfl, u2, rfl⟩
          go_wp2_with fail
          go_ret
          exact ⟨rfl, (((Grew.refl _).alloc _).trans u.grew).trans u2.grew⟩
    · have c2' : ¬ (up.length : Int) ≤ 8 := by omega
      have c1' : (1 : Int) ≤ (up.length : Int) := by omega
      rw [decide_eq_false c2, Bool.and_false, Bool.false_and, Bool.false_and, Bool.false_and]
      go_enter Tryd.func20, Tryd.ntmps20
      go_wp2_with fail
      go_ret
      exact ⟨rfl, ((Grew.refl _).alloc _)⟩
  · have c1' : ¬ (1 : Int) ≤ (up.length : Int) := by omega
    rw [decide_eq_false c1, Bool.false_and, Bool.false_and, Bool.false_and, Bool.false_and]
    go_enter Tryd.func20, Tryd.ntmps20
    go_wp2_with fail
    go_ret
    exact ⟨rfl, ((Grew.refl _).alloc _)⟩

theorem canCompare_c (A : Option Addr) (c : Nat) (up : List Nat) (a b : Int) (w : World) (hn : up.length ≤ 20) (h : BytesAt w w.heap.size A up) :
    Calls Tryd.prog 21 #[.agg #[.slice A up.length c], .int .i64 a, .int .i64 b] w fun e w' => e = .returned (.bool (La.can up a b)) ∧ Grew w w' := by
  have h1 := hid (h.grew ((Grew.refl w).alloc (.cells #[.slice A up.length c] 25)))
  clear h
  unfold La.can
  have ia := hid (fun W => isLevel_c A c up a W hn)
  have ib := hid (fun W => isLevel_c A c up b W hn)
  generalize La.isLevel up a = p at *
  generalize La.isLevel up b = q at *
  cases p
  · go_enter Tryd.func21, Tryd.ntmps21
    go_wp2_with fail
    refine (ia.out _).mono ?_
    rintro e w' ⟨rfl, u, rfl⟩
    go_wp2_with fail
    go_ret
    exact ⟨rfl, ((Grew.refl _).alloc _).trans u.grew⟩
  · cases q
    · go_enter Tryd.func21, Tryd.ntmps21
      go_wp2_with fail
      refine (ia.out _).mono ?_
      rintro e w' ⟨rfl, u, rfl⟩
      go_wp2_with fail
      refine (ib.out _).mono ?_
      rintro e w' ⟨rfl, u2, rfl⟩
      go_wp2_with fail
      go_ret
      exact ⟨rfl, (((Grew.refl _).alloc _).trans u.grew).trans u2.grew⟩
    · go_enter Tryd.func21, Tryd.ntmps21
      go_wp2_with fail
      refine (ia.out _).mono ?_
      rintro e w' ⟨rfl, u, rfl⟩
      go_wp2_with fail
      refine (ib.out _).mono ?_
      rintro e w' ⟨rfl, u2, rfl⟩
      go_wp2_with fail
      refine (valid_c A c up _ hn (h1.out.grew (u.grew.trans u2.grew))).mono ?_
      rintro e w' ⟨rfl, u3, rfl⟩
      go_wp2_with fail
      go_ret
      exact ⟨rfl, ((((Grew.refl _).alloc _).trans u.grew).trans u2.grew).trans u3.grew⟩
end Go.Proofs.YthdgjalbkeccoaaDoor

/- The walks of package lattice, third part: flip, and the exported functions. -/
import Derived.Test.YthdgjalbkeccoaaDoorLat2
import Derived.Test.YthdgjalbkeccoaaDoorNum
namespace Go.Proofs.YthdgjalbkeccoaaDoor
open Go.RowKit

theorem info_u8 : (Tryd.prog.info? 5).map (fun i => (i.zero, i.size, i.bytes)) = some (some (.int .u8 0), 1, 1) := by kernel_rfl

theorem or_bit (x b : Nat) (hx : x < 256) (hb : b < 8) : bits BinOp.or IntKind.u8 (x : Int) (2 ^ b % 256) = ((x ||| 2 ^ b : Nat) : Int) := by
  have h2 : 2 ^ b < 256 := Nat.lt_of_lt_of_le (Nat.pow_lt_pow_right (by decide) hb) (by decide : 2 ^ 8 ≤ 256)
  have e : ((2 : Int) ^ b % 256) = ((2 ^ b : Nat) : Int) := by
    have : ((2 : Int) ^ b) = ((2 ^ b : Nat) : Int) := by push_cast; rfl
    rw [this]
    generalize 2 ^ b = q at *
    omega
  rw [e, u8_or_nat _ _ hx h2]

set_option maxHeartbeats 4000000 in
theorem flip_c (A : Option Addr) (c : Nat) (up : List Nat) (w : World) (hn : up.length ≤ 8) (h0 : 0 < up.length) (h : BytesAt w w.heap.size A up) :
    Calls Tryd.prog 24 #[.agg #[.slice A up.length c]] w fun e w' => ∃ g, e = .returned (.agg #[.slice (some ⟨g, 0, none⟩) up.length up.length]) ∧ BytesAt w' w'.heap.size (some ⟨g, 0, none⟩) (La.flip up) ∧ Grew w w' := by
  have hn' : (up.length : Int) ≤ 8 := by omega
  have h1 := hid (h.grew ((Grew.refl w).alloc (.cells #[.slice A up.length c] 25)))
  clear h
  have hmk := make_bytes Tryd.underlying23 info_u8 up.length (by omega)
  go_enter Tryd.func24, Tryd.ntmps24
  go_wp2_with fail
  clear hmk
  have hblk0 : Blk (((w.alloc (.cells #[.slice A up.length c] 25)).alloc (.cells #[.slice none 0 0] 25)).alloc (.cells (byteCells (List.replicate up.length 0)) 5)) (w.heap.size + 1 + 1) 5 (byteCells (La.flipAt up 0 0)) := by
    rw [La.flipAt_start]
    simpa using Blk.new ((w.alloc (.cells #[.slice A up.length c] 25)).alloc (.cells #[.slice none 0 0] 25)) 5 (byteCells (List.replicate up.length 0))
  have Hblk0 := hid hblk0
  clear hblk0
  go_loopw [12] (fun i wr => ∃ k : Nat, k ≤ up.length ∧ i = .int .i64 k ∧ Grew ((w.alloc (.cells #[.slice A up.length c] 25)).alloc (.cells #[.slice none 0 0] 25)) wr ∧ Blk wr (w.heap.size + 1 + 1) 5 (byteCells (La.flipAt up k 0))) (fun i _ => up.length - (intOf i).toNat)
  case atStart => exact ⟨0, Nat.zero_le _, rfl, (Grew.refl _).alloc _, Hblk0.out⟩
  case round =>
    obtain ⟨k, hk, rfl, ⟨y, rfl⟩, hb⟩ := hrel
    have Hb := hid hb
    clear hb
    by_cases hlt : k < up.length
    · go_wp2_with fail
      go_loopw [17] (fun i wr => ∃ m : Nat, m ≤ up.length ∧ i = .int .i64 m ∧ Grew ((w.alloc (.cells #[.slice A up.length c] 25)).alloc (.cells #[.slice none 0 0] 25)) wr ∧ Blk wr (w.heap.size + 1 + 1) 5 (byteCells (La.flipAt up k m))) (fun i _ => up.length - (intOf i).toNat)
      case atStart => exact ⟨0, Nat.zero_le _, rfl, y.grew, Hb.out⟩
      case round =>
        obtain ⟨m, hm, rfl, ⟨z, rfl⟩, hb2⟩ := hrel
        have Hb2 := hid hb2
        clear hb2
        by_cases hlm : m < up.length
        · have hbel := hid (fun W hW => below_c A c up m k W (by omega) hW hlm (by omega))
          have h2 := hid (h1.out.grew (((Grew.refl _).alloc (.cells #[.slice none 0 0] 25)).trans z.grew))
          cases hl : La.low up m k
          · rw [hl] at hbel
            have Hl := hid hl
            clear hl
            go_wp2_with fail
            refine (hbel.out _ h2.out).mono ?_
            rintro e w' ⟨rfl, v, rfl⟩
            go_wp2_with fail
            go_roundw
            case rel =>
              refine ⟨m + 1, by omega, by go_num, z.grew.trans v.grew, ?_⟩
              have e1 : La.flipAt up k (m + 1) = La.flipAt up k m := by
                rw [← La.flipAt_set up k m (m + 1), La.flipRow, Hl.out, if_neg (by simp), La.flipAt_set]
              rw [e1]
              exact Hb2.out.grew v.grew
            case measure => simp [intOf]; omega
          · rw [hl] at hbel
            have Hl := hid hl
            clear hl
            go_wp2_with fail
            refine (hbel.out _ h2.out).mono ?_
            rintro e w' ⟨rfl, v, rfl⟩
            have hb3 := Hb2.out.grew v.grew
            have hcell := (hb3.cell k).trans (byteCells_at _ k (by rw [La.flipAt_length]; exact hlt))
            rw [La.flipAt_getD up k m hlt] at hcell
            have hfr := hb3.frozen k
            have Hb3 := hid hb3
            have hrl := Nat.lt_of_lt_of_le (La.flipRow_lt up k m) (Nat.pow_le_pow_right (by decide) (by omega) : _ ≤ 2 ^ 8)
            have hor := or_bit (La.flipRow up k m) m hrl (by omega)
            have hrow : La.flipRow up k m ||| 2 ^ m = La.flipRow up k (m + 1) := by rw [La.flipRow, Hl.out, if_pos rfl]
            rw [hrow] at hor
            have k0 : (0 : Int) ≤ (k : Int) := by omega
            have k1 : (k : Int) < (up.length : Int) := by omega
            have m0 : (0 : Int) ≤ (m : Int) := by omega
            have m1 : (m : Int) < 8 := by omega
            clear hb3
            go_wp2_with fail
            go_region
            go_wp2_with fail
            go_roundw
            case rel =>
              refine ⟨m + 1, by omega, by go_num, ?_, ?_⟩
              · refine .mk ?_
                have hh := (z.grew.trans v.grew).below
                exact (hh.setCell (by simp) _).drew
              · rw [← La.flipAt_set up k m (m + 1), ← byteCells_set]
                exact (Hb3.out.put k _).drew
            case measure => simp [intOf]; omega
        · go_wp2_with fail
          go_roundw
          case rel =>
            refine ⟨k + 1, by omega, by go_num, z.grew, ?_⟩
            obtain rfl : m = up.length := by omega
            rw [← La.flipAt_next]
            exact Hb2.out
          case measure => simp [intOf]; omega
    · obtain rfl : k = up.length := by omega
      have hcr : y.w.cell? ⟨w.heap.size + 1, 0, none⟩ = some (.slice none 0 0) := by
        rw [y.cell _ (by simp)]; simp
      have hfr : y.w.frozen? ⟨w.heap.size + 1, 0, none⟩ = false := by
        rw [y.frozen _ (by simp)]; simp
      go_wp2_with fail
      refine bodyPost_ret (v := .agg #[.slice (some ⟨w.heap.size + 1 + 1, 0, none⟩) up.length up.length]) ?_ rfl ⟨_, rfl, ?_, ?_⟩
      · simp [results, Tryd.results24, go_sem, hcr]
      · have hb2 := Hb.out.far (p := ⟨w.heap.size + 1, 0, none⟩) (by simp) (.slice (some ⟨w.heap.size + 1 + 1, 0, none⟩) up.length up.length)
        rw [La.flipAt_end] at hb2
        exact BytesAt.of_blk hb2 (La.flip_lt up hn)
      · exact ((((Grew.refl _).alloc _).alloc _).trans y.grew).setCell (by simp) _

theorem leq_c (A : Option Addr) (c : Nat) (up : List Nat) (a b : Int) (w : World) (hn : up.length ≤ 20) (h : BytesAt w w.heap.size A up) :
    Calls Tryd.prog 12 #[.agg #[.slice A up.length c], .int .i64 a, .int .i64 b] w fun e w' => e = .returned (.bool (La.leq up a b)) ∧ Grew w w' := by
  have h1 := hid (h.grew ((Grew.refl w).alloc (.cells #[.slice A up.length c] 25)))
  clear h
  have hcan := hid (fun W hW => canCompare_c A c up a b W hn hW)
  unfold La.leq
  cases hq : La.can up a b
  · rw [hq] at hcan
    clear hq
    go_enter Tryd.func12, Tryd.ntmps12
    go_wp2_with fail
    refine (hcan.out _ h1.out).mono ?_
    rintro e w' ⟨rfl, u, rfl⟩
    go_wp2_with fail
    go_ret
    exact ⟨rfl, ((Grew.refl _).alloc _).trans u.grew⟩
  · obtain ⟨ha0, ha1, hb0, hb1, hn8⟩ := La.can_spec hq
    rw [hq] at hcan
    clear hq
    obtain ⟨a, rfl⟩ := Int.eq_ofNat_of_zero_le ha0
    obtain ⟨b, rfl⟩ := Int.eq_ofNat_of_zero_le hb0
    rw [Bool.true_and, Int.toNat_natCast, Int.toNat_natCast]
    have hbel := hid (fun W hW => below_c A c up a b W hn hW (by omega) (by omega))
    clear ha0 ha1 hb0 hb1
    go_enter Tryd.func12, Tryd.ntmps12
    go_wp2_with fail
    refine (hcan.out _ h1.out).mono ?_
    rintro e w' ⟨rfl, u, rfl⟩
    go_wp2_with fail
    refine (hbel.out _ (h1.out.grew u.grew)).mono ?_
    rintro e w' ⟨rfl, u2, rfl⟩
    go_wp2_with fail
    go_ret
    exact ⟨rfl, (((Grew.refl _).alloc _).trans u.grew).trans u2.grew⟩

theorem join_c (A : Option Addr) (c : Nat) (up : List Nat) (a b : Int) (w : World) (hn : up.length ≤ 20) (h : BytesAt w w.heap.size A up) :
    Calls Tryd.prog 15 #[.agg #[.slice A up.length c], .int .i64 a, .int .i64 b] w fun e w' => e = .returned (.int .i64 (La.joinOf up a b)) ∧ Grew w w' := by
  have h1 := hid (h.grew ((Grew.refl w).alloc (.cells #[.slice A up.length c] 25)))
  clear h
  have hcan := hid (fun W hW => canCompare_c A c up a b W hn hW)
  unfold La.joinOf
  cases hq : La.can up a b
  · rw [hq] at hcan
    clear hq
    go_enter Tryd.func15, Tryd.ntmps15
    go_wp2_with fail
    refine (hcan.out _ h1.out).mono ?_
    rintro e w' ⟨rfl, u, rfl⟩
    go_wp2_with fail
    go_ret
    exact ⟨rfl, ((Grew.refl _).alloc _).trans u.grew⟩
  · obtain ⟨ha0, ha1, hb0, hb1, hn8⟩ := La.can_spec hq
    rw [hq] at hcan
    clear hq
    obtain ⟨a, rfl⟩ := Int.eq_ofNat_of_zero_le ha0
    obtain ⟨b, rfl⟩ := Int.eq_ofNat_of_zero_le hb0
    rw [if_pos rfl, Int.toNat_natCast, Int.toNat_natCast]
    have hfj := hid (fun W hW => findJoin_c A c up a b W hn hW (by omega) (by omega))
    clear ha0 ha1 hb0 hb1
    go_enter Tryd.func15, Tryd.ntmps15
    go_wp2_with fail
    refine (hcan.out _ h1.out).mono ?_
    rintro e w' ⟨rfl, u, rfl⟩
    go_wp2_with fail
    refine (hfj.out _ (h1.out.grew u.grew)).mono ?_
    rintro e w' ⟨rfl, u2, rfl⟩
    go_wp2_with fail
    go_ret
    exact ⟨rfl, (((Grew.refl _).alloc _).trans u.grew).trans u2.grew⟩

theorem meet_c (A : Option Addr) (c : Nat) (up : List Nat) (a b : Int) (w : World) (hn : up.length ≤ 20) (h : BytesAt w w.heap.size A up) :
    Calls Tryd.prog 16 #[.agg #[.slice A up.length c], .int .i64 a, .int .i64 b] w fun e w' => e = .returned (.int .i64 (La.meetOf up a b)) ∧ Grew w w' := by
  have h1 := hid (h.grew ((Grew.refl w).alloc (.cells #[.slice A up.length c] 25)))
  clear h
  have hcan := hid (fun W hW => canCompare_c A c up a b W hn hW)
  unfold La.meetOf
  cases hq : La.can up a b
  · rw [hq] at hcan
    clear hq
    go_enter Tryd.func16, Tryd.ntmps16
    go_wp2_with fail
    refine (hcan.out _ h1.out).mono ?_
    rintro e w' ⟨rfl, u, rfl⟩
    go_wp2_with fail
    go_ret
    exact ⟨rfl, ((Grew.refl _).alloc _).trans u.grew⟩
  · obtain ⟨ha0, ha1, hb0, hb1, hn8⟩ := La.can_spec hq
    rw [hq] at hcan
    clear hq
    obtain ⟨a, rfl⟩ := Int.eq_ofNat_of_zero_le ha0
    obtain ⟨b, rfl⟩ := Int.eq_ofNat_of_zero_le hb0
    rw [if_pos rfl, Int.toNat_natCast, Int.toNat_natCast]
    have hfl := hid (fun W hW => flip_c A c up W hn8 (by omega) hW)
    have hfj := hid (fun (W : World) (g : Nat) (hW : BytesAt W W.heap.size (some ⟨g, 0, none⟩) (La.flip up)) => findJoin_c (some ⟨g, 0, none⟩) up.length (La.flip up) a b W (by rw [La.flip_length]; omega) hW (by rw [La.flip_length]; omega) (by rw [La.flip_length]; omega))
    rw [La.flip_length] at hfj
    clear ha0 ha1 hb0 hb1
    go_enter Tryd.func16, Tryd.ntmps16
    go_wp2_with fail
    refine (hcan.out _ h1.out).mono ?_
    rintro e w' ⟨rfl, u, rfl⟩
    go_wp2_with fail
    refine (hfl.out _ (h1.out.grew u.grew)).mono ?_
    rintro e w' ⟨g, rfl, hby, u2, rfl⟩
    have Hby := hid hby
    clear hby
    go_wp2_with fail
    refine (hfj.out _ g Hby.out).mono ?_
    rintro e w' ⟨rfl, u3, rfl⟩
    go_wp2_with fail
    go_ret
    exact ⟨rfl, ((((Grew.refl _).alloc _).trans u.grew).trans u2.grew).trans u3.grew⟩

theorem bottom_c (A : Option Addr) (c : Nat) (up : List Nat) (w : World) (hn : up.length ≤ 20) (h : BytesAt w w.heap.size A up) :
    Calls Tryd.prog 13 #[.agg #[.slice A up.length c]] w fun e w' => e = .returned (.int .i64 (if La.valid up then La.bottom up else 0)) ∧ Grew w w' := by
  have h1 := hid (h.grew ((Grew.refl w).alloc (.cells #[.slice A up.length c] 25)))
  clear h
  have hv := hid (fun W hW => valid_c A c up W hn hW)
  cases hq : La.valid up
  · rw [hq] at hv
    rw [if_neg (by simp)]
    clear hq
    go_enter Tryd.func13, Tryd.ntmps13
    go_wp2_with fail
    refine (hv.out _ h1.out).mono ?_
    rintro e w' ⟨rfl, u, rfl⟩
    go_wp2_with fail
    go_ret
    exact ⟨rfl, ((Grew.refl _).alloc _).trans u.grew⟩
  · rw [if_pos rfl]
    have hv8 := La.valid_spec hq
    rw [hq] at hv
    have hb := hid (fun W hW => findBottom_c A c up W hn hW (by omega))
    clear hq hv8
    go_enter Tryd.func13, Tryd.ntmps13
    go_wp2_with fail
    refine (hv.out _ h1.out).mono ?_
    rintro e w' ⟨rfl, u, rfl⟩
    go_wp2_with fail
    refine (hb.out _ (h1.out.grew u.grew)).mono ?_
    rintro e w' ⟨rfl, u2, rfl⟩
    go_wp2_with fail
    go_ret
    exact ⟨rfl, (((Grew.refl _).alloc _).trans u.grew).trans u2.grew⟩

theorem top_c (A : Option Addr) (c : Nat) (up : List Nat) (w : World) (hn : up.length ≤ 20) (h : BytesAt w w.heap.size A up) :
    Calls Tryd.prog 14 #[.agg #[.slice A up.length c]] w fun e w' => e = .returned (.int .i64 (if La.valid up then La.bottom (La.flip up) else 0)) ∧ Grew w w' := by
  have h1 := hid (h.grew ((Grew.refl w).alloc (.cells #[.slice A up.length c] 25)))
  clear h
  have hv := hid (fun W hW => valid_c A c up W hn hW)
  cases hq : La.valid up
  · rw [hq] at hv
    rw [if_neg (by simp)]
    clear hq
    go_enter Tryd.func14, Tryd.ntmps14
    go_wp2_with fail
    refine (hv.out _ h1.out).mono ?_
    rintro e w' ⟨rfl, u, rfl⟩
    go_wp2_with fail
    go_ret
    exact ⟨rfl, ((Grew.refl _).alloc _).trans u.grew⟩
  · rw [if_pos rfl]
    have hv8 := La.valid_spec hq
    rw [hq] at hv
    have hfl := hid (fun W hW => flip_c A c up W hv8.2 (by omega) hW)
    have hb := hid (fun (W : World) (g : Nat) (hW : BytesAt W W.heap.size (some ⟨g, 0, none⟩) (La.flip up)) => findBottom_c (some ⟨g, 0, none⟩) up.length (La.flip up) W (by rw [La.flip_length]; omega) hW (by rw [La.flip_length]; omega))
    rw [La.flip_length] at hb
    clear hq hv8
    go_enter Tryd.func14, Tryd.ntmps14
    go_wp2_with fail
    refine (hv.out _ h1.out).mono ?_
    rintro e w' ⟨rfl, u, rfl⟩
    go_wp2_with fail
    refine (hfl.out _ (h1.out.grew u.grew)).mono ?_
    rintro e w' ⟨g, rfl, hby, u2, rfl⟩
    have Hby := hid hby
    clear hby
    go_wp2_with fail
    refine (hb.out _ g Hby.out).mono ?_
    rintro e w' ⟨rfl, u3, rfl⟩
    go_wp2_with fail
    go_ret
    exact ⟨rfl, ((((Grew.refl _).alloc _).trans u.grew).trans u2.grew).trans u3.grew⟩

theorem check_c (A : Option Addr) (c : Nat) (up : List Nat) (w : World) (hn : up.length ≤ 20) (h : BytesAt w w.heap.size A up) :
    Calls Tryd.prog 11 #[.agg #[.slice A up.length c]] w fun e w' => e = .returned (errVal (if La.valid up then 0 else 7)) ∧ Grew w w' := by
  have h1 := hid (h.grew ((Grew.refl w).alloc (.cells #[.slice A up.length c] 25)))
  clear h
  have hv := hid (fun W hW => valid_c A c up W hn hW)
  cases hq : La.valid up
  · rw [hq] at hv
    rw [if_neg (by simp)]
    clear hq
    go_enter Tryd.func11, Tryd.ntmps11
    go_wp2_with fail
    refine (hv.out _ h1.out).mono ?_
    rintro e w' ⟨rfl, u, rfl⟩
    go_wp2_with fail
    go_ret
    exact ⟨rfl, ((Grew.refl _).alloc _).trans u.grew⟩
  · rw [if_pos rfl]
    rw [hq] at hv
    clear hq
    go_enter Tryd.func11, Tryd.ntmps11
    go_wp2_with fail
    refine (hv.out _ h1.out).mono ?_
    rintro e w' ⟨rfl, u, rfl⟩
    go_wp2_with fail
    go_ret
    exact ⟨rfl, ((Grew.refl _).alloc _).trans u.grew⟩
end Go.Proofs.YthdgjalbkeccoaaDoor

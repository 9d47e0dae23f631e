/- VarintBack: for every two ints and every slice of bytes the law returns true, and nothing that was there is changed. Conditions: none of ours. -/
import Derived.Test.YtlidjdlamnkfmabDoorVi4
namespace Go.Proofs.YtlidjdlamnkfmabDoor
open Go.RowKit

/-- Get of what begins with an encoding. -/
theorem get_enc {n : Int} (hn : Vi.I64 n) (A : Option Addr) (c : Nat) (xs : List Nat) (k : Nat) (L r : List Nat) (w w0 : World) (hg : Grew w0 w) (ha : BytesAt w w.heap.size A xs) (hx : xs = L ++ r) (hL : L = Vi.enc n) (hk : xs.length = k) (hc : k ≤ c) (hl : c ≤ 9223372036854775807) :
    Calls Tryd.prog 8 #[.slice A k c] w fun e w' => e = .returned (.tuple #[.int .i64 n, .int .i64 ((L.length : Nat) : Int), .nilIface]) ∧ Grew w0 w' := by
  subst hk
  refine (get_c A c xs w ha hc hl).mono fun e w' ⟨he, hg2⟩ => ⟨?_, hg.trans hg2⟩
  rw [he, hx, hL, Vi.getN_enc hn, Vi.getL_enc hn, Vi.getE_enc hn]
  rfl
/-- Get of an encoding that is cut short. -/
theorem get_short {n : Int} (hn : Vi.I64 n) (A : Option Addr) (c : Nat) (L : List Nat) (k : Nat) (w w0 : World) (hg : Grew w0 w) (ha : NumsAt .u8 w w.heap.size A L) (hL : L = Vi.enc n) (hk : L.length = k + 1) (hc : k + 1 ≤ c) (hl : c ≤ 9223372036854775807) :
    Calls Tryd.prog 8 #[.slice A k c] w fun e w' => e = .returned (.tuple #[.int .i64 0, .int .i64 0, errVal 2]) ∧ Grew w0 w' := by
  have hlen : (L.take k).length = k := by simp; omega
  have h := get_c A c (L.take k) w (NumsAt.to_bytes (ha.take k) (fun x hx => by
    have := List.mem_of_mem_take hx
    rw [hL] at this
    exact Vi.enc_byte n x this)) (by omega) hl
  rw [hlen] at h
  refine h.mono fun e w' ⟨he, hg2⟩ => ⟨?_, hg.trans hg2⟩
  have hs : Vi.getL (L.take k) = [] := by
    have := Vi.getL_short hn
    rw [← hL, hk, Nat.add_sub_cancel] at this
    exact this
  rw [he, Vi.getN, Vi.getE, hs]
  rfl
theorem enc_str {n m : Int} (hn : Vi.I64 n) (hm : Vi.I64 m) : (strOf (Vi.enc n) = strOf (Vi.enc m)) ↔ n = m :=
  ⟨fun h => Vi.enc_inj hn hm (strOf_inj (Vi.enc_byte n) (Vi.enc_byte m) h), fun h => by rw [h]⟩

theorem str_beq (s t : ByteArray) : (s.toList == t.toList) = decide (s = t) := by
  rw [Bool.eq_iff_iff, beq_iff_eq, decide_eq_true_iff, ByteArray.toList_eq, ByteArray.toList_eq]
  constructor
  · intro h
    cases s; cases t
    simp at h
    rw [h]
  · rintro rfl; rfl

set_option maxRecDepth 100000 in
set_option maxHeartbeats 4000000 in
theorem back_walk (n m : Int) (A : Option Addr) (c : Nat) (xs : List Nat) (w : World) (hn : Vi.I64 n) (hm : Vi.I64 m) (ha : BytesAt w w.heap.size A xs) (hg : HandleAt w) :
    Calls Tryd.prog 3 #[.int .i64 n, .int .i64 m, .slice A xs.length c] w fun e w' => e = .returned (.bool true) ∧ Grew w w' := by
  have Hg := hid hg
  have HA := hid ha
  have HN := hid hn
  have HM := hid hm
  clear hg ha hn hm
  by_cases hl : 300 < xs.length
  · have hl' : (300 : Int) < xs.length := by omega
    go_enter Tryd.func3, Tryd.ntmps3
    go_wp2_with fail
    refine (sure_c _ Hg.out).mono ?_
    rintro e w ⟨rfl, hg⟩
    go_wp2_with fail
    go_ret
    exact ⟨rfl, hg⟩
  · have hl' : ¬ (300 : Int) < xs.length := by omega
    go_enter Tryd.func3, Tryd.ntmps3
    go_wp2_with fail
    refine (put_c none 0 [] n w (NumsAt.nil _ _ _ _) HN.out (by simp)).mono ?_
    rintro e w1 ⟨B, d, L, rfl, hO1, hL, y1, rfl⟩
    have HL := hid (show L = Vi.enc n by rw [hL]; rfl)
    have HO1 := hid hO1
    clear hL hO1
    go_wp2_with fail
    refine (put_c none 0 [] m y1.w (NumsAt.nil _ _ _ _) HM.out (by simp)).mono ?_
    rintro e w2 ⟨B2, d2, M, rfl, hO2, hL2, y2, rfl⟩
    have HL2 := hid (show M = Vi.enc m by rw [hL2]; rfl)
    have HO2 := hid (hO2.mono y1.grew)
    have HG2 := hid (y1.grew.trans y2.grew)
    have HO1' := hid (HO1.out.grew y2.grew)
    have hLl := Vi.enc_len n
    rw [← HL.out] at hLl
    clear hL2 hO2 HO1
    generalize y2.w = W2 at *
    have hOe : OwnNums .u8 W2 (W2.alloc (.cells #[] 5)) 5 (some ⟨W2.heap.size, 0, none⟩) 0 [] := OwnNums.fresh .u8 5 [] (Grew.refl W2) (by decide)
    go_wp2_with (first
      | (at_builtin; refine wpList_catM .u8 1 W2 (W2.alloc (.cells #[] 5)) rfl (.tmp 24) (.tmp 25) 22 5 rfl Tryd.underlying22 v_u8 ((Grew.refl W2).alloc _) _ _ [] rfl hOe B d L rfl (HO1'.out.alloc _).at (by simp; omega) (by simp; omega) ?_; rintro A3 c3 M3 W3 HM3 hO3 hG3; clear hOe)
      | (at_builtin; refine wpList_catM .u8 1 W2 W3 rfl (.tmp 26) (.tmp 27) 22 5 rfl Tryd.underlying22 v_u8 hG3 A3 c3 M3 rfl hO3 A c xs rfl (NumsAt.of_bytes (HA.out.grew (HG2.out.trans hG3))) (by rw [HM3.out, List.nil_append]; omega) (by rw [HM3.out, List.nil_append]; omega) ?_; rintro A4 c4 M4 W4 HM4 hO4 hG4))
    have HE := hid (show M4 = L ++ xs by rw [HM4.out, HM3.out]; rfl)
    have hcap := hO4.cap
    have HB4 := hid (NumsAt.to_bytes hO4.at (by
      intro x hx
      rw [HE.out] at hx
      rcases List.mem_append.1 hx with hx | hx
      · rw [HL.out] at hx; exact Vi.enc_byte n x hx
      · exact HA.out.1 x hx))
    have HO1 := hid (HO1'.out.grew hG4)
    have HO3 := hid (HO2.out.grew hG4)
    have HG4 := hid (HG2.out.trans hG4)
    have HCg := hid (get_enc HN.out A4 c4 M4 M4.length L xs W4 W4 (Grew.refl _) HB4.out HE.out HL.out rfl hcap.1 hcap.2)
    clear HM4 HM3 hO3 hG3 hO4 hG4 HB4 HE hcap HO1' HO2 HG2
    refine HCg.out.mono ?_
    rintro e w5 ⟨rfl, y5, rfl⟩
    clear HCg
    have HOa := hid (HO1.out.grew y5.grew)
    have HOb := hid (HO3.out.grew y5.grew)
    have HG5 := hid (HG4.out.trans y5.grew)
    have hcap := HO1.out.cap
    clear HO1 HO3 HG4
    generalize y5.w = W5 at *
    have hge : 0 ≤ (L.length : Int) - 1 := by omega
    have hle1 : (L.length : Int) - 1 ≤ d := by omega
    have HSh := hid (get_short HN.out B d L (L.length - 1) W5 W5 (Grew.refl _) HOa.out.at HL.out (by omega) (by omega) hcap.2)
    go_wp2_with fail
    rw [show (max 0 ((L.length : Int) - 1)).toNat = L.length - 1 by omega]
    refine HSh.out.mono ?_
    rintro e w6 ⟨rfl, y6, rfl⟩
    clear HSh hge hle1 hcap
    have hq1 : 1 ≤ (L.length : Int) := by omega
    have hq2 : (L.length : Int) ≤ 10 := by omega
    have HOc := hid (HOa.out.grew y6.grew)
    have HOd := hid (HOb.out.grew y6.grew)
    have HG6 := hid (HG5.out.trans y6.grew)
    clear HOa HOb HG5
    generalize y6.w = W6 at *
    have CN := hid (num_c 2 W6 (Hg.out.grew HG6.out))
    go_wp2_with fail
    refine CN.out.mono ?_
    rintro e w7 ⟨rfl, y7, rfl⟩
    have HG7 := hid (HG6.out.trans y7.grew)
    have hc1 := conv_own (P := Tryd.prog) Tryd.underlying22 Tryd.underlying5 Tryd.underlying9 (HOc.out.grew y7.grew) (by omega)
    have hc2 := conv_own (P := Tryd.prog) Tryd.underlying22 Tryd.underlying5 Tryd.underlying9 (HOd.out.grew y7.grew) (by rw [HL2.out]; exact (Vi.enc_len m).1)
    clear HOc HOd HG6 CN
    generalize y7.w = W7 at *
    obtain ⟨s1, hs1⟩ : ∃ s, s = strOf L := ⟨_, rfl⟩
    obtain ⟨s2, hs2⟩ : ∃ s, s = strOf M := ⟨_, rfl⟩
    rw [← hs1] at hc1
    rw [← hs2] at hc2
    have HEq := hid (show s1 = s2 ↔ n = m by rw [hs1, hs2, HL.out, HL2.out]; exact enc_str HN.out HM.out)
    clear hs1 hs2
    have hq : (s1.toList == s2.toList) = (n == m) := by
      rw [str_beq, Bool.eq_iff_iff, decide_eq_true_iff, beq_iff_eq]
      exact HEq.out
    go_wp2_with fail
    refine (Calls.grew HG7.out (sure_c _ (Hg.out.grew HG7.out))).mono ?_
    rintro e w8 ⟨rfl, y8, rfl⟩
    go_wp2_with fail
    go_ret
    exact ⟨rfl, y8.grew⟩
end Go.Proofs.YtlidjdlamnkfmabDoor

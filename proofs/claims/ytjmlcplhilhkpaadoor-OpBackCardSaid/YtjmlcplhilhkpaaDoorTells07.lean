/- Law OpTells walked. -/
import Derived.Test.YtjmlcplhilhkpaaDoorCut07
import Derived.Test.YtjmlcplhilhkpaaDoorNames07
namespace Go.Proofs.YtjmlcplhilhkpaaDoor
open Go.RowKit

theorem decR_len (b : List Nat) : (Op7.decR b).2.1.length = (Op7.decR b).1.length := by
  unfold Op7.decR
  split
  · rfl
  · split
    · rfl
    · exact Op7.offs_len _
theorem decF_le : ∀ (f : Nat) (b : List Nat) (l : List Op7.Ins), Op7.decF f b = some l → l.length ≤ b.length
  | f, [], l, h => by
    have : l = [] := by cases f <;> (unfold Op7.decF at h; exact (Option.some.inj h).symm)
    rw [this]; simp
  | 0, _ :: _, l, h => by cases h
  | f + 1, x :: r, l, h => by
    unfold Op7.decF at h
    obtain ⟨⟨o, r'⟩, h1, h2⟩ := Option.bind_eq_some_iff.1 h
    obtain ⟨l', h3, rfl⟩ := Option.map_eq_some_iff.1 h2
    have k1 := decF_le f r' l' h3
    have k2 := (Op7.dec1_len h1).1
    have k3 := Op7.size_pos o.code
    rw [List.length_cons] at k2 ⊢
    rw [List.length_cons]
    omega
theorem decR_le (b : List Nat) : (Op7.decR b).1.length ≤ b.length := by
  unfold Op7.decR
  split
  · simp
  · split
    · simp
    · rename_i l h
      exact decF_le _ _ _ h
theorem ints_n (A : Option Addr) (c : Nat) (B : Option Addr) (d n : Nat) (xs : List Nat) (w : World) (hx : xs.length = n) (ha : NumsAt .i64 w w.heap.size A xs) (hb : NumsAt .i64 w w.heap.size B xs) (hm : n ≤ 1000000000000) :
    Calls Tryd.prog 17 #[.slice A n c, .slice B n d] w fun e w' => e = .returned (.bool true) ∧ Grew w w' := by
  subst hx
  have := ints_c A c xs B d xs w ha hb (.inl hm)
  rw [decide_eq_true rfl] at this
  exact this
theorem rform_c (c : Nat) (w : World) (hm : c < 256) :
    Calls Tryd.prog 14 #[.int .u8 (c : Nat)] w (fun e w' => e = .returned (.tuple #[.string (if c < 21 then formB c else ⟨#[]⟩), .bool (decide (c < 21))]) ∧ Grew w w') := form_c c w hm
set_option maxRecDepth 100000 in
set_option maxHeartbeats 4000000 in
theorem tells_walk (A : Option Addr) (c : Nat) (l : List Op7.Ins) (B : Option Addr) (d : Nat) (bs : List Nat) (z : Nat) (w : World) (h : OpsAt w w.heap.size A l) (hb : BytesAt w w.heap.size B bs) (hd : bs.length ≤ d) (hd2 : d ≤ 9223372036854775807) (hz : z < 256) (hh : HandleAt w) (hT : TabAt w) :
    Calls Tryd.prog 3 #[.slice A l.length c, .slice B bs.length d, .int .u8 (z : Nat)] w fun e w' => e = .returned (.bool true) ∧ Grew w w' := by
  have HZ := hid (fun w' (hg : Grew w w') => sure_c w' (hh.grew hg) (hT.grew hg))
  have HNu := hid (fun k w' (hg : Grew w w') => num_c k w' (hh.grew hg))
  have HT := hid hT
  have HA := hid h
  have HBs := hid hb
  clear hh hT h hb
  by_cases h6 : 300 < l.length ∨ 900 < bs.length
  · have HZ0 := hid (HZ.out w (Grew.refl _))
    clear HZ HNu
    by_cases h3 : 300 < l.length
    · have f3 : (300 : Int) < l.length := by omega
      go_enter Tryd.func3, Tryd.ntmps3
      go_wp2_with fail
      refine HZ0.out.mono ?_
      rintro e w1 ⟨rfl, hg⟩
      go_wp2_with fail
      go_ret
      exact ⟨rfl, hg⟩
    · have f3 : ¬ (300 : Int) < l.length := by omega
      have f9 : (900 : Int) < bs.length := by omega
      go_enter Tryd.func3, Tryd.ntmps3
      go_wp2_with fail
      refine HZ0.out.mono ?_
      rintro e w1 ⟨rfl, hg⟩
      go_wp2_with fail
      go_ret
      exact ⟨rfl, hg⟩
  have f3 : ¬ (300 : Int) < l.length := by omega
  have f9 : ¬ (900 : Int) < bs.length := by omega
  have HGv := hid (giveOps_c A c l w HA.out (by omega))
  have HR := hid (fun w' (hg : Grew w w') => rencode_c A c l w' (HA.out.grew hg) (by omega))
  have HD := hid (fun w' (hg : Grew w w') => odecode_c B d bs w' (NumsAt.to_bytes ((NumsAt.of_bytes HBs.out).grew hg) HBs.out.1) (HT.out.grew hg) hd hd2)
  have HQ := hid (fun w' (hg : Grew w w') => rdecode_c B d bs w' (NumsAt.to_bytes ((NumsAt.of_bytes HBs.out).grew hg) HBs.out.1) hd (by omega))
  have HF1 := hid (fun w' (hg : Grew w w') => oform_c z w' hz (HT.out.grew hg))
  have HF2 := hid (fun w' => form_c z w' hz)
  have HN1 := hid (fun w' (hg : Grew w w') => oname_c z w' hz (HT.out.grew hg))
  have HN2 := hid (fun w' => rname_c z w' hz)
  have HS1 := hid (fun w' (hg : Grew w w') => osize_c z w' hz (HT.out.grew hg))
  have HS2 := hid (fun w' => size_c z w' hz)
  have HEb := hid (show ∀ x ∈ (encR l).1, x < 256 from by
    intro x hx
    rcases encR_cases l with ⟨hv, _, he⟩ | ⟨k, _, he⟩
    · rw [he] at hx; exact valid_byte hv x hx
    · rw [he] at hx; cases hx)
  generalize hn : l.length = n at *
  generalize hnb : bs.length = nb at *
  generalize (if z < 21 then formB z else ⟨#[]⟩) = fs at *
  generalize decide (z < 21) = is at *
  generalize nameB z = ns at *
  generalize (if z < 21 then Op7.size z else 0) = sz at *
  have HLn := hid hn
  have HLb := hid hnb
  clear hn hnb HBs hz
  go_enter Tryd.func3, Tryd.ntmps3
  go_wp2_with fail
  refine HGv.out.mono ?_
  rintro e w1 ⟨A1, c1, L1, rfl, hL1, hR1, y1, rfl⟩
  have HR1 := hid hR1
  subst hL1
  have HE1 := hid (oencode_c A1 c1 L1 y1.w HR1.out.ops (HT.out.grew y1.grew) (by have := HLn.out; omega))
  clear hR1
  go_wp2_with fail
  refine HE1.out.mono ?_
  rintro e w2 ⟨A2, c2, L2, rfl, hL2, hR2, hg2⟩
  have HL2 := hid hL2
  have HG2 := hid (y1.grew.trans hg2)
  have HR2 := hid hR2
  clear hL2 hR2 hg2 HE1 HGv
  go_wp2_with fail
  refine (HR.out _ HG2.out).mono ?_
  rintro e w3 ⟨A3, c3, L3, rfl, hL3, hR3, hg3⟩
  have HL3 := hid hL3
  have HG23 := hid hg3
  have HG3 := hid (HG2.out.trans hg3)
  have HR3 := hid hR3
  clear hL3 hR3 hg3 HR
  go_wp2_with fail
  refine (HD.out _ HG3.out).mono ?_
  rintro e w4 ⟨A4, c4, A5, c5, L4, rfl, hL4, hR4, hR5, hg4⟩
  have HL4 := hid hL4
  have HG34 := hid hg4
  have HG4 := hid (HG3.out.trans hg4)
  have HR4 := hid hR4
  have HR5 := hid hR5
  clear hL4 hR4 hR5 hg4 HD
  go_wp2_with fail
  refine (HQ.out _ HG4.out).mono ?_
  rintro e w5 ⟨A6, c6, A7, c7, L5, rfl, hL5, hR6, hR7, hg5⟩
  have HL5 := hid hL5
  have HG45 := hid hg5
  have HG5 := hid (HG4.out.trans hg5)
  have HR6 := hid hR6
  have HR7 := hid hR7
  clear hL5 hR6 hR7 hg5 HQ
  go_wp2_with fail
  refine (Calls.after (Grew.refl _) (HF1.out _ HG5.out)).mono ?_
  rintro e w6 ⟨rfl, y6, rfl⟩
  go_wp2_with fail
  refine (Calls.after y6.grew (HF2.out _)).mono ?_
  rintro e w6 ⟨rfl, y7, rfl⟩
  obtain rfl : L3 = L2 := by rw [HL3.out, HL2.out]
  obtain rfl : L5 = L4 := by rw [HL5.out, HL4.out]
  have hb2 : ∀ x ∈ L3, x < 256 := by rw [HL3.out]; exact HEb.out
  have hcv1 := conv7 A2 c2 L3 y7.w ((HR2.out.grew (((HG23.out.trans HG34.out).trans HG45.out).trans y7.grew)).nums) hb2
  have hcv2 := conv7 A3 c3 L3 y7.w (HR3.out.at.grew ((HG34.out.trans HG45.out).trans y7.grew)) hb2
  have HAr := hid (fun w' (hg : Grew w5 w') => areOps_n A4 c4 A6 c6 L5.length L5 L5 w' rfl rfl rfl (HR4.out.ops.grew (HG45.out.trans hg)) (HR6.out.ops.grew hg) (by
    have h1 : L5.length ≤ bs.length := by rw [HL5.out]; exact decR_le bs
    have h2 := HLb.out
    omega))
  have HIn := hid (fun w' (hg : Grew w5 w') => ints_n A5 c5 A7 c7 L5.length (Op7.decR bs).2.1 w' (by rw [decR_len, HL5.out]) (HR5.out.nums.grew (HG45.out.trans hg)) (HR7.out.nums.grew hg) (by
    have h1 : L5.length ≤ bs.length := by rw [HL5.out]; exact decR_le bs
    have h2 := HLb.out
    omega))
  have Hn1 := hid (fun w' (hg : Grew w5 w') => HNu.out (encR L1).2 w' (HG5.out.trans hg))
  have Hn2 := hid (fun w' (hg : Grew w5 w') => HNu.out (Op7.decR bs).2.2 w' (HG5.out.trans hg))
  generalize (encR L1).2 = k1 at *
  generalize (Op7.decR bs).2.2 = k2 at *
  generalize strOf L3 = SS at *
  clear HR1 HR2 HR3 HR4 HR5 HR6 HR7 HF1 HF2 hb2
  go_wp2_with fail
  refine (Calls.after y7.grew (Hn1.out _ y7.grew)).mono ?_
  rintro e w6 ⟨rfl, y8, rfl⟩
  go_wp2_with fail
  refine (Calls.after y8.grew (HAr.out _ y8.grew)).mono ?_
  rintro e w6 ⟨rfl, y9, rfl⟩
  go_wp2_with fail
  refine (Calls.after y9.grew (HIn.out _ y9.grew)).mono ?_
  rintro e w6 ⟨rfl, y10, rfl⟩
  go_wp2_with fail
  refine (Calls.after y10.grew (Hn2.out _ y10.grew)).mono ?_
  rintro e w6 ⟨rfl, y11, rfl⟩
  go_wp2_with fail
  refine (Calls.after y11.grew (HN1.out _ (HG5.out.trans y11.grew))).mono ?_
  rintro e w6 ⟨rfl, y12, rfl⟩
  go_wp2_with fail
  refine (Calls.after y12.grew (HN2.out _)).mono ?_
  rintro e w6 ⟨rfl, y13, rfl⟩
  go_wp2_with fail
  refine (Calls.after y13.grew (HS1.out _ (HG5.out.trans y13.grew))).mono ?_
  rintro e w6 ⟨rfl, y14, rfl⟩
  go_wp2_with fail
  refine (Calls.after y14.grew (HS2.out _)).mono ?_
  rintro e w6 ⟨rfl, y15, rfl⟩
  go_wp2_with fail
  refine (Calls.after y15.grew (HZ.out _ (HG5.out.trans y15.grew))).mono ?_
  rintro e w6 ⟨rfl, y16, rfl⟩
  go_wp2_with fail
  go_ret
  exact ⟨rfl, HG5.out.trans y16.grew⟩
end Go.Proofs.YtjmlcplhilhkpaaDoor

/- Law OpBack walked. -/
import Derived.Test.YtjmlcplhilhkpaaDoorTells07
namespace Go.Proofs.YtjmlcplhilhkpaaDoor
open Go.RowKit

theorem decR_cases (b : List Nat) (hb : ∀ x ∈ b, x < 256) : (∃ v, (∀ o ∈ v, Op7.valid o) ∧ ¬ 512 < b.length ∧ b = Op7.encs v ∧ Op7.decR b = (v, Op7.offs v, 0)) ∨ ∃ k, k ≠ 0 ∧ Op7.decR b = ([], [], k) := by
  unfold Op7.decR
  split
  · exact .inr ⟨4, by decide, rfl⟩
  · rename_i h5
    split
    · exact .inr ⟨8, by decide, rfl⟩
    · rename_i l h
      obtain ⟨h1, h2⟩ := Op7.dec_some hb h
      exact .inl ⟨l, h1, h5, h2, rfl⟩
theorem offsF_get (k : Nat) (l : List Op7.Ins) (i : Nat) (h : i < l.length) : (Op7.offsF k l)[i]? = some (k + szs (l.take i)) := by
  induction l generalizing k i with
  | nil => simp at h
  | cons o l ih =>
    cases i with
    | zero => simp [Op7.offsF, szs]
    | succ i =>
      simp only [Op7.offsF, List.getElem?_cons_succ]
      rw [ih _ i (by simpa using h)]
      simp [szs, Nat.add_assoc]
theorem offs_get (l : List Op7.Ins) (i : Nat) (h : i < l.length) : (Op7.offs l)[i]? = some (szs (l.take i)) := by
  have := offsF_get 0 l i h
  rwa [Nat.zero_add] at this
set_option maxRecDepth 100000 in
set_option maxHeartbeats 4000000 in
theorem back_walk (A : Option Addr) (c : Nat) (l : List Op7.Ins) (B : Option Addr) (d : Nat) (bs : List Nat) (w : World) (h : OpsAt w w.heap.size A l) (hb : BytesAt w w.heap.size B bs) (hd : bs.length ≤ d) (hd2 : d ≤ 9223372036854775807) (hh : HandleAt w) (hT : TabAt w) :
    Calls Tryd.prog 4 #[.slice A l.length c, .slice B bs.length d] w fun e w' => e = .returned (.bool true) ∧ Grew w w' := by
  have HZ := hid (fun w' (hg : Grew w w') => sure_c w' (hh.grew hg) (hT.grew hg))
  have HT := hid hT
  have HA := hid h
  have HBs := hid hb
  clear hh hT h hb
  by_cases h6 : 100 < l.length ∨ 512 < bs.length
  · have HZ0 := hid (HZ.out w (Grew.refl _))
    clear HZ
    by_cases h3 : 100 < l.length
    · have f3 : (100 : Int) < l.length := by omega
      go_enter Tryd.func4, Tryd.ntmps4
      go_wp2_with fail
      refine HZ0.out.mono ?_
      rintro e w1 ⟨rfl, hg⟩
      go_wp2_with fail
      go_ret
      exact ⟨rfl, hg⟩
    · have f3 : ¬ (100 : Int) < l.length := by omega
      have f9 : (512 : Int) < bs.length := by omega
      go_enter Tryd.func4, Tryd.ntmps4
      go_wp2_with fail
      refine HZ0.out.mono ?_
      rintro e w1 ⟨rfl, hg⟩
      go_wp2_with fail
      go_ret
      exact ⟨rfl, hg⟩
  have f3 : ¬ (100 : Int) < l.length := by omega
  have f9 : ¬ (512 : Int) < bs.length := by omega
  have HGv := hid (giveOps_c A c l w HA.out (by omega))
  have HD := hid (fun w' (hg : Grew w w') => odecode_c B d bs w' (NumsAt.to_bytes ((NumsAt.of_bytes HBs.out).grew hg) HBs.out.1) (HT.out.grew hg) hd hd2)
  generalize hn : l.length = n at *
  generalize hnb : bs.length = nb at *
  have HLn := hid hn
  have HLb := hid hnb
  clear hn hnb hd hd2
  rcases encR_cases l with ⟨hv, h5, he⟩ | ⟨kk, hk0, he⟩
  · have hv' := hid hv
    have h5' := hid h5
    have HE := hid he
    have HDR := hid (decR_encs hv h5)
    clear he hv
    go_enter Tryd.func4, Tryd.ntmps4
    go_wp2_with fail
    refine HGv.out.mono ?_
    rintro e w1 ⟨A1, c1, L1, rfl, hL1, hR1, y1, rfl⟩
    have HR1 := hid hR1
    subst hL1
    have HE1 := hid (oencode_c A1 c1 L1 y1.w HR1.out.ops (HT.out.grew y1.grew) (by have := HLn.out; omega))
    clear hR1
    go_wp2_with fail
    refine HE1.out.mono ?_
    rintro e w2 ⟨A2, c2, L2, rfl, hL2, hR2, hg2⟩
    have HL2 := hid (show L2 = Op7.encs L1 by rw [hL2, HE.out])
    rw [show errVal (encR L1).2 = .nilIface by rw [HE.out]; rfl]
    have HG2 := hid (y1.grew.trans hg2)
    have hlx : L2.length ≤ 512 := by have := h5'.out; rw [← HL2.out] at this; omega
    have HD2 := hid (odecode_c A2 c2 L2 w2 (hR2.bytes (by rw [HL2.out]; exact valid_byte hv'.out)) (HT.out.grew HG2.out) hR2.cap.1 hR2.cap.2)
    have HXL := hid (show szs L1 = L2.length by rw [szs_encs, HL2.out])
    obtain ⟨nx, hnx⟩ : ∃ nx, nx = L2.length := ⟨_, rfl⟩
    rw [← hnx] at HD2 hlx HXL ⊢
    clear hnx
    rw [← HL2.out] at HDR
    clear hL2 hR2 hg2 HE1 HGv h5
    go_wp2_with fail
    refine HD2.out.mono ?_
    rintro e w3 ⟨A3, c3, A4, c4, L3, rfl, hL3, hR3, hN3, hg3⟩
    rw [HDR.out] at hL3 hN3
    replace hL3 : L3 = L1 := hL3
    subst hL3
    rw [show errVal (Op7.decR L2).2.2 = .nilIface by rw [HDR.out]; rfl, HLn.out]
    have HN3 := hid (show RowN w3 w2.heap.size A4 c4 (Op7.offs L3) from hN3)
    have HG3 := hid (HG2.out.trans hg3)
    have HAr := hid (areOps_n A3 c3 A c n L3 L3 w3 HLn.out HLn.out rfl hR3.ops (HA.out.grew HG3.out) (by omega))
    clear hR3 hN3 hg3 HD2
    go_wp2_with fail
    refine HAr.out.mono ?_
    rintro e w4 ⟨rfl, hg4⟩
    have HG34 := hid hg4
    have HG4 := hid (HG3.out.trans hg4)
    clear hg4
    have HA4 := hid (HA.out.grew HG4.out)
    have HN4 := hid (HN3.out.grew HG34.out)
    clear HN3 HG3
    go_wp2_with fail
    go_loopw [10, 11] (fun s10 s11 wr => ∃ (i q : Nat), s10 = .int .i64 ((q : Nat) : Int) ∧ s11 = .int .i64 ((i : Nat) : Int) ∧ i ≤ n ∧ q ≤ 5 * i ∧ Grew w4 wr ∧ Hid (q = szs (L3.take i))) (fun _ s11 _ => n - (intOf s11).toNat)
    case atStart => exact ⟨0, 0, rfl, rfl, Nat.zero_le _, Nat.zero_le _, Grew.refl _, hid rfl⟩
    case round =>
      obtain ⟨i, q, rfl, rfl, hi, hq, hg5, H⟩ := hrel
      have HG5 := hid (HG4.out.trans hg5)
      have HG45 := hid hg5
      clear hg5
      by_cases hlt : i < n
      · have f1 : (i : Int) < n := by omega
        have hx := offs_get L3 i (by rw [HLn.out]; exact hlt)
        rw [← H.out] at hx
        obtain ⟨ad, rfl, hb, hc'⟩ := (HN4.out.nums.grew HG45.out) (by rw [Op7.offs_len, HLn.out]; omega)
        have q0 := hc' i (by rw [Op7.offs_len, HLn.out]; exact hlt)
        rw [show (Op7.offs L3).getD i 0 = q by rw [List.getD_eq_getElem?_getD, hx]; rfl] at q0
        obtain ⟨bd, rfl, hbd, hcb⟩ := (HA.out.grew HG5.out).2 (by rw [HLn.out]; omega)
        obtain ⟨o, ho⟩ : ∃ o, L3[i]? = some o := ⟨_, List.getElem?_eq_getElem (show i < L3.length by rw [HLn.out]; exact hlt)⟩
        obtain ⟨p0, p1, p2⟩ := op_cell (hcb i o ho)
        have HX := hid (show szs (L3.take (i + 1)) = q + Op7.size o.code by rw [List.take_add_one, ho, H.out]; exact szs_snoc _ _)
        have hval := hv'.out o (List.mem_of_getElem? ho)
        have HS := hid (osize_c o.code wr (HA.out.1 o (List.mem_of_getElem? ho)) (HT.out.grew HG5.out))
        rw [if_pos hval.1] at HS
        have hz5 := Op7.size_le o.code
        clear hval hc' hx hb hcb hbd ho p1 p2 H
        generalize Op7.size o.code = sz at *
        go_wp2_with fail
        refine (Calls.grew HG45.out HS.out).mono ?_
        rintro e w6 ⟨rfl, hg6⟩
        go_wp2_with fail
        go_round
        case rel => exact ⟨i + 1, q + sz, by go_num, by go_num, by omega, by omega, hg6, hid HX.out.symm⟩
        case measure => simp [intOf]; omega
      · have hin : i = n := by omega
        subst hin
        obtain rfl : q = nx := by
          rw [H.out, ← HXL.out, List.take_of_length_le (by rw [HLn.out]; exact Nat.le_refl _)]
        go_wp2_with fail
        refine (HD.out _ HG5.out).mono ?_
        rintro e wa ⟨A6, c6, A7, c7, L6, rfl, hL6, hR6, hR7, hga⟩
        have HL6 := hid hL6
        have HGa := hid (HG5.out.trans hga)
        have HR6 := hid hR6
        have HGwa := hid hga
        clear hL6 hR6 hR7 hga HD
        rcases decR_cases bs HBs.out.1 with ⟨v, hv, hb5, heb, hde⟩ | ⟨kk, hkk, hde⟩
        · have HDE := hid hde
          have HV := hid (And.intro hv heb)
          obtain rfl : L6 = v := by rw [HL6.out, HDE.out]
          rw [show errVal (Op7.decR bs).2.2 = .nilIface by rw [HDE.out]; rfl]
          have hvl : L6.length ≤ bs.length := by have := HL6.out; rw [this]; exact decR_le bs
          have HE6 := hid (oencode_c A6 c6 L6 wa HR6.out.ops (HT.out.grew HGa.out) (by have := HLb.out; omega))
          have HEV := hid (show encR L6 = (bs, 0) by
            unfold encR
            rw [if_pos HV.out.1, ← HV.out.2, if_neg hb5])
          clear hv heb hde hb5 hvl
          go_wp2_with fail
          refine HE6.out.mono ?_
          rintro e wb ⟨A8, c8, L8, rfl, hL8, hR8, hgb⟩
          obtain rfl : L8 = bs := by rw [hL8, HEV.out]
          rw [show errVal (encR L6).2 = .nilIface by rw [HEV.out]; rfl]
          have hcv1 := conv7 A8 c8 L8 wb hR8.nums HBs.out.1
          have hcv2 := conv7 B d L8 wb ((NumsAt.of_bytes HBs.out).grew (HGa.out.trans hgb)) HBs.out.1
          rw [HLb.out] at hcv1 hcv2 ⊢
          have HGb := hid (HGa.out.trans hgb)
          generalize strOf L8 = SS at *
          clear hL8 hR8 hgb HE6
          go_wp2_with fail
          refine (HZ.out _ HGb.out).mono ?_
          rintro e wc ⟨rfl, hgc⟩
          go_wp2_with fail
          go_ret
          exact ⟨rfl, HGb.out.trans hgc⟩
        · have HDE := hid hde
          clear hde
          rw [show errVal (Op7.decR bs).2.2 = .iface 52 (.int .i64 kk) by rw [HDE.out]; exact errVal_ne hkk]
          go_wp2_with fail
          refine (HZ.out _ HGa.out).mono ?_
          rintro e wc ⟨rfl, hgc⟩
          go_wp2_with fail
          go_ret
          exact ⟨rfl, HGa.out.trans hgc⟩
  · have HE := hid he
    clear he
    go_enter Tryd.func4, Tryd.ntmps4
    go_wp2_with fail
    refine HGv.out.mono ?_
    rintro e w1 ⟨A1, c1, L1, rfl, hL1, hR1, y1, rfl⟩
    have HR1 := hid hR1
    subst hL1
    have HE1 := hid (oencode_c A1 c1 L1 y1.w HR1.out.ops (HT.out.grew y1.grew) (by have := HLn.out; omega))
    clear hR1
    go_wp2_with fail
    refine HE1.out.mono ?_
    rintro e w2 ⟨A2, c2, L2, rfl, hL2, hR2, hg2⟩
    have HG2 := hid (y1.grew.trans hg2)
    rw [show errVal (encR L1).2 = .iface 52 (.int .i64 kk) by rw [HE.out]; exact errVal_ne hk0]
    clear hL2 hR2 hg2
    go_wp2_with fail
    refine (HD.out _ HG2.out).mono ?_
    rintro e wa ⟨A6, c6, A7, c7, L6, rfl, hL6, hR6, hR7, hga⟩
    have HL6 := hid hL6
    have HGa := hid (HG2.out.trans hga)
    have HR6 := hid hR6
    have HGwa := hid hga
    clear hL6 hR6 hR7 hga HD
    rcases decR_cases bs HBs.out.1 with ⟨v, hv, hb5, heb, hde⟩ | ⟨kk, hkk, hde⟩
    · have HDE := hid hde
      have HV := hid (And.intro hv heb)
      obtain rfl : L6 = v := by rw [HL6.out, HDE.out]
      rw [show errVal (Op7.decR bs).2.2 = .nilIface by rw [HDE.out]; rfl]
      have hvl : L6.length ≤ bs.length := by have := HL6.out; rw [this]; exact decR_le bs
      have HE6 := hid (oencode_c A6 c6 L6 wa HR6.out.ops (HT.out.grew HGa.out) (by have := HLb.out; omega))
      have HEV := hid (show encR L6 = (bs, 0) by
        unfold encR
        rw [if_pos HV.out.1, ← HV.out.2, if_neg hb5])
      clear hv heb hde hb5 hvl
      go_wp2_with fail
      refine HE6.out.mono ?_
      rintro e wb ⟨A8, c8, L8, rfl, hL8, hR8, hgb⟩
      obtain rfl : L8 = bs := by rw [hL8, HEV.out]
      rw [show errVal (encR L6).2 = .nilIface by rw [HEV.out]; rfl]
      have hcv1 := conv7 A8 c8 L8 wb hR8.nums HBs.out.1
      have hcv2 := conv7 B d L8 wb ((NumsAt.of_bytes HBs.out).grew (HGa.out.trans hgb)) HBs.out.1
      rw [HLb.out] at hcv1 hcv2 ⊢
      have HGb := hid (HGa.out.trans hgb)
      generalize strOf L8 = SS at *
      clear hL8 hR8 hgb HE6
      go_wp2_with fail
      refine (HZ.out _ HGb.out).mono ?_
      rintro e wc ⟨rfl, hgc⟩
      go_wp2_with fail
      go_ret
      exact ⟨rfl, HGb.out.trans hgc⟩
    · have HDE := hid hde
      clear hde
      rw [show errVal (Op7.decR bs).2.2 = .iface 52 (.int .i64 kk) by rw [HDE.out]; exact errVal_ne hkk]
      go_wp2_with fail
      refine (HZ.out _ HGa.out).mono ?_
      rintro e wc ⟨rfl, hgc⟩
      go_wp2_with fail
      go_ret
      exact ⟨rfl, HGa.out.trans hgc⟩
end Go.Proofs.YtjmlcplhilhkpaaDoor

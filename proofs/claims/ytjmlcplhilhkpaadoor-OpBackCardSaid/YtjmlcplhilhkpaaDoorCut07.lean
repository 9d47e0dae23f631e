/- Law OpCut walked. -/
import Derived.Test.YtjmlcplhilhkpaaDoorOp18
import Derived.Test.YtjmlcplhilhkpaaDoorOpS
namespace Go.Proofs.YtjmlcplhilhkpaaDoor
open Go.RowKit

theorem errVal_ne {k : Nat} (h : k ≠ 0) : errVal k = .iface 52 (.int .i64 k) := by unfold errVal; rw [if_neg h]
theorem encR_cases (l : List Op7.Ins) : ((∀ o ∈ l, Op7.valid o) ∧ ¬ 512 < (Op7.encs l).length ∧ encR l = (Op7.encs l, 0)) ∨ ∃ k, k ≠ 0 ∧ encR l = ([], k) := by
  unfold encR
  split
  · split
    · exact .inr ⟨4, by decide, rfl⟩
    · rename_i h1 h2
      exact .inl ⟨h1, h2, rfl⟩
  · exact .inr ⟨8, by decide, rfl⟩
theorem decR_encs {l : List Op7.Ins} (hv : ∀ o ∈ l, Op7.valid o) (h5 : ¬ 512 < (Op7.encs l).length) : Op7.decR (Op7.encs l) = (l, Op7.offs l, 0) := by
  unfold Op7.decR
  rw [if_neg h5, Op7.dec_encs hv]
theorem valid_byte {l : List Op7.Ins} (hv : ∀ o ∈ l, Op7.valid o) : ∀ x ∈ Op7.encs l, x < 256 := Op7.encs_byte (fun o ho => Nat.lt_trans (hv o ho).1 (by decide))
theorem OpsAt.grew {w w' : World} {A : Option Addr} {l : List Op7.Ins} (h : OpsAt w w.heap.size A l) (hg : Grew w w') : OpsAt w' w'.heap.size A l :=
  ⟨h.1, fun hn => by
    obtain ⟨ad, e, hb, hc⟩ := h.2 hn
    exact ⟨ad, e, Nat.lt_of_lt_of_le hb hg.below.size, fun i o ho j u hu => by rw [hg.below.cell (by rw [block_add]; exact hb)]; exact hc i o ho j u hu⟩⟩
theorem OpsAt.take {w : World} {B : Nat} {A : Option Addr} {l : List Op7.Ins} (h : OpsAt w B A l) (n : Nat) : OpsAt w B A (l.take n) :=
  ⟨fun o ho => h.1 o (List.mem_of_mem_take ho), fun hn => by
    have hl : (l.take n).length ≤ l.length := List.length_take_le' _ _
    obtain ⟨ad, e, hb, hc⟩ := h.2 (by omega)
    refine ⟨ad, e, hb, fun i o ho j u hu => hc i o ?_ j u hu⟩
    rw [List.getElem?_take] at ho
    split at ho
    · exact ho
    · cases ho⟩
theorem areOps_n (A : Option Addr) (c : Nat) (B : Option Addr) (d n : Nat) (xs ys : List Op7.Ins) (w : World) (hx : xs.length = n) (hy : ys.length = n) (he : xs = ys) (ha : OpsAt w w.heap.size A xs) (hb : OpsAt w w.heap.size B ys) (hm : n ≤ 1000000000000) :
    Calls Tryd.prog 16 #[.slice A n c, .slice B n d] w fun e w' => e = .returned (.bool true) ∧ Grew w w' := by
  subst he
  subst hx
  have := areOps_c A c xs B d xs w ha hb (.inl hm)
  rw [decide_eq_true rfl] at this
  exact this
theorem odecode_n (A : Option Addr) (c : Nat) (bs : List Nat) (n : Nat) (w : World) (hn : bs.length = n) (h : BytesAt w w.heap.size A bs) (hT : TabAt w) (hc : n ≤ c) (hc2 : c ≤ 9223372036854775807) :
    Calls Tryd.prog 11 #[.slice A n c] w (ODecPost w (Op7.decR bs)) := by
  subst hn
  exact odecode_c A c bs w h hT hc hc2
theorem BytesAt.take' {w : World} {B : Nat} {A : Option Addr} {xs : List Nat} (h : BytesAt w B A xs) (n : Nat) : BytesAt w B A (xs.take n) :=
  NumsAt.to_bytes ((NumsAt.of_bytes h).take n) (fun x hx => h.1 x (List.mem_of_mem_take hx))
set_option maxRecDepth 100000 in
set_option maxHeartbeats 4000000 in
theorem cut_walk (A : Option Addr) (c : Nat) (l : List Op7.Ins) (k : Int) (w : World) (h : OpsAt w w.heap.size A l) (hc : l.length ≤ c) (hh : HandleAt w) (hT : TabAt w) :
    Calls Tryd.prog 5 #[.slice A l.length c, .int .i64 k] w fun e w' => e = .returned (.bool true) ∧ Grew w w' := by
  have HZ := hid (fun w' (hg : Grew w w') => sure_c w' (hh.grew hg) (hT.grew hg))
  have HNu := hid (fun k w' (hg : Grew w w') => num_c k w' (hh.grew hg))
  have HT := hid hT
  have HA := hid h
  clear hh hT h
  by_cases h6 : 600 < l.length
  · have f6 : (600 : Int) < l.length := by omega
    go_enter Tryd.func5, Tryd.ntmps5
    go_wp2_with fail
    refine (HZ.out _ (Grew.refl _)).mono ?_
    rintro e w1 ⟨rfl, hg⟩
    go_wp2_with fail
    go_ret
    exact ⟨rfl, hg⟩
  have f6 : ¬ (600 : Int) < l.length := by omega
  have HGv := hid (giveOps_c A c l w HA.out (by omega))
  obtain ⟨n, hn⟩ : ∃ n, n = l.length := ⟨_, rfl⟩
  rw [← hn] at f6 h6 hc HGv ⊢
  have HN := hid hn
  clear hn
  rcases encR_cases l with ⟨hv, h5, he⟩ | ⟨kk, hk0, he⟩
  · have hv' := hid hv
    have h5' := hid h5
    have HE := hid he
    clear he hv
    go_enter Tryd.func5, Tryd.ntmps5
    go_wp2_with fail
    refine HGv.out.mono ?_
    rintro e w1 ⟨A1, c1, L1, rfl, hL1, hR1, y1, rfl⟩
    have HR1 := hid hR1
    subst hL1
    have HE1 := hid (oencode_c A1 c1 L1 y1.w HR1.out.ops (HT.out.grew y1.grew) (by have := HN.out; omega))
    clear hR1
    go_wp2_with fail
    refine HE1.out.mono ?_
    rintro e w2 ⟨A2, c2, L2, rfl, hL2, hR2, hg2⟩
    have HL2 := hid (show L2 = Op7.encs L1 by rw [hL2, HE.out])
    rw [show errVal (encR L1).2 = .nilIface by rw [HE.out]; rfl]
    have HR2 := hid hR2
    have HG2 := hid (y1.grew.trans hg2)
    have hnb : L2.length ≤ 512 := by have := h5'.out; rw [← HL2.out] at this; omega
    have HD2 := hid (odecode_c A2 c2 L2 w2 (hR2.bytes (by rw [HL2.out]; exact valid_byte hv'.out)) (HT.out.grew HG2.out) hR2.cap.1 hR2.cap.2)
    have hcap := hR2.cap
    clear hL2 hR2 hg2 HE1 HGv h5
    obtain ⟨nb, hnb'⟩ : ∃ nb, nb = L2.length := ⟨_, rfl⟩
    rw [← hnb'] at hnb hcap HD2 ⊢
    have HNB := hid hnb'
    clear hnb'
    obtain ⟨t, ht⟩ : ∃ t, t = k.tmod ((nb : Int) + 1) := ⟨_, rfl⟩
    have ht1 : -((nb : Int) + 1) < t ∧ t < (nb : Int) + 1 := by
      have h1 := Int.tmod_lt_of_pos k (show 0 < (nb : Int) + 1 by omega)
      have h2 := Int.lt_tmod_of_pos k (show 0 < (nb : Int) + 1 by omega)
      rw [← ht] at h1 h2
      exact ⟨h2, h1⟩
    replace ht := ht.symm

    have hd : ∃ d : Nat, d ≤ nb ∧ ((0 ≤ t ∧ t = ((d : Nat) : Int)) ∨ (t < 0 ∧ t + ((nb : Int) + 1) = ((d : Nat) : Int))) := by
      by_cases h0 : 0 ≤ t
      · exact ⟨t.toNat, by omega, .inl ⟨h0, by omega⟩⟩
      · exact ⟨(t + ((nb : Int) + 1)).toNat, by omega, .inr ⟨by omega, by omega⟩⟩
    obtain ⟨d, hdn, hd⟩ := hd
    obtain ⟨is0, his0⟩ : ∃ z, z = decide (d = nb) := ⟨_, rfl⟩
    have e1 : (d == nb) = is0 := by rw [his0]; rfl
    have e2 : ((d : Int) == (nb : Int)) = is0 := by rw [his0, Bool.eq_iff_iff]; simp; omega
    have HI0 := hid his0
    clear his0
    have HDR := hid (show Op7.decR L2 = (L1, Op7.offs L1, 0) by rw [HL2.out]; exact decR_encs hv'.out h5'.out)
    have HYES := hid (show (decide (d = nb) || (Op7.offs L1).any (· == d)) = true → Op7.decR (L2.take d) = (L1.take (Op7.ahead d (Op7.offs L1)), Op7.offs (L1.take (Op7.ahead d (Op7.offs L1))), 0) from by
      have := Op7.cut_dec (d := d) hv'.out (by rw [← HL2.out, ← HNB.out]; exact hdn) h5'.out
      rw [← HL2.out, ← HNB.out] at this
      exact this)
    have HNO := hid (show (decide (d = nb) || (Op7.offs L1).any (· == d)) = false → Op7.decR (L2.take d) = ([], [], 8) from by
      have := Op7.cut_bad (d := d) hv'.out (by rw [← HL2.out, ← HNB.out]; exact hdn) h5'.out
      rw [← HL2.out, ← HNB.out] at this
      exact this)
    have HD3 := hid (fun w' (hg : Grew w2 w') => odecode_n A2 c2 (L2.take d) d w' (by rw [List.length_take, ← HNB.out]; omega) (((HR2.out.grew hg).bytes (by rw [HL2.out]; exact valid_byte hv'.out)).take' d) (HT.out.grew (HG2.out.trans hg)) (by omega) hcap.2)
    have hol := hid (Op7.offs_len L1)
    generalize Op7.offs L1 = of at *
    clear hv' h5' HE HL2 HNB HR2
    rcases hd with ⟨h0, rfl⟩ | ⟨h0, he⟩
    all_goals
      go_wp2_with fail
      refine HD2.out.mono ?_
      rintro e w3 ⟨A3, c3, A4, c4, L3, rfl, hL3, hR3, hN3, hg3⟩
      rw [HDR.out] at hL3 hN3
      subst hL3
      rw [show errVal (Op7.decR L2).2.2 = .nilIface by rw [HDR.out]; rfl, ← HN.out]
      have HR3 := hid hR3
      have HN3 := hid (show RowN w3 w2.heap.size A4 c4 of from hN3)
      have HG3 := hid hg3
      have hofn : of.length = n := by rw [hol.out, HN.out]
      have HOF := hid hofn
      clear hR3 hN3 hg3 HD2 hol hofn ht1
      go_wp2_with fail
      go_loopw [11, 12, 13] (fun s11 s12 s13 wr => ∃ (i q : Nat) (is : Bool), s11 = .int .i64 ((q : Nat) : Int) ∧ s12 = .bool is ∧ s13 = .int .i64 ((i : Nat) : Int) ∧ i ≤ n ∧ q ≤ i ∧ Grew w3 wr ∧ Hid (q = Op7.ahead d (of.take i) ∧ is = (is0 || (of.take i).any (· == d)))) (fun _ _ s13 _ => n - (intOf s13).toNat)
      case atStart => exact ⟨0, 0, is0, rfl, rfl, rfl, Nat.zero_le _, Nat.zero_le _, Grew.refl _, hid ⟨rfl, by simp⟩⟩
      case round =>
        obtain ⟨i, q, is, rfl, rfl, rfl, hi, hq, hg4, H⟩ := hrel
        have HG4 := hid hg4
        clear hg4
        by_cases hlt : i < n
        · have f1 : (i : Int) < n := by omega
          obtain ⟨x, hx⟩ : ∃ x, of[i]? = some x := ⟨_, List.getElem?_eq_getElem (show i < of.length by rw [HOF.out]; exact hlt)⟩
          obtain ⟨ad, rfl, hb, hc'⟩ := (HN3.out.nums.grew HG4.out) (by rw [HOF.out]; omega)
          have q0 := hc' i (by rw [HOF.out]; exact hlt)
          rw [show of.getD i 0 = x by rw [List.getD_eq_getElem?_getD, hx]; rfl] at q0
          have HX := hid (show of.take (i + 1) = of.take i ++ [x] by rw [List.take_add_one, hx]; rfl)
          have HQ := hid (show Op7.ahead d (of.take (i + 1)) = q + if x < d then 1 else 0 by rw [HX.out, Op7.ahead_snoc, H.out.1])
          have HS := hid (show (is0 || (of.take (i + 1)).any (· == d)) = (is || x == d) by rw [HX.out, Op7.any_snoc, H.out.2, Bool.or_assoc])
          clear hc' hx HX hb H
          have hxd : x < d ∨ x = d ∨ d < x := by omega
          cases is
          · rcases hxd with hxd | rfl | hxd
            · have t1 : (x == d) = false := by rw [beq_eq_false_iff_ne]; omega
              have t2 : ((x : Int) == (d : Int)) = false := by rw [beq_eq_false_iff_ne]; omega
              have t3 : (x : Int) < d := by omega
              rw [if_pos hxd] at HQ
              rw [t1] at HS
              go_wp2_with fail
              go_round
              case rel => exact ⟨i + 1, q + 1, false, by go_num, rfl, by go_num, by omega, by omega, HG4.out, hid ⟨HQ.out.symm, HS.out.symm⟩⟩
              case measure => simp [intOf]; omega
            · rw [if_neg (Nat.lt_irrefl _)] at HQ
              rw [beq_self_eq_true] at HS
              go_wp2_with fail
              go_round
              case rel => exact ⟨i + 1, q, true, by go_num, rfl, by go_num, by omega, by omega, HG4.out, hid ⟨HQ.out.symm, HS.out.symm⟩⟩
              case measure => simp [intOf]; omega
            · have t1 : (x == d) = false := by rw [beq_eq_false_iff_ne]; omega
              have t2 : ((x : Int) == (d : Int)) = false := by rw [beq_eq_false_iff_ne]; omega
              have t3 : ¬ (x : Int) < d := by omega
              rw [if_neg (by omega)] at HQ
              rw [t1] at HS
              go_wp2_with fail
              go_round
              case rel => exact ⟨i + 1, q, false, by go_num, rfl, by go_num, by omega, by omega, HG4.out, hid ⟨HQ.out.symm, HS.out.symm⟩⟩
              case measure => simp [intOf]; omega
          · rw [Bool.true_or] at HS
            by_cases hxd' : x < d
            · have t3 : (x : Int) < d := by omega
              rw [if_pos hxd'] at HQ
              go_wp2_with fail
              go_round
              case rel => exact ⟨i + 1, q + 1, true, by go_num, rfl, by go_num, by omega, by omega, HG4.out, hid ⟨HQ.out.symm, HS.out.symm⟩⟩
              case measure => simp [intOf]; omega
            · have t3 : ¬ (x : Int) < d := by omega
              rw [if_neg hxd'] at HQ
              go_wp2_with fail
              go_round
              case rel => exact ⟨i + 1, q, true, by go_num, rfl, by go_num, by omega, by omega, HG4.out, hid ⟨HQ.out.symm, HS.out.symm⟩⟩
              case measure => simp [intOf]; omega
        · have hin : i = n := by omega
          subst hin
          have HH := hid (show q = Op7.ahead d of ∧ is = (decide (d = nb) || of.any (· == d)) by
            have := H.out
            rwa [List.take_of_length_le (by rw [HOF.out]; exact Nat.le_refl _), HI0.out] at this)
          have HD4 := hid (HD3.out wr (HG3.out.trans HG4.out))
          have HG5 := hid ((HG2.out.trans HG3.out).trans HG4.out)
          clear H HD3
          cases is
          · have HRR := hid (HNO.out HH.out.2.symm)
            go_wp2_with fail
            refine HD4.out.mono ?_
            rintro e w5 ⟨A6, c6, A7, c7, L6, rfl, hL6, hR6, hN6, hg6⟩
            rw [HRR.out] at hL6
            subst hL6
            rw [show errVal (Op7.decR (L2.take d)).2.2 = errVal 8 by rw [HRR.out], errVal_8]
            have HG6 := hid (HG5.out.trans hg6)
            have hnu := hid (HNu.out 8 w5 HG6.out)
            rw [errVal_8] at hnu
            clear hR6 hN6 hg6 HD4
            go_wp2_with fail
            refine hnu.out.mono ?_
            rintro e w6 ⟨rfl, hg7⟩
            go_wp2_with fail
            refine (HZ.out _ (HG6.out.trans hg7)).mono ?_
            rintro e w7 ⟨rfl, hg8⟩
            go_wp2_with fail
            go_ret
            exact ⟨rfl, (HG6.out.trans hg7).trans hg8⟩
          · have HRR := hid (HYES.out HH.out.2.symm)
            go_wp2_with fail
            refine HD4.out.mono ?_
            rintro e w5 ⟨A6, c6, A7, c7, L6, rfl, hL6, hR6, hN6, hg6⟩
            rw [HRR.out] at hL6
            rw [← HH.out.1] at hL6
            replace hL6 : L6 = L3.take q := hL6
            rw [show errVal (Op7.decR (L2.take d)).2.2 = .nilIface by rw [HRR.out]; rfl]
            have HG6 := hid (HG5.out.trans hg6)
            have hl6 : L6.length = q := by
              rw [hL6]
              have := HN.out
              simp only [List.length_take]
              omega
            have HAr := hid (areOps_n A6 c6 A c q L6 (L3.take q) w5 hl6 (by rw [← hL6]; exact hl6) hL6 hR6.ops ((HA.out.grew HG6.out).take q) (by omega))
            rw [hl6]
            clear hR6 hN6 hg6 HD4 hL6 hl6
            go_wp2_with fail
            refine HAr.out.mono ?_
            rintro e w6 ⟨rfl, hg7⟩
            go_wp2_with fail
            refine (HZ.out _ (HG6.out.trans hg7)).mono ?_
            rintro e w7 ⟨rfl, hg8⟩
            go_wp2_with fail
            go_ret
            exact ⟨rfl, (HG6.out.trans hg7).trans hg8⟩
  · have HE := hid he
    clear he
    go_enter Tryd.func5, Tryd.ntmps5
    go_wp2_with fail
    refine HGv.out.mono ?_
    rintro e w1 ⟨A1, c1, L1, rfl, hL1, hR1, y1, rfl⟩
    have HR1 := hid hR1
    subst hL1
    have HE1 := hid (oencode_c A1 c1 L1 y1.w HR1.out.ops (HT.out.grew y1.grew) (by have := HN.out; omega))
    clear hR1
    go_wp2_with fail
    refine HE1.out.mono ?_
    rintro e w2 ⟨A2, c2, L2, rfl, hL2, hR2, hg2⟩
    have HG2 := hid (y1.grew.trans hg2)
    rw [show errVal (encR L1).2 = .iface 52 (.int .i64 kk) by rw [HE.out]; exact errVal_ne hk0]
    clear hL2 hR2 hg2
    go_wp2_with fail
    refine (HZ.out _ HG2.out).mono ?_
    rintro e w3 ⟨rfl, hg⟩
    go_wp2_with fail
    go_ret
    exact ⟨rfl, HG2.out.trans hg⟩
end Go.Proofs.YtjmlcplhilhkpaaDoor

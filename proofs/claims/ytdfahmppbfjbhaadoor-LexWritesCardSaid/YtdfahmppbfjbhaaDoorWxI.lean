/- Stage 13: the program's own argOrMark, token. -/
import Derived.Test.YtdfahmppbfjbhaaDoorWxH
import Derived.BigRegion
namespace Go.Proofs.YtdfahmppbfjbhaaDoor
open Go.RowKit

theorem mark_hit {l : List UInt8} {k : Nat} (h6 : 6 ≤ k) (h16 : k ≤ 16) (hn : ∀ j, 6 ≤ j → j < k → (Lx.mark j).isPrefixOf l = false) (h : (Lx.mark k).isPrefixOf l = true) : Lx.markTok l = (k, [], (Lx.mark k).length) := by
  have hf : (List.range' 6 11).find? (fun k => (Lx.mark k).isPrefixOf l) = some k := by
    have e : List.range' 6 11 = List.range' 6 (k - 6) ++ k :: List.range' (k + 1) (16 - k) := by
      have h1 : List.range' 6 11 = List.range' 6 (k - 6) ++ List.range' (6 + (k - 6)) (11 - (k - 6)) := by
        rw [List.range'_append_1]
        congr 1
        omega
      rw [h1, show 6 + (k - 6) = k by omega, show 11 - (k - 6) = (16 - k) + 1 by omega, List.range'_succ]
    rw [e, List.find?_append]
    have h1 : (List.range' 6 (k - 6)).find? (fun k => (Lx.mark k).isPrefixOf l) = none := by
      rw [List.find?_eq_none]
      intro j hj
      rw [List.mem_range'_1] at hj
      rw [hn j (by omega) (by omega)]
      decide
    rw [h1, Option.none_or]
    exact List.find?_cons_of_pos h
  unfold Lx.markTok
  rw [hf]
theorem mark_miss {l : List UInt8} (hn : ∀ j, 6 ≤ j → j < 17 → (Lx.mark j).isPrefixOf l = false) : Lx.markTok l = (0, [], 0) := by
  have hf : (List.range' 6 11).find? (fun k => (Lx.mark k).isPrefixOf l) = none := by
    rw [List.find?_eq_none]
    intro j hj
    rw [List.mem_range'_1] at hj
    rw [hn j (by omega) (by omega)]
    decide
  unfold Lx.markTok
  rw [hf]
def amTok (l : List UInt8) : Nat × List UInt8 × Nat := if (l.head? == some 58) && !(Lx.nameOf (l.drop 1)).isEmpty then (5, Lx.nameOf (l.drop 1), 1 + (Lx.nameOf (l.drop 1)).length) else Lx.markTok l
set_option maxRecDepth 100000 in
set_option maxHeartbeats 4000000 in
/-- The loop over the kinds. -/
theorem argOrMark_c (s : ByteArray) (hs : s.size ≤ 500000) (w : World) (hm : MarksAt w) : Calls Tryd.prog 44 #[.string s] w fun e w' => e = .returned (tokV (amTok (bs s))) ∧ Grew w w' := by
  have HP := hid (fun W => cutPrefix_c s 58 W)
  have HM := hid (fun W (hg : Grew w W) k hk => (hm.grew hg) k hk)
  have HMl := hid (fun W (hg : Grew w W) => (hm.grew hg).lt)
  clear hm
  have HG := hid ((Grew.refl w).alloc (.cells #[.int .u8 0, .string ⟨#[]⟩, .int .i64 0] 37))
  have HBk := hid (Blk.new w 37 #[.int .u8 0, .string ⟨#[]⟩, .int .i64 0])
  generalize hal : w.alloc (.cells #[.int .u8 0, .string ⟨#[]⟩, .int .i64 0] 37) = wa at *
  generalize hgs : w.heap.size = g at *
  have HGS := hid hgs
  by_cases harg : ((bs s).head? == some 58) = true ∧ (Lx.nameOf ((bs s).drop 1)).isEmpty = false
  · obtain ⟨ha, hb⟩ := harg
    have HT : Hid (amTok (bs s) = (5, Lx.nameOf ((bs s).drop 1), 1 + (Lx.nameOf ((bs s).drop 1)).length)) := hid (by
      unfold amTok
      rw [ha, hb]
      rfl)
    rw [ha] at HP
    simp only [if_true] at HP
    have hys : (ofL ((bs s).drop 1)).size ≤ 4294967280 := by rw [ofL_len, List.length_drop, bs_len]; omega
    have HN := hid (fun W => name_c _ hys W)
    rw [bs_ofL] at HN
    have hne : (ofL (Lx.nameOf ((bs s).drop 1))).toList.isEmpty = false := by rw [str_data, bs_ofL]; exact hb
    have hle := Lx.nameOf_le ((bs s).drop 1)
    rw [List.length_drop, bs_len] at hle
    have HXs := hid (ofL_len (Lx.nameOf ((bs s).drop 1)))
    generalize Lx.nameOf ((bs s).drop 1) = N at *
    obtain ⟨x, hx⟩ : ∃ x, x = ofL N := ⟨_, rfl⟩
    rw [← hx] at HN HXs hne
    have HXN := hid hx
    have hxs : x.size ≤ 500000 := by rw [HXs.out]; omega
    generalize ofL ((bs s).drop 1) = y at *
    clear hx hle hys ha hb
    go_enter Tryd.func44, Tryd.ntmps44
    go_wp2_with fail
    clear hal hgs
    refine (HP.out _).mono ?_
    rintro e w1 ⟨rfl, rfl⟩
    go_wp2_with fail
    refine (HN.out _).mono ?_
    rintro e w2 ⟨rfl, hg2⟩
    have HG2 := hid (HG.out.trans hg2)
    have HB2 := hid (HBk.out.grew hg2)
    clear hg2
    go_wp2_with fail
    refine (HN.out _).mono ?_
    rintro e w3 ⟨rfl, hg3⟩
    have HG3 := hid (HG2.out.trans hg3)
    have HB3 := hid (HB2.out.grew hg3)
    clear hg3
    have q0 := HB3.out.cell 0
    have q1 := HB3.out.cell 1
    have q2 := HB3.out.cell 2
    have f0 := HB3.out.frozen
    have ql := HB3.out.lt
    simp only [List.getElem?_toArray, List.getElem?_cons_zero, List.getElem?_cons_succ] at q0 q1 q2
    go_wp2_with fail
    refine bodyPost_ret (res_tok Tryd.results44 _ g rfl _ rfl _ _ _ _ (HB3.out.put3 _ _ _)) rfl ⟨?_, (kept3 (F := (· = g)) (Kept.refl _ _) (fun _ => rfl) _ _ _).grew HG3.out (fun k hk => by rw [hk]; exact Nat.le_of_eq HGS.out)⟩
    rw [HT.out, HXN.out]
    show Ending.returned (.tuple #[_, .int .i64 (1 + (((ofL N).size : Nat) : Int))]) = _
    rw [ofL_len]
    show _ = Ending.returned (.tuple #[_, .int .i64 ((1 + N.length : Nat) : Int)])
    rw [Int.natCast_add]
    rfl
  · have HT : Hid (amTok (bs s) = Lx.markTok (bs s)) := hid (by
      unfold amTok
      rw [if_neg]
      simpa using harg)
    have hys : (ofL ((bs s).drop 1)).size ≤ 4294967280 := by rw [ofL_len, List.length_drop, bs_len]; omega
    have HN := hid (fun W => name_c _ hys W)
    rw [bs_ofL] at HN
    have hne : ((bs s).head? == some 58) = true → (ofL (Lx.nameOf ((bs s).drop 1))).toList.isEmpty = true := fun h => by
      rw [str_data, bs_ofL]
      cases hh : (Lx.nameOf ((bs s).drop 1)).isEmpty
      · exact absurd ⟨h, hh⟩ harg
      · rfl
    clear harg hys
    cases ha : ((bs s).head? == some 58)
    case' false =>
      rw [ha] at HP
      simp only [Bool.false_eq_true, if_false, ofL_bs] at HP
      clear hne ha
      go_enter Tryd.func44, Tryd.ntmps44
      go_wp2_with fail
      clear hal hgs
      refine (HP.out _).mono ?_
      rintro e w1 ⟨rfl, rfl⟩
      have HG1 := HG
      have HB1 := HBk
      go_wp2_with fail
    case' true =>
      rw [ha] at HP
      simp only [if_true] at HP
      replace hne := hne ha
      clear ha
      generalize ofL (Lx.nameOf ((bs s).drop 1)) = x at *
      generalize ofL ((bs s).drop 1) = y at *
      go_enter Tryd.func44, Tryd.ntmps44
      go_wp2_with fail
      clear hal hgs
      refine (HP.out _).mono ?_
      rintro e w1 ⟨rfl, rfl⟩
      go_wp2_with fail
      refine (HN.out _).mono ?_
      rintro e w2 ⟨rfl, hg2⟩
      have HG1 := hid (HG.out.trans hg2)
      have HB1 := hid (HBk.out.grew hg2)
      clear hg2
      go_wp2_with fail
    all_goals
      go_loopw [7] (fun s7 wr => ∃ k : Nat, s7 = .int .i64 ((k : Nat) : Int) ∧ 6 ≤ k ∧ k ≤ 17 ∧ Hid (∀ j, 6 ≤ j → j < k → (Lx.mark j).isPrefixOf (bs s) = false) ∧ Hid (Grew w wr) ∧ Hid (Blk wr g 37 #[.int .u8 0, .string ⟨#[]⟩, .int .i64 0])) (fun s7 _ => 17 - (intOf s7).toNat)
      case atStart => exact ⟨6, rfl, Nat.le_refl _, by decide, hid (fun j h1 h2 => absurd h1 (by omega)), HG1, HB1⟩
      case round =>
        obtain ⟨k, rfl, h6, h17, HI, HG2, HB2⟩ := hrel
        by_cases hlt : k ≤ 16
        · have f1 : ((k : Nat) : Int) ≤ 16 := by omega
          have hmk := HM.out wr HG2.out k (by omega)
          have hml := HMl.out wr HG2.out
          have HH := hid (fun W => hasPrefix_c s (ofL (Lx.mark k)) W)
          rw [bs_ofL] at HH
          have hml2 := Lx.mark_len (k := k)
          have HLn := hid (ofL_len (Lx.mark k))
          have hsz : (ofL (Lx.mark k)).size ≤ 2 := by rw [ofL_len]; exact hml2
          cases hp : (Lx.mark k).isPrefixOf (bs s)
          · have HI2 : Hid (∀ j, 6 ≤ j → j < k + 1 → (Lx.mark j).isPrefixOf (bs s) = false) := hid (fun j h1 h2 => by
              rcases Nat.lt_or_ge j k with h | h
              · exact HI.out j h1 h
              · obtain rfl : j = k := by omega
                exact hp)
            rw [hp] at HH
            clear hp
            generalize ofL (Lx.mark k) = x at *
            go_wp2_with fail
            refine (HH.out _).mono ?_
            rintro e w3 ⟨rfl, rfl⟩
            go_wp2_with fail
            go_round
            case rel => exact ⟨k + 1, by go_num, by omega, by omega, HI2, HG2, HB2⟩
            case measure => simp [intOf]; omega
          · have HT2 := hid (mark_hit h6 hlt HI.out hp)
            rw [hp] at HH
            clear hp
            generalize ofL (Lx.mark k) = x at *
            go_wp2_with fail
            refine (HH.out _).mono ?_
            rintro e w3 ⟨rfl, rfl⟩
            have q0 := HB2.out.cell 0
            have q1 := HB2.out.cell 1
            have q2 := HB2.out.cell 2
            have f0 := HB2.out.frozen
            have ql := HB2.out.lt
            have hwk : IntKind.u8.wrap ((k : Nat) : Int) = ((k : Nat) : Int) := by
              rw [IntKind.wrap_u8]; omega
            have hkn : (0 : Int) ≤ ((k : Nat) : Int) := by omega
            simp only [List.getElem?_toArray, List.getElem?_cons_zero, List.getElem?_cons_succ] at q0 q1 q2
            go_wp2_with fail
            go_region
            go_wp2_with fail
            refine bodyPost_ret (res_tok Tryd.results44 _ g rfl _ rfl _ _ _ _ (HB2.out.put3 _ _ _)) rfl ⟨?_, (kept3 (F := (· = g)) (Kept.refl _ _) (fun _ => rfl) _ _ _).grew HG2.out (fun k hk => by rw [hk]; exact Nat.le_of_eq HGS.out) |>.drew⟩
            rw [HT.out, HT2.out]
            show Ending.returned (.tuple #[_, .int .i64 ((x.size : Nat) : Int)]) = _
            rw [HLn.out]
            rfl
        · have hk : k = 17 := by omega
          subst hk
          have HT2 := hid (mark_miss HI.out)
          have q0 := HB2.out.cell 0
          have q1 := HB2.out.cell 1
          have q2 := HB2.out.cell 2
          have f0 := HB2.out.frozen
          have ql := HB2.out.lt
          simp only [List.getElem?_toArray, List.getElem?_cons_zero, List.getElem?_cons_succ] at q0 q1 q2
          go_wp2_with fail
          refine bodyPost_ret (res_tok Tryd.results44 _ g rfl _ rfl _ _ _ _ (HB2.out.put3 _ _ _)) rfl ⟨?_, (kept3 (F := (· = g)) (Kept.refl _ _) (fun _ => rfl) _ _ _).grew HG2.out (fun k hk => by rw [hk]; exact Nat.le_of_eq HGS.out)⟩
          rw [HT.out, HT2.out]
          rfl
theorem raw_am {l : List UInt8} {c : UInt8} {r : List UInt8} (e : l = c :: r) (h1 : Lx.isL c = false) (h2 : Lx.isD c = false) (h3 : Lx.isOp c = false) (h4 : c ≠ 39) : Lx.raw l = amTok l := by
  subst e
  unfold Lx.raw amTok
  simp only [List.head?_cons, List.drop_one, List.tail_cons]
  rw [if_neg (by rw [h1]; decide), if_neg (by rw [h2]; decide), if_neg (by rw [h3]; decide), if_neg h4]
  by_cases h5 : c = 58
  · subst h5
    by_cases h6 : Lx.nameOf r = []
    · rw [if_neg (fun h => h.2 h6), if_neg (by rw [h6]; decide)]
    · rw [if_pos ⟨rfl, h6⟩, if_pos (by simpa using h6)]
  · rw [if_neg (fun h => h5 h.1), if_neg (by simp [h5])]
theorem raw_quo {l r : List UInt8} (e : l = 39 :: r) : Lx.raw l = quoTok l := by
  subst e
  unfold Lx.raw quoTok
  simp only [List.drop_one, List.tail_cons]
  rw [if_neg (by decide), if_neg (by decide), if_neg (by decide), if_pos trivial]
  cases Lx.quoted r <;> rfl
set_option maxRecDepth 100000 in
set_option maxHeartbeats 4000000 in
theorem token_c (s : ByteArray) (hs : s.size ≤ 500000) (h1 : 1 ≤ s.size) (w : World) (hm : EnvAt w) : Calls Tryd.prog 18 #[.string s] w fun e w' => e = .returned (tokV (Lx.raw (bs s))) ∧ Grew w w' := by
  have HE := hid hm
  clear hm
  obtain ⟨c, r, hb, hc⟩ := bs_cons h1
  have HL := hid (isLetter_c c)
  have HD := hid (isDigit_c c)
  have HO := hid (isOperator_c c)
  have HB := hid hb
  have HG := hid ((Grew.refl w).alloc (.cells #[.int .u8 0, .string ⟨#[]⟩, .int .i64 0] 37))
  have HBk := hid (Blk.new w 37 #[.int .u8 0, .string ⟨#[]⟩, .int .i64 0])
  generalize hal : w.alloc (.cells #[.int .u8 0, .string ⟨#[]⟩, .int .i64 0] 37) = wa at *
  generalize hgs : w.heap.size = g at *
  have HGS := hid hgs
  cases hl : Lx.isL c
  · cases hd : Lx.isD c
    · cases ho : Lx.isOp c
      · have HP := hid (fun W => hasPrefix_c s ⟨#[39]⟩ W)
        have hp : (bs ⟨#[39]⟩).isPrefixOf (bs s) = decide (c = 39) := by
          rw [hb, show bs ⟨#[39]⟩ = [39] from rfl, show List.isPrefixOf [39] (c :: r) = (39 == c) by simp [List.isPrefixOf], Bool.eq_iff_iff, beq_iff_eq, decide_eq_true_iff]
          exact eq_comm
        rw [hp] at HP
        rw [hl] at HL
        rw [hd] at HD
        rw [ho] at HO
        by_cases h9 : c = 39
        · rw [decide_eq_true h9] at HP
          have HQ := hid (fun W (hg : Grew w W) => quoted_c s hs h1 W (HE.out.grew hg))
          rw [← raw_quo (r := r) (by rw [hb, h9])] at HQ
          generalize Lx.raw (bs s) = t at *
          obtain ⟨tk, tt, tn⟩ := t
          unfold tokV at HQ ⊢
          simp only at HQ ⊢
          clear hb hp h9 hl hd ho
          generalize c.toNat = x at *
          generalize ofL tt = tb at *
          go_enter Tryd.func18, Tryd.ntmps18
          go_wp2_with fail
          clear hal hgs
          refine (HL.out _).mono ?_
          rintro e w1 ⟨rfl, hg1⟩
          have HG1 := hid (HG.out.trans hg1)
          have HB1 := hid (HBk.out.grew hg1)
          clear hg1
          go_wp2_with fail
          refine (HD.out _).mono ?_
          rintro e w2 ⟨rfl, hg1⟩
          have HG2 := hid (HG1.out.trans hg1)
          have HB2 := hid (HB1.out.grew hg1)
          clear hg1
          go_wp2_with fail
          refine (HO.out _).mono ?_
          rintro e w3 ⟨rfl, hg1⟩
          have HG3 := hid (HG2.out.trans hg1)
          have HB3 := hid (HB2.out.grew hg1)
          clear hg1
          go_wp2_with fail
          refine (HP.out _).mono ?_
          rintro e w4 ⟨rfl, rfl⟩
          go_wp2_with fail
          refine (HQ.out _ HG3.out).mono ?_
          rintro e w4 ⟨rfl, hg1⟩
          have HG4 := hid (HG3.out.trans hg1)
          have HB4 := hid (HB3.out.grew hg1)
          clear hg1
          have q0 := HB4.out.cell 0
          have q1 := HB4.out.cell 1
          have q2 := HB4.out.cell 2
          have f0 := HB4.out.frozen
          have ql := HB4.out.lt
          simp only [List.getElem?_toArray, List.getElem?_cons_zero, List.getElem?_cons_succ] at q0 q1 q2
          go_wp2_with fail
          refine bodyPost_ret (res_tok Tryd.results18 _ g rfl _ rfl _ _ _ _ (HB4.out.put3 _ _ _)) rfl ⟨rfl, (kept3 (F := (· = g)) (Kept.refl _ _) (fun _ => rfl) _ _ _).grew HG4.out (fun k hk => by rw [hk]; exact Nat.le_of_eq HGS.out)⟩
        · rw [decide_eq_false h9] at HP
          have HQ := hid (fun W (hg : Grew w W) => argOrMark_c s hs W (HE.out.grew hg).m)
          rw [← raw_am hb hl hd ho h9] at HQ
          generalize Lx.raw (bs s) = t at *
          obtain ⟨tk, tt, tn⟩ := t
          unfold tokV at HQ ⊢
          simp only at HQ ⊢
          clear hb hp h9 hl hd ho
          generalize c.toNat = x at *
          generalize ofL tt = tb at *
          go_enter Tryd.func18, Tryd.ntmps18
          go_wp2_with fail
          clear hal hgs
          refine (HL.out _).mono ?_
          rintro e w1 ⟨rfl, hg1⟩
          have HG1 := hid (HG.out.trans hg1)
          have HB1 := hid (HBk.out.grew hg1)
          clear hg1
          go_wp2_with fail
          refine (HD.out _).mono ?_
          rintro e w2 ⟨rfl, hg1⟩
          have HG2 := hid (HG1.out.trans hg1)
          have HB2 := hid (HB1.out.grew hg1)
          clear hg1
          go_wp2_with fail
          refine (HO.out _).mono ?_
          rintro e w3 ⟨rfl, hg1⟩
          have HG3 := hid (HG2.out.trans hg1)
          have HB3 := hid (HB2.out.grew hg1)
          clear hg1
          go_wp2_with fail
          refine (HP.out _).mono ?_
          rintro e w4 ⟨rfl, rfl⟩
          go_wp2_with fail
          refine (HQ.out _ HG3.out).mono ?_
          rintro e w4 ⟨rfl, hg1⟩
          have HG4 := hid (HG3.out.trans hg1)
          have HB4 := hid (HB3.out.grew hg1)
          clear hg1
          have q0 := HB4.out.cell 0
          have q1 := HB4.out.cell 1
          have q2 := HB4.out.cell 2
          have f0 := HB4.out.frozen
          have ql := HB4.out.lt
          simp only [List.getElem?_toArray, List.getElem?_cons_zero, List.getElem?_cons_succ] at q0 q1 q2
          go_wp2_with fail
          refine bodyPost_ret (res_tok Tryd.results18 _ g rfl _ rfl _ _ _ _ (HB4.out.put3 _ _ _)) rfl ⟨rfl, (kept3 (F := (· = g)) (Kept.refl _ _) (fun _ => rfl) _ _ _).grew HG4.out (fun k hk => by rw [hk]; exact Nat.le_of_eq HGS.out)⟩
      · rw [hl] at HL
        rw [hd] at HD
        rw [ho] at HO
        have er : Lx.raw (bs s) = (2, (bs s).take (Lx.span Lx.isOp ((bs s).take 2)), Lx.span Lx.isOp ((bs s).take 2)) := by
          rw [hb]
          unfold Lx.raw
          simp only
          rw [if_neg (by rw [hl]; decide), if_neg (by rw [hd]; decide), if_pos ho]
        have HQ := hid (fun W => span_c _ enters_isOp _ isOperator_c (ofL ((bs s).take 2)) (by rw [ofL_len, List.length_take]; omega) W)
        rw [bs_ofL] at HQ
        have hnl : Lx.span Lx.isOp ((bs s).take 2) ≤ min 2 s.size := by
          have := Lx.span_le Lx.isOp ((bs s).take 2)
          rwa [List.length_take, bs_len] at this
        rw [er]
        clear er
        have HX2 : Hid (s.extract 0 (Lx.span Lx.isOp ((bs s).take 2)) = ofL (((bs s).take 2).take (Lx.span Lx.isOp ((bs s).take 2)))) := hid (by
          rw [ext_take, List.take_take]
          congr 2
          omega)
        have hn1 : Lx.span Lx.isOp ((bs s).take 2) ≤ s.size := by omega
        have hn2 : Lx.span Lx.isOp ((bs s).take 2) ≤ 2 := by omega
        obtain ⟨m, em, e2, e3⟩ : ∃ m : Nat, min ((s.size : Nat) : Int) 2 = ((m : Nat) : Int) ∧ m ≤ s.size ∧ s.extract 0 m = ofL ((bs s).take 2) := by
          rcases Nat.lt_or_ge s.size 2 with h | h
          · refine ⟨s.size, by omega, Nat.le_refl _, ?_⟩
            rw [ext_take, List.take_of_length_le (by rw [bs_len]; exact Nat.le_refl _), List.take_of_length_le (by rw [bs_len]; omega)]
          · exact ⟨2, by omega, h, ext_take s 2⟩
        have et : (bs s).take (Lx.span Lx.isOp ((bs s).take 2)) = ((bs s).take 2).take (Lx.span Lx.isOp ((bs s).take 2)) := by
          rw [List.take_take]
          congr 1
          omega
        rw [et]
        clear et hnl
        generalize Lx.span Lx.isOp ((bs s).take 2) = n at *
        unfold tokV
        simp only
        generalize ofL (((bs s).take 2).take n) = tb at *
        generalize ofL ((bs s).take 2) = y at *
        clear hb hl hd ho
        generalize c.toNat = x at *
        have hix := HX2.out
        go_enter Tryd.func18, Tryd.ntmps18
        go_wp2_with fail
        clear hal hgs
        refine (HL.out _).mono ?_
        rintro e w1 ⟨rfl, hg1⟩
        have HG1 := hid (HG.out.trans hg1)
        have HB1 := hid (HBk.out.grew hg1)
        clear hg1
        go_wp2_with fail
        refine (HD.out _).mono ?_
        rintro e w2 ⟨rfl, hg1⟩
        have HG2 := hid (HG1.out.trans hg1)
        have HB2 := hid (HB1.out.grew hg1)
        clear hg1
        go_wp2_with fail
        refine (HO.out _).mono ?_
        rintro e w3 ⟨rfl, hg1⟩
        have HG3 := hid (HG2.out.trans hg1)
        have HB3 := hid (HB2.out.grew hg1)
        clear hg1
        go_wp2_with fail
        refine (HQ.out _).mono ?_
        rintro e w4 ⟨rfl, hg1⟩
        have HG4 := hid (HG3.out.trans hg1)
        have HB4 := hid (HB3.out.grew hg1)
        clear hg1
        have q0 := HB4.out.cell 0
        have q1 := HB4.out.cell 1
        have q2 := HB4.out.cell 2
        have f0 := HB4.out.frozen
        have ql := HB4.out.lt
        simp only [List.getElem?_toArray, List.getElem?_cons_zero, List.getElem?_cons_succ] at q0 q1 q2
        go_wp2_with fail
        refine bodyPost_ret (res_tok Tryd.results18 _ g rfl _ rfl _ _ _ _ (HB4.out.put3 _ _ _)) rfl ⟨rfl, (kept3 (F := (· = g)) (Kept.refl _ _) (fun _ => rfl) _ _ _).grew HG4.out (fun k hk => by rw [hk]; exact Nat.le_of_eq HGS.out)⟩
    · rw [hl] at HL
      rw [hd] at HD
      have er : Lx.raw (bs s) = (3, (bs s).take (Lx.span Lx.isD (bs s)), Lx.span Lx.isD (bs s)) := by
        rw [hb]
        unfold Lx.raw
        simp only
        rw [if_neg (by rw [hl]; decide), if_pos hd]
      have HQ := hid (fun W => span_c _ enters_isD _ isDigit_c s (by omega) W)
      have hnl := Lx.span_le Lx.isD (bs s)
      rw [bs_len] at hnl
      rw [er]
      clear er
      have HX := hid (ext_take s (Lx.span Lx.isD (bs s)))
      generalize Lx.span Lx.isD (bs s) = n at *
      unfold tokV
      simp only
      generalize ofL ((bs s).take n) = tb at *
      clear hb hl hd
      generalize c.toNat = x at *
      have hix := HX.out
      go_enter Tryd.func18, Tryd.ntmps18
      go_wp2_with fail
      clear hal hgs
      refine (HL.out _).mono ?_
      rintro e w1 ⟨rfl, hg1⟩
      have HG1 := hid (HG.out.trans hg1)
      have HB1 := hid (HBk.out.grew hg1)
      clear hg1
      go_wp2_with fail
      refine (HD.out _).mono ?_
      rintro e w2 ⟨rfl, hg1⟩
      have HG2 := hid (HG1.out.trans hg1)
      have HB2 := hid (HB1.out.grew hg1)
      clear hg1
      go_wp2_with fail
      refine (HQ.out _).mono ?_
      rintro e w3 ⟨rfl, hg1⟩
      have HG3 := hid (HG2.out.trans hg1)
      have HB3 := hid (HB2.out.grew hg1)
      clear hg1
      have q0 := HB3.out.cell 0
      have q1 := HB3.out.cell 1
      have q2 := HB3.out.cell 2
      have f0 := HB3.out.frozen
      have ql := HB3.out.lt
      simp only [List.getElem?_toArray, List.getElem?_cons_zero, List.getElem?_cons_succ] at q0 q1 q2
      go_wp2_with fail
      refine bodyPost_ret (res_tok Tryd.results18 _ g rfl _ rfl _ _ _ _ (HB3.out.put3 _ _ _)) rfl ⟨rfl, (kept3 (F := (· = g)) (Kept.refl _ _) (fun _ => rfl) _ _ _).grew HG3.out (fun k hk => by rw [hk]; exact Nat.le_of_eq HGS.out)⟩
  · rw [hl] at HL
    have HQ := hid (fun W (hg : Grew w W) => nameOrKey_c s (by omega) W (HE.out.grew hg).m)
    have er : Lx.raw (bs s) = nkTok (bs s) := by
      unfold nkTok
      rw [hb]
      unfold Lx.raw
      simp only
      rw [if_pos hl]
    rw [← er] at HQ
    clear er
    generalize Lx.raw (bs s) = t at *
    obtain ⟨tk, tt, tn⟩ := t
    unfold tokV at HQ ⊢
    simp only at HQ ⊢
    clear hb hl
    generalize c.toNat = x at *
    generalize ofL tt = tb at *
    go_enter Tryd.func18, Tryd.ntmps18
    go_wp2_with fail
    clear hal hgs
    refine (HL.out _).mono ?_
    rintro e w1 ⟨rfl, hg1⟩
    have HG1 := hid (HG.out.trans hg1)
    have HB1 := hid (HBk.out.grew hg1)
    clear hg1
    go_wp2_with fail
    refine (HQ.out _ HG1.out).mono ?_
    rintro e w2 ⟨rfl, hg1⟩
    have HG2 := hid (HG1.out.trans hg1)
    have HB2 := hid (HB1.out.grew hg1)
    clear hg1
    have q0 := HB2.out.cell 0
    have q1 := HB2.out.cell 1
    have q2 := HB2.out.cell 2
    have f0 := HB2.out.frozen
    have ql := HB2.out.lt
    simp only [List.getElem?_toArray, List.getElem?_cons_zero, List.getElem?_cons_succ] at q0 q1 q2
    go_wp2_with fail
    refine bodyPost_ret (res_tok Tryd.results18 _ g rfl _ rfl _ _ _ _ (HB2.out.put3 _ _ _)) rfl ⟨rfl, (kept3 (F := (· = g)) (Kept.refl _ _) (fun _ => rfl) _ _ _).grew HG2.out (fun k hk => by rw [hk]; exact Nat.le_of_eq HGS.out)⟩
end Go.Proofs.YtdfahmppbfjbhaaDoor

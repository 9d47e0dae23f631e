/- Stage 13: the program's own Words. -/
import Derived.Test.YtdfahmppbfjbhaaDoorWxJ
namespace Go.Proofs.YtdfahmppbfjbhaaDoor
open Go.RowKit

/-- What Words answers. -/
def WordsPost (s : ByteArray) (w : World) (e : Ending) (w' : World) : Prop :=
  Grew w w' ∧ ((65536 < s.size ∧ e = .returned (.tuple #[.slice none 0 0, .int .i64 0, errVal 4])) ∨
  (s.size ≤ 65536 ∧ ∃ o, Lx.words (bs s) 0 = .error o ∧ e = .returned (.tuple #[.slice none 0 0, .int .i64 ((o : Nat) : Int), errVal 9])) ∨
  (s.size ≤ 65536 ∧ ∃ l A c, Lx.words (bs s) 0 = .ok l ∧ e = .returned (.tuple #[.slice A l.length c, .int .i64 0, .nilIface]) ∧ Row w' w.heap.size 37 3 A l.length c (l.flatMap wordF)))
/-- What the operations ahead of the append give. -/
def WdF (w : World) (A : Option Addr) (n c g k : Nat) (t : ByteArray) (o : Int) (i : Nat) (v : Value) (w' : World) : Prop := match i with
  | 0 => v = .slice A n c
  | 1 => v = .pointer (some ⟨g, 0, none⟩)
  | 2 => v = .int .u8 ((k : Nat) : Int)
  | 3 => v = .pointer (some ⟨g, 1, none⟩)
  | 4 => v = .string t
  | 5 => v = .string t
  | 6 => v = .int .i64 o
  | 7 => v = .agg #[.int .u8 ((k : Nat) : Int), .string t, .int .i64 o]
  | 8 => ∃ H, v = .slice (some ⟨H, 0, none⟩) 1 1 ∧ Blk w' H 37 #[.int .u8 ((k : Nat) : Int), .string t, .int .i64 o] ∧ w.heap.size ≤ H
  | _ => True
theorem WdF.grew {w : World} {A : Option Addr} {n c g k : Nat} {t : ByteArray} {o : Int} : ∀ i v w1 w2, WdF w A n c g k t o i v w1 → Grew w1 w2 → WdF w A n c g k t o i v w2 := by
  intro i v w1 w2 h hg
  unfold WdF at h ⊢
  split at h
  all_goals first | exact h | skip
  obtain ⟨H, h1, h2, h3⟩ := h
  exact ⟨H, h1, h2.grew hg, h3⟩
theorem mayT_size {k : Nat} {t : List UInt8} (h : Lx.mayT k t = true) : t.length ≤ 500000 := by
  unfold Lx.mayT at h
  split at h
  · simp only [Bool.and_eq_true, decide_eq_true_eq] at h; omega
  · split at h
    · simp only [Bool.and_eq_true, decide_eq_true_eq] at h; omega
    · split at h
      · simp only [Bool.and_eq_true, decide_eq_true_eq] at h; omega
      · split at h
        · simp only [decide_eq_true_eq] at h; omega
        · simp only [Bool.and_eq_true, List.isEmpty_iff] at h
          rw [h.2]
          exact Nat.zero_le _
theorem quoted_text : ∀ (l : List UInt8) (x : List UInt8 × Nat), Lx.quoted l = some x → x.1.length ≤ l.length
  | [], x, h => by cases h
  | [c], x, h => by
    unfold Lx.quoted at h
    split at h
    · cases h; simp
    · cases h
  | c :: d :: r, x, h => by
    rw [Lx.quoted] at h
    split at h
    · split at h
      · cases hq : Lx.quoted r with
        | none => rw [hq] at h; cases h
        | some y =>
          rw [hq] at h
          cases h
          have := quoted_text r y hq
          simp only [List.length_cons]
          omega
      · cases h; simp
    · cases hq : Lx.quoted (d :: r) with
      | none => rw [hq] at h; cases h
      | some y =>
        rw [hq] at h
        cases h
        have := quoted_text (d :: r) y hq
        simp only [List.length_cons] at this ⊢
        omega
theorem raw_text (l : List UInt8) : (Lx.raw l).2.1.length ≤ l.length := by
  unfold Lx.raw
  split
  · exact Nat.le_refl _
  · rename_i c r
    split
    · split
      · exact Lx.nameOf_le _
      · exact Lx.nameOf_le _
    · split
      · simp only [List.length_take]; omega
      · split
        · simp only [List.length_take]; omega
        · split
          · split
            · exact Nat.zero_le _
            · rename_i x hx
              have := quoted_text r x hx
              simp only [List.length_cons]
              omega
          · split
            · have := Lx.nameOf_le r
              simp only [List.length_cons]
              omega
            · rcases Lx.markTok_cases (c :: r) with e | ⟨k, _, _, _, e⟩
              · rw [e]; exact Nat.zero_le _
              · rw [e]; exact Nat.zero_le _
theorem raw_size {l : List UInt8} {tk tn : Nat} {tt : List UInt8} (h : Lx.raw l = (tk, tt, tn)) (hl : (ofL l).size ≤ 500000) : (ofL tt).size ≤ 4294967280 := by
  have := raw_text l
  rw [h] at this
  rw [ofL_len] at hl ⊢
  simp only at this
  omega
set_option maxRecDepth 100000 in
set_option maxHeartbeats 8000000 in
theorem words_c (s : ByteArray) (hs : s.size ≤ 500000) (w : World) (hm : EnvAt w) : Calls Tryd.prog 8 #[.string s] w (WordsPost s w) := by
  have HE := hid hm
  clear hm
  unfold WordsPost
  by_cases hlong : 65536 < s.size
  · have f1 : (65536 : Int) < ((s.size : Nat) : Int) := by omega
    go_enter Tryd.func8, Tryd.ntmps8
    go_wp2_with fail
    refine bodyPost_ret (results_tmp3 rfl _ _ _) rfl ?_
    exact ⟨Grew.refl _, .inl ⟨hlong, rfl⟩⟩
  · have f1 : ¬ (65536 : Int) < ((s.size : Nat) : Int) := by omega
    have hsz : s.size ≤ 65536 := by omega
    have HSZ := hid hsz
    clear hlong hs hsz
    obtain ⟨n, hn⟩ : ∃ n, n = s.size := ⟨_, rfl⟩
    have HN := hid hn
    have hnn : n ≤ 65536 := by rw [HN.out]; exact HSZ.out
    clear hn
    go_enter Tryd.func8, Tryd.ntmps8
    go_wp2_with fail
    go_loopw [5, 6] (fun s5 s6 wr => ∃ (i m : Nat) (A' : Option Addr) (k' : Nat) (d : List Lx.Word), s6 = .int .i64 ((i : Nat) : Int) ∧ s5 = .slice A' m k' ∧ i ≤ n ∧ m ≤ i ∧ Hid (m = d.length) ∧ Hid (Row wr w.heap.size 37 3 A' m k' (d.flatMap wordF)) ∧ Hid (Grew w wr) ∧ Hid (Lx.words (bs s) 0 = Lx.cat d (Lx.words ((bs s).drop i) i))) (fun _ s6 _ => n - (intOf s6).toNat)
    case atStart => exact ⟨0, 0, none, 0, [], rfl, rfl, Nat.zero_le _, Nat.le_refl _, hid rfl, hid (Row.nil _ _ _ _), hid (Grew.refl _), hid (by rw [Lx.cat_nil]; rfl)⟩
    case round =>
      obtain ⟨i, m, A', k', d, rfl, rfl, hi, hmi, HD, HR, HG, HW⟩ := hrel
      by_cases hlt : i < n
      · have hltS : i < s.size := by rw [← HN.out]; exact hlt
        have f2 : (i : Int) < ((s.size : Nat) : Int) := by omega
        have hle : i ≤ s.size := by omega
        have hx := ext_drop s i
        have hxs : (ofL ((bs s).drop i)).size = s.size - i := by rw [ofL_len, List.length_drop, bs_len]
        have hxs2 : (ofL ((bs s).drop i)).size ≤ 500000 := by rw [hxs, ← HN.out]; omega
        have hne : (bs s).drop i ≠ [] := by
          intro h
          have := congrArg List.length h
          rw [List.length_drop, bs_len] at this
          simp at this
          omega
        have hB := fun W (hg : Grew w W) => blank_c (ofL ((bs s).drop i)) (by omega) W (HE.out.grew hg).x
        rw [bs_ofL] at hB
        have HB := hid hB
        have hbl := blankN_le ((bs s).drop i)
        rw [List.length_drop, bs_len] at hbl
        have HX := hid hx
        clear hB hx
        by_cases hb0 : 0 < blankN ((bs s).drop i)
        · have HW2 : Hid (Lx.words (bs s) 0 = Lx.cat d (Lx.words ((bs s).drop (i + blankN ((bs s).drop i))) (i + blankN ((bs s).drop i)))) := hid (by
            rw [HW.out, blank_words hb0, List.drop_drop])
          generalize blankN ((bs s).drop i) = q at *
          have hq : i + q ≤ n := by rw [HN.out]; omega
          have hix := HX.out
          clear hne hxs hxs2 hbl
          generalize ofL ((bs s).drop i) = x at *
          go_wp2_with fail
          refine (HB.out _ HG.out).mono ?_
          rintro e w1 ⟨rfl, hg1⟩
          have HG1 := hid (HG.out.trans hg1)
          have HR1 := hid (HR.out.grew hg1)
          clear hg1
          go_wp2_with fail
          go_round
          case rel => exact ⟨i + q, m, A', k', d, by go_num, rfl, hq, by omega, HD, HR1, HG1, HW2⟩
          case measure => simp [intOf]; omega
        · have hb1 : blankN ((bs s).drop i) = 0 := by omega
          have hst := step_raw hne hb1
          have hT := fun W (hg : Grew w W) => token_c (ofL ((bs s).drop i)) hxs2 (by rw [hxs]; omega) W (HE.out.grew hg)
          rw [bs_ofL] at hT
          rw [hb1] at HB
          have hrl := Lx.raw_le ((bs s).drop i)
          rw [List.length_drop, bs_len] at hrl
          have hr16 := raw_le16 ((bs s).drop i)
          have HNe := hid hne
          have hix := HX.out
          generalize hraw : Lx.raw ((bs s).drop i) = t at *
          obtain ⟨tk, tt, tn⟩ := t
          simp only at hst hr16 hrl
          unfold tokV at hT
          simp only at hT
          have HT := hid hT
          have hbst := hid (bs_ofL tt)
          have hts : (ofL tt).size ≤ 500000 ∨ Lx.mayT tk tt = false := by
            cases hm : Lx.mayT tk tt
            · exact .inr rfl
            · left
              rw [ofL_len]
              exact mayT_size hm
          have HM := hid (fun W => may_c tk (by omega) (ofL tt) 0 (raw_size hraw hxs2) W)
          have em : Lx.may ⟨tk, ofL tt, 0⟩ = Lx.mayT tk tt := rfl
          rw [em] at HM
          clear em hT hne hb1 hb0 hxs hxs2 hbl hraw
          generalize ofL ((bs s).drop i) = x at *
          obtain ⟨tb, htb⟩ : ∃ tb, tb = ofL tt := ⟨_, rfl⟩
          rw [← htb] at HT HM hts hbst
          have HTB := hid htb
          clear htb
          by_cases ht0 : tn = 0
          · subst ht0
            have HErr : Hid (Lx.words (bs s) 0 = .error i) := hid (by
              rw [if_neg (fun h => absurd h.1 (Nat.lt_irrefl 0))] at hst
              rw [HW.out, Lx.words_err HNe.out hst]
              rfl)
            clear hst hts
            go_wp2_with fail
            refine (HB.out _ HG.out).mono ?_
            rintro e w1 ⟨rfl, hg1⟩
            have HG1 := hid (HG.out.trans hg1)
            have HR1 := hid (HR.out.grew hg1)
            clear hg1
            go_wp2_with fail
            refine (HT.out _ HG1.out).mono ?_
            rintro e w2 ⟨rfl, hg1⟩
            have HG2 := hid (HG1.out.trans hg1)
            have HR2 := hid (HR1.out.grew hg1)
            clear hg1
            have G3 := (Grew.refl w2).alloc (.cells #[.int .u8 ((tk : Nat) : Int), .string tb, .int .i64 0] 37)
            have HB3 := hid (Blk.new w2 37 #[.int .u8 ((tk : Nat) : Int), .string tb, .int .i64 0])
            have HG3 := hid (HG2.out.trans G3)
            have HR3 := hid (HR2.out.grew G3)
            go_upto_region 10 with fail
            generalize w2.alloc (.cells #[.int .u8 ((tk : Nat) : Int), .string tb, .int .i64 0] 37) = w3 at *
            generalize w2.heap.size = g at *
            have q0 := HB3.out.cell 0
            have q1 := HB3.out.cell 1
            have q2 := HB3.out.cell 2
            have ql := HB3.out.lt
            simp only [List.getElem?_toArray, List.getElem?_cons_zero, List.getElem?_cons_succ] at q0 q1 q2
            clear G3
            go_wp2_with fail
            refine bodyPost_ret (results_tmp3 rfl _ _ _) rfl ?_
            exact ⟨HG3.out, .inr (.inl ⟨HSZ.out, i, HErr.out, rfl⟩)⟩
          · have htn : (((tn : Nat) : Int) == 0) = false := by rw [beq_eq_false_iff_ne]; omega
            cases hmay : Lx.mayT tk tt
            · have HErr : Hid (Lx.words (bs s) 0 = .error i) := hid (by
                rw [if_neg (fun h => by rw [hmay] at h; exact absurd h.2 (by decide))] at hst
                rw [HW.out, Lx.words_err HNe.out hst]
                rfl)
              rw [hmay] at HM
              clear hst hts hmay
              go_wp2_with fail
              refine (HB.out _ HG.out).mono ?_
              rintro e w1 ⟨rfl, hg1⟩
              have HG1 := hid (HG.out.trans hg1)
              have HR1 := hid (HR.out.grew hg1)
              clear hg1
              go_wp2_with fail
              refine (HT.out _ HG1.out).mono ?_
              rintro e w2 ⟨rfl, hg1⟩
              have HG2 := hid (HG1.out.trans hg1)
              have HR2 := hid (HR1.out.grew hg1)
              clear hg1
              have G3 := (Grew.refl w2).alloc (.cells #[.int .u8 ((tk : Nat) : Int), .string tb, .int .i64 0] 37)
              have HB3 := hid (Blk.new w2 37 #[.int .u8 ((tk : Nat) : Int), .string tb, .int .i64 0])
              have HG3 := hid (HG2.out.trans G3)
              have HR3 := hid (HR2.out.grew G3)
              go_upto_region 10 with fail
              generalize w2.alloc (.cells #[.int .u8 ((tk : Nat) : Int), .string tb, .int .i64 0] 37) = w3 at *
              generalize w2.heap.size = g at *
              have q0 := HB3.out.cell 0
              have q1 := HB3.out.cell 1
              have q2 := HB3.out.cell 2
              have ql := HB3.out.lt
              simp only [List.getElem?_toArray, List.getElem?_cons_zero, List.getElem?_cons_succ] at q0 q1 q2
              clear G3
              go_wp2_with fail
              refine (HM.out _).mono ?_
              rintro e w4 ⟨rfl, hg1⟩
              have HG4 := hid (HG3.out.trans hg1)
              clear hg1 q0 q1 q2 ql
              go_wp2_with fail
              refine bodyPost_ret (results_tmp3 rfl _ _ _) rfl ?_
              exact ⟨HG4.out, .inr (.inl ⟨HSZ.out, i, HErr.out, rfl⟩)⟩
            · have hts2 : tb.size ≤ 500000 := hts.resolve_right (by rw [hmay]; decide)
              have hstep : Lx.step ((bs s).drop i) = some (tn, some (tk, tt)) := by
                rw [hst, if_pos ⟨by omega, hmay⟩]
              have HOk : Hid (Lx.words (bs s) 0 = Lx.cat (d ++ [⟨tk, tb, ((i : Nat) : Int)⟩]) (Lx.words ((bs s).drop (i + tn)) (i + tn))) := hid (by
                rw [HW.out, Lx.words_step HNe.out hstep, Lx.cat_cat, List.drop_drop, HTB.out]
                rfl)
              have hin : i + tn ≤ n := by rw [HN.out]; omega
              rw [hmay] at HM
              clear hst hts hmay hstep
              go_wp2_with fail
              refine (HB.out _ HG.out).mono ?_
              rintro e w1 ⟨rfl, hg1⟩
              have HG1 := hid (HG.out.trans hg1)
              have HR1 := hid (HR.out.grew hg1)
              clear hg1
              go_wp2_with fail
              refine (HT.out _ HG1.out).mono ?_
              rintro e w2 ⟨rfl, hg1⟩
              have HG2 := hid (HG1.out.trans hg1)
              have HR2 := hid (HR1.out.grew hg1)
              clear hg1
              have G3 := (Grew.refl w2).alloc (.cells #[.int .u8 ((tk : Nat) : Int), .string tb, .int .i64 0] 37)
              have HB3 := hid (Blk.new w2 37 #[.int .u8 ((tk : Nat) : Int), .string tb, .int .i64 0])
              have HG3 := hid (HG2.out.trans G3)
              have HR3 := hid (HR2.out.grew G3)
              go_upto_region 10 with fail
              generalize w2.alloc (.cells #[.int .u8 ((tk : Nat) : Int), .string tb, .int .i64 0] 37) = w3 at *
              generalize w2.heap.size = g at *
              have q0 := HB3.out.cell 0
              have q1 := HB3.out.cell 1
              have q2 := HB3.out.cell 2
              have ql := HB3.out.lt
              simp only [List.getElem?_toArray, List.getElem?_cons_zero, List.getElem?_cons_succ] at q0 q1 q2
              clear G3
              go_wp2_with fail
              refine (HM.out _).mono ?_
              rintro e w4 ⟨rfl, hg1⟩
              have HG4 := hid (HG3.out.trans hg1)
              have HB4 := hid (HB3.out.grew hg1)
              have HR4 := hid (HR3.out.grew hg1)
              clear hg1 q0 q1 q2 ql
              go_upto_region 12 with fail
              have HC := hid (fun W => clone_c tb (by omega) W)
              have hmx : Tryd.prog.follows .mixedOrders = true := by kernel_rfl
              refine wp_region_facts (w0 := w4) w4 9 [43, 44, 45, 46, 47, 48, 49, 50, 51] [] (WdF w4 A' m k' g tk tb ((i : Nat) : Int)) hmx (by kernel_rfl) (Grew.refl _) WdF.grew ?_ ?_
              · repeat' (first | exact trivial | apply And.intro)
                all_goals
                  intro a w' hgw hs hA
                  have e5 := hs.eval 5 (by decide) (v := .slice A' m k') rfl
                  have e8 := hs.eval 8 (by decide) (v := .pointer (some ⟨g, 0, none⟩)) rfl
                  have e6 := hs.eval 6 (by decide) (v := .int .i64 ((i : Nat) : Int)) rfl
                  have HBe := hid (HB4.out.grew hgw)
                  have hle := hgw.below.size
                  clear hs hgw
                  simp only [Ahead, Region.binds, slotOf, WdF, List.getD_cons_succ, List.getD_cons_zero, forall_const, and_true] at hA
                  simp only [wantedD, if_true]
                  unfold Oper.wp
                  have ec : ∀ v, a.eval (.const v) = v := fun _ => rfl
                  have ef : ∀ z, a.eval (.func z) = .func (.func z) #[] #[] := fun _ => rfl
                  generalize hfe : a.eval = fe at *
                  clear hfe
                · go_simp
                  exact Gives.of' rfl (Grew.refl _) rfl
                · go_simp
                  exact Gives.of' rfl (Grew.refl _) rfl
                · have q1 := HBe.out.cell 0
                  have ql := HBe.out.lt
                  simp only [List.getElem?_toArray, List.getElem?_cons_zero] at q1
                  go_simp
                  exact Gives.of' rfl (Grew.refl _) rfl
                · go_simp
                  exact Gives.of' rfl (Grew.refl _) rfl
                · have q1 := HBe.out.cell 1
                  have ql := HBe.out.lt
                  simp only [List.getElem?_toArray, List.getElem?_cons_zero, List.getElem?_cons_succ] at q1
                  go_simp
                  exact Gives.of' rfl (Grew.refl _) rfl
                · go_simp
                  refine (HC.out _).mono ?_
                  rintro e wy ⟨rfl, hgy⟩
                  exact Gives.of' rfl hgy rfl
                · go_simp
                  exact Gives.of' rfl (Grew.refl _) rfl
                · go_simp
                  exact Gives.of' rfl (Grew.refl _) rfl
                · have hnew := Blk.new w' 37 #[.int .u8 ((tk : Nat) : Int), .string tb, .int .i64 ((i : Nat) : Int)]
                  have hgn : Grew w' (w'.alloc (.cells #[.int .u8 ((tk : Nat) : Int), .string tb, .int .i64 ((i : Nat) : Int)] 37)) := (Grew.refl w').alloc _
                  have HNw := hid hnew
                  have HGn := hid hgn
                  clear hnew hgn
                  go_simp
                  exact Gives.of' rfl HGn.out ⟨w'.heap.size, rfl, HNw.out, hle⟩
              · intro a w5 hgw hs hf _ _
                have h0 := hf 0 (by decide)
                have h8 := hf 8 (by decide)
                simp only [slotOf, WdF, List.getD_cons_succ, List.getD_cons_zero] at h0 h8
                obtain ⟨Hn, ev, hbn, hHn⟩ := h8
                obtain ⟨fn, rfl, hft⟩ := hs.put
                rw [hft] at ev h0
                have HBn := hid hbn
                have HR5 := hid (HR4.out.grew hgw)
                have HG5 := hid (HG4.out.trans hgw)
                have HF := hid (show (d ++ [(⟨tk, tb, ((i : Nat) : Int)⟩ : Lx.Word)]).flatMap wordF = d.flatMap wordF ++ [.int .u8 ((tk : Nat) : Int), .string tb, .int .i64 ((i : Nat) : Int)] by rw [List.flatMap_append]; rfl)
                clear hf hft hs hgw hbn hHn
                simp only [List.drop_succ_cons, List.drop_zero, putAll, List.foldl_cons, List.foldl_nil, Act.put, List.setIfInBounds_toArray, List.set_cons_succ, List.set_cons_zero, ev, h0]
                clear ev h0
                go_wp2_with (at_builtin; refine wpList_catR (.agg #[.int .u8 0, .string ⟨#[]⟩, .int .i64 0]) 3 32 w5 rfl _ _ 23 37 rfl Tryd.underlying23 word_info rfl (by decide) w.heap.size HG5.out.below.size A' m k' _ rfl HR5.out (some ⟨Hn, 0, none⟩) 1 1 [.int .u8 ((tk : Nat) : Int), .string tb, .int .i64 ((i : Nat) : Int)] rfl rfl (by intro u hu; simp only [List.mem_cons, List.not_mem_nil, or_false] at hu; rcases hu with rfl | rfl | rfl <;> rfl) (by intro e; cases e) (blk_row HBn.out) (by omega) (by omega) ?_; rintro A8 k8 w8 hR8 hK8 hT8; have HR8 := hid hR8; have HG8 := hid (hK8.grew HG5.out (Row.at_base HR5.out)); clear hR8 hK8 hT8)
                go_round
                case rel => exact ⟨i + tn, m + 1, A8, k8, _, by go_num, rfl, hin, by omega, hid (by rw [List.length_append, ← HD.out]; rfl), hid (by rw [HF.out]; exact HR8.out), HG8, HOk⟩
                case measure => simp [intOf]; omega
      · have hin : i = s.size := by have := HN.out; omega
        have f2 : ¬ (i : Int) < ((s.size : Nat) : Int) := by omega
        have HOk : Hid (Lx.words (bs s) 0 = .ok d) := hid (by
          rw [HW.out, List.drop_of_length_le (by rw [bs_len]; omega), Lx.words_nil]
          simp [Lx.cat])
        clear hin
        go_wp2_with fail
        refine bodyPost_ret (results_tmp3 rfl _ _ _) rfl ?_
        exact ⟨HG.out, .inr (.inr ⟨HSZ.out, d, HOk.out, A', k', by rw [← HD.out]; rfl, by rw [← HD.out]; exact HR.out⟩)⟩
end Go.Proofs.YtdfahmppbfjbhaaDoor

/- Law LexBack walked. -/
import Derived.Test.YtdfahmppbfjbhaaDoorWxN
import Derived.BigQuiet
namespace Go.Proofs.YtdfahmppbfjbhaaDoor
open Go.RowKit

theorem place_ok (l : List Lx.Word) (hk : ∀ x ∈ l, x.k < 256) : ∀ x ∈ Lx.place l 0, x.k < 256 := by
  intro x hx
  obtain ⟨i, hi⟩ := List.mem_iff_getElem?.1 hx
  have hlt := (List.getElem?_eq_some_iff.1 hi).1
  rw [Lx.place_len] at hlt
  obtain ⟨q, h1, _⟩ := Lx.place_at l 0 i _ (List.getElem?_eq_getElem hlt)
  rw [h1] at hi
  cases hi
  exact hk l[i] (List.getElem_mem hlt)
theorem place_n64 (l : List Lx.Word) (ht : (Lx.text l).length ≤ 65536) (hm : mayAll l = true) : ∀ x ∈ Lx.place l 0, N64 x.o := by
  intro x hx
  obtain ⟨i, hi⟩ := List.mem_iff_getElem?.1 hx
  have hlt := (List.getElem?_eq_some_iff.1 hi).1
  rw [Lx.place_len] at hlt
  obtain ⟨q, h1, ⟨z, h2⟩, _⟩ := Lx.place_at l 0 i _ (List.getElem?_eq_getElem hlt)
  rw [h1] at hi
  cases hi
  have hne := Lx.src_ne (may_text (may_mem hm (List.getElem_mem hlt)))
  have hq : q ≤ (Lx.text l).length := by
    rcases Nat.lt_or_ge (Lx.text l).length q with h | h
    · exfalso
      rw [List.drop_of_length_le (by omega)] at h2
      have := congrArg List.length h2
      rw [List.length_append] at this
      have h3 : 0 < (Lx.srcW (l[i])).length := List.length_pos_iff.2 hne
      simp at this
      omega
    · exact h
  unfold N64
  simp only
  omega
theorem bs_getI {s : ByteArray} {i : Nat} {c : UInt8} (h : (bs s)[i]? = some c) : ∃ hi : i < s.size, (s[i]'hi).toNat = c.toNat := by
  have hi := (List.getElem?_eq_some_iff.1 h).1
  rw [bs_len] at hi
  obtain ⟨d, h1, h2⟩ := bs_at s i hi
  rw [h1] at h
  cases h
  exact ⟨hi, h2⟩
/-- The words of a text that words were written as. -/
theorem back_facts {l : List Lx.Word} (hm : mayAll l = true) {i : Nat} {x : Lx.Word} (hx : l[i]? = some x) : ∃ q : Nat, (Lx.place l 0)[i]? = some ⟨x.k, x.s, ((q : Nat) : Int)⟩ ∧ q + (Lx.srcW x).length ≤ (Lx.text l).length ∧ ((Lx.text l).drop q).take (Lx.srcW x).length = Lx.srcW x ∧ (i = 0 → q = 0) ∧ (0 < i → 0 < q ∧ (Lx.text l)[q - 1]? = some 32) := by
  obtain ⟨q, h1, ⟨z, h2⟩, h3, h4⟩ := Lx.place_at l 0 i x hx
  rw [Nat.zero_add] at h1
  have hne := Lx.src_ne (may_text (may_mem hm (List.mem_of_getElem? hx)))
  have hl : 0 < (Lx.srcW x).length := List.length_pos_iff.2 hne
  have h5 := congrArg List.length h2
  rw [List.length_drop, List.length_append] at h5
  exact ⟨q, h1, by omega, by rw [h2, List.take_left' rfl], h3, h4⟩
theorem words_one {w : World} {ad : Addr} {l : List Lx.Word} (h : WordsAt w (some ad) l) {i : Nat} {x : Lx.Word} (hx : l[i]? = some x) : WordsAt w (some (ad.add (i * 3))) [x] := by
  have hlt := (List.getElem?_eq_some_iff.1 hx).1
  obtain ⟨ad', e, hb, hc⟩ := h.cells (by omega)
  cases e
  refine ⟨fun y hy => ?_, fun y hy => ?_, fun _ => ⟨_, rfl, by rw [block_add]; exact hb, ?_⟩⟩
  · rw [List.mem_singleton.1 hy]; exact h.k x (List.mem_of_getElem? hx)
  · rw [List.mem_singleton.1 hy]; exact h.o x (List.mem_of_getElem? hx)
  · intro j v hj t u hu
    have hj0 : j = 0 := by
      have := (List.getElem?_eq_some_iff.1 hj).1
      simpa using this
    subst hj0
    obtain rfl : x = v := by simpa using hj
    rw [add_add, show i * 3 + (0 * 3 + t) = i * 3 + t by omega]
    exact hc i x hx t u hu
set_option maxRecDepth 100000 in
set_option maxHeartbeats 8000000 in
theorem back13_walk (A : Option Addr) (cap : Nat) (l : List Lx.Word) (w : World) (hm : EnvAt w) (hh : HandleAt w) (h : WordsAt w A l) :
    Calls Tryd.prog 5 #[.slice A l.length cap] w fun e w' => e = .returned (.bool true) ∧ Grew w w' := by
  have HE := hid hm
  have HH := hid hh
  have HA := hid h
  obtain ⟨n, en⟩ : ∃ n, n = l.length := ⟨_, rfl⟩
  rw [← en]
  have EN := hid en
  clear hm hh h en
  have HS := hid (fun W (hg : Grew w W) => sure_c W (HE.out.grew hg) (HH.out.grew hg))
  go_enter Tryd.func5, Tryd.ntmps5
  go_wp2_with fail
  go_loopw [3, 4] (fun s3 s4 wr => ∃ (i t : Nat), s4 = .int .i64 ((i : Nat) : Int) ∧ s3 = .int .i64 ((t : Nat) : Int) ∧ i ≤ n ∧ i ≤ 65537 ∧ t ≤ 262144 ∧ Hid (∀ x ∈ l.take i, x.s.size ≤ 262144) ∧ Hid (wr = w)) (fun _ s4 _ => 65537 - (intOf s4).toNat)
  case atStart => exact ⟨0, 0, rfl, rfl, Nat.zero_le _, Nat.zero_le _, Nat.zero_le _, hid (by simp), hid rfl⟩
  case round =>
    obtain ⟨i, t, rfl, rfl, hi, hi6, ht, HT, HW⟩ := hrel
    by_cases hlt : i < n
    · have f1 : (i : Int) < n := by omega
      obtain ⟨ad, x, rfl, hx, q0, q1, q2, hb, _, _⟩ := word_at HA.out (show Grew w wr by rw [HW.out]; exact Grew.refl _) (i := i) (by rw [← EN.out]; exact hlt)
      have HT2 : Hid (x.s.size ≤ 262144 → ∀ y ∈ l.take (i + 1), y.s.size ≤ 262144) := hid (fun hs y hy => by
        rw [List.take_add_one, hx] at hy
        rcases List.mem_append.1 hy with hy | hy
        · exact HT.out y hy
        · simp at hy
          rw [hy]
          exact hs)
      obtain ⟨k, s, o⟩ := x
      simp only at q0 q1 q2 HT2
      obtain ⟨u, hu, hu2, hu3⟩ : ∃ u : Nat, min ((s.size : Nat) : Int) 1048576 = ((u : Nat) : Int) ∧ u ≤ 1048576 ∧ (u ≤ 262144 → s.size ≤ 262144) := ⟨min s.size 1048576, by omega, by omega, by omega⟩
      clear hx
      by_cases hbig : 262144 < t + u
      · have f2 : (262144 : Int) < ((t : Nat) : Int) + ((u : Nat) : Int) := by omega
        go_wp2_with fail
        refine (HS.out _ (by rw [HW.out]; exact Grew.refl _)).mono ?_
        rintro e w2 ⟨rfl, hg2⟩
        rw [HW.out] at hg2
        go_wp2_with fail
        go_ret
        exact ⟨rfl, hg2⟩
      · have f2 : ¬ (262144 : Int) < ((t : Nat) : Int) + ((u : Nat) : Int) := by omega
        by_cases hi2 : 65536 < i
        · have f3 : (65536 : Int) < ((i : Nat) : Int) := by omega
          go_wp2_with fail
          refine (HS.out _ (by rw [HW.out]; exact Grew.refl _)).mono ?_
          rintro e w2 ⟨rfl, hg2⟩
          rw [HW.out] at hg2
          go_wp2_with fail
          go_ret
          exact ⟨rfl, hg2⟩
        · have f3 : ¬ (65536 : Int) < ((i : Nat) : Int) := by omega
          have HT3 := hid (HT2.out (hu3 (by omega)))
          clear hu3
          go_wp2_with fail
          go_round
          case rel => exact ⟨i + 1, t + u, by go_num, by go_num, by omega, by omega, by omega, HT3, HW⟩
          case measure => simp [intOf]; omega
    · have hin : n = i := by omega
      subst hin
      have HSz : Hid (∀ x ∈ l, x.s.size ≤ 262144) := hid (by
        have := HT.out
        rwa [EN.out, List.take_length] at this)
      obtain rfl : wr = w := HW.out
      clear HT HW hlt
      have hgv := giveWords_c A cap l wr HA.out (by rw [← EN.out]; omega)
      rw [← EN.out] at hgv
      unfold GiveW at hgv
      rw [← EN.out] at hgv
      have HGv := hid hgv
      clear hgv
      go_wp2_with fail
      refine HGv.out.mono ?_
      rintro e w1 ⟨A1, c1, rfl, hr1, hg1⟩
      have HR1 := hid hr1
      have HG1 := hid hg1
      have HA1 := hid (row_words hr1 EN.out HA.out.k HA.out.o)
      clear hr1 hg1
      have htx := text_c A1 c1 l w1 HA1.out (by rw [← EN.out]; omega) (fun x hx => by have := HSz.out x hx; omega) (HE.out.grew HG1.out)
      rw [← EN.out] at htx
      have HTx := hid htx
      clear htx
      go_wp2_with fail
      refine HTx.out.mono ?_
      rintro e w2 ⟨hg2, hp⟩
      have HG2 := hid (HG1.out.trans hg2)
      have HA2 := hid (HA1.out.grew hg2)
      have HR2 := hid (HR1.out.grew hg2)
      clear hg2
      rcases hp with ⟨_, rfl⟩ | ⟨_, _, rfl⟩ | ⟨hma, hts, rfl⟩
      · unfold errVal
        go_wp2_with fail
        refine (HS.out _ HG2.out).mono ?_
        rintro e w3 ⟨rfl, hg3⟩
        have HG3 := hid (HG2.out.trans hg3)
        clear hg3
        go_wp2_with fail
        go_ret
        exact ⟨rfl, HG3.out⟩
      · unfold errVal
        go_wp2_with fail
        refine (HS.out _ HG2.out).mono ?_
        rintro e w3 ⟨rfl, hg3⟩
        have HG3 := hid (HG2.out.trans hg3)
        clear hg3
        go_wp2_with fail
        go_ret
        exact ⟨rfl, HG3.out⟩
      · have hsz : (ofL (Lx.text l)).size ≤ 65536 := by rw [ofL_len]; exact hts
        have HWd := hid (words_c (ofL (Lx.text l)) (by omega) w2 (HE.out.grew HG2.out))
        have HMa := hid hma
        have HTs := hid hts
        have HTl := hid (ofL_len (Lx.text l))
        obtain ⟨s, hs⟩ : ∃ s, s = ofL (Lx.text l) := ⟨_, rfl⟩
        rw [← hs] at hsz HWd HTl
        have HSb := hid (show bs s = Lx.text l by rw [hs, bs_ofL])
        rw [← hs]
        clear hma hts hs
        go_wp2_with fail
        refine HWd.out.mono ?_
        rintro e w3 ⟨hg3, hp⟩
        have HG3 := hid (HG2.out.trans hg3)
        have HA3 := hid (HA2.out.grew hg3)
        have HR3 := hid (HR2.out.grew hg3)
        clear hg3
        have hp' : ∃ A2 c2, e = .returned (.tuple #[.slice A2 n c2, .int .i64 0, .nilIface]) ∧ WordsAt w3 A2 (Lx.place l 0) := by
          rw [HSb.out, Lx.words_text l 0 (fun x hx => may_text (may_mem HMa.out hx))] at hp
          rcases hp with ⟨h, _⟩ | ⟨_, o, h, _⟩ | ⟨_, l2, A2, c2, h, h2, h3⟩
          · exact absurd h (by omega)
          · cases h
          · cases h
            rw [Lx.place_len, ← EN.out] at h2
            exact ⟨A2, c2, h2, row_words h3 rfl (place_ok l HA.out.k) (place_n64 l HTs.out HMa.out)⟩
        clear hp
        obtain ⟨A2, c2, rfl, hm3⟩ := hp'
        have HM3 := hid hm3
        clear hm3
        go_wp2_with fail
        go_loopw [11] (fun s11 wr => ∃ i : Nat, s11 = .int .i64 ((i : Nat) : Int) ∧ i ≤ n ∧ Hid (Grew w3 wr)) (fun s11 _ => n - (intOf s11).toNat)
        case atStart => exact ⟨0, rfl, Nat.zero_le _, hid (Grew.refl _)⟩
        case round =>
          obtain ⟨i, rfl, hi, HG⟩ := hrel
          obtain ⟨y0, rfl⟩ := HG.out
          by_cases hlt : i < n
          · have f1 : (i : Int) < n := by omega
            obtain ⟨x, hx⟩ : ∃ x, l[i]? = some x := ⟨_, List.getElem?_eq_getElem (by rw [← EN.out]; exact hlt)⟩
            obtain ⟨q, hp, hq1, hq2, hq3, hq4⟩ := back_facts HMa.out hx
            obtain ⟨ad2, y, rfl, hy, m0, m1, m2, mb, _, _⟩ := word_at HM3.out (Grew.refl _) (i := i) (by rw [Lx.place_len, ← EN.out]; exact hlt)
            rw [hp] at hy
            cases hy
            obtain ⟨ad1, y, rfl, hy, p0, p1, p2, pb, _, _⟩ := word_at HA3.out (Grew.refl _) (i := i) (by rw [← EN.out]; exact hlt)
            rw [hx] at hy
            cases hy
            have HX := hid hx
            have HP := hid hp
            have HQ1 := hid hq1
            have HQ2 := hid hq2
            have hcap : n ≤ c1 := HR3.out.cases.2.1
            clear hx hp hq1 hq2
            obtain ⟨k, t, o⟩ := x
            simp only at m0 m1 m2 p0 p1 p2 hq3 hq4
            by_cases h0 : i = 0
            · obtain rfl := hq3 h0
              have f3 : (((i : Nat) : Int) == 0) = true := by rw [beq_iff_eq]; omega
              have b3 : decide ((0 : Int) < ((i : Nat) : Int)) = false := by rw [decide_eq_false_iff_not]; omega
              have b4 : decide (0 < i) = false := by rw [decide_eq_false_iff_not]; omega
              have hc2 : ¬ c1 = i := by omega
              clear hq3 hq4 h0
              go_wp2_with fail
              refine wp_region_grew_from y0.grew (by kernel_rfl) (by kernel_rfl) ?_
              repeat (go_big_quiet_step (fail))
              refine wpQuiet_nil ?_
              rintro _ ⟨y4, rfl⟩
              have HG4 := hid y4.grew
              have HWo := hid (words_one (HA3.out.grew HG4.out) HX.out)
              clear m0 m1 m2 p0 p1 p2 mb pb 
              go_wp2_with fail
              refine (text_c _ (c1 - i) [⟨k, t, o⟩] y4.w HWo.out (by simp) (fun x hx => by rw [List.mem_singleton.1 hx]; have := HSz.out _ (List.mem_of_getElem? HX.out); simp only at this ⊢; omega) (HE.out.grew (HG3.out.trans HG4.out))).mono ?_
              rintro e w5 ⟨hg5, hp⟩
              have hp' : e = .returned (.tuple #[.string (ofL (Lx.srcW ⟨k, t, o⟩)), .nilIface]) := by
                have hm1 := may_mem HMa.out (List.mem_of_getElem? HX.out)
                have hl1 := src_len (may_text hm1)
                rcases hp with ⟨h, _⟩ | ⟨_, h, _⟩ | ⟨_, _, h⟩
                · rw [show mayAll [⟨k, t, o⟩] = Lx.may ⟨k, t, o⟩ by simp [mayAll], hm1] at h
                  cases h
                · exfalso
                  change 65536 < (Lx.src k (bs t)).length at h
                  simp only at hl1
                  omega
                · exact h
              clear hp
              subst hp'
              obtain ⟨y5, rfl⟩ := HG4.out.trans hg5
              clear hg5
              obtain ⟨ad2, y, e, hy, m0, m1, m2, mb, _, _⟩ := word_at HM3.out (Grew.refl _) (i := i) (by rw [Lx.place_len, ← EN.out]; exact hlt)
              cases e
              rw [HP.out] at hy
              cases hy
              simp only at m0 m1 m2
              obtain ⟨y, hy⟩ : ∃ y, y = ofL (Lx.srcW ⟨k, t, o⟩) := ⟨_, rfl⟩
              rw [← hy]
              have hyl : y.size = (Lx.srcW ⟨k, t, o⟩).length := by rw [hy, ofL_len]
              have hq5 : 0 + y.size ≤ s.size := by rw [hyl, HTl.out]; exact HQ1.out
              have hex : s.extract 0 y.size = y := by
                rw [ext_mid, HSb.out, show y.size - 0 = (Lx.srcW ⟨k, t, o⟩).length by omega, HQ2.out, hy]
              have HEx := hid hex
              have hys : y.size ≤ 65536 := by omega
              clear hyl hy hex
              have c1a : decide (((s.size : Nat) : Int) - ((0 : Nat) : Int) < ((y.size : Nat) : Int)) = false := by rw [decide_eq_false_iff_not]; omega
              have c1b : decide (((s.size : Nat) : Int) < ((y.size : Nat) : Int)) = false := by rw [decide_eq_false_iff_not]; omega
              have c1c : decide (s.size < y.size) = false := by rw [decide_eq_false_iff_not]; omega
              have hys2 : y.size ≤ s.size := by omega
              have hex := HEx.out
              go_wp2_with fail
              refine wp_region_grew_from y5.grew (by kernel_rfl) (by kernel_rfl) ?_
              repeat (go_big_quiet_step (fail))
              refine wpQuiet_nil ?_
              rintro _ ⟨y6, rfl⟩
              have HG6 := hid y6.grew
              go_wp2_with fail
              go_round
              case rel => exact ⟨i + 1, by go_num, by omega, HG6⟩
              case measure => simp [intOf]; omega
            · obtain ⟨hq0, hq5⟩ := hq4 (by omega)
              have b3 : decide ((0 : Int) < ((i : Nat) : Int)) = true := by rw [decide_eq_true_iff]; omega
              have b4 : decide (0 < i) = true := by rw [decide_eq_true_iff]; omega
              have f3 : (((i : Nat) : Int) == 0) = false := by rw [beq_eq_false_iff_ne]; omega
              rw [← HSb.out] at hq5
              obtain ⟨hq6, hq7⟩ := bs_getI hq5
              have g1 : (0 : Int) ≤ ((q : Nat) : Int) - 1 := by omega
              have g2 : ((q : Nat) : Int) - 1 < ((s.size : Nat) : Int) := by omega
              have g3 : (((q : Nat) : Int) - 1).toNat = q - 1 := by omega
              have g4 : IntKind.i64.wrap (((q : Nat) : Int) - 1) = ((q : Nat) : Int) - 1 := by rw [IntKind.wrap_i64]; omega
              have hc2 : ¬ c1 = i := by omega
              rw [show (32 : UInt8).toNat = 32 from rfl] at hq7
              clear hq3 hq4 hq5 h0
              go_wp2_with fail
              refine wp_region_grew_from y0.grew (by kernel_rfl) (by kernel_rfl) ?_
              repeat (go_big_quiet_step (fail))
              refine wpQuiet_nil ?_
              rintro _ ⟨y4, rfl⟩
              have HG4 := hid y4.grew
              have HWo := hid (words_one (HA3.out.grew HG4.out) HX.out)
              clear m0 m1 m2 p0 p1 p2 mb pb g1 g2 g3 g4 hq7
              go_wp2_with fail
              refine (text_c _ (c1 - i) [⟨k, t, o⟩] y4.w HWo.out (by simp) (fun x hx => by rw [List.mem_singleton.1 hx]; have := HSz.out _ (List.mem_of_getElem? HX.out); simp only at this ⊢; omega) (HE.out.grew (HG3.out.trans HG4.out))).mono ?_
              rintro e w5 ⟨hg5, hp⟩
              have hp' : e = .returned (.tuple #[.string (ofL (Lx.srcW ⟨k, t, o⟩)), .nilIface]) := by
                have hm1 := may_mem HMa.out (List.mem_of_getElem? HX.out)
                have hl1 := src_len (may_text hm1)
                rcases hp with ⟨h, _⟩ | ⟨_, h, _⟩ | ⟨_, _, h⟩
                · rw [show mayAll [⟨k, t, o⟩] = Lx.may ⟨k, t, o⟩ by simp [mayAll], hm1] at h
                  cases h
                · exfalso
                  change 65536 < (Lx.src k (bs t)).length at h
                  simp only at hl1
                  omega
                · exact h
              clear hp
              subst hp'
              obtain ⟨y5, rfl⟩ := HG4.out.trans hg5
              clear hg5
              obtain ⟨ad2, y, e, hy, m0, m1, m2, mb, _, _⟩ := word_at HM3.out (Grew.refl _) (i := i) (by rw [Lx.place_len, ← EN.out]; exact hlt)
              cases e
              rw [HP.out] at hy
              cases hy
              simp only at m0 m1 m2
              obtain ⟨y, hy⟩ : ∃ y, y = ofL (Lx.srcW ⟨k, t, o⟩) := ⟨_, rfl⟩
              rw [← hy]
              have hyl : y.size = (Lx.srcW ⟨k, t, o⟩).length := by rw [hy, ofL_len]
              have hq5 : q + y.size ≤ s.size := by rw [hyl, HTl.out]; exact HQ1.out
              have hex : s.extract q (q + y.size) = y := by
                rw [ext_mid, HSb.out, show q + y.size - q = (Lx.srcW ⟨k, t, o⟩).length by omega, HQ2.out, hy]
              have HEx := hid hex
              have hys : y.size ≤ 65536 := by omega
              clear hyl hy hex
              have c1a : decide (((s.size : Nat) : Int) - ((q : Nat) : Int) < ((y.size : Nat) : Int)) = false := by rw [decide_eq_false_iff_not]; omega
              have c1b : IntKind.i64.wrap (((s.size : Nat) : Int) - ((q : Nat) : Int)) = ((s.size : Nat) : Int) - ((q : Nat) : Int) := by rw [IntKind.wrap_i64]; omega
              have c1c : IntKind.i64.wrap (((q : Nat) : Int) + ((y.size : Nat) : Int)) = ((q : Nat) : Int) + ((y.size : Nat) : Int) := by rw [IntKind.wrap_i64]; omega
              have c1d : (((q : Nat) : Int) + ((y.size : Nat) : Int)).toNat = q + y.size := by omega
              have c1e : ((q : Nat) : Int) + ((y.size : Nat) : Int) ≤ ((s.size : Nat) : Int) := by omega
              have c1f : ((q : Nat) : Int) ≤ ((q : Nat) : Int) + ((y.size : Nat) : Int) := by omega
              have c1g : (0 : Int) ≤ ((q : Nat) : Int) + ((y.size : Nat) : Int) := by omega
              have hex := HEx.out
              go_wp2_with fail
              refine wp_region_grew_from y5.grew (by kernel_rfl) (by kernel_rfl) ?_
              repeat (go_big_quiet_step (fail))
              refine wpQuiet_nil ?_
              rintro _ ⟨y6, rfl⟩
              have HG6 := hid y6.grew
              go_wp2_with fail
              go_round
              case rel => exact ⟨i + 1, by go_num, by omega, HG6⟩
              case measure => simp [intOf]; omega
          · have hin : n = i := by omega
            subst hin
            go_wp2_with fail
            refine (HS.out _ (HG3.out.trans HG.out)).mono ?_
            rintro e w4 ⟨rfl, hg4⟩
            have HG4 := hid ((HG3.out.trans HG.out).trans hg4)
            clear hg4
            go_wp2_with fail
            go_ret
            exact ⟨rfl, HG4.out⟩
end Go.Proofs.YtdfahmppbfjbhaaDoor

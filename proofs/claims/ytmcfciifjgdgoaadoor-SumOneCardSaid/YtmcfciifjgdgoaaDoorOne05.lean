/- SumOne: for all three slices of bytes and all two numbers the law returns true, and nothing that was there is changed. Conditions: none of ours. -/
import Derived.Test.YtmcfciifjgdgoaaDoorSu6
import Derived.Test.YtmcfciifjgdgoaaDoorFacts2
import Derived.Test.YtmcfciifjgdgoaaDoorLh2
import Derived.BigQuiet
namespace Go.Proofs.YtmcfciifjgdgoaaDoor
open Go.RowKit

set_option maxRecDepth 100000 in
set_option maxHeartbeats 2000000 in
theorem one_walk (A : Option Addr) (a : Nat) (xs : List Nat) (B : Option Addr) (b : Nat) (ys : List Nat) (C : Option Addr) (c : Nat) (zs : List Nat) (p q : Nat) (w : World)
    (ha : NumsAt .u8 w w.heap.size A xs) (hb : NumsAt .u8 w w.heap.size B ys) (hc : NumsAt .u8 w w.heap.size C zs) (hx : ∀ x ∈ xs, x < 256) (hy : ∀ x ∈ ys, x < 256) (hz : ∀ x ∈ zs, x < 256)
    (hlx : xs.length ≤ 140737488351232) (hly : ys.length ≤ 140737488351232) (hlz : zs.length ≤ 140737488351232) (hp : p < 65536) (hq : q < 65536) (hg : HandleAt w) :
    Calls Tryd.prog 5 #[.agg #[.slice A xs.length a, .slice B ys.length b, .slice C zs.length c], .agg #[.int .u16 ((p : Nat) : Int), .int .u16 ((q : Nat) : Int)]] w fun e w' => e = .returned (.bool true) ∧ Grew w w' := by
  have HH := hid hg
  have HA := hid ha
  have HB := hid hb
  have HC := hid hc
  clear hg ha hb hc
  obtain ⟨n, en⟩ : ∃ n, n = xs.length := ⟨_, rfl⟩
  obtain ⟨m, em⟩ : ∃ m, m = ys.length := ⟨_, rfl⟩
  obtain ⟨l, el⟩ : ∃ l, l = zs.length := ⟨_, rfl⟩
  rw [← en] at hlx ⊢
  rw [← em] at hly ⊢
  rw [← el] at hlz ⊢
  have EN := hid (And.intro en (And.intro em el))
  clear en em el
  go_enter Tryd.func5, Tryd.ntmps5
  go_upto_region 1 with fail
  obtain ⟨wb, hwb⟩ : ∃ wb, wb = (w.alloc (.cells #[.slice A n a, .slice B m b, .slice C l c] 53)).alloc (.cells #[.int .u16 ((p : Nat) : Int), .int .u16 ((q : Nat) : Int)] 55) := ⟨_, rfl⟩
  have hB1 : Blk wb w.heap.size 53 #[.slice A n a, .slice B m b, .slice C l c] ∧ Blk wb (w.heap.size + 1) 55 #[.int .u16 ((p : Nat) : Int), .int .u16 ((q : Nat) : Int)] ∧ Grew w wb := by
    have b1 := Blk.new w 53 #[.slice A n a, .slice B m b, .slice C l c]
    have g1 := (Grew.refl w).alloc (.cells #[.slice A n a, .slice B m b, .slice C l c] 53)
    have s1 : (w.alloc (.cells #[.slice A n a, .slice B m b, .slice C l c] 53)).heap.size = w.heap.size + 1 := by simp
    generalize w.alloc (.cells #[.slice A n a, .slice B m b, .slice C l c] 53) = w1 at *
    have b2 := Blk.new w1 55 #[.int .u16 ((p : Nat) : Int), .int .u16 ((q : Nat) : Int)]
    have g2 := (Grew.refl w1).alloc (.cells #[.int .u16 ((p : Nat) : Int), .int .u16 ((q : Nat) : Int)] 55)
    rw [← hwb] at b2 g2
    rw [s1] at b2
    exact ⟨b1.grew g2, b2, g1.trans g2⟩
  rw [← hwb]
  clear hwb
  obtain ⟨hB1, hB2, hG0⟩ := hB1
  have HB2 := hid hB2
  have HG0 := hid hG0
  have q0 := hB1.cell 0
  have q1 := hB1.cell 1
  have q2 := hB1.cell 2
  simp only [List.getElem?_toArray, List.getElem?_cons_zero, List.getElem?_cons_succ] at q0 q1 q2
  clear hB1 hB2 hG0
  go_quiet (fail)
  clear q0 q1 q2
  have HB3 := hid (HB2.out.drewN nq)
  have HG1 : Hid (Grew w (wb.drewN nq)) := hid (Grew.mk (below_drewN HG0.out.below nq))
  clear HG0 HB2
  generalize wb.drewN nq = w1 at *
  by_cases h6 : 600 < n + m + l
  · have h6' : (600 : Int) < (n : Int) + m + l := by omega
    go_wp2_with fail
    refine (sure5_c _ (HH.out.grew HG1.out)).mono ?_
    rintro e w2 ⟨rfl, hg⟩
    go_wp2_with fail
    go_ret
    exact ⟨rfl, HG1.out.trans hg⟩
  · have h6' : ¬ (600 : Int) < (n : Int) + m + l := by omega
    have HX := hid (show ∀ x ∈ (xs ++ ys) ++ zs, x < 256 from fun x h => by
      rcases List.mem_append.1 h with h | h
      · rcases List.mem_append.1 h with h | h
        · exact hx x h
        · exact hy x h
      · exact hz x h)
    have HX3 := hid (And.intro hx (And.intro hy hz))
    have hN : ((xs ++ ys) ++ zs).length = n + m + l := by
      rw [List.length_append, List.length_append, ← EN.out.1, ← EN.out.2.1, ← EN.out.2.2]
    obtain ⟨N, eN⟩ : ∃ N, N = n + m + l := ⟨_, rfl⟩
    have hN6 : N ≤ 600 := by omega
    rw [← eN] at hN
    have HN := hid hN
    have HNN := hid eN
    have HP3 := hid (And.intro hlx (And.intro hly hlz))
    have l1 := hid (show xs.length ≤ 600 ∧ ys.length ≤ 600 ∧ zs.length ≤ 600 by
      rw [← EN.out.1, ← EN.out.2.1, ← EN.out.2.2]; omega)
    clear hx hy hz h6 hlx hly hlz hN eN
    go_upto_region 5 with (first
      | (at_builtin; refine wpList_catM .u8 1 w1 _ rfl _ _ 43 5 rfl Tryd.underlying43 v_u8 ((Grew.refl w1).alloc _) _ 0 [] rfl (OwnNums.made0 .u8 w1 w1 5 (Grew.refl _)) A a xs (by rw [← EN.out.1]; rfl) (HA.out.grew (HG1.out.alloc _)) (by have := l1.out; rw [List.length_nil]; omega) (by have := l1.out; rw [List.length_nil]; omega) ?_; rintro A2 c2 M2 W2 HM2 hO2 hG2)
      | (at_builtin; refine wpList_catM .u8 1 w1 W2 rfl _ _ 43 5 rfl Tryd.underlying43 v_u8 hG2 A2 c2 M2 rfl hO2 B b ys (by rw [← EN.out.2.1]; rfl) (HB.out.grew (HG1.out.trans hG2)) (by have := l1.out; rw [HM2.out, List.nil_append]; omega) (by have := l1.out; rw [HM2.out, List.nil_append]; omega) ?_; rintro A3 c3 M3 W3 HM3 hO3 hG3)
      | (at_builtin; refine wpList_catM .u8 1 w1 W3 rfl _ _ 43 5 rfl Tryd.underlying43 v_u8 hG3 A3 c3 M3 rfl hO3 C c zs (by rw [← EN.out.2.2]; rfl) (HC.out.grew (HG1.out.trans hG3)) (by have := l1.out; rw [HM3.out, HM2.out, List.nil_append, List.length_append]; omega) (by have := l1.out; rw [HM3.out, HM2.out, List.nil_append, List.length_append]; omega) ?_; rintro A4 c4 M W4 HM4 hO4 hG4))
    have eM : M = (xs ++ ys) ++ zs := by rw [HM4.out, HM3.out, HM2.out, List.nil_append]
    have HM := hid eM
    have hO5 := hid hO4
    rw [← eM] at HX HN
    have hG5 := hid hG4
    clear hO2 hG2 HM2 hO3 hG3 HM3 HM4 hO4 hG4 eM
    have S1 := hid (seal_c A4 c4 M W4 hO5.out.at HX.out (by rw [HN.out]; omega))
    rw [HN.out] at S1
    rw [HN.out]
    go_wp2_with fail
    refine S1.out.mono ?_
    rintro e W5 ⟨A5, c5, S, rfl, hS, hO6, hG6⟩
    have HS := hid hS
    have HSL := hid (show S.length = N + 4 by rw [hS, Su.seald_len, HN.out])
    have HS8 := hid (show ∀ x ∈ S, x < 256 by rw [hS]; exact Su.seald_byte HX.out)
    have hO6' := hid hO6
    have hG6' := hid hG6
    have O1 := hid (open_c A5 c5 S W5 hO6.at HS8.out (by rw [HSL.out]; omega) hO6.cap.1)
    rw [HSL.out] at O1
    rw [HSL.out]
    clear hS hO6 hG6 S1
    go_wp2_with fail
    refine O1.out.mono ?_
    rintro e W6 ⟨A6, c6, L6, k6, rfl, hL6, hk6, hO7, hG7⟩
    have eL : L6 = M := by rw [hL6, HS.out]; exact Su.openL_seald _
    have ek : k6 = 0 := by rw [hk6, HS.out]; exact Su.openE_seald _
    subst eL ek
    rw [errVal_0, HN.out]
    have hO7' := hid hO7
    have hG7' := hid hG7
    clear hL6 hk6 hO7 hG7 O1
    have GA := hid (HG1.out.trans (hG5.out.trans (hG6'.out.trans hG7'.out)))
    have NA := hid (HA.out.grew GA.out)
    have NB := hid (HB.out.grew GA.out)
    have NC := hid (HC.out.grew GA.out)
    have NM := hid (hO5.out.at.grew (hG6'.out.trans hG7'.out))
    have OS := hid (hO6'.out.grew hG7'.out)
    have N6 := hid hO7'.out.at
    have BQ := hid (HB3.out.grew (hG5.out.trans (hG6'.out.trans hG7'.out)))
    have HW4 := hid (GA.out.below.size)
    have G45 := hid (HG1.out.trans hG5.out)
    clear hG5 hG6' hG7' hO5 hO6' hO7' HA HB HC HB3 HG1
    obtain ⟨s0, es0⟩ : ∃ s0, s0 = Su.sum L6 := ⟨_, rfl⟩
    have CP3 := hid (fun (V : World) (hv : Grew W6 V) => of_alloc [(A, a, xs), (B, b, ys), (C, c, zs)] 3 43 V 3 s0 #[.slice A n a, .slice B m b, .slice C l c] rfl (by rw [es0, HM.out]; simp) (by rw [EN.out.1, EN.out.2.1, EN.out.2.2]; rfl) (fun p hp => by
      simp only [List.mem_cons, List.not_mem_nil, or_false] at hp
      have := l1.out
      rcases hp with rfl | rfl | rfl
      · exact ⟨NA.out.grew hv, HX3.out.1, by dsimp only; omega⟩
      · exact ⟨NB.out.grew hv, HX3.out.2.1, by dsimp only; omega⟩
      · exact ⟨NC.out.grew hv, HX3.out.2.2, by dsimp only; omega⟩) (by simp))
    have CP5 := hid (fun (V : World) (hv : Grew W6 V) => of_alloc [(A, a, xs), (none, 0, []), (B, b, ys), (none, 0, []), (C, c, zs)] 5 43 V 5 s0 #[.slice A n a, .slice none 0 0, .slice B m b, .slice none 0 0, .slice C l c] rfl (by rw [es0, HM.out]; simp) (by rw [EN.out.1, EN.out.2.1, EN.out.2.2]; rfl) (fun p hp => by
      simp only [List.mem_cons, List.not_mem_nil, or_false] at hp
      have := l1.out
      rcases hp with rfl | rfl | rfl | rfl | rfl
      · exact ⟨NA.out.grew hv, HX3.out.1, by dsimp only; omega⟩
      · exact ⟨NumsAt.nil _ _ _ _, by simp, by simp⟩
      · exact ⟨NB.out.grew hv, HX3.out.2.1, by dsimp only; omega⟩
      · exact ⟨NumsAt.nil _ _ _ _, by simp, by simp⟩
      · exact ⟨NC.out.grew hv, HX3.out.2.2, by dsimp only; omega⟩) (by simp))
    have CP1 := hid (fun (V : World) (hv : Grew W6 V) => of_alloc [(A4, c4, L6)] 1 43 V 1 s0 #[.slice A4 N c4] rfl (by rw [es0]; simp) (by rw [← HN.out]; rfl) (fun p hp => by
      simp only [List.mem_cons, List.not_mem_nil, or_false] at hp
      subst hp
      exact ⟨NM.out.grew hv, HX.out, by dsimp only; rw [HN.out]; omega⟩) (by simp))
    clear es0
    go_wp2_with fail
    refine (CP3.out W6 (Grew.refl _)).mono ?_
    rintro e V1 ⟨rfl, g1⟩
    go_wp2_with fail
    refine (CP1.out V1 g1).mono ?_
    rintro e V2 ⟨rfl, g2⟩
    replace g2 := g1.trans g2
    go_wp2_with fail
    refine (CP5.out V2 g2).mono ?_
    rintro e V3 ⟨rfl, g3⟩
    replace g3 := g2.trans g3
    go_wp2_with fail
    refine (CP1.out V3 g3).mono ?_
    rintro e V4 ⟨rfl, g4⟩
    replace g4 := g3.trans g4
    have HG4 := hid g4
    have cv1 := conv5 A6 c6 L6 V4 (N6.out.grew g4)
    have cv2 := conv5 A4 c4 L6 V4 (NM.out.grew g4)
    rw [HN.out] at cv1 cv2
    generalize strN L6 = SS at *
    have p0 := (BQ.out.grew g4).cell 0
    have p1 := (BQ.out.grew g4).cell 1
    simp only [List.getElem?_toArray, List.getElem?_cons_zero, List.getElem?_cons_succ] at p0 p1
    have hO8 := OS.out.grew g4
    clear g1 g2 g3 g4 CP1 CP3 CP5 OS BQ
    go_upto_region 12 with fail
    rw [show ((p : Nat) : Int) % (((N : Nat) : Int) + 4) = ((p % (N + 4) : Nat) : Int) by simp]
    have hk := Nat.mod_lt p (show 0 < N + 4 by omega)
    generalize p % (N + 4) = k at *
    rcases hO8.cases with ⟨_, _, h0⟩ | ⟨g, rfl, hge, hgl, hcm, hfr, _⟩
    · exfalso
      have := HSL.out
      rw [h0] at this
      simp at this
    · have hm0 := hcm k (by rw [HSL.out]; exact hk)
      have hf0 := hfr k
      have hx8 : S.getD k 0 < 256 := by
        refine HS8.out _ ?_
        have := HSL.out
        simp [List.getD_eq_getElem?_getD, show k < S.length by omega]
      have hk' : (k : Int) < (N : Int) + 4 := by omega
      obtain ⟨x, ex⟩ : ∃ x, x = S.getD k 0 := ⟨_, rfl⟩
      rw [← ex] at hm0 hx8
      obtain ⟨t, et⟩ : ∃ t, t = 1 + q % 255 := ⟨_, rfl⟩
      have HXR := hid (show bits BinOp.xor IntKind.u8 ((x : Nat) : Int) (1 + ((q : Nat) : Int) % 255) = ((x ^^^ t : Nat) : Int) by
        rw [show (1 + ((q : Nat) : Int) % 255) = ((t : Nat) : Int) by omega]
        exact u8_xor_nat x t hx8 (by omega))
      have HNE := hid (show x ^^^ t < 256 ∧ x ^^^ t ≠ S.getD k 0 by
        rw [← ex]
        exact ⟨Nat.xor_lt_two_pow (n := 8) hx8 (by omega), xor_ne (by omega)⟩)
      have HO8 := hid hO8
      have HGE := hid (show w.heap.size ≤ g from Nat.le_trans G45.out.below.size hge)
      clear ex et hO8 hcm hfr cv1 cv2
      go_region
      rw [HXR.out]
      have hO9 := (HO8.out.set k (x ^^^ t)).drew
      have hG9 := (((GA.out.trans HG4.out).setCell (p := ⟨g, k, none⟩) HGE.out (.int .u8 ((x ^^^ t : Nat) : Int))).drew)
      clear p0 p1 hm0 hf0 HO8 HXR
      generalize ((V4.setCell ⟨g, k, none⟩ (.int .u8 ((x ^^^ t : Nat) : Int))).drew) = W9 at *
      obtain ⟨T, eT⟩ : ∃ T, T = S.set k (x ^^^ t) := ⟨_, rfl⟩
      rw [← eT] at hO9
      have hTL : T.length = N + 4 := by rw [eT, List.length_set, HSL.out]
      have hT8 : ∀ v ∈ T, v < 256 := fun v hv => by
        rw [eT] at hv
        rcases List.mem_or_eq_of_mem_set hv with h1 | h1
        · exact HS8.out v h1
        · rw [h1]; exact HNE.out.1
      have HE5 := hid (show Su.openE T = 5 by
        rw [eT, HS.out]
        exact Su.openE_set HX.out (by rw [HN.out]; exact hk) HNE.out.1 (by rw [← HS.out]; exact HNE.out.2))
      have O2 := hid (open_c (some ⟨g, 0, none⟩) c5 T W9 hO9.at hT8 (by rw [hTL]; omega) hO9.cap.1)
      rw [hTL] at O2
      have HG9 := hid hG9
      clear hO9 hG9 eT hTL hT8
      go_wp2_with fail
      refine O2.out.mono ?_
      rintro e WA ⟨A7, c7, L7, k7, rfl, hL7, hk7, hO10, hG10⟩
      have ek : k7 = 5 := by rw [hk7]; exact HE5.out
      subst ek
      have HGA := hid (HG9.out.trans hG10)
      have NU := hid (num5_c 5 WA (HH.out.grew HGA.out))
      rw [errVal_5] at NU
      rw [errVal_5]
      clear hL7 hk7 hO10 hG10 O2
      go_wp2_with fail
      refine NU.out.mono ?_
      rintro e WB ⟨rfl, hgB⟩
      have HGB := hid (HGA.out.trans hgB)
      clear hgB
      go_wp2_with fail
      refine (sure5_c WB (HH.out.grew HGB.out)).mono ?_
      rintro e WC ⟨rfl, hgC⟩
      go_wp2_with fail
      go_ret
      exact ⟨rfl, HGB.out.trans hgC⟩
end Go.Proofs.YtmcfciifjgdgoaaDoor

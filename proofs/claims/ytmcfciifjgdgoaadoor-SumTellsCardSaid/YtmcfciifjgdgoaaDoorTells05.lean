/- SumTells: for all two slices of bytes the law returns true, and nothing that was there is changed. Conditions: none of ours. -/
import Derived.Test.YtmcfciifjgdgoaaDoorSuR
import Derived.Test.YtmcfciifjgdgoaaDoorLh2
namespace Go.Proofs.YtmcfciifjgdgoaaDoor
open Go.RowKit

/-- What each operation of the law's last statement gives. -/
def Te5F (t : TypeId) (va vb vall vc vd : Value) (s0 E : Nat) (SA SB : ByteArray) (xs : List Nat) (i : Nat) (v : Value) (w : World) : Prop := match i with
  | 0 => v = vall
  | 1 => ∃ g, v = .slice (some ⟨g, 0, none⟩) 1 1 ∧ Blk w g t #[vall]
  | 2 => v = .int .u32 ((s0 : Nat) : Int)
  | 3 => v = vall
  | 4 => v = .int .u32 ((s0 : Nat) : Int)
  | 7 => v = va
  | 8 => v = vb
  | 9 => ∃ g, v = .slice (some ⟨g, 0, none⟩) 2 2 ∧ Blk w g t #[va, vb]
  | 10 => v = .int .u32 ((s0 : Nat) : Int)
  | 11 => v = vall
  | 12 => v = .int .u32 ((s0 : Nat) : Int)
  | 16 => v = va
  | 17 => ∃ A' c' M, v = .slice A' (List.length M) c' ∧ NumsAt .u8 w w.heap.size A' M ∧ M = Su.seald xs
  | 18 => v = .string SA
  | 19 => v = va
  | 20 => ∃ A' c' M, v = .slice A' (List.length M) c' ∧ NumsAt .u8 w w.heap.size A' M ∧ M = Su.seald xs
  | 21 => v = .string SA
  | 25 => v = vc
  | 26 => v = .string SB
  | 27 => v = vd
  | 28 => v = .string SB
  | 32 => v = errVal E
  | 33 => v = .int .i64 ((E : Nat) : Int)
  | 34 => v = .int .i64 ((E : Nat) : Int)
  | _ => v = .bool true
theorem Te5F.mono {t : TypeId} {va vb vall vc vd : Value} {s0 E : Nat} {SA SB : ByteArray} {xs : List Nat} (i : Nat) (v : Value) (w w' : World) (h : Te5F t va vb vall vc vd s0 E SA SB xs i v w) (hg : Grew w w') : Te5F t va vb vall vc vd s0 E SA SB xs i v w' := by
  unfold Te5F at *
  split at h
  all_goals
    first
      | exact h
      | (obtain ⟨g, h1, h2⟩ := h; exact ⟨g, h1, h2.grew hg⟩)
      | (obtain ⟨A', c', M, h1, h2, h3⟩ := h; exact ⟨A', c', M, h1, h2.grew hg, h3⟩)

set_option maxRecDepth 100000 in
set_option maxHeartbeats 4000000 in
theorem tells5_walk (A : Option Addr) (a : Nat) (xs : List Nat) (B : Option Addr) (b : Nat) (ys : List Nat) (w : World)
    (ha : NumsAt .u8 w w.heap.size A xs) (hb : NumsAt .u8 w w.heap.size B ys) (hx : ∀ x ∈ xs, x < 256) (hy : ∀ x ∈ ys, x < 256)
    (hlx : xs.length ≤ 140737488351232) (hyb : ys.length ≤ b) (hly : ys.length ≤ 140737488351232) (hg : HandleAt w) :
    Calls Tryd.prog 4 #[.slice A xs.length a, .slice B ys.length b] w fun e w' => e = .returned (.bool true) ∧ Grew w w' := by
  have HH := hid hg
  have HA := hid ha
  have HB := hid hb
  clear hg ha hb
  obtain ⟨n, en⟩ : ∃ n, n = xs.length := ⟨_, rfl⟩
  obtain ⟨m, em⟩ : ∃ m, m = ys.length := ⟨_, rfl⟩
  rw [← en] at hlx ⊢
  rw [← em] at hly hyb ⊢
  have EN := hid (And.intro en em)
  clear en em
  by_cases h6 : 600 < n + m
  · have h6' : (600 : Int) < (n : Int) + m := by omega
    go_enter Tryd.func4, Tryd.ntmps4
    go_wp2_with fail
    refine (sure5_c _ HH.out).mono ?_
    rintro e w2 ⟨rfl, hg⟩
    go_wp2_with fail
    go_ret
    exact ⟨rfl, hg⟩
  · have h6' : ¬ (600 : Int) < (n : Int) + m := by omega
    have HX := hid hx
    have HY := hid hy
    have HXY := hid (show ∀ x ∈ xs ++ ys, x < 256 from fun x h => by
      rcases List.mem_append.1 h with h | h
      · exact hx x h
      · exact hy x h)
    have l1 := hid (show xs.length ≤ 600 ∧ ys.length ≤ 600 ∧ (xs ++ ys).length = n + m ∧ n + m ≤ 600 by
      rw [List.length_append, ← EN.out.1, ← EN.out.2]; omega)
    have CO := hid (fun (V : World) (hv : Grew w V) => open_c B b ys V (HB.out.grew hv) hy (by have := l1.out; omega) (by rw [← EN.out.2]; exact hyb))
    have CR := hid (fun (V : World) (hv : Grew w V) => ropen_c B b ys V (HB.out.grew hv) hy (by have := l1.out; omega) (by rw [← EN.out.2]; exact hyb))
    rw [← EN.out.2] at CO CR
    clear hx hy h6 hyb
    go_enter Tryd.func4, Tryd.ntmps4
    go_upto_region 4 with (first
      | (at_builtin; refine wpList_catM .u8 1 w _ rfl _ _ 43 5 rfl Tryd.underlying43 v_u8 ((Grew.refl w).alloc _) _ 0 [] rfl (OwnNums.made0 .u8 w w 5 (Grew.refl _)) A a xs (by rw [← EN.out.1]; rfl) (HA.out.grew ((Grew.refl w).alloc _)) (by have := l1.out; rw [List.length_nil]; omega) (by have := l1.out; rw [List.length_nil]; omega) ?_; rintro A2 c2 M2 W2 HM2 hO2 hG2)
      | (at_builtin; refine wpList_catM .u8 1 w W2 rfl _ _ 43 5 rfl Tryd.underlying43 v_u8 hG2 A2 c2 M2 rfl hO2 B b ys (by rw [← EN.out.2]; rfl) (HB.out.grew hG2) (by have := l1.out; rw [HM2.out, List.nil_append]; omega) (by have := l1.out; rw [HM2.out, List.nil_append]; omega) ?_; rintro A3 c3 M W3 HM3 hO3 hG3))
    have eM : M = xs ++ ys := by rw [HM3.out, HM2.out, List.nil_append]
    have hN3 := hid hO3.at
    have HG3 := hid hG3
    have eL : M.length = n + m := by rw [eM]; exact l1.out.2.2.1
    subst eM
    rw [eL]
    clear hO2 hG2 HM2 hO3 hG3 HM3
    go_wp2_with fail
    refine (CO.out _ HG3.out).mono ?_
    rintro e W4 ⟨A6, c6, L6, E, rfl, hL6, hE, hO6, hG6⟩
    have HN6 := hid hO6.at
    have HG4 := hid (HG3.out.trans hG6)
    have g34 := hid hG6
    have HL6 := hid hL6
    have HE6 := hid hE
    clear hO6 hG6 CO hL6 hE
    go_wp2_with fail
    refine (CR.out _ HG4.out).mono ?_
    rintro e W5 ⟨A8, c8, L8, E2, rfl, hL8, hE2, hN8, hG8⟩
    obtain rfl : L8 = L6 := by rw [HL6.out, hL8]
    obtain rfl : E2 = E := by rw [HE6.out, hE2]
    have HN8 := hid hN8
    have HN6' := hid (HN6.out.grew hG8)
    have HN3' := hid (hN3.out.grew (g34.out.trans hG8))
    have HG5 := hid (HG4.out.trans hG8)
    clear hN8 hG8 CR HG4 HG3 g34 HN6 hN3 HL6 HE6 hL8 hE2
    obtain ⟨s0, es⟩ : ∃ s0, s0 = Su.sum (xs ++ ys) := ⟨_, rfl⟩
    obtain ⟨SA, eA⟩ : ∃ SA, SA = strN (Su.seald xs) := ⟨_, rfl⟩
    obtain ⟨SB, eB⟩ : ∃ SB, SB = strN L8 := ⟨_, rfl⟩
    obtain ⟨K, eK⟩ : ∃ K, K = L8.length := ⟨_, rfl⟩
    have C1 := hid (fun (V : World) (H : Nat) (hv : Grew W5 V) (hb : Blk V H 43 #[.slice A3 (n + m) c3]) => of_one A3 (n + m) c3 (xs ++ ys) H 43 V eL hb (HN3'.out.grew hv) HXY.out (by have := l1.out; omega))
    have C2 := hid (fun (V : World) (H : Nat) (hv : Grew W5 V) (hb : Blk V H 43 #[.slice A n a, .slice B m b]) => of_list [(A, a, xs), (B, b, ys)] H 2 43 V (by rw [EN.out.1, EN.out.2] at hb; exact hb) (fun p hp => by
      simp only [List.mem_cons, List.not_mem_nil, or_false] at hp
      have := l1.out
      rcases hp with rfl | rfl
      · exact ⟨HA.out.grew (HG5.out.trans hv), HX.out, by dsimp only; omega⟩
      · exact ⟨HB.out.grew (HG5.out.trans hv), HY.out, by dsimp only; omega⟩) (by simp))
    have e2 : (([(A, a, xs), (B, b, ys)] : List Piece).map (·.2.2)).flatten = xs ++ ys := by simp
    rw [e2] at C2
    have C3 := hid (fun (V : World) (hv : Grew W5 V) => rof_c A3 c3 (xs ++ ys) V (HN3'.out.grew hv) HXY.out (by have := l1.out; omega))
    rw [eL] at C3
    rw [← es] at C1 C2 C3
    have C4 := hid (fun (V : World) (hv : Grew W5 V) => seal_c A a xs V (HA.out.grew (HG5.out.trans hv)) HX.out (by have := l1.out; omega))
    have C5 := hid (fun (V : World) (hv : Grew W5 V) => rseal_c A a xs V (HA.out.grew (HG5.out.trans hv)) HX.out (by have := l1.out; omega))
    rw [← EN.out.1] at C4 C5
    have K6 := hid (fun (V : World) (hv : Grew W5 V) => conv5 A6 c6 L8 V (HN6'.out.grew hv))
    have K8 := hid (fun (V : World) (hv : Grew W5 V) => conv5 A8 c8 L8 V (HN8.out.grew hv))
    rw [← eB, ← eK] at K6 K8
    rw [← eK]
    have EA := hid eA
    clear es eA eB eK e2 HN3' HN6' HN8 eL
    go_upto_region 6 with fail
    refine wp_region_facts (w0 := W5) _ 41 [32, 33, 34, 35, 36, 37, 38, 39, 40, 41, 42, 43, 44, 45, 46, 47, 48, 49, 50, 51, 52, 53, 54, 55, 56, 57, 58, 59, 60, 61, 62, 63, 64, 65, 66, 67, 68, 69, 70, 71, 4] []
      (Te5F 43 (.slice A n a) (.slice B m b) (.slice A3 (n + m) c3) (.slice A6 K c6) (.slice A8 K c8) s0 E2 SA SB xs) (by kernel_rfl) (by kernel_rfl) (Grew.refl _) Te5F.mono ?_ ?_
    · repeat' (first | exact trivial | apply And.intro)
      all_goals
        intro a w' hgw hs hA
        have e0 := hs.eval 0 (by decide) (v := .slice A n _) rfl
        have e1 := hs.eval 1 (by decide) (v := .slice B m b) rfl
        have e5 := hs.eval 5 (by decide) (v := .slice A3 (n + m) c3) rfl
        have e6 := hs.eval 6 (by decide) (v := .slice A6 K c6) rfl
        have e7 := hs.eval 7 (by decide) (v := errVal E2) rfl
        have e8 := hs.eval 8 (by decide) (v := .slice A8 K c8) rfl
        have e9 := hs.eval 9 (by decide) (v := .int .i64 ((E2 : Nat) : Int)) rfl
        have k6 := K6.out w' hgw
        have k8 := K8.out w' hgw
        have HGW := hid hgw
        clear hs hgw
        simp only [Ahead, Region.binds, slotOf, Te5F, List.getD_cons_succ, List.getD_cons_zero, forall_const, and_true] at hA
        simp only [wantedD, isBool, slotOf, List.getD_cons_succ, List.getD_cons_zero, hA, if_true, beq_self_eq_true]
        unfold Oper.wp
        have ec : ∀ v, a.eval (.const v) = v := fun _ => rfl
        generalize hf : a.eval = f at *
        have ef : ∀ k, f (.func k) = Act.eval ⟨#[], []⟩ (.func k) := fun k => by rw [← hf]; rfl
        clear hf
        first
          | (go_simp; exact Gives.of' rfl (Grew.refl _) rfl)
          | (go_simp; refine (num5_c _ _ (HH.out.grew (HG5.out.trans HGW.out))).mono ?_; rintro e w3 ⟨rfl, hg3⟩; exact Gives.of' rfl hg3 rfl)
          | (go_simp; refine (sure5_c _ (HH.out.grew (HG5.out.trans HGW.out))).mono ?_; rintro e w3 ⟨rfl, hg3⟩; exact Gives.of' rfl hg3 rfl)
          | (go_simp; refine (C3.out _ HGW.out).mono ?_; rintro e w3 ⟨rfl, rfl⟩; exact Gives.of' rfl (Grew.refl _) rfl)
          | (go_simp; refine (C4.out _ HGW.out).mono ?_; rintro e w3 ⟨A9, c9, M9, rfl, hM9, hO9, hg9⟩; exact Gives.of' rfl hg9 ⟨A9, c9, M9, rfl, hO9.at, hM9⟩)
          | (go_simp; refine (C5.out _ HGW.out).mono ?_; rintro e w3 ⟨A9, c9, M9, rfl, hM9, hO9, hg9⟩; exact Gives.of' rfl hg9 ⟨A9, c9, M9, rfl, hO9.at, hM9⟩)
          | (go_simp; exact Gives.of' rfl ((Grew.refl _).alloc _) ⟨_, rfl, Blk.new _ _ _⟩)
          | (obtain ⟨H, h1, h2⟩ := hA; go_simp; refine (C1.out _ H HGW.out h2).mono ?_; rintro e w3 ⟨rfl, hg3⟩; exact Gives.of' rfl hg3 rfl)
          | (obtain ⟨⟨H, h1, h2⟩, _⟩ := hA; go_simp; refine (C2.out _ H HGW.out h2).mono ?_; rintro e w3 ⟨rfl, hg3⟩; exact Gives.of' rfl hg3 rfl)
          | (obtain ⟨⟨A9, c9, M9, h1, h2, h3⟩, _⟩ := hA
             have hk := conv5 A9 c9 M9 w' h2
             rw [show strN M9 = SA by rw [h3, EA.out]] at hk
             clear h2 h3
             go_simp
             exact Gives.of' rfl (Grew.refl _) rfl)
    · intro a w' hgw hs hf _ _
      have h4 := hf 40 (by decide)
      simp only [slotOf, Te5F, List.getD_cons_succ, List.getD_cons_zero] at h4
      obtain ⟨f, rfl, hft⟩ := hs.put
      rw [hft] at h4
      clear hf hft
      simp only [List.drop, wpList, putAll, List.foldl_cons, List.foldl_nil, Act.put, List.setIfInBounds_toArray, List.set_cons_succ, List.set_cons_zero, h4]
      go_wp2_with fail
      go_ret
      exact ⟨rfl, HG5.out.trans hgw⟩
end Go.Proofs.YtmcfciifjgdgoaaDoor

/- SumSwap: for every slice of bytes and every int the law returns true, and nothing that was there is changed. Conditions: none of ours. -/
import Derived.Test.YtmcfciifjgdgoaaDoorSu5
import Derived.Test.YtmcfciifjgdgoaaDoorFacts2
import Derived.Test.YtmcfciifjgdgoaaDoorLh2
import Derived.BigQuiet
namespace Go.Proofs.YtmcfciifjgdgoaaDoor
open Go.RowKit

theorem tmod_span {z : Int} {m : Nat} (hm : 0 < m) : -(m : Int) < z.tmod m ∧ z.tmod m < m := by
  rcases Int.lt_or_le z 0 with h | h
  · have h1 := Int.emod_nonneg (-z) (by omega : (m : Int) ≠ 0)
    have h2 := Int.emod_lt_of_pos (-z) (by omega : (0 : Int) < m)
    have e : z.tmod m = -((-z) % m) := by
      rw [← Int.tmod_eq_emod_of_nonneg (by omega : 0 ≤ -z), Int.neg_tmod, Int.neg_neg]
    omega
  · rw [Int.tmod_eq_emod_of_nonneg h]
    have h1 := Int.emod_nonneg z (by omega : (m : Int) ≠ 0)
    have h2 := Int.emod_lt_of_pos z (by omega : (0 : Int) < m)
    omega

theorem swap_list {xs : List Nat} {i : Nat} (h : i + 1 < xs.length) : xs = xs.take i ++ xs.getD i 0 :: xs.getD (i + 1) 0 :: xs.drop (i + 2) ∧ (xs.set i (xs.getD (i + 1) 0)).set (i + 1) (xs.getD i 0) = xs.take i ++ xs.getD (i + 1) 0 :: xs.getD i 0 :: xs.drop (i + 2) := by
  have e : xs = xs.take i ++ xs.getD i 0 :: xs.getD (i + 1) 0 :: xs.drop (i + 2) := by
    conv => lhs; rw [← List.take_append_drop i xs, Dg.drop_at (show i < xs.length by omega), Dg.drop_at h]
  refine ⟨e, ?_⟩
  have hl : (xs.take i).length = i := by simp; omega
  generalize xs.getD i 0 = x at *
  generalize xs.getD (i + 1) 0 = y at *
  generalize xs.take i = p at *
  generalize xs.drop (i + 2) = q at *
  rw [e, List.set_append_right _ _ (by omega), hl, Nat.sub_self, List.set_cons_zero, List.set_append_right _ _ (by omega), hl, Nat.add_sub_cancel_left]
  rfl
theorem swap_sum {xs : List Nat} {i : Nat} (h : i + 1 < xs.length) (hx : ∀ x ∈ xs, x < 256) : Su.sum xs = Su.sum ((xs.set i (xs.getD (i + 1) 0)).set (i + 1) (xs.getD i 0)) ↔ xs.getD i 0 = xs.getD (i + 1) 0 := by
  obtain ⟨e1, e2⟩ := swap_list h
  have b1 : xs.getD i 0 < 256 := hx _ (by simp [List.getD_eq_getElem?_getD, show i < xs.length by omega])
  have b2 : xs.getD (i + 1) 0 < 256 := hx _ (by simp [List.getD_eq_getElem?_getD, h])
  rw [e2]
  conv => lhs; lhs; rw [e1]
  exact Su.sum_swap b1 b2
/-- What each operation of the law's last statement gives. -/
def SwapF (t : TypeId) (bv cv : Value) (S1 S2 k : Nat) (ad : Addr) (x y : Nat) (b1 b2 : Bool) (i : Nat) (v : Value) (w : World) : Prop := match i with
  | 0 => v = bv
  | 1 => ∃ g, v = .slice (some ⟨g, 0, none⟩) 1 1 ∧ Blk w g t #[bv]
  | 2 => v = .int .u32 ((S1 : Nat) : Int)
  | 3 => v = cv
  | 4 => ∃ g, v = .slice (some ⟨g, 0, none⟩) 1 1 ∧ Blk w g t #[cv]
  | 5 => v = .int .u32 ((S2 : Nat) : Int)
  | 6 => v = .bool b1
  | 7 => v = bv
  | 8 => v = .int .i64 ((k : Nat) : Int)
  | 9 => v = .pointer (some (ad.add k))
  | 10 => v = .int .u8 ((x : Nat) : Int)
  | 11 => v = bv
  | 12 => v = .int .i64 ((k : Nat) : Int)
  | 13 => v = .int .i64 (((k : Nat) : Int) + 1)
  | 14 => v = .pointer (some ⟨ad.block, ad.off + (k + 1), none⟩)
  | 15 => v = .int .u8 ((y : Nat) : Int)
  | 16 => v = .bool b2
  | _ => v = .bool true
theorem SwapF.mono {t : TypeId} {bv cv : Value} {S1 S2 k : Nat} {ad : Addr} {x y : Nat} {b1 b2 : Bool} (i : Nat) (v : Value) (w w' : World) (h : SwapF t bv cv S1 S2 k ad x y b1 b2 i v w) (hg : Grew w w') : SwapF t bv cv S1 S2 k ad x y b1 b2 i v w' := by
  unfold SwapF at *
  split at h
  all_goals
    first
      | exact h
      | (obtain ⟨g, h1, h2⟩ := h; exact ⟨g, h1, h2.grew hg⟩)

set_option maxRecDepth 100000 in
set_option maxHeartbeats 2000000 in
theorem swap_walk (A : Option Addr) (c : Nat) (xs : List Nat) (z : Int) (w : World) (ha : NumsAt .u8 w w.heap.size A xs) (hx : ∀ x ∈ xs, x < 256) (hl : xs.length ≤ 9223372036854775807) (hg : HandleAt w) :
    Calls Tryd.prog 6 #[.slice A xs.length c, .int .i64 z] w fun e w' => e = .returned (.bool true) ∧ Grew w w' := by
  have HH := hid hg
  have HA := hid ha
  have HX := hid hx
  clear hg ha hx
  obtain ⟨n, en⟩ : ∃ n, n = xs.length := ⟨_, rfl⟩
  rw [← en] at hl ⊢
  have EN := hid en
  clear en
  by_cases h2 : n < 2
  · have h2' : (n : Int) < 2 := by omega
    go_enter Tryd.func6, Tryd.ntmps6
    go_wp2_with fail
    refine (sure5_c _ HH.out).mono ?_
    rintro e w ⟨rfl, hg⟩
    go_wp2_with fail
    go_ret
    exact ⟨rfl, hg⟩
  · by_cases h3 : 65536 < n
    · have h2' : ¬ (n : Int) < 2 := by omega
      have h3' : (65536 : Int) < n := by omega
      go_enter Tryd.func6, Tryd.ntmps6
      go_wp2_with fail
      refine (sure5_c _ HH.out).mono ?_
      rintro e w ⟨rfl, hg⟩
      go_wp2_with fail
      go_ret
      exact ⟨rfl, hg⟩
    · obtain ⟨m, rfl⟩ : ∃ m, n = m + 1 := ⟨n - 1, by omega⟩
      have hm : 0 < m := by omega
      have hm2 : m ≤ 65535 := by omega
      have h2' : ¬ ((m : Int) + 1 < 2) := by omega
      have h3' : ¬ ((65536 : Int) < (m : Int) + 1) := by omega
      have h4' : (m : Int) + 1 - 1 = m := by omega
      have h5' : (m : Int) ≠ 0 := by omega
      obtain ⟨r1, r2⟩ := tmod_span (z := z) hm
      clear h2 h3 hl
      go_enter Tryd.func6, Tryd.ntmps6
      go_upto_if 22 with fail
      generalize z.tmod m = r at *
      have HR := hid (And.intro r1 r2)
      go_cut [5] (fun s5 wx => ∃ i : Nat, s5 = .int .i64 ((i : Nat) : Int) ∧ i < m ∧ wx = w)
      case first =>
        by_cases h0 : r < 0
        · go_wp2_with fail
          go_meet
          case rel => exact ⟨(r + m).toNat, by have := HR.out; congr 1; omega, by have := HR.out; omega, rfl⟩
        · go_wp2_with fail
          go_meet
          case rel => exact ⟨r.toNat, by have := HR.out; congr 1; omega, by have := HR.out; omega, rfl⟩
      case rest =>
        obtain ⟨i, rfl, hi, rfl⟩ := hcut
        clear r1 r2
        have HQ := hid (show ([] : List Nat).length + xs.length ≤ 9223372036854775807 ∧ (([] : List Nat).length + xs.length) * 1 ≤ 140737488355328 by
          have := EN.out
          rw [List.length_nil]
          omega)
        have HI := hid (And.intro h2' h3')
        have HJ := hid (And.intro hm hm2)
        clear h2' h3' h4' h5' hm hm2
        go_upto_region 7 with (at_builtin; refine wpList_catM .u8 1 wc _ rfl _ _ 43 5 rfl Tryd.underlying43 v_u8 ((Grew.refl wc).alloc _) _ 0 [] rfl (OwnNums.made0 .u8 wc wc 5 (Grew.refl _)) A c xs (by rw [← EN.out]; rfl) (HA.out.grew ((Grew.refl wc).alloc _)) HQ.out.1 HQ.out.2 ?_; rintro A' c' M w1 HM hO hG)
        have HM2 := hid (show M = xs by rw [HM.out]; rfl)
        have HO := hid hO
        obtain ⟨ad, rfl, had, hca⟩ := HA.out (by have := EN.out; omega)
        have hc0 := hca i (by have := EN.out; omega)
        have hc1 := hca (i + 1) (by have := EN.out; omega)
        have hC0 := And.intro hc0 hc1
        rw [show ad.add (i + 1) = ⟨ad.block, ad.off + (i + 1), none⟩ by simp [Addr.add]] at hC0
        have HC := hid hC0
        clear hC0
        rw [← hG.below.cell (by rw [block_add]; exact had)] at hc0 hc1
        rcases hO.cases with ⟨_, _, h0⟩ | ⟨g, rfl, hge, hgl, hcm, hfr, _⟩
        · exfalso
          have := EN.out
          rw [← HM2.out, h0] at this
          simp at this
        · have hf0 := hfr i
          have hf1 := hfr (i + 1)
          have hm0 := hcm i (by rw [HM2.out]; have := EN.out; omega)
          have hm1 := hcm (i + 1) (by rw [HM2.out]; have := EN.out; omega)
          have hlen : M.length = m + 1 := by rw [HM2.out]; exact EN.out.symm
          rw [hlen] at *
          have q1 : (i : Int) < (m : Int) + 1 := by omega
          have q2 : (i : Int) + 1 < (m : Int) + 1 := by omega
          clear HM hca hcm hfr HR
          have HW := hid (swap_sum (xs := xs) (i := i) (by have := EN.out; omega) HX.out)
          obtain ⟨ys, eys⟩ : ∃ ys, ys = (xs.set i (xs.getD (i + 1) 0)).set (i + 1) (xs.getD i 0) := ⟨_, rfl⟩
          rw [← eys] at HW
          have HY := hid eys
          clear eys
          have hxy : xs.getD i 0 < 256 ∧ xs.getD (i + 1) 0 < 256 := ⟨HX.out _ (by have := EN.out; simp [List.getD_eq_getElem?_getD, show i < xs.length by omega]), HX.out _ (by have := EN.out; simp [List.getD_eq_getElem?_getD, show i + 1 < xs.length by omega])⟩
          generalize xs.getD i 0 = x at *
          generalize xs.getD (i + 1) 0 = y at *
          generalize M.getD i 0 = mx at *
          generalize M.getD (i + 1) 0 = my at *
          have hm2 := HJ.out.2
          rw [show ad.add (i + 1) = ⟨ad.block, ad.off + (i + 1), none⟩ by simp [Addr.add]] at hc1
          have HOO := hid hO
          clear hO hlen
          go_region
          have hO3 := ((HOO.out.set i y).set (i + 1) x).drew
          rw [HM2.out, ← HY.out] at hO3
          have hG3 := ((hG.setCell (p := ⟨g, i, none⟩) hge (.int .u8 y)).setCell (p := ⟨g, i + 1, none⟩) hge (.int .u8 x)).drew
          have HYL := hid (show ys.length = m + 1 by rw [HY.out, List.length_set, List.length_set]; exact EN.out.symm)
          clear hc0 hc1 hm0 hm1 hf0 hf1
          have HXY := hid hxy
          clear hxy
          generalize ((w1.setCell ⟨g, i, none⟩ (.int .u8 y)).setCell ⟨g, i + 1, none⟩ (.int .u8 x)).drew = W at *
          have HO3 := hid hO3
          have HG3 := hid hG3
          have K0 := hid (fun (V : World) (hv : Grew W V) => ((HG3.out.trans hv).below.cell (p := ad.add i) (by rw [block_add]; exact had)).trans HC.out.1)
          have K1 := hid (fun (V : World) (hv : Grew W V) => ((HG3.out.trans hv).below.cell (p := ⟨ad.block, ad.off + (i + 1), none⟩) had).trans HC.out.2)
          clear hO3 hG3 HOO hG
          have C1 := hid (fun (V : World) (H : Nat) (hv : Grew W V) (hb : Blk V H 43 #[.slice (some ad) (m + 1) c]) => of_one (some ad) (m + 1) c xs H 43 V EN.out.symm hb (HA.out.grew (HG3.out.trans hv)) HX.out (by rw [← EN.out]; omega))
          have C2 := hid (fun (V : World) (H : Nat) (hv : Grew W V) (hb : Blk V H 43 #[.slice (some ⟨g, 0, none⟩) (m + 1) c']) => of_one (some ⟨g, 0, none⟩) (m + 1) c' ys H 43 V HYL.out hb (HO3.out.at.grew hv) (fun v hv => by
            rw [HY.out] at hv
            rcases List.mem_or_eq_of_mem_set hv with h1 | h1
            · rcases List.mem_or_eq_of_mem_set h1 with h2 | h2
              · exact HX.out v h2
              · rw [h2]; exact HXY.out.2
            · rw [h1]; exact HXY.out.1) (by rw [HYL.out]; omega))
          obtain ⟨S1, hs1⟩ : ∃ S1, S1 = Su.sum xs := ⟨_, rfl⟩
          obtain ⟨S2, hs2⟩ : ∃ S2, S2 = Su.sum ys := ⟨_, rfl⟩
          rw [← hs1, ← hs2] at HW
          rw [← hs1] at C1
          rw [← hs2] at C2
          clear hs1 hs2
          obtain ⟨b1, hb1⟩ : ∃ b1, ((((S1 : Nat) : Int)) == ((S2 : Nat) : Int)) = b1 := ⟨_, rfl⟩
          obtain ⟨b2, hb2⟩ : ∃ b2, ((((x : Nat) : Int)) == ((y : Nat) : Int)) = b2 := ⟨_, rfl⟩
          have hbb : b1 = b2 := by
            rw [← hb1, ← hb2, Bool.eq_iff_iff, beq_iff_eq, beq_iff_eq, Int.natCast_inj, Int.natCast_inj]
            exact HW.out
          subst hbb
          clear HW
          have HWR := hid (show IntKind.i64.wrap (((i : Nat) : Int) + 1) = ((i : Nat) : Int) + 1 by simp [IntKind.wrap, IntKind.bits, IntKind.signed]; omega)
          go_upto_region 8 with fail
          refine wp_region_facts (w0 := W) _ 22 [47, 48, 49, 50, 51, 52, 53, 54, 55, 56, 57, 58, 59, 60, 61, 62, 63, 64, 65, 66, 67, 4] [] (SwapF 43 (.slice (some ad) (m + 1) c) (.slice (some ⟨g, 0, none⟩) (m + 1) c') S1 S2 i ad x y b1 b1) (by kernel_rfl) (by kernel_rfl) (Grew.refl _) SwapF.mono ?_ ?_
          · repeat' (first | exact trivial | apply And.intro)
            all_goals
              intro a w' hgw hs hA
              have e0 := hs.eval 0 (by decide) (v := .slice (some ad) (m + 1) c) rfl
              have e5 := hs.eval 5 (by decide) (v := .int .i64 ((i : Nat) : Int)) rfl
              have e6 := hs.eval 6 (by decide) (v := .slice (some ⟨g, 0, none⟩) (m + 1) c') rfl
              have k0 := K0.out w' hgw
              have k1 := K1.out w' hgw
              have HGW := hid hgw
              clear hs hgw
              simp only [Ahead, Region.binds, slotOf, SwapF, List.getD_cons_succ, List.getD_cons_zero, forall_const, and_true] at hA
              simp only [wantedD, isBool, slotOf, List.getD_cons_succ, List.getD_cons_zero, hA, if_true, beq_self_eq_true]
              unfold Oper.wp
              have ec : ∀ v, a.eval (.const v) = v := fun _ => rfl
              generalize hf : a.eval = f at *
              have ef : ∀ k, f (.func k) = Act.eval ⟨#[], []⟩ (.func k) := fun k => by rw [← hf]; rfl
              clear hf
              first
                | (go_simp; exact Gives.of' rfl (Grew.refl _) rfl)
                | (go_simp; refine (sure5_c _ (HH.out.grew (HG3.out.trans HGW.out))).mono ?_; rintro e w3 ⟨rfl, hg3⟩; exact Gives.of' rfl hg3 rfl)
                | (go_simp; exact Gives.of' rfl ((Grew.refl _).alloc _) ⟨_, rfl, Blk.new _ _ _⟩)
                | (obtain ⟨H, h1, h2⟩ := hA; go_simp; refine (C1.out _ H HGW.out h2).mono ?_; rintro e w3 ⟨rfl, hg3⟩; exact Gives.of' rfl hg3 rfl)
                | (go_simp; refine Gives.of' rfl (Grew.refl _) ?_; exact congrArg (Value.int .i64) HWR.out)
                | (obtain ⟨⟨H, h1, h2⟩, _⟩ := hA; go_simp; refine (C2.out _ H HGW.out h2).mono ?_; rintro e w3 ⟨rfl, hg3⟩; exact Gives.of' rfl hg3 rfl)
          · intro a w' hgw hs hf _ _
            have h4 := hf 21 (by decide)
            simp only [slotOf, SwapF, List.getD_cons_succ, List.getD_cons_zero] at h4
            obtain ⟨f, rfl, hft⟩ := hs.put
            rw [hft] at h4
            clear hf hft
            simp only [List.drop, wpList, putAll, List.foldl_cons, List.foldl_nil, Act.put, List.setIfInBounds_toArray, List.set_cons_succ, List.set_cons_zero, h4]
            go_wp2_with fail
            go_ret
            exact ⟨rfl, HG3.out.trans hgw⟩
end Go.Proofs.YtmcfciifjgdgoaaDoor

/- The walks of the document's own large numbers, part 4: numbers made of bits, whether there may be one, whole numbers. -/
import Derived.Test.YtmcfciifjgdgoaaGreatDoorRf3
import Derived.Test.YtmcfciifjgdgoaaGreatDoorLgP
namespace Go.Proofs.YtmcfciifjgdgoaaGreatDoor
open Go.RowKit

theorem made_rep (neg : Bool) (bs L : List Nat) (ll : Dg.Low 4294967296 L) (hv : Dg.val 4294967296 L = Dg.val 2 bs) (ht : Dg.Top L) : Lg.Rep (neg && decide (0 < L.length)) L (Lg.sgn neg (Dg.val 2 bs)) := by
  refine ⟨ll, ht, by rw [Lg.sgn_abs, hv], ?_⟩
  rw [← Lg.sgn_neg]
  congr 1
  rw [decide_eq_decide, ← hv]
  constructor
  · intro h
    have := Dg.val_pos (B := 4294967296) (by decide) ht (by rintro rfl; simp at h)
    omega
  · intro h
    rcases Nat.eq_zero_or_pos L.length with h0 | h0
    · exact absurd (by rw [List.eq_nil_of_length_eq_zero h0]; rfl) h
    · exact h0

set_option maxHeartbeats 2000000 in
theorem made_c (neg : Bool) (A : Option Addr) (c : Nat) (bs : List Nat) (w : World) (h : NumsAt .u8 w w.heap.size A bs) (lb : Dg.Low 2 bs) (hn : bs.length ≤ 1000000) (hcap : bs.length ≤ c) (hc2 : c ≤ 9223372036854775807) :
    Calls Tryz.prog 28 #[.bool neg, .slice A bs.length c] w fun e w' => ∃ A' c' ng L k, e = .returned (.tuple #[.agg #[.bool ng, .slice A' L.length c'], .int .i64 ((k : Nat) : Int)]) ∧ OwnNums .u32 w w' 55 A' c' L ∧ Lg.Out (Lg.sgn neg (Dg.val 2 bs)) ng L k ∧ Grew w w' := by
  have H := hid h
  have HC := hid hcap
  have HC2 := hid hc2
  clear h hcap hc2
  go_enter Tryz.func28, Tryz.ntmps28
  go_wp2_with fail
  refine (cut_c A c bs _ (H.out.grew ((Grew.refl _).alloc _)) hn HC.out HC2.out).mono ?_
  rintro e w1 ⟨rfl, rfl⟩
  go_wp2_with fail
  have hcut : NumsAt .u8 (w.alloc (.cells #[.bool false, .slice none 0 0] 24)) (w.alloc (.cells #[.bool false, .slice none 0 0] 24)).heap.size A (Dg.cut bs) := by
    rw [Dg.cut_take]
    exact (H.out.grew ((Grew.refl _).alloc _)).take _
  refine (words_c A c (Dg.cut bs) _ hcut (Dg.cut_low lb) (Nat.le_trans (Dg.cut_len bs) hn)).mono ?_
  rintro e w2 ⟨A', c', L, rfl, hN, ll, hv, hlen, hg⟩
  have HR : Hid (Lg.Rep (neg && decide (0 < L.length)) L (Lg.sgn neg (Dg.val 2 bs))) := hid (made_rep neg bs L ll (by rw [hv, Dg.cut_val]) (words_top ll hlen hv (Dg.cut_top bs)))
  have HG := hid (((Grew.refl w).alloc (.cells #[.bool false, .slice none 0 0] 24)).trans hg)
  have HN := hid (hN.mono ((Grew.refl w).alloc (.cells #[.bool false, .slice none 0 0] 24)))
  have hL : L.length ≤ 40000 := by
    have := Dg.cut_len bs
    omega
  have e0 : w2.cell? ⟨w.heap.size, 0, none⟩ = some (.bool false) := by rw [hg.below.cell (by simp)]; simp
  have e1 : w2.cell? ⟨w.heap.size, 1, none⟩ = some (.slice none 0 0) := by rw [hg.below.cell (by simp)]; simp
  have f0 : ∀ i, w2.frozen? ⟨w.heap.size, i, none⟩ = false := fun i => by rw [hg.below.frozen (by simp)]; simp
  have HF := hid (show ∀ g, A' = some ⟨g, 0, none⟩ → g ≠ w.heap.size from fun g hA => by
    have := (World.ownsRow.lt hN) g (by rw [hA]; rfl)
    simp at this
    omega)
  clear hv hlen hg hN ll hcut
  by_cases hb : 64 < L.length
  · have hb' : (64 : Int) < (L.length : Int) := by omega
    go_wp2_with fail
    refine bodyPost_ret (v := .tuple #[.agg #[.bool false, .slice none 0 0], .int .i64 4]) (by simp [results, Tryz.results28, go_sem, *]) rfl ?_
    exact ⟨none, 0, false, [], 4, rfl, OwnNums.nil _ _ _ _, Lg.Out.of_long HR.out hb, (HG.out.setCell (Nat.le_refl _) _).setCell (Nat.le_refl _) _⟩
  · have hb' : ¬ (64 : Int) < (L.length : Int) := by omega
    cases neg
    · go_wp2_with fail
      refine bodyPost_ret (v := .tuple #[.agg #[.bool false, .slice A' L.length c'], .int .i64 0]) (by simp [results, Tryz.results28, go_sem, *]) rfl ?_
      exact ⟨A', c', false, L, 0, rfl, (HN.out.far (fun g hA => HF.out g hA) _).far (fun g hA => HF.out g hA) _, Lg.Out.of_rep HR.out (by omega), (HG.out.setCell (Nat.le_refl _) _).setCell (Nat.le_refl _) _⟩
    · go_wp2_with fail
      refine bodyPost_ret (v := .tuple #[.agg #[.bool (decide (0 < L.length)), .slice A' L.length c'], .int .i64 0]) (by simp [results, Tryz.results28, go_sem, *]) rfl ?_
      exact ⟨A', c', decide (0 < L.length), L, 0, rfl, (HN.out.far (fun g hA => HF.out g hA) _).far (fun g hA => HF.out g hA) _, Lg.Out.of_rep HR.out (by omega), (HG.out.setCell (Nat.le_refl _) _).setCell (Nat.le_refl _) _⟩

/-! ### May there be one? -/
set_option maxHeartbeats 1000000 in
theorem may_c (neg : Bool) (A : Option Addr) (c : Nat) (xs : List Nat) (w : World) (h : NumsAt .u32 w w.heap.size A xs) (hn : xs.length ≤ 1000000000000) :
    Calls Tryz.prog 21 #[.agg #[.bool neg, .slice A xs.length c]] w fun e w' => e = .returned (.bool (Lg.may neg xs)) ∧ Grew w w' := by
  have H := hid h
  have hn' : (xs.length : Int) ≤ 1000000000000 := by omega
  clear h
  obtain ⟨r, hr⟩ : ∃ r, r = Lg.may neg xs := ⟨_, rfl⟩
  rw [← hr]
  unfold Lg.may at hr
  by_cases h1 : xs.length ≤ 64
  · have h1' : (xs.length : Int) ≤ 64 := by omega
    rcases Nat.eq_zero_or_pos xs.length with h0 | h0
    · have e := List.eq_nil_of_length_eq_zero h0
      subst e
      have HR : Hid (r = !neg) := hid (by rw [hr]; simp)
      clear hr
      cases neg
      all_goals
        go_enter Tryz.func21, Tryz.ntmps21
        go_wp2_with fail
        go_ret
        exact ⟨by rw [HR.out]; rfl, (Grew.refl _).alloc _⟩
    · obtain ⟨ad, rfl, had, hc⟩ := H.out h0
      have hcl := hc (xs.length - 1) (by omega)
      clear hc
      generalize xs.getD (xs.length - 1) 0 = x at *
      have HR : Hid (r = decide (0 < x)) := hid (by
        rw [hr, decide_eq_true h1, decide_eq_false (by omega : ¬ xs.length = 0), decide_eq_true h0]
        simp)
      have h0' : (0 : Int) < (xs.length : Int) := by omega
      have z0 : (((xs.length : Nat) : Int) == 0) = false := by rw [beq_eq_false_iff_ne]; omega
      clear hr H
      obtain ⟨n, hl⟩ : ∃ n, xs.length = n + 1 := ⟨xs.length - 1, by omega⟩
      clear hn' h1' h0' z0 h0 hn
      rw [hl] at hcl h1 ⊢
      rw [Nat.add_sub_cancel] at hcl
      clear hl
      rcases Nat.eq_zero_or_pos x with hx | hx
      · have t : decide (0 < ((x : Nat) : Int)) = false := by simp; omega
        have HR2 : Hid (r = false) := hid (by rw [HR.out]; simp; omega)
        clear HR
        cases neg
        all_goals
          go_enter Tryz.func21, Tryz.ntmps21
          go_wp2_with fail
          go_ret
          exact ⟨by rw [HR2.out]; rfl, (Grew.refl _).alloc _⟩
      · have t : decide (0 < ((x : Nat) : Int)) = true := by simp; omega
        have HR2 : Hid (r = true) := hid (by rw [HR.out]; simp; omega)
        clear HR
        cases neg
        all_goals
          go_enter Tryz.func21, Tryz.ntmps21
          go_wp2_with fail
          go_ret
          exact ⟨by rw [HR2.out]; rfl, (Grew.refl _).alloc _⟩
  · have HR : Hid (r = false) := hid (by rw [hr, decide_eq_false h1]; rfl)
    have h1' : ¬ (xs.length : Int) ≤ 64 := by omega
    clear hr
    go_enter Tryz.func21, Tryz.ntmps21
    go_wp2_with fail
    go_ret
    exact ⟨by rw [HR.out]; rfl, (Grew.refl _).alloc _⟩
end Go.Proofs.YtmcfciifjgdgoaaGreatDoor

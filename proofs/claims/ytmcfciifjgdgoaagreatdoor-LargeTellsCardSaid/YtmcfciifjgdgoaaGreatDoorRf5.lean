/- The walks of the document's own large numbers, part 5: whole numbers. -/
import Derived.Test.YtmcfciifjgdgoaaGreatDoorRf4
import Derived.Test.YtmcfciifjgdgoaaGreatDoorRets
namespace Go.Proofs.YtmcfciifjgdgoaaGreatDoor
open Go.RowKit

theorem of_round {L : List Nat} {v N : Nat} (hv : Dg.val 2 L + 2 ^ L.length * v = N) : Dg.val 2 (L ++ [v % 2]) + 2 ^ (L ++ [v % 2]).length * (v / 2) = N := by
  rw [Dg.val_snoc, List.length_append, List.length_cons, List.length_nil, Nat.zero_add, Nat.pow_succ, Nat.mul_assoc, Nat.add_assoc, ← Nat.mul_add]
  have : v % 2 + 2 * (v / 2) = v := by omega
  rw [this, hv]
theorem of_len {L : List Nat} {v N : Nat} (hv : Dg.val 2 L + 2 ^ L.length * v = N) (hN : N < 2 ^ 64) (h0 : 0 < v) : L.length < 64 := by
  rcases Nat.lt_or_ge L.length 64 with h | h
  · exact h
  · exfalso
    have h1 : (2 : Nat) ^ 64 ≤ 2 ^ L.length := Nat.pow_le_pow_right (by decide) h
    have h2 : 2 ^ L.length * 1 ≤ 2 ^ L.length * v := Nat.mul_le_mul_left _ h0
    omega
theorem u64_abs (n : Int) (h : -9223372036854775808 ≤ n) (h2 : n < 0) : IntKind.u64.wrap (IntKind.u64.wrap (-(n + 1)) + 1) = ((n.natAbs : Nat) : Int) := by
  rw [IntKind.wrap_u64, IntKind.wrap_u64]; omega

/-! ### Back to a whole number -/
def intOk (neg : Bool) (xs : List Nat) : Bool := Lg.may neg xs && decide (-9223372036854775808 ≤ Lg.num neg xs) && decide (Lg.num neg xs ≤ 9223372036854775807)
def intVal (neg : Bool) (xs : List Nat) : Int := if intOk neg xs = true then Lg.num neg xs else 0
theorem intOk_no {neg : Bool} {xs : List Nat} (h : intOk neg xs = false) : intVal neg xs = 0 := by simp [intVal, h]
theorem intOk_yes {neg : Bool} {xs : List Nat} (h : intOk neg xs = true) : intVal neg xs = Lg.num neg xs := by simp [intVal, h]
theorem bits_of (xs : List Nat) (hx : Dg.Low 4294967296 xs) : Dg.Low 2 (Dg.cut (flat xs)) ∧ Dg.Top (Dg.cut (flat xs)) ∧ Dg.val 2 (Dg.cut (flat xs)) = Dg.val 4294967296 xs ∧ (Dg.cut (flat xs)).length ≤ 32 * xs.length :=
  ⟨Dg.cut_low (flat_low xs), Dg.cut_top _, by rw [Dg.cut_val, flat_val hx], by have := Dg.cut_len (flat xs); rw [flat_len] at this; exact this⟩
theorem val_long {bs : List Nat} (ht : Dg.Top bs) (h : 64 < bs.length) : 18446744073709551616 ≤ Dg.val 2 bs := by
  have h1 := Dg.val_ge (B := 2) ht (by rintro rfl; simp at h)
  have h2 : (2 : Nat) ^ 64 ≤ 2 ^ (bs.length - 1) := Nat.pow_le_pow_right (by decide) (by omega)
  exact Nat.le_trans h2 h1
theorem val_short {bs : List Nat} (hl : Dg.Low 2 bs) (h : bs.length ≤ 64) : Dg.val 2 bs < 18446744073709551616 :=
  Nat.lt_of_lt_of_le (Dg.val_lt hl) (Nat.pow_le_pow_right (by decide) h)

set_option maxHeartbeats 2000000 in
theorem int_c (neg : Bool) (A : Option Addr) (c : Nat) (xs : List Nat) (w : World) (h : NumsAt .u32 w w.heap.size A xs) (hx : Dg.Low 4294967296 xs) (hn : xs.length ≤ 1000000000000) :
    Calls Tryz.prog 19 #[.agg #[.bool neg, .slice A xs.length c]] w fun e w' => e = .returned (.tuple #[.int .i64 (intVal neg xs), .bool (intOk neg xs)]) ∧ Grew w w' := by
  have H := hid h
  clear h
  cases hm : Lg.may neg xs
  · have E := hid (show intOk neg xs = false by simp [intOk, hm])
    go_enter Tryz.func19, Tryz.ntmps19
    go_wp2_with fail
    refine (may_c neg A c xs _ (H.out.grew ((Grew.refl _).alloc _)) hn).mono ?_
    rw [hm]
    rintro e w1 ⟨rfl, hg⟩
    go_wp2_with fail
    go_ret2
    exact ⟨ret_ib (intOk_no E.out).symm E.out.symm, ((Grew.refl _).alloc _).trans hg⟩
  · have hlen := (Lg.may_iff.1 hm).1
    obtain ⟨bl, bt, bv, bn⟩ := bits_of xs hx
    go_enter Tryz.func19, Tryz.ntmps19
    go_wp2_with fail
    refine (may_c neg A c xs _ (H.out.grew ((Grew.refl _).alloc _)) hn).mono ?_
    rw [hm]
    rintro e w1 ⟨rfl, hg1⟩
    have b0 : w1.cell? ⟨w.heap.size, 0, none⟩ = some (.bool neg) := by rw [hg1.below.cell (by simp)]; simp
    have b1 : w1.cell? ⟨w.heap.size, 1, none⟩ = some (.slice A xs.length c) := by rw [hg1.below.cell (by simp)]; simp
    have G1 := hid (((Grew.refl w).alloc (.cells #[.bool neg, .slice A xs.length c] 24)).trans hg1)
    have HG1 := hid hg1
    clear hg1
    go_wp2_with fail
    refine (bits_c A c xs _ (H.out.grew G1.out) (by omega)).mono ?_
    generalize Dg.cut (flat xs) = bs at *
    rintro e w2 ⟨B, d, rfl, hown, hg2⟩
    have b0' : w2.cell? ⟨w.heap.size, 0, none⟩ = some (.bool neg) := by
      rw [hg2.below.cell (by have := HG1.out.below.size; simp at this ⊢; omega)]; exact b0
    have HO := hid hown.at
    have G2 := hid (G1.out.trans hg2)
    clear hown hg2 b0 b1 HG1
    have hbl : bs.length ≤ 2048 := by omega
    have hnum : Lg.num neg xs = Lg.sgn neg (Dg.val 2 bs) := by rw [Lg.num, bv]
    by_cases hL : 64 < bs.length
    · have hL' : (64 : Int) < (bs.length : Int) := by omega
      have E := hid (show intOk neg xs = false by
        have := val_long bt hL
        cases neg <;> simp [intOk, hm, hnum, Lg.sgn] <;> omega)
      clear hnum bv
      go_wp2_with fail
      go_ret2
      exact ⟨ret_ib (intOk_no E.out).symm E.out.symm, G2.out⟩
    · have hL' : ¬ (64 : Int) < (bs.length : Int) := by omega
      have hS := val_short bl (by omega)
      have HPos : Hid (neg = true → 0 < Dg.val 2 bs) := hid (fun h => by
        have h3 := (Lg.may_iff.1 hm).2.2
        rw [h] at h3
        have hp : 0 < xs.length := by simpa using h3
        have h4 := (Lg.Rep.of_may hx hm).top
        rw [bv]
        exact Dg.val_pos (by decide) h4 (by rintro rfl; simp at hp))
      have HNum := hid hnum
      clear hnum bv
      go_wp2_with fail
      go_loop [5, 6] (fun u i => ∃ (k v : Nat), k ≤ bs.length ∧ i = .int .i64 ((k : Int) - 1) ∧ u = .int .u64 ((v : Nat) : Int) ∧ Hid (v = Dg.val 2 (bs.drop k))) (fun _ i => (intOf i + 1).toNat)
      case atStart => exact ⟨bs.length, 0, Nat.le_refl _, by go_num, rfl, hid (by simp)⟩
      case round =>
        obtain ⟨k, v, hk, rfl, rfl, HV⟩ := hrel
        rcases Nat.eq_zero_or_pos k with h0 | h0
        · subst h0
          have HV2 := hid (show v = Dg.val 2 bs by simpa using HV.out)
          have hv64 : v < 18446744073709551616 := by rw [HV2.out]; exact hS
          have HP2 : Hid (neg = true → 0 < v) := hid (by rw [HV2.out]; exact HPos.out)
          have HN2 : Hid (Lg.num neg xs = Lg.sgn neg v) := hid (by rw [HV2.out]; exact HNum.out)
          clear HPos HNum HV2 HV
          cases neg
          · by_cases hb : v ≤ 9223372036854775807
            · have E := hid (show intOk false xs = true by simp [intOk, hm, HN2.out, Lg.sgn]; omega)
              have E2 := hid (show intVal false xs = (v : Int) by rw [intOk_yes E.out, HN2.out]; simp [Lg.sgn])
              go_wp2_with fail
              go_ret2
              exact ⟨ret_ib E2.out.symm E.out.symm, G2.out⟩
            · have E := hid (show intOk false xs = false by simp [intOk, hm, HN2.out, Lg.sgn]; omega)
              go_wp2_with fail
              go_ret2
              exact ⟨ret_ib (intOk_no E.out).symm E.out.symm, G2.out⟩
          · have hp := HP2.out rfl
            by_cases hb : v ≤ 9223372036854775808
            · have E := hid (show intOk true xs = true by simp [intOk, hm, HN2.out, Lg.sgn]; omega)
              have E2 := hid (show intVal true xs = -(v : Int) by rw [intOk_yes E.out, HN2.out]; simp [Lg.sgn])
              go_wp2_with fail
              go_ret2
              exact ⟨ret_ib (by rw [E2.out]; omega) E.out.symm, G2.out⟩
            · have E := hid (show intOk true xs = false by simp [intOk, hm, HN2.out, Lg.sgn]; omega)
              go_wp2_with fail
              go_ret2
              exact ⟨ret_ib (intOk_no E.out).symm E.out.symm, G2.out⟩
        · obtain ⟨m, rfl⟩ : ∃ m, k = m + 1 := ⟨k - 1, by omega⟩
          obtain ⟨ad, rfl, had, hca⟩ := HO.out (by omega)
          have hcm := hca m (by omega)
          have hx2 := Dg.Low.getD (by decide) bl m
          have hst := Dg.val_drop 2 (show m < bs.length by omega)
          have hbd : Dg.val 2 (bs.drop m) < 18446744073709551616 := val_short (bl.drop m) (by rw [List.length_drop]; omega)
          rw [← HV.out] at hst
          have HST := hid hst
          have hbd2 : bs.getD m 0 + 2 * v < 18446744073709551616 := by rw [← hst]; exact hbd
          clear hca hst hbd
          generalize bs.getD m 0 = x at *
          go_wp2_with fail
          go_round
          case rel => exact ⟨m, x + 2 * v, by omega, by go_num, by congr 1; omega, hid HST.out.symm⟩
          case measure => simp [intOf]
end Go.Proofs.YtmcfciifjgdgoaaGreatDoor

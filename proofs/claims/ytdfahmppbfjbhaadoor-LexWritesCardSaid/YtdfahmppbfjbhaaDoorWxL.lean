/- Stage 13: the program's own source. -/
import Derived.Test.YtdfahmppbfjbhaaDoorWxJ
namespace Go.Proofs.YtdfahmppbfjbhaaDoor
open Go.RowKit

theorem ofL_app (a b : List UInt8) : ofL a ++ ofL b = ofL (a ++ b) := by
  apply bs_ext
  unfold bs ofL
  simp [ByteArray.data_append]
theorem bs_app (a b : ByteArray) : bs (a ++ b) = bs a ++ bs b := by
  unfold bs
  simp [ByteArray.data_append]
theorem src_len {k : Nat} {t : List UInt8} (h : Lx.mayT k t = true) : (Lx.src k t).length ≤ 2050 := by
  unfold Lx.mayT at h
  unfold Lx.src
  have hm := Lx.mark_len (k := k)
  have hd := dbl_len t
  split at h
  · simp only [Bool.and_eq_true, decide_eq_true_eq] at h
    split
    · simp; omega
    · split
      · simp; omega
      · split
        · simp; omega
        · split <;> omega
  · split at h
    · rename_i h2
      subst h2
      simp only [Bool.and_eq_true, decide_eq_true_eq] at h
      simp; omega
    · split at h
      · rename_i h2
        subst h2
        simp only [Bool.and_eq_true, decide_eq_true_eq] at h
        simp; omega
      · split at h
        · rename_i h2
          subst h2
          simp only [decide_eq_true_eq] at h
          simp; omega
        · rename_i h1 h2 h3 h4
          rw [if_neg (by omega), if_neg (by omega), if_neg h4, if_neg (by omega)]
          omega
set_option maxRecDepth 100000 in
set_option maxHeartbeats 2000000 in
theorem source_c (k : Nat) (s : ByteArray) (o : Int) (hm : Lx.mayT k (bs s) = true) (w : World) (hE : EnvAt w) : Calls Tryd.prog 30 #[.agg #[.int .u8 ((k : Nat) : Int), .string s, .int .i64 o]] w fun e w' => e = .returned (.string (ofL (Lx.src k (bs s)))) ∧ Grew w w' := by
  have HE := hid hE
  clear hE
  have HG := hid ((Grew.refl w).alloc (.cells #[.int .u8 ((k : Nat) : Int), .string s, .int .i64 o] 37))
  have hk16 : k ≤ 16 := by
    unfold Lx.mayT at hm
    split at hm
    · omega
    · split at hm
      · omega
      · split at hm
        · omega
        · split at hm
          · omega
          · rw [Bool.and_eq_true, decide_eq_true_eq] at hm
            exact hm.1
  have hss : s.size ≤ 1024 ∨ s.size ≤ 500000 := .inr (by rw [← bs_len]; exact (by
    have := hm
    unfold Lx.mayT at this
    split at this
    · simp only [Bool.and_eq_true, decide_eq_true_eq] at this; omega
    · split at this
      · simp only [Bool.and_eq_true, decide_eq_true_eq] at this; omega
      · split at this
        · simp only [Bool.and_eq_true, decide_eq_true_eq] at this; omega
        · split at this
          · simp only [decide_eq_true_eq] at this; omega
          · simp only [Bool.and_eq_true, List.isEmpty_iff] at this
            rw [this.2]
            exact Nat.zero_le _))
  have hs5 : s.size ≤ 500000 := by omega
  clear hss
  by_cases h023 : k = 0 ∨ k = 2 ∨ k = 3
  · have HS : Hid (ofL (Lx.src k (bs s)) = s) := hid (by
      have : Lx.src k (bs s) = bs s := by
        unfold Lx.src
        rw [if_neg (by omega), if_neg (by omega), if_neg (by omega), if_pos (by omega)]
      rw [this, ofL_bs])
    rw [HS.out]
    clear hm HS
    rcases h023 with rfl | rfl | rfl
    all_goals
      go_enter Tryd.func30, Tryd.ntmps30
      go_wp2_with fail
      go_ret
      exact ⟨rfl, HG.out⟩
  by_cases h1 : k = 1
  · subst h1
    have HS : Hid (ofL (Lx.src 1 (bs s)) = s ++ ⟨#[58]⟩) := hid (by
      rw [show Lx.src 1 (bs s) = bs s ++ [58] from rfl, ← ofL_app, ofL_bs]
      rfl)
    rw [HS.out]
    clear hm HS
    go_enter Tryd.func30, Tryd.ntmps30
    go_wp2_with fail
    go_ret
    exact ⟨rfl, HG.out⟩
  by_cases h5 : k = 5
  · subst h5
    have HS : Hid (ofL (Lx.src 5 (bs s)) = ⟨#[58]⟩ ++ s) := hid (by
      rw [show Lx.src 5 (bs s) = [58] ++ bs s from rfl, ← ofL_app, ofL_bs]
      rfl)
    rw [HS.out]
    clear hm HS
    go_enter Tryd.func30, Tryd.ntmps30
    go_wp2_with fail
    go_ret
    exact ⟨rfl, HG.out⟩
  by_cases h4 : k = 4
  · subst h4
    have HS : Hid (ofL (Lx.src 4 (bs s)) = ⟨#[39]⟩ ++ ofL (Lx.dbl (bs s)) ++ ⟨#[39]⟩) := hid (by
      rw [show Lx.src 4 (bs s) = [39] ++ Lx.dbl (bs s) ++ [39] from rfl, ← ofL_app, ← ofL_app]
      rfl)
    have HR := hid (fun W (hg : Grew w W) => replaceAll_c s (by omega) W (HE.out.grew hg).x)
    have hd := dbl_len (bs s)
    rw [bs_len] at hd
    have hds : (ofL (Lx.dbl (bs s))).size ≤ 1000000 := by rw [ofL_len]; omega
    rw [HS.out]
    generalize ofL (Lx.dbl (bs s)) = y at *
    clear hm HS hd
    go_enter Tryd.func30, Tryd.ntmps30
    go_wp2_with fail
    refine (HR.out _ HG.out).mono ?_
    rintro e w1 ⟨rfl, hg⟩
    have hz : (⟨#[39]⟩ ++ y : ByteArray).size ≤ 1000001 := by
      rw [ByteArray.size_append]
      have : (⟨#[39]⟩ : ByteArray).size = 1 := rfl
      omega
    go_wp2_with fail
    go_ret
    exact ⟨rfl, HG.out.trans hg⟩
  · have f0 : (((k : Nat) : Int) == 0) = false := by rw [beq_eq_false_iff_ne]; omega
    have f1 : (((k : Nat) : Int) == 1) = false := by rw [beq_eq_false_iff_ne]; omega
    have f5 : (((k : Nat) : Int) == 5) = false := by rw [beq_eq_false_iff_ne]; omega
    have f2 : (((k : Nat) : Int) == 2) = false := by rw [beq_eq_false_iff_ne]; omega
    have f3 : (((k : Nat) : Int) == 3) = false := by rw [beq_eq_false_iff_ne]; omega
    have f4 : (((k : Nat) : Int) == 4) = false := by rw [beq_eq_false_iff_ne]; omega
    have HS : Hid (ofL (Lx.src k (bs s)) = ofL (Lx.mark k)) := hid (by
      unfold Lx.src
      rw [if_neg h1, if_neg h5, if_neg h4, if_neg (by omega)])
    have hmk := (HE.out.grew HG.out).m k (by omega)
    have hml := (HE.out.grew HG.out).m.lt
    rw [HS.out]
    clear hm HS h023 h1 h5 h4
    generalize ofL (Lx.mark k) = y at *
    go_enter Tryd.func30, Tryd.ntmps30
    go_wp2_with fail
    go_ret
    exact ⟨rfl, HG.out⟩
end Go.Proofs.YtdfahmppbfjbhaaDoor

/- Stage 10: within, isIndex, the chain. -/
import Derived.Test.YtjladeiecokpfaaGreatDoorProg
import Derived.Test.YtjladeiecokpfaaGreatDoorClM
import Derived.BigQuiet
namespace Go.Proofs.YtjladeiecokpfaaGreatDoor
open Go.RowKit

theorem cwithin_c (n lo hi : Int) (w : World) : Calls Tryz.prog 49 #[.int .i64 n, .int .i64 lo, .int .i64 hi] w fun e w' => e = .returned (.bool (decide (lo ≤ n) && decide (n ≤ hi))) ∧ w' = w := by
  by_cases h1 : lo ≤ n
  · by_cases h2 : n ≤ hi
    · rw [show (decide (lo ≤ n) && decide (n ≤ hi)) = true by rw [decide_eq_true h1, decide_eq_true h2]; rfl]
      go_enter Tryz.func49, Tryz.ntmps49
      go_wp2_with fail
      go_ret
      exact ⟨rfl, rfl⟩
    · rw [show (decide (lo ≤ n) && decide (n ≤ hi)) = false by rw [decide_eq_false h2, Bool.and_false]]
      go_enter Tryz.func49, Tryz.ntmps49
      go_wp2_with fail
      go_ret
      exact ⟨rfl, rfl⟩
  · rw [show (decide (lo ≤ n) && decide (n ≤ hi)) = false by rw [decide_eq_false h1, Bool.false_and]]
    go_enter Tryz.func49, Tryz.ntmps49
    go_wp2_with fail
    go_ret
    exact ⟨rfl, rfl⟩
def isIdx (i : Int) (n : Nat) : Bool := decide (0 ≤ i) && decide (i ≤ (n : Int) - 1)
theorem isIdx_iff {i : Int} {n : Nat} : isIdx i n = true ↔ 0 ≤ i ∧ i < (n : Int) := by
  unfold isIdx
  rw [Bool.and_eq_true, decide_eq_true_iff, decide_eq_true_iff]
  omega
theorem isIdx_no {i : Int} {n : Nat} : isIdx i n = false ↔ i < 0 ∨ (n : Int) ≤ i := by
  rw [← Bool.not_eq_true, isIdx_iff]
  omega
theorem isIdxC_c (i : Int) (A : Option Addr) (n c : Nat) (hn : n ≤ 1000000) (w : World) : Calls Tryz.prog 59 #[.int .i64 i, .slice A n c] w fun e w' => e = .returned (.bool (isIdx i n)) ∧ w' = w := by
  have HW := hid (cwithin_c i 0 ((n : Int) - 1))
  go_enter Tryz.func59, Tryz.ntmps59
  go_wp2_with fail
  refine (HW.out _).mono ?_
  rintro e w' ⟨rfl, rfl⟩
  go_wp2_with fail
  go_ret
  exact ⟨rfl, rfl⟩
theorem isIdxM_c (i : Int) (A : Option Addr) (n c : Nat) (hn : n ≤ 1000000) (w : World) : Calls Tryz.prog 34 #[.int .i64 i, .slice A n c] w fun e w' => e = .returned (.bool (isIdx i n)) ∧ w' = w := by
  have HW := hid (cwithin_c i 0 ((n : Int) - 1))
  go_enter Tryz.func34, Tryz.ntmps34
  go_wp2_with fail
  refine (HW.out _).mono ?_
  rintro e w' ⟨rfl, rfl⟩
  go_wp2_with fail
  go_ret
  exact ⟨rfl, rfl⟩
/-- What 'chain' answers. -/
def ChainPost (w : World) (r : List Nat) (e : Ending) (w' : World) : Prop := ∃ (A : Option Addr) (c : Nat), e = .returned (.slice A r.length c) ∧ RowN w' w.heap.size A c r ∧ Grew w w'
theorem int_info10 : (Tryz.prog.info? 3).map (fun i => (i.zero, i.size, i.bytes)) = some (some (.int .i64 0), 1, 8) := by kernel_rfl
set_option maxRecDepth 100000 in
set_option maxHeartbeats 2000000 in
theorem chain_c (A : Option Addr) (cap : Nat) (l : List CV) (x : Int) (w : World) (h : ClsAt w A l) :
    Calls Tryz.prog 35 #[.slice A l.length cap, .int .i64 x] w (ChainPost w (Cs.chain (cls l) x)) := by
  obtain ⟨n, en⟩ : ∃ n, n = l.length := ⟨_, rfl⟩
  have hn : n ≤ 100 := by rw [en]; exact h.len
  have HA := hid h
  have HL := hid (Cs.chain_le (cls l) x)
  rw [← en]
  have EN := hid en
  obtain ⟨R, hR⟩ : ∃ R, R = Cs.chain (cls l) x := ⟨_, rfl⟩
  rw [← hR] at HL ⊢
  have HR := hid hR
  clear h en hR
  go_enter Tryz.func35, Tryz.ntmps35
  go_wp2_with fail
  go_loopw [1, 5] (fun s1 s5 wr => ∃ (y : Int) (pre : List Nat) (B : Option Addr) (k : Nat), s1 = .int .i64 y ∧ s5 = .slice B pre.length k ∧ Hid (RowN wr w.heap.size B k pre) ∧ Hid (R = pre ++ Cs.chain (cls l) y) ∧ Grew w wr) (fun s1 _ _ => (intOf s1 + 1).toNat)
  case atStart => exact ⟨x, [], none, 0, rfl, rfl, hid (RowN.nil _ _), hid (by rw [HR.out]; rfl), Grew.refl _⟩
  case round =>
    obtain ⟨y, pre, B, k, rfl, rfl, HP, HE, hg⟩ := hrel
    have HG := hid hg
    clear hg
    have HI := hid (isIdxC_c y A n cap (by omega))
    have HD : Hid (isIdx y n = false → Cs.chain (cls l) y = []) := hid (fun hf => Cs.chain_out _ (by rw [cls_len, ← EN.out]; exact isIdx_no.1 hf))
    have HT : Hid (isIdx y n = true → 0 ≤ y ∧ y < (n : Int)) := hid (fun hf => isIdx_iff.1 hf)
    generalize isIdx y n = b at HI HD HT
    cases b
    · go_wp2_with fail
      refine (HI.out _).mono ?_
      rintro e w' ⟨rfl, rfl⟩
      go_wp2_with fail
      go_ret
      exact ⟨B, k, by rw [HE.out, HD.out (by trivial), List.append_nil]; rfl, by rw [HE.out, HD.out (by trivial), List.append_nil]; exact HP.out, HG.out⟩
    · obtain ⟨d, rfl⟩ : ∃ d : Nat, y = d := ⟨y.toNat, by have := HT.out rfl; omega⟩
      have hd : d < n := by have := HT.out rfl; omega
      have hdi : (d : Int) < (n : Int) := by omega
      clear HD HT
      have hpl : pre.length ≤ 100 := by
        have h1 := HL.out
        rw [HE.out, List.length_append, cls_len, ← EN.out] at h1
        omega
      obtain ⟨ad, v, rfl, hv⟩ := cv_some HA.out.arg (i := d) (by rw [← EN.out]; exact hd)
      have HV := hid hv
      have HV2 := hid (cls_at hv)
      clear hv
      go_wp2_with fail
      refine (HI.out _).mono ?_
      rintro e w' ⟨rfl, rfl⟩
      clear HI
      by_cases hs : (d : Int) ≤ v.c.sup
      · have HC := hid (Cs.chain_stop HV2.out hs)
        go_wp2_with (at_builtin; refine wpList_pushN w' rfl _ _ rfl w.heap.size HG.out.below.size B k pre pre.length rfl rfl HP.out d _ rfl rfl _ rfl (by omega) ?_; rintro B3 k3 w3 hO3 hK3 hT3; have HO3 := hid hO3; have HG3 := hid (hK3.grew HG.out (Row.at_base HP.out)); clear hO3 hK3 hT3; obtain ⟨-, q1, -, -, hb, -⟩ := cv_get HA.out.arg HG3.out HV.out)
        go_ret
        exact ⟨B3, k3, by rw [HE.out, HC.out, List.length_append]; rfl, by rw [HE.out, HC.out]; exact HO3.out, HG3.out⟩
      · have HC := hid (Cs.chain_up HV2.out hs)
        go_wp2_with (at_builtin; refine wpList_pushN w' rfl _ _ rfl w.heap.size HG.out.below.size B k pre pre.length rfl rfl HP.out d _ rfl rfl _ rfl (by omega) ?_; rintro B3 k3 w3 hO3 hK3 hT3; have HO3 := hid hO3; have HG3 := hid (hK3.grew HG.out (Row.at_base HP.out)); clear hO3 hK3 hT3; obtain ⟨-, q1, -, -, hb, -⟩ := cv_get HA.out.arg HG3.out HV.out)
        go_round
        case rel => exact ⟨v.c.sup, pre ++ [d], B3, k3, rfl, by simp, HO3, hid (by rw [HE.out, HC.out, List.append_assoc]; rfl), HG3.out⟩
        case measure => simp [intOf]; omega
end Go.Proofs.YtjladeiecokpfaaGreatDoor

/- The walks of the document's own large numbers, part 5: whole numbers. -/
import Derived.Test.YtlidjdlamnkfmaaDoorRf4
import Derived.Test.YtlidjdlamnkfmaaDoorRets
namespace Go.Proofs.YtlidjdlamnkfmaaDoor
open Go.RowKit

theorem of_round {L : List Nat} {v N : Nat} (hv : Dg.val 2 L + 2 ^ L.length * v = N) : Dg.val 2 (L ++ [v % 2]) + 2 ^ (L ++ [v % 2]).length * (v / 2) = N := by
  rw [Dg.val_snoc, List.length_append, List.length_cons, List.length_nil, Nat.zero_add, Nat.pow_succ, Nat.mul_assoc, Nat.add_assoc, ← Nat.mul_add]
  have : v % 2 + 2 * (v / 2) = v := by omega
  rw [this, hv]
theorem of_len {L : List Nat} {v N : Nat} (hv : Dg.val 2 L + 2 ^ L.length * v = N) (hN : N < 2 ^ 64) (h0 : 0 < v) : L.length < 64 := by
  rcases Nat.lt_or_ge L.length 64 with h | h
  · exact h
  · exfalso
    have h1 : (2 : Nat) ^ 64 ≤ 2 ^ L.length := Nat.pow_le_pow_right (by decide) h
    have h2 : 2 ^ L.length * 1 ≤ 2 ^ L.length * v := Nat.mul_le_mul_left _ h0
    omega
theorem u64_abs (n : Int) (h : -9223372036854775808 ≤ n) (h2 : n < 0) : IntKind.u64.wrap (IntKind.u64.wrap (-(n + 1)) + 1) = ((n.natAbs : Nat) : Int) := by
  rw [IntKind.wrap_u64, IntKind.wrap_u64]; omega

set_option maxHeartbeats 2000000 in
/-- Behind the choice of the sign the rest is the same. -/
theorem of_c (n : Int) (w : World) (h1 : -9223372036854775808 ≤ n) (h2 : n ≤ 9223372036854775807) :
    Calls Tryd.prog 18 #[.int .i64 n] w fun e w' => ∃ A' c' xs, e = .returned (.agg #[.bool (decide (n < 0)), .slice A' xs.length c']) ∧ OwnNums .u32 w w' 62 A' c' xs ∧ Lg.Rep (decide (n < 0)) xs n ∧ Grew w w' := by
  obtain ⟨N, hN⟩ : ∃ N, N = n.natAbs := ⟨_, rfl⟩
  have hN64 : N < 18446744073709551616 := by omega
  have HN := hid hN
  by_cases hneg : n < 0
  all_goals
    first
      | (rw [decide_eq_true hneg]; have dn : decide (n < 0) = true := decide_eq_true hneg)
      | (rw [decide_eq_false hneg]; have dn : decide (n < 0) = false := decide_eq_false hneg)
    have HX := hid h1
    go_enter Tryd.func18, Tryd.ntmps18
    go_wp2_with fail
    obtain ⟨w1, hw1⟩ : ∃ w1, w1 = w.alloc (.cells #[.bool false, .slice none 0 0] 24) := ⟨_, rfl⟩
    have HB : Hid (Grew w w1 ∧ w1.heap.size = w.heap.size + 1 ∧ w1.cell? ⟨w.heap.size, 0, none⟩ = some (.bool false) ∧ w1.cell? ⟨w.heap.size, 1, none⟩ = some (.slice none 0 0) ∧ ∀ i, w1.frozen? ⟨w.heap.size, i, none⟩ = false) :=
      hid ⟨by rw [hw1]; exact (Grew.refl _).alloc _, by rw [hw1]; simp, by rw [hw1]; simp, by rw [hw1]; simp, fun i => by rw [hw1]; simp⟩
    rw [← hw1]
    clear hw1
    go_loopw [3, 4] (fun u s wr => ∃ (v : Nat) (B : Option Addr) (d : Nat) (L : List Nat), u = .int .u64 ((v : Nat) : Int) ∧ s = .slice B L.length d ∧ OwnNums .u8 w1 wr 5 B d L ∧ Grew w1 wr ∧ v ≤ N ∧ L.length ≤ 64 ∧ Hid (Dg.Low 2 L ∧ Dg.val 2 L + 2 ^ L.length * v = N ∧ (v = 0 → Dg.Top L))) (fun u _ _ => (intOf u).toNat)
    case atStart => exact ⟨N, none, 0, [], by congr 1; omega, rfl, OwnNums.nil _ _ _ _, Grew.refl _, Nat.le_refl _, by decide, hid ⟨Dg.Low.nil _, by simp, fun _ => Dg.Top.nil⟩⟩
    case round =>
      obtain ⟨v, B, d, L, rfl, rfl, hown, hg, hvN, hlen, HL⟩ := hrel
      rcases Nat.eq_zero_or_pos v with h0 | h0
      · subst h0
        have HTp := hid (show Dg.Top L from HL.out.2.2 rfl)
        have HV := hid (show Dg.val 2 L = n.natAbs by have := HL.out.2.1; rw [Nat.mul_zero, Nat.add_zero] at this; rw [this, HN.out])
        go_wp2_with fail
        refine (words_c B d L _ hown.at HL.out.1 (by omega)).mono ?_
        rintro e w2 ⟨A', c', M, rfl, hM, lm, hv, hl, hg2⟩
        have tm := words_top lm hl hv HTp.out
        have hgg := hg.trans hg2
        have e0 : w2.cell? ⟨w.heap.size, 0, none⟩ = some (.bool false) := by rw [hgg.below.cell (by rw [HB.out.2.1]; simp)]; exact HB.out.2.2.1
        have e1 : w2.cell? ⟨w.heap.size, 1, none⟩ = some (.slice none 0 0) := by rw [hgg.below.cell (by rw [HB.out.2.1]; simp)]; exact HB.out.2.2.2.1
        have f0 : ∀ i, w2.frozen? ⟨w.heap.size, i, none⟩ = false := fun i => by rw [hgg.below.frozen (by rw [HB.out.2.1]; simp)]; exact HB.out.2.2.2.2 i
        have HF := hid (show ∀ g, A' = some ⟨g, 0, none⟩ → g ≠ w.heap.size from fun g hA => by
          have h1 := (World.ownsRow.lt hM) g (by rw [hA]; rfl)
          have h2 := hg.below.size
          rw [HB.out.2.1] at h2
          omega)
        have HM := hid (hM.mono (HB.out.1.trans hg))
        have HG := hid (HB.out.1.trans hgg)
        have HR := hid (show Lg.Rep (decide (n < 0)) M n from ⟨lm, tm, by rw [hv, HV.out], rfl⟩)
        clear hM hv hl hg2 tm lm hgg hown hg
        rw [dn] at HR
        go_wp2_with fail
        first
          | (refine bodyPost_ret (v := .agg #[.bool true, .slice A' M.length c']) (by simp [results, Tryd.results18, go_sem, *]) rfl ?_
             exact ⟨A', c', M, rfl, (HM.out.far (fun g hA => HF.out g hA) _).far (fun g hA => HF.out g hA) _, HR.out, (HG.out.setCell (Nat.le_refl _) _).setCell (Nat.le_refl _) _⟩)
          | (refine bodyPost_ret (v := .agg #[.bool false, .slice A' M.length c']) (by simp [results, Tryd.results18, go_sem, *]) rfl ?_
             exact ⟨A', c', M, rfl, (HM.out.far (fun g hA => HF.out g hA) _).far (fun g hA => HF.out g hA) _, HR.out, (HG.out.setCell (Nat.le_refl _) _).setCell (Nat.le_refl _) _⟩)
      · have hl64 := of_len HL.out.2.1 (by omega) h0
        have t0 : decide (0 < ((v : Nat) : Int)) = true := by simp; omega
        go_wp2_with (at_builtin; refine wpList_push .u8 1 w1 wr rfl _ _ 55 5 rfl Tryd.underlying55 Tryd.info_u8 hg B d L rfl hown (v % 2) _ rfl rfl _ (by first | rfl | (congr 1; omega)) (by omega) (by omega) ?_; rintro A' c' W1 hO hG)
        go_roundw
        case rel => exact ⟨v / 2, A', c', L ++ [v % 2], by first | rfl | (congr 1; omega), by simp, hO, hG, by omega, by simp; omega, hid ⟨HL.out.1.snoc (by omega), of_round HL.out.2.1, fun hz => Dg.Top.snoc (by omega)⟩⟩
        case measure => simp [intOf] <;> omega

/-! ### Back to a whole number -/
def intOk (neg : Bool) (xs : List Nat) : Bool := Lg.may neg xs && decide (-9223372036854775808 ≤ Lg.num neg xs) && decide (Lg.num neg xs ≤ 9223372036854775807)
def intVal (neg : Bool) (xs : List Nat) : Int := if intOk neg xs = true then Lg.num neg xs else 0
theorem intOk_no {neg : Bool} {xs : List Nat} (h : intOk neg xs = false) : intVal neg xs = 0 := by simp [intVal, h]
theorem intOk_yes {neg : Bool} {xs : List Nat} (h : intOk neg xs = true) : intVal neg xs = Lg.num neg xs := by simp [intVal, h]
theorem bits_of (xs : List Nat) (hx : Dg.Low 4294967296 xs) : Dg.Low 2 (Dg.cut (flat xs)) ∧ Dg.Top (Dg.cut (flat xs)) ∧ Dg.val 2 (Dg.cut (flat xs)) = Dg.val 4294967296 xs ∧ (Dg.cut (flat xs)).length ≤ 32 * xs.length :=
  ⟨Dg.cut_low (flat_low xs), Dg.cut_top _, by rw [Dg.cut_val, flat_val hx], by have := Dg.cut_len (flat xs); rw [flat_len] at this; exact this⟩
theorem val_long {bs : List Nat} (ht : Dg.Top bs) (h : 64 < bs.length) : 18446744073709551616 ≤ Dg.val 2 bs := by
  have h1 := Dg.val_ge (B := 2) ht (by rintro rfl; simp at h)
  have h2 : (2 : Nat) ^ 64 ≤ 2 ^ (bs.length - 1) := Nat.pow_le_pow_right (by decide) (by omega)
  exact Nat.le_trans h2 h1
theorem val_short {bs : List Nat} (hl : Dg.Low 2 bs) (h : bs.length ≤ 64) : Dg.val 2 bs < 18446744073709551616 :=
  Nat.lt_of_lt_of_le (Dg.val_lt hl) (Nat.pow_le_pow_right (by decide) h)

end Go.Proofs.YtlidjdlamnkfmaaDoor

/- The developers' large numbers, part 2: what they call of Go's library on words: sums and differences with a carry, quotients, comparison, a copy. -/
import Derived.Test.YtmcfciifjgdgoaaGreatDoorPl1
import Derived.Test.YtmcfciifjgdgoaaGreatDoorLh2
import Derived.BigQuiet
namespace Go.Proofs.YtmcfciifjgdgoaaGreatDoor
open Go.RowKit

theorem ret_uu {k l : IntKind} {a b c d : Int} (h : a = b) (h2 : c = d) : Ending.returned (.tuple #[.int k a, .int l c]) = .returned (.tuple #[.int k b, .int l d]) := by rw [h, h2]

theorem add32_c (x y c : Nat) (w : World) (hx : x < 4294967296) (hy : y < 4294967296) (hc : c ≤ 1) :
    Calls Tryz.prog 59 #[.int .u32 ((x : Nat) : Int), .int .u32 ((y : Nat) : Int), .int .u32 ((c : Nat) : Int)] w fun e w' => e = .returned (.tuple #[.int .u32 (((x + y + c) % 4294967296 : Nat) : Int), .int .u32 (((x + y + c) / 4294967296 : Nat) : Int)]) ∧ w' = w := by
  go_enter Tryz.func59, Tryz.ntmps59
  go_wp2_with fail
  go_ret2
  exact ⟨ret_uu (by omega) (by omega), rfl⟩

theorem top_bit {n : Nat} (h : n < 4294967296) : n / 2147483648 = if n.testBit 31 then 1 else 0 := by
  have e : n.testBit 31 = decide (2147483648 ≤ n) := by
    rw [Nat.testBit_eq_decide_div_mod_eq]
    rw [decide_eq_decide]
    omega
  rw [e]
  by_cases h2 : 2147483648 ≤ n
  · rw [decide_eq_true h2]; simp; omega
  · rw [decide_eq_false h2]; simp; omega
theorem top_bit' {n : Nat} (h : n < 4294967296) : n.testBit 31 = decide (2147483648 ≤ n) := by
  rw [Nat.testBit_eq_decide_div_mod_eq, decide_eq_decide]
  omega
theorem borrow_bits (x y b d : Nat) (hx : x < 4294967296) (hy : y < 4294967296) (hb : b ≤ 1) (hd : d = (x + 8589934592 - y - b) % 4294967296) :
    (((4294967295 ^^^ x) &&& y) ||| ((4294967295 ^^^ (x ^^^ y)) &&& d)) / 2147483648 = if x < y + b then 1 else 0 := by
  have hd2 : d < 4294967296 := by omega
  have h1 : (4294967295 ^^^ x) < 2 ^ 32 := Nat.xor_lt_two_pow (by decide) hx
  have h2 : (x ^^^ y) < 2 ^ 32 := Nat.xor_lt_two_pow hx hy
  have h3 : (4294967295 ^^^ (x ^^^ y)) < 2 ^ 32 := Nat.xor_lt_two_pow (by decide) h2
  have h4 : ((4294967295 ^^^ x) &&& y) < 2 ^ 32 := Nat.and_lt_two_pow _ hy
  have h5 : ((4294967295 ^^^ (x ^^^ y)) &&& d) < 2 ^ 32 := Nat.and_lt_two_pow _ hd2
  have h6 : (((4294967295 ^^^ x) &&& y) ||| ((4294967295 ^^^ (x ^^^ y)) &&& d)) < 2 ^ 32 := Nat.or_lt_two_pow h4 h5
  rw [top_bit h6]
  simp only [Nat.testBit_or, Nat.testBit_and, Nat.testBit_xor, top_bit' hx, top_bit' hy, top_bit' hd2]
  have e1 : Nat.testBit 4294967295 31 = true := by decide
  rw [e1]
  by_cases p : 2147483648 ≤ x <;> by_cases q : 2147483648 ≤ y <;> by_cases r : 2147483648 ≤ d <;> simp [p, q, r] <;> omega

theorem borrow_int (x y b : Nat) (hx : x < 4294967296) (hy : y < 4294967296) (hb : b ≤ 1) :
    bits BinOp.or IntKind.u32 (bits BinOp.and IntKind.u32 (bits BinOp.xor IntKind.u32 IntKind.u32.max ((x : Nat) : Int)) ((y : Nat) : Int)) (bits BinOp.and IntKind.u32 (bits BinOp.xor IntKind.u32 IntKind.u32.max (bits BinOp.xor IntKind.u32 ((x : Nat) : Int) ((y : Nat) : Int))) ((((x : Nat) : Int) - ((y : Nat) : Int) - ((b : Nat) : Int)) % 4294967296)) / 2147483648
      = ((if x < y + b then 1 else 0 : Nat) : Int) := by
  obtain ⟨d, hd⟩ : ∃ d, d = (x + 8589934592 - y - b) % 4294967296 := ⟨_, rfl⟩
  have hd2 : d < 4294967296 := by omega
  have h1 : (4294967295 ^^^ x) < 4294967296 := Nat.xor_lt_two_pow (n := 32) (by decide) hx
  have h2 : (x ^^^ y) < 4294967296 := Nat.xor_lt_two_pow (n := 32) hx hy
  have h3 : (4294967295 ^^^ (x ^^^ y)) < 4294967296 := Nat.xor_lt_two_pow (n := 32) (by decide) h2
  have h4 : ((4294967295 ^^^ x) &&& y) < 4294967296 := Nat.and_lt_two_pow (n := 32) _ hy
  have h5 : ((4294967295 ^^^ (x ^^^ y)) &&& d) < 4294967296 := Nat.and_lt_two_pow (n := 32) _ hd2
  rw [show IntKind.u32.max = ((4294967295 : Nat) : Int) from rfl, show (((x : Nat) : Int) - ((y : Nat) : Int) - ((b : Nat) : Int)) % 4294967296 = ((d : Nat) : Int) by omega,
    u32_xor_nat _ _ (by decide) hx, u32_xor_nat _ _ hx hy, u32_xor_nat _ _ (by decide) h2, u32_and_nat _ _ h1 hy, u32_and_nat _ _ h3 hd2, u32_or_nat _ _ h4 h5, ← borrow_bits x y b d hx hy hb hd]
  rfl

set_option maxHeartbeats 1000000 in
theorem sub32_c (x y b : Nat) (w : World) (hx : x < 4294967296) (hy : y < 4294967296) (hb : b ≤ 1) :
    Calls Tryz.prog 60 #[.int .u32 ((x : Nat) : Int), .int .u32 ((y : Nat) : Int), .int .u32 ((b : Nat) : Int)] w fun e w' => e = .returned (.tuple #[.int .u32 (((x + 8589934592 - y - b) % 4294967296 : Nat) : Int), .int .u32 ((if x < y + b then 1 else 0 : Nat) : Int)]) ∧ w' = w := by
  have HB := hid (borrow_int x y b hx hy hb)
  obtain ⟨o, ho⟩ : ∃ o, o = (if x < y + b then 1 else 0 : Nat) := ⟨_, rfl⟩
  rw [← ho] at HB ⊢
  clear ho
  obtain ⟨d, hd⟩ : ∃ d, d = (x + 8589934592 - y - b) % 4294967296 := ⟨_, rfl⟩
  have HD := hid hd
  rw [← hd]
  clear hd
  go_enter Tryz.func60, Tryz.ntmps60
  go_wp2_with fail
  go_ret2
  exact ⟨ret_uu (by rw [HD.out]; omega) HB.out, rfl⟩

theorem quo_word {V b : Nat} (h : V / b < 4294967296) : IntKind.u64.wrap (((V : Nat) : Int).tdiv ((b : Nat) : Int)) % 4294967296 = ((V / b : Nat) : Int) := by
  rw [Int.tdiv_eq_ediv_of_nonneg (Int.natCast_nonneg _), ← Int.natCast_ediv, IntKind.wrap_u64]
  generalize V / b = q at h ⊢
  omega
theorem rem_word {V b : Nat} (h : V % b < 4294967296) : ((V : Nat) : Int).tmod ((b : Nat) : Int) % 4294967296 = ((V % b : Nat) : Int) := by
  rw [Int.tmod_eq_emod_of_nonneg (Int.natCast_nonneg _), ← Int.natCast_emod]
  omega
theorem div32_c (r x b : Nat) (w : World) (hr : r < b) (hb : b < 4294967296) (hx : x < 4294967296) :
    Calls Tryz.prog 72 #[.int .u32 ((r : Nat) : Int), .int .u32 ((x : Nat) : Int), .int .u32 ((b : Nat) : Int)] w fun e w' => e = .returned (.tuple #[.int .u32 (((x + 4294967296 * r) / b : Nat) : Int), .int .u32 (((x + 4294967296 * r) % b : Nat) : Int)]) ∧ ∃ n, w' = w.drewN n := by
  have t1 : (((b : Nat) : Int) != 0) = true := by rw [bne_iff_ne]; omega
  have t2 : ¬ ((b : Nat) : Int) ≤ ((r : Nat) : Int) := by omega
  have t3 : ((b : Nat) : Int) ≠ 0 := by omega
  have HJ : Hid (bits BinOp.or IntKind.u64 (((r : Nat) : Int) * 4294967296) ((x : Nat) : Int) = ((x + 4294967296 * r : Nat) : Int)) := hid (by rw [bits_join .u64 64 (by decide) (fun n h0 h1 => by simp [IntKind.wrap, IntKind.bits, IntKind.signed]; omega) 32 _ _ (by omega) (by omega) (by omega) (by omega) (by omega) (by omega)]; omega)
  go_enter Tryz.func72, Tryz.ntmps72
  go_wp2_with fail
  go_quiet (fail)
  go_wp2_with fail
  go_ret2
  have q : (x + 4294967296 * r) / b < 4294967296 := by
    rw [Nat.div_lt_iff_lt_mul (by omega)]
    omega
  have q2 : (x + 4294967296 * r) % b < 4294967296 := Nat.lt_trans (Nat.mod_lt _ (by omega)) hb
  exact ⟨ret_uu (by rw [HJ.out]; exact quo_word q) (by rw [HJ.out]; exact rem_word q2), _, rfl⟩

theorem cmpInt_c (x y : Int) (w : World) :
    Calls Tryz.prog 61 #[.int .i64 x, .int .i64 y] w fun e w' => e = .returned (.int .i64 (if x < y then -1 else if y < x then 1 else 0)) ∧ w' = w := by
  rcases Int.lt_trichotomy x y with h | h | h
  · rw [if_pos h]
    go_enter Tryz.func61, Tryz.ntmps61
    go_wp2
    go_ret
    exact ⟨rfl, rfl⟩
  · subst h
    rw [if_neg (by omega), if_neg (by omega)]
    go_enter Tryz.func61, Tryz.ntmps61
    go_wp2
    go_ret
    exact ⟨rfl, rfl⟩
  · rw [if_neg (by omega), if_pos h]
    have h' : ¬ x < y := by omega
    go_enter Tryz.func61, Tryz.ntmps61
    go_wp2
    go_ret
    exact ⟨rfl, rfl⟩
theorem cmpU32_c (x y : Nat) (w : World) :
    Calls Tryz.prog 63 #[.int .u32 ((x : Nat) : Int), .int .u32 ((y : Nat) : Int)] w fun e w' => e = .returned (.int .i64 (if x < y then -1 else if y < x then 1 else 0)) ∧ w' = w := by
  rcases Nat.lt_trichotomy x y with h | h | h
  · rw [if_pos h]
    have h' : (x : Int) < (y : Int) := by omega
    go_enter Tryz.func63, Tryz.ntmps63
    go_wp2
    go_ret
    exact ⟨rfl, rfl⟩
  · subst h
    rw [if_neg (by omega), if_neg (by omega)]
    go_enter Tryz.func63, Tryz.ntmps63
    go_wp2
    go_ret
    exact ⟨rfl, rfl⟩
  · rw [if_neg (by omega), if_pos h]
    have h' : ¬ (x : Int) < (y : Int) := by omega
    have h'' : (y : Int) < (x : Int) := by omega
    go_enter Tryz.func63, Tryz.ntmps63
    go_wp2
    go_ret
    exact ⟨rfl, rfl⟩

set_option maxHeartbeats 1000000 in
theorem clone_c (A : Option Addr) (c : Nat) (xs : List Nat) (w : World) (h : NumsAt .u32 w w.heap.size A xs) (hA : A = none → c = 0) (hn : xs.length ≤ 1000000) :
    Calls Tryz.prog 55 #[.slice A xs.length c] w fun e w' => ∃ A' c', e = .returned (.slice A' xs.length c') ∧ OwnNums .u32 w w' 55 A' c' xs ∧ Grew w w' := by
  have q22 : ∀ (w : World) (a : Option Addr) (n c n' c' : Nat), (binOp .eql 22 (.slice a n c) (.slice none n' c')).run Tryz.prog w = .ok (.bool a.isNone) w := fun w a n c n' c' => Lib.run_eql_slice_nil w _ _ a n c n' c' Tryz.underlying22
  have H := hid h
  clear h
  cases A with
  | none =>
    have e0 : xs = [] := by
      rcases Nat.eq_zero_or_pos xs.length with h0 | h0
      · exact List.eq_nil_of_length_eq_zero h0
      · obtain ⟨ad, e, _⟩ := H.out h0
        cases e
    subst e0
    obtain rfl := hA rfl
    go_enter Tryz.func55, Tryz.ntmps55
    go_wp2_with fail
    go_ret
    exact ⟨none, 0, rfl, OwnNums.nil _ _ _ _, Grew.refl _⟩
  | some ad =>
    clear hA
    go_enter Tryz.func55, Tryz.ntmps55
    go_wp2_with (at_builtin; refine wpList_cat .u32 4 w _ rfl _ _ 22 55 rfl Tryz.underlying22 Tryz.info_u32 ((Grew.refl w).alloc _) _ 0 [] rfl (OwnNums.made0 .u32 w w 55 (Grew.refl _)) (some ad) c xs rfl (H.out.grew ((Grew.refl w).alloc _)) (by simp; omega) (by simp; omega) ?_; rintro A' c' w1 hO hG)
    go_ret
    rw [List.nil_append] at hO
    exact ⟨A', c', by simp, hO, hG⟩
end Go.Proofs.YtmcfciifjgdgoaaGreatDoor

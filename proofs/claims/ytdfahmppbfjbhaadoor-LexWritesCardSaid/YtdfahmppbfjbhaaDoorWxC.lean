/- Stage 13: the program's own name, isName, isNumeral. -/
import Derived.Test.YtdfahmppbfjbhaaDoorWxB
import Derived.Lib.Strings
namespace Go.Proofs.YtdfahmppbfjbhaaDoor
open Go.RowKit

/-- A text of bytes. -/
def ofL (l : List UInt8) : ByteArray := ⟨l.toArray⟩
theorem bs_ofL (l : List UInt8) : bs (ofL l) = l := rfl
theorem ofL_bs (s : ByteArray) : ofL (bs s) = s := by
  unfold ofL bs
  cases s
  rfl
theorem ofL_len (l : List UInt8) : (ofL l).size = l.length := by rw [← bs_len, bs_ofL]
theorem bs_ext {s t : ByteArray} (h : bs s = bs t) : s = t := by rw [← ofL_bs s, ← ofL_bs t, h]
theorem ext_take (s : ByteArray) (n : Nat) : s.extract 0 n = ofL ((bs s).take n) := by
  apply bs_ext
  rw [bs_ofL]
  unfold bs
  rw [ByteArray.data_extract, Array.toList_extract, List.extract_eq_take_drop]
  simp
theorem ext_drop (s : ByteArray) (n : Nat) : s.extract n s.size = ofL ((bs s).drop n) := by
  apply bs_ext
  rw [bs_ofL]
  unfold bs
  rw [ByteArray.data_extract, Array.toList_extract, List.extract_eq_take_drop]
  rw [List.take_of_length_le]
  rw [List.length_drop, Array.length_toList]
  exact Nat.le_refl _
theorem ext_mid (s : ByteArray) (n m : Nat) : s.extract n m = ofL (((bs s).drop n).take (m - n)) := by
  apply bs_ext
  rw [bs_ofL]
  unfold bs
  rw [ByteArray.data_extract, Array.toList_extract, List.extract_eq_take_drop]
theorem bs_nil {s : ByteArray} (h : s.size = 0) : s = ⟨#[]⟩ := by
  apply bs_ext
  exact List.eq_nil_of_length_eq_zero (by rw [bs_len]; exact h)
theorem bs_cons {s : ByteArray} (h : 0 < s.size) : ∃ c r, bs s = c :: r ∧ (s[0]'h).toNat = c.toNat := by
  obtain ⟨c, hc, e⟩ := bs_at s 0 h
  cases hb : bs s with
  | nil => rw [hb] at hc; cases hc
  | cons a r =>
    rw [hb] at hc
    obtain rfl : a = c := by simpa using hc
    exact ⟨a, r, rfl, e⟩
theorem str_data (s : ByteArray) : s.toList = bs s := by
  unfold bs
  rw [ByteArray.toList_eq]
theorem str_beq (s t : ByteArray) : (s.toList == t.toList) = decide (s = t) := by
  rw [Bool.eq_iff_iff, beq_iff_eq, decide_eq_true_iff, str_data, str_data]
  exact ⟨bs_ext, fun e => by rw [e]⟩
theorem str_beq' (s t : ByteArray) : (s.toList == t.toList) = (bs s == bs t) := by rw [str_data, str_data]
theorem enters_isLD (args : Array Value) (w : World) : (callFunc 61 args).run Tryd.prog w = .ok (.enter 61 args) w := enters_of Tryd.func61 (by kernel_rfl) rfl args w
theorem enters_isD (args : Array Value) (w : World) : (callFunc 40 args).run Tryd.prog w = .ok (.enter 40 args) w := enters_of Tryd.func40 (by kernel_rfl) rfl args w
theorem within_c (n l m : Int) (w : World) : Calls Tryd.prog 50 #[.int .i64 n, .int .i64 l, .int .i64 m] w fun e w' => e = .returned (.bool (decide (l ≤ n) && decide (n ≤ m))) ∧ w' = w := by
  by_cases h1 : l ≤ n
  · rw [decide_eq_true h1, Bool.true_and]
    by_cases h2 : n ≤ m
    · rw [decide_eq_true h2]
      go_enter Tryd.func50, Tryd.ntmps50
      go_wp2_with fail
      go_ret
      exact ⟨rfl, rfl⟩
    · rw [decide_eq_false h2]
      go_enter Tryd.func50, Tryd.ntmps50
      go_wp2_with fail
      go_ret
      exact ⟨rfl, rfl⟩
  · rw [decide_eq_false h1, Bool.false_and]
    go_enter Tryd.func50, Tryd.ntmps50
    go_wp2_with fail
    go_ret
    exact ⟨rfl, rfl⟩
set_option maxRecDepth 100000 in
set_option maxHeartbeats 1000000 in
theorem name_c (s : ByteArray) (hs : s.size ≤ 4294967280) (w : World) : Calls Tryd.prog 51 #[.string s] w fun e w' => e = .returned (.string (ofL (Lx.nameOf (bs s)))) ∧ Grew w w' := by
  rcases Nat.eq_zero_or_pos s.size with h0 | h0
  · obtain rfl := bs_nil h0
    go_enter Tryd.func51, Tryd.ntmps51
    go_wp2_with fail
    go_ret
    exact ⟨rfl, Grew.refl _⟩
  · obtain ⟨c, r, hb, hc⟩ := bs_cons h0
    have HL := hid (isLetter_c c)
    have HS := hid (fun W => span_c _ enters_isLD _ isLetterOrDigit_c s hs W)
    have HE := hid (ext_take s (Lx.span Lx.isLD (bs s)))
    have hle := Lx.span_le Lx.isLD (bs s)
    rw [bs_len] at hle
    have HN : Hid (Lx.nameOf (bs s) = if Lx.isL c = true then (bs s).take (Lx.span Lx.isLD (bs s)) else []) := hid (by
      have e : (bs s).head?.any Lx.isL = Lx.isL c := by rw [hb]; simp
      unfold Lx.nameOf
      rw [e])
    have HB := hid hb
    have hne : s.toList.isEmpty = false := by
      rw [str_data, hb]
      rfl
    clear hb
    generalize Lx.span Lx.isLD (bs s) = n at *
    generalize Lx.isL c = b at *
    generalize c.toNat = x at *
    cases b
    · go_enter Tryd.func51, Tryd.ntmps51
      go_wp2_with fail
      refine (HL.out _).mono ?_
      rintro e w1 ⟨rfl, hg⟩
      go_wp2_with fail
      go_ret
      exact ⟨by rw [HN.out]; rfl, hg⟩
    · go_enter Tryd.func51, Tryd.ntmps51
      go_wp2_with fail
      refine (HL.out _).mono ?_
      rintro e w1 ⟨rfl, hg⟩
      go_wp2_with fail
      refine (HS.out _).mono ?_
      rintro e w2 ⟨rfl, hg2⟩
      go_wp2_with fail
      go_ret
      exact ⟨by rw [HN.out]; exact congrArg (fun z => Ending.returned (.string z)) HE.out, hg.trans hg2⟩
end Go.Proofs.YtdfahmppbfjbhaaDoor

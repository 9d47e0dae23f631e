/- Parts of elder texts that this layer needs, joined: XMtA XMtB XMtC XMtD. -/
import Derived.Test.YtjladeiecokpfaaGreatDoorShelf
import Derived.Test.YtjladeiecokpfaaGreatDoorZMtP
import Derived.Test.YtjladeiecokpfaaGreatDoorZBase
import Derived.Test.YtjladeiecokpfaaGreatDoorZViM
import Derived.BigQuiet
import Derived.Test.YtjladeiecokpfaaGreatDoorZLgM
import Derived.Laws.Runes
import Derived.WalkMore
namespace Go.Proofs.YtjladeiecokpfaaGreatDoor
open Go.RowKit

theorem within_c (n lo hi : Int) (w : World) : Calls Tryz.prog 103 #[.int .i64 n, .int .i64 lo, .int .i64 hi] w fun e w' => e = .returned (.bool (decide (lo ≤ n) && decide (n ≤ hi))) ∧ w' = w := by
  by_cases h1 : lo ≤ n
  · by_cases h2 : n ≤ hi
    · rw [show (decide (lo ≤ n) && decide (n ≤ hi)) = true by rw [decide_eq_true h1, decide_eq_true h2]; rfl]
      go_enter Tryz.func103, Tryz.ntmps103
      go_wp2_with fail
      go_ret
      exact ⟨rfl, rfl⟩
    · rw [show (decide (lo ≤ n) && decide (n ≤ hi)) = false by rw [decide_eq_false h2, Bool.and_false]]
      go_enter Tryz.func103, Tryz.ntmps103
      go_wp2_with fail
      go_ret
      exact ⟨rfl, rfl⟩
  · rw [show (decide (lo ≤ n) && decide (n ≤ hi)) = false by rw [decide_eq_false h1, Bool.false_and]]
    go_enter Tryz.func103, Tryz.ntmps103
    go_wp2_with fail
    go_ret
    exact ⟨rfl, rfl⟩
theorem small_c (x : Nat) (w : World) : Calls Tryz.prog 125 #[.int .i32 ((x : Nat) : Int)] w fun e w' => e = .returned (.bool (Mt.small x)) ∧ w' = w := by
  unfold Mt.small
  by_cases h1 : 97 ≤ x
  · have t1 : (97 : Int) ≤ ((x : Nat) : Int) := by omega
    by_cases h2 : x ≤ 122
    · have t2 : ((x : Nat) : Int) ≤ 122 := by omega
      rw [show (decide (97 ≤ x) && decide (x ≤ 122)) = true by rw [decide_eq_true h1, decide_eq_true h2]; rfl]
      go_enter Tryz.func125, Tryz.ntmps125
      go_wp2_with fail
      go_ret
      exact ⟨rfl, rfl⟩
    · have t2 : ¬ ((x : Nat) : Int) ≤ 122 := by omega
      rw [show (decide (97 ≤ x) && decide (x ≤ 122)) = false by rw [decide_eq_false h2, Bool.and_false]]
      go_enter Tryz.func125, Tryz.ntmps125
      go_wp2_with fail
      go_ret
      exact ⟨rfl, rfl⟩
  · have t1 : ¬ (97 : Int) ≤ ((x : Nat) : Int) := by omega
    rw [show (decide (97 ≤ x) && decide (x ≤ 122)) = false by rw [decide_eq_false h1, Bool.false_and]]
    go_enter Tryz.func125, Tryz.ntmps125
    go_wp2_with fail
    go_ret
    exact ⟨rfl, rfl⟩
theorem capital_c (x : Nat) (w : World) : Calls Tryz.prog 126 #[.int .i32 ((x : Nat) : Int)] w fun e w' => e = .returned (.bool (Mt.capital x)) ∧ w' = w := by
  unfold Mt.capital
  by_cases h1 : 65 ≤ x
  · have t1 : (65 : Int) ≤ ((x : Nat) : Int) := by omega
    by_cases h2 : x ≤ 90
    · have t2 : ((x : Nat) : Int) ≤ 90 := by omega
      rw [show (decide (65 ≤ x) && decide (x ≤ 90)) = true by rw [decide_eq_true h1, decide_eq_true h2]; rfl]
      go_enter Tryz.func126, Tryz.ntmps126
      go_wp2_with fail
      go_ret
      exact ⟨rfl, rfl⟩
    · have t2 : ¬ ((x : Nat) : Int) ≤ 90 := by omega
      rw [show (decide (65 ≤ x) && decide (x ≤ 90)) = false by rw [decide_eq_false h2, Bool.and_false]]
      go_enter Tryz.func126, Tryz.ntmps126
      go_wp2_with fail
      go_ret
      exact ⟨rfl, rfl⟩
  · have t1 : ¬ (65 : Int) ≤ ((x : Nat) : Int) := by omega
    rw [show (decide (65 ≤ x) && decide (x ≤ 90)) = false by rw [decide_eq_false h1, Bool.false_and]]
    go_enter Tryz.func126, Tryz.ntmps126
    go_wp2_with fail
    go_ret
    exact ⟨rfl, rfl⟩
theorem digit_c (x : Nat) (w : World) : Calls Tryz.prog 127 #[.int .i32 ((x : Nat) : Int)] w fun e w' => e = .returned (.bool (Mt.digit x)) ∧ w' = w := by
  unfold Mt.digit
  by_cases h1 : 48 ≤ x
  · have t1 : (48 : Int) ≤ ((x : Nat) : Int) := by omega
    by_cases h2 : x ≤ 57
    · have t2 : ((x : Nat) : Int) ≤ 57 := by omega
      rw [show (decide (48 ≤ x) && decide (x ≤ 57)) = true by rw [decide_eq_true h1, decide_eq_true h2]; rfl]
      go_enter Tryz.func127, Tryz.ntmps127
      go_wp2_with fail
      go_ret
      exact ⟨rfl, rfl⟩
    · have t2 : ¬ ((x : Nat) : Int) ≤ 57 := by omega
      rw [show (decide (48 ≤ x) && decide (x ≤ 57)) = false by rw [decide_eq_false h2, Bool.and_false]]
      go_enter Tryz.func127, Tryz.ntmps127
      go_wp2_with fail
      go_ret
      exact ⟨rfl, rfl⟩
  · have t1 : ¬ (48 : Int) ≤ ((x : Nat) : Int) := by omega
    rw [show (decide (48 ≤ x) && decide (x ≤ 57)) = false by rw [decide_eq_false h1, Bool.false_and]]
    go_enter Tryz.func127, Tryz.ntmps127
    go_wp2_with fail
    go_ret
    exact ⟨rfl, rfl⟩
set_option maxHeartbeats 1000000 in
theorem nameOther_c (x : Nat) (w : World) : Calls Tryz.prog 124 #[.int .i32 ((x : Nat) : Int)] w fun e w' => e = .returned (.bool (!(Mt.letter x))) ∧ w' = w := by
  have C1 := hid (small_c x w)
  have C2 := hid (capital_c x w)
  have C3 := hid (digit_c x w)
  unfold Mt.letter
  generalize Mt.small x = a at *
  generalize Mt.capital x = b at *
  generalize Mt.digit x = c at *
  cases a
  · cases b
    · cases c <;> (
        go_enter Tryz.func124, Tryz.ntmps124
        go_wp2_with (first
          | (go_at_call 125; refine C1.out.mono ?_; rintro e w1 ⟨rfl, rfl⟩)
          | (go_at_call 126; refine C2.out.mono ?_; rintro e w1 ⟨rfl, rfl⟩)
          | (go_at_call 127; refine C3.out.mono ?_; rintro e w1 ⟨rfl, rfl⟩))
        go_ret
        exact ⟨rfl, rfl⟩)
    · go_enter Tryz.func124, Tryz.ntmps124
      go_wp2_with (first
        | (go_at_call 125; refine C1.out.mono ?_; rintro e w1 ⟨rfl, rfl⟩)
        | (go_at_call 126; refine C2.out.mono ?_; rintro e w1 ⟨rfl, rfl⟩))
      go_ret
      exact ⟨by cases c <;> rfl, rfl⟩
  · go_enter Tryz.func124, Tryz.ntmps124
    go_wp2_with (go_at_call 125; refine C1.out.mono ?_; rintro e w1 ⟨rfl, rfl⟩)
    go_ret
    exact ⟨by cases b <;> cases c <;> rfl, rfl⟩
end Go.Proofs.YtjladeiecokpfaaGreatDoor
namespace Go.Proofs.YtjladeiecokpfaaGreatDoor
open Go.RowKit

theorem decode_far (s : ByteArray) (pos : Nat) (h : pos < s.size) (ha : ¬ (s[pos]'h).toNat < 128) : 128 ≤ (Utf8.decode s pos).1 := by
  have e : s.get! (pos + 0) = s[pos]'h := by
    show s.get! pos = _
    simp [ByteArray.get!, getElem!_pos, h]
    rfl
  unfold Utf8.decode
  simp only [e]
  rw [if_neg ha]
  split
  · split
    · rename_i h2; exact h2
    · decide
  · split
    · split
      · rename_i h2; simp only [Bool.and_eq_true, decide_eq_true_eq] at h2; omega
      · decide
    · split
      · split
        · rename_i h2; simp only [Bool.and_eq_true, decide_eq_true_eq] at h2; omega
        · decide
      · decide
theorem some_from {ok : Nat → Bool} (hok : ∀ x, 128 ≤ x → ok x = false) {s : ByteArray} : ∀ (f pos : Nat), s.size ≤ pos + f → (0 ≤ Lib.idxFuncFrom (fun x => !(ok x)) true s f pos ↔ ∃ j, pos ≤ j ∧ j < s.size ∧ ok ((Lg.bytes s).getD j 0) = false)
  | 0, pos, h => by
    constructor
    · intro h2; simp [Lib.idxFuncFrom] at h2
    · rintro ⟨j, h1, h2, _⟩; omega
  | f + 1, pos, h => by
    unfold Lib.idxFuncFrom
    by_cases hp : pos < s.size
    · rw [if_pos hp]
      have hb := Lg.bytes_at s pos hp
      by_cases ha : (s[pos]'hp).toNat < 128
      · rw [decode_ascii s pos hp ha, hb]
        cases hd : ok ((Lg.bytes s).getD pos 0)
        · rw [if_pos (by rfl)]
          exact ⟨fun _ => ⟨pos, Nat.le_refl _, hp, hd⟩, fun _ => Int.natCast_nonneg _⟩
        · rw [if_neg (by decide), some_from hok f (pos + 1) (by omega)]
          constructor
          · rintro ⟨j, h1, h2, h3⟩; exact ⟨j, by omega, h2, h3⟩
          · rintro ⟨j, h1, h2, h3⟩
            refine ⟨j, ?_, h2, h3⟩
            rcases Nat.eq_or_lt_of_le h1 with h4 | h4
            · subst h4; rw [hd] at h3; cases h3
            · exact h4
      · have h1 := decode_far s pos hp ha
        rw [if_pos (by simp only [hok _ h1]; rfl)]
        refine ⟨fun _ => ⟨pos, Nat.le_refl _, hp, hok _ ?_⟩, fun _ => Int.natCast_nonneg _⟩
        rw [hb] at ha
        omega
    · rw [if_neg hp]
      constructor
      · intro h2; omega
      · rintro ⟨j, h1, h2, _⟩; omega
theorem idx_ok {ok : Nat → Bool} (hok : ∀ x, 128 ≤ x → ok x = false) (s : ByteArray) : decide (0 ≤ Lib.idxFunc (fun x => !(ok x)) true s) = !((Lg.bytes s).all ok) := by
  rw [Lib.idxFunc, Bool.eq_iff_iff, decide_eq_true_iff, some_from hok s.size 0 (by omega), Bool.not_eq_true', List.all_eq_false]
  constructor
  · rintro ⟨j, _, h2, h3⟩
    refine ⟨_, List.getElem_mem (l := Lg.bytes s) (n := j) (by rw [Lg.bytes_len]; exact h2), ?_⟩
    rw [List.getD_eq_getElem?_getD, List.getElem?_eq_getElem (by rw [Lg.bytes_len]; exact h2)] at h3
    simpa using h3
  · rintro ⟨x, hx, h3⟩
    obtain ⟨j, hj, rfl⟩ := List.mem_iff_getElem.1 hx
    refine ⟨j, Nat.zero_le _, by rwa [Lg.bytes_len] at hj, ?_⟩
    rw [List.getD_eq_getElem?_getD, List.getElem?_eq_getElem hj]
    simpa using h3
theorem letter_far (x : Nat) (h : 128 ≤ x) : Mt.letter x = false := by
  simp [Mt.letter, Mt.small, Mt.capital, Mt.digit]; omega
theorem sign_far (x : Nat) (h : 128 ≤ x) : Mt.sign x = false := by
  simp [Mt.sign, Mt.signs]; omega
theorem allName_c (s : ByteArray) (w : World) : Calls Tryz.prog 123 #[.string s, .func (.func 124) #[] #[]] w fun e w' => e = .returned (.bool (!((Lg.bytes s).all Mt.letter))) ∧ Grew w w' := by
  have h := Tryz.strings_ContainsFunc_grows 124 #[] (enters_of Tryz.func124 (by kernel_rfl) rfl) (fun x => !(Mt.letter x)) s w (fun W x _ _ => (nameOther_c x W).mono fun e w' ⟨h1, h2⟩ => ⟨h1, h2 ▸ Below.refl _ _⟩)
  rw [idx_ok letter_far] at h
  exact h.mono fun e w' ⟨h1, h2⟩ => ⟨h1, Grew.mk h2⟩
theorem isName_head {s : ByteArray} (h : 0 < s.size) : Mt.isName (Lg.bytes s) = (Mt.small (s[0]'h).toNat && (Lg.bytes s).all Mt.letter) := by
  have hb := Lg.bytes_at s 0 h
  have hl := Lg.bytes_len s
  cases hs : Lg.bytes s with
  | nil => rw [hs] at hl; simp at hl; omega
  | cons x r =>
    rw [hs] at hb
    simp only [List.getD_cons_zero] at hb
    rw [hb]
    rfl
set_option maxRecDepth 100000 in
set_option maxHeartbeats 1000000 in
theorem isName_c (s : ByteArray) (w : World) : Calls Tryz.prog 99 #[.string s] w fun e w' => e = .returned (.bool (Mt.isName (Lg.bytes s))) ∧ Grew w w' := by
  have CC := hid (allName_c s w)
  by_cases h0 : 0 < s.size
  · have hz : (s.toList == []) = false := by
      rw [beq_eq_false_iff_ne, ByteArray.toList_eq]
      intro e
      have h2 := Lg.bytes_len s
      rw [Lg.bytes, e] at h2
      simp at h2
      omega
    have CS := hid (small_c (s[0]'h0).toNat w)
    have hu : (s[0]'h0).toNat < 256 := UInt8.toNat_lt _
    have hw : wrap32 (((s[0]'h0).toNat : Nat) : Int) = (((s[0]'h0).toNat : Nat) : Int) := by unfold wrap32; omega
    have HW := hid hw
    rw [isName_head h0]
    generalize (Lg.bytes s).all Mt.letter = q at *
    generalize hv : Mt.small (s[0]'h0).toNat = a at *
    clear hv hw hu
    cases a
    · go_enter Tryz.func99, Tryz.ntmps99
      go_wp2_with fail
      rw [HW.out]
      refine CS.out.mono ?_
      rintro e w1 ⟨rfl, rfl⟩
      go_wp2_with fail
      go_ret
      exact ⟨rfl, Grew.refl _⟩
    · go_enter Tryz.func99, Tryz.ntmps99
      go_wp2_with fail
      rw [HW.out]
      refine CS.out.mono ?_
      rintro e w1 ⟨rfl, rfl⟩
      go_wp2_with fail
      refine CC.out.mono ?_
      rintro e w1 ⟨rfl, hg⟩
      go_wp2_with fail
      go_ret
      exact ⟨by cases q <;> rfl, hg⟩
  · have hz : (s.toList == []) = true := by
      rw [beq_iff_eq, ByteArray.toList_eq]
      have h2 := Lg.bytes_len s
      rw [Lg.bytes, List.length_map] at h2
      exact List.eq_nil_of_length_eq_zero (by omega)
    have hn : Lg.bytes s = [] := List.eq_nil_of_length_eq_zero (by rw [Lg.bytes_len]; omega)
    rw [hn]
    go_enter Tryz.func99, Tryz.ntmps99
    go_wp2_with fail
    go_ret
    exact ⟨rfl, Grew.refl _⟩
end Go.Proofs.YtjladeiecokpfaaGreatDoor
namespace Go.Proofs.YtjladeiecokpfaaGreatDoor
open Go.RowKit

/-- The characters of a binary selector, as a string. -/
def signsB : ByteArray := ⟨#[43, 45, 42, 47, 92, 60, 62, 61, 126, 44]⟩
theorem encode_far (x : Nat) (h : 128 ≤ x) : ∃ n, 2 ≤ n ∧ n ≤ 4 ∧ (Utf8.encode ((x : Nat) : Int)).size = n ∧ ∃ u, (Utf8.encode ((x : Nat) : Int))[n - 1]? = some u ∧ 128 ≤ u.toNat := by
  unfold Utf8.encode
  simp only
  obtain ⟨c, hc, h2⟩ : ∃ c, c = (if Utf8.valid ((x : Nat) : Int) then ((x : Nat) : Int).toNat else Utf8.runeError) ∧ 128 ≤ c := by
    refine ⟨_, rfl, ?_⟩
    split
    · omega
    · decide
  rw [← hc, if_neg (by omega)]
  have hu : ∀ y : Nat, 128 ≤ (UInt8.ofNat (0x80 + y % 64)).toNat := fun y => by
    rw [UInt8.toNat_ofNat']; omega
  split
  · exact ⟨2, by decide, by decide, rfl, _, rfl, hu _⟩
  · split
    · exact ⟨3, by decide, by decide, rfl, _, rfl, hu _⟩
    · exact ⟨4, by decide, by decide, rfl, _, rfl, hu _⟩
theorem indexByte_not {l : List UInt8} {c : UInt8} (h : c ∉ l) : Lib.indexByte l c = -1 := by
  induction l with
  | nil => rfl
  | cons a r ih =>
    simp only [List.mem_cons, not_or] at h
    unfold Lib.indexByte
    rw [if_neg (by simpa using fun e => h.1 (by simpa using e.symm)), ih h.2]
    rfl
theorem sign_ascii : ∀ x : Nat, x < 128 → (decide (0 ≤ Lib.indexByte signsB.data.toList (x : Nat).toUInt8)) = Mt.sign x := by decide +kernel
theorem low_mem {t : ByteArray} (hl : ∀ i (h : i < t.size), (t[i]'h).toNat < 128) {u : UInt8} (hu : 128 ≤ u.toNat) (k : Nat) : Lib.indexByte (t.extract k t.size).data.toList u = -1 := by
  refine indexByte_not (fun hm => ?_)
  rw [ByteArray.data_extract, Array.toList_extract] at hm
  have hm2 : u ∈ t.data.toList := List.mem_of_mem_drop (List.mem_of_mem_take hm)
  obtain ⟨i, hi, e⟩ := List.mem_iff_getElem.1 hm2
  have := hl i (by rw [Array.length_toList] at hi; exact hi)
  have e2 : t[i]'(by rw [Array.length_toList] at hi; exact hi) = u := by rw [← e]; rfl
  rw [e2] at this
  omega
/-- One round: the last byte of a rune's bytes is not there. -/
def Far (t : ByteArray) (x : Nat) (w : World) : Prop := Calls Tryz.prog 145 #[.string t, .int .i32 ((x : Nat) : Int)] w fun e w' => e = .returned (.int .i64 (-1)) ∧ Grew w w'
set_option maxRecDepth 100000 in
set_option maxHeartbeats 1000000 in
theorem far_two (t : ByteArray) (ht : t.size = 10) (x : Nat) (h : 128 ≤ x) (h3 : x ≠ 65533) (hv : Lib.validRune ((x : Nat) : Int) = true) (s : ByteArray) (hcv : ∀ W : World, (convert 21 9 (.int .i32 ((x : Nat) : Int))).run Tryz.prog W = .ok (.string s) W) (hes : s.size = 2) (hne : (((t[1]'(by omega)).toNat : Int) != ((s[1]'(by omega)).toNat : Int)) = true) (w : World)
    (hi : Lib.indexByte (t.extract 2 t.size).data.toList (s[1]'(by omega)) = -1) : Far t x w := by
  have HV := hid (Tryz.utf8_ValidRune ((x : Nat) : Int) w)
  rw [hv] at HV
  have HI := hid (fun W => Tryz.strings_IndexByte (t.extract 2 t.size) (((s[1]'(by omega)).toNat : Nat) : Int) W)
  rw [show (((s[1]'(by omega)).toNat : Nat) : Int).toNat.toUInt8 = s[1]'(by omega) by simp, hi, ht] at HI
  have t1 : ¬ ((x : Nat) : Int) < 128 := by omega
  have t0 : (0 : Int) ≤ ((x : Nat) : Int) := by omega
  have t3 : (((x : Nat) : Int) == 65533) = false := by rw [beq_eq_false_iff_ne]; omega
  have w2 : IntKind.i64.wrap 2 = 2 := by decide
  unfold Far
  clear hv hi h h3
  go_enter Tryz.func145, Tryz.ntmps145
  go_wp2_with fail
  refine HV.out.mono ?_
  rintro e w1 ⟨rfl, rfl⟩
  go_wp2_with fail
  go_step3
  go_wp2_with fail
  refine wp_loop_rounds 2 ?_
  rw [rounds_succ]
  go_wp2_with fail
  go_step3
  go_wp2_with fail
  go_quiet (fail)
  have HG2 : Hid (Grew w1 (w1.drewN nq)) := hid (Grew.mk ⟨rfl, rfl, rfl, Nat.le_refl _, fun _ _ => rfl⟩)
  generalize w1.drewN nq = w2 at *
  go_wp2_with fail
  go_quiet (first | (go_at_call 165; refine Calls.quiet_of_same (HI.out _)))
  go_wp2_with fail
  rw [Exit.noGoto_ret]
  go_wp2_with fail
  rw [Exit.noGoto_ret]
  go_wp2_with fail
  go_ret
  exact ⟨rfl, HG2.out.trans (Grew.mk ⟨rfl, rfl, rfl, Nat.le_refl _, fun _ _ => rfl⟩)⟩
set_option maxRecDepth 100000 in
set_option maxHeartbeats 1000000 in
theorem far_three (t : ByteArray) (ht : t.size = 10) (x : Nat) (h : 128 ≤ x) (h3 : x ≠ 65533) (hv : Lib.validRune ((x : Nat) : Int) = true) (s : ByteArray) (hcv : ∀ W : World, (convert 21 9 (.int .i32 ((x : Nat) : Int))).run Tryz.prog W = .ok (.string s) W) (hes : s.size = 3) (hne : (((t[2]'(by omega)).toNat : Int) != ((s[2]'(by omega)).toNat : Int)) = true) (w : World)
    (hi : Lib.indexByte (t.extract 3 t.size).data.toList (s[2]'(by omega)) = -1) : Far t x w := by
  have HV := hid (Tryz.utf8_ValidRune ((x : Nat) : Int) w)
  rw [hv] at HV
  have HI := hid (fun W => Tryz.strings_IndexByte (t.extract 3 t.size) (((s[2]'(by omega)).toNat : Nat) : Int) W)
  rw [show (((s[2]'(by omega)).toNat : Nat) : Int).toNat.toUInt8 = s[2]'(by omega) by simp, hi, ht] at HI
  have t1 : ¬ ((x : Nat) : Int) < 128 := by omega
  have t0 : (0 : Int) ≤ ((x : Nat) : Int) := by omega
  have t3 : (((x : Nat) : Int) == 65533) = false := by rw [beq_eq_false_iff_ne]; omega
  have w2 : IntKind.i64.wrap 3 = 3 := by decide
  unfold Far
  clear hv hi h h3
  go_enter Tryz.func145, Tryz.ntmps145
  go_wp2_with fail
  refine HV.out.mono ?_
  rintro e w1 ⟨rfl, rfl⟩
  go_wp2_with fail
  go_step3
  go_wp2_with fail
  refine wp_loop_rounds 2 ?_
  rw [rounds_succ]
  go_wp2_with fail
  go_step3
  go_wp2_with fail
  go_quiet (fail)
  have HG2 : Hid (Grew w1 (w1.drewN nq)) := hid (Grew.mk ⟨rfl, rfl, rfl, Nat.le_refl _, fun _ _ => rfl⟩)
  generalize w1.drewN nq = w2 at *
  go_wp2_with fail
  go_quiet (first | (go_at_call 165; refine Calls.quiet_of_same (HI.out _)))
  go_wp2_with fail
  rw [Exit.noGoto_ret]
  go_wp2_with fail
  rw [Exit.noGoto_ret]
  go_wp2_with fail
  go_ret
  exact ⟨rfl, HG2.out.trans (Grew.mk ⟨rfl, rfl, rfl, Nat.le_refl _, fun _ _ => rfl⟩)⟩
set_option maxRecDepth 100000 in
set_option maxHeartbeats 1000000 in
theorem far_four (t : ByteArray) (ht : t.size = 10) (x : Nat) (h : 128 ≤ x) (h3 : x ≠ 65533) (hv : Lib.validRune ((x : Nat) : Int) = true) (s : ByteArray) (hcv : ∀ W : World, (convert 21 9 (.int .i32 ((x : Nat) : Int))).run Tryz.prog W = .ok (.string s) W) (hes : s.size = 4) (hne : (((t[3]'(by omega)).toNat : Int) != ((s[3]'(by omega)).toNat : Int)) = true) (w : World)
    (hi : Lib.indexByte (t.extract 4 t.size).data.toList (s[3]'(by omega)) = -1) : Far t x w := by
  have HV := hid (Tryz.utf8_ValidRune ((x : Nat) : Int) w)
  rw [hv] at HV
  have HI := hid (fun W => Tryz.strings_IndexByte (t.extract 4 t.size) (((s[3]'(by omega)).toNat : Nat) : Int) W)
  rw [show (((s[3]'(by omega)).toNat : Nat) : Int).toNat.toUInt8 = s[3]'(by omega) by simp, hi, ht] at HI
  have t1 : ¬ ((x : Nat) : Int) < 128 := by omega
  have t0 : (0 : Int) ≤ ((x : Nat) : Int) := by omega
  have t3 : (((x : Nat) : Int) == 65533) = false := by rw [beq_eq_false_iff_ne]; omega
  have w2 : IntKind.i64.wrap 4 = 4 := by decide
  unfold Far
  clear hv hi h h3
  go_enter Tryz.func145, Tryz.ntmps145
  go_wp2_with fail
  refine HV.out.mono ?_
  rintro e w1 ⟨rfl, rfl⟩
  go_wp2_with fail
  go_step3
  go_wp2_with fail
  refine wp_loop_rounds 2 ?_
  rw [rounds_succ]
  go_wp2_with fail
  go_step3
  go_wp2_with fail
  go_quiet (fail)
  have HG2 : Hid (Grew w1 (w1.drewN nq)) := hid (Grew.mk ⟨rfl, rfl, rfl, Nat.le_refl _, fun _ _ => rfl⟩)
  generalize w1.drewN nq = w2 at *
  go_wp2_with fail
  go_quiet (first | (go_at_call 165; refine Calls.quiet_of_same (HI.out _)))
  go_wp2_with fail
  rw [Exit.noGoto_ret]
  go_wp2_with fail
  rw [Exit.noGoto_ret]
  go_wp2_with fail
  go_ret
  exact ⟨rfl, HG2.out.trans (Grew.mk ⟨rfl, rfl, rfl, Nat.le_refl _, fun _ _ => rfl⟩)⟩
end Go.Proofs.YtjladeiecokpfaaGreatDoor
namespace Go.Proofs.YtjladeiecokpfaaGreatDoor
open Go.RowKit

set_option maxRecDepth 100000 in
set_option maxHeartbeats 2000000 in
theorem far_error (t : ByteArray) (ht : t.size = 10) (hd : ∀ pos, pos < 10 → ∃ d, Utf8.decode t pos = (d, 1) ∧ d < 128) (w : World) : Far t 65533 w := by
  unfold Far
  rw [show ((65533 : Nat) : Int) = 65533 from rfl]
  go_enter Tryz.func145, Tryz.ntmps145
  go_wp2_with fail
  go_loopg [5, 6] 10 (fun gf _ _ wx => ∃ pos : Nat, wx.heap[w.heap.size]? = some (.stringIter t pos) ∧ Below w.heap.size w wx ∧ t.size ≤ pos + gf)
  case atStart => exact ⟨0, World.iter_heap w t 0, (Below.refl _ w).alloc (Nat.le_refl _) _, by omega⟩
  case round =>
    obtain ⟨pos, hit, hbw, hfu⟩ := hrel
    by_cases hps : pos < t.size
    · obtain ⟨g', rfl⟩ : ∃ g', gk = g' + 1 := ⟨gk - 1, by omega⟩
      obtain ⟨d, hd1, hd2⟩ := hd pos (by omega)
      have hnx : ∀ ty, (Instr.next (.pointer (some ⟨w.heap.size, 0, none⟩)) true ty).run Tryz.prog wr = _ := fun ty => Lib.run_next_any_at wr w.heap.size t pos ty hit hps
      rw [hd1] at hnx
      have hit2 := Lib.iterAt_heap wr w.heap.size t pos (pos + 1) hit
      have hbw2 := Lib.below_iterAt hbw (k := w.heap.size) (Nat.le_refl _) t (pos + 1)
      obtain ⟨W, hWd⟩ : ∃ W, wr.iterAt w.heap.size t (pos + 1) = W := ⟨_, rfl⟩
      simp only at hnx
      rw [hWd] at hnx hit2 hbw2
      have hne : (((d : Nat) : Int) == 65533) = false := by rw [beq_eq_false_iff_ne]; omega
      clear hd
      go_wp2_with fail
      go_roundg g'
      case measure => omega
      case rel => exact ⟨pos + 1, hit2, hbw2, by omega⟩
    · have hnx : ∀ ty, (Instr.next (.pointer (some ⟨w.heap.size, 0, none⟩)) true ty).run Tryz.prog wr = _ := fun ty => Lib.run_next_end_at wr w.heap.size t pos ty hit hps
      go_wp2_with fail
      go_ret
      exact ⟨rfl, Grew.mk hbw⟩
set_option maxRecDepth 100000 in
set_option maxHeartbeats 1000000 in
theorem indexRune_far (x : Nat) (h : 128 ≤ x) (w : World) : Far signsB x w := by
  have hl : ∀ i (h : i < signsB.size), (signsB[i]'h).toNat < 128 := by decide
  by_cases h3 : x = 65533
  · subst h3
    refine far_error signsB rfl ?_ w
    intro pos hp
    have : ∀ p, p < 10 → (Utf8.decode signsB p).2 = 1 ∧ (Utf8.decode signsB p).1 < 128 := by decide +kernel
    exact ⟨_, Prod.ext rfl (this pos hp).1, (this pos hp).2⟩
  · cases hv : Lib.validRune ((x : Nat) : Int)
    · have HV := hid (Tryz.utf8_ValidRune ((x : Nat) : Int) w)
      rw [hv] at HV
      have t1 : ¬ ((x : Nat) : Int) < 128 := by omega
      have t0 : (0 : Int) ≤ ((x : Nat) : Int) := by omega
      have t3 : (((x : Nat) : Int) == 65533) = false := by rw [beq_eq_false_iff_ne]; omega
      unfold Far
      clear hl hv h h3
      generalize signsB = t
      go_enter Tryz.func145, Tryz.ntmps145
      go_wp2_with fail
      refine HV.out.mono ?_
      rintro e w1 ⟨rfl, rfl⟩
      go_wp2_with fail
      go_ret
      exact ⟨rfl, Grew.refl _⟩
    · obtain ⟨n, hn2, hn4, hes, u, hu, hu8⟩ := encode_far x h
      have hcv : ∀ W : World, (convert 21 9 (.int .i32 ((x : Nat) : Int))).run Tryz.prog W = .ok (.string (Utf8.encode ((x : Nat) : Int))) W := fun W => run_convert_int_string W _ _ _ _ (by rw [Tryz.underlying21]; rfl) Tryz.underlying9
      generalize Utf8.encode ((x : Nat) : Int) = s at *
      have key : ∀ k (h1 : k < signsB.size) (h2 : k < s.size), s[k]? = some u → (((signsB[k]'h1).toNat : Int) != ((s[k]'h2).toNat : Int)) = true ∧ Lib.indexByte (signsB.extract (k + 1) signsB.size).data.toList (s[k]'h2) = -1 := by
        intro k h1 h2 hk
        have e : s[k]'h2 = u := by
          have := hk
          rw [getElem?_pos s k h2] at this
          exact Option.some.inj this
        rw [e]
        refine ⟨?_, low_mem hl hu8 _⟩
        have := hl k h1
        rw [bne_iff_ne]
        omega
      rcases (by omega : n = 2 ∨ n = 3 ∨ n = 4) with rfl | rfl | rfl
      · obtain ⟨k1, k2⟩ := key 1 (by decide) (by omega) hu
        exact far_two signsB rfl x h h3 hv s hcv hes k1 w k2
      · obtain ⟨k1, k2⟩ := key 2 (by decide) (by omega) hu
        exact far_three signsB rfl x h h3 hv s hcv hes k1 w k2
      · obtain ⟨k1, k2⟩ := key 3 (by decide) (by omega) hu
        exact far_four signsB rfl x h h3 hv s hcv hes k1 w k2
theorem sign_c (x : Nat) (w : World) : Calls Tryz.prog 122 #[.string signsB, .int .i32 ((x : Nat) : Int)] w fun e w' => e = .returned (.bool (Mt.sign x)) ∧ Grew w w' := by
  rcases Nat.lt_or_ge x 128 with h | h
  · refine (Tryz.strings_ContainsRune_ascii signsB ((x : Nat) : Int) w (by omega) (by omega)).mono ?_
    rintro e w' ⟨rfl, rfl⟩
    refine ⟨?_, Grew.refl _⟩
    rw [← sign_ascii x h, Int.toNat_natCast]
  · have HI := hid (indexRune_far x h w)
    rw [sign_far x h]
    clear h
    generalize signsB = t at *
    go_enter Tryz.func122, Tryz.ntmps122
    go_wp2_with fail
    refine Calls.mono HI.out ?_
    rintro e w1 ⟨rfl, hg⟩
    go_wp2_with fail
    go_ret
    exact ⟨rfl, hg⟩
theorem binOther_c (x : Nat) (w : World) : Calls Tryz.prog 121 #[.int .i32 ((x : Nat) : Int)] w fun e w' => e = .returned (.bool (!(Mt.sign x))) ∧ Grew w w' := by
  have C := hid (sign_c x w)
  unfold signsB at C
  go_enter Tryz.func121, Tryz.ntmps121
  go_wp2_with fail
  refine C.out.mono ?_
  rintro e w1 ⟨rfl, hg⟩
  go_wp2_with fail
  go_ret
  exact ⟨rfl, hg⟩
theorem allSign_c (s : ByteArray) (w : World) : Calls Tryz.prog 123 #[.string s, .func (.func 121) #[] #[]] w fun e w' => e = .returned (.bool (!((Lg.bytes s).all Mt.sign))) ∧ Grew w w' := by
  have h := Tryz.strings_ContainsFunc_grows 121 #[] (enters_of Tryz.func121 (by kernel_rfl) rfl) (fun x => !(Mt.sign x)) s w (fun W x _ _ => (binOther_c x W).mono fun e w' ⟨h1, h2⟩ => ⟨h1, h2.below⟩)
  rw [idx_ok sign_far] at h
  exact h.mono fun e w' ⟨h1, h2⟩ => ⟨h1, Grew.mk h2⟩
set_option maxRecDepth 100000 in
set_option maxHeartbeats 1000000 in
theorem isBinary_c (s : ByteArray) (w : World) : Calls Tryz.prog 98 #[.string s] w fun e w' => e = .returned (.bool (Mt.isBin (Lg.bytes s))) ∧ Grew w w' := by
  have CC := hid (allSign_c s w)
  have CW := hid (within_c (s.size : Int) 1 2 w)
  unfold Mt.isBin
  rw [Lg.bytes_len]
  generalize (Lg.bytes s).all Mt.sign = q at *
  have e : (decide ((1 : Int) ≤ (s.size : Int)) && decide ((s.size : Int) ≤ 2)) = (decide (1 ≤ s.size) && decide (s.size ≤ 2)) := by
    congr 1 <;> rw [decide_eq_decide] <;> omega
  rw [e] at CW
  generalize (decide (1 ≤ s.size) && decide (s.size ≤ 2)) = a at *
  clear e
  cases a
  · go_enter Tryz.func98, Tryz.ntmps98
    go_wp2_with fail
    refine CW.out.mono ?_
    rintro e w1 ⟨rfl, rfl⟩
    go_wp2_with fail
    go_ret
    exact ⟨rfl, Grew.refl _⟩
  · go_enter Tryz.func98, Tryz.ntmps98
    go_wp2_with fail
    refine CW.out.mono ?_
    rintro e w1 ⟨rfl, rfl⟩
    go_wp2_with fail
    refine CC.out.mono ?_
    rintro e w1 ⟨rfl, hg⟩
    go_wp2_with fail
    go_ret
    exact ⟨by cases q <;> rfl, hg⟩
end Go.Proofs.YtjladeiecokpfaaGreatDoor

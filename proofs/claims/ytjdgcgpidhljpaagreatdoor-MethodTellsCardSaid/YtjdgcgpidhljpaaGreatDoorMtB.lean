/- Stage 9: isName, ContainsRune, isBinary. -/
import Derived.Test.YtjdgcgpidhljpaaGreatDoorMtA
import Derived.Test.YtjdgcgpidhljpaaGreatDoorYLgM
namespace Go.Proofs.YtjdgcgpidhljpaaGreatDoor
open Go.RowKit

theorem decode_far (s : ByteArray) (pos : Nat) (h : pos < s.size) (ha : ¬ (s[pos]'h).toNat < 128) : 128 ≤ (Utf8.decode s pos).1 := by
  have e : s.get! (pos + 0) = s[pos]'h := by
    show s.get! pos = _
    simp [ByteArray.get!, getElem!_pos, h]
    rfl
  unfold Utf8.decode
  simp only [e]
  rw [if_neg ha]
  split
  · split
    · rename_i h2; exact h2
    · decide
  · split
    · split
      · rename_i h2; simp only [Bool.and_eq_true, decide_eq_true_eq] at h2; omega
      · decide
    · split
      · split
        · rename_i h2; simp only [Bool.and_eq_true, decide_eq_true_eq] at h2; omega
        · decide
      · decide
theorem some_from {ok : Nat → Bool} (hok : ∀ x, 128 ≤ x → ok x = false) {s : ByteArray} : ∀ (f pos : Nat), s.size ≤ pos + f → (0 ≤ Lib.idxFuncFrom (fun x => !(ok x)) true s f pos ↔ ∃ j, pos ≤ j ∧ j < s.size ∧ ok ((Lg.bytes s).getD j 0) = false)
  | 0, pos, h => by
    constructor
    · intro h2; simp [Lib.idxFuncFrom] at h2
    · rintro ⟨j, h1, h2, _⟩; omega
  | f + 1, pos, h => by
    unfold Lib.idxFuncFrom
    by_cases hp : pos < s.size
    · rw [if_pos hp]
      have hb := Lg.bytes_at s pos hp
      by_cases ha : (s[pos]'hp).toNat < 128
      · rw [decode_ascii s pos hp ha, hb]
        cases hd : ok ((Lg.bytes s).getD pos 0)
        · rw [if_pos (by rfl)]
          exact ⟨fun _ => ⟨pos, Nat.le_refl _, hp, hd⟩, fun _ => Int.natCast_nonneg _⟩
        · rw [if_neg (by decide), some_from hok f (pos + 1) (by omega)]
          constructor
          · rintro ⟨j, h1, h2, h3⟩; exact ⟨j, by omega, h2, h3⟩
          · rintro ⟨j, h1, h2, h3⟩
            refine ⟨j, ?_, h2, h3⟩
            rcases Nat.eq_or_lt_of_le h1 with h4 | h4
            · subst h4; rw [hd] at h3; cases h3
            · exact h4
      · have h1 := decode_far s pos hp ha
        rw [if_pos (by simp only [hok _ h1]; rfl)]
        refine ⟨fun _ => ⟨pos, Nat.le_refl _, hp, hok _ ?_⟩, fun _ => Int.natCast_nonneg _⟩
        rw [hb] at ha
        omega
    · rw [if_neg hp]
      constructor
      · intro h2; omega
      · rintro ⟨j, h1, h2, _⟩; omega
theorem idx_ok {ok : Nat → Bool} (hok : ∀ x, 128 ≤ x → ok x = false) (s : ByteArray) : decide (0 ≤ Lib.idxFunc (fun x => !(ok x)) true s) = !((Lg.bytes s).all ok) := by
  rw [Lib.idxFunc, Bool.eq_iff_iff, decide_eq_true_iff, some_from hok s.size 0 (by omega), Bool.not_eq_true', List.all_eq_false]
  constructor
  · rintro ⟨j, _, h2, h3⟩
    refine ⟨_, List.getElem_mem (l := Lg.bytes s) (n := j) (by rw [Lg.bytes_len]; exact h2), ?_⟩
    rw [List.getD_eq_getElem?_getD, List.getElem?_eq_getElem (by rw [Lg.bytes_len]; exact h2)] at h3
    simpa using h3
  · rintro ⟨x, hx, h3⟩
    obtain ⟨j, hj, rfl⟩ := List.mem_iff_getElem.1 hx
    refine ⟨j, Nat.zero_le _, by rwa [Lg.bytes_len] at hj, ?_⟩
    rw [List.getD_eq_getElem?_getD, List.getElem?_eq_getElem hj]
    simpa using h3
theorem letter_far (x : Nat) (h : 128 ≤ x) : Mt.letter x = false := by
  simp [Mt.letter, Mt.small, Mt.capital, Mt.digit]; omega
theorem sign_far (x : Nat) (h : 128 ≤ x) : Mt.sign x = false := by
  simp [Mt.sign, Mt.signs]; omega
theorem allName_c (s : ByteArray) (w : World) : Calls Tryz.prog 91 #[.string s, .func (.func 92) #[] #[]] w fun e w' => e = .returned (.bool (!((Lg.bytes s).all Mt.letter))) ∧ Grew w w' := by
  have h := Tryz.strings_ContainsFunc_grows 92 #[] (enters_of Tryz.func92 (by kernel_rfl) rfl) (fun x => !(Mt.letter x)) s w (fun W x _ _ => (nameOther_c x W).mono fun e w' ⟨h1, h2⟩ => ⟨h1, h2 ▸ Below.refl _ _⟩)
  rw [idx_ok letter_far] at h
  exact h.mono fun e w' ⟨h1, h2⟩ => ⟨h1, Grew.mk h2⟩
theorem isName_head {s : ByteArray} (h : 0 < s.size) : Mt.isName (Lg.bytes s) = (Mt.small (s[0]'h).toNat && (Lg.bytes s).all Mt.letter) := by
  have hb := Lg.bytes_at s 0 h
  have hl := Lg.bytes_len s
  cases hs : Lg.bytes s with
  | nil => rw [hs] at hl; simp at hl; omega
  | cons x r =>
    rw [hs] at hb
    simp only [List.getD_cons_zero] at hb
    rw [hb]
    rfl
set_option maxRecDepth 100000 in
set_option maxHeartbeats 1000000 in
theorem isName_c (s : ByteArray) (w : World) : Calls Tryz.prog 49 #[.string s] w fun e w' => e = .returned (.bool (Mt.isName (Lg.bytes s))) ∧ Grew w w' := by
  have CC := hid (allName_c s w)
  by_cases h0 : 0 < s.size
  · have hz : (s.toList == []) = false := by
      rw [beq_eq_false_iff_ne, ByteArray.toList_eq]
      intro e
      have h2 := Lg.bytes_len s
      rw [Lg.bytes, e] at h2
      simp at h2
      omega
    have CS := hid (small_c (s[0]'h0).toNat w)
    have hu : (s[0]'h0).toNat < 256 := UInt8.toNat_lt _
    have hw : wrap32 (((s[0]'h0).toNat : Nat) : Int) = (((s[0]'h0).toNat : Nat) : Int) := by unfold wrap32; omega
    have HW := hid hw
    rw [isName_head h0]
    generalize (Lg.bytes s).all Mt.letter = q at *
    generalize hv : Mt.small (s[0]'h0).toNat = a at *
    clear hv hw hu
    cases a
    · go_enter Tryz.func49, Tryz.ntmps49
      go_wp2_with fail
      rw [HW.out]
      refine CS.out.mono ?_
      rintro e w1 ⟨rfl, rfl⟩
      go_wp2_with fail
      go_ret
      exact ⟨rfl, Grew.refl _⟩
    · go_enter Tryz.func49, Tryz.ntmps49
      go_wp2_with fail
      rw [HW.out]
      refine CS.out.mono ?_
      rintro e w1 ⟨rfl, rfl⟩
      go_wp2_with fail
      refine CC.out.mono ?_
      rintro e w1 ⟨rfl, hg⟩
      go_wp2_with fail
      go_ret
      exact ⟨by cases q <;> rfl, hg⟩
  · have hz : (s.toList == []) = true := by
      rw [beq_iff_eq, ByteArray.toList_eq]
      have h2 := Lg.bytes_len s
      rw [Lg.bytes, List.length_map] at h2
      exact List.eq_nil_of_length_eq_zero (by omega)
    have hn : Lg.bytes s = [] := List.eq_nil_of_length_eq_zero (by rw [Lg.bytes_len]; omega)
    rw [hn]
    go_enter Tryz.func49, Tryz.ntmps49
    go_wp2_with fail
    go_ret
    exact ⟨rfl, Grew.refl _⟩
end Go.Proofs.YtjdgcgpidhljpaaGreatDoor

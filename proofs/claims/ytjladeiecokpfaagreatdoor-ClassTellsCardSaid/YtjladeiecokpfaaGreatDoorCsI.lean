/- Stage 10: isName, isVar. -/
import Derived.Test.YtjladeiecokpfaaGreatDoorCsH
import Derived.Test.YtjladeiecokpfaaGreatDoorClQ
import Derived.Test.YtjladeiecokpfaaGreatDoorShelf
import Derived.Shelf.Strings.SlTrimAscii
import Derived.Lib.IndexAny
namespace Go.Proofs.YtjladeiecokpfaaGreatDoor
open Go.RowKit

theorem drop_all {α : Type} {p : α → Bool} : ∀ {l : List α}, l.dropWhile p = [] → l.all p = true
  | [], _ => rfl
  | x :: r, h => by
    rw [List.dropWhile_cons] at h
    split at h
    · rename_i hx
      rw [List.all_cons, hx, drop_all h]
      rfl
    · cases h
theorem all_drop {α : Type} {p : α → Bool} : ∀ {l : List α}, l.all p = true → l.dropWhile p = []
  | [], _ => rfl
  | x :: r, h => by
    rw [List.all_cons, Bool.and_eq_true] at h
    rw [List.dropWhile_cons, if_pos h.1, all_drop h.2]
theorem drop_head {α : Type} {p : α → Bool} : ∀ {l : List α} {x : α} {r : List α}, l.dropWhile p = x :: r → p x = false
  | [], _, _, h => by cases h
  | y :: l, x, r, h => by
    rw [List.dropWhile_cons] at h
    split at h
    · exact drop_head h
    · rename_i hy
      cases h
      simpa using hy
/-- Nothing is left just if there is nothing else. -/
theorem trim_nil (l cs : List UInt8) : Lib.trimS l cs = [] ↔ l.all (cs.contains ·) = true := by
  unfold Lib.trimS Lib.trimLeftS Lib.trimRightS
  constructor
  · intro h
    have h1 := drop_all h
    cases hd : l.reverse.dropWhile (cs.contains ·) with
    | nil => simpa using drop_all hd
    | cons x r =>
      have h2 := drop_head hd
      rw [hd, List.all_reverse, List.all_cons, h2] at h1
      cases h1
  · intro h
    have h1 : l.reverse.all (cs.contains ·) = true := by rw [List.all_reverse]; exact h
    rw [all_drop h1]
    rfl
def capitalsB : ByteArray := ⟨#[65, 66, 67, 68, 69, 70, 71, 72, 73, 74, 75, 76, 77, 78, 79, 80, 81, 82, 83, 84, 85, 86, 87, 88, 89, 90]⟩
def smallsB : ByteArray := ⟨#[97, 98, 99, 100, 101, 102, 103, 104, 105, 106, 107, 108, 109, 110, 111, 112, 113, 114, 115, 116, 117, 118, 119, 120, 121, 122]⟩
def lettersB : ByteArray := ⟨#[65, 66, 67, 68, 69, 70, 71, 72, 73, 74, 75, 76, 77, 78, 79, 80, 81, 82, 83, 84, 85, 86, 87, 88, 89, 90, 97, 98, 99, 100, 101, 102, 103, 104, 105, 106, 107, 108, 109, 110, 111, 112, 113, 114, 115, 116, 117, 118, 119, 120, 121, 122, 48, 49, 50, 51, 52, 53, 54, 55, 56, 57]⟩
theorem byte_all {p : UInt8 → Bool} (h : ∀ n, n < 256 → p (UInt8.ofNat n) = true) (c : UInt8) : p c = true := by
  have := h c.toNat (UInt8.toNat_lt c)
  rwa [UInt8.ofNat_toNat] at this
theorem letters_at (c : UInt8) : lettersB.data.toList.contains c = Mt.letter c.toNat := by
  have := byte_all (p := fun c => lettersB.data.toList.contains c == Mt.letter c.toNat) (by decide +kernel) c
  simpa using this
theorem capitals_at (c : UInt8) : decide (0 ≤ Lib.indexByte capitalsB.data.toList c) = (decide (65 ≤ c.toNat) && decide (c.toNat ≤ 90)) := by
  have := byte_all (p := fun c => capitalsB.data.toList.contains c == (decide (65 ≤ c.toNat) && decide (c.toNat ≤ 90))) (by decide +kernel) c
  rw [← Lib.contains_iff_indexByte]
  simpa using this
theorem smalls_at (c : UInt8) : decide (0 ≤ Lib.indexByte smallsB.data.toList c) = (decide (97 ≤ c.toNat) && decide (c.toNat ≤ 122)) := by
  have := byte_all (p := fun c => smallsB.data.toList.contains c == (decide (97 ≤ c.toNat) && decide (c.toNat ≤ 122))) (by decide +kernel) c
  rw [← Lib.contains_iff_indexByte]
  simpa using this
theorem nameOk_out {lo hi : Nat} {s : ByteArray} (h : ¬ (1 ≤ s.size ∧ s.size ≤ 32)) : Cs.nameOk lo hi s = false := by
  unfold Cs.nameOk
  have hl := Pk.natsOf_len s
  cases hn : Pk.natsOf s with
  | nil => rfl
  | cons x r =>
    rw [hn] at hl
    simp only
    have : decide ((x :: r).length ≤ 32) = false := decide_eq_false (by rw [List.length_cons] at hl ⊢; omega)
    rw [this]
    simp
theorem nameOk_in {lo hi : Nat} {s : ByteArray} (h1 : 1 ≤ s.size) (h2 : s.size ≤ 32) : Cs.nameOk lo hi s = ((decide (lo ≤ (s[0]'h1).toNat) && decide ((s[0]'h1).toNat ≤ hi)) && (s.data.toList.all fun c => Mt.letter c.toNat)) := by
  have h0 : (s[0]'h1).toNat = (Pk.natsOf s).getD 0 0 := Lg.bytes_at s 0 h1
  rw [h0, show (s.data.toList.all fun c => Mt.letter c.toNat) = (Pk.natsOf s).all Mt.letter by unfold Pk.natsOf; rw [List.all_map]; rfl]
  unfold Cs.nameOk
  have hl := Pk.natsOf_len s
  cases hn : Pk.natsOf s with
  | nil => rw [hn, List.length_nil] at hl; omega
  | cons x r =>
    rw [hn] at hl
    simp only
    have : decide ((x :: r).length ≤ 32) = true := decide_eq_true (by omega)
    rw [this, Bool.and_true]
    rfl
theorem extract_one {s : ByteArray} (h : 0 < s.size) : s.extract 0 1 = ⟨#[s[0]'h]⟩ := by
  have h' : 0 < s.data.size := h
  have e : (s.extract 0 1).data = s.data.extract 0 1 := by simp
  apply ByteArray.ext
  rw [e]
  apply Array.ext
  · simp; omega
  · intro i h1 h2
    have : i = 0 := by simp at h2; omega
    subst this
    simp
    rfl
set_option maxRecDepth 100000 in
set_option maxHeartbeats 2000000 in
theorem cisName_c (s first : ByteArray) (lo hi : Nat) (hf : ∀ c : UInt8, decide (0 ≤ Lib.indexByte first.data.toList c) = (decide (lo ≤ c.toNat) && decide (c.toNat ≤ hi))) (hs : s.size ≤ 1000000) (w : World) :
    Calls Tryz.prog 72 #[.string s, .string first] w fun e w' => e = .returned (.bool (Cs.nameOk lo hi s)) ∧ Grew w w' := by
  have HW := hid (cwithin_c ((s.size : Nat) : Int) 1 32)
  by_cases h0 : 1 ≤ s.size ∧ s.size ≤ 32
  · obtain ⟨h1, h2⟩ := h0
    have HC := hid (Tryz.strings_Contains_one first (s[0]'h1))
    rw [hf] at HC
    have HT := hid (fun w' => Any.strings_Trim_laid Tryz.lays160 (by kernel_rfl) s lettersB w' (by omega) (by decide) (ascii_of_all (by decide +kernel)))
    have HN := hid (nameOk_in (lo := lo) (hi := hi) h1 h2)
    have hx : s.extract 0 1 = ⟨#[s[0]'h1]⟩ := extract_one h1
    rw [show (decide ((1 : Int) ≤ ((s.size : Nat) : Int)) && decide (((s.size : Nat) : Int) ≤ 32)) = true by rw [decide_eq_true (by omega), decide_eq_true (by omega)]; rfl] at HW
    obtain ⟨r, hr⟩ : ∃ r : ByteArray, r = ⟨(Lib.trimS s.data.toList lettersB.data.toList).toArray⟩ := ⟨_, rfl⟩
    have hz : (r.toList == []) = s.data.toList.all fun c => Mt.letter c.toNat := by
      rw [Bool.eq_iff_iff, beq_iff_eq, ByteArray.toList_eq, hr]
      show Lib.trimS s.data.toList lettersB.data.toList = [] ↔ _
      rw [trim_nil]
      rw [show (fun c : UInt8 => Mt.letter c.toNat) = fun c => lettersB.data.toList.contains c from funext fun c => (letters_at c).symm]
    rw [← hr] at HT
    have f1 : (1 : Int) ≤ ((s.size : Nat) : Int) := by omega
    clear hr hf
    unfold lettersB at HT
    rw [HN.out]
    clear HN
    generalize (s.data.toList.all fun c => Mt.letter c.toNat) = q at *
    generalize (decide (lo ≤ (s[0]'h1).toNat) && decide ((s[0]'h1).toNat ≤ hi)) = p at *
    generalize (s[0]'h1) = c at *
    cases p
    · go_enter Tryz.func72, Tryz.ntmps72
      go_wp2_with fail
      refine (HW.out _).mono ?_
      rintro e w1 ⟨rfl, rfl⟩
      go_wp2_with fail
      refine (HC.out _).mono ?_
      rintro e w2 ⟨rfl, rfl⟩
      go_wp2_with fail
      go_ret
      exact ⟨rfl, Grew.refl _⟩
    · go_enter Tryz.func72, Tryz.ntmps72
      go_wp2_with fail
      refine (HW.out _).mono ?_
      rintro e w1 ⟨rfl, rfl⟩
      go_wp2_with fail
      refine (HC.out _).mono ?_
      rintro e w2 ⟨rfl, rfl⟩
      go_wp2_with fail
      refine (HT.out _).mono ?_
      rintro e w3 ⟨rfl, hg3⟩
      have HG3 := hid (Grew.mk hg3)
      clear hg3
      go_wp2_with fail
      go_ret
      exact ⟨rfl, HG3.out⟩
  · have HN := hid (nameOk_out (lo := lo) (hi := hi) h0)
    rw [show (decide ((1 : Int) ≤ ((s.size : Nat) : Int)) && decide (((s.size : Nat) : Int) ≤ 32)) = false by
      rw [Bool.eq_false_iff]
      intro hc
      rw [Bool.and_eq_true, decide_eq_true_iff, decide_eq_true_iff] at hc
      omega] at HW
    rw [HN.out]
    clear h0 hf HN
    go_enter Tryz.func72, Tryz.ntmps72
    go_wp2_with fail
    refine (HW.out _).mono ?_
    rintro e w1 ⟨rfl, rfl⟩
    go_wp2_with fail
    go_ret
    exact ⟨rfl, Grew.refl _⟩
end Go.Proofs.YtjladeiecokpfaaGreatDoor

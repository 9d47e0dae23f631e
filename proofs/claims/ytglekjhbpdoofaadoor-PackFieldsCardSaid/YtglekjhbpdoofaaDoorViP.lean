/- Plain mathematics of signed LEB128: the bytes of a number, the number of bytes. No program is named here. -/
import Derived.Test.YtglekjhbpdoofaaDoorBase
namespace Go.Proofs.YtglekjhbpdoofaaDoor.Vi
open Go.RowKit

/-- A number of 64 bits. -/
def I64 (n : Int) : Prop := -9223372036854775808 ≤ n ∧ n ≤ 9223372036854775807
/-- At most 'f + 1' groups of seven bits, the sign counted. -/
def Fits (f : Nat) (n : Int) : Prop := -(64 * 128 ^ f) ≤ n ∧ n < 64 * 128 ^ f
/-- The bytes of a number, at most 'f + 1' of them. -/
def encF : Nat → Int → List Nat
  | 0, n => [(n % 128).toNat]
  | f + 1, n => if -64 ≤ n ∧ n < 64 then [(n % 128).toNat] else (n % 128 + 128).toNat :: encF f (n / 128)
def enc (n : Int) : List Nat := encF 9 n
/-- The number of bytes, the last group signed. -/
def sval : List Nat → Int
  | [] => 0
  | [x] => if x % 128 < 64 then ((x % 128 : Nat) : Int) else ((x % 128 : Nat) : Int) - 128
  | x :: y :: r => ((x % 128 : Nat) : Int) + 128 * sval (y :: r)
/-- All bytes but the last one have 128 added. -/
def Sh : List Nat → Prop
  | [] => False
  | [x] => x < 128
  | x :: y :: r => 128 ≤ x ∧ x < 256 ∧ Sh (y :: r)

theorem fits_zero {n : Int} : Fits 0 n ↔ -64 ≤ n ∧ n < 64 := by unfold Fits; simp
theorem fits_succ {f : Nat} {n : Int} (h : Fits (f + 1) n) : Fits f (n / 128) := by
  unfold Fits at h ⊢
  rw [Int.pow_succ] at h
  generalize (128 : Int) ^ f = p at *
  omega
theorem fits_nine {n : Int} (h : I64 n) : Fits 9 n := by
  unfold I64 at h; unfold Fits
  rw [show (128 : Int) ^ 9 = 9223372036854775808 by decide]
  omega

theorem encF_low {n : Int} (f : Nat) (h : -64 ≤ n ∧ n < 64) : encF f n = [(n % 128).toNat] := by
  cases f with
  | zero => rfl
  | succ f => unfold encF; rw [if_pos h]
theorem encF_high {n : Int} (f : Nat) (h : ¬ (-64 ≤ n ∧ n < 64)) : encF (f + 1) n = (n % 128 + 128).toNat :: encF f (n / 128) := by
  conv => lhs; unfold encF
  rw [if_neg h]
theorem encF_ne (f : Nat) (n : Int) : encF f n ≠ [] := by
  cases f <;> unfold encF
  · simp
  · split <;> simp
theorem encF_len (f : Nat) (n : Int) : 1 ≤ (encF f n).length ∧ (encF f n).length ≤ f + 1 := by
  induction f generalizing n with
  | zero => simp [encF]
  | succ f ih =>
    unfold encF
    split
    · simp
    · have := ih (n / 128)
      simp only [List.length_cons]
      omega
theorem sh_cons {x : Nat} {l : List Nat} (hx : 128 ≤ x) (hx2 : x < 256) (h : Sh l) : Sh (x :: l) := by
  cases l with
  | nil => exact absurd h (by simp [Sh])
  | cons y r => exact ⟨hx, hx2, h⟩
theorem sval_cons {x : Nat} {l : List Nat} (h : l ≠ []) : sval (x :: l) = ((x % 128 : Nat) : Int) + 128 * sval l := by
  cases l with
  | nil => exact absurd rfl h
  | cons y r => rfl
theorem encF_sh {f : Nat} {n : Int} (h : Fits f n) : Sh (encF f n) := by
  induction f generalizing n with
  | zero => show (n % 128).toNat < 128; omega
  | succ f ih =>
    by_cases hn : -64 ≤ n ∧ n < 64
    · rw [encF_low _ hn]; show (n % 128).toNat < 128; omega
    · rw [encF_high _ hn]
      exact sh_cons (by omega) (by omega) (ih (fits_succ h))
theorem sval_one {n : Int} (h : -64 ≤ n ∧ n < 64) : sval [(n % 128).toNat] = n := by
  unfold sval
  have : (n % 128).toNat % 128 = (n % 128).toNat := by omega
  rw [this]
  split <;> omega
theorem sval_encF {f : Nat} {n : Int} (h : Fits f n) : sval (encF f n) = n := by
  induction f generalizing n with
  | zero => exact sval_one (fits_zero.1 h)
  | succ f ih =>
    by_cases hn : -64 ≤ n ∧ n < 64
    · rw [encF_low _ hn]; exact sval_one hn
    · rw [encF_high _ hn, sval_cons (encF_ne _ _), ih (fits_succ h)]
      omega
theorem encF_byte (f : Nat) (n : Int) : ∀ x ∈ encF f n, x < 256 := by
  induction f generalizing n with
  | zero => intro x hx; simp [encF] at hx; omega
  | succ f ih =>
    intro x hx
    unfold encF at hx
    split at hx
    · simp at hx; omega
    · rcases List.mem_cons.1 hx with rfl | hx
      · omega
      · exact ih _ x hx
theorem enc_byte (n : Int) : ∀ x ∈ enc n, x < 256 := encF_byte 9 n
theorem enc_len (n : Int) : 1 ≤ (enc n).length ∧ (enc n).length ≤ 10 := encF_len 9 n
theorem enc_sh {n : Int} (h : I64 n) : Sh (enc n) := encF_sh (fits_nine h)
theorem sval_enc {n : Int} (h : I64 n) : sval (enc n) = n := sval_encF (fits_nine h)
theorem enc_inj {n m : Int} (hn : I64 n) (hm : I64 m) (h : enc n = enc m) : n = m := by rw [← sval_enc hn, ← sval_enc hm, h]

/-- The value as a number of 64 bits. -/
def val (l : List Nat) : Int := wrap64 (sval l)
theorem val_enc {n : Int} (h : I64 n) : val (enc n) = n := by
  unfold val
  rw [sval_enc h]
  exact IntWalk.wrap64_in n h

/-- What of the first 'f' bytes goes as far as the first one below 128. -/
def cut : Nat → List Nat → Option (List Nat)
  | 0, _ => none
  | _ + 1, [] => none
  | f + 1, x :: r => if x < 128 then some [x] else (cut f r).map (x :: ·)
theorem cut_low {f x : Nat} {r : List Nat} (h : x < 128) : cut (f + 1) (x :: r) = some [x] := by unfold cut; rw [if_pos h]
theorem cut_high {f x : Nat} {r : List Nat} (h : 128 ≤ x) : cut (f + 1) (x :: r) = (cut f r).map (x :: ·) := by
  conv => lhs; unfold cut
  rw [if_neg (by omega)]
theorem cut_sh : ∀ (f : Nat) (l r : List Nat), Sh l → l.length ≤ f → cut f (l ++ r) = some l
  | 0, l, r, h, hl => by cases l with | nil => exact absurd h (by simp [Sh]) | cons x l => simp at hl
  | f + 1, [], r, h, _ => absurd h (by simp [Sh])
  | f + 1, [x], r, h, _ => cut_low h
  | f + 1, x :: y :: l, r, h, hl => by
    show cut (f + 1) (x :: ((y :: l) ++ r)) = _
    rw [cut_high h.1, cut_sh f (y :: l) r h.2.2 (by simpa using hl)]
    rfl
theorem cut_prefix : ∀ (f : Nat) (b l : List Nat), cut f b = some l → l <+: b
  | 0, b, l, h => by simp [cut] at h
  | f + 1, [], l, h => by simp [cut] at h
  | f + 1, x :: r, l, h => by
    by_cases hx : x < 128
    · rw [cut_low hx] at h
      obtain rfl := (Option.some.inj h).symm
      exact ⟨r, rfl⟩
    · rw [cut_high (by omega)] at h
      obtain ⟨l', h1, rfl⟩ := Option.map_eq_some_iff.1 h
      obtain ⟨t, ht⟩ := cut_prefix f r l' h1
      exact ⟨t, by rw [List.cons_append, ht]⟩
theorem cut_all : ∀ (f : Nat) (b : List Nat), (∀ x ∈ b, 128 ≤ x) → cut f b = none
  | 0, b, _ => rfl
  | f + 1, [], _ => rfl
  | f + 1, x :: r, h => by
    rw [cut_high (h x (by simp)), cut_all f r (fun y hy => h y (by simp [hy]))]
    rfl
theorem sh_front : ∀ (l : List Nat), Sh l → ∀ x ∈ l.take (l.length - 1), 128 ≤ x
  | [], h => absurd h (by simp [Sh])
  | [x], _ => by simp
  | x :: y :: r, h => by
    intro z hz
    have e : (x :: y :: r).take ((x :: y :: r).length - 1) = x :: (y :: r).take ((y :: r).length - 1) := by simp
    rw [e] at hz
    rcases List.mem_cons.1 hz with rfl | hz
    · exact h.1
    · exact sh_front (y :: r) h.2.2 z hz

/-- The encoding that bytes begin with, or nothing. -/
def getL (b : List Nat) : List Nat := match cut 10 b with
  | none => []
  | some l => if enc (val l) = l then l else []
def getN (b : List Nat) : Int := if getL b = [] then 0 else val (getL b)
def getE (b : List Nat) : Nat := if getL b = [] then 2 else 0
theorem getL_none {b : List Nat} (h : cut 10 b = none) : getL b = [] := by unfold getL; rw [h]
theorem getL_yes {b l : List Nat} (h : cut 10 b = some l) (he : enc (val l) = l) : getL b = l := by unfold getL; rw [h]; exact if_pos he
theorem getL_no {b l : List Nat} (h : cut 10 b = some l) (he : enc (val l) ≠ l) : getL b = [] := by unfold getL; rw [h]; exact if_neg he
theorem getL_enc {n : Int} (h : I64 n) (r : List Nat) : getL (enc n ++ r) = enc n := by
  have h1 := cut_sh 10 (enc n) r (enc_sh h) (enc_len n).2
  exact getL_yes h1 (by rw [val_enc h])
theorem enc_ne (n : Int) : enc n ≠ [] := encF_ne 9 n
theorem getN_enc {n : Int} (h : I64 n) (r : List Nat) : getN (enc n ++ r) = n := by
  unfold getN
  rw [getL_enc h, if_neg (enc_ne n), val_enc h]
theorem getE_enc {n : Int} (h : I64 n) (r : List Nat) : getE (enc n ++ r) = 0 := by
  unfold getE
  rw [getL_enc h, if_neg (enc_ne n)]
theorem getL_short {n : Int} (h : I64 n) : getL ((enc n).take ((enc n).length - 1)) = [] := getL_none (cut_all _ _ (sh_front _ (enc_sh h)))
/-- Whoever has a number that is the right one wherever there is one finds the encoding, or none, by looking for that number's. -/
theorem getL_found {b : List Nat} {v : Int} (hv : I64 v) (h : enc v <+: b) : getL b = enc v := by
  obtain ⟨t, rfl⟩ := h
  exact getL_enc hv t
theorem getL_lost {b : List Nat} {v : Int} (hb : ∀ l, cut 10 b = some l → v = val l) (h : ¬ enc v <+: b) : getL b = [] := by
  cases hc : cut 10 b with
  | none => exact getL_none hc
  | some l =>
    by_cases he : enc (val l) = l
    · exact absurd (by rw [hb l hc, he]; exact cut_prefix _ _ _ hc) h
    · exact getL_no hc he

/-- How many bytes a number has. -/
theorem encF_span {f : Nat} {n : Int} (h : Fits f n) : Fits ((encF f n).length - 1) n ∧ (1 < (encF f n).length → ¬ Fits ((encF f n).length - 2) n) := by
  induction f generalizing n with
  | zero => exact ⟨h, fun h1 => by simp [encF] at h1⟩
  | succ f ih =>
    by_cases hn : -64 ≤ n ∧ n < 64
    · rw [encF_low _ hn]
      exact ⟨fits_zero.2 hn, fun h1 => by simp at h1⟩
    · rw [encF_high _ hn]
      have := ih (fits_succ h)
      have hl := encF_len f (n / 128)
      simp only [List.length_cons]
      generalize (encF f (n / 128)).length = k at *
      obtain ⟨j, rfl⟩ : ∃ j, k = j + 1 := ⟨k - 1, by omega⟩
      refine ⟨?_, fun _ => ?_⟩
      · have h1 := this.1
        unfold Fits at h1 ⊢
        rw [show j + 1 - 1 = j by omega] at h1
        rw [show j + 1 + 1 - 1 = j + 1 by omega, Int.pow_succ]
        generalize (128 : Int) ^ j = p at *
        omega
      · cases j with
        | zero => exact fun h2 => hn (fits_zero.1 h2)
        | succ j =>
          have h1 := this.2 (by omega)
          intro h2
          apply h1
          unfold Fits at h2 ⊢
          rw [show j + 1 + 1 - 2 = j by omega]
          rw [show j + 1 + 1 + 1 - 2 = j + 1 by omega, Int.pow_succ] at h2
          generalize (128 : Int) ^ j = p at *
          omega
end Go.Proofs.YtglekjhbpdoofaaDoor.Vi

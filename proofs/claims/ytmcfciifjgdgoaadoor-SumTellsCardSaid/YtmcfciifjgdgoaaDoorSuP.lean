/- Plain mathematics of Adler-32: the checksum of bytes, bytes with theirs behind, and what one other byte or two that change places do. No program is named here. -/
import Derived.Test.YtmcfciifjgdgoaaDoorBase
namespace Go.Proofs.YtmcfciifjgdgoaaDoor.Su
open Go.RowKit

/-- One byte more. -/
def st (s : Nat × Nat) (c : Nat) : Nat × Nat := ((s.1 + c) % 65521, (s.2 + (s.1 + c) % 65521) % 65521)
/-- The two halves behind the bytes. -/
def run (s : Nat × Nat) (l : List Nat) : Nat × Nat := l.foldl st s
def one : Nat × Nat := (1, 0)
/-- The checksum of bytes. -/
def sum (l : List Nat) : Nat := (run one l).2 * 65536 + (run one l).1
/-- A checksum's four bytes. -/
def tail (s : Nat) : List Nat := [s / 16777216 % 256, s / 65536 % 256, s / 256 % 256, s % 256]
/-- Bytes with their checksum behind. -/
def seald (l : List Nat) : List Nat := l ++ tail (sum l)
/-- What is in front of the last four bytes. -/
def body (l : List Nat) : List Nat := l.take (l.length - 4)
/-- The number of the error. -/
def openE (l : List Nat) : Nat := if l.length < 4 then 2 else if seald (body l) = l then 0 else 5
def openL (l : List Nat) : List Nat := if openE l = 0 then body l else []

def Ok (s : Nat × Nat) : Prop := s.1 < 65521 ∧ s.2 < 65521
theorem one_ok : Ok one := ⟨by decide, by decide⟩
theorem st_ok (s : Nat × Nat) (c : Nat) : Ok (st s c) := ⟨Nat.mod_lt _ (by decide), Nat.mod_lt _ (by decide)⟩
theorem run_ok {s : Nat × Nat} (h : Ok s) (l : List Nat) : Ok (run s l) := by
  induction l generalizing s with
  | nil => exact h
  | cons c l ih => exact ih (st_ok s c)
theorem run_nil (s : Nat × Nat) : run s [] = s := rfl
theorem run_cons (s : Nat × Nat) (c : Nat) (l : List Nat) : run s (c :: l) = run (st s c) l := rfl
theorem run_append (s : Nat × Nat) (l m : List Nat) : run s (l ++ m) = run (run s l) m := List.foldl_append ..
theorem run_snoc (s : Nat × Nat) (l : List Nat) (c : Nat) : run s (l ++ [c]) = st (run s l) c := by rw [run_append]; rfl
theorem sum_lt (l : List Nat) : sum l < 4294967296 := by
  have := run_ok one_ok l
  unfold Ok at this
  unfold sum
  omega
theorem sum_low (l : List Nat) : sum l % 65536 = (run one l).1 := by
  have := run_ok one_ok l
  unfold Ok at this
  unfold sum
  omega
theorem sum_high (l : List Nat) : sum l / 65536 = (run one l).2 := by
  have := run_ok one_ok l
  unfold Ok at this
  unfold sum
  omega
theorem sum_eq {l m : List Nat} : sum l = sum m ↔ run one l = run one m := by
  refine ⟨fun h => Prod.ext ?_ ?_, fun h => by unfold sum; rw [h]⟩
  · rw [← sum_low, ← sum_low, h]
  · rw [← sum_high, ← sum_high, h]
theorem st_fst {s t : Nat × Nat} (hs : Ok s) (ht : Ok t) {c : Nat} (h : (st s c).1 = (st t c).1) : s.1 = t.1 := by
  have h1 := hs.1
  have h2 := ht.1
  simp only [st] at h
  omega
theorem st_inj {s t : Nat × Nat} (hs : Ok s) (ht : Ok t) {c : Nat} (h : st s c = st t c) : s = t := by
  have e := st_fst hs ht (congrArg Prod.fst h)
  have h1 := hs.2
  have h2 := ht.2
  have h3 := congrArg Prod.snd h
  simp only [st] at h3
  rw [e] at h3
  refine Prod.ext e ?_
  omega
theorem run_fst {s t : Nat × Nat} (hs : Ok s) (ht : Ok t) (l : List Nat) (h : (run s l).1 = (run t l).1) : s.1 = t.1 := by
  induction l generalizing s t with
  | nil => exact h
  | cons c l ih => exact st_fst hs ht (ih (st_ok s c) (st_ok t c) h)
theorem run_inj {s t : Nat × Nat} (hs : Ok s) (ht : Ok t) (l : List Nat) (h : run s l = run t l) : s = t := by
  induction l generalizing s t with
  | nil => exact h
  | cons c l ih => exact st_inj hs ht (ih (st_ok s c) (st_ok t c) h)
/-- One other byte makes another sum. -/
theorem sum_one {p q : List Nat} {x y : Nat} (hx : x < 256) (hy : y < 256) (h : sum (p ++ x :: q) = sum (p ++ y :: q)) : x = y := by
  rw [sum_eq, run_append, run_append, run_cons, run_cons] at h
  have h1 := congrArg Prod.fst (run_inj (st_ok _ _) (st_ok _ _) q h)
  have := run_ok one_ok p
  unfold Ok at this
  simp only [st] at h1
  omega
/-- Two bytes that change places make another sum, unless they are the same. -/
theorem sum_swap {p q : List Nat} {x y : Nat} (hx : x < 256) (hy : y < 256) : sum (p ++ x :: y :: q) = sum (p ++ y :: x :: q) ↔ x = y := by
  refine ⟨fun h => ?_, fun h => by rw [h]⟩
  rw [sum_eq, run_append, run_append, run_cons, run_cons, run_cons, run_cons] at h
  have h1 := congrArg Prod.snd (run_inj (st_ok _ _) (st_ok _ _) q h)
  have := run_ok one_ok p
  unfold Ok at this
  generalize run one p = s at *
  simp only [st] at h1
  omega

theorem tail_len (s : Nat) : (tail s).length = 4 := rfl
theorem tail_byte (s : Nat) : ∀ x ∈ tail s, x < 256 := by
  intro x hx
  simp only [tail, List.mem_cons, List.not_mem_nil, or_false] at hx
  omega
theorem tail_inj {s t : Nat} (hs : s < 4294967296) (ht : t < 4294967296) (h : tail s = tail t) : s = t := by
  simp only [tail, List.cons.injEq, and_true] at h
  omega
theorem seald_len (l : List Nat) : (seald l).length = l.length + 4 := by simp [seald, tail_len]
theorem seald_byte {l : List Nat} (h : ∀ x ∈ l, x < 256) : ∀ x ∈ seald l, x < 256 := by
  intro x hx
  rcases List.mem_append.1 hx with h1 | h1
  · exact h x h1
  · exact tail_byte _ x h1
theorem body_seald (l : List Nat) : body (seald l) = l := by
  unfold body
  rw [seald_len, Nat.add_sub_cancel]
  exact List.take_left'  rfl
theorem openE_seald (l : List Nat) : openE (seald l) = 0 := by
  unfold openE
  rw [body_seald, if_neg (by rw [seald_len]; omega), if_pos rfl]
theorem openL_seald (l : List Nat) : openL (seald l) = l := by
  unfold openL
  rw [openE_seald, if_pos rfl, body_seald]
/-- With one other byte it is not opened. -/
theorem openE_set {l : List Nat} (hl : ∀ x ∈ l, x < 256) {k y : Nat} (hk : k < l.length + 4) (hy : y < 256) (hne : y ≠ (seald l).getD k 0) : openE ((seald l).set k y) = 5 := by
  unfold openE
  have e : ((seald l).set k y).length = l.length + 4 := by rw [List.length_set, seald_len]
  rw [if_neg (by rw [e]; omega), if_neg ?_]
  intro h
  unfold body at h
  rw [e, Nat.add_sub_cancel] at h
  rcases Nat.lt_or_ge k l.length with hkl | hkl
  · have e1 : (seald l).set k y = l.set k y ++ tail (sum l) := by unfold seald; rw [List.set_append_left _ _ hkl]
    have e2 : ((seald l).set k y).take l.length = l.set k y := by rw [e1]; exact List.take_left' (by simp)
    rw [e2, e1] at h
    have h1 := tail_inj (sum_lt _) (sum_lt _) (List.append_cancel_left h)
    have e3 : l = l.take k ++ l.getD k 0 :: l.drop (k + 1) := by
      rw [← List.take_append_drop k l]
      conv => lhs; rw [← List.take_append_drop k l]
      simp [List.getD_eq_getElem?_getD, hkl]
    have e4 : l.set k y = l.take k ++ y :: l.drop (k + 1) := List.set_eq_take_append_cons_drop .. |>.trans (by rw [if_pos hkl])
    have e5 : (seald l).getD k 0 = l.getD k 0 := by unfold seald; simp [List.getD_eq_getElem?_getD, List.getElem?_append_left hkl]
    rw [e4] at h1
    conv at h1 => rhs; rw [e3]
    have hb : l.getD k 0 < 256 := by
      have : l.getD k 0 ∈ l := by simp [List.getD_eq_getElem?_getD, hkl]
      exact hl _ this
    exact hne (by rw [e5]; exact sum_one hy hb h1)
  · have e2 : ((seald l).set k y).take l.length = l := by
      unfold seald
      rw [List.set_append_right _ _ hkl]
      exact List.take_left' rfl
    rw [e2] at h
    have h1 := congrArg (fun z => z.getD k 0) h
    simp only [List.getD_eq_getElem?_getD] at h1 hne
    rw [List.getElem?_set_self (by rw [seald_len]; exact hk)] at h1
    exact hne (by simpa using h1.symm)
end Go.Proofs.YtmcfciifjgdgoaaDoor.Su

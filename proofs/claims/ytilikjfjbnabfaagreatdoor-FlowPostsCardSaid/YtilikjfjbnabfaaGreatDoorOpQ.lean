/- Plain mathematics of the instructions: where each begins, and how a loop decodes. No program is named here. -/
import Derived.Test.YtilikjfjbnabfaaGreatDoorOpP
namespace Go.Proofs.YtilikjfjbnabfaaGreatDoor.Op7
open Go.RowKit

/-- Where each instruction begins, the first one at 'k'. -/
def offsF : Nat → List Ins → List Nat
  | _, [] => []
  | k, o :: l => k :: offsF (k + size o.code) l
def offs (l : List Ins) : List Nat := offsF 0 l
theorem offsF_len (k : Nat) (l : List Ins) : (offsF k l).length = l.length := by
  induction l generalizing k with
  | nil => rfl
  | cons o l ih => simp [offsF, ih]
theorem offs_len (l : List Ins) : (offs l).length = l.length := offsF_len 0 l
theorem offsF_snoc (k : Nat) (l : List Ins) (o : Ins) : offsF k (l ++ [o]) = offsF k l ++ [k + (encs l).length] := by
  induction l generalizing k with
  | nil => simp [offsF, encs]
  | cons p l ih =>
    rw [List.cons_append]
    simp only [offsF]
    rw [ih, encs_cons, List.length_append, enc_len, List.cons_append]
    simp [Nat.add_assoc]
theorem offs_snoc (l : List Ins) (o : Ins) : offs (l ++ [o]) = offs l ++ [(encs l).length] := by
  unfold offs
  rw [offsF_snoc, Nat.zero_add]
/-- What Decode answers: the instructions, where each begins, the error. -/
def decR (b : List Nat) : List Ins × List Nat × Nat := if 512 < b.length then ([], [], 4) else match dec b with
  | none => ([], [], 8)
  | some l => (l, offs l, 0)
/-- As far as the loop has come: 'l' is done, the rest begins at 'i'. -/
def Done (b : List Nat) (i : Nat) (l : List Ins) : Prop := i ≤ b.length ∧ i = (encs l).length ∧ l.length ≤ i ∧ dec b = (dec (b.drop i)).map (l ++ ·) ∧ ∀ o ∈ l, o.code < 21
theorem done_start (b : List Nat) : Done b 0 [] := ⟨Nat.zero_le _, rfl, Nat.le_refl _, by cases h : dec b <;> simp [h], by simp⟩
def insAt (b : List Nat) (i x : Nat) : Ins := ⟨x, (un ((b.drop (i + 1)).take (wid x).1) : Nat), (un (((b.drop (i + 1)).drop (wid x).1).take (wid x).2) : Nat)⟩
theorem drop_at {b : List Nat} {i x : Nat} (h : b[i]? = some x) : b.drop i = x :: b.drop (i + 1) := by
  obtain ⟨hi, rfl⟩ := List.getElem?_eq_some_iff.1 h
  exact List.drop_eq_getElem_cons hi
theorem done_next {b : List Nat} {i x : Nat} {l : List Ins} (h : Done b i l) (hx : b[i]? = some x) (h21 : x < 21) (hs : i + size x ≤ b.length) : Done b (i + size x) (l ++ [insAt b i x]) := by
  obtain ⟨h1, h2, h3, h4, h5⟩ := h
  have hi : i < b.length := (List.getElem?_eq_some_iff.1 hx).1
  have hp := size_pos x
  have hd : dec1 (b.drop i) = some (insAt b i x, b.drop (i + size x)) := by
    rw [drop_at hx]
    unfold dec1
    simp only
    rw [if_pos ⟨h21, by rw [List.length_drop]; omega⟩, show (b.drop (i + 1)).drop (size x - 1) = b.drop (i + size x) by rw [List.drop_drop]; congr 1; omega]
    rfl
  refine ⟨hs, ?_, ?_, ?_, ?_⟩
  · rw [encs_snoc, List.length_append, enc_len, ← h2]; rfl
  · simp; omega
  · rw [h4, dec_step hd, Option.map_map]
    congr 1
    funext z
    simp
  · intro o ho
    rcases List.mem_append.1 ho with ho | ho
    · exact h5 o ho
    · rw [List.mem_singleton.1 ho]; exact h21
theorem done_end {b : List Nat} {l : List Ins} (h : Done b b.length l) (h5 : ¬ 512 < b.length) : decR b = (l, offs l, 0) := by
  obtain ⟨_, _, _, h4, _⟩ := h
  rw [List.drop_length, dec_nil] at h4
  unfold decR
  rw [if_neg h5, h4]
  simp
theorem done_none {b : List Nat} {i x : Nat} {l : List Ins} (h : Done b i l) (hx : b[i]? = some x) (hn : ¬ (x < 21 ∧ i + size x ≤ b.length)) (h5 : ¬ 512 < b.length) : decR b = ([], [], 8) := by
  obtain ⟨_, _, _, h4, _⟩ := h
  have hi : i < b.length := (List.getElem?_eq_some_iff.1 hx).1
  have hd : dec (b.drop i) = none := by
    rw [drop_at hx]
    refine dec_none ?_
    unfold dec1
    simp only
    rw [if_neg (fun hc => hn ⟨hc.1, by have := hc.2; rw [List.length_drop] at this; omega⟩)]
  rw [hd] at h4
  unfold decR
  rw [if_neg h5, h4]
  rfl
theorem decR_long {b : List Nat} (h5 : 512 < b.length) : decR b = ([], [], 4) := by
  unfold decR
  rw [if_pos h5]
/-- What stands in an instruction's bytes. -/
theorem insAt_row {b : List Nat} {i x : Nat} (hx : b[i]? = some x) (hs : i + size x ≤ b.length) :
    (b.drop i).take (size x) = x :: (b.drop (i + 1)).take (size x - 1) ∧ ((b.drop (i + 1)).take (size x - 1)).length = size x - 1 ∧
    ((b.drop (i + 1)).take (size x - 1)).take (wid x).1 = (b.drop (i + 1)).take (wid x).1 ∧ ((b.drop (i + 1)).take (size x - 1)).drop (wid x).1 = ((b.drop (i + 1)).drop (wid x).1).take (wid x).2 := by
  have e : size x = (wid x).1 + (wid x).2 + 1 := by unfold size; omega
  refine ⟨?_, ?_, ?_, ?_⟩
  · rw [drop_at hx, e, List.take_succ_cons]; rfl
  · rw [List.length_take, List.length_drop]; omega
  · rw [List.take_take, show min (wid x).1 (size x - 1) = (wid x).1 by omega]
  · rw [List.drop_take, show size x - 1 - (wid x).1 = (wid x).2 by omega]
end Go.Proofs.YtilikjfjbnabfaaGreatDoor.Op7

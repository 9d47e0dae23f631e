/- Plain mathematics of the instructions: code cut off. No program is named here. -/
import Derived.Test.YtjmlcplhilhkpaaDoorOpQ
namespace Go.Proofs.YtjmlcplhilhkpaaDoor.Op7
open Go.RowKit

theorem offsF_ge (k : Nat) (l : List Ins) : ∀ x ∈ offsF k l, k ≤ x := by
  induction l generalizing k with
  | nil => simp [offsF]
  | cons o l ih =>
    intro x hx
    simp only [offsF, List.mem_cons] at hx
    rcases hx with rfl | hx
    · exact Nat.le_refl _
    · have := ih _ x hx; omega
/-- How many begin ahead of 'c'. -/
def ahead (c : Nat) (xs : List Nat) : Nat := xs.countP (fun x => decide (x < c))
theorem ahead_none {c : Nat} {xs : List Nat} (h : ∀ x ∈ xs, c ≤ x) : ahead c xs = 0 := by
  unfold ahead
  rw [List.countP_eq_zero]
  intro x hx
  have := h x hx
  simp; omega
theorem cut_yes (k d : Nat) (l : List Ins) (hd : d ≤ (encs l).length) (h : k + d ∈ offsF k l ∨ d = (encs l).length) : (encs l).take d = encs (l.take (ahead (k + d) (offsF k l))) := by
  induction l generalizing k d with
  | nil =>
    simp [encs]
  | cons o l ih =>
    have hz := size_pos o.code
    rcases Nat.eq_zero_or_pos d with rfl | hp
    · rw [ahead_none (fun x hx => by have := offsF_ge k _ x hx; omega)]
      simp [encs]
    · have hlen : (encs (o :: l)).length = size o.code + (encs l).length := by rw [encs_cons, List.length_append, enc_len]
      have hs : size o.code ≤ d := by
        rcases h with h | h
        · simp only [offsF, List.mem_cons] at h
          rcases h with h | h
          · omega
          · have := offsF_ge _ _ _ h; omega
        · omega
      obtain ⟨d', rfl⟩ : ∃ d', d = size o.code + d' := ⟨d - size o.code, by omega⟩
      have ih' := ih (k + size o.code) d' (by omega) (by
        rcases h with h | h
        · simp only [offsF, List.mem_cons] at h
          rcases h with h | h
          · omega
          · left; rw [Nat.add_assoc]; exact h
        · right; omega)
      rw [encs_cons, List.take_append, enc_len, List.take_of_length_le (by rw [enc_len]; omega), show size o.code + d' - size o.code = d' by omega, ih']
      have ha : ahead (k + (size o.code + d')) (offsF k (o :: l)) = ahead (k + size o.code + d') (offsF (k + size o.code) l) + 1 := by
        unfold ahead
        simp only [offsF]
        rw [List.countP_cons, if_pos (by simp; omega), ← Nat.add_assoc]
      rw [ha, List.take_succ_cons, encs_cons]
theorem cut_no (k d : Nat) (l : List Ins) (hv : ∀ o ∈ l, valid o) (hd : d ≤ (encs l).length) (m : List Ins) (h : dec ((encs l).take d) = some m) : k + d ∈ offsF k l ∨ d = (encs l).length := by
  induction l generalizing k d m with
  | nil => right; simpa [encs] using hd
  | cons o l ih =>
    rcases Nat.eq_zero_or_pos d with rfl | hp
    · left; simp [offsF]
    · have hlen : (encs (o :: l)).length = size o.code + (encs l).length := by rw [encs_cons, List.length_append, enc_len]
      have hs : size o.code ≤ d := by
        obtain ⟨d', rfl⟩ : ∃ d', d = d' + 1 := ⟨d - 1, by omega⟩
        have e : (encs (o :: l)).take (d' + 1) = o.code :: ((be o.a.toNat (wid o.code).1 ++ be o.b.toNat (wid o.code).2) ++ encs l).take d' := by
          rw [encs_cons]; rfl
        rcases Nat.lt_or_ge d' (size o.code - 1) with hlt | hge
        · exfalso
          have hlen' : (((be o.a.toNat (wid o.code).1 ++ be o.b.toNat (wid o.code).2) ++ encs l).take d').length ≤ d' := List.length_take_le _ _
          have : dec ((encs (o :: l)).take (d' + 1)) = none := by
            rw [e]
            refine dec_none ?_
            unfold dec1
            simp only
            rw [if_neg (fun hc => by have := hc.2; omega)]
          rw [this] at h
          cases h
        · omega
      obtain ⟨d', rfl⟩ : ∃ d', d = size o.code + d' := ⟨d - size o.code, by omega⟩
      have e : (encs (o :: l)).take (size o.code + d') = enc o ++ (encs l).take d' := by
        rw [encs_cons, List.take_append, enc_len, List.take_of_length_le (by rw [enc_len]; omega), show size o.code + d' - size o.code = d' by omega]
      rw [e, dec_step (dec1_enc (hv o (by simp)) _)] at h
      obtain ⟨m', hm, _⟩ := Option.map_eq_some_iff.1 h
      rcases ih (k + size o.code) d' (fun p hp => hv p (by simp [hp])) (by omega) m' hm with h1 | h1
      · left
        simp only [offsF, List.mem_cons]
        right
        rw [← Nat.add_assoc]; exact h1
      · right; omega
/-- OpCut in a sentence. -/
theorem cut_dec {l : List Ins} {d : Nat} (hv : ∀ o ∈ l, valid o) (hd : d ≤ (encs l).length) (h5 : ¬ 512 < (encs l).length) :
    (decide (d = (encs l).length) || (offs l).any (· == d)) = true → decR ((encs l).take d) = (l.take (ahead d (offs l)), offs (l.take (ahead d (offs l))), 0) := by
  intro h
  have h' : 0 + d ∈ offsF 0 l ∨ d = (encs l).length := by
    rw [Bool.or_eq_true, decide_eq_true_iff, List.any_eq_true] at h
    rcases h with h | ⟨x, hx, he⟩
    · exact .inr h
    · rw [beq_iff_eq] at he
      subst he
      rw [Nat.zero_add]
      exact .inl hx
  have hc := cut_yes 0 d l hd h'
  rw [Nat.zero_add] at hc
  have hlt : ¬ 512 < ((encs l).take d).length := by rw [List.length_take]; omega
  unfold decR
  rw [if_neg hlt, show offs l = offsF 0 l from rfl, hc, dec_encs (fun o ho => hv o (List.mem_of_mem_take ho))]
theorem cut_bad {l : List Ins} {d : Nat} (hv : ∀ o ∈ l, valid o) (hd : d ≤ (encs l).length) (h5 : ¬ 512 < (encs l).length) :
    (decide (d = (encs l).length) || (offs l).any (· == d)) = false → decR ((encs l).take d) = ([], [], 8) := by
  intro h
  have hlt : ¬ 512 < ((encs l).take d).length := by rw [List.length_take]; omega
  unfold decR
  rw [if_neg hlt]
  cases hdd : dec ((encs l).take d) with
  | none => rfl
  | some m =>
    exfalso
    have := cut_no 0 d l hv hd m hdd
    rw [Nat.zero_add] at this
    rw [Bool.or_eq_false_iff, decide_eq_false_iff_not] at h
    rcases this with h1 | h1
    · have h2 := h.2
      rw [List.any_eq_false] at h2
      exact h2 d h1 (by simp)
    · exact h.1 h1
theorem ahead_snoc (c x : Nat) (xs : List Nat) : ahead c (xs ++ [x]) = ahead c xs + if x < c then 1 else 0 := by
  unfold ahead
  rw [List.countP_append]
  simp [List.countP_cons]
theorem ahead_le (c : Nat) (xs : List Nat) : ahead c xs ≤ xs.length := List.countP_le_length
theorem any_snoc (c x : Nat) (xs : List Nat) : (xs ++ [x]).any (· == c) = (xs.any (· == c) || x == c) := by simp
end Go.Proofs.YtjmlcplhilhkpaaDoor.Op7

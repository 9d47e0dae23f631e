/- Plain mathematics of tokens: a blank put between them (law LexApart). No program is named here. -/
import Derived.Test.YtdfahmppbfjbhaaDoorLxR
namespace Go.Proofs.YtdfahmppbfjbhaaDoor.Lx

theorem raw_kind (l : List UInt8) : (raw l).1 ≤ 16 := by
  unfold raw
  split
  · exact Nat.zero_le _
  · split
    · split <;> simp
    · split
      · simp
      · split
        · simp
        · split
          · split <;> simp
          · split
            · simp
            · rcases markTok_cases _ with e | ⟨k, _, h, _, e⟩
              · rw [e]; exact Nat.zero_le _
              · rw [e]; exact h
theorem step_kind {l : List UInt8} {n : Nat} {t : Nat × List UInt8} (h : step l = some (n, some t)) : t.1 ≤ 16 := by
  unfold step at h
  split at h
  · cases h
  · split at h
    · cases h
    · split at h
      · split at h
        · cases h
        · cases h
      · split at h
        · cases h
          exact raw_kind _
        · cases h
/-- The kinds of what is read. -/
theorem words_kind : ∀ (f : Nat) (l : List UInt8) (o : Nat) (ws : List Word), l.length ≤ f → words l o = .ok ws → ∀ x ∈ ws, x.k ≤ 16
  | _, [], o, ws, _, h => by
    rw [words_nil] at h
    cases h
    intro x hx
    cases hx
  | 0, a :: r, o, ws, hf, _ => by simp at hf
  | f + 1, a :: r, o, ws, hf, h => by
    cases hs : step (a :: r) with
    | none => rw [words_err (by simp) hs] at h; cases h
    | some y =>
      obtain ⟨n, t⟩ := y
      have hp := step_pos hs
      rw [words_step (by simp) hs] at h
      cases hw : words ((a :: r).drop n) (o + n) with
      | error e => rw [hw] at h; cases h
      | ok ws' =>
        rw [hw] at h
        cases h
        intro x hx
        rcases List.mem_append.1 hx with hx | hx
        · cases t with
          | none => cases hx
          | some t =>
            obtain rfl := List.mem_singleton.1 hx
            exact step_kind hs
        · exact words_kind f _ _ _ (by rw [List.length_drop]; omega) hw x hx
theorem Reach.len {l : List UInt8} {o n : Nat} {d : List Word} (h : Reach l o n d) : d.length ≤ n := by
  induction h with
  | here l o => exact Nat.zero_le _
  | @next l o k n t d hl hs _ ih =>
    have := step_pos hs
    rw [List.length_append]
    cases t with
    | none => simp [one]; omega
    | some x => simp [one]; omega
theorem words_len {l : List UInt8} {o : Nat} {ws : List Word} (h : words l o = .ok ws) : ws.length ≤ l.length := (reach_all _ l o ws (Nat.le_refl _) h).len
/-- Where what is read begins. -/
theorem words_place {l : List UInt8} {o : Nat} {ws : List Word} (h : words l o = .ok ws) : ∀ x ∈ ws, (o : Int) ≤ x.o ∧ x.o < ((o + l.length : Nat) : Int) := (reach_all _ l o ws (Nat.le_refl _) h).mem
def shiftAt (n m : Nat) (x : Word) : Word := if (n : Int) ≤ x.o then moved m x else x
theorem cat_inj {d l : List Word} {x : Except Nat (List Word)} (h : cat d x = .ok (d ++ l)) : x = .ok l := by
  cases x with
  | error e => cases h
  | ok l2 =>
    simp only [cat, Except.ok.injEq, List.append_cancel_left_eq] at h
    rw [h]
theorem apart_at {L M : List UInt8} {l : List Word} {n i : Nat} (hw : words L 0 = .ok l) (hr : Reach L 0 n (l.take i)) (hM : Blank M) : words (L.take n ++ M ++ L.drop n) 0 = .ok (l.map (shiftAt n M.length)) := by
  have h1 := hr.words
  rw [hw, Nat.zero_add] at h1
  have h2 : words (L.drop n) n = .ok (l.drop i) := cat_inj (d := l.take i) (by rw [← h1, List.take_append_drop])
  rw [words_between hr hM, h2]
  show Except.ok (l.take i ++ (l.drop i).map (moved M.length)) = _
  have h3 : (l.take i).map (shiftAt n M.length) = l.take i := by
    conv => rhs; rw [← List.map_id (l.take i)]
    apply List.map_congr_left
    intro x hx
    have := (hr.mem x hx).2
    unfold shiftAt
    rw [if_neg (by omega)]
    rfl
  have h4 : (l.drop i).map (shiftAt n M.length) = (l.drop i).map (moved M.length) := by
    apply List.map_congr_left
    intro x hx
    have := (words_place h2 x hx).1
    unfold shiftAt
    rw [if_pos this]
  conv => rhs; rw [← List.take_append_drop i l]
  rw [List.map_append, h3, h4]
theorem apart_word {L M : List UInt8} {l : List Word} {i : Nat} {x : Word} (hw : words L 0 = .ok l) (hx : l[i]? = some x) (hM : Blank M) : ∃ n : Nat, x.o = ((n : Nat) : Int) ∧ n ≤ L.length ∧ words (L.take n ++ M ++ L.drop n) 0 = .ok (l.map (shiftAt n M.length)) := by
  obtain ⟨n, h1, h2⟩ := reach_word _ L 0 l i x (Nat.le_refl _) hw hx
  exact ⟨n, by rw [h1, Nat.zero_add], h2.le, apart_at hw h2 hM⟩
theorem apart_none {L M : List UInt8} (hw : words L 0 = .ok []) (hM : Blank M) : words (L.take L.length ++ M ++ L.drop L.length) 0 = .ok [] := by
  have h := apart_at (i := 0) hw (by have := reach_all _ L 0 [] (Nat.le_refl _) hw; exact this) hM
  exact h
theorem apart_err {L M : List UInt8} {o : Nat} (hw : words L 0 = .error o) (hM : Blank M) : o ≤ L.length ∧ words (L.take o ++ M ++ L.drop o) 0 = .error (o + M.length) := by
  obtain ⟨n, d, h1, h2, h3, h4⟩ := reach_err _ L 0 o (Nat.le_refl _) hw
  rw [Nat.zero_add] at h1
  subst h1
  refine ⟨h2.le, ?_⟩
  rw [words_between h2 hM, words_err h3 h4]
  rfl
/-- The five blanks of the law. -/
def mores : List (List UInt8) := [[32], [9], [10], [13], [32, 34, 97, 32, 39, 91, 32, 114, 101, 109, 97, 114, 107, 34, 32]]
theorem blank_cat {a b : List UInt8} (ha : Blank a) (hb : Blank b) : Blank (a ++ b) := by
  obtain ⟨h1, h2, h3⟩ := ha
  obtain ⟨_, _, k3⟩ := hb
  refine ⟨fun c hc => ?_, by simp [h2], fun r o => ?_⟩
  · cases a with
    | nil => exact absurd rfl h2
    | cons x q => exact h1 c hc
  · rw [List.append_assoc, h3, k3, List.length_append, Nat.add_assoc]
theorem blank_remark : Blank [32, 34, 97, 32, 39, 91, 32, 114, 101, 109, 97, 114, 107, 34, 32] := by
  have hr : ∀ (r : List UInt8) (o : Nat), words ([34, 97, 32, 39, 91, 32, 114, 101, 109, 97, 114, 107, 34] ++ r) o = words r (o + 13) := fun r o => by
    have e : span notQ ([97, 32, 39, 91, 32, 114, 101, 109, 97, 114, 107] ++ 34 :: r) = 11 := span_app (by decide) (fun c hc => by simp at hc; rw [← hc]; decide)
    have hs : step (34 :: ([97, 32, 39, 91, 32, 114, 101, 109, 97, 114, 107] ++ 34 :: r)) = some (13, none) := by
      unfold step
      simp only
      rw [if_neg (by decide), if_pos trivial, e, if_pos (by simp)]
    show words (34 :: ([97, 32, 39, 91, 32, 114, 101, 109, 97, 114, 107] ++ 34 :: r)) o = _
    rw [words_step (by simp) hs, one, cat_nil]
    rfl
  have h1 : Blank [32] := blank_one (by decide)
  have h2 : ∀ (r : List UInt8) (o : Nat), words ([32, 34, 97, 32, 39, 91, 32, 114, 101, 109, 97, 114, 107, 34] ++ r) o = words r (o + 14) := fun r o => by
    show words ([32] ++ ([34, 97, 32, 39, 91, 32, 114, 101, 109, 97, 114, 107, 34] ++ r)) o = _
    rw [h1.2.2, hr]
    rfl
  refine ⟨fun c hc => by simp at hc; rw [← hc]; decide, by simp, fun r o => ?_⟩
  show words ([32, 34, 97, 32, 39, 91, 32, 114, 101, 109, 97, 114, 107, 34] ++ ([32] ++ r)) o = _
  rw [h2, h1.2.2]
  rfl
theorem mores_blank {m : List UInt8} (h : m ∈ mores) : Blank m ∧ m.length ≤ 15 := by
  simp only [mores, List.mem_cons, List.not_mem_nil, or_false] at h
  rcases h with rfl | rfl | rfl | rfl | rfl
  · exact ⟨blank_one (by decide), by decide⟩
  · exact ⟨blank_one (by decide), by decide⟩
  · exact ⟨blank_one (by decide), by decide⟩
  · exact ⟨blank_one (by decide), by decide⟩
  · exact ⟨blank_remark, by decide⟩
end Go.Proofs.YtdfahmppbfjbhaaDoor.Lx

/- Plain mathematics of tokens: blanks between them change nothing (LX2). No program is named here. -/
import Derived.Test.YtdfahmppbfjbhaaDoorLxQ
namespace Go.Proofs.YtdfahmppbfjbhaaDoor.Lx

theorem nameOf_le (l : List UInt8) : (nameOf l).length ≤ l.length := by
  unfold nameOf
  split
  · rw [List.length_take]; omega
  · exact Nat.zero_le _
theorem nameOf_len {l : List UInt8} (h : l.head?.any isL = true) : (nameOf l).length = span isLD l := by
  unfold nameOf
  rw [if_pos h, List.length_take]
  have := span_le isLD l
  omega
theorem quoted_le : ∀ (l : List UInt8) (x : List UInt8 × Nat), quoted l = some x → x.2 ≤ l.length
  | [], x, h => by cases h
  | [c], x, h => by
    unfold quoted at h
    split at h
    · cases h; simp
    · cases h
  | c :: d :: r, x, h => by
    rw [quoted] at h
    split at h
    · split at h
      · cases hq : quoted r with
        | none => rw [hq] at h; cases h
        | some y =>
          rw [hq] at h
          cases h
          have := quoted_le r y hq
          simp only [List.length_cons]
          omega
      · cases h; simp
    · cases hq : quoted (d :: r) with
      | none => rw [hq] at h; cases h
      | some y =>
        rw [hq] at h
        cases h
        have := quoted_le (d :: r) y hq
        simp only [List.length_cons] at this ⊢
        omega
theorem markTok_cases (l : List UInt8) : markTok l = (0, [], 0) ∨ ∃ k, 6 ≤ k ∧ k ≤ 16 ∧ (mark k).isPrefixOf l = true ∧ markTok l = (k, [], (mark k).length) := by
  unfold markTok
  cases h : (List.range' 6 11).find? (fun k => (mark k).isPrefixOf l) with
  | none => exact .inl rfl
  | some k =>
    have h1 := List.find?_some h
    have h2 := List.mem_of_find?_eq_some h
    rw [List.mem_range'_1] at h2
    exact .inr ⟨k, by omega, by omega, h1, rfl⟩
theorem keyed_cons {l : List UInt8} (h : keyed l = true) : ∃ r, l = 58 :: r ∧ r.head? ≠ some 61 := by
  unfold keyed at h
  cases l with
  | nil => simp at h
  | cons a r =>
    simp at h
    exact ⟨r, by rw [h.1], by simpa using h.2⟩
theorem keyed_of {r : List UInt8} (h : r.head? ≠ some 61) : keyed (58 :: r) = true := by
  unfold keyed
  simpa using h
theorem keyed_no {c : UInt8} {r : List UInt8} (h : c ≠ 58) : keyed (c :: r) = false := by
  unfold keyed
  simp [h]
theorem raw_le (l : List UInt8) : (raw l).2.2 ≤ l.length := by
  unfold raw
  split
  · exact Nat.le_refl _
  · rename_i c r
    split
    · split
      · rename_i hk
        obtain ⟨q, e, _⟩ := keyed_cons hk
        have := congrArg List.length e
        rw [List.length_drop, List.length_cons (a := 58)] at this
        simp only
        omega
      · exact nameOf_le _
    · split
      · exact span_le _ _
      · split
        · have h1 := span_le isOp ((c :: r).take 2)
          rw [List.length_take] at h1
          simp only
          omega
        · split
          · split
            · exact Nat.zero_le _
            · rename_i x hx
              have := quoted_le r x hx
              simp only [List.length_cons]
              omega
          · split
            · have := nameOf_le r
              simp only [List.length_cons]
              omega
            · rcases markTok_cases (c :: r) with e | ⟨k, _, _, h1, e⟩
              · rw [e]; exact Nat.zero_le _
              · rw [e]
                obtain ⟨z, hz⟩ := List.isPrefixOf_iff_prefix.1 h1
                rw [← hz, List.length_append]
                simp only
                omega
theorem step_le {l : List UInt8} {n : Nat} {t : Option (Nat × List UInt8)} (h : step l = some (n, t)) : n ≤ l.length := by
  unfold step at h
  split at h
  · cases h
  · split at h
    · cases h; simp
    · split at h
      · split at h
        · rename_i hs
          cases h
          simp only [List.length_cons]
          omega
        · cases h
      · split at h
        · cases h
          exact raw_le _
        · cases h
/-- Scanned so many bytes, with so many tokens. -/
inductive Reach : List UInt8 → Nat → Nat → List Word → Prop
  | here (l : List UInt8) (o : Nat) : Reach l o 0 []
  | next {l : List UInt8} {o k n : Nat} {t : Option (Nat × List UInt8)} {d : List Word} (hl : l ≠ []) (hs : step l = some (k, t)) (h : Reach (l.drop k) (o + k) n d) : Reach l o (k + n) (one o t ++ d)
theorem Reach.le {l : List UInt8} {o n : Nat} {d : List Word} (h : Reach l o n d) : n ≤ l.length := by
  induction h with
  | here l o => exact Nat.zero_le _
  | next hl hs _ ih =>
    have := step_le hs
    rw [List.length_drop] at ih
    omega
theorem Reach.words {l : List UInt8} {o n : Nat} {d : List Word} (h : Reach l o n d) : words l o = cat d (words (l.drop n) (o + n)) := by
  induction h with
  | here l o => rw [cat_nil]; rfl
  | next hl hs _ ih => rw [words_step hl hs, ih, cat_cat, List.drop_drop, Nat.add_assoc]
/-- All tokens of what was scanned begin in it. -/
theorem Reach.mem {l : List UInt8} {o n : Nat} {d : List Word} (h : Reach l o n d) : ∀ w ∈ d, (o : Int) ≤ w.o ∧ w.o < ((o + n : Nat) : Int) := by
  induction h with
  | here l o => intro w hw; cases hw
  | @next l o k n t d hl hs _ ih =>
    have := step_pos hs
    intro w hw
    rcases List.mem_append.1 hw with h | h
    · cases t with
      | none => cases h
      | some x =>
        obtain rfl := List.mem_singleton.1 h
        simp only
        omega
    · have := ih w h
      omega
theorem Reach.snoc {l : List UInt8} {o n : Nat} {d : List Word} (h : Reach l o n d) {k : Nat} {t : Option (Nat × List UInt8)} (hl : l.drop n ≠ []) (hs : step (l.drop n) = some (k, t)) : Reach l o (n + k) (d ++ one (o + n) t) := by
  induction h with
  | here l o =>
    have := Reach.next (o := o) hl hs (.here _ _)
    simpa using this
  | @next l o k' n t' d hl' hs' _ ih =>
    have := Reach.next hl' hs' (ih (by rwa [List.drop_drop]) (by rwa [List.drop_drop]))
    rw [List.append_assoc, Nat.add_assoc]
    rw [Nat.add_assoc] at this
    exact this
/-- All is scanned. -/
theorem reach_all : ∀ (m : Nat) (l : List UInt8) (o : Nat) (ws : List Word), l.length ≤ m → words l o = .ok ws → Reach l o l.length ws
  | m, [], o, ws, _, h => by
    rw [words_nil] at h
    cases h
    exact .here _ _
  | 0, a :: r, o, ws, hm, _ => by simp at hm
  | m + 1, a :: r, o, ws, hm, h => by
    cases hs : step (a :: r) with
    | none => rw [words_err (by simp) hs] at h; cases h
    | some x =>
      obtain ⟨k, t⟩ := x
      have hp := step_pos hs
      have hk := step_le hs
      rw [words_step (by simp) hs] at h
      cases hw : words ((a :: r).drop k) (o + k) with
      | error e => rw [hw] at h; cases h
      | ok ws' =>
        rw [hw] at h
        cases h
        have ih := reach_all m _ _ _ (by rw [List.length_drop]; omega) hw
        have := Reach.next (by simp) hs ih
        rw [List.length_drop, Nat.add_sub_of_le hk] at this
        exact this
/-- Up to any token. -/
theorem reach_word : ∀ (m : Nat) (l : List UInt8) (o : Nat) (ws : List Word) (i : Nat) (w : Word), l.length ≤ m → words l o = .ok ws → ws[i]? = some w → ∃ n, w.o = ((o + n : Nat) : Int) ∧ Reach l o n (ws.take i)
  | m, [], o, ws, i, w, _, h, hw => by
    rw [words_nil] at h
    cases h
    simp at hw
  | 0, a :: r, o, ws, i, w, hm, _, _ => by simp at hm
  | m + 1, a :: r, o, ws, i, w, hm, h, hi => by
    cases hs : step (a :: r) with
    | none => rw [words_err (by simp) hs] at h; cases h
    | some x =>
      obtain ⟨k, t⟩ := x
      have hp := step_pos hs
      have hk := step_le hs
      rw [words_step (by simp) hs] at h
      cases hw : words ((a :: r).drop k) (o + k) with
      | error e => rw [hw] at h; cases h
      | ok ws' =>
        rw [hw] at h
        cases h
        cases t with
        | none =>
          obtain ⟨n, h1, h2⟩ := reach_word m _ _ _ i w (by rw [List.length_drop]; omega) hw hi
          have := Reach.next (by simp) hs h2
          exact ⟨k + n, by rw [h1, Nat.add_assoc], this⟩
        | some x =>
          cases i with
          | zero =>
            obtain rfl : _ = w := by simpa [one] using hi
            exact ⟨0, rfl, .here _ _⟩
          | succ i =>
            obtain ⟨n, h1, h2⟩ := reach_word m _ _ _ i w (by rw [List.length_drop]; omega) hw (by simpa [one] using hi)
            have := Reach.next (by simp) hs h2
            exact ⟨k + n, by rw [h1, Nat.add_assoc], this⟩
/-- Up to the place where there is none. -/
theorem reach_err : ∀ (m : Nat) (l : List UInt8) (o e : Nat), l.length ≤ m → words l o = .error e → ∃ n d, e = o + n ∧ Reach l o n d ∧ l.drop n ≠ [] ∧ step (l.drop n) = none
  | m, [], o, e, _, h => by rw [words_nil] at h; cases h
  | 0, a :: r, o, e, hm, _ => by simp at hm
  | m + 1, a :: r, o, e, hm, h => by
    cases hs : step (a :: r) with
    | none =>
      rw [words_err (by simp) hs] at h
      cases h
      exact ⟨0, [], rfl, .here _ _, by simp, hs⟩
    | some x =>
      obtain ⟨k, t⟩ := x
      have hp := step_pos hs
      have hk := step_le hs
      rw [words_step (by simp) hs] at h
      cases hw : words ((a :: r).drop k) (o + k) with
      | ok ws' => rw [hw] at h; cases h
      | error e' =>
        rw [hw] at h
        cases h
        obtain ⟨n, d, h1, h2, h3, h4⟩ := reach_err m _ _ _ (by rw [List.length_drop]; omega) hw
        refine ⟨k + n, one o t ++ d, by omega, .next (by simp) hs h2, ?_, ?_⟩
        · rwa [List.drop_drop] at h3
        · rwa [List.drop_drop] at h4
/-! ### What stands behind has no say -/
theorem white_not {c : UInt8} (h : isW c = true) : isLD c = false ∧ isD c = false ∧ isOp c = false ∧ c ≠ 39 ∧ c ≠ 61 ∧ c ≠ 58 := by
  have := all_u8 (p := fun c => !(isW c) || (!(isLD c) && !(isD c) && !(isOp c) && c != 39 && c != 61 && c != 58)) (by decide +kernel) c
  rw [h] at this
  simpa [and_assoc] using this
theorem quoted_short : ∀ (p r r' : List UInt8) (x : List UInt8 × Nat), quoted (p ++ r) = some x → x.2 ≤ p.length → (∀ c, r'.head? = some c → c ≠ 39) → quoted (p ++ r') = some x
  | [], r, r', x, h, hx, _ => by
    exfalso
    have : 0 < x.2 := by
      rw [List.nil_append] at h
      cases r with
      | nil => cases h
      | cons c q =>
        cases q with
        | nil =>
          unfold quoted at h
          split at h
          · cases h; decide
          · cases h
        | cons d q =>
          rw [quoted] at h
          split at h
          · split at h
            · cases hq : quoted q with
              | none => rw [hq] at h; cases h
              | some y => rw [hq] at h; cases h; simp
            · cases h; decide
          · cases hq : quoted (d :: q) with
            | none => rw [hq] at h; cases h
            | some y => rw [hq] at h; cases h; simp
    simp at hx
    omega
  | [c], r, r', x, h, hx, h' => by
    have key : ∀ (q : List UInt8) (y : List UInt8 × Nat), quoted q = some y → 0 < y.2 := fun q y hq => by
      cases q with
      | nil => cases hq
      | cons c q =>
        cases q with
        | nil =>
          unfold quoted at hq
          split at hq
          · cases hq; decide
          · cases hq
        | cons d q =>
          rw [quoted] at hq
          split at hq
          · split at hq
            · cases hz : quoted q with
              | none => rw [hz] at hq; cases hq
              | some y => rw [hz] at hq; cases hq; simp
            · cases hq; decide
          · cases hz : quoted (d :: q) with
            | none => rw [hz] at hq; cases hq
            | some y => rw [hz] at hq; cases hq; simp
    have hc : c = 39 ∧ x = ([], 1) := by
      cases r with
      | nil =>
        rw [List.append_nil] at h
        unfold quoted at h
        split at h
        · cases h; exact ⟨by assumption, rfl⟩
        · cases h
      | cons d q =>
        rw [List.singleton_append, quoted] at h
        split at h
        · split at h
          · cases hz : quoted q with
            | none => rw [hz] at h; cases h
            | some y =>
              rw [hz] at h
              cases h
              have := key _ _ hz
              simp at hx
          · cases h; exact ⟨by assumption, rfl⟩
        · cases hz : quoted (d :: q) with
          | none => rw [hz] at h; cases h
          | some y =>
            rw [hz] at h
            cases h
            have := key _ _ hz
            simp at hx
            omega
    obtain ⟨rfl, rfl⟩ := hc
    cases r' with
    | nil => rfl
    | cons d q =>
      rw [List.singleton_append, quoted, if_pos rfl, if_neg (h' d rfl)]
  | c :: d :: p, r, r', x, h, hx, h' => by
    rw [List.cons_append, List.cons_append, quoted] at h ⊢
    split
    · rename_i hc
      rw [if_pos hc] at h
      split
      · rename_i hd
        rw [if_pos hd] at h
        cases hq : quoted (p ++ r) with
        | none => rw [hq] at h; cases h
        | some y =>
          rw [hq] at h
          cases h
          rw [quoted_short p r r' y hq (by simpa using hx) h']
          rfl
      · rename_i hd
        rw [if_neg hd] at h
        exact h
    · rename_i hc
      rw [if_neg hc] at h
      rw [← List.cons_append] at h ⊢
      cases hq : quoted (d :: p ++ r) with
      | none => rw [hq] at h; cases h
      | some y =>
        rw [hq] at h
        cases h
        rw [quoted_short (d :: p) r r' y hq (by simpa using hx) h']
        rfl
theorem nameOf_short {p r r' : List UInt8} (hp : p ≠ []) (h : (nameOf (p ++ r)).length ≤ p.length) (h' : ∀ c, r'.head? = some c → isLD c = false) : nameOf (p ++ r') = nameOf (p ++ r) := by
  obtain ⟨a, q, rfl⟩ : ∃ a q, p = a :: q := by
    cases p with
    | nil => exact absurd rfl hp
    | cons a q => exact ⟨a, q, rfl⟩
  by_cases hh : isL a = true
  · have e1 : ∀ z, (a :: q ++ z).head?.any isL = true := fun z => by simpa using hh
    rw [nameOf_len (e1 r)] at h
    have es := span_short h h'
    unfold nameOf
    rw [if_pos (e1 r), if_pos (e1 r'), es, List.take_append_of_le_length h, List.take_append_of_le_length h]
  · unfold nameOf
    rw [if_neg (by simpa using hh), if_neg (by simpa using hh)]
theorem prefix_short {m p r r' : List UInt8} (hm : m.length ≤ p.length) : m.isPrefixOf (p ++ r) = m.isPrefixOf (p ++ r') := by
  have key : ∀ r, m.isPrefixOf (p ++ r) = m.isPrefixOf p := fun r => by
    rw [Bool.eq_iff_iff, List.isPrefixOf_iff_prefix, List.isPrefixOf_iff_prefix]
    constructor
    · intro h
      rw [List.prefix_iff_eq_take] at h ⊢
      rwa [List.take_append_of_le_length hm] at h
    · intro h
      exact h.trans (List.prefix_append _ _)
  rw [key r, key r']
theorem mark_len {k : Nat} : (mark k).length ≤ 2 := by
  unfold mark
  split <;> decide
theorem markTok_short {p r r' : List UInt8} (hp : p ≠ []) (hn : 0 < (markTok (p ++ r)).2.2) (h : (markTok (p ++ r)).2.2 ≤ p.length) (h' : ∀ c, r'.head? = some c → c ≠ 61) : markTok (p ++ r') = markTok (p ++ r) := by
  obtain ⟨a, q, rfl⟩ : ∃ a q, p = a :: q := by
    cases p with
    | nil => exact absurd rfl hp
    | cons a q => exact ⟨a, q, rfl⟩
  have h6 : (mark 6).isPrefixOf (a :: q ++ r') = (mark 6).isPrefixOf (a :: q ++ r) := by
    cases q with
    | cons b q => exact prefix_short (by simp [mark])
    | nil =>
      have e1 : (mark 6).isPrefixOf ([a] ++ r') = false := by
        cases r' with
        | nil => simp [mark, List.isPrefixOf]
        | cons b z =>
          have := h' b rfl
          simp only [mark, List.cons_append, List.nil_append, List.isPrefixOf, Bool.and_true, Bool.and_eq_false_iff, beq_eq_false_iff_ne]
          exact .inr (fun e => this e.symm)
      rw [e1]
      cases he : (mark 6).isPrefixOf ([a] ++ r) with
      | false => rfl
      | true =>
        exfalso
        have hf : (List.range' 6 11).find? (fun k => (mark k).isPrefixOf ([a] ++ r)) = some 6 := by
          show List.find? _ (6 :: List.range' 7 10) = _
          exact List.find?_cons_of_pos he
        unfold markTok at h
        rw [hf] at h
        simp [mark] at h
  have key : ∀ k, 6 ≤ k → k ≤ 16 → (mark k).isPrefixOf (a :: q ++ r') = (mark k).isPrefixOf (a :: q ++ r) := by
    intro k hk1 hk2
    rcases (by omega : k = 6 ∨ 7 ≤ k) with rfl | hk
    · exact h6
    · refine prefix_short ?_
      have : (mark k).length = 1 := by
        rcases (by omega : k = 7 ∨ k = 8 ∨ k = 9 ∨ k = 10 ∨ k = 11 ∨ k = 12 ∨ k = 13 ∨ k = 14 ∨ k = 15 ∨ k = 16) with rfl | rfl | rfl | rfl | rfl | rfl | rfl | rfl | rfl | rfl <;> rfl
      simp only [List.length_cons]
      omega
  have congr : ∀ (l : List Nat) (f g : Nat → Bool), (∀ k ∈ l, f k = g k) → l.find? f = l.find? g := by
    intro l f g
    induction l with
    | nil => intro _; rfl
    | cons x z ih =>
      intro hfg
      simp only [List.find?]
      rw [hfg x (by simp), ih (fun k hk => hfg k (by simp [hk]))]
  unfold markTok
  rw [congr (List.range' 6 11) (fun k => (mark k).isPrefixOf (a :: q ++ r')) (fun k => (mark k).isPrefixOf (a :: q ++ r)) (fun k hk => by
    rw [List.mem_range'_1] at hk
    exact key k (by omega) (by omega))]
theorem raw_short {p r r' : List UInt8} (hp : p ≠ []) (hn : 0 < (raw (p ++ r)).2.2) (h : (raw (p ++ r)).2.2 ≤ p.length) (h' : ∀ c, r'.head? = some c → isW c = true) (hk : ¬ (p.drop (raw (p ++ r)).2.2 = [58] ∧ r.head? = some 61)) : raw (p ++ r') = raw (p ++ r) := by
  obtain ⟨a, q, rfl⟩ : ∃ a q, p = a :: q := by
    cases p with
    | nil => exact absurd rfl hp
    | cons a q => exact ⟨a, q, rfl⟩
  have hLD : ∀ c, r'.head? = some c → isLD c = false := fun c hc => (white_not (h' c hc)).1
  rw [List.cons_append] at hn h hk ⊢
  rw [List.cons_append]
  unfold raw at hn h hk ⊢
  simp only at hn h hk ⊢
  by_cases c1 : isL a = true
  · rw [if_pos c1] at hn h hk ⊢
    rw [if_pos c1]
    have hh : ∀ z, (a :: (q ++ z)).head?.any isL = true := fun z => by simpa using c1
    have hle : (nameOf (a :: (q ++ r))).length ≤ (a :: q).length := by
      split at h
      · simp only at h; omega
      · exact h
    have en : nameOf (a :: (q ++ r')) = nameOf (a :: (q ++ r)) := by
      rw [← List.cons_append] at hle ⊢
      rw [← List.cons_append]
      exact nameOf_short (by simp) hle hLD
    rw [en]
    have ek : keyed ((a :: (q ++ r')).drop (nameOf (a :: (q ++ r))).length) = keyed ((a :: (q ++ r)).drop (nameOf (a :: (q ++ r))).length) := by
      rw [← List.cons_append] at hle h hk ⊢
      rw [← List.cons_append]
      generalize (nameOf (a :: q ++ r)).length = n at *
      rw [List.drop_append_of_le_length hle] at h hk ⊢
      rw [List.drop_append_of_le_length hle]
      cases hd : (a :: q).drop n with
      | nil =>
        rw [hd] at h hk
        rw [List.nil_append] at h hk ⊢
        have hn0 : n = (a :: q).length := by
          have := congrArg List.length hd
          rw [List.length_drop] at this
          simp only [List.length_nil] at this
          omega
        have e1 : keyed r = false := by
          cases hkr : keyed r with
          | false => rfl
          | true => rw [hkr, if_pos rfl] at h; simp only at h; omega
        rw [List.nil_append, e1]
        cases r' with
        | nil => rfl
        | cons b z => exact keyed_no (white_not (h' b rfl)).2.2.2.2.2
      | cons b z =>
        rw [hd] at h hk
        cases z with
        | cons c z => simp [keyed]
        | nil =>
          simp only [List.cons_append, List.nil_append] at h hk ⊢
          by_cases hb : b = 58
          · subst hb
            have e2 : keyed (58 :: r') = true := keyed_of (fun he => (white_not (h' 61 he)).2.2.2.2.1 rfl)
            rw [e2]
            symm
            apply keyed_of
            intro he
            have e3 : keyed (58 :: r) = false := by
              unfold keyed
              simp [he]
            rw [e3, if_neg (by decide)] at hk
            exact hk ⟨hd, he⟩
          · rw [keyed_no hb, keyed_no hb]
    rw [ek]
  · rw [if_neg c1] at hn h hk ⊢
    rw [if_neg c1]
    by_cases c2 : isD a = true
    · rw [if_pos c2] at hn h hk ⊢
      rw [if_pos c2]
      simp only at h
      have es : span isD (a :: (q ++ r')) = span isD (a :: (q ++ r)) := by
        rw [← List.cons_append] at h ⊢
        rw [← List.cons_append]
        exact span_short h (fun c hc => (white_not (h' c hc)).2.1)
      rw [es]
      rw [← List.cons_append] at h ⊢
      rw [← List.cons_append, List.take_append_of_le_length h, List.take_append_of_le_length h]
    · rw [if_neg c2] at hn h hk ⊢
      rw [if_neg c2]
      by_cases c3 : isOp a = true
      · rw [if_pos c3] at hn h hk ⊢
        rw [if_pos c3]
        simp only at h
        have es : span isOp ((a :: (q ++ r')).take 2) = span isOp ((a :: (q ++ r)).take 2) := by
          cases q with
          | cons b q => rfl
          | nil =>
            have t1 : span isOp ((a :: ([] ++ r)).take 2) = 1 := by
              have hle := h
              simp only [List.length_cons, List.length_nil] at hle
              have hge : 0 < span isOp ((a :: ([] ++ r)).take 2) := by
                rw [List.nil_append, List.take_succ_cons]
                unfold span
                rw [if_pos c3]
                omega
              omega
            rw [t1, List.nil_append, List.take_succ_cons]
            unfold span
            rw [if_pos c3]
            cases r' with
            | nil => rfl
            | cons b z =>
              rw [List.take_succ_cons]
              unfold span
              rw [if_neg (by rw [(white_not (h' b rfl)).2.2.1]; decide)]
        rw [es]
        rw [← List.cons_append] at h ⊢
        rw [← List.cons_append, List.take_append_of_le_length h, List.take_append_of_le_length h]
      · rw [if_neg c3] at hn h hk ⊢
        rw [if_neg c3]
        by_cases c4 : a = 39
        · rw [if_pos c4] at hn h hk ⊢
          rw [if_pos c4]
          cases hq : quoted (q ++ r) with
          | none => rw [hq] at hn; exact absurd hn (by simp)
          | some x =>
            rw [hq] at h
            simp only [List.length_cons] at h
            rw [quoted_short q r r' x hq (by omega) (fun c hc => (white_not (h' c hc)).2.2.2.1)]
        · rw [if_neg c4] at hn h hk ⊢
          rw [if_neg c4]
          by_cases c5 : a = 58
          · subst c5
            by_cases c6 : nameOf (q ++ r) = []
            · rw [if_neg (fun hx => hx.2 c6)] at hn h hk
              have c7 : nameOf (q ++ r') = [] := by
                cases q with
                | nil =>
                  rw [List.nil_append]
                  unfold nameOf
                  rw [if_neg]
                  cases r' with
                  | nil => simp
                  | cons b z =>
                    have := hLD b rfl
                    unfold isLD at this
                    rw [Bool.or_eq_false_iff] at this
                    simp [this.1]
                | cons b q =>
                  rw [nameOf_short (by simp) (by rw [c6]; exact Nat.zero_le _) hLD, c6]
              rw [if_neg (fun hx => hx.2 c7), if_neg (fun hx => hx.2 c6)]
              rw [← List.cons_append] at hn h ⊢
              rw [← List.cons_append]
              exact markTok_short (by simp) hn h (fun c hc => (white_not (h' c hc)).2.2.2.2.1)
            · rw [if_pos ⟨rfl, c6⟩] at hn h hk
              rw [if_pos (show 58 = (58 : UInt8) ∧ nameOf (q ++ r) ≠ [] from ⟨rfl, c6⟩)]
              simp only [List.length_cons] at h
              have hq : q ≠ [] := by
                rintro rfl
                simp only [List.length_nil] at h
                have : (nameOf ([] ++ r)).length = 0 := by omega
                exact c6 (List.eq_nil_of_length_eq_zero this)
              rw [nameOf_short (r := r) (r' := r') hq (by omega) hLD, if_pos ⟨rfl, c6⟩]
          · rw [if_neg (fun hx => c5 hx.1)] at hn h hk ⊢
            rw [if_neg (fun hx => c5 hx.1)]
            rw [← List.cons_append] at hn h ⊢
            rw [← List.cons_append]
            exact markTok_short (by simp) hn h (fun c hc => (white_not (h' c hc)).2.2.2.2.1)
theorem step_short {p r r' : List UInt8} (hp : p ≠ []) {k : Nat} {t : Option (Nat × List UInt8)} (hs : step (p ++ r) = some (k, t)) (h : k ≤ p.length) (h' : ∀ c, r'.head? = some c → isW c = true) (hk : ¬ (p.drop k = [58] ∧ r.head? = some 61)) : step (p ++ r') = some (k, t) := by
  obtain ⟨a, q, rfl⟩ : ∃ a q, p = a :: q := by
    cases p with
    | nil => exact absurd rfl hp
    | cons a q => exact ⟨a, q, rfl⟩
  rw [List.cons_append] at hs ⊢
  unfold step at hs ⊢
  simp only at hs ⊢
  split at hs
  · rename_i hw
    rw [if_pos hw]
    exact hs
  · rename_i hw
    rw [if_neg hw]
    split at hs
    · rename_i hc
      rw [if_pos hc]
      split at hs
      · rename_i hl
        cases hs
        simp only [List.length_cons] at h
        have hlt : span notQ (q ++ r) < q.length := by omega
        have e : span notQ (q ++ r') = span notQ (q ++ r) := by
          have key : ∀ (q r r' : List UInt8), span notQ (q ++ r) < q.length → span notQ (q ++ r') = span notQ (q ++ r) := by
            intro q
            induction q with
            | nil => intro r r' h; simp at h
            | cons b q ih =>
              intro r r' h
              rw [List.cons_append] at h ⊢
              rw [List.cons_append]
              unfold span at h ⊢
              split
              · rename_i hb
                rw [if_pos hb] at h
                rw [ih r r' (by simpa using h)]
              · rfl
          exact key q r r' hlt
        rw [e, if_pos (by rw [List.length_append]; omega)]
      · cases hs
    · rename_i hc
      rw [if_neg hc]
      split at hs
      · rename_i hr
        simp only [Option.some.injEq, Prod.mk.injEq] at hs
        obtain ⟨rfl, rfl⟩ := hs
        rw [← List.cons_append] at hr h hk ⊢
        have er : raw (a :: q ++ r') = raw (a :: q ++ r) := raw_short (by simp) hr.1 h h' hk
        rw [← List.cons_append, er, if_pos hr]
      · cases hs
/-- What was scanned is scanned again where it ends and a blank comes. -/
theorem Reach.again {l : List UInt8} {o n : Nat} {d : List Word} (h : Reach l o n d) : ∀ {p r r' : List UInt8}, l = p ++ r → n = p.length → (∀ c, r'.head? = some c → isW c = true) → Reach (p ++ r') o n d := by
  induction h with
  | here l o => intro p r r' _ _ _; exact .here _ _
  | @next l o k n t d hl hs hr ih =>
    intro p r r' hpe hn h'
    subst hpe
    have hpos := step_pos hs
    have hp : p ≠ [] := by rintro rfl; simp at hn; omega
    have hk : k ≤ p.length := by omega
    have h2 := ih (p := p.drop k) (r := r) (r' := r') (List.drop_append_of_le_length hk) (by rw [List.length_drop]; omega) h'
    refine Reach.next (by simp [hp]) (step_short hp hs hk h' ?_) (by rwa [List.drop_append_of_le_length hk])
    rintro ⟨e1, e2⟩
    rw [List.drop_append_of_le_length hk, e1] at hr
    have hn1 : n = 1 := by
      have := congrArg List.length e1
      rw [List.length_drop] at this
      simp at this
      omega
    subst hn1
    obtain ⟨z, rfl⟩ : ∃ z, r = 61 :: z := by
      cases r with
      | nil => cases e2
      | cons y z => simp at e2; exact ⟨z, by rw [e2]⟩
    generalize hm : (1 : Nat) = m at hr
    generalize hL : [58] ++ 61 :: z = L at hr
    cases hr with
    | here => cases hm
    | @next _ _ k' n' t' d' hl' hs' hr' =>
      subst hL
      have e : step ([58] ++ 61 :: z) = some (2, some (6, [])) := by
        have er : raw (58 :: 61 :: z) = (6, [], 2) := by
          unfold raw
          simp only
          rw [if_neg (by decide), if_neg (by decide), if_neg (by decide), if_neg (by decide), if_neg (fun hx => hx.2 (by unfold nameOf; rw [if_neg (by simp; decide)]))]
          exact mark_find 6 (by decide) (by decide) z
        show step (58 :: 61 :: z) = _
        unfold step
        simp only
        rw [if_neg (by decide), if_neg (by decide), er, if_pos ⟨by decide, by decide⟩]
      rw [e] at hs'
      cases hs'
      omega
/-- The words of a text that begins later. -/
def moved (m : Nat) (w : Word) : Word := ⟨w.k, w.s, w.o + (m : Int)⟩
def movedX (m : Nat) : Except Nat (List Word) → Except Nat (List Word)
  | .ok l => .ok (l.map (moved m))
  | .error e => .error (e + m)
theorem movedX_cat (m : Nat) (d : List Word) (x : Except Nat (List Word)) : movedX m (cat d x) = cat (d.map (moved m)) (movedX m x) := by
  cases x
  · rfl
  · simp [movedX, cat]
theorem words_moved : ∀ (f : Nat) (l : List UInt8) (o m : Nat), l.length ≤ f → words l (o + m) = movedX m (words l o)
  | _, [], o, m, _ => by rw [words_nil, words_nil]; rfl
  | 0, a :: r, o, m, hf => by simp at hf
  | f + 1, a :: r, o, m, hf => by
    cases hs : step (a :: r) with
    | none => rw [words_err (by simp) hs, words_err (by simp) hs]; rfl
    | some x =>
      obtain ⟨k, t⟩ := x
      have hp := step_pos hs
      rw [words_step (by simp) hs, words_step (by simp) hs, movedX_cat, Nat.add_right_comm o m k, words_moved f ((a :: r).drop k) (o + k) m (by rw [List.length_drop]; omega)]
      congr 1
      cases t with
      | none => rfl
      | some x => simp [one, moved]
/-- What is put between words: it is blank. -/
def Blank (m : List UInt8) : Prop := (∀ c, m.head? = some c → isW c = true) ∧ m ≠ [] ∧ ∀ (r : List UInt8) (o : Nat), words (m ++ r) o = words r (o + m.length)
theorem blank_one {c : UInt8} (h : isW c = true) : Blank [c] := ⟨fun d hd => by simp at hd; rw [← hd]; exact h, by simp, fun r o => by
  have hs : step ([c] ++ r) = some (1, none) := by
    show step (c :: r) = _
    unfold step
    simp only
    rw [if_pos h]
  rw [words_step (by simp) hs]
  rw [one, cat_nil]
  rfl⟩
/-- Blanks put at a place that was come to. -/
theorem words_between {s m : List UInt8} {n : Nat} {d : List Word} (h : Reach s 0 n d) (hm : Blank m) : words (s.take n ++ m ++ s.drop n) 0 = cat d (movedX m.length (words (s.drop n) n)) := by
  have hle := h.le
  have h2 : Reach (s.take n ++ (m ++ s.drop n)) 0 n d := h.again (p := s.take n) (r := s.drop n) (List.take_append_drop n s).symm (by rw [List.length_take]; omega) (fun c hc => by
    obtain ⟨h1, h3, _⟩ := hm
    cases m with
    | nil => exact absurd rfl h3
    | cons a q => exact h1 c hc)
  rw [List.append_assoc, h2.words, List.drop_left' (by rw [List.length_take]; omega), Nat.zero_add, hm.2.2, ← words_moved _ _ _ _ (Nat.le_refl _)]
end Go.Proofs.YtdfahmppbfjbhaaDoor.Lx

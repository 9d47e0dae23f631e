/- Plain mathematics of tokens: what is written is read (LX4). No program is named here. -/
import Derived.Test.YtdfahmppbfjbhaaDoorLxP
namespace Go.Proofs.YtdfahmppbfjbhaaDoor.Lx

theorem all_u8 {p : UInt8 → Bool} (h : ∀ n, n < 256 → p (UInt8.ofNat n) = true) (c : UInt8) : p c = true := by
  have := h c.toNat c.toNat_lt
  rwa [UInt8.ofNat_toNat] at this
theorem isL_not : ∀ c : UInt8, isL c = true → isW c = false ∧ c ≠ 34 ∧ isD c = false ∧ isLD c = true := by
  intro c h
  have := all_u8 (p := fun c => !(isL c) || (!(isW c) && c != 34 && !(isD c) && isLD c)) (by decide +kernel) c
  rw [h] at this
  simpa [and_assoc] using this
theorem isD_not : ∀ c : UInt8, isD c = true → isW c = false ∧ c ≠ 34 ∧ isL c = false := by
  intro c h
  have := all_u8 (p := fun c => !(isD c) || (!(isW c) && c != 34 && !(isL c))) (by decide +kernel) c
  rw [h] at this
  simpa [and_assoc] using this
theorem isOp_not : ∀ c : UInt8, isOp c = true → isW c = false ∧ c ≠ 34 ∧ isL c = false ∧ isD c = false := by
  intro c h
  have := all_u8 (p := fun c => !(isOp c) || (!(isW c) && c != 34 && !(isL c) && !(isD c))) (by decide +kernel) c
  rw [h] at this
  simpa [and_assoc] using this

/-- Each quote twice. -/
def dbl : List UInt8 → List UInt8
  | [] => []
  | c :: r => if c = 39 then 39 :: 39 :: dbl r else c :: dbl r
/-- How a token is written. -/
def src (k : Nat) (t : List UInt8) : List UInt8 :=
  if k = 1 then t ++ [58] else if k = 5 then 58 :: t else if k = 4 then 39 :: (dbl t ++ [39]) else if k ≤ 3 then t else mark k

theorem quoted_dbl : ∀ (t rest : List UInt8), (∀ c, rest.head? = some c → c ≠ 39) → quoted (dbl t ++ 39 :: rest) = some (t, (dbl t).length + 1)
  | [], rest, h => by
    show quoted (39 :: rest) = _
    cases rest with
    | nil => rfl
    | cons d r =>
      have : d ≠ 39 := h d rfl
      simp [quoted, dbl, this]
  | c :: t, rest, h => by
    have ih := quoted_dbl t rest h
    unfold dbl
    by_cases hc : c = 39
    · subst hc
      rw [if_pos rfl]
      show quoted (39 :: 39 :: (dbl t ++ 39 :: rest)) = _
      rw [quoted, if_pos rfl, if_pos rfl, ih]
      simp
    · rw [if_neg hc]
      show quoted (c :: (dbl t ++ 39 :: rest)) = _
      obtain ⟨d, r, e⟩ : ∃ d r, dbl t ++ 39 :: rest = d :: r := by
        cases hd : dbl t with
        | nil => exact ⟨39, rest, rfl⟩
        | cons d r => exact ⟨d, r ++ 39 :: rest, rfl⟩
      rw [e] at ih ⊢
      rw [quoted, if_neg hc, ih]
      simp
theorem nameOf_app {t rest : List UInt8} (hl : t.all isLD = true) (hh : t.head?.any isL = true) (hr : ∀ c, rest.head? = some c → isLD c = false) : nameOf (t ++ rest) = t := by
  have e1 : (t ++ rest).head?.any isL = true := by
    cases t with
    | nil => simp at hh
    | cons a r => simpa using hh
  unfold nameOf
  rw [if_pos e1, span_app hl hr, List.take_left']
  rfl
theorem mark_find (k : Nat) (h6 : 6 ≤ k) (h : k ≤ 16) (rest : List UInt8) : markTok (mark k ++ rest) = (k, [], (mark k).length) := by
  rcases (by omega : k = 6 ∨ k = 7 ∨ k = 8 ∨ k = 9 ∨ k = 10 ∨ k = 11 ∨ k = 12 ∨ k = 13 ∨ k = 14 ∨ k = 15 ∨ k = 16) with rfl | rfl | rfl | rfl | rfl | rfl | rfl | rfl | rfl | rfl | rfl <;>
    simp [markTok, mark, List.range', List.find?, List.isPrefixOf]
theorem step_src {k : Nat} {t rest : List UInt8} (hm : mayT k t = true) (hr : ∀ c, rest.head? = some c → c = 32) : step (src k t ++ rest) = some ((src k t).length, some (k, t)) := by
  have hLD : ∀ c, rest.head? = some c → isLD c = false := fun c hc => by rw [hr c hc]; decide
  have hm0 := hm
  unfold mayT at hm
  split at hm
  · rename_i hk
    simp only [Bool.and_eq_true, decide_eq_true_eq] at hm
    obtain ⟨⟨⟨h1, h2⟩, h3⟩, h4⟩ := hm
    obtain ⟨a, r, rfl⟩ : ∃ a r, t = a :: r := by
      cases t with
      | nil => simp at h1
      | cons a r => exact ⟨a, r, rfl⟩
    have ha : isL a = true := by simpa using h4
    obtain ⟨g1, g2, g3, g4⟩ := isL_not a ha
    rcases hk with rfl | rfl | rfl
    · have en : nameOf (a :: r ++ rest) = a :: r := nameOf_app h3 h4 hLD
      have ek : keyed rest = false := by
        cases rest with
        | nil => rfl
        | cons b q => rw [hr b rfl]; simp [keyed]
      have er : raw (a :: r ++ rest) = (0, a :: r, (a :: r).length) := by
        rw [List.cons_append] at en ⊢
        unfold raw
        simp only
        rw [if_pos ha, en, ← List.cons_append, List.drop_left' rfl, ek]
        simp
      show step (a :: r ++ rest) = some ((a :: r).length, some (0, a :: r))
      rw [List.cons_append] at er ⊢
      unfold step
      simp only
      rw [if_neg (by rw [g1]; decide), if_neg g2, er, if_pos ⟨by simp, hm0⟩]
    · have en : nameOf (a :: r ++ (58 :: rest)) = a :: r := nameOf_app h3 h4 (fun c hc => by simp at hc; rw [← hc]; decide)
      have ek : keyed (58 :: rest) = true := by
        cases rest with
        | nil => rfl
        | cons b q => rw [hr b rfl]; simp [keyed]
      have er : raw (a :: r ++ (58 :: rest)) = (1, a :: r, (a :: r).length + 1) := by
        rw [List.cons_append] at en ⊢
        unfold raw
        simp only
        rw [if_pos ha, en, ← List.cons_append, List.drop_left' rfl, ek]
        simp
      show step (a :: r ++ [58] ++ rest) = some ((a :: r ++ [58]).length, some (1, a :: r))
      rw [List.append_assoc, show [58] ++ rest = 58 :: rest from rfl, List.length_append, List.length_singleton]
      rw [List.cons_append] at er ⊢
      unfold step
      simp only
      rw [if_neg (by rw [g1]; decide), if_neg g2, er, if_pos ⟨by simp, hm0⟩]
    · have en : nameOf (a :: r ++ rest) = a :: r := nameOf_app h3 h4 hLD
      have er : raw (58 :: (a :: r ++ rest)) = (5, a :: r, 1 + (a :: r).length) := by
        unfold raw
        simp only
        rw [if_neg (by decide), if_neg (by decide), if_neg (by decide), if_neg (by decide), en]
        exact if_pos ⟨trivial, by simp⟩
      show step (58 :: (a :: r ++ rest)) = some ((58 :: a :: r).length, some (5, a :: r))
      unfold step
      simp only
      rw [if_neg (by decide), if_neg (by decide), er, if_pos ⟨by simp only [List.length_cons]; omega, hm0⟩]
      simp only [List.length_cons]
      rw [Nat.add_comm 1]
  · split at hm
    · rename_i hk
      subst hk
      simp only [Bool.and_eq_true, decide_eq_true_eq] at hm
      obtain ⟨⟨h1, h2⟩, h3⟩ := hm
      obtain ⟨a, r, rfl⟩ : ∃ a r, t = a :: r := by
        cases t with
        | nil => simp at h1
        | cons a r => exact ⟨a, r, rfl⟩
      have ha : isOp a = true := by
        simp only [List.all_cons, Bool.and_eq_true] at h3
        exact h3.1
      obtain ⟨g1, g2, g3, g4⟩ := isOp_not a ha
      have es : span isOp ((a :: r ++ rest).take 2) = (a :: r).length := by
        rw [List.take_append]
        rw [List.take_of_length_le h2]
        refine span_app h3 (fun c hc => ?_)
        cases rest with
        | nil => simp at hc
        | cons b q =>
          cases hz : (2 - (a :: r).length) with
          | zero => rw [hz] at hc; simp at hc
          | succ z =>
            rw [hz] at hc
            simp at hc
            rw [← hc, hr b rfl]
            decide
      have er : raw (a :: r ++ rest) = (2, a :: r, (a :: r).length) := by
        rw [List.cons_append] at es ⊢
        unfold raw
        simp only
        rw [if_neg (by rw [g3]; decide), if_neg (by rw [g4]; decide), if_pos ha, es, ← List.cons_append, List.take_left' rfl]
      show step (a :: r ++ rest) = some ((a :: r).length, some (2, a :: r))
      rw [List.cons_append] at er ⊢
      unfold step
      simp only
      rw [if_neg (by rw [g1]; decide), if_neg g2, er, if_pos ⟨by simp, hm0⟩]
    · split at hm
      · rename_i hk
        subst hk
        simp only [Bool.and_eq_true, decide_eq_true_eq] at hm
        obtain ⟨⟨⟨h1, h2⟩, h3⟩, h4⟩ := hm
        obtain ⟨a, r, rfl⟩ : ∃ a r, t = a :: r := by
          cases t with
          | nil => simp at h1
          | cons a r => exact ⟨a, r, rfl⟩
        have ha : isD a = true := by
          simp only [List.all_cons, Bool.and_eq_true] at h3
          exact h3.1
        obtain ⟨g1, g2, g3⟩ := isD_not a ha
        have es : span isD (a :: r ++ rest) = (a :: r).length := span_app h3 (fun c hc => by rw [hr c hc]; decide)
        have er : raw (a :: r ++ rest) = (3, a :: r, (a :: r).length) := by
          rw [List.cons_append] at es ⊢
          unfold raw
          simp only
          rw [if_neg (by rw [g3]; decide), if_pos ha, es, ← List.cons_append, List.take_left' rfl]
        show step (a :: r ++ rest) = some ((a :: r).length, some (3, a :: r))
        rw [List.cons_append] at er ⊢
        unfold step
        simp only
        rw [if_neg (by rw [g1]; decide), if_neg g2, er, if_pos ⟨by simp, hm0⟩]
      · split at hm
        · rename_i hk
          subst hk
          have eq := quoted_dbl t rest (fun c hc => by rw [hr c hc]; decide)
          have er : raw (39 :: (dbl t ++ 39 :: rest)) = (4, t, (dbl t).length + 1 + 1) := by
            unfold raw
            simp only
            rw [if_neg (by decide), if_neg (by decide), if_neg (by decide), if_pos trivial, eq]
          show step (39 :: (dbl t ++ [39]) ++ rest) = some ((39 :: (dbl t ++ [39])).length, some (4, t))
          rw [List.cons_append, List.append_assoc, show [39] ++ rest = 39 :: rest from rfl]
          unfold step
          simp only
          rw [if_neg (by decide), if_neg (by decide), er, if_pos ⟨by simp, hm0⟩]
          simp
        · rename_i h015 h2 h3 h4
          simp only [Bool.and_eq_true, decide_eq_true_eq, List.isEmpty_iff] at hm
          obtain ⟨hk, rfl⟩ := hm
          have h6 : 6 ≤ k := by omega
          have ef := mark_find k h6 hk rest
          have e : src k [] = mark k := by
            unfold src
            rw [if_neg (by omega), if_neg (by omega), if_neg (by omega), if_neg (by omega)]
          rw [e]
          have hs : ∀ c r, mark k ++ rest = c :: r → isW c = false ∧ c ≠ 34 ∧ isL c = false ∧ isD c = false ∧ isOp c = false ∧ c ≠ 39 ∧ ¬ (c = 58 ∧ nameOf r ≠ []) := by
            intro c r
            rcases (by omega : k = 6 ∨ k = 7 ∨ k = 8 ∨ k = 9 ∨ k = 10 ∨ k = 11 ∨ k = 12 ∨ k = 13 ∨ k = 14 ∨ k = 15 ∨ k = 16) with rfl | rfl | rfl | rfl | rfl | rfl | rfl | rfl | rfl | rfl | rfl
            · intro e
              obtain ⟨rfl, rfl⟩ : 58 = c ∧ 61 :: rest = r := by simpa [mark] using e
              exact ⟨by decide, by decide, by decide, by decide, by decide, by decide, fun h => h.2 (by unfold nameOf; rw [if_neg (by simp; decide)])⟩
            all_goals
              intro e
              simp only [mark, List.cons_append, List.nil_append, List.cons.injEq] at e
              obtain ⟨rfl, -⟩ := e
              exact ⟨by decide, by decide, by decide, by decide, by decide, by decide, fun h => absurd h.1 (by decide)⟩
          have hp : 0 < (mark k).length := by
            rcases (by omega : k = 6 ∨ k = 7 ∨ k = 8 ∨ k = 9 ∨ k = 10 ∨ k = 11 ∨ k = 12 ∨ k = 13 ∨ k = 14 ∨ k = 15 ∨ k = 16) with rfl | rfl | rfl | rfl | rfl | rfl | rfl | rfl | rfl | rfl | rfl <;> decide
          obtain ⟨c, r, ec⟩ : ∃ c r, mark k ++ rest = c :: r := by
            cases hz : mark k ++ rest with
            | nil =>
              have := congrArg List.length hz
              simp at this
              rw [this.1] at hp
              simp at hp
            | cons c r => exact ⟨c, r, rfl⟩
          obtain ⟨g1, g2, g3, g4, g5, g6, g7⟩ := hs c r ec
          rw [ec] at ef ⊢
          have er : raw (c :: r) = (k, [], (mark k).length) := by
            unfold raw
            simp only
            rw [if_neg (by rw [g3]; decide), if_neg (by rw [g4]; decide), if_neg (by rw [g5]; decide), if_neg g6, if_neg g7, ef]
          unfold step
          simp only
          rw [if_neg (by rw [g1]; decide), if_neg g2, er, if_pos ⟨hp, hm0⟩]
theorem src_ne {k : Nat} {t : List UInt8} (hm : mayT k t = true) : src k t ≠ [] := by
  intro e
  have h := step_src (rest := []) hm (by simp)
  rw [e] at h
  cases h
def srcW (w : Word) : List UInt8 := src w.k w.s.data.toList
/-- The source text of tokens. -/
def text : List Word → List UInt8
  | [] => []
  | [w] => srcW w
  | w :: v :: r => srcW w ++ 32 :: text (v :: r)
/-- The tokens, each with the place at which it is written. -/
def place : List Word → Nat → List Word
  | [], _ => []
  | w :: r, o => ⟨w.k, w.s, o⟩ :: place r (o + (srcW w).length + 1)
theorem place_len : ∀ (l : List Word) (o : Nat), (place l o).length = l.length
  | [], _ => rfl
  | w :: r, o => by simp [place, place_len r]
theorem words_text : ∀ (l : List Word) (o : Nat), (∀ w ∈ l, mayT w.k w.s.data.toList = true) → words (text l) o = .ok (place l o)
  | [], o, _ => words_nil o
  | [w], o, h => by
    have hm := h w (by simp)
    have hs := step_src (rest := []) hm (by simp)
    rw [List.append_nil] at hs
    show words (src w.k w.s.data.toList) o = _
    rw [words_step (src_ne hm) hs, List.drop_of_length_le (Nat.le_refl _), words_nil]
    rfl
  | w :: v :: r, o, h => by
    have hm := h w (by simp)
    have ih := words_text (v :: r) (o + (srcW w).length + 1) (fun x hx => h x (by simp only [List.mem_cons] at hx ⊢; exact .inr hx))
    have hs := step_src (rest := 32 :: text (v :: r)) hm (by simp)
    show words (src w.k w.s.data.toList ++ 32 :: text (v :: r)) o = _
    rw [words_step (by simp) hs]
    have e : (src w.k w.s.data.toList ++ 32 :: text (v :: r)).drop (src w.k w.s.data.toList).length = 32 :: text (v :: r) := List.drop_left' rfl
    rw [e, words_step (by simp) (show step (32 :: text (v :: r)) = some (1, none) from by unfold step; simp only; rw [if_pos (by decide)])]
    rw [List.drop_one, List.tail_cons, show o + (src w.k w.s.data.toList).length + 1 = o + (srcW w).length + 1 from rfl, ih]
    rfl
/-- Where a token stands in the text. -/
theorem place_at : ∀ (l : List Word) (o i : Nat) (w : Word), l[i]? = some w → ∃ q, (place l o)[i]? = some ⟨w.k, w.s, ((o + q : Nat) : Int)⟩ ∧ (∃ z, (text l).drop q = srcW w ++ z) ∧ (i = 0 → q = 0) ∧ (0 < i → 0 < q ∧ (text l)[q - 1]? = some 32)
  | [], _, _, _, h => by simp at h
  | x :: r, o, 0, w, h => by
    obtain rfl : x = w := by simpa using h
    refine ⟨0, rfl, ?_, fun _ => rfl, fun h => absurd h (by decide)⟩
    cases r with
    | nil => exact ⟨[], by simp [text]⟩
    | cons v r => exact ⟨32 :: text (v :: r), rfl⟩
  | [x], o, i + 1, w, h => by simp at h
  | x :: v :: r, o, i + 1, w, h => by
    obtain ⟨q, h1, ⟨z, h2⟩, h3, h4⟩ := place_at (v :: r) (o + (srcW x).length + 1) i w (by simpa using h)
    refine ⟨(srcW x).length + 1 + q, ?_, ⟨z, ?_⟩, fun h => absurd h (by omega), fun _ => ⟨by omega, ?_⟩⟩
    · show (place (v :: r) (o + (srcW x).length + 1))[i]? = _
      rw [h1]
      congr 3
      omega
    · show (srcW x ++ 32 :: text (v :: r)).drop _ = _
      rw [← h2, Nat.add_assoc, ← List.drop_drop, List.drop_left' rfl, Nat.add_comm 1 q]
      rfl
    · show (srcW x ++ 32 :: text (v :: r))[_]? = _
      rw [List.getElem?_append_right (by omega)]
      rcases Nat.eq_zero_or_pos i with hi | hi
      · rw [h3 hi, show (srcW x).length + 1 + 0 - 1 - (srcW x).length = 0 by omega]
        rfl
      · obtain ⟨h5, h6⟩ := h4 hi
        rw [show (srcW x).length + 1 + q - 1 - (srcW x).length = (q - 1) + 1 by omega, List.getElem?_cons_succ]
        exact h6
theorem text_snoc : ∀ (l : List Word) (w : Word), text (l ++ [w]) = if l.isEmpty then srcW w else text l ++ 32 :: srcW w
  | [], w => rfl
  | [x], w => rfl
  | x :: v :: r, w => by
    have ih := text_snoc (v :: r) w
    show srcW x ++ 32 :: text (v :: (r ++ [w])) = _
    rw [show v :: (r ++ [w]) = v :: r ++ [w] from rfl, ih]
    simp [text]
theorem text_take_le : ∀ (l : List Word) (i : Nat), (text (l.take i)).length ≤ (text l).length := by
  have key : ∀ (b a : List Word), (text a).length ≤ (text (a ++ b)).length := by
    intro b
    induction b with
    | nil => intro a; simp
    | cons x r ih =>
      intro a
      have h1 := ih (a ++ [x])
      rw [List.append_assoc] at h1
      refine Nat.le_trans ?_ h1
      rw [text_snoc]
      split
      · rename_i ha
        rw [List.isEmpty_iff] at ha
        subst ha
        exact Nat.zero_le _
      · rw [List.length_append]
        omega
  intro l i
  have := key (l.drop i) (l.take i)
  rwa [List.take_append_drop] at this
end Go.Proofs.YtdfahmppbfjbhaaDoor.Lx

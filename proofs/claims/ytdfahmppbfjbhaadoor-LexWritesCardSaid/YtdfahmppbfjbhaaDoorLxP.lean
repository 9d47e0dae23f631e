/- Plain mathematics of tokens: bytes, one token, the tokens of a text. No program is named here. -/
namespace Go.Proofs.YtdfahmppbfjbhaaDoor.Lx

def isL (c : UInt8) : Bool := (decide (97 ≤ c.toNat) && decide (c.toNat ≤ 122)) || (decide (65 ≤ c.toNat) && decide (c.toNat ≤ 90))
def isD (c : UInt8) : Bool := decide (48 ≤ c.toNat) && decide (c.toNat ≤ 57)
def isLD (c : UInt8) : Bool := isL c || isD c
def isOp (c : UInt8) : Bool := [43, 45, 42, 47, 92, 60, 62, 61, 126, 44].contains c
def isW (c : UInt8) : Bool := [32, 9, 10, 13].contains c
def notQ (c : UInt8) : Bool := c != 34
/-- How many bytes at the beginning hold. -/
def span (p : UInt8 → Bool) : List UInt8 → Nat
  | [] => 0
  | c :: r => if p c then span p r + 1 else 0
theorem span_le (p : UInt8 → Bool) : ∀ l, span p l ≤ l.length
  | [] => Nat.le_refl _
  | c :: r => by
    unfold span
    have := span_le p r
    simp only [List.length_cons]
    split <;> omega
theorem span_get (p : UInt8 → Bool) : ∀ (l : List UInt8) (i : Nat) (c : UInt8), i < span p l → l[i]? = some c → p c = true
  | [], i, c, h, _ => absurd h (by simp [span])
  | a :: r, i, c, h, hc => by
    unfold span at h
    split at h
    · rename_i ha
      cases i with
      | zero => simp at hc; rw [← hc]; exact ha
      | succ i => exact span_get p r i c (by omega) (by simpa using hc)
    · omega
theorem span_end (p : UInt8 → Bool) : ∀ (l : List UInt8) (c : UInt8), l[span p l]? = some c → p c = false
  | [], c, hc => by simp at hc
  | a :: r, c, hc => by
    unfold span at hc
    split at hc
    · exact span_end p r c (by simpa using hc)
    · rename_i ha
      simp at hc
      rw [← hc]
      simpa using ha
/-- The first byte at which it ends. -/
theorem span_is {p : UInt8 → Bool} : ∀ {l : List UInt8} {n : Nat}, n ≤ l.length → (∀ i c, i < n → l[i]? = some c → p c = true) → (∀ c, l[n]? = some c → p c = false) → span p l = n
  | [], n, hn, _, _ => by simp at hn; rw [hn]; rfl
  | a :: r, 0, _, _, h2 => by
    have := h2 a (by simp)
    unfold span
    rw [if_neg (by rw [this]; decide)]
  | a :: r, n + 1, hn, h1, h2 => by
    unfold span
    rw [if_pos (h1 0 a (by omega) (by simp)), span_is (n := n) (by simpa using hn) (fun i c hi hc => h1 (i + 1) c (by omega) (by simpa using hc)) (fun c hc => h2 c (by simpa using hc))]
theorem span_all {p : UInt8 → Bool} {l : List UInt8} : span p l = l.length ↔ l.all p = true := by
  induction l with
  | nil => simp [span]
  | cons a r ih =>
    unfold span
    simp only [List.length_cons, List.all_cons, Bool.and_eq_true, ← ih]
    split
    · rename_i h; simp [h]
    · rename_i h; simp [h]
theorem span_take (p : UInt8 → Bool) (l : List UInt8) : (l.take (span p l)).all p = true := by
  rw [List.all_eq_true]
  intro c hc
  obtain ⟨i, hi, e⟩ := List.mem_iff_getElem.1 hc
  rw [List.length_take] at hi
  rw [List.getElem_take] at e
  exact span_get p l i c (by omega) (by rw [List.getElem?_eq_getElem (by omega), e])
/-- What stands behind has no say, where the first one of it does not hold. -/
theorem span_app {p : UInt8 → Bool} : ∀ {l r : List UInt8}, l.all p = true → (∀ c, r.head? = some c → p c = false) → span p (l ++ r) = l.length
  | [], r, _, h => by
    cases r with
    | nil => rfl
    | cons a r =>
      show span p (a :: r) = 0
      unfold span
      rw [if_neg (by rw [h a rfl]; decide)]
  | a :: l, r, hl, h => by
    simp only [List.all_cons, Bool.and_eq_true] at hl
    show span p (a :: (l ++ r)) = _
    unfold span
    rw [if_pos hl.1, span_app hl.2 h, List.length_cons]
/-- Behind a longer one of that kind it is the same. -/
theorem span_short {p : UInt8 → Bool} : ∀ {l r r' : List UInt8}, span p (l ++ r) ≤ l.length → (∀ c, r'.head? = some c → p c = false) → span p (l ++ r') = span p (l ++ r)
  | [], r, r', h, h' => by
    rw [List.nil_append, List.nil_append] at *
    have e : span p r = 0 := by simpa using h
    rw [e]
    cases r' with
    | nil => rfl
    | cons a r' =>
      unfold span
      rw [if_neg (by rw [h' a rfl]; decide)]
  | a :: l, r, r', h, h' => by
    rw [List.cons_append] at h ⊢
    rw [List.cons_append]
    unfold span at h ⊢
    split
    · rename_i ha
      rw [if_pos ha] at h
      rw [span_short (l := l) (r := r) (by simpa using h) h']
    · rfl

/-- How a token without a text is written. -/
def mark : Nat → List UInt8
  | 6 => [58, 61]
  | 7 => [94]
  | 8 => [59]
  | 9 => [46]
  | 10 => [40]
  | 11 => [41]
  | 12 => [91]
  | 13 => [93]
  | 14 => [124]
  | 15 => [123]
  | 16 => [125]
  | _ => []
/-- A token, and where it begins. -/
structure Word where
  k : Nat
  s : ByteArray
  o : Int
/-- Is a text one that its kind allows? -/
def mayT (k : Nat) (t : List UInt8) : Bool :=
  if k = 0 ∨ k = 1 ∨ k = 5 then decide (1 ≤ t.length) && decide (t.length ≤ 64) && t.all isLD && (t.head?.any isL)
  else if k = 2 then decide (1 ≤ t.length) && decide (t.length ≤ 2) && t.all isOp
  else if k = 3 then decide (1 ≤ t.length) && decide (t.length ≤ 700) && t.all isD && (decide (t.length = 1) || t.head? != some 48)
  else if k = 4 then decide (t.length ≤ 1024)
  else decide (k ≤ 16) && t.isEmpty
def may (w : Word) : Bool := decide (0 ≤ w.o) && mayT w.k w.s.data.toList
def nameOf (l : List UInt8) : List UInt8 := if l.head?.any isL then l.take (span isLD l) else []
/-- Does a Key's ':' come? -/
def keyed (l : List UInt8) : Bool := l.head? == some 58 && (l.drop 1).head? != some 61
/-- The text of a Str behind its first quote, and how many bytes it is, with the last quote. -/
def quoted : List UInt8 → Option (List UInt8 × Nat)
  | [] => none
  | [c] => if c = 39 then some ([], 1) else none
  | c :: d :: r =>
    if c = 39 then
      if d = 39 then (quoted r).map fun x => (39 :: x.1, x.2 + 2) else some ([], 1)
    else (quoted (d :: r)).map fun x => (c :: x.1, x.2 + 1)
def markTok (l : List UInt8) : Nat × List UInt8 × Nat :=
  match (List.range' 6 11).find? (fun k => (mark k).isPrefixOf l) with
  | some k => (k, [], (mark k).length)
  | none => (0, [], 0)
/-- The token that a text begins with, and its size, or 0. -/
def raw (l : List UInt8) : Nat × List UInt8 × Nat :=
  match l with
  | [] => (0, [], 0)
  | c :: r =>
    if isL c then
      if keyed (l.drop (nameOf l).length) then (1, nameOf l, (nameOf l).length + 1) else (0, nameOf l, (nameOf l).length)
    else if isD c then (3, l.take (span isD l), span isD l)
    else if isOp c then (2, l.take (span isOp (l.take 2)), span isOp (l.take 2))
    else if c = 39 then
      match quoted r with
      | none => (0, [], 0)
      | some x => (4, x.1, x.2 + 1)
    else if c = 58 ∧ nameOf r ≠ [] then (5, nameOf r, 1 + (nameOf r).length)
    else markTok l
/-- What comes first: how many bytes it is, and the token, if it is one. -/
def step (l : List UInt8) : Option (Nat × Option (Nat × List UInt8)) :=
  match l with
  | [] => none
  | c :: r =>
    if isW c then some (1, none)
    else if c = 34 then (if span notQ r < r.length then some (span notQ r + 2, none) else none)
    else if 0 < (raw l).2.2 ∧ mayT (raw l).1 (raw l).2.1 = true then some ((raw l).2.2, some ((raw l).1, (raw l).2.1))
    else none
theorem step_pos {l : List UInt8} {n : Nat} {t : Option (Nat × List UInt8)} (h : step l = some (n, t)) : 0 < n := by
  unfold step at h
  split at h
  · cases h
  · split at h
    · cases h; decide
    · split at h
      · split at h
        · cases h; omega
        · cases h
      · split at h
        · rename_i hp
          cases h
          exact hp.1
        · cases h
def one (o : Nat) : Option (Nat × List UInt8) → List Word
  | none => []
  | some x => [⟨x.1, ⟨x.2.toArray⟩, o⟩]
def cat (d : List Word) : Except Nat (List Word) → Except Nat (List Word)
  | .ok l => .ok (d ++ l)
  | .error e => .error e
/-- The tokens of a text, or the place where there is none. -/
def words (l : List UInt8) (o : Nat) : Except Nat (List Word) :=
  if _hl : l = [] then .ok [] else
  match step l with
  | none => .error o
  | some (n, t) => if _hn : 0 < n then cat (one o t) (words (l.drop n) (o + n)) else .error o
termination_by l.length
decreasing_by
  have : 0 < l.length := List.length_pos_iff.2 _hl
  rw [List.length_drop]
  omega
theorem words_nil (o : Nat) : words [] o = .ok [] := by rw [words]; simp
theorem words_err {l : List UInt8} {o : Nat} (hl : l ≠ []) (h : step l = none) : words l o = .error o := by
  rw [words, dif_neg hl, h]
theorem words_step {l : List UInt8} {o n : Nat} {t : Option (Nat × List UInt8)} (hl : l ≠ []) (h : step l = some (n, t)) : words l o = cat (one o t) (words (l.drop n) (o + n)) := by
  rw [words, dif_neg hl, h]
  exact dif_pos (step_pos h)
theorem cat_nil (x : Except Nat (List Word)) : cat [] x = x := by cases x <;> rfl
theorem cat_cat (a b : List Word) (x : Except Nat (List Word)) : cat a (cat b x) = cat (a ++ b) x := by
  cases x
  · rfl
  · simp [cat]
theorem step_nil : step [] = none := rfl
end Go.Proofs.YtdfahmppbfjbhaaDoor.Lx

/- Plain mathematics of classes: chains, names, who understands what. No program is named here. -/
namespace Go.Proofs.YtjladeiecokpfaaGreatDoor.Cs

/-- A class. -/
structure Cls where
  name : ByteArray
  sup : Int
  vars : List ByteArray
  ms : List Int
/-- The chain of a class, with so many steps at most. -/
def chainF (l : List Cls) : Nat → Int → List Nat
  | 0, _ => []
  | k + 1, c => if c < 0 then [] else match l[c.toNat]? with
    | none => []
    | some x => c.toNat :: (if c ≤ x.sup then [] else chainF l k x.sup)
/-- The chain of a class. -/
def chain (l : List Cls) (c : Int) : List Nat := chainF l (c.toNat + 1) c
/-- More steps change nothing. -/
theorem chainF_more (l : List Cls) : ∀ (k : Nat) (c : Int), c.toNat < k → ∀ j, k ≤ j → chainF l j c = chainF l k c
  | 0, _, h, _, _ => absurd h (Nat.not_lt_zero _)
  | k + 1, c, h, j, hj => by
    obtain ⟨j, rfl⟩ : ∃ i, j = i + 1 := ⟨j - 1, by omega⟩
    unfold chainF
    by_cases hc : c < 0
    · rw [if_pos hc, if_pos hc]
    · rw [if_neg hc, if_neg hc]
      cases hx : l[c.toNat]? with
      | none => rfl
      | some x =>
        simp only
        by_cases hs : c ≤ x.sup
        · rw [if_pos hs, if_pos hs]
        · rw [if_neg hs, if_neg hs]
          by_cases h0 : 0 < k
          · rw [chainF_more l k x.sup (by omega) j (by omega)]
          · obtain rfl : k = 0 := by omega
            have : x.sup < 0 := by omega
            cases j with
            | zero => rfl
            | succ j => unfold chainF; rw [if_pos this]
theorem chain_out (l : List Cls) {c : Int} (h : c < 0 ∨ (l.length : Int) ≤ c) : chain l c = [] := by
  unfold chain chainF
  by_cases hc : c < 0
  · rw [if_pos hc]
  · rw [if_neg hc, List.getElem?_eq_none (by omega)]
theorem chain_in (l : List Cls) {c : Nat} {x : Cls} (h : l[c]? = some x) : chain l (c : Int) = c :: (if (c : Int) ≤ x.sup then [] else chain l x.sup) := by
  unfold chain
  rw [Int.toNat_natCast]
  conv => lhs; unfold chainF
  rw [if_neg (by omega), Int.toNat_natCast, h]
  simp only
  by_cases hs : (c : Int) ≤ x.sup
  · rw [if_pos hs, if_pos hs]
  · rw [if_neg hs, if_neg hs]
    by_cases hn : x.sup < 0
    · have e : ∀ k, chainF l k x.sup = [] := fun k => by
        cases k with
        | zero => rfl
        | succ k => unfold chainF; rw [if_pos hn]
      rw [e, e]
    · rw [chainF_more l (x.sup.toNat + 1) x.sup (by omega) c (by omega)]
theorem chain_lt (l : List Cls) : ∀ (n : Nat) (c : Int), c.toNat < n → ∀ d ∈ chain l c, d < l.length ∧ (d : Int) ≤ c
  | 0, _, h, _, _ => absurd h (Nat.not_lt_zero _)
  | n + 1, c, h, d, hd => by
    by_cases hc : c < 0 ∨ (l.length : Int) ≤ c
    · rw [chain_out l hc] at hd; cases hd
    · obtain ⟨k, rfl⟩ : ∃ k : Nat, c = k := ⟨c.toNat, by omega⟩
      have hx : l[k]? = some l[k] := List.getElem?_eq_getElem (by omega)
      rw [chain_in l hx] at hd
      rcases List.mem_cons.1 hd with rfl | hd
      · exact ⟨by omega, Int.le_refl _⟩
      · split at hd
        · cases hd
        · rename_i hs
          by_cases hn : l[k].sup < 0
          · rw [chain_out l (.inl hn)] at hd; cases hd
          · have := chain_lt l n l[k].sup (by omega) d hd
            omega
/-- Does c stand below d, or is it d? -/
def under (l : List Cls) (c d : Int) : Bool := (chain l c).any fun i => decide ((i : Int) = d)
/-- The variables, those of the topmost first. -/
def names (l : List Cls) (c : Int) : List ByteArray := (chain l c).reverse.flatMap fun i => ((l[i]?).map (·.vars)).getD []
/-- Which method of a class has a selector. -/
def findIn (sels : List ByteArray) (s : ByteArray) : List Int → Option Nat
  | [] => none
  | k :: r => if 0 ≤ k ∧ sels[k.toNat]? = some s then some k.toNat else findIn sels s r
/-- Which method of a chain has a selector. -/
def findAt (l : List Cls) (sels : List ByteArray) (s : ByteArray) : List Nat → Option Nat
  | [] => none
  | i :: r => match findIn sels s (((l[i]?).map (·.ms)).getD []) with
    | some k => some k
    | none => findAt l sels s r
def find (l : List Cls) (sels : List ByteArray) (c : Int) (s : ByteArray) : Option Nat := findAt l sels s (chain l c)
/-- Who has a name. -/
def of (l : List Cls) (s : ByteArray) : Option Nat := l.findIdx? fun x => decide (x.name = s)
/-- Who has a method. -/
def owner (l : List Cls) (m : Int) : Option Nat := l.findIdx? fun x => x.ms.contains m
/-- The chain of whoever stands in a chain is its end. -/
theorem chain_end (l : List Cls) : ∀ (n : Nat) (c : Int), c.toNat < n → ∀ d ∈ chain l c, ∃ pre, chain l c = pre ++ chain l (d : Int)
  | 0, _, h, _, _ => absurd h (Nat.not_lt_zero _)
  | n + 1, c, h, d, hd => by
    by_cases hc : c < 0 ∨ (l.length : Int) ≤ c
    · rw [chain_out l hc] at hd; cases hd
    · obtain ⟨k, rfl⟩ : ∃ k : Nat, c = k := ⟨c.toNat, by omega⟩
      have hx : l[k]? = some l[k] := List.getElem?_eq_getElem (by omega)
      have hd2 := hd
      rw [chain_in l hx] at hd2
      rcases List.mem_cons.1 hd2 with rfl | hd2
      · exact ⟨[], rfl⟩
      · split at hd2
        · cases hd2
        · rename_i hs
          by_cases hn : l[k].sup < 0
          · rw [chain_out l (.inl hn)] at hd2; cases hd2
          · obtain ⟨pre, hp⟩ := chain_end l n l[k].sup (by omega) d hd2
            exact ⟨k :: pre, by rw [chain_in l hx, if_neg hs, hp]; rfl⟩
theorem under_mem {l : List Cls} {c d : Int} : under l c d = true ↔ ∃ i ∈ chain l c, (i : Int) = d := by
  unfold under
  rw [List.any_eq_true]
  exact ⟨fun ⟨i, h1, h2⟩ => ⟨i, h1, decide_eq_true_iff.1 h2⟩, fun ⟨i, h1, h2⟩ => ⟨i, h1, decide_eq_true h2⟩⟩
/-- CS3: the variables of whoever stands above come first. -/
theorem names_prefix {l : List Cls} {c d : Int} (h : under l c d = true) : ∃ more, names l c = names l d ++ more := by
  obtain ⟨i, hi, rfl⟩ := under_mem.1 h
  obtain ⟨pre, hp⟩ := chain_end l (c.toNat + 1) c (Nat.lt_succ_self _) i hi
  refine ⟨pre.reverse.flatMap fun i => ((l[i]?).map (·.vars)).getD [], ?_⟩
  unfold names
  rw [hp, List.reverse_append, List.flatMap_append]
theorem findAt_append (l : List Cls) (sels : List ByteArray) (s : ByteArray) : ∀ (a b : List Nat), findAt l sels s (a ++ b) = match findAt l sels s a with
    | some k => some k
    | none => findAt l sels s b
  | [], _ => rfl
  | i :: a, b => by
    rw [List.cons_append, findAt, findAt]
    cases findIn sels s (((l[i]?).map (·.ms)).getD []) with
    | some k => rfl
    | none => exact findAt_append l sels s a b
/-- CS3: it understands what whoever stands above understands. -/
theorem find_under {l : List Cls} {sels : List ByteArray} {s : ByteArray} {c d : Int} (h : under l c d = true) (hf : (find l sels d s).isSome = true) : (find l sels c s).isSome = true := by
  obtain ⟨i, hi, rfl⟩ := under_mem.1 h
  obtain ⟨pre, hp⟩ := chain_end l (c.toNat + 1) c (Nat.lt_succ_self _) i hi
  unfold find at hf ⊢
  rw [hp, findAt_append]
  cases findAt l sels s pre with
  | some k => rfl
  | none => exact hf
theorem findIn_sound {sels : List ByteArray} {s : ByteArray} {k : Nat} : ∀ {ms : List Int}, findIn sels s ms = some k → (k : Int) ∈ ms ∧ sels[k]? = some s
  | [], h => by cases h
  | m :: r, h => by
    unfold findIn at h
    split at h
    · rename_i hc
      cases h
      exact ⟨by rw [show ((m.toNat : Nat) : Int) = m by omega]; exact List.mem_cons_self, hc.2⟩
    · obtain ⟨h1, h2⟩ := findIn_sound h
      exact ⟨List.mem_cons_of_mem _ h1, h2⟩
theorem findIn_some {sels : List ByteArray} {s : ByteArray} {k : Nat} : ∀ {ms : List Int}, (k : Int) ∈ ms → sels[k]? = some s → (findIn sels s ms).isSome = true
  | [], h, _ => by cases h
  | m :: r, h, hs => by
    unfold findIn
    split
    · rfl
    · rename_i hc
      rcases List.mem_cons.1 h with h | h
      · exfalso
        apply hc
        rw [← h, Int.toNat_natCast]
        exact ⟨by omega, hs⟩
      · exact findIn_some h hs
theorem findAt_sound {l : List Cls} {sels : List ByteArray} {s : ByteArray} {k : Nat} : ∀ {a : List Nat}, findAt l sels s a = some k → ∃ i ∈ a, ∃ x, l[i]? = some x ∧ (k : Int) ∈ x.ms ∧ sels[k]? = some s
  | [], h => by cases h
  | i :: a, h => by
    unfold findAt at h
    cases hx : l[i]? with
    | none =>
      rw [hx] at h
      obtain ⟨j, h1, h2⟩ := findAt_sound (a := a) (by simpa [findIn] using h)
      exact ⟨j, List.mem_cons_of_mem _ h1, h2⟩
    | some x =>
      rw [hx] at h
      simp only [Option.map_some, Option.getD_some] at h
      cases hf : findIn sels s x.ms with
      | some k' =>
        rw [hf] at h
        cases h
        exact ⟨i, List.mem_cons_self, x, hx, (findIn_sound hf).1, (findIn_sound hf).2⟩
      | none =>
        rw [hf] at h
        obtain ⟨j, h1, h2⟩ := findAt_sound (a := a) h
        exact ⟨j, List.mem_cons_of_mem _ h1, h2⟩
/-- Each class stands below itself. -/
theorem under_self {l : List Cls} {c : Nat} (h : c < l.length) : under l (c : Int) (c : Int) = true := by
  rw [under_mem]
  exact ⟨c, by rw [chain_in l (List.getElem?_eq_getElem h)]; exact List.mem_cons_self, rfl⟩
end Go.Proofs.YtjladeiecokpfaaGreatDoor.Cs

/- Plain mathematics of control flow: successors, the graph, depths. No program is named here. -/
import Derived.Test.YtilikjfjbnabfaaGreatDoorOpQ
namespace Go.Proofs.YtilikjfjbnabfaaGreatDoor.Fl
open Go.RowKit Op7

/-- Does the next instruction come behind? -/
def cont (c : Nat) : Bool := !(c == 17 || c == 18 || c == 19 || c == 13)
def jumps (c : Nat) : Bool := c == 13 || c == 14
def toI (os : List Nat) : List Int := os.map fun x : Nat => (x : Int)
/-- The number of the instruction that begins at x. -/
def place (os : List Nat) (x : Int) : Option Nat := if (toI os).contains x then some ((toI os).countP (· < x)) else none
/-- In increasing order, each once (for two at most). -/
def norm : List Nat → List Nat
  | [x, y] => if x < y then [x, y] else if x = y then [x] else [y, x]
  | l => l
def nextOf (n i : Nat) (o : Ins) : Option (List Nat) := if cont o.code then (if i + 1 = n then none else some [i + 1]) else some []
def succO (os : List Nat) (n i : Nat) (o : Ins) : Option (List Nat) := (nextOf n i o).bind fun p => if jumps o.code then (place os o.a).map fun t => norm (p ++ [t]) else some (norm p)
/-- Those that can come behind instruction i. -/
def succ (l : List Ins) (os : List Nat) (i : Nat) : Option (List Nat) := (l[i]?).bind (succO os l.length i)
def isJoin (l : List Ins) (os : List Nat) (x : Int) : Bool := match place os x with
  | none => false
  | some k => ((l[k]?).map (·.code)).getD 0 == 15
def node (l : List Ins) (os : List Nat) (i : Nat) : Option (List Nat) := (succ l os i).bind fun s => match l[i]? with
  | none => none
  | some o => if o.code = 14 ∧ isJoin l os o.b = false then none else some s
def graphTo (l : List Ins) (os : List Nat) : Nat → Option (List (List Nat))
  | 0 => some []
  | k + 1 => (graphTo l os k).bind fun g => (node l os k).map fun s => g ++ [s]
def graph (l : List Ins) (os : List Nat) : Option (List (List Nat)) := if l = [] then none else graphTo l os l.length

theorem graphTo_len {l : List Ins} {os : List Nat} : ∀ {k : Nat} {g : List (List Nat)}, graphTo l os k = some g → g.length = k
  | 0, g, h => by cases h; rfl
  | k + 1, g, h => by
    unfold graphTo at h
    obtain ⟨g', h1, h2⟩ := Option.bind_eq_some_iff.1 h
    obtain ⟨s, _, rfl⟩ := Option.map_eq_some_iff.1 h2
    rw [List.length_append, graphTo_len h1]; rfl
theorem graphTo_none {l : List Ins} {os : List Nat} {k : Nat} (h : graphTo l os k = none) : ∀ n, k ≤ n → graphTo l os n = none
  | 0, hk => by obtain rfl : k = 0 := by omega
                exact h
  | n + 1, hk => by
    rcases Nat.eq_or_lt_of_le hk with e | e
    · rw [← e]; exact h
    · unfold graphTo
      rw [graphTo_none h n (by omega)]; rfl
theorem graphTo_at {l : List Ins} {os : List Nat} : ∀ {k : Nat} {g : List (List Nat)}, graphTo l os k = some g → ∀ i, i < k → node l os i = g[i]?
  | 0, g, _, i, hi => by omega
  | k + 1, g, h, i, hi => by
    unfold graphTo at h
    obtain ⟨g', h1, h2⟩ := Option.bind_eq_some_iff.1 h
    obtain ⟨s, h3, rfl⟩ := Option.map_eq_some_iff.1 h2
    have hl := graphTo_len h1
    rcases Nat.lt_or_ge i k with h4 | h4
    · rw [List.getElem?_append_left (by omega)]; exact graphTo_at h1 i h4
    · obtain rfl : i = k := by omega
      rw [List.getElem?_append_right (by omega), hl, Nat.sub_self, h3]; rfl
theorem graph_parts {l : List Ins} {os : List Nat} {g : List (List Nat)} (h : graph l os = some g) : l ≠ [] ∧ g.length = l.length ∧ ∀ i, i < l.length → node l os i = g[i]? := by
  unfold graph at h
  split at h
  · cases h
  · rename_i hl
    exact ⟨hl, graphTo_len h, graphTo_at h⟩
theorem node_succ {l : List Ins} {os : List Nat} {i : Nat} {s : List Nat} (h : node l os i = some s) : succ l os i = some s := by
  unfold node at h
  obtain ⟨s', h1, h2⟩ := Option.bind_eq_some_iff.1 h
  split at h2
  · cases h2
  · split at h2
    · cases h2
    · cases h2; exact h1

/-! ### Depths -/
/-- What one takes, and puts. -/
def effect (o : Ins) : Int × Int :=
  if o.code = 10 then (1, 2) else if o.code = 11 ∨ o.code = 12 then (o.b + 1, 1)
  else if o.code = 6 ∨ o.code = 8 ∨ o.code = 9 ∨ o.code = 14 ∨ o.code = 17 ∨ o.code = 19 then (1, 0)
  else if o.code = 13 ∨ o.code = 15 ∨ o.code = 18 ∨ 20 < o.code then (0, 0) else (0, 1)
def after (o : Ins) (d : Int) : Int := d - (effect o).1 + (effect o).2
def may (o : Ins) (d : Int) : Bool := decide ((effect o).1 ≤ d) && decide (after o d ≤ 32)
/-- One way on after another. -/
def visit (a : Int) : List Nat → List Int → List Nat → Option (List Int × List Nat)
  | [], D, W => some (D, W)
  | s :: r, D, W => if D.getD s 0 = -1 then visit a r (D.set s a) (s :: W) else if D.getD s 0 = a then visit a r D W else none
/-- From the work that is left, the last one first. -/
def run (l : List Ins) (g : List (List Nat)) : Nat → List Int → List Nat → Option (List Int)
  | 0, _, _ => none
  | _ + 1, D, [] => some D
  | f + 1, D, i :: W => if may (l.getD i ⟨0, 0, 0⟩) (D.getD i 0) then (visit (after (l.getD i ⟨0, 0, 0⟩) (D.getD i 0)) (g.getD i []) D W).bind fun p => run l g f p.1 p.2 else none
def depths (l : List Ins) (g : List (List Nat)) : Option (List Int) := run l g (2 * l.length + 2) ((List.replicate l.length (-1)).set 0 0) [0]

theorem may_nonneg {o : Ins} {d : Int} (h : may o d = true) : 0 ≤ after o d ∧ after o d ≤ 32 ∧ (effect o).1 ≤ d := by
  unfold may at h
  simp only [Bool.and_eq_true, decide_eq_true_eq] at h
  have : 0 ≤ (effect o).2 := by
    unfold effect
    split
    · decide
    · split
      · simp
      · split
        · decide
        · split <;> decide
  unfold after at h ⊢
  omega
/-- How much is left to be done. -/
def left (D : List Int) (W : List Nat) : Nat := 2 * D.count (-1) + W.length
theorem count_set {D : List Int} {s : Nat} {a : Int} (hs : s < D.length) (h : D.getD s 0 = -1) (ha : a ≠ -1) : (D.set s a).count (-1) + 1 = D.count (-1) := by
  have e : D[s] = -1 := by
    rw [List.getD_eq_getElem?_getD, List.getElem?_eq_getElem hs] at h
    exact h
  have hm : 0 < D.count (-1) := List.count_pos_iff.2 (e ▸ List.getElem_mem hs)
  rw [List.count_set hs, e]
  simp [ha]
  omega
theorem visit_left {a : Int} (ha : a ≠ -1) : ∀ {r : List Nat} {D : List Int} {W : List Nat} {p : List Int × List Nat}, (∀ s ∈ r, s < D.length) → visit a r D W = some p → left p.1 p.2 ≤ left D W ∧ p.1.length = D.length
  | [], D, W, p, _, h => by cases h; exact ⟨Nat.le_refl _, rfl⟩
  | s :: r, D, W, p, hr, h => by
    unfold visit at h
    split at h
    · rename_i h1
      have h2 := visit_left ha (fun x hx => by rw [List.length_set]; exact hr x (by simp [hx])) h
      have h3 := count_set (hr s (by simp)) h1 ha
      unfold left at h2 ⊢
      simp only [List.length_cons, List.length_set] at h2
      omega
    · split at h
      · exact visit_left ha (fun x hx => hr x (by simp [hx])) h
      · cases h
/-- More fuel, the same. -/
theorem run_more {l : List Ins} {g : List (List Nat)} : ∀ {f : Nat} {D : List Int} {W : List Nat} {E : List Int}, run l g f D W = some E → ∀ k, run l g (f + k) D W = some E
  | 0, _, _, _, h, _ => by cases h
  | f + 1, D, [], E, h, k => by rw [show f + 1 + k = (f + k) + 1 by omega]; exact h
  | f + 1, D, i :: W, E, h, k => by
    rw [show f + 1 + k = (f + k) + 1 by omega]
    unfold run at h ⊢
    split at h
    · rename_i hm
      rw [if_pos hm]
      obtain ⟨p, h1, h2⟩ := Option.bind_eq_some_iff.1 h
      rw [h1, Option.bind_some]
      exact run_more h2 k
    · cases h
/-- What is so in the end: the first one at 0, each one that is come to has room, and all behind it stand as it says. -/
structure Settled (l : List Ins) (g : List (List Nat)) (D : List Int) (W : List Nat) : Prop where
  len : D.length = l.length
  work : ∀ i ∈ W, i < l.length ∧ D.getD i 0 ≠ -1
  low : ∀ i, i < l.length → -1 ≤ D.getD i 0
  done : ∀ i, i < l.length → D.getD i 0 ≠ -1 → i ∉ W → may (l.getD i ⟨0, 0, 0⟩) (D.getD i 0) = true ∧ ∀ s ∈ g.getD i [], D.getD s 0 = after (l.getD i ⟨0, 0, 0⟩) (D.getD i 0)
theorem getD_set {α : Type} (D : List α) (s i : Nat) (a z : α) : (D.set s a).getD i z = if s = i ∧ i < D.length then a else D.getD i z := by
  simp only [List.getD_eq_getElem?_getD, List.getElem?_set]
  by_cases h1 : s = i
  · subst h1
    by_cases h2 : s < D.length
    · simp [h2]
    · simp [h2]
  · simp [h1]
theorem visit_grows {a : Int} (ha : a ≠ -1) : ∀ {r : List Nat} {D : List Int} {W : List Nat} {p : List Int × List Nat}, (∀ s ∈ r, s < D.length) → visit a r D W = some p →
    (∀ i, D.getD i 0 ≠ -1 → p.1.getD i 0 = D.getD i 0) ∧ (∀ i, p.1.getD i 0 ≠ -1 → D.getD i 0 = -1 → p.1.getD i 0 = a ∧ i ∈ p.2 ∧ i ∈ r) ∧ (∀ i ∈ W, i ∈ p.2) ∧ (∀ i ∈ p.2, i ∈ W ∨ (i ∈ r ∧ p.1.getD i 0 = a)) ∧ ∀ s ∈ r, p.1.getD s 0 = a
  | [], D, W, p, _, h => by
    cases h
    exact ⟨fun _ _ => rfl, fun i h1 h2 => absurd h2 h1, fun _ h => h, fun _ h => .inl h, by simp⟩
  | s :: r, D, W, p, hr, h => by
    have hs := hr s (by simp)
    unfold visit at h
    split at h
    · rename_i h1
      obtain ⟨k1, k2, k3, k4, k5⟩ := visit_grows ha (fun x hx => by rw [List.length_set]; exact hr x (by simp [hx])) h
      have e : ∀ i, (D.set s a).getD i 0 = if s = i then a else D.getD i 0 := fun i => by
        rw [getD_set]
        by_cases h2 : s = i
        · subst h2; simp [hs]
        · simp [h2]
      have ps : p.1.getD s 0 = a := by
        have := k1 s (by rw [e, if_pos rfl]; exact ha)
        rw [this, e, if_pos rfl]
      refine ⟨fun i hi => ?_, fun i hi1 hi2 => ?_, fun i hi => k3 i (by simp [hi]), fun i hi => ?_, fun x hx => ?_⟩
      · have hne : s ≠ i := fun h => by subst h; exact hi h1
        have := k1 i (by rw [e, if_neg hne]; exact hi)
        rw [this, e, if_neg hne]
      · by_cases h2 : s = i
        · subst h2
          exact ⟨ps, k3 s (by simp), by simp⟩
        · obtain ⟨q1, q2, q3⟩ := k2 i hi1 (by rw [e, if_neg h2]; exact hi2)
          exact ⟨q1, q2, by simp [q3]⟩
      · rcases k4 i hi with h2 | h2
        · rcases List.mem_cons.1 h2 with rfl | h2
          · exact .inr ⟨by simp, ps⟩
          · exact .inl h2
        · exact .inr ⟨by simp [h2.1], h2.2⟩
      · rcases List.mem_cons.1 hx with rfl | hx
        · exact ps
        · exact k5 x hx
    · rename_i h1
      split at h
      · rename_i h2
        obtain ⟨k1, k2, k3, k4, k5⟩ := visit_grows ha (fun x hx => hr x (by simp [hx])) h
        refine ⟨k1, fun i a1 a2 => ?_, k3, fun i hi => ?_, fun x hx => ?_⟩
        · obtain ⟨q1, q2, q3⟩ := k2 i a1 a2
          exact ⟨q1, q2, by simp [q3]⟩
        · rcases k4 i hi with h2 | h2
          · exact .inl h2
          · exact .inr ⟨by simp [h2.1], h2.2⟩
        · rcases List.mem_cons.1 hx with rfl | hx
          · rw [k1 x h1, h2]
          · exact k5 x hx
      · cases h
theorem run_settled {l : List Ins} {g : List (List Nat)} (hg : ∀ i, ∀ s ∈ g.getD i [], s < l.length) : ∀ {f : Nat} {D : List Int} {W : List Nat} {E : List Int}, Settled l g D W → run l g f D W = some E → Settled l g E [] ∧ ∀ i, D.getD i 0 ≠ -1 → E.getD i 0 = D.getD i 0
  | 0, _, _, _, _, h => by cases h
  | f + 1, D, [], E, hS, h => by cases h; exact ⟨hS, fun _ _ => rfl⟩
  | f + 1, D, i :: W, E, hS, h => by
    unfold run at h
    split at h
    · rename_i hm
      obtain ⟨p, h1, h2⟩ := Option.bind_eq_some_iff.1 h
      have hmn := may_nonneg hm
      have ha : after (l.getD i ⟨0, 0, 0⟩) (D.getD i 0) ≠ -1 := by omega
      have hlen : ∀ s ∈ g.getD i [], s < D.length := fun s hs => by rw [hS.len]; exact hg i s hs
      obtain ⟨k1, k2, k3, k4, k5⟩ := visit_grows ha hlen h1
      obtain ⟨hi1, hi2⟩ := hS.work i (by simp)
      have hS2 : Settled l g p.1 p.2 := by
        refine ⟨(visit_left ha hlen h1).2.trans hS.len, fun j hj => ?_, fun j hj => ?_, fun j hj hj1 hj2 => ?_⟩
        · rcases k4 j hj with h3 | h3
          · obtain ⟨q1, q2⟩ := hS.work j (by simp [h3])
            exact ⟨q1, by rw [k1 j q2]; exact q2⟩
          · exact ⟨hg i j h3.1, by rw [h3.2]; exact ha⟩
        · by_cases h3 : D.getD j 0 = -1
          · by_cases h4 : p.1.getD j 0 = -1
            · rw [h4]; omega
            · rw [(k2 j h4 h3).1]; omega
          · rw [k1 j h3]; exact hS.low j hj
        · by_cases h3 : D.getD j 0 = -1
          · exact absurd (k2 j hj1 h3).2.1 hj2
          · rw [k1 j h3]
            by_cases h4 : j = i
            · subst h4
              exact ⟨hm, k5⟩
            · have h5 : j ∉ i :: W := by
                intro h6
                rcases List.mem_cons.1 h6 with h6 | h6
                · exact h4 h6
                · exact hj2 (k3 j h6)
              obtain ⟨q1, q2⟩ := hS.done j hj h3 h5
              refine ⟨q1, fun s hs => ?_⟩
              have q3 := q2 s hs
              have q4 := (may_nonneg q1).1
              rw [k1 s (by omega)]; exact q3
      obtain ⟨r1, r2⟩ := run_settled hg hS2 h2
      refine ⟨r1, fun j hj => ?_⟩
      have := k1 j hj
      rw [r2 j (by rw [this]; exact hj), this]
    · cases h
theorem start_getD (n i : Nat) : ((List.replicate n (-1 : Int)).set 0 0).getD i 0 = if i < n ∧ i ≠ 0 then -1 else 0 := by
  rw [getD_set]
  by_cases h0 : i = 0
  · subst h0
    by_cases hn : 0 < n
    · simp [hn]
    · obtain rfl : n = 0 := by omega
      rfl
  · by_cases hi : i < n
    · have : ¬ (0 = i ∧ i < (List.replicate n (-1 : Int)).length) := fun h => h0 h.1.symm
      rw [if_neg this, if_pos ⟨hi, h0⟩]
      simp [List.getD_eq_getElem?_getD, hi]
    · have : ¬ (0 = i ∧ i < (List.replicate n (-1 : Int)).length) := fun h => h0 h.1.symm
      rw [if_neg this, if_neg (fun h => hi h.1)]
      simp [List.getD_eq_getElem?_getD, hi]
theorem settled_start (l : List Ins) (g : List (List Nat)) (hl : l ≠ []) : Settled l g ((List.replicate l.length (-1)).set 0 0) [0] := by
  have hp := List.length_pos_iff.2 hl
  refine ⟨by simp, fun i hi => ?_, fun i hi => ?_, fun i hi h1 h2 => ?_⟩
  · obtain rfl := List.mem_singleton.1 hi
    exact ⟨hp, by rw [start_getD]; simp⟩
  · rw [start_getD]; split <;> omega
  · exfalso
    apply h1
    rw [start_getD, if_pos ⟨hi, fun h => h2 (by simp [h])⟩]
/-- FL1: what the depths are. -/
theorem depths_settled {l : List Ins} {g : List (List Nat)} {D : List Int} (hl : l ≠ []) (hg : ∀ i, ∀ s ∈ g.getD i [], s < l.length) (h : depths l g = some D) : Settled l g D [] ∧ D.getD 0 0 = 0 := by
  obtain ⟨h1, h2⟩ := run_settled hg (settled_start l g hl) h
  refine ⟨h1, ?_⟩
  rw [h2 0 (by rw [start_getD]; simp), start_getD]
  simp
end Go.Proofs.YtilikjfjbnabfaaGreatDoor.Fl

/- Plain mathematics: what the document's own Depths, reaches and Post come to. No program is named here. -/
import Derived.Test.YtilikjfjbnabfaaGreatDoorFlU
import Derived.Test.YtilikjfjbnabfaaGreatDoorFl7
import Derived.Test.YtilikjfjbnabfaaGreatDoorOp14
import Derived.Test.YtilikjfjbnabfaaGreatDoorFlD
import Derived.ArgAppend
namespace Go.Proofs.YtilikjfjbnabfaaGreatDoor.Fl
open Go.RowKit Op7

def Below (D E : List Int) : Prop := ∀ i, D.getD i 0 ≠ -1 → D.getD i 0 = E.getD i 0
theorem Below.set {D E : List Int} (h : Below D E) {s : Nat} {a : Int} (ha : E.getD s 0 = a) : Below (D.set s a) E := by
  intro i hi
  rw [getD_set] at hi ⊢
  split
  · rename_i h1
    rw [← h1.1]; exact ha.symm
  · rename_i h1
    rw [if_neg h1] at hi
    exact h i hi
theorem visit_some {a : Int} {E : List Int} : ∀ {r : List Nat} {D : List Int} {W : List Nat}, (∀ s ∈ r, E.getD s 0 = a) → Below D E → ∃ p, visit a r D W = some p ∧ Below p.1 E
  | [], D, W, _, h => ⟨_, rfl, h⟩
  | s :: r, D, W, hr, h => by
    have hs := hr s (by simp)
    have hr' : ∀ s ∈ r, E.getD s 0 = a := fun x hx => hr x (by simp [hx])
    unfold visit
    by_cases h1 : D.getD s 0 = -1
    · rw [if_pos h1]
      exact visit_some hr' (h.set hs)
    · rw [if_neg h1, if_pos (by rw [h s h1, hs])]
      exact visit_some hr' h
theorem run_some {l : List Ins} {g : List (List Nat)} {E : List Int} (hS : Settled l g E []) (hg : ∀ i, ∀ s ∈ g.getD i [], s < l.length) : ∀ {f : Nat} {D : List Int} {W : List Nat}, D.length = l.length → (∀ i ∈ W, i < l.length ∧ D.getD i 0 ≠ -1) → Below D E → left D W < f → ∃ F, run l g f D W = some F
  | 0, _, _, _, _, _, h => by omega
  | f + 1, D, [], _, _, _, _ => ⟨D, rfl⟩
  | f + 1, D, i :: W, hl, hW, hB, hf => by
    obtain ⟨hi, hi2⟩ := hW i (by simp)
    have he := hB i hi2
    obtain ⟨hm, hs⟩ := hS.done i hi (by rw [← he]; exact hi2) (by simp)
    rw [← he] at hm hs
    have hlen : ∀ s ∈ g.getD i [], s < D.length := fun s hs => by rw [hl]; exact hg i s hs
    have ha : after (l.getD i ⟨0, 0, 0⟩) (D.getD i 0) ≠ -1 := by have := may_nonneg hm; omega
    obtain ⟨p, hp, hpB⟩ := visit_some (W := W) hs hB
    obtain ⟨v1, v2⟩ := visit_left ha hlen hp
    obtain ⟨k1, k2, k3, k4, k5⟩ := visit_grows ha hlen hp
    unfold run
    rw [if_pos hm, hp, Option.bind_some]
    refine run_some hS hg (by rw [v2, hl]) (fun j hj => ?_) hpB ?_
    · rcases k4 j hj with h1 | ⟨h1, h2⟩
      · obtain ⟨q1, q2⟩ := hW j (by simp [h1])
        exact ⟨q1, by rw [k1 j q2]; exact q2⟩
      · exact ⟨hg i j h1, by rw [h2]; exact ha⟩
    · unfold left at v1 hf ⊢
      rw [List.length_cons] at hf
      omega
theorem depths_some {l : List Ins} {g : List (List Nat)} {E : List Int} (hl : l ≠ []) (hg : ∀ i, ∀ s ∈ g.getD i [], s < l.length) (hS : Settled l g E []) (h0 : E.getD 0 0 = 0) : ∃ D, depths l g = some D := by
  have hp := List.length_pos_iff.2 hl
  unfold depths
  refine run_some hS hg (by simp) (fun i hi => ?_) (fun i hi => ?_) ?_
  · obtain rfl := List.mem_singleton.1 hi
    exact ⟨hp, by rw [start_getD]; simp⟩
  · rw [start_getD] at hi ⊢
    split
    · rename_i h; rw [if_pos h] at hi; exact absurd rfl hi
    · rename_i h
      by_cases h1 : i = 0
      · rw [h1, h0]
      · rw [List.getD_eq_getElem?_getD, List.getElem?_eq_none (by rw [hS.len]; omega)]; rfl
  · unfold left
    have h1 : ((List.replicate l.length (-1 : Int)).set 0 0).count (-1) ≤ l.length := by
      have := List.count_le_length (a := (-1 : Int)) (l := (List.replicate l.length (-1 : Int)).set 0 0)
      rwa [List.length_set, List.length_replicate] at this
    simp only [List.length_singleton]
    omega
theorem graph_none {l : List Ins} {os : List Nat} {i : Nat} (hi : i < l.length) (h : node l os i = none) : graph l os = none := by
  unfold graph
  split
  · rfl
  · refine graphTo_none (k := i + 1) ?_ _ (by omega)
    unfold graphTo
    cases graphTo l os i with
    | none => rfl
    | some g => rw [Option.bind_some, h]; rfl
theorem graph_some {l : List Ins} {os : List Nat} (hl : l ≠ []) (h : ∀ i, i < l.length → node l os i ≠ none) : ∃ g, graph l os = some g := by
  unfold graph
  rw [if_neg hl]
  have : ∀ k, k ≤ l.length → ∃ g, graphTo l os k = some g := by
    intro k
    induction k with
    | zero => exact fun _ => ⟨_, rfl⟩
    | succ k ih =>
      intro hk
      obtain ⟨g, hg⟩ := ih (by omega)
      obtain ⟨s, hs⟩ := Option.ne_none_iff_exists'.1 (h k (by omega))
      exact ⟨g ++ [s], by unfold graphTo; rw [hg, Option.bind_some, hs]; rfl⟩
  exact this _ (Nat.le_refl _)

/-! ### One instruction after another, again and again -/
/-- The i-th one is settled. -/
def Calm (l : List Ins) (g : List (List Nat)) (D : List Int) (i : Nat) : Prop := D.getD i 0 ≠ -1 → may (l.getD i ⟨0, 0, 0⟩) (D.getD i 0) = true ∧ ∀ s ∈ g.getD i [], D.getD s 0 = after (l.getD i ⟨0, 0, 0⟩) (D.getD i 0)
theorem calm_depths {l : List Ins} {g : List (List Nat)} {D : List Int} (hl : l ≠ []) (hg : ∀ i, ∀ s ∈ g.getD i [], s < l.length) (hD : D.length = l.length) (hb : ∀ i, -1 ≤ D.getD i 0) (h0 : D.getD 0 0 = 0) (h : ∀ i, i < l.length → Calm l g D i) : ∃ E, depths l g = some E :=
  depths_some hl hg ⟨hD, by simp, fun i _ => hb i, fun i hi h1 _ => h i hi h1⟩ h0
/-- As far as it has come, it is below what the depths are. -/
def Under (l : List Ins) (g : List (List Nat)) (D : List Int) : Prop := ∀ E, depths l g = some E → Below D E
theorem under_calm {l : List Ins} {g : List (List Nat)} {D : List Int} (hl : l ≠ []) (hg : ∀ i, ∀ s ∈ g.getD i [], s < l.length) (h : Under l g D) {i : Nat} (hi : i < l.length) (h1 : D.getD i 0 ≠ -1) (E : List Int) (hE : depths l g = some E) : may (l.getD i ⟨0, 0, 0⟩) (D.getD i 0) = true ∧ ∀ s ∈ g.getD i [], E.getD s 0 = after (l.getD i ⟨0, 0, 0⟩) (D.getD i 0) := by
  have hS := (depths_settled hl hg hE).1
  have e := h E hE i h1
  rw [e]
  exact hS.done i hi (by rw [← e]; exact h1) (by simp)
theorem under_may {l : List Ins} {g : List (List Nat)} {D : List Int} (hl : l ≠ []) (hg : ∀ i, ∀ s ∈ g.getD i [], s < l.length) (h : Under l g D) {i : Nat} (hi : i < l.length) (h1 : D.getD i 0 ≠ -1) (hm : may (l.getD i ⟨0, 0, 0⟩) (D.getD i 0) = false) : depths l g = none := by
  cases hd : depths l g with
  | none => rfl
  | some E => have := (under_calm hl hg h hi h1 E hd).1; rw [hm] at this; cases this
/-- What those behind must have: of 'a', one by one. -/
def Want (l : List Ins) (g : List (List Nat)) (a : Int) (r : List Nat) : Prop := ∀ E, depths l g = some E → ∀ s ∈ r, E.getD s 0 = a
theorem want_not {l : List Ins} {g : List (List Nat)} {D : List Int} {a : Int} {r : List Nat} (h : Under l g D) (hw : Want l g a r) {s : Nat} (hs : s ∈ r) (h1 : D.getD s 0 ≠ -1) (h2 : D.getD s 0 ≠ a) : depths l g = none := by
  cases hd : depths l g with
  | none => rfl
  | some E => exact absurd ((h E hd s h1).trans (hw E hd s hs)) h2
theorem Under.set {l : List Ins} {g : List (List Nat)} {D : List Int} {a : Int} {r : List Nat} (h : Under l g D) (hw : Want l g a r) {s : Nat} (hs : s ∈ r) : Under l g (D.set s a) := fun E hE => (h E hE).set (hw E hE s hs)

/-! ### Reached, without -/
structure Seek (g : List (List Nat)) (n : Nat) (w : Int) (b : Nat) (S : List Bool) (Q : List Nat) : Prop where
  len : S.length = n
  start : b ∈ Q ∨ (b : Int) = w ∨ S.getD b false = true
  back : ∀ i ∈ Q, Rch g w i → Rch g w b
  seen : ∀ i, S.getD i false = true → (i : Int) ≠ w ∧ g.getD i [] ≠ [] ∧ ∀ k ∈ g.getD i [], k ∈ Q ∨ (k : Int) = w ∨ S.getD k false = true
  lt : ∀ i ∈ Q, i < n
theorem seek_start (g : List (List Nat)) {n : Nat} (w : Int) {b : Nat} (hb : b < n) : Seek g n w b (List.replicate n false) [b] := by
  refine ⟨by simp, .inl (by simp), fun i hi h => by obtain rfl := List.mem_singleton.1 hi; exact h, fun i hi => ?_, fun i hi => by obtain rfl := List.mem_singleton.1 hi; exact hb⟩
  exfalso
  rw [List.getD_eq_getElem?_getD] at hi
  by_cases h : i < n
  · simp [h] at hi
  · simp [h] at hi
theorem Seek.skip {g : List (List Nat)} {n : Nat} {w : Int} {b : Nat} {S : List Bool} {i : Nat} {Q : List Nat} (h : Seek g n w b S (i :: Q)) (hi : (i : Int) = w ∨ S.getD i false = true) : Seek g n w b S Q := by
  have key : ∀ k, k ∈ i :: Q ∨ (k : Int) = w ∨ S.getD k false = true → k ∈ Q ∨ (k : Int) = w ∨ S.getD k false = true := by
    rintro k (h1 | h1)
    · rcases List.mem_cons.1 h1 with rfl | h1
      · exact .inr hi
      · exact .inl h1
    · exact .inr h1
  exact ⟨h.len, key _ h.start, fun k hk => h.back k (by simp [hk]), fun k hk => ⟨(h.seen k hk).1, (h.seen k hk).2.1, fun x hx => key x ((h.seen k hk).2.2 x hx)⟩, fun k hk => h.lt k (by simp [hk])⟩
theorem Seek.yes {g : List (List Nat)} {n : Nat} {w : Int} {b : Nat} {S : List Bool} {i : Nat} {Q : List Nat} (h : Seek g n w b S (i :: Q)) (hg : g.length = n) (hi : (i : Int) ≠ w) (he : g.getD i [] = []) : Rch g w b :=
  h.back i (by simp) (.last hi (by have := h.lt i (by simp); omega) he)
theorem Seek.push {g : List (List Nat)} {n : Nat} {w : Int} {b : Nat} {S : List Bool} {i : Nat} {Q : List Nat} (h : Seek g n w b S (i :: Q)) (hs : ∀ s ∈ g.getD i [], s < n) (hi : (i : Int) ≠ w) (he : g.getD i [] ≠ []) : Seek g n w b (S.set i true) (Q ++ g.getD i []) := by
  have hin := h.lt i (by simp)
  have hget : ∀ k, (S.set i true).getD k false = true ↔ k = i ∨ S.getD k false = true := by
    intro k
    rw [getD_set]
    by_cases e : i = k
    · subst e; rw [if_pos ⟨rfl, by rw [h.len]; exact hin⟩]; simp
    · rw [if_neg (fun h => e h.1)]
      constructor
      · exact .inr
      · rintro (h1 | h1)
        · exact absurd h1.symm e
        · exact h1
  have key : ∀ k, k ∈ i :: Q ∨ (k : Int) = w ∨ S.getD k false = true → k ∈ Q ++ g.getD i [] ∨ (k : Int) = w ∨ (S.set i true).getD k false = true := by
    rintro k (h1 | h1 | h1)
    · rcases List.mem_cons.1 h1 with rfl | h1
      · exact .inr (.inr ((hget _).2 (.inl rfl)))
      · exact .inl (List.mem_append_left _ h1)
    · exact .inr (.inl h1)
    · exact .inr (.inr ((hget _).2 (.inr h1)))
  refine ⟨by rw [List.length_set]; exact h.len, key _ h.start, fun k hk hr => ?_, fun k hk => ?_, fun k hk => ?_⟩
  · rcases List.mem_append.1 hk with h1 | h1
    · exact h.back k (by simp [h1]) hr
    · exact h.back i (by simp) (.step hi h1 hr)
  · rcases (hget k).1 hk with rfl | h1
    · exact ⟨hi, he, fun x hx => .inl (List.mem_append_right _ hx)⟩
    · obtain ⟨q1, q2, q3⟩ := h.seen k h1
      exact ⟨q1, q2, fun x hx => key x (q3 x hx)⟩
  · rcases List.mem_append.1 hk with h1 | h1
    · exact h.lt k (by simp [h1])
    · exact hs k h1
theorem Seek.no {g : List (List Nat)} {n : Nat} {w : Int} {b : Nat} {S : List Bool} (h : Seek g n w b S []) : ¬ Rch g w b := by
  have key : ∀ i, Rch g w i → S.getD i false = true → False := by
    intro i hi
    induction hi with
    | last h1 _ h3 => exact fun hs => (h.seen _ hs).2.1 h3
    | step h1 h2 h3 ih =>
      intro hs
      rcases (h.seen _ hs).2.2 _ h2 with h4 | h4 | h4
      · cases h4
      · exact h3.ne h4
      · exact ih h4
  intro hr
  rcases h.start with h1 | h1 | h1
  · cases h1
  · exact hr.ne h1
  · exact key b hr h1
theorem count_true {S : List Bool} {i : Nat} (hi : i < S.length) (h : S.getD i false = false) : (S.set i true).count false + 1 = S.count false := by
  have e : S[i] = false := by
    rw [List.getD_eq_getElem?_getD, List.getElem?_eq_getElem hi] at h
    exact h
  have hm : 0 < S.count false := List.count_pos_iff.2 (e ▸ List.getElem_mem hi)
  rw [List.count_set hi, e]
  simp
  omega
theorem norm_len (l : List Nat) : (norm l).length ≤ l.length := by
  unfold norm
  split
  · split
    · simp
    · split <;> simp
  · exact Nat.le_refl _
theorem succ_len {l : List Ins} {os : List Nat} {i : Nat} {s : List Nat} (h : succ l os i = some s) : s.length ≤ 2 := by
  obtain ⟨o, _, p, h1, ⟨_, t, _, rfl⟩ | ⟨_, rfl⟩⟩ := succ_parts h
  · have := nextOf_len h1
    have h2 := norm_len (p ++ [t])
    simp at h2
    omega
  · have := nextOf_len h1
    have h2 := norm_len p
    omega

/-! ### The first of those without which no end is come to -/
/-- Those below k. -/
def MustTo (g : List (List Nat)) (i k : Nat) (M : List Nat) : Prop := ∀ x, x ∈ M ↔ x < k ∧ x ≠ i ∧ ¬ Rch g x i
theorem mustTo_start (g : List (List Nat)) (i : Nat) : MustTo g i 0 [] := fun x => by simp
theorem MustTo.skip {g : List (List Nat)} {i k : Nat} {M : List Nat} (h : MustTo g i k M) (hk : k = i ∨ Rch g k i) : MustTo g i (k + 1) M := fun x => by
  rw [h x]
  constructor
  · exact fun ⟨a, b⟩ => ⟨by omega, b⟩
  · rintro ⟨a, b, c⟩
    refine ⟨?_, b, c⟩
    rcases Nat.lt_or_ge x k with h1 | h1
    · exact h1
    · obtain rfl : x = k := by omega
      rcases hk with hk | hk
      · exact absurd hk b
      · exact absurd hk c
theorem MustTo.push {g : List (List Nat)} {i k : Nat} {M : List Nat} (h : MustTo g i k M) (h1 : k ≠ i) (h2 : ¬ Rch g k i) : MustTo g i (k + 1) (M ++ [k]) := fun x => by
  rw [List.mem_append, h x, List.mem_singleton]
  constructor
  · rintro (⟨a, b⟩ | rfl)
    · exact ⟨by omega, b⟩
    · exact ⟨by omega, h1, h2⟩
  · rintro ⟨a, b, c⟩
    rcases Nat.lt_or_ge x k with h3 | h3
    · exact .inl ⟨h3, b, c⟩
    · exact .inr (by omega)
theorem MustTo.must {g : List (List Nat)} {i n : Nat} {M : List Nat} (h : MustTo g i n M) (hg : g.length = n) (x : Nat) : x ∈ M ↔ Must g i x := by
  rw [h x, ← hg]; rfl
/-- As far as its number, the a-th one is the first. -/
def FirstTo (g : List (List Nat)) (M : List Nat) (a c : Nat) : Prop := ∀ j, j < c → j ≠ a → ¬ Rch g (M.getD j 0) (M.getD a 0)
theorem firstTo_first {g : List (List Nat)} {i n : Nat} {M : List Nat} (h : MustTo g i n M) (hg : g.length = n) {a : Nat} : FirstTo g M a M.length ↔ First g i (M.getD a 0) := by
  constructor
  · intro hF c hc hne
    obtain ⟨j, hj, rfl⟩ := List.mem_iff_getElem.1 ((h.must hg c).2 hc)
    have := hF j hj (fun e => hne (by subst e; rw [List.getD_eq_getElem?_getD, List.getElem?_eq_getElem hj]; rfl))
    rwa [List.getD_eq_getElem?_getD (i := j), List.getElem?_eq_getElem hj] at this
  · intro hF j hj hne
    have hm : Must g i (M.getD j 0) := (h.must hg _).1 (by rw [List.getD_eq_getElem?_getD, List.getElem?_eq_getElem hj]; exact List.getElem_mem hj)
    by_cases e : M.getD j 0 = M.getD a 0
    · rw [e]; exact fun hr => hr.ne rfl
    · exact hF _ hm e
/-- What stands in the answer, the first a looked at. -/
def SaysTo (g : List (List Nat)) (i : Nat) (M : List Nat) (a : Nat) (v : Int) : Prop := (v = -1 ∧ ∀ j, j < a → ¬ First g i (M.getD j 0)) ∨ ∃ x : Nat, v = x ∧ Must g i x ∧ First g i x
theorem SaysTo.says {g : List (List Nat)} {i n : Nat} {M : List Nat} {v : Int} (h : SaysTo g i M M.length v) (hM : MustTo g i n M) (hg : g.length = n) (hr : Rch g (-1) i) : Says g i v := by
  rcases h with ⟨h1, h2⟩ | ⟨x, h1, h2, h3⟩
  · refine .inl ⟨h1, .inr fun a ha => ?_⟩
    obtain ⟨j, hj, rfl⟩ := List.mem_iff_getElem.1 ((hM.must hg a).2 ha)
    have := h2 j hj
    rwa [List.getD_eq_getElem?_getD, List.getElem?_eq_getElem hj] at this
  · exact .inr ⟨x, h1, hr, h2, h3⟩
end Go.Proofs.YtilikjfjbnabfaaGreatDoor.Fl
/- Stage 8: the document's own Place, moves, next. -/
namespace Go.Proofs.YtilikjfjbnabfaaGreatDoor.Fl
open Go.RowKit Op7

def placeI (os : List Nat) (x : Int) : Int := match place os x with
  | some k => ((k : Nat) : Int)
  | none => -1
theorem place_at {os : List Nat} (hu : os.Pairwise (· < ·)) {i : Nat} {x : Int} (hi : i < os.length) (h : ((os.getD i 0 : Nat) : Int) = x) : place os x = some i := by
  have e : os.getD i 0 = os[i] := by rw [List.getD_eq_getElem?_getD, List.getElem?_eq_getElem hi]; rfl
  rw [e] at h
  subst h
  unfold place
  have hm : (toI os).contains ((os[i] : Nat) : Int) = true := by
    have : ((os[i] : Nat) : Int) ∈ toI os := List.mem_map.2 ⟨_, List.getElem_mem hi, rfl⟩
    simpa using this
  rw [if_pos hm]
  congr 1
  have hs : os = os.take i ++ os.drop i := (List.take_append_drop i os).symm
  have hl := List.pairwise_iff_getElem.1 hu
  have lo : ∀ j (hj : j < os.length), j < i → os[j] < os[i] := fun j hj h => hl j i hj hi h
  have up : ∀ j (hj : j < os.length), i ≤ j → os[i] ≤ os[j] := fun j hj h => by
    rcases Nat.eq_or_lt_of_le h with rfl | h
    · exact Nat.le_refl _
    · exact Nat.le_of_lt (hl i j hi hj h)
  generalize os[i] = z at lo up
  unfold toI
  rw [List.countP_map, hs, List.countP_append]
  have h1 : (os.take i).countP ((fun y : Int => decide (y < ((z : Nat) : Int))) ∘ fun x : Nat => (x : Int)) = i := by
    have : (os.take i).length = i := by rw [List.length_take]; omega
    refine (List.countP_eq_length.2 fun a ha => ?_).trans this
    obtain ⟨j, hj, rfl⟩ := List.mem_iff_getElem.1 ha
    rw [List.getElem_take]
    have := lo j (by rw [List.length_take] at hj; omega) (by rw [List.length_take] at hj; omega)
    simp; omega
  have h2 : (os.drop i).countP ((fun y : Int => decide (y < ((z : Nat) : Int))) ∘ fun x : Nat => (x : Int)) = 0 := by
    refine List.countP_eq_zero.2 fun a ha => ?_
    obtain ⟨j, hj, rfl⟩ := List.mem_iff_getElem.1 ha
    rw [List.getElem_drop]
    have := up (i + j) (by rw [List.length_drop] at hj; omega) (by omega)
    simp; omega
  omega
theorem place_not {os : List Nat} {x : Int} (h : ∀ j, j < os.length → ((os.getD j 0 : Nat) : Int) ≠ x) : place os x = none := by
  unfold place
  rw [if_neg]
  intro hc
  have hm : x ∈ toI os := by simpa using hc
  obtain ⟨y, hy, rfl⟩ := List.mem_map.1 hm
  obtain ⟨j, hj, rfl⟩ := List.mem_iff_getElem.1 hy
  exact h j hj (by rw [List.getD_eq_getElem?_getD, List.getElem?_eq_getElem hj]; rfl)
end Go.Proofs.YtilikjfjbnabfaaGreatDoor.Fl
namespace Go.Proofs.YtilikjfjbnabfaaGreatDoor
open Go.RowKit

set_option maxRecDepth 100000 in
set_option maxHeartbeats 1000000 in
theorem rplace_c (A1 : Option Addr) (A2 : Option Addr) (c2 n : Nat) (l : List Op7.Ins) (os : List Nat) (x : Int) (w : World) (h : CodeAt w A1 A2 c2 n l os) :
    Calls Tryz.prog 28 #[.slice A2 n c2, .int .i64 x] w (fun e w' => e = .returned (.int .i64 (Fl.placeI os x)) ∧ Grew w w') := by
  have H := hid h.offs
  have HN := hid h.l2
  have HU := hid h.up
  have hn := h.few
  clear h
  go_enter Tryz.func28, Tryz.ntmps28
  go_wp2_with fail
  go_loopw [5] (fun s5 wr => ∃ i : Nat, s5 = .int .i64 ((i : Nat) : Int) ∧ i ≤ n ∧ Hid (∀ j, j < i → ((os.getD j 0 : Nat) : Int) ≠ x) ∧ (∃ y : After w, wr = y.w)) (fun s5 _ => n - (intOf s5).toNat)
  case atStart => exact ⟨0, rfl, Nat.zero_le _, hid (fun j hj => by omega), Grew.refl w⟩
  case round =>
    obtain ⟨i, rfl, hi, HI, y, rfl⟩ := hrel
    by_cases hlt : i < n
    · have f1 : (i : Int) < n := by omega
      rcases Row.cases (H.out.grew y.grew) with ⟨_, _, _, ⟨_, h0, _⟩ | ⟨gs, rfl, _, hgsl, hcs, _⟩⟩
      · exfalso
        have := HN.out
        omega
      have qx : y.w.cell? ⟨gs, i, none⟩ = some (.int .i64 ((os.getD i 0 : Nat) : Int)) := hcs i _ (numCells_get .i64 os i (by rw [← HN.out]; exact hlt))
      by_cases he : ((os.getD i 0 : Nat) : Int) = x
      · have HX := hid (show Fl.placeI os x = ((i : Nat) : Int) by unfold Fl.placeI; rw [Fl.place_at HU.out (by rw [← HN.out]; exact hlt) he])
        rw [he] at qx
        clear he hcs
        go_wp2_with fail
        go_ret
        exact ⟨ret_int HX.out.symm, y.grew⟩
      · have e1 : (((os.getD i 0 : Nat) : Int) == x) = false := by rw [beq_eq_false_iff_ne]; exact he
        have HX := hid he
        clear he hcs
        have HJ : Hid (∀ j, j < i + 1 → ((os.getD j 0 : Nat) : Int) ≠ x) := hid (fun j hj => by
          by_cases e : j = i
          · rw [e]; exact HX.out
          · exact HI.out j (by omega))
        clear HX HI
        generalize os.getD i 0 = v at qx e1
        go_wp2_with fail
        go_round
        case rel => exact ⟨i + 1, by go_num, by omega, HJ, y.grew⟩
        case measure => simp [intOf]; omega
    · obtain rfl : i = n := by omega
      have HX : Hid (Fl.placeI os x = -1) := hid (by unfold Fl.placeI; rw [Fl.place_not (fun j hj => HI.out j (by rw [HN.out]; exact hj))])
      go_wp2_with fail
      go_ret
      exact ⟨ret_int HX.out.symm, y.grew⟩
set_option maxRecDepth 100000 in
set_option maxHeartbeats 2000000 in
theorem rmoves_c (o : Op7.Ins) (w : World) (hc : o.code < 21) (hb : 0 ≤ o.b ∧ o.b ≤ 65536) :
    Calls Tryz.prog 29 #[.agg (opCells o)] w (fun e w' => e = .returned (.tuple #[.int .i64 (Fl.effect o).1, .int .i64 (Fl.effect o).2]) ∧ Grew w w') := by
  obtain ⟨c, a, b⟩ := o
  show Calls _ _ #[.agg #[.int .u8 ((c : Nat) : Int), .int .i64 a, .int .i64 b]] w _
  change 0 ≤ b ∧ b ≤ 65536 at hb
  change c < 21 at hc
  obtain ⟨b0, b1⟩ := hb
  have hg := hid ((Grew.refl w).alloc (.cells #[.int .u8 ((c : Nat) : Int), .int .i64 a, .int .i64 b] 70))
  unfold Fl.effect
  simp only
  rcases (by omega : c = 0 ∨ c = 1 ∨ c = 2 ∨ c = 3 ∨ c = 4 ∨ c = 5 ∨ c = 6 ∨ c = 7 ∨ c = 8 ∨ c = 9 ∨ c = 10 ∨ c = 11 ∨ c = 12 ∨ c = 13 ∨ c = 14 ∨ c = 15 ∨ c = 16 ∨ c = 17 ∨ c = 18 ∨ c = 19 ∨ c = 20) with h | h | h | h | h | h | h | h | h | h | h | h | h | h | h | h | h | h | h | h | h
  all_goals
    subst h
    go_enter Tryz.func29, Tryz.ntmps29
    go_wp2_with fail
    go_ret2
    exact ⟨rfl, hg.out⟩
end Go.Proofs.YtilikjfjbnabfaaGreatDoor
namespace Go.Proofs.YtilikjfjbnabfaaGreatDoor
open Go.RowKit

/-- What 'next' answers. -/
def RNext (w : World) (s : Option (List Nat)) (e : Ending) (w' : World) : Prop :=
  ∃ A m c, e = .returned (.tuple #[.slice A m c, .bool s.isSome]) ∧ (∀ t, s = some t → m = t.length ∧ RowN w' w.heap.size A c t) ∧ Grew w w'
theorem RNext.none {w w' : World} {s : Option (List Nat)} {A : Option Addr} {m c : Nat} {b : Bool} (hs : s = none) (hb : b = false) (hg : Grew w w') : RNext w s (.returned (.tuple #[.slice A m c, .bool b])) w' := by
  subst hs hb
  exact ⟨A, m, c, rfl, (fun t h => nomatch h), hg⟩
theorem RNext.some {w w' : World} {s : Option (List Nat)} {t : List Nat} {A : Option Addr} {m c : Nat} {b : Bool} (hs : s = some t) (hb : b = true) (hm : m = t.length) (hr : RowN w' w.heap.size A c t) (hg : Grew w w') : RNext w s (.returned (.tuple #[.slice A m c, .bool b])) w' := by
  subst hs hb
  exact ⟨A, m, c, rfl, (fun t' h => by cases h; exact ⟨hm, hr⟩), hg⟩
theorem row_one (W : World) (x B : Nat) (hB : B ≤ W.heap.size) : RowN (W.alloc (.cells #[.int .i64 ((x : Nat) : Int)] 3)) B (some ⟨W.heap.size, 0, none⟩) 1 [x] :=
  Row.of_blk (s := 1) (n := 1) (Blk.new W 3 #[.int .i64 ((x : Nat) : Int)]) hB rfl (by decide)
theorem row_two (W : World) (x y B : Nat) (hB : B ≤ W.heap.size) : RowN (W.alloc (.cells #[.int .i64 ((x : Nat) : Int), .int .i64 ((y : Nat) : Int)] 3)) B (some ⟨W.heap.size, 0, none⟩) 2 [x, y] :=
  Row.of_blk (s := 1) (n := 2) (Blk.new W 3 #[.int .i64 ((x : Nat) : Int), .int .i64 ((y : Nat) : Int)]) hB rfl (by decide)
set_option maxRecDepth 100000 in
set_option maxHeartbeats 4000000 in
theorem rnext_c (A1 : Option Addr) (c1 : Nat) (A2 : Option Addr) (c2 n : Nat) (l : List Op7.Ins) (os : List Nat) (i : Nat) (w : World) (h : CodeAt w A1 A2 c2 n l os) (hi : i < n) :
    Calls Tryz.prog 27 #[.slice A1 n c1, .slice A2 n c2, .int .i64 ((i : Nat) : Int)] w (RNext w (Fl.succ l os i)) := by
  have H := hid h
  have hn := h.few
  obtain ⟨o, ho⟩ : ∃ o, l[i]? = some o := ⟨_, List.getElem?_eq_getElem (show i < l.length by rw [← H.out.l1]; exact hi)⟩
  obtain ⟨ad, rfl, hb, hc⟩ := h.ops.2 (by rw [← H.out.l1]; omega)
  obtain ⟨q0, q1, q2⟩ := op_cell (o := o) (i := i) (ad := ad) (w := w) (hc i o ho)
  have hs : Fl.succ l os i = Fl.succO os n i o := by
    unfold Fl.succ
    rw [ho, ← H.out.l1]; rfl
  rw [hs]
  clear h hc ho hs
  obtain ⟨cd, oa, ob⟩ := o
  simp only at q0 q1 q2
  have HG : Hid (Grew w (w.alloc (.cells #[.int .u8 ((cd : Nat) : Int), .int .i64 oa, .int .i64 ob] 70))) := hid ((Grew.refl w).alloc _)
  have HP := hid (fun (w' : World) (hg : Grew w w') => Calls.after hg (rplace_c _ A2 c2 n l os oa w' (H.out.grew hg)))
  have HPl : Hid (∀ k, Fl.place os oa = some k → k < n) := hid (fun k hk => by have := Fl.placeLt hk; rw [H.out.l2]; exact this)
  have f1 : (i : Int) < n := by omega
  clear H
  by_cases h17 : cd = 17 ∨ cd = 18 ∨ cd = 19
  · have HS : Hid (Fl.succO os n i ⟨cd, oa, ob⟩ = some []) := hid (by
      rcases h17 with rfl | rfl | rfl <;> rfl)
    generalize Fl.succO os n i ⟨cd, oa, ob⟩ = so at *
    rcases h17 with rfl | rfl | rfl
    all_goals
      go_enter Tryz.func27, Tryz.ntmps27
      go_wp2_with fail
      go_ret2
      exact RNext.some HS.out rfl rfl (RowN.nil _ _) HG.out
  have n17 : ((cd : Int) == 17) = false := by rw [beq_eq_false_iff_ne]; omega
  have n18 : ((cd : Int) == 18) = false := by rw [beq_eq_false_iff_ne]; omega
  have n19 : ((cd : Int) == 19) = false := by rw [beq_eq_false_iff_ne]; omega
  have H17 := hid h17
  clear h17
  by_cases h13 : cd = 13
  · subst h13
    have HS : Hid (Fl.succO os n i ⟨13, oa, ob⟩ = (Fl.place os oa).map fun t => [t]) := hid rfl
    generalize Fl.succO os n i ⟨13, oa, ob⟩ = so at *
    unfold Fl.placeI at HP
    generalize Fl.place os oa = pl at *
    cases pl with
    | none =>
      simp only at HP
      go_enter Tryz.func27, Tryz.ntmps27
      go_wp2_with fail
      refine (HP.out _ HG.out).mono ?_
      rintro e w2 ⟨rfl, y2, rfl⟩
      go_wp2_with fail
      go_ret2
      exact RNext.none HS.out rfl (y2.grew.alloc _)
    | some k =>
      simp only at HP
      have f2 : (0 : Int) ≤ (k : Int) := by omega
      go_enter Tryz.func27, Tryz.ntmps27
      go_wp2_with fail
      refine (HP.out _ HG.out).mono ?_
      rintro e w2 ⟨rfl, y2, rfl⟩
      go_wp2_with fail
      go_ret2
      exact RNext.some HS.out rfl rfl (row_one _ k _ y2.b.size) (y2.grew.alloc _)
  have n13 : ((cd : Int) == 13) = false := by rw [beq_eq_false_iff_ne]; omega
  by_cases h14 : cd = 14
  · subst h14
    have HS : Hid (Fl.succO os n i ⟨14, oa, ob⟩ = (if i + 1 = n then none else some [i + 1]).bind fun p => (Fl.place os oa).map fun t => Fl.norm (p ++ [t])) := hid rfl
    generalize Fl.succO os n i ⟨14, oa, ob⟩ = so at *
    unfold Fl.placeI at HP
    generalize Fl.place os oa = pl at *
    cases pl with
    | none =>
      simp only at HP
      have HS2 : Hid (so = none) := hid (by rw [HS.out]; split <;> rfl)
      go_enter Tryz.func27, Tryz.ntmps27
      go_wp2_with fail
      refine (HP.out _ HG.out).mono ?_
      rintro e w2 ⟨rfl, y2, rfl⟩
      go_wp2_with fail
      go_ret2
      exact RNext.none HS2.out rfl y2.grew
    | some k =>
      simp only at HP
      have hk := HPl.out k rfl
      have f2 : ((k : Int) < 0) = False := by simp
      by_cases h1 : i + 1 = n
      · have HS2 : Hid (so = none) := hid (by rw [HS.out, if_pos h1]; rfl)
        have f3 : (n : Int) ≤ (i : Int) + 1 := by omega
        go_enter Tryz.func27, Tryz.ntmps27
        go_wp2_with fail
        refine (HP.out _ HG.out).mono ?_
        rintro e w2 ⟨rfl, y2, rfl⟩
        go_wp2_with fail
        go_ret2
        exact RNext.none HS2.out rfl y2.grew
      · have f3 : ((n : Int) ≤ (i : Int) + 1) = False := by simp; omega
        by_cases h2 : k = i + 1
        · subst h2
          have HS2 : Hid (so = some [i + 1]) := hid (by rw [HS.out, if_neg h1]; simp [Fl.norm])
          go_enter Tryz.func27, Tryz.ntmps27
          go_wp2_with fail
          refine (HP.out _ HG.out).mono ?_
          rintro e w2 ⟨rfl, y2, rfl⟩
          go_wp2_with fail
          go_ret2
          exact RNext.some HS2.out rfl rfl (row_one _ (i + 1) _ y2.b.size) (y2.grew.alloc _)
        · have e1 : ((k : Int) == (i : Int) + 1) = false := by rw [beq_eq_false_iff_ne]; omega
          by_cases h3 : k < i + 1
          · have HS2 : Hid (so = some [k, i + 1]) := hid (by rw [HS.out, if_neg h1]; show some (Fl.norm [i + 1, k]) = _; unfold Fl.norm; simp only; rw [if_neg (by omega), if_neg (by omega)])
            have f4 : (k : Int) < (i : Int) + 1 := by omega
            have m1 : min (k : Int) ((i : Int) + 1) = k := by omega
            have m2 : max (k : Int) ((i : Int) + 1) = (i : Int) + 1 := by omega
            go_enter Tryz.func27, Tryz.ntmps27
            go_wp2_with fail
            refine (HP.out _ HG.out).mono ?_
            rintro e w2 ⟨rfl, y2, rfl⟩
            go_wp2_with fail
            go_ret2
            exact RNext.some HS2.out rfl rfl (row_two _ k (i + 1) _ y2.b.size) (y2.grew.alloc _)
          · have HS2 : Hid (so = some [i + 1, k]) := hid (by rw [HS.out, if_neg h1]; show some (Fl.norm [i + 1, k]) = _; unfold Fl.norm; simp only; rw [if_pos (by omega)])
            have f4 : (i : Int) + 1 < (k : Int) := by omega
            have m1 : min (k : Int) ((i : Int) + 1) = (i : Int) + 1 := by omega
            have m2 : max (k : Int) ((i : Int) + 1) = k := by omega
            go_enter Tryz.func27, Tryz.ntmps27
            go_wp2_with fail
            refine (HP.out _ HG.out).mono ?_
            rintro e w2 ⟨rfl, y2, rfl⟩
            go_wp2_with fail
            go_ret2
            exact RNext.some HS2.out rfl rfl (row_two _ (i + 1) k _ y2.b.size) (y2.grew.alloc _)
  have n14 : ((cd : Int) == 14) = false := by rw [beq_eq_false_iff_ne]; omega
  have HS : Hid (Fl.succO os n i ⟨cd, oa, ob⟩ = if i + 1 = n then none else some [i + 1]) := hid (by
    have := H17.out
    unfold Fl.succO Fl.nextOf Fl.cont Fl.jumps
    simp only
    rw [if_pos (by simp; omega)]
    split
    · rfl
    · rw [Option.bind_some, if_neg (by simp; omega)]; rfl)
  generalize Fl.succO os n i ⟨cd, oa, ob⟩ = so at *
  by_cases h1 : i + 1 = n
  · have HS2 : Hid (so = none) := hid (by rw [HS.out, if_pos h1])
    have f3 : ((i : Int) + 1 < n) = False := by simp; omega
    go_enter Tryz.func27, Tryz.ntmps27
    go_wp2_with fail
    go_ret2
    exact RNext.none HS2.out rfl (HG.out.alloc _)
  · have HS2 : Hid (so = some [i + 1]) := hid (by rw [HS.out, if_neg h1])
    have f3 : (i : Int) + 1 < n := by omega
    go_enter Tryz.func27, Tryz.ntmps27
    go_wp2_with fail
    go_ret2
    have HR := row_one (w.alloc (.cells #[.int .u8 ((cd : Nat) : Int), .int .i64 oa, .int .i64 ob] 70)) (i + 1) w.heap.size HG.out.below.size
    rw [World.size_alloc] at HR
    exact RNext.some HS2.out rfl rfl HR (HG.out.alloc _)
end Go.Proofs.YtilikjfjbnabfaaGreatDoor
/- Stage 8: a row of the call's own that is cut at its head and grows at its end: a queue. -/
namespace Go.Proofs.YtilikjfjbnabfaaGreatDoor
open Go.RowKit

/-- A queue: its block, where it begins in it, its length and capacity. -/
def QAt (w : World) (B g o n c : Nat) (xs : List Nat) : Prop :=
  xs.length = n ∧ n ≤ c ∧ c ≤ 9223372036854775807 ∧ ∃ N vs, Row w B 3 1 (some ⟨g, 0, none⟩) N N vs ∧ o + c ≤ N ∧ ∀ j, j < n → vs[o + j]? = some (.int .i64 ((xs.getD j 0 : Nat) : Int))
theorem QAt.grew {w w' : World} {B g o n c : Nat} {xs : List Nat} (h : QAt w B g o n c xs) (hg : Grew w w') : QAt w' B g o n c xs := by
  obtain ⟨h1, h2, h3, N, vs, h4, h5, h6⟩ := h
  exact ⟨h1, h2, h3, N, vs, h4.grew hg, h5, h6⟩
theorem QAt.kept {F : Nat → Prop} {w w' : World} {B g o n c : Nat} {xs : List Nat} (h : QAt w B g o n c xs) (hk : Kept F w w') (hF : ¬ F g) : QAt w' B g o n c xs := by
  obtain ⟨h1, h2, h3, N, vs, h4, h5, h6⟩ := h
  exact ⟨h1, h2, h3, N, vs, h4.kept hk (fun g' hg' => by obtain ⟨rfl⟩ := hg'; exact hF), h5, h6⟩
theorem QAt.lt {w : World} {B g o n c : Nat} {xs : List Nat} (h : QAt w B g o n c xs) : B ≤ g ∧ g < w.heap.size := by
  obtain ⟨_, _, _, N, vs, h4, _, _⟩ := h
  exact Row.lt' h4
theorem QAt.head {w : World} {B g o n c x : Nat} {xs : List Nat} (h : QAt w B g o n c (x :: xs)) : w.cell? ⟨g, o, none⟩ = some (.int .i64 ((x : Nat) : Int)) ∧ ∃ n' c' o', n = n' + 1 ∧ c = c' + 1 ∧ (if c' = 0 then some (⟨g, o, none⟩ : Addr) else some ⟨g, o + 1, none⟩) = some ⟨g, o', none⟩ ∧ QAt w B g o' n' c' xs := by
  obtain ⟨h1, h2, h3, N, vs, h4, h5, h6⟩ := h
  rw [List.length_cons] at h1
  refine ⟨?_, xs.length, c - 1, if c - 1 = 0 then o else o + 1, h1.symm, by omega, by split <;> rfl, rfl, by omega, by omega, N, vs, h4, by split <;> omega, fun j hj => ?_⟩
  · have h7 := h6 0 (by omega)
    rw [Nat.add_zero] at h7
    rcases Row.cases h4 with ⟨_, _, _, ⟨e, _⟩ | ⟨g', e, _, _, hc, _⟩⟩
    · cases e
    · obtain ⟨rfl⟩ := e
      exact hc o _ h7
  · have h7 := h6 (j + 1) (by omega)
    rw [if_neg (by omega), show o + 1 + j = o + (j + 1) by omega, h7]
    rfl
theorem QAt.one {w : World} {B g : Nat} {x : Nat} (h : RowN w B (some ⟨g, 0, none⟩) 1 [x]) : QAt w B g 0 1 1 [x] :=
  ⟨rfl, Nat.le_refl _, by decide, 1, _, h, Nat.le_refl _, fun j hj => by
    obtain rfl : j = 0 := by omega
    rfl⟩
theorem wpList_pushQ {ops : Array Oper} {rest : List Oper} {o : Oper} {a : Act} {Q : Exit → Act → World → Prop} (w : World) (hgd : o.guard = none) (s x : Operand)
    (ho : o.op = .call { callee := .builtin .append, args := #[s, x], argTypes := #[24, 24] })
    (B : Nat) (hB : B ≤ w.heap.size) (g off n c : Nat) (xs : List Nat) (hs : a.eval s = .slice (some ⟨g, off, none⟩) n c) (hq : QAt w B g off n c xs) (B2 : Nat) (A2 : Option Addr) (m c2 : Nat) (ys : List Nat) (hxv : a.eval x = .slice A2 m c2) (hm : ys.length = m) (hm0 : 0 < m) (hr : RowN w B2 A2 c2 ys) (few : n + m ≤ 100000000)
    (h : ∀ g' o' c' w', QAt w' B g' o' (n + m) c' (xs ++ ys) → Kept (fun k => k = g) w w' → (g' = g ∨ w.heap.size ≤ g') → wpList Tryz.prog ops Q rest (a.put o.dst (.slice (some ⟨g', o', none⟩) (n + m) c')) w') : wpList Tryz.prog ops Q (o :: rest) a w := by
  subst hm
  obtain ⟨q1, q2, q3, N, vs, q4, q5, q6⟩ := hq
  obtain ⟨i, hi, hz0, hz1, hz2⟩ := info_parts op_int
  rcases Row.cases hr with ⟨_, _, _, ⟨_, h0, _⟩ | ⟨gs, rfl, _, _, hcs, _⟩⟩
  · omega
  have hnl : (numCells .i64 ys).length = ys.length * 1 := by rw [numCells_length, Nat.mul_one]
  have hnews : ∀ j v, (numCells .i64 ys)[j]? = some v → w.cell? ((⟨gs, 0, none⟩ : Addr).add j) = some v := fun j v hv => by
    have := hcs j v hv
    rw [show (⟨gs, 0, none⟩ : Addr).add j = ⟨gs, j, none⟩ by unfold Addr.add; split <;> simp_all]
    exact this
  obtain ⟨hvl, _, _, ⟨e, _⟩ | ⟨g', e, hBg, hglt, hcg, hfg⟩⟩ := Row.cases q4
  · cases e
  obtain ⟨rfl⟩ := e
  rw [Nat.mul_one] at hvl
  refine wpList_plain hgd fun K hK => ?_
  by_cases hroom : n + ys.length ≤ c
  · have hrun := run_append_room_cells (P := Tryz.prog) w 24 o.type 3 i Tryz.underlying24 hi g off n c ⟨gs, 0, none⟩ ys.length c2 (numCells .i64 ys) (by rw [hz1]; exact hnl) hnews (numCells_one _ _) hroom
      (fun j hj => by
        rw [hz1, Nat.mul_one]
        rw [numCells_length] at hj
        rw [hcg (off + n + j) _ (List.getElem?_eq_getElem (show off + n + j < vs.length by omega))]; rfl)
      (fun j hj => hfg _)
    rw [hz1, Nat.mul_one] at hrun
    unfold Oper.wp
    simp only [execOp, ho, resolve, invoke, builtin, Sem.run_bind, Sem.run_pure, Result.andThen_ok, List.map_toArray, List.map_cons, List.map_nil, hs, hxv, hrun]
    have hfit : off + n + (numCells .i64 ys).length ≤ vs.length := by rw [numCells_length]; omega
    refine hK _ _ (h g off c _ ⟨by rw [List.length_append, q1], hroom, q3, N, _, Row.setMany _ _ q4 hfit, q5, fun j hj => ?_⟩ (Kept.setCells (F := fun k => k = g) rfl _ _ (Kept.refl _ _)) (.inl rfl))
    rw [splice_get _ _ _ _ hfit, numCells_length]
    by_cases h1 : j < n
    · rw [if_pos (by omega), q6 j h1, List.getD_eq_getElem?_getD, List.getD_eq_getElem?_getD, List.getElem?_append_left (by omega)]
    · rw [if_neg (by omega), if_pos (by omega), show off + j - (off + n) = j - n by omega, numCells_get .i64 ys (j - n) (by omega), List.getD_eq_getElem?_getD, List.getD_eq_getElem?_getD, List.getElem?_append_right (by omega), q1]
  · have hol : ∀ j u, (numCells .i64 xs)[j]? = some u → w.cell? ((⟨g, off, none⟩ : Addr).add j) = some u := fun j u hu => by
      have hj : j < xs.length := by have := (List.getElem?_eq_some_iff.1 hu).1; rwa [numCells_length] at this
      rw [numCells_get .i64 xs j hj] at hu
      obtain ⟨rfl⟩ := hu
      rw [Addr.add_lit]
      exact hcg _ _ (q6 j (by omega))
    obtain ⟨v', w', hrun, hown, hgr⟩ := run_append_arg_grows (P := Tryz.prog) w 24 o.type 3 i _ 1 8 Tryz.underlying24 hi hz0 hz1 hz2 rfl (by decide) ⟨g, off, none⟩ n c (numCells .i64 xs) (by rw [numCells_length, q1, Nat.mul_one]) hol ⟨gs, 0, none⟩ ys.length c2 (numCells .i64 ys) hnl hnews (by omega) (by simp only [maxLen]; omega) (by omega)
    have hown0 := hown
    rcases hown.2 with ⟨_, h0⟩ | ⟨g', c', cur, rfl, hb, hh, hnc, hcm, hcs', ht⟩
    · omega
    unfold Oper.wp
    simp only [execOp, ho, resolve, invoke, builtin, Sem.run_bind, Sem.run_pure, Result.andThen_ok, List.map_toArray, List.map_cons, List.map_nil, hs, hxv, hrun]
    simp only [maxLen] at hcm
    refine hK _ _ (h g' 0 c' w' ⟨by rw [List.length_append, q1], hnc, hcm, c', cur.toList, Row.of_blk hh (Nat.le_trans hB hb) hcs' hcm, by omega, fun j hj => ?_⟩ ⟨hgr.os, hgr.tape, hgr.output, hgr.size, fun k hk _ => hgr.block k hk (by simp)⟩ (.inr hb))
    have h9 : (numCells .i64 (xs ++ ys))[j]? = some (.int .i64 (((xs ++ ys).getD j 0 : Nat) : Int)) := numCells_get .i64 _ j (by rw [List.length_append, q1]; exact hj)
    rw [Nat.zero_add, ← h9, numCells_append, ← ht, List.getElem?_take, if_pos (by omega)]
end Go.Proofs.YtilikjfjbnabfaaGreatDoor
/- Stage 8: the document's own reaches. -/
namespace Go.Proofs.YtilikjfjbnabfaaGreatDoor
open Go.RowKit

def boolCells (S : List Bool) : List Value := S.map Value.bool
theorem boolCells_rep (n : Nat) : List.replicate n (Value.bool false) = boolCells (List.replicate n false) := by simp [boolCells]
theorem boolCells_set (S : List Bool) (i : Nat) (x : Bool) : (boolCells S).set i (.bool x) = boolCells (S.set i x) := by simp [boolCells, List.map_set]
theorem bool_info : (Tryz.prog.info? 4).map (fun i => (i.zero, i.size, i.bytes)) = some (some (.bool false), 1, 1) := by kernel_rfl
theorem boolRow_at {w : World} {B g n : Nat} {S : List Bool} (h : Row w B 4 1 (some ⟨g, 0, none⟩) n n (boolCells S)) (i : Nat) (hi : i < n) : w.cell? ⟨g, i, none⟩ = some (.bool (S.getD i false)) ∧ w.frozen? ⟨g, i, none⟩ = false := by
  have hl : S.length = n := by have := h.1; simpa [boolCells] using this
  obtain ⟨h1, h2⟩ := h.cellAt i (by simp [boolCells]; omega)
  refine ⟨?_, h2⟩
  rw [h1]
  simp [boolCells, List.getD_eq_getElem?_getD, List.getElem?_eq_getElem (show i < S.length by omega)]
/-- As far as the search has come. -/
def SeekR (w : World) (gS n : Nat) (G : List (List Nat)) (x : Int) (b : Nat) (f : Nat) (s : Value) (wr : World) : Prop :=
  ∃ (S : List Bool) (Q : List Nat) (g o c m : Nat), s = .slice (some ⟨g, o, none⟩) m c ∧ Row wr w.heap.size 4 1 (some ⟨gS, 0, none⟩) n n (boolCells S) ∧ QAt wr w.heap.size g o m c Q ∧ g ≠ gS ∧ Fl.Seek G n x b S Q ∧ Q.length + 3 * S.count false < f ∧ f ≤ 3 * n + 2 ∧ Grew w wr
set_option maxRecDepth 100000 in
set_option maxHeartbeats 4000000 in
theorem rreach_c (A1 : Option Addr) (c1 : Nat) (A2 : Option Addr) (c2 n : Nat) (l : List Op7.Ins) (os : List Nat) (G : List (List Nat)) (b : Nat) (x : Int) (r : Bool) (w : World) (h : CodeAt w A1 A2 c2 n l os) (hG : Fl.graph l os = some G) (hb : b < n) (hr : r = true ↔ Fl.Rch G x b) :
    Calls Tryz.prog 17 #[.slice A1 n c1, .slice A2 n c2, .int .i64 ((b : Nat) : Int), .int .i64 x] w (fun e w' => e = .returned (.bool r) ∧ Grew w w') := by
  have hn := h.few
  have HR := hid hr
  have HGl : Hid (G.length = n) := hid (by rw [(Fl.graph_parts hG).2.1, h.l1])
  have HGs : Hid (∀ i, ∀ s ∈ G.getD i [], s < n) := hid (by rw [h.l1]; exact Fl.graph_lt (by rw [← h.l1, ← h.l2]) hG)
  have HX : Hid (∀ i (w' : World), i < n → Grew w w' → Calls Tryz.prog 27 #[.slice A1 n c1, .slice A2 n c2, .int .i64 ((i : Nat) : Int)] w' (fun e w'' => ∃ A m c, e = .returned (.tuple #[.slice A m c, .bool true]) ∧ m = (G.getD i []).length ∧ m ≤ 2 ∧ RowN w'' w'.heap.size A c (G.getD i []) ∧ Grew w' w'')) := hid (fun i w' hi hg => by
    obtain ⟨s, h1, h2⟩ := Fl.graph_succ hG (show i < l.length by rw [← h.l1]; exact hi)
    have := rnext_c A1 c1 A2 c2 n l os i w' (h.grew hg) hi
    rw [h2] at this
    refine this.mono ?_
    rintro e w'' ⟨A, m, c, rfl, h3, h4⟩
    obtain ⟨h5, h6⟩ := h3 s rfl
    rw [List.getD_eq_getElem?_getD, h1]
    exact ⟨A, m, c, rfl, h5, by rw [h5]; exact Fl.succ_len h2, h6, h4⟩)
  obtain ⟨low, hlow⟩ := low_ex
  have HLow := hid hlow
  clear h hG hr hlow
  obtain ⟨W1, hmk, hR1, hG1, hlt1⟩ := make_one (z := .bool false) Tryz.underlying78 bool_info rfl (by decide) n (by omega) w
  rw [boolCells_rep] at hR1
  obtain ⟨gS, hgS⟩ : ∃ gS, gS = w.heap.size := ⟨_, rfl⟩
  rw [← hgS] at hmk hlt1
  have HS1 : Hid (Row W1 w.heap.size 4 1 (some ⟨gS, 0, none⟩) n n (boolCells (List.replicate n false))) := hid (by rw [hgS]; exact hR1)
  have HG1 := hid hG1
  have HgS := hid hgS
  have HQ1 := hid (QAt.one (row_one W1 b w.heap.size hG1.below.size))
  have HSt := hid (Fl.seek_start G x hb)
  clear hR1 hG1 hgS
  go_enter Tryz.func17, Tryz.ntmps17
  go_wp2_with fail
  clear hmk
  go_loopw [10] (fun s10 wr => ∃ f, SeekR w gS n G x b f s10 wr) (fun s10 wr => low (fun f => SeekR w gS n G x b f s10 wr))
  case atStart =>
    refine ⟨3 * n + 2, List.replicate n false, [b], W1.heap.size, 0, 1, 1, rfl, HS1.out.grew ((Grew.refl W1).alloc _), HQ1.out, by have := HgS.out; omega, HSt.out, ?_, Nat.le_refl _, HG1.out.alloc _⟩
    simp only [List.count_replicate_self, List.length_singleton]
    omega
  case round =>
    obtain ⟨f0, hf0⟩ := hrel
    obtain ⟨hq, _⟩ := HLow.out (fun f => SeekR w gS n G x b f u10 wr) f0 hf0
    have HM := hid (fun (s : Value) (w' : World) (f' : Nat) (h1 : SeekR w gS n G x b f' s w') (h2 : f' < low fun f => SeekR w gS n G x b f u10 wr) => Nat.lt_of_le_of_lt (HLow.out (fun f => SeekR w gS n G x b f s w') f' h1).2 h2)
    clear hf0 HS1 HQ1 HSt HG1
    show Code.wp _ _ (Exit.then (fun a' w' => _ ∧ _ < low fun f => SeekR w gS n G x b f u10 wr) _) _ _
    generalize (low fun f => SeekR w gS n G x b f u10 wr) = m0 at *
    obtain ⟨S, Q, g, o, c, m, rfl, hRow, hQ, hne, hSk, hl, hm0, y4, rfl⟩ := hq
    have HRow := hid hRow
    have HQ := hid hQ
    have HSk := hid hSk
    have HL := hid hl
    clear hRow hQ hSk hl
    cases Q with
    | nil =>
      obtain rfl : m = 0 := by have := HQ.out.1; simpa using this.symm
      have HF : Hid (r = false) := hid (by
        cases hr : r
        · rfl
        · exact absurd (HR.out.1 hr) HSk.out.no)
      go_wp2_with fail
      go_ret
      exact ⟨ret_bool HF.out.symm, y4.grew⟩
    | cons i Q =>
      obtain ⟨q, n', c', o2, rfl, rfl, ho2, hQ2⟩ := HQ.out.head
      have HQ2 := hid hQ2
      have hlq := HQ.out.2.2.1
      clear hQ2
      have hin : i < n := HSk.out.lt i (by simp)
      have f1 : (i : Int) < n := by omega
      have HlQ : Hid (Q.length = n') := hid HQ2.out.1
      obtain ⟨qs, qf⟩ := boolRow_at HRow.out i hin
      by_cases hx : (i : Int) = x
      · have HD : Hid (∃ f2, SeekR w gS n G x b f2 (.slice (some ⟨g, o2, none⟩) n' c') y4.w ∧ f2 < m0) := hid ⟨m0 - 1, ⟨S, Q, g, o2, c', n', rfl, HRow.out, HQ2.out, hne, HSk.out.skip (.inl hx), by have := HL.out; simp only [List.length_cons] at this; omega, by omega, y4.grew⟩, by have := HL.out; omega⟩
        subst hx
        go_wp2_with fail
        go_round
        case rel => obtain ⟨f2, h1, _⟩ := HD.out; exact ⟨f2, h1⟩
        case measure => obtain ⟨f2, h1, h2⟩ := HD.out; exact HM.out _ _ f2 h1 h2
      · have e1 : ((i : Int) == x) = false := by rw [beq_eq_false_iff_ne]; exact hx
        have HNx := hid hx
        clear hx
        by_cases hs : S.getD i false = true
        · have HD : Hid (∃ f2, SeekR w gS n G x b f2 (.slice (some ⟨g, o2, none⟩) n' c') y4.w ∧ f2 < m0) := hid ⟨m0 - 1, ⟨S, Q, g, o2, c', n', rfl, HRow.out, HQ2.out, hne, HSk.out.skip (.inr hs), by have := HL.out; simp only [List.length_cons] at this; omega, by omega, y4.grew⟩, by have := HL.out; omega⟩
          rw [hs] at qs
          clear hs
          go_wp2_with fail
          go_round
          case rel => obtain ⟨f2, h1, _⟩ := HD.out; exact ⟨f2, h1⟩
          case measure => obtain ⟨f2, h1, h2⟩ := HD.out; exact HM.out _ _ f2 h1 h2
        · have hs' : S.getD i false = false := by simpa using hs
          clear hs
          rw [hs'] at qs
          have HCnt := hid (Fl.count_true (by rw [HSk.out.len]; exact hin) hs')
          clear hs'
          have hgS2 := Row.lt' HRow.out
          have HRow5 : Hid (Row (y4.w.setCell ⟨gS, i, none⟩ (.bool true)) w.heap.size 4 1 (some ⟨gS, 0, none⟩) n n (boolCells (S.set i true))) := hid (by
            have := Row.set HRow.out i (.bool true)
            rw [boolCells_set] at this
            exact this)
          have HQ5 : Hid (QAt (y4.w.setCell ⟨gS, i, none⟩ (.bool true)) w.heap.size g o2 n' c' Q) := hid (HQ2.out.kept (F := fun k => k = gS) ((Kept.refl (fun k => k = gS) _).setCell (p := ⟨gS, i, none⟩) (fun _ => rfl) _) hne)
          have HG5 : Hid (Grew w (y4.w.setCell ⟨gS, i, none⟩ (.bool true))) := hid (y4.grew.setCell (p := ⟨gS, i, none⟩) hgS2.1 _)
          go_wp2_with fail
          generalize y4.w.setCell ⟨gS, i, none⟩ (.bool true) = W5 at *
          clear q qs qf
          refine (HX.out i W5 hin HG5.out).mono ?_
          rintro e w6 ⟨Ak, mk, ck, rfl, hmk, hmk2, hRk, y6, rfl⟩
          have HRk := hid hRk
          have HMk := hid hmk
          have HRow6 := hid (HRow5.out.grew y6.grew)
          have HQ6 := hid (HQ5.out.grew y6.grew)
          have HG6 := hid (HG5.out.trans y6.grew)
          have hgS6 := Row.lt' HRow6.out
          clear hRk hmk hgS2
          rcases Nat.eq_zero_or_pos mk with h0 | h0
          · subst h0
            have HF : Hid (r = true) := hid (HR.out.2 (HSk.out.yes HGl.out HNx.out (List.eq_nil_of_length_eq_zero HMk.out.symm)))
            go_wp2_with fail
            go_ret
            exact ⟨ret_bool HF.out.symm, HG6.out⟩
          · have e2 : ((mk : Int) == 0) = false := by rw [beq_eq_false_iff_ne]; omega
            have hnn : n' + mk ≤ 100000000 := by have h7 := HL.out; have h8 := HlQ.out; simp only [List.length_cons] at h7; omega
            have hB6 := HG6.out.below.size
            go_wp2_with (at_builtin; refine wpList_pushQ y6.w rfl _ _ rfl w.heap.size hB6 g o2 n' c' Q rfl HQ6.out W5.heap.size Ak mk ck (G.getD i []) rfl HMk.out.symm h0 HRk.out hnn ?_; rintro g7 o7 c7 w7 hQ7 hK7 hT7; have HQ7 := hid hQ7; have HK7 := hid hK7; have HT7 := hid hT7; clear hQ7 hK7 hT7)
            have HD : Hid (∃ f2, SeekR w gS n G x b f2 (.slice (some ⟨g7, o7, none⟩) (n' + mk) c7) w7 ∧ f2 < m0) := hid ⟨m0 - 1, ⟨S.set i true, Q ++ G.getD i [], g7, o7, c7, n' + mk, rfl, Row.kept HRow6.out HK7.out (fun g' hg' e => by obtain ⟨rfl⟩ := hg'; exact hne e.symm), HQ7.out, (by rcases HT7.out with e | e <;> omega), HSk.out.push (HGs.out i) HNx.out (fun e => by have := HMk.out; rw [e] at this; simp at this; omega), by
              have h1 := HL.out
              have h2 := HCnt.out
              have h3 := HMk.out
              rw [List.length_append, ← h3]
              simp only [List.length_cons] at h1
              omega, by omega, HK7.out.grew HG6.out (fun k e => by rw [e]; exact HQ6.out.lt.1)⟩, by have := HL.out; omega⟩
            go_round
            case rel => obtain ⟨f2, h1, _⟩ := HD.out; exact ⟨f2, h1⟩
            case measure => obtain ⟨f2, h1, h2⟩ := HD.out; exact HM.out _ _ f2 h1 h2
end Go.Proofs.YtilikjfjbnabfaaGreatDoor

/- Plain mathematics: what the graph of well-formed code is; two instructions behind it; the document's moves. No program is named here. -/
import Derived.Test.YtilikjfjbnabfaaGreatDoorFlT
namespace Go.Proofs.YtilikjfjbnabfaaGreatDoor.Fl
open Go.RowKit Op7

theorem placeLt {os : List Nat} {x : Int} {k : Nat} (h : place os x = some k) : k < os.length := by
  unfold place at h
  split at h
  · rename_i hc
    cases h
    have hm : x ∈ toI os := by simpa using hc
    have hl : (toI os).length = os.length := by simp [toI]
    rw [← hl]
    rcases Nat.lt_or_ge ((toI os).countP (· < x)) (toI os).length with h1 | h1
    · exact h1
    · have h2 := List.countP_eq_length.1 (Nat.le_antisymm List.countP_le_length h1) x hm
      simp at h2
  · cases h
theorem norm_mem {l : List Nat} {x : Nat} : x ∈ norm l ↔ x ∈ l := by
  unfold norm
  split
  · rename_i a b
    split
    · rfl
    · split
      · rename_i h; subst h; simp
      · simp [Or.comm]
  · rfl
theorem norm_nil {l : List Nat} : norm l = [] ↔ l = [] := by
  rw [List.eq_nil_iff_forall_not_mem, List.eq_nil_iff_forall_not_mem]
  constructor
  · exact fun h x hx => h x (norm_mem.2 hx)
  · exact fun h x hx => h x (norm_mem.1 hx)
theorem norm_up {l : List Nat} (hl : l.length ≤ 2) : (norm l).Pairwise (· < ·) := by
  match l, hl with
  | [], _ => exact List.Pairwise.nil
  | [x], _ => exact List.pairwise_singleton _ _
  | [x, y], _ =>
    unfold norm
    simp only
    split
    · simp [*]
    · split
      · exact List.pairwise_singleton _ _
      · simp; omega
theorem nextOf_len {n i : Nat} {o : Ins} {p : List Nat} (h : nextOf n i o = some p) : p.length ≤ 1 := by
  unfold nextOf at h
  split at h
  · split at h
    · cases h
    · cases h; exact Nat.le_refl _
  · cases h; exact Nat.zero_le _
theorem succ_parts {l : List Ins} {os : List Nat} {i : Nat} {s : List Nat} (h : succ l os i = some s) : ∃ o, l[i]? = some o ∧ ∃ p, nextOf l.length i o = some p ∧ ((jumps o.code = true ∧ ∃ t, place os o.a = some t ∧ s = norm (p ++ [t])) ∨ (jumps o.code = false ∧ s = norm p)) := by
  unfold succ at h
  obtain ⟨o, h1, h2⟩ := Option.bind_eq_some_iff.1 h
  unfold succO at h2
  obtain ⟨p, h3, h4⟩ := Option.bind_eq_some_iff.1 h2
  refine ⟨o, h1, p, h3, ?_⟩
  split at h4
  · rename_i hj
    obtain ⟨t, h5, h6⟩ := Option.map_eq_some_iff.1 h4
    exact .inl ⟨hj, t, h5, h6.symm⟩
  · rename_i hj
    cases h4
    exact .inr ⟨by simpa using hj, rfl⟩
theorem succ_up {l : List Ins} {os : List Nat} {i : Nat} {s : List Nat} (h : succ l os i = some s) : s.Pairwise (· < ·) := by
  obtain ⟨o, _, p, h1, ⟨_, t, _, rfl⟩ | ⟨_, rfl⟩⟩ := succ_parts h
  · exact norm_up (by have := nextOf_len h1; simp; omega)
  · exact norm_up (by have := nextOf_len h1; omega)
theorem succ_lt {l : List Ins} {os : List Nat} (hl : os.length = l.length) {i : Nat} {s : List Nat} (h : succ l os i = some s) : ∀ x ∈ s, x < l.length := by
  obtain ⟨o, ho, p, h1, h2⟩ := succ_parts h
  have hi := (List.getElem?_eq_some_iff.1 ho).1
  have hp : ∀ x ∈ p, x < l.length := by
    unfold nextOf at h1
    split at h1
    · split at h1
      · cases h1
      · cases h1
        intro x hx
        obtain rfl := List.mem_singleton.1 hx
        omega
    · cases h1; simp
  intro x hx
  rcases h2 with ⟨_, t, h3, rfl⟩ | ⟨_, rfl⟩
  · rcases List.mem_append.1 (norm_mem.1 hx) with h4 | h4
    · exact hp x h4
    · obtain rfl := List.mem_singleton.1 h4
      have := placeLt h3
      omega
  · exact hp x (norm_mem.1 hx)
/-- Does nothing come behind? -/
def ends (c : Nat) : Bool := c == 17 || c == 18 || c == 19
theorem succ_ends {l : List Ins} {os : List Nat} {i : Nat} {s : List Nat} {o : Ins} (h : succ l os i = some s) (ho : l[i]? = some o) : s = [] ↔ ends o.code = true := by
  obtain ⟨o', ho', p, h1, h2⟩ := succ_parts h
  obtain rfl : o = o' := Option.some.inj (ho.symm.trans ho')
  unfold nextOf cont at h1
  unfold ends
  rcases h2 with ⟨hj, t, _, rfl⟩ | ⟨hj, rfl⟩
  · rw [norm_nil]
    unfold jumps at hj
    have : o.code = 13 ∨ o.code = 14 := by simpa using hj
    rcases this with e | e <;> simp [e]
  · rw [norm_nil]
    unfold jumps at hj
    have hj' : o.code ≠ 13 ∧ o.code ≠ 14 := by simpa using hj
    split at h1
    · rename_i hc
      split at h1
      · cases h1
      · cases h1
        simp at hc
        simp [hc]
    · rename_i hc
      cases h1
      simp at hc
      simp only [true_iff, Bool.or_eq_true, beq_iff_eq]
      omega
theorem graph_succ {l : List Ins} {os : List Nat} {g : List (List Nat)} (h : graph l os = some g) {i : Nat} (hi : i < l.length) : ∃ s, g[i]? = some s ∧ succ l os i = some s := by
  obtain ⟨_, h2, h3⟩ := graph_parts h
  obtain ⟨s, hs⟩ : ∃ s, g[i]? = some s := ⟨_, List.getElem?_eq_getElem (by rw [h2]; exact hi)⟩
  exact ⟨s, hs, node_succ ((h3 i hi).trans hs)⟩
theorem graph_lt {l : List Ins} {os : List Nat} (hl : os.length = l.length) {g : List (List Nat)} (h : graph l os = some g) : ∀ i, ∀ s ∈ g.getD i [], s < l.length := by
  intro i s hs
  have hi := mem_getD_lt hs
  obtain ⟨_, h2, _⟩ := graph_parts h
  obtain ⟨s', h3, h4⟩ := graph_succ h (i := i) (by omega)
  rw [List.getD_eq_getElem?_getD, h3] at hs
  exact succ_lt hl h4 s hs
theorem graph_lt' {l : List Ins} {os : List Nat} (hl : os.length = l.length) {g : List (List Nat)} (h : graph l os = some g) : ∀ s ∈ g, ∀ i ∈ s, i < l.length := by
  intro s hs i hi
  obtain ⟨k, hk, rfl⟩ := List.mem_iff_getElem.1 hs
  refine graph_lt hl h k i ?_
  rw [List.getD_eq_getElem?_getD, List.getElem?_eq_getElem hk]
  exact hi

/-! ### Analyzed -/
/-- Well-formed code: its instructions, where they begin, the graph, the depths. -/
structure Well (b : List Nat) (l : List Ins) (os : List Nat) (g : List (List Nat)) (D : List Int) : Prop where
  dec : decR b = (l, os, 0)
  graph : graph l os = some g
  depths : depths l g = some D
/-- The error's number. -/
def Bad (b : List Nat) (e : Nat) : Prop := ∃ l os, decR b = (l, os, e) ∧ e ≠ 0 ∨ decR b = (l, os, 0) ∧ e = 8 ∧ (graph l os = none ∨ ∃ g, graph l os = some g ∧ depths l g = none)
theorem Bad.ne {b : List Nat} {e : Nat} (h : Bad b e) : e ≠ 0 := by
  obtain ⟨_, _, ⟨_, h⟩ | ⟨_, h, _⟩⟩ := h
  · exact h
  · omega
theorem Bad.not_well {b : List Nat} {e : Nat} (h : Bad b e) {l os g D} (w : Well b l os g D) : False := by
  obtain ⟨l', os', ⟨h1, h2⟩ | ⟨h1, h2, h3⟩⟩ := h
  · rw [w.dec] at h1
    simp only [Prod.mk.injEq] at h1
    omega
  · rw [w.dec] at h1
    simp only [Prod.mk.injEq] at h1
    obtain ⟨rfl, rfl, _⟩ := h1
    rcases h3 with h3 | ⟨g', h3, h4⟩
    · rw [w.graph] at h3; cases h3
    · rw [w.graph] at h3; cases h3
      rw [w.depths] at h4; cases h4
theorem Well.uniq {b : List Nat} {l l' os os' g g' D D'} (h : Well b l os g D) (k : Well b l' os' g' D') : l = l' ∧ os = os' ∧ g = g' ∧ D = D' := by
  have h1 := h.dec.symm.trans k.dec
  simp only [Prod.mk.injEq] at h1
  obtain ⟨rfl, rfl, _⟩ := h1
  have h2 := h.graph.symm.trans k.graph
  cases h2
  have h3 := h.depths.symm.trans k.depths
  cases h3
  exact ⟨rfl, rfl, rfl, rfl⟩
theorem Well.parts {b l os g D} (h : Well b l os g D) : l ≠ [] ∧ g.length = l.length := ⟨(graph_parts h.graph).1, (graph_parts h.graph).2.1⟩
theorem Well.settled {b l os g D} (h : Well b l os g D) (hl : os.length = l.length) : Settled l g D [] ∧ D.getD 0 0 = 0 := depths_settled h.parts.1 (graph_lt hl h.graph) h.depths

/-! ### Two instructions behind -/
def two : List Ins := [⟨1, 0, 0⟩, ⟨17, 0, 0⟩]
theorem offsF_lt (k : Nat) (l : List Ins) : ∀ x ∈ offsF k l, x < k + (encs l).length := by
  induction l generalizing k with
  | nil => simp [offsF]
  | cons o l ih =>
    intro x hx
    have hp := size_pos o.code
    rw [encs_cons, List.length_append, enc_len]
    simp only [offsF, List.mem_cons] at hx
    rcases hx with rfl | hx
    · omega
    · have := ih _ x hx
      omega
theorem place_more {os : List Nat} {x : Int} {k m : Nat} (hm : ∀ y ∈ os, y < m) (h : place os x = some k) (r : List Nat) (hr : ∀ y ∈ r, m ≤ y) : place (os ++ r) x = some k := by
  unfold place at h ⊢
  split at h
  · rename_i hc
    have hx : x ∈ toI os := by simpa using hc
    have hx' : ∃ y ∈ os, (y : Int) = x := by simpa [toI] using hx
    obtain ⟨y, hy, rfl⟩ := hx'
    have e : (toI (os ++ r)).contains ((y : Nat) : Int) = true := by
      have : ((y : Nat) : Int) ∈ toI (os ++ r) := List.mem_map.2 ⟨y, List.mem_append_left _ hy, rfl⟩
      simpa using this
    rw [if_pos e]
    cases h
    congr 1
    have : toI (os ++ r) = toI os ++ toI r := by simp [toI]
    rw [this, List.countP_append]
    have h0 : (toI r).countP (fun z => decide (z < ((y : Nat) : Int))) = 0 := by
      rw [List.countP_eq_zero]
      intro z hz
      have : ∃ q ∈ r, (q : Int) = z := by simpa [toI] using hz
      obtain ⟨q, hq, rfl⟩ := this
      have h1 := hr q hq
      have h2 := hm y hy
      simp; omega
    omega
  · cases h
theorem node_more {l : List Ins} {os : List Nat} {i m : Nat} {s : List Nat} (hl : os.length = l.length) (hm : ∀ y ∈ os, y < m) (h : node l os i = some s) (r : List Nat) (hr : ∀ y ∈ r, m ≤ y) (t : List Ins) : node (l ++ t) (os ++ r) i = some s := by
  have hs := node_succ h
  obtain ⟨o, ho, p, h1, h2⟩ := succ_parts hs
  have hi := (List.getElem?_eq_some_iff.1 ho).1
  have ho' : (l ++ t)[i]? = some o := by rw [List.getElem?_append_left hi]; exact ho
  have hn : nextOf (l ++ t).length i o = some p := by
    unfold nextOf at h1 ⊢
    split at h1
    · rename_i hc
      rw [if_pos hc]
      split at h1
      · cases h1
      · rename_i h3
        rw [if_neg (by rw [List.length_append]; omega)]
        exact h1
    · rename_i hc
      rw [if_neg hc]
      exact h1
  have hs' : succ (l ++ t) (os ++ r) i = some s := by
    unfold succ
    rw [ho', Option.bind_some]
    unfold succO
    rw [hn, Option.bind_some]
    rcases h2 with ⟨hj, k, h3, rfl⟩ | ⟨hj, rfl⟩
    · rw [if_pos hj, place_more hm h3 r hr]; rfl
    · rw [if_neg (by rw [hj]; decide)]
  unfold node at h ⊢
  rw [hs'] 
  rw [hs, Option.bind_some, ho] at h
  rw [Option.bind_some, ho']
  simp only at h ⊢
  split at h
  · cases h
  · rename_i hc
    rw [if_neg]
    · rintro ⟨c1, c2⟩
      apply hc
      refine ⟨c1, ?_⟩
      cases hq : isJoin l os o.b
      · rfl
      · exfalso
        unfold isJoin at hq c2
        cases hp : place os o.b with
        | none => rw [hp] at hq; simp at hq
        | some k =>
          rw [place_more hm hp r hr] at c2
          rw [hp] at hq
          have hk : k < l.length := by have := placeLt hp; omega
          simp only at hq c2
          rw [List.getElem?_append_left hk] at c2
          rw [hq] at c2
          cases c2
theorem graphTo_more {l : List Ins} {os : List Nat} {m : Nat} (hl : os.length = l.length) (hm : ∀ y ∈ os, y < m) (r : List Nat) (hr : ∀ y ∈ r, m ≤ y) (t : List Ins) : ∀ {k : Nat} {g : List (List Nat)}, graphTo l os k = some g → graphTo (l ++ t) (os ++ r) k = some g
  | 0, _, h => h
  | k + 1, g, h => by
    unfold graphTo at h ⊢
    obtain ⟨g', h1, h2⟩ := Option.bind_eq_some_iff.1 h
    obtain ⟨s, h3, rfl⟩ := Option.map_eq_some_iff.1 h2
    rw [graphTo_more hl hm r hr t h1, Option.bind_some, node_more hl hm h3 r hr t]
    rfl
theorem graph_two {l : List Ins} {os : List Nat} {m : Nat} {g : List (List Nat)} (hl : os.length = l.length) (hm : ∀ y ∈ os, y < m) (h : graph l os = some g) : graph (l ++ two) (os ++ [m, m + 1]) = some (g ++ [[l.length + 1], []]) := by
  unfold graph at h
  split at h
  · cases h
  · have h0 := graphTo_more hl hm [m, m + 1] (by simp) two h
    unfold graph
    rw [if_neg (by simp [two]), show (l ++ two).length = l.length + 1 + 1 by simp [two]]
    have e1 : (l ++ two)[l.length]? = some ⟨1, 0, 0⟩ := by simp [two]
    have e2 : (l ++ two)[l.length + 1]? = some ⟨17, 0, 0⟩ := by simp [two]
    have n1 : node (l ++ two) (os ++ [m, m + 1]) l.length = some [l.length + 1] := by
      have : succ (l ++ two) (os ++ [m, m + 1]) l.length = some [l.length + 1] := by
        unfold succ
        rw [e1, Option.bind_some]
        simp [succO, nextOf, cont, jumps, two, norm]
      unfold node
      rw [this, Option.bind_some, e1]
      simp
    have n2 : node (l ++ two) (os ++ [m, m + 1]) (l.length + 1) = some [] := by
      have : succ (l ++ two) (os ++ [m, m + 1]) (l.length + 1) = some [] := by
        unfold succ
        rw [e2, Option.bind_some]
        simp [succO, nextOf, cont, jumps, norm]
      unfold node
      rw [this, Option.bind_some, e2]
      simp
    unfold graphTo
    unfold graphTo
    rw [h0, Option.bind_some, n1]
    simp [n2]
theorem getD_append_lo {α : Type} {D E : List α} {i : Nat} {z : α} (h : i < D.length) : (D ++ E).getD i z = D.getD i z := by
  simp [List.getD_eq_getElem?_getD, List.getElem?_append_left h]
theorem visit_more {a : Int} (E : List Int) : ∀ {r : List Nat} {D : List Int} {W : List Nat}, (∀ s ∈ r, s < D.length) → visit a r (D ++ E) W = (visit a r D W).map fun p => (p.1 ++ E, p.2)
  | [], _, _, _ => rfl
  | s :: r, D, W, h => by
    have hs := h s (by simp)
    have hr : ∀ x ∈ r, x < D.length := fun x hx => h x (by simp [hx])
    unfold visit
    rw [getD_append_lo hs]
    split
    · rw [List.set_append_left _ _ hs]
      exact visit_more E (fun x hx => by rw [List.length_set]; exact hr x hx)
    · split
      · exact visit_more E hr
      · rfl
theorem visit_len {a : Int} : ∀ {r : List Nat} {D : List Int} {W : List Nat} {p : List Int × List Nat}, visit a r D W = some p → p.1.length = D.length ∧ ∀ i ∈ p.2, i ∈ W ∨ i ∈ r
  | [], _, _, _, h => by cases h; exact ⟨rfl, fun _ h => .inl h⟩
  | s :: r, D, W, p, h => by
    unfold visit at h
    split at h
    · obtain ⟨h1, h2⟩ := visit_len h
      refine ⟨by rw [h1, List.length_set], fun i hi => ?_⟩
      rcases h2 i hi with h3 | h3
      · rcases List.mem_cons.1 h3 with rfl | h3
        · exact .inr (by simp)
        · exact .inl h3
      · exact .inr (by simp [h3])
    · split at h
      · obtain ⟨h1, h2⟩ := visit_len h
        exact ⟨h1, fun i hi => (h2 i hi).imp id (fun h => by simp [h])⟩
      · cases h
theorem run_two {l : List Ins} {g : List (List Nat)} (hg : ∀ i, ∀ s ∈ g.getD i [], s < l.length) (hgl : g.length = l.length) (t : List Ins) (u : List (List Nat)) (E : List Int) : ∀ {f : Nat} {D : List Int} {W : List Nat}, D.length = l.length → (∀ i ∈ W, i < l.length) → run (l ++ t) (g ++ u) f (D ++ E) W = (run l g f D W).map (· ++ E)
  | 0, _, _, _, _ => rfl
  | f + 1, D, [], _, _ => rfl
  | f + 1, D, i :: W, hD, hW => by
    have hi := hW i (by simp)
    unfold run
    rw [getD_append_lo (by omega : i < l.length), getD_append_lo (by omega : i < D.length), getD_append_lo (by omega : i < g.length)]
    split
    · rw [visit_more E (fun s hs => by rw [hD]; exact hg i s hs)]
      cases hv : visit (after (l.getD i ⟨0, 0, 0⟩) (D.getD i 0)) (g.getD i []) D W with
      | none => rfl
      | some p =>
        obtain ⟨v1, v2⟩ := visit_len hv
        simp only [Option.map_some, Option.bind_some]
        exact run_two hg hgl t u E (by rw [v1]; exact hD) fun k hk => by
          rcases v2 k hk with h | h
          · exact hW k (by simp [h])
          · exact hg i k h
    · rfl
theorem depths_two {l : List Ins} {g : List (List Nat)} {D : List Int} (hl : l ≠ []) (hgl : g.length = l.length) (hg : ∀ i, ∀ s ∈ g.getD i [], s < l.length) (h : depths l g = some D) : depths (l ++ two) (g ++ [[l.length + 1], []]) = some (D ++ [-1, -1]) := by
  have hp := List.length_pos_iff.2 hl
  unfold depths at h ⊢
  have e : (List.replicate (l ++ two).length (-1 : Int)).set 0 0 = (List.replicate l.length (-1)).set 0 0 ++ [-1, -1] := by
    rw [show (l ++ two).length = l.length + 2 by simp [two], ← List.replicate_append_replicate, List.set_append_left _ _ (by simpa using hp)]
    rfl
  rw [e, show 2 * (l ++ two).length + 2 = (2 * l.length + 2) + 4 by simp [two]; omega]
  have := run_two hg hgl two [[l.length + 1], []] [-1, -1] (f := 2 * l.length + 2 + 4) (D := (List.replicate l.length (-1)).set 0 0) (W := [0]) (by simp) (fun i hi => by obtain rfl := List.mem_singleton.1 hi; exact hp)
  rw [this, run_more h 4]
  rfl
end Go.Proofs.YtilikjfjbnabfaaGreatDoor.Fl

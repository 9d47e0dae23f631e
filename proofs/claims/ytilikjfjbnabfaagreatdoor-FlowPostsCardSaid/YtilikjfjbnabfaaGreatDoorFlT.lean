/- Plain mathematics: ways to an end; what lies on every path is what no way to an end goes round; immediate postdominators. No program is named here. -/
import Derived.Test.YtilikjfjbnabfaaGreatDoorFlS
namespace Go.Proofs.YtilikjfjbnabfaaGreatDoor.Fl
open Go.RowKit Op7

/-- From i an end is come to without coming to j. -/
inductive Rch (g : List (List Nat)) (j : Int) : Nat → Prop
  | last {i : Nat} : (i : Int) ≠ j → i < g.length → g.getD i [] = [] → Rch g j i
  | step {i k : Nat} : (i : Int) ≠ j → k ∈ g.getD i [] → Rch g j k → Rch g j i
theorem mem_getD_lt {g : List (List Nat)} {i k : Nat} (h : k ∈ g.getD i []) : i < g.length := by
  rcases Nat.lt_or_ge i g.length with h1 | h1
  · exact h1
  · rw [List.getD_eq_getElem?_getD, List.getElem?_eq_none h1] at h
    simp at h
theorem Rch.lt {g : List (List Nat)} {j : Int} {i : Nat} (h : Rch g j i) : i < g.length := by
  cases h with
  | last _ h _ => exact h
  | step _ h _ => exact mem_getD_lt h
theorem Rch.ne {g : List (List Nat)} {j : Int} {i : Nat} (h : Rch g j i) : (i : Int) ≠ j := by
  cases h with
  | last h _ _ => exact h
  | step h _ _ => exact h
theorem Rch.any {g : List (List Nat)} {j j' : Int} {i : Nat} (h : Rch g j i) (hj : ∀ k : Nat, k < g.length → (k : Int) ≠ j') : Rch g j' i := by
  induction h with
  | last _ h2 h3 => exact .last (hj _ h2) h2 h3
  | step _ h2 _ ih => exact .step (hj _ (mem_getD_lt h2)) h2 ih
/-- What lies on every way from one that lies on every way. -/
theorem Rch.from {g : List (List Nat)} {j : Int} {i m : Nat} (h : Rch g j i) (hm : ¬ Rch g m i) : Rch g j m := by
  induction h with
  | @last i h1 h2 h3 =>
    by_cases e : i = m
    · rw [← e]; exact .last h1 h2 h3
    · exact absurd (.last (by omega) h2 h3) hm
  | @step i k h1 h2 h3 ih =>
    by_cases e : i = m
    · rw [← e]; exact .step h1 h2 h3
    · exact ih (fun h => hm (.step (by omega) h2 h))
/-- Not both lie behind one another. -/
theorem Rch.apart {g : List (List Nat)} {i m : Nat} (hne : i ≠ m) (h1 : ¬ Rch g m i) (h2 : ¬ Rch g i m) : ¬ Rch g (-1) i := by
  have key : ∀ x, Rch g (-1) x → ¬ (¬ Rch g m x ∧ ¬ Rch g i x) := by
    intro x hx
    induction hx with
    | @last x _ a2 a3 =>
      rintro ⟨b1, b2⟩
      have e1 : x = m := Decidable.byContradiction fun e => b1 (.last (by omega) a2 a3)
      have e2 : x = i := Decidable.byContradiction fun e => b2 (.last (by omega) a2 a3)
      omega
    | @step x k _ a2 a3 ih =>
      rintro ⟨b1, b2⟩
      have c1 : Rch g m k → x = m := fun h => Decidable.byContradiction fun e => b1 (.step (by omega) a2 h)
      have c2 : Rch g i k → x = i := fun h => Decidable.byContradiction fun e => b2 (.step (by omega) a2 h)
      have d1 : ¬ Rch g m k := fun h => by
        have e := c1 h
        have : ¬ Rch g i k := fun h' => by have := c2 h'; omega
        exact h1 (h.from this)
      have d2 : ¬ Rch g i k := fun h => by
        exact h2 (h.from d1)
      exact ih ⟨d1, d2⟩
  exact fun h => key i h ⟨h1, fun h => h.ne rfl⟩

/-! ### The sets say it -/
def Wit (g : List (List Nat)) (n : Nat) (S : List (List Nat)) : Prop := ∀ i, i < n → ∀ j, j < 576 → has (S.getD i full) j = false → Rch g j i
theorem wit_step {g : List (List Nat)} {n : Nat} {S : List (List Nat)} (hg : g.length = n) (hs : ∀ i, ∀ s ∈ g.getD i [], s < n) (hD : Down g n S) (h : Wit g n S) {k : Nat} (hk : k < n) : Wit g n (S.set k (newAt g S k)) := by
  intro i hi j hj hh
  rw [getD_set' hD.ok.1 hk] at hh
  split at hh
  · rename_i e
    subst e
    have hf := hD.few
    have hne : ¬ (j = k ∨ (g.getD k [] ≠ [] ∧ j < 576 ∧ ∀ s ∈ g.getD k [], has (S.getD s full) j = true)) := fun h' => by
      rw [(has_new hD.ok (by omega) j).2 h'] at hh; cases hh
    have hkj : (k : Int) ≠ j := fun e => hne (.inl (by omega))
    by_cases h0 : g.getD k [] = []
    · exact .last hkj (by omega) h0
    · have : ∃ s ∈ g.getD k [], has (S.getD s full) j = false := by
        apply Classical.byContradiction
        intro hc
        refine hne (.inr ⟨h0, hj, fun s hs' => ?_⟩)
        cases hq : has (S.getD s full) j
        · exact absurd ⟨s, hs', hq⟩ hc
        · rfl
      obtain ⟨s, h1, h2⟩ := this
      exact .step hkj h1 (h s (hs k s h1) j hj h2)
  · exact h i hi j hj hh
theorem sweepF_wit {g : List (List Nat)} {n : Nat} (hg : g.length = n) (hs : ∀ i, ∀ s ∈ g.getD i [], s < n) : ∀ {k : Nat} {S S' : List (List Nat)} {ch ch' : Bool}, Down g n S → Wit g n S → k ≤ n → sweepF g k S ch = (S', ch') → Wit g n S'
  | 0, S, S', ch, ch', _, hW, _, h => by cases h; exact hW
  | k + 1, S, S', ch, ch', hD, hW, hk, h => sweepF_wit hg hs (hD.step (k := k) (by omega)) (wit_step hg hs hD hW (by omega)) (by omega) h
theorem Sweeps.wit {g S S' : List (List Nat)} (h : Sweeps g S S') : ∀ {n : Nat}, g.length = n → (∀ i, ∀ s ∈ g.getD i [], s < n) → Down g n S → Wit g n S → Wit g n S' := by
  induction h with
  | done h => exact fun hn hs hD hW => sweepF_wit hn hs hD hW (by omega) h
  | more h _ ih => exact fun hn hs hD hW => ih hn hs (sweepF_down hD (by omega) h).1 (sweepF_wit hn hs hD hW (by omega) h)
theorem fix_avoid {g S : List (List Nat)} {n : Nat} (hg : g.length = n) (hD : Down g n S) (hF : ∀ i, i < n → newAt g S i = S.getD i full) {j : Nat} {i : Nat} (h : Rch g j i) : has (S.getD i full) j = false := by
  have hf := hD.few
  induction h with
  | @last i h1 h2 h3 =>
    rw [← hF i (by omega)]
    cases hq : has (newAt g S i) j
    · rfl
    · rcases (has_new hD.ok (by omega) j).1 hq with h | ⟨h, _⟩
      · omega
      · exact absurd h3 h
  | @step i k h1 h2 h3 ih =>
    have := mem_getD_lt h2
    rw [← hF i (by omega)]
    cases hq : has (newAt g S i) j
    · rfl
    · rcases (has_new hD.ok (by omega) j).1 hq with h | ⟨_, _, h⟩
      · omega
      · rw [h k h2] at ih; cases ih
/-- What the sets are, in the end. -/
structure Sets (g S : List (List Nat)) (n : Nat) : Prop where
  len : g.length = n
  few : n ≤ 512
  ok : Oks n S
  fix : ∀ i, i < n → newAt g S i = S.getD i full
  iff : ∀ i, i < n → ∀ j, j < 576 → (has (S.getD i full) j = true ↔ ¬ Rch g j i)
theorem Sweeps.sets {g S : List (List Nat)} {n : Nat} (h : Sweeps g (List.replicate n full) S) (hg : g.length = n) (hn : n ≤ 512) (hs : ∀ i, ∀ s ∈ g.getD i [], s < n) : Sets g S n := by
  have hD0 := start_down g n (by omega)
  obtain ⟨hD, hF⟩ := h.fix hg hD0
  have hW := h.wit hg hs hD0 (fun i hi j hj hh => by
    rw [show (List.replicate n full).getD i full = full by simp [List.getD_eq_getElem?_getD, hi], has_full hj] at hh
    cases hh)
  refine ⟨hg, hn, hD.ok, hF, fun i hi j hj => ⟨fun h hr => ?_, fun hr => ?_⟩⟩
  · rw [fix_avoid hg hD hF hr] at h; cases h
  · cases hq : has (S.getD i full) j
    · exact absurd (hW i hi j hj hq) hr
    · rfl
theorem find_spec (S : List (List Nat)) (s : List Nat) : ∀ f, f ≤ S.length → (find S s f = -1 ∧ ∀ k, S.length - f ≤ k → k < S.length → S.getD k full ≠ s) ∨ ∃ k : Nat, find S s f = k ∧ S.length - f ≤ k ∧ k < S.length ∧ S.getD k full = s
  | 0, _ => .inl ⟨rfl, fun k h1 h2 => by omega⟩
  | f + 1, hf => by
    unfold find
    rw [if_neg (by omega)]
    split
    · rename_i h
      exact .inr ⟨S.length - (f + 1), rfl, Nat.le_refl _, by omega, h⟩
    · rename_i h
      rcases find_spec S s f (by omega) with ⟨h1, h2⟩ | ⟨k, h1, h2, h3, h4⟩
      · refine .inl ⟨h1, fun k k1 k2 => ?_⟩
        by_cases e : k = S.length - (f + 1)
        · rw [e]; exact h
        · exact h2 k (by omega) k2
      · exact .inr ⟨k, h1, by omega, h3, h4⟩
theorem indexOf_spec (S : List (List Nat)) (s : List Nat) : (indexOf S s = -1 ∧ ∀ k, k < S.length → S.getD k full ≠ s) ∨ ∃ k : Nat, indexOf S s = k ∧ k < S.length ∧ S.getD k full = s := by
  rcases find_spec S s S.length (Nat.le_refl _) with ⟨h1, h2⟩ | ⟨k, h1, _, h3, h4⟩
  · exact .inl ⟨h1, fun k hk => h2 k (by omega) hk⟩
  · exact .inr ⟨k, h1, h3, h4⟩
/-- Those on every way from i, besides i. -/
def Must (g : List (List Nat)) (i k : Nat) : Prop := k < g.length ∧ k ≠ i ∧ ¬ Rch g k i
/-- The first one of them. -/
def First (g : List (List Nat)) (i a : Nat) : Prop := ∀ c, Must g i c → c ≠ a → ¬ Rch g c a
/-- What the document says of one instruction. -/
def Says (g : List (List Nat)) (i : Nat) (v : Int) : Prop :=
  (v = -1 ∧ (¬ Rch g (-1) i ∨ ∀ a, Must g i a → ¬ First g i a)) ∨ ∃ a : Nat, v = a ∧ Rch g (-1) i ∧ Must g i a ∧ First g i a
theorem rem_of {g S : List (List Nat)} {n : Nat} (h : Sets g S n) {i k : Nat} (hi : i < n) (hk : k < n) (hr : Rch g (-1) i) : S.getD k full = rem (S.getD i full) i ↔ Must g i k ∧ First g i k := by
  have hl := h.len
  have hf := h.few
  have hOi := h.ok.at i
  have hOk := h.ok.at k
  have hrem : ∀ j, has (rem (S.getD i full) i) j = (decide (j ≠ i) && has (S.getD i full) j) := has_rem hOi (by omega)
  have self : ∀ x : Nat, ¬ Rch g x x := fun x hx => hx.ne rfl
  constructor
  · intro e
    have h1 : has (S.getD k full) k = true := (h.iff k hk k (by omega)).2 (self k)
    rw [e, hrem, Bool.and_eq_true, decide_eq_true_eq] at h1
    refine ⟨⟨by omega, h1.1, (h.iff i hi k (by omega)).1 h1.2⟩, fun c hc hca => ?_⟩
    obtain ⟨c1, c2, c3⟩ := hc
    refine (h.iff k hk c (by omega)).1 ?_
    rw [e, hrem, Bool.and_eq_true, decide_eq_true_eq]
    exact ⟨c2, (h.iff i hi c (by omega)).2 c3⟩
  · rintro ⟨⟨k1, k2, k3⟩, hF⟩
    refine set_ext hOk (rem_ok hOi i) fun j => ?_
    rw [hrem]
    rcases Nat.lt_or_ge j 576 with hj | hj
    · rw [Bool.eq_iff_iff, Bool.and_eq_true, decide_eq_true_eq, h.iff k hk j hj, h.iff i hi j hj]
      constructor
      · intro hm
        refine ⟨fun e => ?_, fun hx => hm (hx.from k3)⟩
        subst e
        exact Rch.apart (fun e => k2 e.symm) k3 hm hr
      · rintro ⟨j1, j2⟩
        by_cases e : j = k
        · rw [e]; exact self k
        · refine hF j ⟨?_, j1, j2⟩ e
          rcases Nat.lt_or_ge j g.length with h1 | h1
          · exact h1
          · exact absurd (hr.any (j' := (j : Int)) (fun x hx => by omega)) j2
    · rw [has_high hOk hj, has_high hOi hj, Bool.and_false]
/-- FL2: the program's answer is the document's. -/
theorem post_says {g S : List (List Nat)} {n : Nat} (h : Sets g S n) {i : Nat} (hi : i < n) {v : Int} (hv : Says g i v) : indexOf S (rem (S.getD i full) i) = v := by
  have hl := h.len
  have hf := h.few
  have hrem : ∀ j, has (rem (S.getD i full) i) j = (decide (j ≠ i) && has (S.getD i full) j) := has_rem (h.ok.at i) (by omega)
  by_cases hr : Rch g (-1) i
  · rcases indexOf_spec S (rem (S.getD i full) i) with ⟨e1, e2⟩ | ⟨k, e1, e2, e3⟩
    · rw [e1]
      rcases hv with ⟨rfl, _⟩ | ⟨a, _, _, ha, hF⟩
      · rfl
      · have : a < n := by have := ha.1; omega
        exact absurd ((rem_of h hi this hr).2 ⟨ha, hF⟩) (e2 a (by rw [h.ok.1]; exact this))
    · have hkn : k < n := by rw [h.ok.1] at e2; exact e2
      obtain ⟨hk, hFk⟩ := (rem_of h hi hkn hr).1 e3
      rw [e1]
      rcases hv with ⟨rfl, h1 | h1⟩ | ⟨a, rfl, _, ha, hFa⟩
      · exact absurd hr h1
      · exact absurd hFk (h1 k hk)
      · by_cases e : k = a
        · rw [e]
        · exact absurd (hr.from hk.2.2) (Rch.apart e (hFk a ha (fun h => e h.symm)) (hFa k hk e))
  · obtain rfl : v = -1 := by
      rcases hv with ⟨rfl, _⟩ | ⟨a, _, h1, _⟩
      · rfl
      · exact absurd h1 hr
    have hall : ∀ x, ¬ Rch g (-1) x → ∀ j, ¬ Rch g j x := fun x hx j hj => hx (hj.any (fun k _ => by omega))
    rcases indexOf_spec S (rem (S.getD i full) i) with ⟨e1, _⟩ | ⟨k, _, e2, e3⟩
    · exact e1
    · exfalso
      have hkn : k < n := by rw [h.ok.1] at e2; exact e2
      have h1 : has (S.getD k full) 575 = true := by
        rw [e3, hrem, Bool.and_eq_true, decide_eq_true_eq]
        exact ⟨by omega, (h.iff i hi 575 (by decide)).2 (hall i hr _)⟩
      have h2 : ¬ Rch g (-1) k := fun hk => (h.iff k hkn 575 (by decide)).1 h1 (hk.any (fun x hx => by omega))
      have h3 : has (S.getD k full) i = true := (h.iff k hkn i (by omega)).2 (hall k h2 _)
      rw [e3, hrem] at h3
      simp at h3
/-! ### Ways -/
theorem post_mem {g S : List (List Nat)} {n : Nat} (h : Sets g S n) {i : Nat} (hi : i < n) {k : Nat} (hk : indexOf S (rem (S.getD i full) i) = k) : k < n ∧ k ≠ i ∧ has (S.getD i full) k = true := by
  have hf := h.few
  have hl := h.len
  rcases indexOf_spec S (rem (S.getD i full) i) with ⟨e1, _⟩ | ⟨k', e1, e2, e3⟩
  · omega
  · obtain rfl : k' = k := by omega
    have hkn : k' < n := by rw [h.ok.1] at e2; exact e2
    have h1 : has (S.getD k' full) k' = true := (h.iff k' hkn k' (by omega)).2 (fun hx => hx.ne rfl)
    rw [e3, has_rem (h.ok.at i) (by omega), Bool.and_eq_true, decide_eq_true_eq] at h1
    exact ⟨hkn, h1.1, h1.2⟩
/-- What lies on every way lies on every way from the next one. -/
theorem has_step {g S : List (List Nat)} {n : Nat} (h : Sets g S n) {i s k : Nat} (hi : i < n) (hs : s ∈ g.getD i []) (hk : has (S.getD i full) k = true) (hne : k ≠ i) : has (S.getD s full) k = true := by
  have hf := h.few
  rw [← h.fix i hi] at hk
  rcases (has_new h.ok (by omega) k).1 hk with h1 | ⟨_, _, h1⟩
  · exact absurd h1 hne
  · exact h1 s hs
theorem has_last {g S : List (List Nat)} {n : Nat} (h : Sets g S n) {i k : Nat} (hi : i < n) (he : g.getD i [] = []) (hk : has (S.getD i full) k = true) : k = i := by
  have hf := h.few
  rw [← h.fix i hi] at hk
  rcases (has_new h.ok (by omega) k).1 hk with h1 | ⟨h1, _⟩
  · exact h1
  · exact absurd he h1
end Go.Proofs.YtilikjfjbnabfaaGreatDoor.Fl

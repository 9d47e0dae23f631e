/- Plain mathematics of sets of instructions (nine words of 64 bits) and of what lies on every path. No program is named here. -/
import Derived.Test.YtilikjfjbnabfaaGreatDoorFlP
namespace Go.Proofs.YtilikjfjbnabfaaGreatDoor.Fl
open Go.RowKit Op7

def M64 : Nat := 18446744073709551615
def full : List Nat := [M64, M64, M64, M64, M64, M64, M64, M64, M64]
def zero : List Nat := [0, 0, 0, 0, 0, 0, 0, 0, 0]
def bit (i : Nat) : Nat := 2 ^ (i % 64)
def put (s : List Nat) (i : Nat) : List Nat := s.set (i / 64) (s.getD (i / 64) 0 ||| bit i)
def rem (s : List Nat) (i : Nat) : List Nat := s.set (i / 64) (s.getD (i / 64) 0 &&& (M64 - bit i))
def meet (s t : List Nat) : List Nat := List.zipWith (· &&& ·) s t
def has (s : List Nat) (i : Nat) : Bool := (s.getD (i / 64) 0).testBit (i % 64)
def Ok (s : List Nat) : Prop := s.length = 9 ∧ ∀ x ∈ s, x < 18446744073709551616
theorem bit_lt (i : Nat) : bit i < 18446744073709551616 := by
  have : i % 64 < 64 := Nat.mod_lt _ (by decide)
  exact Nat.lt_of_lt_of_le (Nat.pow_lt_pow_right (by decide) this) (by decide)
theorem full_ok : Ok full := ⟨rfl, by decide⟩
theorem zero_ok : Ok zero := ⟨rfl, by decide⟩
theorem Ok.at {s : List Nat} (h : Ok s) (k : Nat) : s.getD k 0 < 18446744073709551616 := by
  rcases Nat.lt_or_ge k s.length with hk | hk
  · rw [List.getD_eq_getElem?_getD, List.getElem?_eq_getElem hk]
    exact h.2 _ (List.getElem_mem hk)
  · rw [List.getD_eq_getElem?_getD, List.getElem?_eq_none hk]; decide
theorem Ok.set {s : List Nat} (h : Ok s) (k x : Nat) (hx : x < 18446744073709551616) : Ok (s.set k x) := by
  refine ⟨by rw [List.length_set]; exact h.1, fun y hy => ?_⟩
  rcases List.mem_or_eq_of_mem_set hy with h1 | h1
  · exact h.2 y h1
  · rw [h1]; exact hx
theorem put_ok {s : List Nat} (h : Ok s) (i : Nat) : Ok (put s i) := h.set _ _ (Nat.or_lt_two_pow (n := 64) (h.at _) (bit_lt i))
theorem rem_ok {s : List Nat} (h : Ok s) (i : Nat) : Ok (rem s i) := h.set _ _ (Nat.lt_of_le_of_lt Nat.and_le_left (h.at _))
theorem meet_ok {s t : List Nat} (h : Ok s) (k : Ok t) : Ok (meet s t) := by
  refine ⟨by unfold meet; rw [List.length_zipWith, h.1, k.1]; rfl, fun x hx => ?_⟩
  unfold meet at hx
  obtain ⟨i, hi, rfl⟩ := List.mem_iff_getElem.1 hx
  rw [List.getElem_zipWith]
  exact Nat.lt_of_le_of_lt Nat.and_le_left (h.2 _ (List.getElem_mem _))
theorem div_eq_iff {i j : Nat} : (i / 64 = j / 64 ∧ i % 64 = j % 64) ↔ i = j := by omega
theorem has_put {s : List Nat} (h : Ok s) {i : Nat} (hi : i < 576) (j : Nat) : has (put s i) j = (decide (j = i) || has s j) := by
  unfold has put
  rw [getD_set]
  by_cases h1 : i / 64 = j / 64
  · rw [if_pos ⟨h1, by rw [h.1]; omega⟩, Nat.testBit_or, h1]
    unfold bit
    rw [Nat.testBit_two_pow]
    by_cases h2 : i % 64 = j % 64
    · have : j = i := by omega
      simp [this]
    · have : ¬ j = i := by omega
      simp [h2, this]
  · have : ¬ j = i := by omega
    rw [if_neg (fun h => h1 h.1)]
    simp [this]
theorem mask_bit (k b : Nat) (hk : k < 64) (hb : b < 64) : (18446744073709551615 - 2 ^ k).testBit b = decide (k ≠ b) := by
  have e : 18446744073709551615 - 2 ^ k = (2 ^ 64 - 1) ^^^ 2 ^ k := by
    have : ∀ k, k < 64 → 18446744073709551615 - 2 ^ k = (2 ^ 64 - 1) ^^^ 2 ^ k := by decide +kernel
    exact this k hk
  rw [e, Nat.testBit_xor, Nat.testBit_two_pow_sub_one, Nat.testBit_two_pow]
  by_cases h : k = b
  · simp [h, hb]
  · simp [h, hb]
theorem has_rem {s : List Nat} (h : Ok s) {i : Nat} (hi : i < 576) (j : Nat) : has (rem s i) j = (decide (j ≠ i) && has s j) := by
  unfold has rem
  rw [getD_set]
  by_cases h1 : i / 64 = j / 64
  · rw [if_pos ⟨h1, by rw [h.1]; omega⟩, Nat.testBit_and, h1]
    unfold bit M64
    rw [mask_bit _ _ (Nat.mod_lt _ (by decide)) (Nat.mod_lt _ (by decide))]
    by_cases h2 : i % 64 = j % 64
    · have : j = i := by omega
      simp [this]
    · have : ¬ j = i := by omega
      simp [h2, this]
  · have : ¬ j = i := by omega
    rw [if_neg (fun h => h1 h.1)]
    simp [this]
theorem has_meet (s t : List Nat) (j : Nat) (h : s.length = t.length) : has (meet s t) j = (has s j && has t j) := by
  unfold has meet
  simp only [List.getD_eq_getElem?_getD, List.getElem?_zipWith]
  rcases Nat.lt_or_ge (j / 64) s.length with hk | hk
  · rw [List.getElem?_eq_getElem hk, List.getElem?_eq_getElem (by omega)]
    simp
  · rw [List.getElem?_eq_none hk, List.getElem?_eq_none (by omega)]
    simp
theorem has_full {j : Nat} (hj : j < 576) : has full j = true := by
  unfold has full
  have h1 : j / 64 < 9 := by omega
  have h2 : ∀ k, k < 9 → ([M64, M64, M64, M64, M64, M64, M64, M64, M64] : List Nat).getD k 0 = 2 ^ 64 - 1 := by decide
  rw [h2 _ h1, Nat.testBit_two_pow_sub_one]
  simp; omega
theorem has_zero (j : Nat) : has zero j = false := by
  unfold has zero
  have h2 : ([0, 0, 0, 0, 0, 0, 0, 0, 0] : List Nat).getD (j / 64) 0 = 0 := by
    rcases Nat.lt_or_ge (j / 64) 9 with h | h
    · have : ∀ k, k < 9 → ([0, 0, 0, 0, 0, 0, 0, 0, 0] : List Nat).getD k 0 = 0 := by decide
      exact this _ h
    · rw [List.getD_eq_getElem?_getD, List.getElem?_eq_none (by simpa using h)]; rfl
  rw [h2, Nat.zero_testBit]
theorem has_high {s : List Nat} (h : Ok s) {j : Nat} (hj : 576 ≤ j) : has s j = false := by
  unfold has
  rw [List.getD_eq_getElem?_getD, List.getElem?_eq_none (by rw [h.1]; omega)]
  exact Nat.zero_testBit _
theorem word_bit {s : List Nat} (k b : Nat) (hb : b < 64) : (s.getD k 0).testBit b = has s (64 * k + b) := by
  unfold has
  rw [show (64 * k + b) / 64 = k by omega, show (64 * k + b) % 64 = b by omega]
theorem big_bit {s : List Nat} (h : Ok s) (k b : Nat) (hb : 64 ≤ b) : (s.getD k 0).testBit b = false :=
  Nat.testBit_lt_two_pow (Nat.lt_of_lt_of_le (h.at k) (by rw [show 18446744073709551616 = 2 ^ 64 by decide]; exact Nat.pow_le_pow_right (by decide) hb))
theorem set_ext {s t : List Nat} (hs : Ok s) (ht : Ok t) (h : ∀ j, has s j = has t j) : s = t := by
  apply List.ext_getElem (hs.1.trans ht.1.symm)
  intro k h1 h2
  have e : s.getD k 0 = t.getD k 0 := by
    apply Nat.eq_of_testBit_eq
    intro b
    rcases Nat.lt_or_ge b 64 with hb | hb
    · rw [word_bit k b hb, word_bit k b hb]; exact h _
    · rw [big_bit hs k b hb, big_bit ht k b hb]
  simpa [List.getD_eq_getElem?_getD, h1, h2] using e
def Sub (s t : List Nat) : Prop := ∀ j, has s j = true → has t j = true
theorem Sub.word {s t : List Nat} (hs : Ok s) (h : Sub s t) (k : Nat) : s.getD k 0 ≤ t.getD k 0 := by
  have e : s.getD k 0 &&& t.getD k 0 = s.getD k 0 := by
    apply Nat.eq_of_testBit_eq
    intro b
    rw [Nat.testBit_and]
    rcases Nat.lt_or_ge b 64 with hb | hb
    · rw [word_bit k b hb, word_bit k b hb]
      cases h1 : has s (64 * k + b)
      · rfl
      · rw [h _ h1]; rfl
    · rw [big_bit hs k b hb]; rfl
  rw [← e]
  exact Nat.and_le_right
theorem sum_le : ∀ {s t : List Nat}, s.length = t.length → (∀ k, s.getD k 0 ≤ t.getD k 0) → s.sum ≤ t.sum ∧ (s.sum = t.sum → s = t)
  | [], [], _, _ => ⟨Nat.le_refl _, fun _ => rfl⟩
  | [], _ :: _, h, _ => by simp at h
  | _ :: _, [], h, _ => by simp at h
  | x :: s, y :: t, h, hk => by
    have h0 := hk 0
    have h1 := sum_le (s := s) (t := t) (by simpa using h) (fun k => by have := hk (k + 1); simpa using this)
    simp only [List.getD_cons_zero] at h0
    rw [List.sum_cons, List.sum_cons]
    refine ⟨by omega, fun he => ?_⟩
    have : x = y := by omega
    rw [this, h1.2 (by omega)]
theorem Sub.sum {s t : List Nat} (hs : Ok s) (ht : Ok t) (h : Sub s t) : s.sum ≤ t.sum ∧ (s ≠ t → s.sum < t.sum) := by
  have := sum_le (hs.1.trans ht.1.symm) (h.word hs)
  refine ⟨this.1, fun hne => ?_⟩
  rcases Nat.lt_or_ge s.sum t.sum with h1 | h1
  · exact h1
  · exact absurd (this.2 (by omega)) hne

/-! ### What lies on every path -/
def common (S : List (List Nat)) : List Nat → List Nat → List Nat
  | c, [] => c
  | c, k :: r => common S (meet c (S.getD k full)) r
def behind (S : List (List Nat)) (ks : List Nat) : List Nat := if ks = [] then zero else common S full ks
def newAt (g : List (List Nat)) (S : List (List Nat)) (i : Nat) : List Nat := put (behind S (g.getD i [])) i
def sweepF (g : List (List Nat)) : Nat → List (List Nat) → Bool → List (List Nat) × Bool
  | 0, S, ch => (S, ch)
  | k + 1, S, ch => sweepF g k (S.set k (newAt g S k)) (ch || decide (newAt g S k ≠ S.getD k full))
inductive Sweeps (g : List (List Nat)) : List (List Nat) → List (List Nat) → Prop
  | done {S S' : List (List Nat)} : sweepF g g.length S false = (S', false) → Sweeps g S S'
  | more {S S1 S' : List (List Nat)} : sweepF g g.length S false = (S1, true) → Sweeps g S1 S' → Sweeps g S S'
/-- Sets for all of n instructions. -/
def Oks (n : Nat) (S : List (List Nat)) : Prop := S.length = n ∧ ∀ s ∈ S, Ok s
theorem Oks.at {n : Nat} {S : List (List Nat)} (h : Oks n S) (k : Nat) : Ok (S.getD k full) := by
  rcases Nat.lt_or_ge k S.length with hk | hk
  · rw [List.getD_eq_getElem?_getD, List.getElem?_eq_getElem hk]
    exact h.2 _ (List.getElem_mem hk)
  · rw [List.getD_eq_getElem?_getD, List.getElem?_eq_none hk]; exact full_ok
theorem Oks.set {n : Nat} {S : List (List Nat)} (h : Oks n S) (k : Nat) {s : List Nat} (hs : Ok s) : Oks n (S.set k s) := by
  refine ⟨by rw [List.length_set]; exact h.1, fun y hy => ?_⟩
  rcases List.mem_or_eq_of_mem_set hy with h1 | h1
  · exact h.2 y h1
  · rw [h1]; exact hs
theorem common_ok {n : Nat} {S : List (List Nat)} (h : Oks n S) : ∀ (ks c : List Nat), Ok c → Ok (common S c ks)
  | [], _, hc => hc
  | k :: r, _, hc => common_ok h r _ (meet_ok hc (h.at k))
theorem behind_ok {n : Nat} {S : List (List Nat)} (h : Oks n S) (ks : List Nat) : Ok (behind S ks) := by
  unfold behind
  split
  · exact zero_ok
  · exact common_ok h ks full full_ok
theorem newAt_ok {n : Nat} {g S : List (List Nat)} (h : Oks n S) (i : Nat) : Ok (newAt g S i) := put_ok (behind_ok h _) i
theorem has_common {n : Nat} {S : List (List Nat)} (h : Oks n S) : ∀ (ks c : List Nat) (j : Nat), Ok c → has (common S c ks) j = (has c j && ks.all fun k => has (S.getD k full) j)
  | [], c, j, _ => by simp [common]
  | k :: r, c, j, hc => by
    show has (common S (meet c (S.getD k full)) r) j = _
    rw [has_common h r _ j (meet_ok hc (h.at k)), has_meet _ _ _ (hc.1.trans (h.at k).1.symm), List.all_cons, Bool.and_assoc]
theorem has_behind {n : Nat} {S : List (List Nat)} (h : Oks n S) (ks : List Nat) (j : Nat) : has (behind S ks) j = true ↔ ks ≠ [] ∧ j < 576 ∧ ∀ k ∈ ks, has (S.getD k full) j = true := by
  unfold behind
  split
  · rename_i h0
    rw [has_zero]
    simp [h0]
  · rename_i h0
    rw [has_common h ks full j full_ok]
    rcases Nat.lt_or_ge j 576 with hj | hj
    · rw [has_full hj]
      simp [h0, hj]
    · rw [has_high full_ok hj]
      simp; omega
theorem has_new {n : Nat} {g S : List (List Nat)} (h : Oks n S) {i : Nat} (hi : i < 576) (j : Nat) : has (newAt g S i) j = true ↔ j = i ∨ (g.getD i [] ≠ [] ∧ j < 576 ∧ ∀ k ∈ g.getD i [], has (S.getD k full) j = true) := by
  unfold newAt
  rw [has_put (behind_ok h _) hi, Bool.or_eq_true, decide_eq_true_eq, has_behind h]
/-- Fewer sets, fewer behind. -/
theorem new_mono {n : Nat} {g S T : List (List Nat)} (hS : Oks n S) (hT : Oks n T) (h : ∀ k, Sub (S.getD k full) (T.getD k full)) {i : Nat} (hi : i < 576) : Sub (newAt g S i) (newAt g T i) := fun j hj => by
  rw [has_new hS hi] at hj
  rw [has_new hT hi]
  rcases hj with h1 | ⟨h1, h2, h3⟩
  · exact .inl h1
  · exact .inr ⟨h1, h2, fun k hk => h k j (h3 k hk)⟩
/-- The sets are too great, if anything. -/
structure Down (g : List (List Nat)) (n : Nat) (S : List (List Nat)) : Prop where
  ok : Oks n S
  few : n ≤ 576
  down : ∀ i, i < n → Sub (newAt g S i) (S.getD i full)
theorem getD_set' {S : List (List Nat)} {n k i : Nat} {s z : List Nat} (hl : S.length = n) (hk : k < n) : (S.set k s).getD i z = if k = i then s else S.getD i z := by
  rw [getD_set]
  by_cases h : k = i
  · rw [if_pos ⟨h, by omega⟩, if_pos h]
  · rw [if_neg (fun h' => h h'.1), if_neg h]
theorem Down.step {g : List (List Nat)} {n : Nat} {S : List (List Nat)} (h : Down g n S) {k : Nat} (hk : k < n) : Down g n (S.set k (newAt g S k)) := by
  have hO := h.ok.set k (newAt_ok (g := g) h.ok k)
  have hf := h.few
  have hsub : ∀ i, Sub ((S.set k (newAt g S k)).getD i full) (S.getD i full) := fun i => by
    rw [getD_set' h.ok.1 hk]
    split
    · rename_i e
      subst e
      exact h.down k hk
    · exact fun _ h => h
  refine ⟨hO, hf, fun i hi => ?_⟩
  have h1 := new_mono (g := g) hO h.ok hsub (i := i) (by omega)
  rw [getD_set' h.ok.1 hk]
  split
  · rename_i e
    subst e
    exact h1
  · exact fun j hj => h.down i hi j (h1 j hj)
def wsum (S : List (List Nat)) : Nat := (S.map List.sum).sum
theorem wsum_set : ∀ {S : List (List Nat)} {k : Nat} {s : List Nat}, k < S.length → wsum (S.set k s) + (S.getD k full).sum = wsum S + s.sum
  | x :: S, 0, s, _ => by simp [wsum]; omega
  | x :: S, k + 1, s, h => by
    have := wsum_set (S := S) (k := k) (s := s) (by simpa using h)
    simp [wsum] at this ⊢
    omega
theorem sweepF_down {g : List (List Nat)} {n : Nat} : ∀ {k : Nat} {S S' : List (List Nat)} {ch ch' : Bool}, Down g n S → k ≤ n → sweepF g k S ch = (S', ch') →
    Down g n S' ∧ wsum S' ≤ wsum S ∧ (ch = false → ch' = true → wsum S' < wsum S) ∧ (ch' = false → ch = false ∧ S' = S ∧ ∀ i, i < k → newAt g S i = S.getD i full)
  | 0, S, S', ch, ch', hD, _, h => by
    cases h
    exact ⟨hD, Nat.le_refl _, (fun h1 h2 => by rw [h1] at h2; cases h2), fun h1 => ⟨h1, rfl, fun i hi => by omega⟩⟩
  | k + 1, S, S', ch, ch', hD, hk, h => by
    have h1 := sweepF_down (hD.step (k := k) (by omega)) (by omega) h
    have hs := Sub.sum (newAt_ok (g := g) hD.ok k) (hD.ok.at k) (hD.down k (by omega))
    have hw := wsum_set (S := S) (k := k) (s := newAt g S k) (by rw [hD.ok.1]; omega)
    obtain ⟨r1, r2, r3, r4⟩ := h1
    refine ⟨r1, by omega, fun e1 e2 => ?_, fun e => ?_⟩
    · by_cases hne : newAt g S k ≠ S.getD k full
      · have := hs.2 hne
        omega
      · have he : newAt g S k = S.getD k full := by simpa using hne
        have := r3 (by rw [e1, he]; simp) e2
        rw [he] at hw
        rw [he] at this
        omega
    · obtain ⟨q1, q2, q3⟩ := r4 e
      rw [Bool.or_eq_false_iff, decide_eq_false_iff_not, Decidable.not_not] at q1
      have hset : S.set k (newAt g S k) = S := by
        rw [q1.2]
        apply List.ext_getElem?
        intro i
        rw [List.getElem?_set]
        split
        · rename_i e2
          subst e2
          have : k < S.length := by rw [hD.ok.1]; omega
          simp [this, List.getD_eq_getElem?_getD]
        · rfl
      rw [hset] at q2 q3
      refine ⟨q1.1, q2, fun i hi => ?_⟩
      rcases Nat.lt_or_ge i k with h2 | h2
      · exact q3 i h2
      · obtain rfl : i = k := by omega
        exact q1.2
theorem start_down (g : List (List Nat)) (n : Nat) (hn : n ≤ 576) : Down g n (List.replicate n full) := by
  refine ⟨⟨by simp, fun s hs => ?_⟩, hn, fun i hi j hj => ?_⟩
  · rw [(List.mem_replicate.1 hs).2]; exact full_ok
  · have hO : Oks n (List.replicate n full) := ⟨by simp, fun s hs => by rw [(List.mem_replicate.1 hs).2]; exact full_ok⟩
    rw [show (List.replicate n full).getD i full = full by simp [List.getD_eq_getElem?_getD, hi]]
    rcases Nat.lt_or_ge j 576 with h | h
    · exact has_full h
    · rw [has_high (newAt_ok hO i) h] at hj; cases hj
/-- In the end nothing changes any more. -/
theorem Sweeps.fix {g S S' : List (List Nat)} (h : Sweeps g S S') : ∀ {n : Nat}, g.length = n → Down g n S → Down g n S' ∧ ∀ i, i < n → newAt g S' i = S'.getD i full := by
  induction h with
  | done h =>
    intro n hn hD
    have := sweepF_down hD (by omega) h
    obtain ⟨_, q2, q3⟩ := this.2.2.2 rfl
    rw [q2]
    exact ⟨hD, fun i hi => q3 i (by omega)⟩
  | more h _ ih =>
    intro n hn hD
    exact ih hn (sweepF_down hD (by omega) h).1
/-- The first place of a set, or -1. -/
def find (S : List (List Nat)) (s : List Nat) : Nat → Int
  | 0 => -1
  | f + 1 => if S.length < f + 1 then -1 else if S.getD (S.length - (f + 1)) full = s then ((S.length - (f + 1) : Nat) : Int) else find S s f
def indexOf (S : List (List Nat)) (s : List Nat) : Int := find S s S.length
def postOf (S : List (List Nat)) : List Int := (List.range S.length).map fun i => indexOf S (rem (S.getD i full) i)
end Go.Proofs.YtilikjfjbnabfaaGreatDoor.Fl

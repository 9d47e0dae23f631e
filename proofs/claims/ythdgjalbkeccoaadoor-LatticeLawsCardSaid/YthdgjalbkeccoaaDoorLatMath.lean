/- The mathematics of levels: of any list of numbers that is a lattice, what the joins, the meets, the bottom and the top are. No program is named here. -/
import Derived.Test.YthdgjalbkeccoaaDoorLatP
namespace Go.Proofs.YthdgjalbkeccoaaDoor.La

theorem find_spec (p : Nat → Bool) (up : List Nat) : (find p up = -1 ∧ ∀ i, i < up.length → p (up.getD i 0) = false) ∨ ∃ j, j < up.length ∧ find p up = (j : Int) ∧ p (up.getD j 0) = true := by
  have main : ∀ (l : List Nat) (k : Nat), (findFrom p l k = -1 ∧ ∀ i, i < l.length → p (l.getD i 0) = false) ∨ ∃ j, j < l.length ∧ findFrom p l k = ((k + j : Nat) : Int) ∧ p (l.getD j 0) = true := by
    intro l
    induction l with
    | nil => intro k; exact .inl ⟨rfl, fun i hi => by simp at hi⟩
    | cons x xs ih =>
      intro k
      cases hx : p x
      · rcases ih (k + 1) with ⟨h1, h2⟩ | ⟨j, h1, h2, h3⟩
        · refine .inl ⟨by simp [findFrom, hx, h1], fun i hi => ?_⟩
          cases i with
          | zero => simpa using hx
          | succ i => simpa using h2 i (by simpa using hi)
        · refine .inr ⟨j + 1, by simpa using h1, ?_, by simpa using h3⟩
          simp [findFrom, hx, h2]; omega
      · exact .inr ⟨0, by simp, by simp [findFrom, hx], by simpa using hx⟩
  rcases main up 0 with h | ⟨j, h1, h2, h3⟩
  · exact .inl h
  · exact .inr ⟨j, h1, by simpa [find] using h2, h3⟩

/-- An order, as its rows of bits. -/
structure Ord (up : List Nat) : Prop where
  small : up.length ≤ 8
  pos : 0 < up.length
  rows : ∀ a, a < up.length → ∀ d, (up.getD a 0).testBit d = true → d < up.length
  refl : ∀ a, a < up.length → low up a a = true
  anti : ∀ a b, a < up.length → b < up.length → low up a b = true → low up b a = true → a = b
  trans : ∀ a b c, a < up.length → b < up.length → c < up.length → low up a b = true → low up b c = true → low up a c = true

theorem Ord.inj {up : List Nat} (h : Ord up) {a b : Nat} (ha : a < up.length) (hb : b < up.length) (e : ∀ d, d < up.length → low up a d = low up b d) : a = b :=
  h.anti a b ha hb (by rw [e b hb]; exact h.refl b hb) (by rw [← e a ha]; exact h.refl a ha)

/-- 'j' is the join of two. -/
def IsJoin (up : List Nat) (a b j : Nat) : Prop := j < up.length ∧ ∀ d, d < up.length → low up j d = (low up a d && low up b d)
theorem IsJoin.eq {up : List Nat} (h : Ord up) {a b j k : Nat} (hj : IsJoin up a b j) (hk : IsJoin up a b k) : j = k :=
  h.inj hj.1 hk.1 fun d hd => (hj.2 d hd).trans (hk.2 d hd).symm

theorem and_of_join {up : List Nat} (h : Ord up) {a b j : Nat} (ha : a < up.length) (hj : IsJoin up a b j) : up.getD j 0 = (up.getD a 0 &&& up.getD b 0) := by
  apply Nat.eq_of_testBit_eq
  intro d
  rw [Nat.testBit_and]
  by_cases hd : d < up.length
  · exact hj.2 d hd
  · have h1 : (up.getD j 0).testBit d = false := by
      cases hq : (up.getD j 0).testBit d
      · rfl
      · exact absurd (h.rows j hj.1 d hq) hd
    have h2 : (up.getD a 0).testBit d = false := by
      cases hq : (up.getD a 0).testBit d
      · rfl
      · exact absurd (h.rows a ha d hq) hd
    rw [h1, h2]; rfl
theorem join_eq {up : List Nat} (h : Ord up) {a b j : Nat} (ha : a < up.length) (hj : IsJoin up a b j) : join up a b = (j : Int) := by
  unfold join
  rcases find_spec (fun x => x == (up.getD a 0 &&& up.getD b 0)) up with ⟨_, h2⟩ | ⟨k, h1, h2, h3⟩
  · have := h2 j hj.1
    rw [and_of_join h ha hj] at this
    simp at this
  · rw [h2]
    have h3' : up.getD k 0 = (up.getD a 0 &&& up.getD b 0) := by simpa using h3
    have : k = j := h.inj h1 hj.1 fun d _ => by unfold low; rw [h3', and_of_join h ha hj]
    rw [this]
theorem isJoin_of {up : List Nat} {a b : Nat} (h0 : 0 ≤ join up a b) : ∃ j : Nat, join up a b = (j : Int) ∧ IsJoin up a b j := by
  unfold join at h0 ⊢
  rcases find_spec (fun x => x == (up.getD a 0 &&& up.getD b 0)) up with ⟨h1, _⟩ | ⟨k, h1, h2, h3⟩
  · rw [h1] at h0; exact absurd h0 (by decide)
  · have h3' : up.getD k 0 = (up.getD a 0 &&& up.getD b 0) := by simpa using h3
    exact ⟨k, h2, h1, fun d _ => by unfold low; rw [h3', Nat.testBit_and]⟩

/-- A lattice: an order with a bottom and all joins. -/
structure Lattice (up : List Nat) : Prop extends Ord up where
  bot : ∃ z, z < up.length ∧ ∀ d, d < up.length → low up z d = true
  joins : ∀ a b, a < up.length → b < up.length → ∃ j, IsJoin up a b j

theorem ones_all : ∀ x : Fin 256, ∀ n : Fin 9, x.val < 2 ^ n.val → Lib.onesCount x.val = n.val → ∀ d : Fin 9, d.val < n.val → x.val.testBit d.val = true := by decide +kernel
theorem all_ones : ∀ n : Fin 9, Lib.onesCount (2 ^ n.val - 1) = n.val := by decide +kernel

theorem row_lt {up : List Nat} (h : Ord up) {a : Nat} (ha : a < up.length) : up.getD a 0 < 2 ^ up.length :=
  Nat.lt_pow_two_of_testBit _ fun i hi => by
    cases hq : (up.getD a 0).testBit i
    · rfl
    · exact absurd (h.rows a ha i hq) (by omega)
theorem ones_iff {up : List Nat} (h : Ord up) {a : Nat} (ha : a < up.length) : (Lib.onesCount (up.getD a 0) == up.length) = true ↔ ∀ d, d < up.length → low up a d = true := by
  have hl := row_lt h ha
  have h8 := h.small
  constructor
  · intro e d hd
    have hp : up.getD a 0 < 256 := Nat.lt_of_lt_of_le hl (Nat.pow_le_pow_right (by decide) h8 : _ ≤ 2 ^ 8)
    exact ones_all ⟨up.getD a 0, hp⟩ ⟨up.length, by omega⟩ hl (by simpa using e) ⟨d, by omega⟩ hd
  · intro e
    have e2 : up.getD a 0 = 2 ^ up.length - 1 := by
      apply Nat.eq_of_testBit_eq
      intro i
      rw [Nat.testBit_two_pow_sub_one]
      by_cases hi : i < up.length
      · rw [decide_eq_true hi]; exact e i hi
      · rw [decide_eq_false hi]
        cases hq : (up.getD a 0).testBit i
        · rfl
        · exact absurd (h.rows a ha i hq) hi
    rw [e2, all_ones ⟨up.length, by omega⟩]
    simp
theorem bottom_eq {up : List Nat} (h : Ord up) {z : Nat} (hz : z < up.length) (hb : ∀ d, d < up.length → low up z d = true) : bottom up = (z : Int) := by
  unfold bottom
  rcases find_spec (fun x => Lib.onesCount x == up.length) up with ⟨_, h2⟩ | ⟨k, h1, h2, h3⟩
  · have := h2 z hz
    rw [(ones_iff h hz).2 hb] at this
    cases this
  · rw [h2]
    have hk := (ones_iff h h1).1 h3
    rw [h.anti k z h1 hz (hk z hz) (hb k h1)]

/-! ### What 'valid' says -/
theorem and_not_zero {x y : Nat} (hy : y < 256) (h : y &&& (255 - x) = 0) (hx : x < 256) (d : Nat) (hd : y.testBit d = true) : x.testBit d = true := by
  have h1 := congrArg (fun n => Nat.testBit n d) h
  simp only [Nat.testBit_and, hd, Bool.true_and, Nat.zero_testBit] at h1
  have hd8 : d < 8 := by
    rcases Nat.lt_or_ge d 8 with h | h
    · exact h
    · rw [Nat.testBit_lt_two_pow (Nat.lt_of_lt_of_le hy (Nat.pow_le_pow_right (by decide) h : 2 ^ 8 ≤ _))] at hd
      cases hd
  have h2 : (255 - x) = 2 ^ 8 - (x + 1) := by omega
  rw [h2, Nat.testBit_two_pow_sub_succ (by omega), decide_eq_true hd8, Bool.true_and] at h1
  simpa using h1

theorem lattice_of_valid {up : List Nat} (h256 : ∀ x ∈ up, x < 256) (h : valid up = true) : Lattice up := by
  have hs := valid_spec h
  simp only [valid, Bool.and_eq_true, decide_eq_true_eq] at h
  obtain ⟨⟨⟨_, ho⟩, hb⟩, hj⟩ := h
  have hlt : ∀ a, up.getD a 0 < 256 := by
    intro a
    rcases Nat.lt_or_ge a up.length with ha | ha
    · rw [List.getD_eq_getElem?_getD, List.getElem?_eq_getElem ha]; exact h256 _ (List.getElem_mem ha)
    · rw [List.getD_eq_getElem?_getD, List.getElem?_eq_none ha]; decide
  have hrow : ∀ a, a < up.length → headOk up a = true ∧ ∀ b, b < up.length → rowOk up a b = true := by
    intro a ha
    have := of_all_range ho a ha
    rw [Bool.and_eq_true] at this
    exact ⟨this.1, fun b hb => of_all_range this.2 b hb⟩
  have O : Ord up := by
    refine ⟨hs.2, by omega, ?_, ?_, ?_, ?_⟩
    · intro a ha d hd
      have h1 := (hrow a ha).1
      rw [headOk, Bool.and_eq_true, beq_iff_eq] at h1
      have h2 : up.getD a 0 < 2 ^ up.length := (Nat.div_eq_zero_iff_lt (Nat.two_pow_pos _)).1 h1.1
      rcases Nat.lt_or_ge d up.length with hl | hl
      · exact hl
      · rw [Nat.testBit_lt_two_pow (Nat.lt_of_lt_of_le h2 (Nat.pow_le_pow_right (by decide) hl))] at hd
        cases hd
    · intro a ha
      have h1 := (hrow a ha).1
      rw [headOk, Bool.and_eq_true] at h1
      exact h1.2
    · intro a b ha hb hab hba
      have h1 := (hrow a ha).2 b hb
      rw [rowOk, hab, hba] at h1
      simpa using h1
    · intro a b c ha hb hc hab hbc
      have h1 := (hrow a ha).2 b hb
      rw [rowOk, hab] at h1
      by_cases e : a = b
      · subst e; exact hbc
      · have e2 : (a == b) = false := by simpa using e
        rw [e2] at h1
        simp only [Bool.false_or, Bool.not_true, Bool.and_eq_true, beq_iff_eq] at h1
        exact and_not_zero (hlt b) h1.2 (hlt a) c hbc
  refine { toOrd := O, bot := ?_, joins := ?_ }
  · unfold bottom at hb
    rcases find_spec (fun x => Lib.onesCount x == up.length) up with ⟨h1, _⟩ | ⟨k, h1, h2, h3⟩
    · rw [h1] at hb; exact absurd hb (by decide)
    · exact ⟨k, h1, (ones_iff O h1).1 h3⟩
  · intro a b ha hb'
    rcases Nat.lt_trichotomy a b with hab | hab | hab
    · have := of_all_range (of_all_range hj b hb') a hab
      obtain ⟨j, _, hj⟩ := isJoin_of (of_decide_eq_true this)
      exact ⟨j, hj.1, fun d hd => by rw [hj.2 d hd, Bool.and_comm]⟩
    · subst hab
      exact ⟨a, ha, fun d _ => by rw [Bool.and_self]⟩
    · have := of_all_range (of_all_range hj a ha) b hab
      obtain ⟨j, _, hj⟩ := isJoin_of (of_decide_eq_true this)
      exact ⟨j, hj⟩

/-! ### Upside down -/
theorem low_flipRow (up : List Nat) (a : Nat) : ∀ m d, (flipRow up a m).testBit d = (decide (d < m) && low up d a)
  | 0, d => by simp [flipRow]
  | m + 1, d => by
    have ih := low_flipRow up a m d
    rw [flipRow]
    by_cases hd : d = m
    · subst hd
      have hz : (flipRow up a d).testBit d = false := Nat.testBit_lt_two_pow (flipRow_lt up a d)
      cases hq : low up d a
      · rw [if_neg (by simp), hz]; simp
      · rw [if_pos rfl, Nat.testBit_or, hz, Nat.testBit_two_pow_self]; simp
    · have h1 : decide (d < m + 1) = decide (d < m) := by
        rw [decide_eq_decide]; omega
      rw [h1, ← ih]
      split
      · rw [Nat.testBit_or, Nat.testBit_two_pow_of_ne (Ne.symm hd), Bool.or_false]
      · rfl
theorem flip_getD (up : List Nat) (a : Nat) (ha : a < up.length) : (flip up).getD a 0 = flipRow up a up.length := by
  simp [flip, List.getD_eq_getElem?_getD, ha]
theorem low_flip {up : List Nat} {a d : Nat} (ha : a < up.length) (hd : d < up.length) : low (flip up) a d = low up d a := by
  rw [low, flip_getD up a ha, low_flipRow, decide_eq_true hd, Bool.true_and]
theorem ord_flip {up : List Nat} (h : Ord up) : Ord (flip up) := by
  have e := flip_length up
  refine ⟨by rw [e]; exact h.small, by rw [e]; exact h.pos, ?_, ?_, ?_, ?_⟩
  · intro a ha d hd
    rw [e] at ha ⊢
    rw [flip_getD up a ha, low_flipRow, Bool.and_eq_true] at hd
    exact of_decide_eq_true hd.1
  · intro a ha
    rw [e] at ha
    rw [low_flip ha ha]; exact h.refl a ha
  · intro a b ha hb
    rw [e] at ha hb
    rw [low_flip ha hb, low_flip hb ha]
    exact fun h1 h2 => h.anti a b ha hb h2 h1
  · intro a b c ha hb hc
    rw [e] at ha hb hc
    rw [low_flip ha hb, low_flip hb hc, low_flip ha hc]
    exact fun h1 h2 => h.trans c b a hc hb ha h2 h1

theorem join_le {up : List Nat} {a b j d : Nat} (hj : IsJoin up a b j) (hd : d < up.length) (h1 : low up a d = true) (h2 : low up b d = true) : low up j d = true := by
  rw [hj.2 d hd, h1, h2]; rfl
theorem le_join {up : List Nat} (h : Ord up) {a b j : Nat} (hj : IsJoin up a b j) : low up a j = true ∧ low up b j = true := by
  have := hj.2 j hj.1
  rw [h.refl j hj.1] at this
  simpa using this.symm

/-- The greatest of all that have some property that joins keep. -/
theorem greatest {up : List Nat} (h : Lattice up) (p : Nat → Prop) (hb : ∀ z, z < up.length → (∀ d, d < up.length → low up z d = true) → p z)
    (hp : ∀ a b j, a < up.length → b < up.length → p a → p b → IsJoin up a b j → p j) (dec : ∀ k, p k ∨ ¬ p k) :
    ∀ k, k ≤ up.length → ∃ m, m < up.length ∧ p m ∧ ∀ d, d < k → p d → low up d m = true := by
  intro k
  induction k with
  | zero =>
    intro _
    obtain ⟨z, hz, hbz⟩ := h.bot
    exact ⟨z, hz, hb z hz hbz, fun d hd => by omega⟩
  | succ k ih =>
    intro hk
    obtain ⟨m, hm, hpm, hall⟩ := ih (by omega)
    rcases dec k with hpk | hpk
    · obtain ⟨j, hj⟩ := h.joins m k hm (by omega)
      have hle := le_join h.toOrd hj
      refine ⟨j, hj.1, hp m k j hm (by omega) hpm hpk hj, fun d hd hpd => ?_⟩
      by_cases e : d = k
      · subst e; exact hle.2
      · exact h.trans d m j (by omega) hm hj.1 (hall d (by omega) hpd) hle.1
    · refine ⟨m, hm, hpm, fun d hd hpd => ?_⟩
      by_cases e : d = k
      · subst e; exact absurd hpd hpk
      · exact hall d (by omega) hpd

theorem meets {up : List Nat} (h : Lattice up) (a b : Nat) (ha : a < up.length) (hb : b < up.length) : ∃ m, IsJoin (flip up) a b m := by
  obtain ⟨m, hm, ⟨h1, h2⟩, hall⟩ := greatest h (fun d => low up d a = true ∧ low up d b = true) (fun z hz hbz => ⟨hbz a ha, hbz b hb⟩)
    (fun x y j hx hy h1 h2 hj => ⟨join_le hj ha h1.1 h2.1, join_le hj hb h1.2 h2.2⟩) (fun k => Decidable.em _) up.length (Nat.le_refl _)
  refine ⟨m, by rw [flip_length]; exact hm, fun d hd => ?_⟩
  rw [flip_length] at hd
  rw [low_flip hm hd, low_flip ha hd, low_flip hb hd, Bool.eq_iff_iff, Bool.and_eq_true]
  exact ⟨fun hdm => ⟨h.trans d m a hd hm ha hdm h1, h.trans d m b hd hm hb hdm h2⟩, fun hh => hall d hd hh⟩
theorem top_is {up : List Nat} (h : Lattice up) : ∃ t, t < up.length ∧ ∀ d, d < up.length → low up d t = true := by
  obtain ⟨m, hm, _, hall⟩ := greatest h (fun _ => True) (fun _ _ _ => trivial) (fun _ _ _ _ _ _ _ _ => trivial) (fun _ => .inl trivial) up.length (Nat.le_refl _)
  exact ⟨m, hm, fun d hd => hall d hd trivial⟩
end Go.Proofs.YthdgjalbkeccoaaDoor.La

/- The reference's levels, as plain functions, and that they say what the program's say. No program is named here. -/
import Derived.Test.YtidnaednldcdfaaGreatDoorALat
namespace Go.Proofs.YtidnaednldcdfaaGreatDoor.La
def rleq (up : List Nat) (a b : Int) : Bool := isLevel up a && isLevel up b && low up a.toNat b.toNat
def rbound (up : List Nat) (dn : Bool) (c a b : Int) : Bool := if dn then rleq up c a && rleq up c b else rleq up a c && rleq up b c
def rkeep (up : List Nat) (dn : Bool) (a b : Int) (c d : Nat) : Bool := !(rbound up dn (d : Int) a b && (dn && !rleq up (d : Int) (c : Int) || !dn && !rleq up (c : Int) (d : Int)))
def rone (up : List Nat) (dn : Bool) (a b : Int) (c : Nat) : Bool := rbound up dn (c : Int) a b && (List.range up.length).all (rkeep up dn a b c)
def rjoin (up : List Nat) (dn : Bool) (a b : Int) : Int := match (List.range up.length).find? (rone up dn a b) with
  | some c => (c : Int)
  | none => -1
def rhigh (up : List Nat) (a : Nat) : Bool := (List.range 8).all fun b => decide (b < up.length) || !low up a b
def rtr (up : List Nat) (a b : Nat) : Bool := (List.range up.length).all fun c => !(rleq up (a : Int) (b : Int) && rleq up (b : Int) (c : Int) && !rleq up (a : Int) (c : Int))
def ranti (up : List Nat) (a b : Nat) : Bool := !(a != b && rleq up (a : Int) (b : Int) && rleq up (b : Int) (a : Int))
def rrow (up : List Nat) (a : Nat) : Bool := rhigh up a && (rleq up (a : Int) (a : Int) && (List.range up.length).all fun b => ranti up a b && rtr up a b)
def rtwo (up : List Nat) (a b : Nat) : Bool := decide (0 ≤ rjoin up false (a : Int) (b : Int)) && decide (0 ≤ rjoin up true (a : Int) (b : Int))
def rjs (up : List Nat) (a : Nat) : Bool := (List.range up.length).all (rtwo up a)
def rmay (up : List Nat) : Bool := decide (1 ≤ up.length) && (decide (up.length ≤ 8) && ((List.range up.length).all (rrow up) && (List.range up.length).all (rjs up)))
theorem rjoin_at {up : List Nat} {dn : Bool} {a b : Int} {c : Nat} (hc : c < up.length) (h : rone up dn a b c = true) (hj : ∀ j, j < c → rone up dn a b j = false) : rjoin up dn a b = (c : Int) := by
  have e : (List.range up.length).find? (rone up dn a b) = some c := List.find?_range_eq_some.2 ⟨h, List.mem_range.2 hc, fun j h1 => by rw [hj j h1]; rfl⟩
  unfold rjoin
  rw [e]
theorem rjoin_no {up : List Nat} {dn : Bool} {a b : Int} (hj : ∀ j, j < up.length → rone up dn a b j = false) : rjoin up dn a b = -1 := by
  have e : (List.range up.length).find? (rone up dn a b) = none := List.find?_range_eq_none.2 fun j h1 => by rw [hj j h1]; rfl
  unfold rjoin
  rw [e]
theorem rjoin_spec (up : List Nat) (dn : Bool) (a b : Int) : (rjoin up dn a b = -1 ∧ ∀ j, j < up.length → rone up dn a b j = false) ∨ ∃ c : Nat, c < up.length ∧ rjoin up dn a b = (c : Int) ∧ rone up dn a b c = true := by
  unfold rjoin
  cases e : (List.range up.length).find? (rone up dn a b) with
  | none => exact .inl ⟨rfl, fun j hj => by simpa using List.find?_range_eq_none.1 e j hj⟩
  | some c =>
    have h := List.find?_range_eq_some.1 e
    exact .inr ⟨c, List.mem_range.1 h.2.1, rfl, h.1⟩
theorem rleq_nat {up : List Nat} {a b : Nat} (ha : a < up.length) (hb : b < up.length) : rleq up (a : Int) (b : Int) = low up a b := by
  simp [rleq, isLevel, ha, hb]
theorem leq_rleq {up : List Nat} (hv : valid up = true) (a b : Int) : leq up a b = rleq up a b := by simp [leq, can, rleq, hv]
theorem rleq_levels {up : List Nat} {a b : Int} (h : rleq up a b = true) : 0 ≤ a ∧ a < up.length ∧ 0 ≤ b ∧ b < up.length := by
  simp only [rleq, isLevel, Bool.and_eq_true, decide_eq_true_eq] at h
  omega
/-- What the least of all at or above two is. -/
theorem rone_up {up : List Nat} {a b c : Nat} (ha : a < up.length) (hb : b < up.length) (hc : c < up.length) : rone up false (a : Int) (b : Int) c = true ↔ (low up a c = true ∧ low up b c = true) ∧ ∀ d, d < up.length → low up a d = true → low up b d = true → low up c d = true := by
  simp only [rone, rkeep, rbound, Bool.and_eq_true, List.all_eq_true, List.mem_range, Bool.false_and, Bool.not_false, Bool.true_and, Bool.false_or, if_false, Bool.false_eq_true, Bool.not_eq_eq_eq_not]
  rw [rleq_nat ha hc, rleq_nat hb hc]
  refine and_congr_right fun _ => forall_congr' fun d => ?_
  constructor
  · intro h hd h1 h2
    have := h hd
    rw [rleq_nat ha hd, rleq_nat hb hd, rleq_nat hc hd, h1, h2] at this
    simpa using this
  · intro h hd
    rw [rleq_nat ha hd, rleq_nat hb hd, rleq_nat hc hd]
    have := h hd
    cases h1 : low up a d
    · rfl
    cases h2 : low up b d
    · rfl
    rw [this h1 h2]; rfl
theorem rone_dn {up : List Nat} {a b c : Nat} (ha : a < up.length) (hb : b < up.length) (hc : c < up.length) : rone up true (a : Int) (b : Int) c = true ↔ (low up c a = true ∧ low up c b = true) ∧ ∀ d, d < up.length → low up d a = true → low up d b = true → low up d c = true := by
  simp only [rone, rkeep, rbound, Bool.and_eq_true, List.all_eq_true, List.mem_range, Bool.not_true, Bool.false_and, Bool.true_and, Bool.or_false, if_true, Bool.not_eq_eq_eq_not]
  rw [rleq_nat hc ha, rleq_nat hc hb]
  refine and_congr_right fun _ => forall_congr' fun d => ?_
  constructor
  · intro h hd h1 h2
    have := h hd
    rw [rleq_nat hd ha, rleq_nat hd hb, rleq_nat hd hc, h1, h2] at this
    simpa using this
  · intro h hd
    rw [rleq_nat hd ha, rleq_nat hd hb, rleq_nat hd hc]
    have := h hd
    cases h1 : low up d a
    · rfl
    cases h2 : low up d b
    · rfl
    rw [this h1 h2]; rfl
theorem isJoin_iff {up : List Nat} (h : Ord up) {a b c : Nat} (ha : a < up.length) (hb : b < up.length) (hc : c < up.length) : rone up false (a : Int) (b : Int) c = true ↔ IsJoin up a b c := by
  rw [rone_up ha hb hc]
  constructor
  · rintro ⟨⟨h1, h2⟩, h3⟩
    refine ⟨hc, fun d hd => ?_⟩
    rw [Bool.eq_iff_iff, Bool.and_eq_true]
    exact ⟨fun h4 => ⟨h.trans a c d ha hc hd h1 h4, h.trans b c d hb hc hd h2 h4⟩, fun h4 => h3 d hd h4.1 h4.2⟩
  · intro hj
    exact ⟨le_join h hj, fun d hd h1 h2 => join_le hj hd h1 h2⟩
theorem bit_255 : ∀ x : Fin 256, ∀ d : Fin 8, (255 - x.val).testBit d.val = !x.val.testBit d.val := by decide +kernel
theorem and_zero_of {x y : Nat} (hy : y < 256) (hx : x < 256) (h : ∀ d, y.testBit d = true → x.testBit d = true) : y &&& (255 - x) = 0 := by
  apply Nat.eq_of_testBit_eq
  intro d
  rw [Nat.testBit_and, Nat.zero_testBit]
  rcases Nat.lt_or_ge d 8 with hd | hd
  · have := bit_255 ⟨x, hx⟩ ⟨d, hd⟩
    simp only at this
    rw [this]
    cases e : y.testBit d
    · rfl
    · rw [h d e]; rfl
  · rw [Nat.testBit_lt_two_pow (Nat.lt_of_lt_of_le hy (by calc 256 = 2 ^ 8 := rfl
        _ ≤ 2 ^ d := Nat.pow_le_pow_right (by decide) hd))]
    rfl
theorem getD_lt {up : List Nat} (h256 : ∀ x ∈ up, x < 256) (a : Nat) : up.getD a 0 < 256 := by
  rcases Nat.lt_or_ge a up.length with ha | ha
  · rw [List.getD_eq_getElem?_getD, List.getElem?_eq_getElem ha]; exact h256 _ (List.getElem_mem ha)
  · rw [List.getD_eq_getElem?_getD, List.getElem?_eq_none ha]; decide
theorem valid_of_lattice {up : List Nat} (h256 : ∀ x ∈ up, x < 256) (h : Lattice up) : valid up = true := by
  have O := h.toOrd
  simp only [valid, Bool.and_eq_true, decide_eq_true_eq]
  refine ⟨⟨⟨⟨O.pos, O.small⟩, isOrder_yes fun a ha => ⟨?_, fun b hb => ?_⟩⟩, ?_⟩, hasJoins_yes fun a ha b hb => ?_⟩
  · rw [headOk, Bool.and_eq_true, beq_iff_eq]
    exact ⟨(Nat.div_eq_zero_iff_lt (Nat.two_pow_pos _)).2 (row_lt O ha), O.refl a ha⟩
  · rw [rowOk]
    by_cases e : a = b
    · simp [e]
    · cases h1 : low up a b
      · simp
      · have h2 : low up b a = false := by
          cases h3 : low up b a
          · rfl
          · exact absurd (O.anti a b ha hb h1 h3) e
        have h4 := and_zero_of (getD_lt h256 b) (getD_lt h256 a) fun d hd => O.trans a b d ha hb (O.rows b hb d hd) h1 hd
        rw [h2, h4]
        simp
  · obtain ⟨z, hz, hb⟩ := h.bot
    rw [bottom_eq O hz hb]; omega
  · obtain ⟨j, hj⟩ := h.joins a b ha (by omega)
    rw [join_eq O ha hj]; omega
theorem rmay_lattice {up : List Nat} (h : Lattice up) : rmay up = true := by
  have O := h.toOrd
  have hp := O.pos
  have hs := O.small
  simp only [rmay, Bool.and_eq_true, decide_eq_true_eq]
  refine ⟨hp, hs, all_range fun a ha => ?_, all_range fun a ha => all_range fun b hb => ?_⟩
  · simp only [rrow, Bool.and_eq_true]
    refine ⟨all_range fun b _ => ?_, by rw [rleq_nat ha ha]; exact O.refl a ha, all_range fun b hb => ?_⟩
    · cases h1 : low up a b
      · simp
      · have := O.rows a ha b h1
        simp [this]
    · rw [Bool.and_eq_true]
      refine ⟨?_, all_range fun c hc => ?_⟩
      · rw [ranti, rleq_nat ha hb, rleq_nat hb ha]
        by_cases e : a = b
        · simp [e]
        · cases h1 : low up a b
          · simp
          · cases h3 : low up b a
            · simp
            · exact absurd (O.anti a b ha hb h1 h3) e
      · rw [rleq_nat ha hb, rleq_nat hb hc, rleq_nat ha hc]
        cases h1 : low up a b
        · rfl
        cases h2 : low up b c
        · rfl
        rw [O.trans a b c ha hb hc h1 h2]; rfl
  · rw [rtwo, Bool.and_eq_true, decide_eq_true_eq, decide_eq_true_eq]
    constructor
    · rcases rjoin_spec up false (a : Int) (b : Int) with ⟨_, h2⟩ | ⟨c, _, h2, _⟩
      · obtain ⟨j, hj⟩ := h.joins a b ha hb
        have := h2 j hj.1
        rw [(isJoin_iff O ha hb hj.1).2 hj] at this
        cases this
      · rw [h2]; omega
    · rcases rjoin_spec up true (a : Int) (b : Int) with ⟨_, h2⟩ | ⟨c, _, h2, _⟩
      · obtain ⟨m, hm, ⟨h3, h4⟩, hall⟩ := greatest h (fun d => low up d a = true ∧ low up d b = true) (fun z hz hbz => ⟨hbz a ha, hbz b hb⟩)
          (fun x y j hx hy h1 h2 hj => ⟨join_le hj ha h1.1 h2.1, join_le hj hb h1.2 h2.2⟩) (fun k => Decidable.em _) up.length (Nat.le_refl _)
        have := h2 m hm
        rw [(rone_dn ha hb hm).2 ⟨⟨h3, h4⟩, fun d hd h5 h6 => hall d hd ⟨h5, h6⟩⟩] at this
        cases this
      · rw [h2]; omega
theorem lattice_rmay {up : List Nat} (h256 : ∀ x ∈ up, x < 256) (h : rmay up = true) : Lattice up := by
  simp only [rmay, Bool.and_eq_true, decide_eq_true_eq] at h
  obtain ⟨hp, hs, h1, h2⟩ := h
  have hrow : ∀ a, a < up.length → rhigh up a = true ∧ rleq up (a : Int) (a : Int) = true ∧ ∀ b, b < up.length → ranti up a b = true ∧ rtr up a b = true := by
    intro a ha
    have := of_all_range h1 a ha
    simp only [rrow, Bool.and_eq_true] at this
    exact ⟨this.1, this.2.1, fun b hb => by have := of_all_range this.2.2 b hb; rwa [Bool.and_eq_true] at this⟩
  have O : Ord up := by
    refine ⟨hs, hp, fun a ha d hd => ?_, fun a ha => ?_, fun a b ha hb hab hba => ?_, fun a b c ha hb hc hab hbc => ?_⟩
    · have h8 : d < 8 := by
        rcases Nat.lt_or_ge d 8 with h8 | h8
        · exact h8
        · rw [Nat.testBit_lt_two_pow (Nat.lt_of_lt_of_le (getD_lt h256 a) (by calc 256 = 2 ^ 8 := rfl
            _ ≤ 2 ^ d := Nat.pow_le_pow_right (by decide) h8))] at hd
          cases hd
      have := of_all_range (hrow a ha).1 d h8
      have e : low up a d = true := hd
      rw [e] at this
      simpa using this
    · rw [← rleq_nat ha ha]; exact (hrow a ha).2.1
    · have := ((hrow a ha).2.2 b hb).1
      rw [ranti, rleq_nat ha hb, rleq_nat hb ha, hab, hba] at this
      simpa using this
    · have := of_all_range ((hrow a ha).2.2 b hb).2 c hc
      rw [rleq_nat ha hb, rleq_nat hb hc, rleq_nat ha hc, hab, hbc] at this
      simpa using this
  have hj : ∀ a b, a < up.length → b < up.length → (∃ j, IsJoin up a b j) ∧ ∃ m, m < up.length ∧ low up m a = true ∧ low up m b = true := by
    intro a b ha hb
    have := of_all_range (of_all_range h2 a ha) b hb
    rw [rtwo, Bool.and_eq_true, decide_eq_true_eq, decide_eq_true_eq] at this
    constructor
    · rcases rjoin_spec up false (a : Int) (b : Int) with ⟨h3, _⟩ | ⟨c, hc, _, h4⟩
      · rw [h3] at this; omega
      · exact ⟨c, (isJoin_iff O ha hb hc).1 h4⟩
    · rcases rjoin_spec up true (a : Int) (b : Int) with ⟨h3, _⟩ | ⟨c, hc, _, h4⟩
      · rw [h3] at this; omega
      · exact ⟨c, hc, ((rone_dn ha hb hc).1 h4).1⟩
  have hbot : ∀ k, k ≤ up.length → ∃ z, z < up.length ∧ ∀ d, d < k → low up z d = true := by
    intro k
    induction k with
    | zero => exact fun _ => ⟨0, hp, fun d hd => by omega⟩
    | succ k ih =>
      intro hk
      obtain ⟨z, hz, hall⟩ := ih (by omega)
      obtain ⟨m, hm, h3, h4⟩ := (hj z k hz (by omega)).2
      refine ⟨m, hm, fun d hd => ?_⟩
      rcases Nat.lt_or_ge d k with e | e
      · exact O.trans m z d hm hz (by omega) h3 (hall d e)
      · obtain rfl : d = k := by omega
        exact h4
  exact { toOrd := O, bot := hbot up.length (Nat.le_refl _), joins := fun a b ha hb => (hj a b ha hb).1 }
theorem rmay_valid {up : List Nat} (h256 : ∀ x ∈ up, x < 256) : rmay up = valid up := by
  rw [Bool.eq_iff_iff]
  exact ⟨fun h => valid_of_lattice h256 (lattice_rmay h256 h), fun h => rmay_lattice (lattice_of_valid h256 h)⟩
theorem rjoin_join {up : List Nat} (h256 : ∀ x ∈ up, x < 256) (hv : valid up = true) {a b : Nat} (ha : a < up.length) (hb : b < up.length) : rjoin up false (a : Int) (b : Int) = join up a b := by
  have L := lattice_of_valid h256 hv
  obtain ⟨j, hj⟩ := L.joins a b ha hb
  rw [join_eq L.toOrd ha hj]
  rcases rjoin_spec up false (a : Int) (b : Int) with ⟨_, h2⟩ | ⟨c, hc, h2, h3⟩
  · have := h2 j hj.1
    rw [(isJoin_iff L.toOrd ha hb hj.1).2 hj] at this
    cases this
  · rw [h2, IsJoin.eq L.toOrd ((isJoin_iff L.toOrd ha hb hc).1 h3) hj]
/-- The reference's join of two levels is the program's. -/
theorem rjoinOf {up : List Nat} (h256 : ∀ x ∈ up, x < 256) (a b : Int) : (if !rmay up || !rleq up a a || !rleq up b b then 0 else rjoin up false a b) = joinOf up a b := by
  rw [rmay_valid h256, joinOf, can]
  cases hv : valid up
  · simp
  · have L := lattice_of_valid h256 hv
    have hr : ∀ x : Int, rleq up x x = isLevel up x := fun x => by
      cases hx : isLevel up x
      · simp [rleq, hx]
      · obtain ⟨k, rfl⟩ : ∃ k : Nat, x = k := ⟨x.toNat, by simp [isLevel] at hx; omega⟩
        have hk : k < up.length := by simp [isLevel] at hx; omega
        rw [rleq_nat hk hk]; exact L.toOrd.refl k hk
    rw [hr, hr]
    cases ha : isLevel up a
    · simp
    cases hb : isLevel up b
    · simp
    obtain ⟨i, rfl⟩ : ∃ k : Nat, a = k := ⟨a.toNat, by simp [isLevel] at ha; omega⟩
    obtain ⟨k, rfl⟩ : ∃ k : Nat, b = k := ⟨b.toNat, by simp [isLevel] at hb; omega⟩
    have hi : i < up.length := by simp [isLevel] at ha; omega
    have hk : k < up.length := by simp [isLevel] at hb; omega
    simpa using rjoin_join h256 hv hi hk
theorem isLevel_spec {up : List Nat} {a : Int} : isLevel up a = true ↔ 0 ≤ a ∧ a < up.length := by simp [isLevel]
/-- A join of two levels is one. -/
theorem joinOf_level {up : List Nat} (h256 : ∀ x ∈ up, x < 256) (hv : valid up = true) {a b : Int} (ha : isLevel up a = true) (hb : isLevel up b = true) : isLevel up (joinOf up a b) = true ∧ leq up a (joinOf up a b) = true ∧ leq up b (joinOf up a b) = true := by
  have L := lattice_of_valid h256 hv
  obtain ⟨i, rfl⟩ : ∃ k : Nat, a = k := ⟨a.toNat, by simp [isLevel] at ha; omega⟩
  obtain ⟨k, rfl⟩ : ∃ k : Nat, b = k := ⟨b.toNat, by simp [isLevel] at hb; omega⟩
  have hi : i < up.length := by simp [isLevel] at ha; omega
  have hk : k < up.length := by simp [isLevel] at hb; omega
  obtain ⟨j, hj⟩ := L.joins i k hi hk
  have e : joinOf up (i : Int) (k : Int) = (j : Int) := by rw [joinOf_nat hv hi hk]; exact join_eq L.toOrd hi hj
  have hj' := hj.1
  rw [e, leq_nat hv hi hj', leq_nat hv hk hj']
  exact ⟨level_nat hj', le_join L.toOrd hj⟩
end Go.Proofs.YtidnaednldcdfaaGreatDoor.La

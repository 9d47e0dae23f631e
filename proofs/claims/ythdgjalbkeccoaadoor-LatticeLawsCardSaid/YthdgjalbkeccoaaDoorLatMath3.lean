/- The laws of a lattice, of joins and meets as plain facts. No program is named here. -/
import Derived.Test.YthdgjalbkeccoaaDoorLatMath2
namespace Go.Proofs.YthdgjalbkeccoaaDoor.La

theorem IsJoin.comm {up : List Nat} {a b j : Nat} (h : IsJoin up a b j) : IsJoin up b a j := ⟨h.1, fun d hd => by rw [h.2 d hd, Bool.and_comm]⟩
theorem IsJoin.idem {up : List Nat} {a : Nat} (ha : a < up.length) : IsJoin up a a a := ⟨ha, fun d _ => by rw [Bool.and_self]⟩
theorem IsJoin.assoc {up : List Nat} {a b c j e t : Nat} (h1 : IsJoin up a b j) (h2 : IsJoin up b c e) (h3 : IsJoin up j c t) : IsJoin up a e t :=
  ⟨h3.1, fun d hd => by rw [h3.2 d hd, h1.2 d hd, h2.2 d hd, Bool.and_assoc]⟩
theorem absorb_meet {up : List Nat} (h : Ord up) {a b j : Nat} (ha : a < up.length) (hj : IsJoin up a b j) : IsJoin (flip up) a j a := by
  refine ⟨by rw [flip_length]; exact ha, fun d hd => ?_⟩
  rw [flip_length] at hd
  rw [low_flip ha hd, low_flip hj.1 hd]
  cases hq : low up d a
  · rfl
  · rw [h.trans d a j hd ha hj.1 hq (le_join h hj).1]; rfl
theorem meet_le {up : List Nat} (h : Ord up) {a b m : Nat} (ha : a < up.length) (hb : b < up.length) (hm : IsJoin (flip up) a b m) : m < up.length ∧ low up m a = true ∧ low up m b = true := by
  have hml : m < up.length := by have := hm.1; rwa [flip_length] at this
  have := hm.2 m hm.1
  rw [low_flip hml hml, low_flip ha hml, low_flip hb hml, h.refl m hml] at this
  exact ⟨hml, by simpa using this.symm⟩
theorem absorb_join {up : List Nat} (h : Ord up) {a b m : Nat} (ha : a < up.length) (hb : b < up.length) (hm : IsJoin (flip up) a b m) : IsJoin up a m a := by
  obtain ⟨hml, h1, _⟩ := meet_le h ha hb hm
  refine ⟨ha, fun d hd => ?_⟩
  cases hq : low up a d
  · rfl
  · rw [h.trans m a d hml ha hd h1 hq]; rfl
theorem join_of_le {up : List Nat} (h : Ord up) {a b : Nat} (ha : a < up.length) (hb : b < up.length) (hab : low up a b = true) : IsJoin up a b b := by
  refine ⟨hb, fun d hd => ?_⟩
  cases hq : low up b d
  · rw [Bool.and_false]
  · rw [h.trans a b d ha hb hd hab hq]; rfl
theorem meet_of_le {up : List Nat} (h : Ord up) {a b : Nat} (ha : a < up.length) (hb : b < up.length) (hab : low up a b = true) : IsJoin (flip up) a b a := by
  refine ⟨by rw [flip_length]; exact ha, fun d hd => ?_⟩
  rw [flip_length] at hd
  rw [low_flip ha hd, low_flip hb hd]
  cases hq : low up d a
  · rfl
  · rw [h.trans d a b hd ha hb hq hab]; rfl
theorem leq_join {up : List Nat} (h : Ord up) {a b j : Nat} (ha : a < up.length) (hb : b < up.length) (hj : IsJoin up a b j) : low up a b = decide (j = b) := by
  cases hq : low up a b
  · refine (decide_eq_false fun e => ?_).symm
    subst e
    rw [(le_join h hj).1] at hq
    cases hq
  · exact (decide_eq_true (hj.eq h (join_of_le h ha hb hq))).symm
theorem leq_meet {up : List Nat} (h : Ord up) {a b m : Nat} (ha : a < up.length) (hb : b < up.length) (hm : IsJoin (flip up) a b m) : low up a b = decide (m = a) := by
  cases hq : low up a b
  · refine (decide_eq_false fun e => ?_).symm
    subst e
    rw [(meet_le h ha hb hm).2.2] at hq
    cases hq
  · exact (decide_eq_true (hm.eq (ord_flip h) (meet_of_le h ha hb hq))).symm
theorem bottom_val {up : List Nat} (L : Lattice up) (hv : valid up = true) : ∃ z, z < up.length ∧ (if valid up then bottom up else 0) = (z : Int) ∧ ∀ d, d < up.length → low up z d = true := by
  obtain ⟨z, hz, hb⟩ := L.bot
  exact ⟨z, hz, by rw [if_pos hv, bottom_eq L.toOrd hz hb], hb⟩
theorem top_val {up : List Nat} (L : Lattice up) (hv : valid up = true) : ∃ t, t < up.length ∧ (if valid up then bottom (flip up) else 0) = (t : Int) ∧ ∀ d, d < up.length → low up d t = true := by
  obtain ⟨t, ht, hb⟩ := top_is L
  refine ⟨t, ht, ?_, hb⟩
  rw [if_pos hv, bottom_eq (ord_flip L.toOrd) (by rw [flip_length]; exact ht) (fun d hd => by rw [flip_length] at hd; rw [low_flip ht hd]; exact hb d hd)]
theorem meetOf_is {up : List Nat} (L : Lattice up) (hv : valid up = true) {a b m : Nat} (ha : a < up.length) (hb : b < up.length) (hm : IsJoin (flip up) a b m) : meetOf up (a : Int) (b : Int) = (m : Int) :=
  (meetOf_nat hv ha hb).trans (join_eq (ord_flip L.toOrd) (by rw [flip_length]; exact ha) hm)
theorem joinOf_is {up : List Nat} (L : Lattice up) (hv : valid up = true) {a b j : Nat} (ha : a < up.length) (hb : b < up.length) (hj : IsJoin up a b j) : joinOf up (a : Int) (b : Int) = (j : Int) :=
  (joinOf_nat hv ha hb).trans (join_eq L.toOrd ha hj)
end Go.Proofs.YthdgjalbkeccoaaDoor.La

/- Stage 12: a heap's objects, as plain data. No program is named here. -/
import Derived.Test.YtidnaednldcdfaaGreatDoorObP
namespace Go.Proofs.YtidnaednldcdfaaGreatDoor.Hp
open La Ob

/-- An object, its number, and how many of its level were before it. -/
structure It where
  i : Int
  h : Int
  o : Ob.Obj
def words (o : Ob.Obj) : Nat := 2 + 2 * o.f.length + (o.b.size + 7) / 8
/-- The words of those that a test holds of. -/
def sumIf (p : It → Bool) : List It → Nat
  | [] => 0
  | x :: r => (if p x then words x.o else 0) + sumIf p r
def lvl (v : Int) (x : It) : Bool := decide (x.o.lev = v)
def all (L : List It) : Nat := sumIf (fun _ => true) L
def used (L : List It) (v : Int) : Nat := sumIf (lvl v) L
theorem sumIf_app (p : It → Bool) (a b : List It) : sumIf p (a ++ b) = sumIf p a + sumIf p b := by
  induction a with
  | nil => simp [sumIf]
  | cons x r ih => simp only [List.cons_append, sumIf, ih]; omega
theorem used_le (L : List It) (v : Int) : used L v ≤ all L := by
  unfold used all
  induction L with
  | nil => simp [sumIf]
  | cons x r ih => simp only [sumIf]; split <;> simp <;> omega
def Sorted (L : List It) : Prop := L.Pairwise (fun a b => a.i < b.i)
/-- One more, among those that are there. -/
def ins (L : List It) (x : It) : List It := L.filter (fun y => decide (y.i < x.i)) ++ x :: L.filter (fun y => decide (x.i < y.i))
def del (L : List It) (i : Int) : List It := L.filter (fun y => !decide (y.i = i))
theorem sum_split (p : It → Bool) (L : List It) (i : Int) (h : ∀ y ∈ L, y.i ≠ i) : sumIf p (L.filter (fun y => decide (y.i < i))) + sumIf p (L.filter (fun y => decide (i < y.i))) = sumIf p L := by
  induction L with
  | nil => rfl
  | cons x r ih =>
    have h1 := ih (fun y hy => h y (List.mem_cons_of_mem _ hy))
    have h2 := h x (List.mem_cons_self ..)
    by_cases h3 : x.i < i
    · have h4 : ¬ i < x.i := by omega
      simp only [List.filter_cons, h3, h4, decide_true, decide_false, if_true, sumIf]
      simp
      omega
    · have h4 : i < x.i := by omega
      simp only [List.filter_cons, h3, h4, decide_true, decide_false, if_true, sumIf]
      simp
      omega
theorem sum_ins (p : It → Bool) (L : List It) (x : It) (h : ∀ y ∈ L, y.i ≠ x.i) : sumIf p (ins L x) = sumIf p L + if p x then words x.o else 0 := by
  unfold ins
  rw [sumIf_app, sumIf]
  have := sum_split p L x.i h
  omega
theorem len_split (L : List It) (i : Int) (h : ∀ y ∈ L, y.i ≠ i) : (L.filter (fun y => decide (y.i < i))).length + (L.filter (fun y => decide (i < y.i))).length = L.length := by
  induction L with
  | nil => rfl
  | cons x r ih =>
    have h1 := ih (fun y hy => h y (List.mem_cons_of_mem _ hy))
    have h2 := h x (List.mem_cons_self ..)
    by_cases h3 : x.i < i
    · have h4 : ¬ i < x.i := by omega
      simp only [List.filter_cons, h3, h4, decide_true, decide_false, if_true]
      simp
      omega
    · have h4 : i < x.i := by omega
      simp only [List.filter_cons, h3, h4, decide_true, decide_false, if_true]
      simp
      omega
theorem len_ins (L : List It) (x : It) (h : ∀ y ∈ L, y.i ≠ x.i) : (ins L x).length = L.length + 1 := by
  unfold ins
  have := len_split L x.i h
  rw [List.length_append, List.length_cons]
  omega
theorem mem_ins (L : List It) (x y : It) (h : ∀ y ∈ L, y.i ≠ x.i) : y ∈ ins L x ↔ y = x ∨ y ∈ L := by
  unfold ins
  simp only [List.mem_append, List.mem_cons, List.mem_filter, decide_eq_true_eq]
  constructor
  · rintro (⟨h1, _⟩ | rfl | ⟨h1, _⟩)
    · exact .inr h1
    · exact .inl rfl
    · exact .inr h1
  · rintro (rfl | h1)
    · exact .inr (.inl rfl)
    · have := h y h1
      rcases Int.lt_trichotomy y.i x.i with h2 | h2 | h2
      · exact .inl ⟨h1, h2⟩
      · exact absurd h2 this
      · exact .inr (.inr ⟨h1, h2⟩)
theorem sorted_ins (L : List It) (x : It) (h : Sorted L) : Sorted (ins L x) := by
  unfold ins Sorted
  rw [List.pairwise_append]
  refine ⟨h.filter _, List.pairwise_cons.2 ⟨fun y hy => ?_, h.filter _⟩, fun a ha b hb => ?_⟩
  · simpa using (List.mem_filter.1 hy).2
  · have h1 : a.i < x.i := by simpa using (List.mem_filter.1 ha).2
    rcases List.mem_cons.1 hb with rfl | hb
    · exact h1
    · have h2 : x.i < b.i := by simpa using (List.mem_filter.1 hb).2
      omega
theorem sum_del (p : It → Bool) (L : List It) (x : It) (hs : Sorted L) (hx : x ∈ L) : sumIf p (del L x.i) + (if p x then words x.o else 0) = sumIf p L := by
  induction L with
  | nil => simp at hx
  | cons y r ih =>
    have hs' := List.pairwise_cons.1 hs
    rcases List.mem_cons.1 hx with rfl | hx
    · have h1 : del (x :: r) x.i = r := by
        unfold del
        rw [List.filter_cons, if_neg (by simp)]
        exact List.filter_eq_self.2 (fun z hz => by have := hs'.1 z hz; simp; omega)
      rw [h1, sumIf]
      omega
    · have h2 := hs'.1 x hx
      have h1 : del (y :: r) x.i = y :: del r x.i := by
        unfold del
        rw [List.filter_cons, if_pos (by simp; omega)]
      have := ih hs'.2 hx
      rw [h1, sumIf, sumIf]
      omega
theorem len_del (L : List It) (x : It) (hs : Sorted L) (hx : x ∈ L) : (del L x.i).length + 1 = L.length := by
  induction L with
  | nil => simp at hx
  | cons y r ih =>
    have hs' := List.pairwise_cons.1 hs
    rcases List.mem_cons.1 hx with rfl | hx
    · have h1 : del (x :: r) x.i = r := by
        unfold del
        rw [List.filter_cons, if_neg (by simp)]
        exact List.filter_eq_self.2 (fun z hz => by have := hs'.1 z hz; simp; omega)
      rw [h1, List.length_cons]
    · have h2 := hs'.1 x hx
      have h1 : del (y :: r) x.i = y :: del r x.i := by
        unfold del
        rw [List.filter_cons, if_pos (by simp; omega)]
      have := ih hs'.2 hx
      rw [h1, List.length_cons, List.length_cons]
      omega
theorem sorted_one {L : List It} (hs : Sorted L) {x y : It} (hx : x ∈ L) (hy : y ∈ L) (h : x.i = y.i) : x = y := by
  induction L with
  | nil => simp at hx
  | cons z r ih =>
    have hs' := List.pairwise_cons.1 hs
    rcases List.mem_cons.1 hx with h1 | h1 <;> rcases List.mem_cons.1 hy with h2 | h2
    · rw [h1, h2]
    · have := hs'.1 y h2; rw [h1] at h; omega
    · have := hs'.1 x h1; rw [h2] at h; omega
    · exact ih hs'.2 h1 h2
theorem sorted_ext {L M : List It} (hL : Sorted L) (hM : Sorted M) (h : ∀ x, x ∈ L ↔ x ∈ M) : L = M := by
  induction L generalizing M with
  | nil =>
    cases M with
    | nil => rfl
    | cons y r => exact absurd ((h y).2 (List.mem_cons_self ..)) (by simp)
  | cons x r ih =>
    cases M with
    | nil => exact absurd ((h x).1 (List.mem_cons_self ..)) (by simp)
    | cons y s =>
      have h1 := List.pairwise_cons.1 hL
      have h2 := List.pairwise_cons.1 hM
      have hxy : x = y := by
        rcases List.mem_cons.1 ((h x).1 (List.mem_cons_self ..)) with e | hx
        · exact e
        · rcases List.mem_cons.1 ((h y).2 (List.mem_cons_self ..)) with e | hy
          · exact e.symm
          · have := h1.1 y hy; have := h2.1 x hx; omega
      subst hxy
      rw [ih h1.2 h2.2 (fun z => ⟨fun hz => ?_, fun hz => ?_⟩)]
      · rcases List.mem_cons.1 ((h z).1 (List.mem_cons_of_mem _ hz)) with e | hz2
        · subst e; have := h1.1 z hz; omega
        · exact hz2
      · rcases List.mem_cons.1 ((h z).2 (List.mem_cons_of_mem _ hz)) with e | hz2
        · subst e; have := h2.1 z hz; omega
        · exact hz2
/-- The least number that is free: how many from 0 on stand at the head. -/
def leastFrom : List It → Nat → Nat
  | [], n => n
  | x :: r, n => if x.i = (n : Int) then leastFrom r (n + 1) else n
def least (L : List It) : Nat := leastFrom L 0
theorem least_spec : ∀ (L : List It) (n : Nat), Sorted L → (∀ x ∈ L, (n : Int) ≤ x.i) → n ≤ leastFrom L n ∧ leastFrom L n ≤ n + L.length ∧ (∀ k : Nat, n ≤ k → k < leastFrom L n → ∃ x, L[k - n]? = some x ∧ x.i = (k : Int)) ∧ ∀ x ∈ L, x.i ≠ (leastFrom L n : Int)
  | [], n, _, _ => ⟨Nat.le_refl _, Nat.le_refl _, fun k h1 h2 => by unfold leastFrom at h2; omega, by simp⟩
  | x :: r, n, hs, hn => by
    have hs' := List.pairwise_cons.1 hs
    unfold leastFrom
    by_cases h : x.i = (n : Int)
    · rw [if_pos h]
      obtain ⟨h1, h2, h3, h4⟩ := least_spec r (n + 1) hs'.2 (fun y hy => by have := hs'.1 y hy; omega)
      refine ⟨by omega, by simp only [List.length_cons]; omega, fun k hk hk2 => ?_, fun y hy => ?_⟩
      · rcases Nat.lt_or_ge n k with h5 | h5
        · obtain ⟨y, h6, h7⟩ := h3 k h5 hk2
          refine ⟨y, ?_, h7⟩
          rw [show k - n = (k - (n + 1)) + 1 by omega, List.getElem?_cons_succ]
          exact h6
        · obtain rfl : k = n := by omega
          exact ⟨x, by simp, h⟩
      · rcases List.mem_cons.1 hy with rfl | hy
        · omega
        · exact h4 y hy
    · rw [if_neg h]
      refine ⟨Nat.le_refl _, by omega, fun k h1 h2 => by omega, fun y hy => ?_⟩
      have h1 := hn x (List.mem_cons_self ..)
      rcases List.mem_cons.1 hy with rfl | hy
      · exact h
      · have := hs'.1 y hy; omega
theorem least_free {L : List It} (hs : Sorted L) (h0 : ∀ x ∈ L, 0 ≤ x.i) : ∀ x ∈ L, x.i ≠ (least L : Int) := (least_spec L 0 hs (fun x hx => h0 x hx)).2.2.2
theorem least_le {L : List It} (hs : Sorted L) (h0 : ∀ x ∈ L, 0 ≤ x.i) : least L ≤ L.length := by
  have := (least_spec L 0 hs (fun x hx => h0 x hx)).2.1
  unfold least; omega
theorem least_below {L : List It} (hs : Sorted L) (h0 : ∀ x ∈ L, 0 ≤ x.i) {k : Nat} (hk : k < least L) : ∃ x, L[k]? = some x ∧ x.i = (k : Int) := by
  have := (least_spec L 0 hs (fun x hx => h0 x hx)).2.2.1 k (Nat.zero_le _) hk
  simpa using this
/-- It is the only number with all below it taken, and it not. -/
theorem least_eq {L : List It} (hs : Sorted L) (h0 : ∀ x ∈ L, 0 ≤ x.i) {n : Nat} (h1 : ∀ k : Nat, k < n → ∃ x ∈ L, x.i = (k : Int)) (h2 : ∀ x ∈ L, x.i ≠ (n : Int)) : least L = n := by
  rcases Nat.lt_trichotomy (least L) n with h | h | h
  · obtain ⟨x, hx, e⟩ := h1 _ h
    exact absurd e (least_free hs h0 x hx)
  · exact h
  · obtain ⟨x, hx, e⟩ := least_below hs h0 h
    exact absurd e (h2 x (List.mem_of_getElem? hx))
/-- Where a list is parted by the least free number. -/
theorem ins_least {L : List It} (hs : Sorted L) (h0 : ∀ x ∈ L, 0 ≤ x.i) (x : It) (hx : x.i = (least L : Int)) : ins L x = L.take (least L) ++ x :: L.drop (least L) := by
  have hf := least_free hs h0
  have hl := least_le hs h0
  have hd : ∀ y ∈ L.drop (least L), (least L : Int) < y.i := by
    intro y hy
    obtain ⟨k, hk, e⟩ := List.mem_iff_getElem.1 hy
    have hp : L.Pairwise (fun a b => a.i < b.i) := hs
    have h1 := hf y (List.mem_of_mem_drop hy)
    have h2 := h0 y (List.mem_of_mem_drop hy)
    rcases Int.lt_trichotomy y.i (least L : Int) with h | h | h
    · obtain ⟨z, hz, ez⟩ := least_below hs h0 (k := y.i.toNat) (by omega)
      have hyz : z = y := sorted_one hs (List.mem_of_getElem? hz) (List.mem_of_mem_drop hy) (by omega)
      subst hyz
      have h3 : L[least L + k]? = some z := by
        rw [List.getElem_drop] at e
        rw [← e]
        exact List.getElem?_eq_getElem _
      have h4 := List.pairwise_iff_getElem.1 hp
      have h5 := (List.getElem?_eq_some_iff.1 hz)
      have h6 := (List.getElem?_eq_some_iff.1 h3)
      obtain ⟨q1, q2⟩ := h5
      obtain ⟨q3, q4⟩ := h6
      have := h4 z.i.toNat (least L + k) q1 q3 (by omega)
      rw [q2, q4] at this
      omega
    · exact absurd h h1
    · exact h
  have ht : ∀ y ∈ L.take (least L), y.i < (least L : Int) := by
    intro y hy
    obtain ⟨k, hk, e⟩ := List.mem_iff_getElem.1 hy
    have hk' : k < least L := by rw [List.length_take] at hk; omega
    obtain ⟨z, hz, ez⟩ := least_below hs h0 hk'
    rw [List.getElem_take] at e
    obtain ⟨q1, q2⟩ := List.getElem?_eq_some_iff.1 hz
    have : z = y := by rw [← q2, e]
    subst this
    omega
  have e : L = L.take (least L) ++ L.drop (least L) := (List.take_append_drop _ _).symm
  unfold ins
  rw [hx]
  have a1 : L.filter (fun y => decide (y.i < (least L : Int))) = L.take (least L) := by
    conv => lhs; arg 2; rw [e]
    rw [List.filter_append, List.filter_eq_self.2 (fun y hy => by simpa using ht y hy), List.filter_eq_nil_iff.2 (fun y hy => by have := hd y hy; simp; omega), List.append_nil]
  have a2 : L.filter (fun y => decide ((least L : Int) < y.i)) = L.drop (least L) := by
    conv => lhs; arg 2; rw [e]
    rw [List.filter_append, List.filter_eq_nil_iff.2 (fun y hy => by have := ht y hy; simp; omega), List.filter_eq_self.2 (fun y hy => by simpa using hd y hy), List.nil_append]
  rw [a1, a2]
theorem sorted_len {L : List It} (hs : Sorted L) {a b : Int} (h : ∀ x ∈ L, a ≤ x.i ∧ x.i < b) : (L.length : Int) ≤ max 0 (b - a) := by
  induction L generalizing a with
  | nil => simp; omega
  | cons x r ih =>
    have hs' := List.pairwise_cons.1 hs
    have h1 := h x (List.mem_cons_self ..)
    have := ih hs'.2 (a := a + 1) (fun y hy => ⟨by have := hs'.1 y hy; omega, (h y (List.mem_cons_of_mem _ hy)).2⟩)
    simp only [List.length_cons]
    omega
/-- Where an object's number stands; below 0: nowhere. -/
def find (L : List It) (i : Int) : Option It := L.find? (fun x => decide (x.i = i))
theorem find_mem {L : List It} {i : Int} {x : It} (h : find L i = some x) : x ∈ L ∧ x.i = i := ⟨List.mem_of_find?_eq_some h, by simpa using List.find?_some h⟩
theorem find_of {L : List It} (hs : Sorted L) {x : It} (h : x ∈ L) : find L x.i = some x := by
  cases hf : find L x.i with
  | none =>
    have := List.find?_eq_none.1 hf x h
    simp at this
  | some y =>
    have := find_mem hf
    rw [sorted_one hs this.1 h this.2]
theorem find_none {L : List It} {i : Int} : find L i = none ↔ ∀ x ∈ L, x.i ≠ i := by
  unfold find
  rw [List.find?_eq_none]
  simp
/-- What Put answers, and what it leaves. -/
def putCode (up : List Nat) (L : List It) (i k under : Int) (v : Val) : Nat :=
  if !(valueB up.length v && inB under up.length) then 1
  else match find L i with
    | none => 3
    | some x => match x.o.f[k.toNat]? with
      | none => 3
      | some y => if k < 0 then 3 else if rleq up under y.l then 0 else 11
def putIt (up : List Nat) (i k under : Int) (v : Val) (x : It) : It := if x.i = i then { x with o := setF x.o k.toNat (putV up under v) } else x
def put (up : List Nat) (L : List It) (i k under : Int) (v : Val) : List It := if putCode up L i k under v = 0 then L.map (putIt up i k under v) else L
theorem putIt_i (up : List Nat) (i k under : Int) (v : Val) (x : It) : (putIt up i k under v x).i = x.i := by unfold putIt; split <;> rfl
theorem putIt_h (up : List Nat) (i k under : Int) (v : Val) (x : It) : (putIt up i k under v x).h = x.h := by unfold putIt; split <;> rfl
theorem putIt_lev (up : List Nat) (i k under : Int) (v : Val) (x : It) : (putIt up i k under v x).o.lev = x.o.lev := by unfold putIt setF; split <;> rfl
theorem putIt_words (up : List Nat) (i k under : Int) (v : Val) (x : It) : words (putIt up i k under v x).o = words x.o := by unfold putIt setF words; split <;> simp
theorem put_bad {up : List Nat} {L : List It} {i k under : Int} {v : Val} (h : putCode up L i k under v ≠ 0) : put up L i k under v = L := by simp [put, h]
theorem put_good {up : List Nat} {L : List It} {i k under : Int} {v : Val} (h : putCode up L i k under v = 0) : put up L i k under v = L.map (putIt up i k under v) := by simp [put, h]
theorem put_len (up : List Nat) (L : List It) (i k under : Int) (v : Val) : (put up L i k under v).length = L.length := by unfold put; split <;> simp
theorem code_arg {up : List Nat} {L : List It} {i k under : Int} {v : Val} (h : (valueB up.length v && inB under up.length) = false) : putCode up L i k under v = 1 := by simp [putCode, h]
theorem code_obj {up : List Nat} {L : List It} {i k under : Int} {v : Val} (h : (valueB up.length v && inB under up.length) = true) (hi : find L i = none) : putCode up L i k under v = 3 := by
  unfold putCode
  rw [h, Bool.not_true, if_neg (by decide), hi]
theorem code_field {up : List Nat} {L : List It} {i k under : Int} {v : Val} {x : It} (h : (valueB up.length v && inB under up.length) = true) (hi : find L i = some x) (hk : inB k x.o.f.length = false) : putCode up L i k under v = 3 := by
  unfold putCode
  rw [h, Bool.not_true, if_neg (by decide), hi]
  simp only
  rcases Nat.lt_or_ge k.toNat x.o.f.length with h1 | h1
  · have h2 : k < 0 := by
      simp only [inB, Bool.and_eq_false_iff, decide_eq_false_iff_not] at hk
      omega
    rw [List.getElem?_eq_getElem h1]
    simp [h2]
  · rw [List.getElem?_eq_none h1]
theorem code_leq {up : List Nat} {L : List It} {i under : Int} {k : Nat} {v y : Val} {x : It} (h : (valueB up.length v && inB under up.length) = true) (hi : find L i = some x) (hk : x.o.f[k]? = some y) : putCode up L i (k : Int) under v = if rleq up under y.l then 0 else 11 := by
  unfold putCode
  rw [h, Bool.not_true, if_neg (by decide), hi]
  have h1 : ¬ (k : Int) < 0 := by omega
  simp only [h1, if_false, Int.toNat_natCast, hk]
theorem code_zero {up : List Nat} {L : List It} {i k under : Int} {v : Val} (h : putCode up L i k under v = 0) : valueB up.length v = true ∧ inB under up.length = true ∧ ∃ (b : Nat) (x : It) (y : Val), k = (b : Int) ∧ find L i = some x ∧ x.o.f[b]? = some y ∧ rleq up under y.l = true := by
  cases hv : valueB up.length v && inB under up.length
  · rw [code_arg hv] at h; cases h
  · have hv' := hv
    rw [Bool.and_eq_true] at hv'
    refine ⟨hv'.1, hv'.2, ?_⟩
    cases hi : find L i with
    | none => rw [code_obj hv hi] at h; cases h
    | some x =>
      cases hk : inB k x.o.f.length
      · rw [code_field hv hi hk] at h; cases h
      · obtain ⟨b, rfl⟩ : ∃ b : Nat, k = b := ⟨k.toNat, by simp [inB] at hk; omega⟩
        have hb : b < x.o.f.length := by simp [inB] at hk; omega
        have e2 := List.getElem?_eq_getElem hb
        rw [code_leq hv hi e2] at h
        refine ⟨b, x, _, rfl, rfl, e2, ?_⟩
        cases hr : rleq up under (x.o.f[b]).l
        · rw [hr] at h; cases h
        · rfl
theorem sorted_map {L : List It} {f : It → It} (hf : ∀ x, (f x).i = x.i) (h : Sorted L) : Sorted (L.map f) := by
  unfold Sorted
  rw [List.pairwise_map]
  exact h.imp (fun hab => by rw [hf, hf]; exact hab)
theorem sum_map {L : List It} {f : It → It} {p : It → Bool} (h1 : ∀ x, words (f x).o = words x.o) (h2 : ∀ x, p (f x) = p x) : sumIf p (L.map f) = sumIf p L := by
  induction L with
  | nil => rfl
  | cons x r ih => simp only [List.map_cons, sumIf, h1, h2, ih]
end Go.Proofs.YtidnaednldcdfaaGreatDoor.Hp

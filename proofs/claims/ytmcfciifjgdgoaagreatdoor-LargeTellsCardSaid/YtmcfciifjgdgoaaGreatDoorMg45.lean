/- Texts of this claim in one: Facts2 But Row FactsIn Rng Iter3. -/
import Derived.Test.YtmcfciifjgdgoaaGreatDoorBase
import Derived.StillTail
import Derived.Test.YtmcfciifjgdgoaaGreatDoorOwn2
import Derived.Test.YtmcfciifjgdgoaaGreatDoorIter2
import Derived.Laws.CopyRow
import Derived.OwnWalkIn
import Derived.Test.YtmcfciifjgdgoaaGreatDoorRound
import Derived.RangeFuncNested
import Derived.RangeFuncCalls
import Derived.RangeFuncLeaves
import Derived.WalkKit
section
/- A region that draws its order, walked once for all its orders: a fact for each operation, which holds from then on however the world grows; what the operations 'Al' make lies apart. No program is named here. -/
namespace Go.Proofs.YtmcfciifjgdgoaaGreatDoor
open Go.RowKit

/-- Outside of the slots 'D' nothing has changed. -/
structure SameBut (D : List Tmp) (a0 a : Act) : Prop where
  defers : a.defers = a0.defers
  size : a.tmps.size = a0.tmps.size
  rest : ∀ t, t ∉ D → a.tmps[t]? = a0.tmps[t]?
def dstOf (ops : Array Oper) (i : Nat) : Tmp := ((ops[i]?).bind (·.dst)).getD 0
/-- What the operation 'i' has given. -/
def slotOf (D : List Tmp) (i : Nat) (a : Act) : Value := a.eval (.tmp (D.getD i 0))
def isBool (v : Value) (b : Bool) : Bool := match v with
  | .bool c => c == b
  | _ => false
/-- Is the operation run at all? -/
def wantedD (D : List Tmp) (o : Oper) (a : Act) : Bool := match o.guard with
  | none => true
  | some (g, b) => isBool (slotOf D g a) b
/-- The facts of what stands ahead. -/
def Ahead (D : List Tmp) (φ : Nat → Value → World → Prop) (a : Act) (w : World) : List Edge → Prop
  | [] => True
  | e :: r => (Region.binds .any e = true → φ e.on (slotOf D e.on a) w) ∧ Ahead D φ a w r
theorem ahead_of {D : List Tmp} {φ : Nat → Value → World → Prop} {a : Act} {w : World} : ∀ (l : List Edge), (∀ e ∈ l, Region.binds .any e = true → φ e.on (slotOf D e.on a) w) → Ahead D φ a w l
  | [], _ => trivial
  | e :: r, h => ⟨h e (by simp), ahead_of r (fun x hx => h x (by simp [hx]))⟩
/-- The head of a block that is new since 'w'. -/
def IsNew (v : Value) (w w' : World) : Prop := ∃ g, v = .pointer (some ⟨g, 0, none⟩) ∧ w.heap.size ≤ g ∧ g < w'.heap.size
/-- One operation's end: its slot is written, the world has only grown, and the fact holds. -/
def Gives (F : Value → World → Prop) (al : Bool) (dst : Option Tmp) (a : Act) (w : World) (a' : Act) (w' : World) : Prop := ∃ v, a' = a.put dst v ∧ Grew w w' ∧ F v w' ∧ (al = true → IsNew v w w')
theorem Gives.of {F : Value → World → Prop} {d : Tmp} {a : Act} {w w' : World} {v : Value} (hg : Grew w w') (h : F v w') : Gives F false (some d) a w { tmps := a.tmps.setIfInBounds d v, defers := a.defers } w' := ⟨v, rfl, hg, h, fun h => by cases h⟩
theorem Gives.of' {F : Value → World → Prop} {al : Bool} {d : Tmp} {a : Act} {w w' : World} {v : Value} (hal : al = false) (hg : Grew w w') (h : F v w') : Gives F al (some d) a w { tmps := a.tmps.setIfInBounds d v, defers := a.defers } w' := ⟨v, rfl, hg, h, fun h => by rw [hal] at h; cases h⟩
theorem Gives.al {F : Value → World → Prop} {al : Bool} {d : Tmp} {a : Act} {w w' : World} {g : Nat} (hg : Grew w w') (h1 : w.heap.size ≤ g) (h2 : g < w'.heap.size) (h : F (.pointer (some ⟨g, 0, none⟩)) w') : Gives F al (some d) a w { tmps := a.tmps.setIfInBounds d (.pointer (some ⟨g, 0, none⟩)), defers := a.defers } w' := ⟨_, rfl, hg, h, fun _ => ⟨g, rfl, h1, h2⟩⟩
theorem SameBut.eval {D : List Tmp} {a0 a : Act} (h : SameBut D a0 a) (t : Tmp) (ht : D.contains t = false) {v : Value} (hv : a0.eval (.tmp t) = v) : a.eval (.tmp t) = v := by
  rw [← hv]
  have := h.rest t (by simpa using ht)
  simp only [Act.eval, Array.getD_eq_getD_getElem?, this]
def StepOk (P : Program) (Q : Exit → Act → World → Prop) (D : List Tmp) (Al : List Nat) (φ : Nat → Value → World → Prop) (a0 : Act) (w0 : World) (i : Nat) (o : Oper) : Prop :=
  ∀ a w, Grew w0 w → SameBut D a0 a → Ahead D φ a w o.after.toList →
    if wantedD D o a = true then o.wp P a w (Gives (φ i) (Al.contains i) o.dst a w) Q else φ i undef w ∧ Al.contains i = false
/-- Does 'i' wait for 'j', at first or at last? -/
def reachB (ops : Array Oper) : Nat → Nat → Nat → Bool
  | 0, _, _ => false
  | f + 1, i, j => ((ops[i]?).map fun o => o.after.toList.any fun e => Region.binds .any e && (decide (e.on = j) || reachB ops f e.on j)).getD false
/-- Whoever is listed has those listed for whom he waits. -/
def Closed (ops : Array Oper) (listed : Array Bool) : Prop := ∀ j o, listed.getD j false = true → ops[j]? = some o → ∀ e ∈ o.after, Region.binds .any e = true → listed.getD e.on false = true
theorem Closed.reach {ops : Array Oper} {listed : Array Bool} (hc : Closed ops listed) : ∀ (f i j : Nat) (o : Oper), ops[i]? = some o → (∀ e ∈ o.after, Region.binds .any e = true → listed.getD e.on false = true) → reachB ops f i j = true → listed.getD j false = true
  | 0, _, _, _, _, _, h => by simp [reachB] at h
  | f + 1, i, j, o, ho, hd, h => by
    unfold reachB at h
    rw [ho] at h
    obtain ⟨e, he, h2⟩ := List.any_eq_true.1 h
    simp only [Bool.and_eq_true, Bool.or_eq_true, decide_eq_true_eq] at h2
    have hl := hd e (by simpa using he) h2.1
    rcases h2.2 with h3 | h3
    · rw [← h3]; exact hl
    · cases hoe : ops[e.on]? with
      | none =>
        cases f with
        | zero => simp [reachB] at h3
        | succ f => unfold reachB at h3; rw [hoe] at h3; simp at h3
      | some o2 => exact Closed.reach hc f e.on j o2 hoe (hc e.on o2 hl hoe) h3
/-- What is asked of the region's form: the first 'n' operations write slots of their own, wait for earlier ones alone, and all others wait for all of them and stand in one order. -/
def factsB (ops : Array Oper) (n N : Nat) (D : List Tmp) : Bool :=
  decide (n ≤ ops.size) &&
  ((List.range n).all fun i => ((ops[i]?).bind (·.dst)).isSome && decide (dstOf ops i < N) && decide (dstOf ops i = D.getD i 0) && (((ops[i]?).map fun o => (o.after.all fun e => !Region.binds .any e || decide (e.on < i)) && (o.guard.all fun g => decide (g.1 < n))).getD false)) && decide (D.length = n) &&
  ((List.range n).all fun i => (List.range n).all fun j => decide (i = j) || decide (dstOf ops i ≠ dstOf ops j)) &&
  ((List.range ops.size).all fun i => decide (i < n) || ((List.range n).all fun j => reachB ops 4 i j)) &&
  Region.seqB .any ops (ops.size - n) n ((List.range ops.size).map fun i => decide (i < n)).toArray
structure FactsOk (ops : Array Oper) (n N : Nat) (D : List Tmp) : Prop where
  le : n ≤ ops.size
  dst : ∀ i, i < n → ∃ o d, ops[i]? = some o ∧ o.dst = some d ∧ D.getD i 0 = d ∧ d < N ∧ d ∈ D
  guard : ∀ i o g, i < n → ops[i]? = some o → o.guard = some g → g.1 < n
  back : ∀ i o, i < n → ops[i]? = some o → ∀ e ∈ o.after, Region.binds .any e = true → e.on < i
  apart : ∀ i j, i < n → j < n → i ≠ j → D.getD i 0 ≠ D.getD j 0
  phase : ∀ i o, n ≤ i → ops[i]? = some o → ∀ j, j < n → reachB ops 4 i j = true
  seq : Region.seqB .any ops (ops.size - n) n ((List.range ops.size).map fun i => decide (i < n)).toArray = true
theorem factsB_ok {ops : Array Oper} {n N : Nat} {D : List Tmp} (h : factsB ops n N D = true) : FactsOk ops n N D := by
  unfold factsB at h
  simp only [Bool.and_eq_true, decide_eq_true_eq, List.all_eq_true, List.mem_range, Bool.or_eq_true] at h
  obtain ⟨⟨⟨⟨⟨h1, h2⟩, hl⟩, h3⟩, h4⟩, h5⟩ := h
  have h2' : ∀ i, i < n → ∃ o d, ops[i]? = some o ∧ o.dst = some d ∧ D.getD i 0 = d ∧ dstOf ops i = d ∧ d < N ∧ d ∈ D ∧ (∀ e ∈ o.after, Region.binds .any e = true → e.on < i) ∧ (∀ g, o.guard = some g → g.1 < n) := by
    intro i hi
    obtain ⟨⟨⟨a1, a2⟩, a3⟩, a4⟩ := h2 i hi
    obtain ⟨o, ho⟩ : ∃ o, ops[i]? = some o := ⟨_, Array.getElem?_eq_getElem (by omega)⟩
    rw [ho] at a1 a4
    obtain ⟨d, hd⟩ := Option.isSome_iff_exists.1 a1
    have hd' : o.dst = some d := hd
    have e : dstOf ops i = d := by simp [dstOf, ho, hd']
    have a4' : ((o.after.all fun e => !Region.binds .any e || decide (e.on < i)) && (o.guard.all fun g => decide (g.1 < n))) = true := a4
    rw [Bool.and_eq_true] at a4'
    refine ⟨o, d, ho, hd', by rw [← a3, e], e, by rw [← e]; exact a2, ?_, fun x hx hb => ?_, fun g hg => ?_⟩
    · rw [← e, a3]
      have : i < D.length := by omega
      rw [List.getD_eq_getElem?_getD, List.getElem?_eq_getElem this]
      exact List.getElem_mem this
    · have := (Array.all_eq_true_iff_forall_mem.1 a4'.1) x hx
      simpa [hb] using this
    · have := a4'.2
      rw [hg] at this
      simpa using this
  refine ⟨h1, fun i hi => ?_, fun i o g hi ho hg => ?_, fun i o hi ho e he hb => ?_, fun i j hi hj hne => ?_, fun i o hi ho j hj => ?_, h5⟩
  · obtain ⟨o, d, b1, b2, b3, _, b4, b5, _⟩ := h2' i hi
    exact ⟨o, d, b1, b2, b3, b4, b5⟩
  · obtain ⟨o', d, b1, _, _, _, _, _, _, b6⟩ := h2' i hi
    obtain rfl : o = o' := Option.some.inj (ho.symm.trans b1)
    exact b6 g hg
  · obtain ⟨o', d, b1, _, _, _, _, _, b6, _⟩ := h2' i hi
    obtain rfl : o = o' := Option.some.inj (ho.symm.trans b1)
    exact b6 e he hb
  · obtain ⟨_, _, _, _, c1, c2, _⟩ := h2' i hi
    obtain ⟨_, _, _, _, d1, d2, _⟩ := h2' j hj
    rw [c1, d1]
    rcases h3 i hi j hj with h | h
    · exact absurd h hne
    · rw [c2, d2] at h; exact h
  · have hs : i < ops.size := (Array.getElem?_eq_some_iff.1 ho).1
    rcases h4 i hs with h | h
    · omega
    · exact h j hj

/-- How many of the first 'n' are left. -/
def leftN (listed : Array Bool) : Nat → Nat
  | 0 => 0
  | n + 1 => leftN listed n + if listed.getD n true = false then 1 else 0
theorem leftN_set_ge {listed : Array Bool} {i : Nat} : ∀ (n : Nat), n ≤ i → leftN (listed.setIfInBounds i true) n = leftN listed n
  | 0, _ => rfl
  | n + 1, h => by
    unfold leftN
    rw [leftN_set_ge n (by omega), getD_set_ne true (by omega)]
theorem leftN_set {listed : Array Bool} {i : Nat} (hi : listed.getD i true = false) : ∀ (n : Nat), i < n → leftN listed n = leftN (listed.setIfInBounds i true) n + 1
  | 0, h => by omega
  | n + 1, h => by
    unfold leftN
    rcases Nat.lt_or_ge i n with hlt | hge
    · rw [leftN_set hi n hlt, getD_set_ne true (by omega)]; omega
    · obtain rfl : i = n := by omega
      rw [leftN_set_ge i (Nat.le_refl _), if_pos hi]
      have : (listed.setIfInBounds i true).getD i true = true := by
        rcases Nat.lt_or_ge i listed.size with h1 | h1
        · simp [h1]
        · simp [h1]
      rw [this]; simp
theorem leftN_zero {listed : Array Bool} : ∀ (n : Nat), leftN listed n = 0 → ∀ j, j < n → listed.getD j true = true
  | 0, _, j, h => by omega
  | n + 1, h, j, hj => by
    unfold leftN at h
    rcases Nat.lt_or_ge j n with hlt | hge
    · exact leftN_zero n (by omega) j hlt
    · obtain rfl : j = n := by omega
      cases hv : listed.getD j true
      · rw [if_pos hv] at h; omega
      · rfl
theorem leftN_least {listed : Array Bool} : ∀ (n : Nat), 0 < leftN listed n → ∃ i, i < n ∧ listed.getD i true = false ∧ ∀ j, j < i → listed.getD j true = true
  | 0, h => by simp [leftN] at h
  | n + 1, h => by
    rcases Nat.eq_zero_or_pos (leftN listed n) with h0 | h0
    · unfold leftN at h
      refine ⟨n, by omega, ?_, leftN_zero n h0⟩
      cases hv : listed.getD n true
      · rfl
      · rw [if_neg (by rw [hv]; decide)] at h; omega
    · obtain ⟨i, h1, h2, h3⟩ := leftN_least n h0
      exact ⟨i, by omega, h2, h3⟩
theorem leftN_none (m : Nat) : ∀ (n : Nat), n ≤ m → leftN (Array.replicate m false) n = n
  | 0, _ => rfl
  | n + 1, h => by
    unfold leftN
    rw [leftN_none m n (by omega), if_pos (by simp [show n < m by omega])]
theorem getD_flip {listed : Array Bool} {j : Nat} (hj : j < listed.size) : listed.getD j true = listed.getD j false := by
  simp [hj]

section
variable {P : Program} {ops : Array Oper} {Q : Exit → Act → World → Prop} {D : List Tmp} {Al : List Nat} {φ : Nat → Value → World → Prop} {a0 : Act} {w0 : World} {n : Nat}

structure FactsAt (ops : Array Oper) (D : List Tmp) (Al : List Nat) (φ : Nat → Value → World → Prop) (a0 : Act) (w0 : World) (n : Nat) (listed : Array Bool) (a : Act) (w : World) : Prop where
  grew : Grew w0 w
  same : SameBut D a0 a
  fact : ∀ i, i < n → listed.getD i false = true → φ i (slotOf D i a) w
  made : ∀ i, i < n → Al.contains i = true → listed.getD i false = true → IsNew (slotOf D i a) w0 w
  parted : ∀ i j, i < n → j < n → i ≠ j → Al.contains i = true → Al.contains j = true → listed.getD i false = true → listed.getD j false = true → slotOf D i a ≠ slotOf D j a

theorem FactsAt.step {listed : Array Bool} {a : Act} {w w' : World} {i : Nat} {v : Value} {d : Tmp} (hO : FactsOk ops n a0.tmps.size D) (hm : ∀ i v w w', φ i v w → Grew w w' → φ i v w')
    (h : FactsAt ops D Al φ a0 w0 n listed a w) (hi : i < n) (hd : D.getD i 0 = d) (hdN : d < a0.tmps.size) (hdD : d ∈ D) (hg : Grew w w') (hv : φ i v w') (hn : Al.contains i = true → IsNew v w w') : FactsAt ops D Al φ a0 w0 n (listed.setIfInBounds i true) (a.put (some d) v) w' := by
  have same_i : slotOf D i (a.put (some d) v) = v := by
    unfold slotOf Act.eval
    rw [hd]
    simp [Act.put, h.same.size, hdN]
  have same_j : ∀ j, j < n → i ≠ j → slotOf D j (a.put (some d) v) = slotOf D j a := fun j hj hij => by
    have hne : d ≠ D.getD j 0 := by rw [← hd]; exact hO.apart i j hi hj hij
    unfold slotOf Act.eval
    generalize D.getD j 0 = dj at *
    simp [Act.put, Array.getElem?_setIfInBounds_ne hne]
  have new_j : ∀ j, j < n → Al.contains j = true → listed.getD j false = true → IsNew (slotOf D j a) w0 w' := fun j hj hA hl => by
    obtain ⟨g, h1, h2, h3⟩ := h.made j hj hA hl
    exact ⟨g, h1, h2, Nat.lt_of_lt_of_le h3 hg.below.size⟩
  have apart_j : ∀ j, j < n → Al.contains i = true → Al.contains j = true → listed.getD j false = true → v ≠ slotOf D j a := fun j hj hA hB hl e => by
    obtain ⟨g, h1, h2, h3⟩ := h.made j hj hB hl
    obtain ⟨g', k1, k2, k3⟩ := hn hA
    rw [← e, k1] at h1
    simp only [Value.pointer.injEq, Option.some.injEq, Addr.mk.injEq] at h1
    omega
  refine ⟨h.grew.trans hg, ⟨h.same.defers, ?_, fun t ht => ?_⟩, fun j hj hl => ?_, fun j hj hA hl => ?_, fun j k hj hk hjk hA hB hl hl2 => ?_⟩
  · simp [Act.put, h.same.size]
  · have hne : d ≠ t := by rintro rfl; exact ht hdD
    simp only [Act.put]
    rw [Array.getElem?_setIfInBounds_ne hne]
    exact h.same.rest t ht
  · by_cases hij : i = j
    · subst hij
      rw [same_i]; exact hv
    · rw [same_j j hj hij]
      exact hm j _ _ _ (h.fact j hj (by rwa [getD_set_ne false hij] at hl)) hg
  · by_cases hij : i = j
    · subst hij
      rw [same_i]
      obtain ⟨g, k1, k2, k3⟩ := hn hA
      exact ⟨g, k1, Nat.le_trans h.grew.below.size k2, k3⟩
    · rw [same_j j hj hij]
      exact new_j j hj hA (by rwa [getD_set_ne false hij] at hl)
  · by_cases hij : i = j
    · subst hij
      rw [same_i, same_j k hk hjk]
      exact apart_j k hk hA hB (by rwa [getD_set_ne false hjk] at hl2)
    · rw [same_j j hj hij]
      by_cases hik : i = k
      · subst hik
        rw [same_i]
        exact fun e => apart_j j hj hB hA (by rwa [getD_set_ne false hij] at hl) e.symm
      · rw [same_j k hk hik]
        exact h.parted j k hj hk hjk hA hB (by rwa [getD_set_ne false hij] at hl) (by rwa [getD_set_ne false hik] at hl2)

theorem wpAny_facts (hO : FactsOk ops n a0.tmps.size D) (hm : ∀ i v w w', φ i v w → Grew w w' → φ i v w')
    (hstep : ∀ i o, i < n → ops[i]? = some o → StepOk P Q D Al φ a0 w0 i o)
    (hend : ∀ a w, Grew w0 w → SameBut D a0 a → (∀ i, i < n → φ i (slotOf D i a) w) → (∀ i, i < n → Al.contains i = true → IsNew (slotOf D i a) w0 w) → (∀ i j, i < n → j < n → i ≠ j → Al.contains i = true → Al.contains j = true → slotOf D i a ≠ slotOf D j a) → wpList P ops Q (ops.toList.drop n) a w) :
    ∀ (k : Nat) (listed : Array Bool) (a : Act) (w : World), listed.size = ops.size → (∀ j, n ≤ j → j < ops.size → listed.getD j true = false) → leftN listed n = k → Closed ops listed →
      FactsAt ops D Al φ a0 w0 n listed a w → wpAny P .any ops Q (k + (ops.size - n)) listed a w := by
  intro k
  induction k with
  | zero =>
    intro listed a w hs ht hk _ h
    have hall := leftN_zero n hk
    have e : listed = ((List.range ops.size).map fun i => decide (i < n)).toArray := by
      apply Array.ext (by simp [hs])
      intro j h1 h2
      rcases Nat.lt_or_ge j n with hlt | hge
      · have := hall j hlt
        simp [h1] at this
        simp [this, hlt]
      · have := ht j hge (by omega)
        simp [h1] at this
        simp [this]; omega
    have hl : (ops.toList.drop n).length = ops.size - n := by simp
    rw [Nat.zero_add, ← hl]
    refine wpAny_of_seq (ops.toList.drop n) n listed a w (fun j => by simp) ?_ ?_
    · rw [hl, e]; exact hO.seq
    · have hl : ∀ i, i < n → listed.getD i false = true := fun i hi => by
        rw [← getD_flip (by have := hO.le; omega)]
        exact hall i hi
      exact hend a w h.grew h.same (fun i hi => h.fact i hi (hl i hi)) (fun i hi hA => h.made i hi hA (hl i hi)) (fun i j hi hj hij hA hB => h.parted i j hi hj hij hA hB (hl i hi) (hl j hj))
  | succ k ih =>
    intro listed a w hs ht hk hcl h
    obtain ⟨i0, hi0, hl0, hless⟩ := leftN_least n (by omega : 0 < leftN listed n)
    have hfalse : listed.getD i0 false = false := by rw [← getD_flip (by have := hO.le; omega)]; exact hl0
    rw [Nat.succ_add]
    refine ⟨fun hr => ?_, fun i hi => ?_⟩
    · exfalso
      obtain ⟨o, d, ho, _⟩ := hO.dst i0 hi0
      have : i0 ∈ Region.ready .any ops listed := mem_ready.2 ⟨hl0, o, ho, fun e he hb => by
        have hlt := hO.back i0 o hi0 ho e he hb
        rw [← getD_flip (by have := hO.le; omega)]
        exact hless _ hlt⟩
      rw [hr] at this
      cases this
    · obtain ⟨hli, o, ho, hdep⟩ := mem_ready.1 hi
      have hin : i < n := by
        rcases Nat.lt_or_ge i n with h1 | h1
        · exact h1
        · exfalso
          have := hcl.reach 4 i i0 o ho hdep (hO.phase i o h1 ho i0 hi0)
          rw [hfalse] at this
          cases this
      obtain ⟨o', d, ho', hd, hdd, hdN, hdD⟩ := hO.dst i hin
      obtain rfl : o = o' := Option.some.inj (ho.symm.trans ho')
      have hA : Ahead D φ a w o.after.toList := ahead_of _ (fun e he hb => by
        have he' : e ∈ o.after := by simpa using he
        exact h.fact e.on (Nat.lt_trans (hO.back i o hin ho e he' hb) hin) (hdep e he' hb))
      have hst := hstep i o hin ho a w h.grew h.same hA
      have hs' : (listed.setIfInBounds i true).size = ops.size := by simpa using hs
      have ht' : ∀ j, n ≤ j → j < ops.size → (listed.setIfInBounds i true).getD j true = false := fun j h1 h2 => by
        rw [getD_set_ne true (by omega)]; exact ht j h1 h2
      have hcl' : Closed ops (listed.setIfInBounds i true) := fun j oj hj hoj e he hb => by
        by_cases hij : i = j
        · subst hij
          obtain rfl : o = oj := Option.some.inj (ho.symm.trans hoj)
          exact getD_set_true (hdep e he hb)
        · rw [getD_set_ne false hij] at hj
          exact getD_set_true (hcl j oj hj hoj e he hb)
      have hk' : leftN (listed.setIfInBounds i true) n = k := by
        have := leftN_set hli n hin
        omega
      have hwd : wantedD D o a = Region.wanted o (yielded ops a.tmps) := by
        unfold wantedD Region.wanted
        cases hgd : o.guard with
        | none => rfl
        | some g =>
          obtain ⟨g, b⟩ := g
          obtain ⟨og, dg, hog, hdg, hDg, hNg, _⟩ := hO.dst g (hO.guard i o _ hin ho hgd)
          have hsz : dg < a.tmps.size := by rw [h.same.size]; exact hNg
          simp only [yielded, hog, hdg, slotOf, Act.eval, hDg, Option.bind_some]
          rw [Array.getElem?_eq_getElem hsz]
          have : a.tmps.getD dg undef = a.tmps[dg] := by simp [hsz]
          rw [this]
          unfold isBool
          cases a.tmps[dg] <;> simp
      rw [hwd] at hst
      unfold wpOp
      simp only [ho]
      split
      · rename_i hw
        rw [if_pos hw] at hst
        refine .inl (Oper.wp_mono (fun a' w' h' => ?_) hst)
        obtain ⟨v, rfl, hg, hv, hn⟩ := h'
        rw [hd]
        exact ih _ _ _ hs' ht' hk' hcl' (h.step hO hm hin hdd hdN hdD hg hv hn)
      · rename_i hw
        rw [if_neg hw] at hst
        rw [hd]
        exact ih _ _ _ hs' ht' hk' hcl' (h.step hO hm hin hdd hdN hdD (Grew.refl _) hst.1 (fun h => by rw [hst.2] at h; cases h))

def StepAll (P : Program) (Q : Exit → Act → World → Prop) (D : List Tmp) (Al : List Nat) (φ : Nat → Value → World → Prop) (a0 : Act) (w0 : World) : Nat → List Oper → Prop
  | _, [] => True
  | k, o :: r => StepOk P Q D Al φ a0 w0 k o ∧ StepAll P Q D Al φ a0 w0 (k + 1) r
theorem StepAll.get : ∀ (l : List Oper) (k : Nat), StepAll P Q D Al φ a0 w0 k l → ∀ j o, l[j]? = some o → StepOk P Q D Al φ a0 w0 (k + j) o
  | [], _, _, j, o, h => by simp at h
  | x :: r, k, hs, 0, o, h => by
    obtain rfl : x = o := by simpa using h
    exact hs.1
  | x :: r, k, hs, j + 1, o, h => by
    have := StepAll.get r (k + 1) hs.2 j o (by simpa using h)
    rwa [show k + 1 + j = k + (j + 1) by omega] at this
/-- One walk for all orders. -/
theorem wp_region_facts {id : Nat} (w : World) (n : Nat) (D : List Tmp) (Al : List Nat) (φ : Nat → Value → World → Prop) (hf : P.follows .mixedOrders = true) (hB : factsB ops n a0.tmps.size D = true) (hg : Grew w0 w) (hm : ∀ i v w w', φ i v w → Grew w w' → φ i v w')
    (hstep : StepAll P Q D Al φ a0 w0 0 (ops.toList.take n))
    (hend : ∀ a w, Grew w0 w → SameBut D a0 a → (∀ i, i < n → φ i (slotOf D i a) w) → (∀ i, i < n → Al.contains i = true → IsNew (slotOf D i a) w0 w) → (∀ i j, i < n → j < n → i ≠ j → Al.contains i = true → Al.contains j = true → slotOf D i a ≠ slotOf D j a) → wpList P ops Q (ops.toList.drop n) a w) : (Code.region id ops true).wp P Q a0 w := by
  have hO := factsB_ok hB
  refine wp_region_any hf ?_
  have hstep' : ∀ i o, i < n → ops[i]? = some o → StepOk P Q D Al φ a0 w0 i o := fun i o hi ho => by
    have := StepAll.get _ 0 hstep i o (by rw [List.getElem?_take_of_lt hi]; simpa using ho)
    rwa [Nat.zero_add] at this
  have h := wpAny_facts hO hm hstep' hend n (Array.replicate ops.size false) a0 w.drew (by simp) (fun j _ h2 => by simp [h2]) (leftN_none _ _ hO.le) (fun j o hj ho => by
    simp [show j < ops.size from (Array.getElem?_eq_some_iff.1 ho).1] at hj) ⟨hg.drew, ⟨rfl, rfl, fun _ _ => rfl⟩, fun i hi hl => by
    simp [show i < ops.size by have := hO.le; omega] at hl, fun i hi _ hl => by
    simp [show i < ops.size by have := hO.le; omega] at hl, fun i j hi _ _ _ _ hl _ => by
    simp [show i < ops.size by have := hO.le; omega] at hl⟩
  have e : n + (ops.size - n) = ops.size := by have := hO.le; omega
  rw [e] at h
  exact h
end
/-- An act with slots put. -/
def putAll (f : Tmp → Value) (D : List Tmp) (b : Act) : Act := D.foldl (fun b d => b.put (some d) (f d)) b
theorem putAll_at (f : Tmp → Value) : ∀ (D : List Tmp) (b : Act), (putAll f D b).defers = b.defers ∧ (putAll f D b).tmps.size = b.tmps.size ∧
    ∀ t, (putAll f D b).tmps[t]? = if t ∈ D ∧ t < b.tmps.size then some (f t) else b.tmps[t]?
  | [], b => ⟨rfl, rfl, fun t => by simp [putAll]⟩
  | d :: D, b => by
    obtain ⟨h1, h2, h3⟩ := putAll_at f D (b.put (some d) (f d))
    have e : putAll f (d :: D) b = putAll f D (b.put (some d) (f d)) := rfl
    rw [e]
    refine ⟨h1, by rw [h2]; simp [Act.put], fun t => ?_⟩
    rw [h3]
    have hs : (b.put (some d) (f d)).tmps.size = b.tmps.size := by simp [Act.put]
    rw [hs]
    by_cases ht : t < b.tmps.size
    · by_cases hd : d = t
      · subst hd
        simp [Act.put, ht]
      · have : (b.put (some d) (f d)).tmps[t]? = b.tmps[t]? := by
          simp only [Act.put]
          rw [Array.getElem?_setIfInBounds_ne hd]
        rw [this]
        simp [ht, Ne.symm hd]
    · have h4 : b.tmps[t]? = none := Array.getElem?_eq_none (Nat.le_of_not_lt ht)
      have h5 : (b.put (some d) (f d)).tmps[t]? = none := Array.getElem?_eq_none (by rw [hs]; exact Nat.le_of_not_lt ht)
      rw [h4, h5]
      simp [ht]
theorem SameBut.eq {D : List Tmp} {a0 a : Act} (h : SameBut D a0 a) : a = putAll (fun d => a.tmps.getD d undef) D a0 := by
  obtain ⟨h1, h2, h3⟩ := putAll_at (fun d => a.tmps.getD d undef) D a0
  have e1 : a.tmps = (putAll (fun d => a.tmps.getD d undef) D a0).tmps := by
    apply Array.ext_getElem?
    intro t
    rw [h3 t]
    split
    · rename_i ht
      have : t < a.tmps.size := by rw [h.size]; exact ht.2
      simp [this]
    · rename_i ht
      by_cases hd : t ∈ D
      · have h4 : a0.tmps.size ≤ t := by
          rcases Nat.lt_or_ge t a0.tmps.size with h5 | h5
          · exact absurd ⟨hd, h5⟩ ht
          · exact h5
        rw [Array.getElem?_eq_none h4, Array.getElem?_eq_none (by rw [h.size]; exact h4)]
      · exact h.rest t hd
  have e2 : a.defers = (putAll (fun d => a.tmps.getD d undef) D a0).defers := h.defers.trans h1.symm
  generalize putAll (fun d => a.tmps.getD d undef) D a0 = b at *
  cases a; cases b
  simp only at e1 e2
  rw [e1, e2]
theorem SameBut.put {D : List Tmp} {a0 a : Act} (h : SameBut D a0 a) : ∃ f : Tmp → Value, a = putAll f D a0 ∧ ∀ t, a.eval (.tmp t) = f t := ⟨fun d => a.tmps.getD d undef, h.eq, fun _ => rfl⟩
end Go.Proofs.YtmcfciifjgdgoaaGreatDoor
end

section
/- A world in which one block has changed, and otherwise only new ones are there. No program is named here. -/
namespace Go.Proofs.YtmcfciifjgdgoaaGreatDoor
open Go.RowKit

structure But (H : Nat) (w W : World) : Prop where
  os : W.os = w.os
  tape : W.tape = w.tape
  output : W.output = w.output
  size : w.heap.size ≤ W.heap.size
  block : ∀ k, k < w.heap.size → k ≠ H → W.heap[k]? = w.heap[k]?
theorem But.of_grew {H : Nat} {w W : World} (h : Grew w W) : But H w W := ⟨h.below.os, h.below.tape, h.below.output, h.below.size, fun k hk _ => h.below.block k hk⟩
theorem But.refl (H : Nat) (w : World) : But H w w := .of_grew (Grew.refl w)
theorem But.trans {H : Nat} {a b c : World} (h : But H a b) (k : But H b c) : But H a c :=
  ⟨k.os.trans h.os, k.tape.trans h.tape, k.output.trans h.output, Nat.le_trans h.size k.size, fun i hi hn => (k.block i (Nat.lt_of_lt_of_le hi h.size) hn).trans (h.block i hi hn)⟩
theorem But.setCell {H : Nat} {a w : World} (h : But H a w) {p : Addr} (hp : p.block = H) (u : Value) : But H a (w.setCell p u) :=
  h.trans ⟨rfl, rfl, rfl, by simp [World.setCell], fun k _ hk => Below.heap_setCell _ _ _ _ (by rw [hp]; exact hk)⟩
theorem But.drew {H : Nat} {a w : World} (h : But H a w) : But H a w.drew := ⟨h.os, h.tape, h.output, h.size, h.block⟩
theorem But.drewN {H : Nat} {a w : World} (h : But H a w) (n : Nat) : But H a (w.drewN n) := ⟨h.os, h.tape, h.output, h.size, h.block⟩
theorem But.blk {H g : Nat} {w W : World} {t : TypeId} {cs : Array Value} (h : Blk w g t cs) (hb : But H w W) (hg : g ≠ H) : Blk W g t cs := (hb.block g h.lt hg).trans h
theorem But.cell {H : Nat} {w W : World} (hb : But H w W) {p : Addr} (h1 : p.block < w.heap.size) (h2 : p.block ≠ H) : W.cell? p = w.cell? p := World.cell?_of_block (hb.block p.block h1 h2)
theorem But.nums {k : IntKind} {H : Nat} {w W : World} {A : Option Addr} {xs : List Nat} (h : NumsAt k w w.heap.size A xs) (hb : But H w W) (hA : 0 < xs.length → ∀ ad, A = some ad → ad.block ≠ H) : NumsAt k W W.heap.size A xs := by
  intro hn
  obtain ⟨ad, e, h1, h2⟩ := h hn
  exact ⟨ad, e, Nat.lt_of_lt_of_le h1 hb.size, fun j hj => by rw [hb.cell (by rw [block_add]; exact h1) (by rw [block_add]; exact hA hn ad e)]; exact h2 j hj⟩
theorem But.below {H n0 : Nat} {w0 w W : World} (h : Below n0 w0 w) (hb : But H w W) (h1 : n0 ≤ H) (h2 : n0 ≤ w.heap.size) : Below n0 w0 W :=
  ⟨hb.os.trans h.os, hb.tape.trans h.tape, hb.output.trans h.output, Nat.le_trans h.size hb.size, fun k hk => (hb.block k (by omega) (by omega)).trans (h.block k hk)⟩

theorem mid_get {pre X post : List Nat} {i j : Nat} (hi : pre.length = i) (hj : j < X.length) : (pre ++ (X ++ post)).getD (i + j) 0 = X.getD j 0 := by
  subst hi
  rw [List.getD_eq_getElem?_getD, List.getElem?_append_right (by omega), Nat.add_sub_cancel_left, List.getElem?_append_left hj, List.getD_eq_getElem?_getD]
theorem mid_set {pre X post : List Nat} {i j v : Nat} (hi : pre.length = i) (hj : j < X.length) : (pre ++ (X ++ post)).set (i + j) v = pre ++ (X.set j v ++ post) := by
  subst hi
  rw [List.set_append_right _ _ (by omega), Nat.add_sub_cancel_left, List.set_append_left _ _ hj]
theorem mid_split {L : List Nat} {i k : Nat} : L = L.take i ++ ((L.drop i).take k ++ L.drop (i + k)) := by
  conv => lhs; rw [← List.take_append_drop i L, ← List.take_append_drop k (L.drop i), List.drop_drop]
end Go.Proofs.YtmcfciifjgdgoaaGreatDoor
end

section
/- Words of the call's own, with room behind them; a copy into the midst of such words, inside a fence. No program is named here. -/
namespace Go.Proofs.YtmcfciifjgdgoaaGreatDoor
open Go.RowKit

def rowOf (L : List Nat) (sp : List Value) : Array Value := (numCells .u32 L ++ sp).toArray
theorem rowOf_get {L : List Nat} {sp : List Value} {j : Nat} (h : j < L.length) : (rowOf L sp)[j]? = some (.int .u32 ((L.getD j 0 : Nat) : Int)) := by
  unfold rowOf
  rw [List.getElem?_toArray, List.getElem?_append_left (by simpa [numCells] using h)]
  exact numCells_get _ _ _ h
theorem rowOf_set {L : List Nat} {sp : List Value} {j v : Nat} (h : j < L.length) : (rowOf L sp).setIfInBounds j (.int .u32 ((v : Nat) : Int)) = rowOf (L.set j v) sp := by
  unfold rowOf
  rw [List.setIfInBounds_toArray, List.set_append_left _ _ (by simpa [numCells] using h), numCells_set]
theorem OwnNums.row {w0 w : World} {e : TypeId} {g c : Nat} {L : List Nat} (h : OwnNums .u32 w0 w e (some ⟨g, 0, none⟩) c L) : ∃ sp, Blk w g e (rowOf L sp) ∧ w0.heap.size ≤ g ∧ L.length + sp.length = c ∧ c ≤ 9223372036854775807 := by
  rcases h.2 with ⟨h1, _⟩ | ⟨g', cap, cur, hv, hb, hh, hnc, hcm, hs, ht⟩
  · simp at h1
  · simp only [Value.slice.injEq, Option.some.injEq, Addr.mk.injEq] at hv
    obtain ⟨⟨rfl, _⟩, _, rfl⟩ := hv
    rw [Nat.mul_one] at hs ht
    refine ⟨cur.toList.drop L.length, ?_, hb, ?_, by simpa [maxLen] using hcm⟩
    · unfold rowOf Blk
      rw [← ht, List.take_append_drop, hh]
    · have h9 : cur.toList.length = c := by simp [hs]
      rw [List.length_drop, h9]; omega
theorem OwnNums.of_row {w0 w : World} {e : TypeId} {g c : Nat} {L : List Nat} {sp : List Value} (h : Blk w g e (rowOf L sp)) (hg : w0.heap.size ≤ g) (hc : L.length + sp.length = c) (hm : c ≤ 9223372036854775807) : OwnNums .u32 w0 w e (some ⟨g, 0, none⟩) c L :=
  ⟨by simp [numCells], .inr ⟨g, c, rowOf L sp, rfl, hg, h, by omega, by simpa [maxLen] using hm, by simp [rowOf, numCells]; omega, by simp [rowOf, numCells]⟩⟩

theorem wpListIn_copyW {F : Fence} {dp : Nat} {P : Program} {ops : Array Oper} {rest : List Oper} {o : Oper} {a : Act} {Q : Exit → Act → World → Prop} (w : World) (hgd : o.guard = none) (d s : Operand) (t e : TypeId)
    (ho : o.op = .call { callee := .builtin .copy, args := #[d, s], argTypes := #[t, t] }) (ht : P.underlying t = some (.slice e)) (hsz : (P.info? e).map (·.size) = some 1)
    (H i m c : Nat) (pre X post : List Nat) (sp : List Value) (hd : a.eval d = .slice (some ⟨H, i, none⟩) m c) (hB : Blk w H e (rowOf (pre ++ (X ++ post)) sp)) (hi : pre.length = i) (hX : X.length = m) (hm0 : 0 < m)
    (A2 : Option Addr) (c2 : Nat) (S : List Nat) (hs : a.eval s = .slice A2 S.length c2) (hS : NumsAt .u32 w w.heap.size A2 S) (hle : m ≤ S.length)
    (h : ∀ w', Hid (Blk w' H e (rowOf (pre ++ (S.take m ++ post)) sp)) → Hid (But H w w') → wpListIn F dp P ops Q rest (a.put o.dst (.int .i64 ((m : Nat) : Int))) w') : wpListIn F dp P ops Q (o :: rest) a w := by
  obtain ⟨ad, rfl, _, hc⟩ := hS (by omega)
  have hl : (S.take m).length = m := by rw [List.length_take]; omega
  have hr := run_copy_row P w t t o.type e H i m c ad S.length c2 (rowOf (pre ++ (X ++ post)) sp) e (numCells .u32 (S.take m)) ht hsz hB (by rw [numCells_length, hl]; exact (Nat.min_eq_right hle).symm) (fun j v hv => by
    have hj : j < m := by
      have := (List.getElem?_eq_some_iff.1 hv).1
      rw [numCells_length, hl] at this
      exact this
    rw [numCells_get _ _ _ (by rw [hl]; exact hj)] at hv
    rw [← Option.some.inj hv, hc j (by omega)]
    simp [List.getD_eq_getElem?_getD, hj]) (by simp [rowOf, numCells]; omega) (fun v hv => by obtain ⟨_, _, rfl⟩ := List.mem_map.1 hv; rfl)
  have e1 : ((rowOf (pre ++ (X ++ post)) sp).toList.take i ++ numCells .u32 (S.take m) ++ (rowOf (pre ++ (X ++ post)) sp).toList.drop (i + (numCells .u32 (S.take m)).length)).toArray = rowOf (pre ++ (S.take m ++ post)) sp := by
    subst hi
    rw [numCells_length, hl]
    subst hX
    unfold rowOf
    simp only [numCells_append, List.append_assoc]
    congr 1
    have f1 : (numCells .u32 pre).length = pre.length := numCells_length _ _
    have f2 : (numCells .u32 X).length = X.length := numCells_length _ _
    rw [← f1, List.take_left, List.drop_append, f1, Nat.add_sub_cancel_left, List.drop_of_length_le (by omega), ← f2, List.drop_append, List.drop_length]
    simp
  rw [e1, numCells_length, hl] at hr
  refine wpListIn_plain hgd fun K hK => ?_
  unfold Oper.wpIn
  refine ⟨?_, ?_⟩
  · simp [Oper.about, ho, resolve, Target.leads, Sem.run_pure]
  · rw [Oper.semAt_plain F _ _ (by rw [ho]; intro c hc'; cases hc')]
    simp [execOp, ho, resolve, invoke, builtin, hd, hs, hr, Result.andThen]
    refine hK _ _ (h _ (hid (setRow_heap w H _ _ e (0, 0) hB)) (hid ?_))
    exact ⟨rfl, rfl, rfl, by simp [World.setRow], fun k _ hk => setRow_other w H k _ hk⟩
end Go.Proofs.YtmcfciifjgdgoaaGreatDoor
end

section
/- A region that draws its order, within a round of a loop over an iterator, walked once for all its orders. No program is named here. -/
namespace Go.Proofs.YtmcfciifjgdgoaaGreatDoor
open Go.RowKit

theorem rowsIn_of {P : Program} {row : String} {args : Array Value} {w : World} {R : Value → World → Prop} {dp : Nat} (h : Rows P row args w R) : RowsIn Fence.wide dp P row args w R := fun c cs _ =>
  let ⟨v, w', r, s⟩ := h c cs
  ⟨v, w', r, stepsIn_wide.2 s⟩
theorem oper_in {P : Program} {o : Oper} {a : Act} {w : World} {K : Act → World → Prop} {Q : Exit → Act → World → Prop} {dp : Nat} (h : o.wp P a w K Q) : o.wpIn Fence.wide dp P a w K Q := by
  unfold Oper.wpIn
  refine ⟨fun _ _ => trivial, ?_⟩
  rw [show (o.semAt Fence.wide.round a.eval) = execOp a.eval o by simp [Oper.semAt]]
  unfold Oper.wp at h
  generalize (execOp a.eval o).run P w = r at *
  have hn : ∀ {p : Prop}, (Fence.wide.depth.isSome = true → p) := fun h => by simp [Fence.wide] at h
  cases r with
  | ok x w' =>
    cases x with
    | enter f args => exact ⟨hn, callsIn_wide.2 h⟩
    | row row args => exact ⟨hn, rowsIn_of h⟩
    | _ => first | exact h | exact h.elim
  | halt x w' => cases x <;> first | exact h | exact h.elim

section
variable {P : Program} {ops : Array Oper} {Q : Exit → Act → World → Prop} {D : List Tmp} {Al : List Nat} {φ : Nat → Value → World → Prop} {a0 : Act} {w0 : World} {n dp : Nat}
theorem wpAnyIn_of_seq {md : Region.Mode} {Q' : Exit → Act → World → Prop} : ∀ (l : List Oper) (k : Nat) (listed : Array Bool) (a : Act) (w : World), (∀ j, l[j]? = ops[k + j]?) →
    Region.seqB md ops l.length k listed = true → wpListIn Fence.wide dp P ops Q' l a w → wpAnyIn Fence.wide dp P md ops Q' l.length listed a w
  | [], _, _, _, _, _, hB, h => ⟨by simpa [Region.seqB] using hB, h⟩
  | o :: l, k, listed, a, w, hl, hB, h => by
    have h0 : ops[k]? = some o := by simpa using (hl 0).symm
    simp only [List.length_cons, Region.seqB, Bool.and_eq_true, decide_eq_true_eq] at hB
    refine ⟨fun h1 => (by rw [hB.1] at h1; cases h1), fun i hi => ?_⟩
    rw [hB.1] at hi
    have hik : i = k := by simpa using hi
    subst hik
    have hw : wpOpIn Fence.wide dp P ops Q' i (wpListIn Fence.wide dp P ops Q' l) a w := by unfold wpOpIn; simp only [h0]; exact h
    exact wpOpIn_mono (fun a' w' h' => wpAnyIn_of_seq l (i + 1) _ a' w' (fun j => by have := hl (j + 1); simpa [Nat.add_assoc, Nat.add_comm 1 j] using this) hB.2 h') hw
theorem wpAnyIn_facts (hO : FactsOk ops n a0.tmps.size D) (hm : ∀ i v w w', φ i v w → Grew w w' → φ i v w')
    (hstep : ∀ i o, i < n → ops[i]? = some o → StepOk P Q D Al φ a0 w0 i o)
    (hend : ∀ a w, Grew w0 w → SameBut D a0 a → (∀ i, i < n → φ i (slotOf D i a) w) → (∀ i, i < n → Al.contains i = true → IsNew (slotOf D i a) w0 w) → (∀ i j, i < n → j < n → i ≠ j → Al.contains i = true → Al.contains j = true → slotOf D i a ≠ slotOf D j a) → wpListIn Fence.wide dp P ops Q (ops.toList.drop n) a w) :
    ∀ (k : Nat) (listed : Array Bool) (a : Act) (w : World), listed.size = ops.size → (∀ j, n ≤ j → j < ops.size → listed.getD j true = false) → leftN listed n = k → Closed ops listed →
      FactsAt ops D Al φ a0 w0 n listed a w → wpAnyIn Fence.wide dp P .any ops Q (k + (ops.size - n)) listed a w := by
  intro k
  induction k with
  | zero =>
    intro listed a w hs ht hk _ h
    have hall := leftN_zero n hk
    have e : listed = ((List.range ops.size).map fun i => decide (i < n)).toArray := by
      apply Array.ext (by simp [hs])
      intro j h1 h2
      rcases Nat.lt_or_ge j n with hlt | hge
      · have := hall j hlt
        simp [h1] at this
        simp [this, hlt]
      · have := ht j hge (by omega)
        simp [h1] at this
        simp [this]; omega
    have hl : (ops.toList.drop n).length = ops.size - n := by simp
    rw [Nat.zero_add, ← hl]
    refine wpAnyIn_of_seq (ops.toList.drop n) n listed a w (fun j => by simp) ?_ ?_
    · rw [hl, e]; exact hO.seq
    · have hl : ∀ i, i < n → listed.getD i false = true := fun i hi => by
        rw [← getD_flip (by have := hO.le; omega)]
        exact hall i hi
      exact hend a w h.grew h.same (fun i hi => h.fact i hi (hl i hi)) (fun i hi hA => h.made i hi hA (hl i hi)) (fun i j hi hj hij hA hB => h.parted i j hi hj hij hA hB (hl i hi) (hl j hj))
  | succ k ih =>
    intro listed a w hs ht hk hcl h
    obtain ⟨i0, hi0, hl0, hless⟩ := leftN_least n (by omega : 0 < leftN listed n)
    have hfalse : listed.getD i0 false = false := by rw [← getD_flip (by have := hO.le; omega)]; exact hl0
    rw [Nat.succ_add]
    refine ⟨fun hr => ?_, fun i hi => ?_⟩
    · exfalso
      obtain ⟨o, d, ho, _⟩ := hO.dst i0 hi0
      have : i0 ∈ Region.ready .any ops listed := mem_ready.2 ⟨hl0, o, ho, fun e he hb => by
        have hlt := hO.back i0 o hi0 ho e he hb
        rw [← getD_flip (by have := hO.le; omega)]
        exact hless _ hlt⟩
      rw [hr] at this
      cases this
    · obtain ⟨hli, o, ho, hdep⟩ := mem_ready.1 hi
      have hin : i < n := by
        rcases Nat.lt_or_ge i n with h1 | h1
        · exact h1
        · exfalso
          have := hcl.reach 4 i i0 o ho hdep (hO.phase i o h1 ho i0 hi0)
          rw [hfalse] at this
          cases this
      obtain ⟨o', d, ho', hd, hdd, hdN, hdD⟩ := hO.dst i hin
      obtain rfl : o = o' := Option.some.inj (ho.symm.trans ho')
      have hA : Ahead D φ a w o.after.toList := ahead_of _ (fun e he hb => by
        have he' : e ∈ o.after := by simpa using he
        exact h.fact e.on (Nat.lt_trans (hO.back i o hin ho e he' hb) hin) (hdep e he' hb))
      have hst := hstep i o hin ho a w h.grew h.same hA
      have hs' : (listed.setIfInBounds i true).size = ops.size := by simpa using hs
      have ht' : ∀ j, n ≤ j → j < ops.size → (listed.setIfInBounds i true).getD j true = false := fun j h1 h2 => by
        rw [getD_set_ne true (by omega)]; exact ht j h1 h2
      have hcl' : Closed ops (listed.setIfInBounds i true) := fun j oj hj hoj e he hb => by
        by_cases hij : i = j
        · subst hij
          obtain rfl : o = oj := Option.some.inj (ho.symm.trans hoj)
          exact getD_set_true (hdep e he hb)
        · rw [getD_set_ne false hij] at hj
          exact getD_set_true (hcl j oj hj hoj e he hb)
      have hk' : leftN (listed.setIfInBounds i true) n = k := by
        have := leftN_set hli n hin
        omega
      have hwd : wantedD D o a = Region.wanted o (yielded ops a.tmps) := by
        unfold wantedD Region.wanted
        cases hgd : o.guard with
        | none => rfl
        | some g =>
          obtain ⟨g, b⟩ := g
          obtain ⟨og, dg, hog, hdg, hDg, hNg, _⟩ := hO.dst g (hO.guard i o _ hin ho hgd)
          have hsz : dg < a.tmps.size := by rw [h.same.size]; exact hNg
          simp only [yielded, hog, hdg, slotOf, Act.eval, hDg, Option.bind_some]
          rw [Array.getElem?_eq_getElem hsz]
          have : a.tmps.getD dg undef = a.tmps[dg] := by simp [hsz]
          rw [this]
          unfold isBool
          cases a.tmps[dg] <;> simp
      rw [hwd] at hst
      unfold wpOpIn
      simp only [ho]
      split
      · rename_i hw
        rw [if_pos hw] at hst
        refine oper_in (Oper.wp_mono (fun a' w' h' => ?_) hst)
        obtain ⟨v, rfl, hg, hv, hn⟩ := h'
        rw [hd]
        exact ih _ _ _ hs' ht' hk' hcl' (h.step hO hm hin hdd hdN hdD hg hv hn)
      · rename_i hw
        rw [if_neg hw] at hst
        refine ⟨fun _ _ => trivial, ?_⟩
        rw [hd]
        exact ih _ _ _ hs' ht' hk' hcl' (h.step hO hm hin hdd hdN hdD (Grew.refl _) hst.1 (fun h => by rw [hst.2] at h; cases h))

/-- One walk for all orders, within a round. -/
theorem wpIn_region_facts {id l : Nat} (w : World) (n : Nat) (D : List Tmp) (Al : List Nat) (φ : Nat → Value → World → Prop) (hf : P.follows .mixedOrders = true) (hnd : noDefer ops = true) (hB : factsB ops n a0.tmps.size D = true) (hg : Grew w0 w) (hm : ∀ i v w w', φ i v w → Grew w w' → φ i v w')
    (hstep : StepAll P Q D Al φ a0 w0 0 (ops.toList.take n))
    (hend : ∀ a w, Grew w0 w → SameBut D a0 a → (∀ i, i < n → φ i (slotOf D i a) w) → (∀ i, i < n → Al.contains i = true → IsNew (slotOf D i a) w0 w) → (∀ i j, i < n → j < n → i ≠ j → Al.contains i = true → Al.contains j = true → slotOf D i a ≠ slotOf D j a) → wpListIn Fence.wide dp P ops Q (ops.toList.drop n) a w) :
    (Code.region id ops true).wpIn (Fence.wide.inRound l) dp P Q a0 w := by
  have hO := factsB_ok hB
  refine region_round hf hnd ?_
  have hstep' : ∀ i o, i < n → ops[i]? = some o → StepOk P Q D Al φ a0 w0 i o := fun i o hi ho => by
    have := StepAll.get _ 0 hstep i o (by rw [List.getElem?_take_of_lt hi]; simpa using ho)
    rwa [Nat.zero_add] at this
  have h := wpAnyIn_facts (dp := dp) hO hm hstep' hend n (Array.replicate ops.size false) a0 w.drew (by simp) (fun j _ h2 => by simp [h2]) (leftN_none _ _ hO.le) (fun j o hj ho => by
    simp [show j < ops.size from (Array.getElem?_eq_some_iff.1 ho).1] at hj) ⟨hg.drew, ⟨rfl, rfl, fun _ _ => rfl⟩, fun i hi hl => by
    simp [show i < ops.size by have := hO.le; omega] at hl, fun i hi _ hl => by
    simp [show i < ops.size by have := hO.le; omega] at hl, fun i j hi _ _ _ _ hl _ => by
    simp [show i < ops.size by have := hO.le; omega] at hl⟩
  have e : n + (ops.size - n) = ops.size := by have := hO.le; omega
  rw [e] at h
  exact h
end
end Go.Proofs.YtmcfciifjgdgoaaGreatDoor
end

section
/- A range over a function whose rounds come in a known order: each round may rely on what has come before it. Every round ends at its end. No program is named here. -/
namespace Go.Proofs.YtmcfciifjgdgoaaGreatDoor
open Go.RowKit

/-- What an iterator owes: it hands on only what is due ('X'), and ends when all has come ('S'); whatever is kept between the rounds implies 'I'. -/
def SeqX {α : Type} (n : Nat) (P : Program) (gf : Nat) (lb : Array Value) (encs : α → Array Value) (X : List α → α → Prop) (S : List α → Prop) (I : List α → World → Prop) : Prop :=
  ∀ (l : Nat) (J : List α → World → Prop) (W : World), (∀ pre W', J pre W' → I pre W') →
    (∀ pre x W1, J pre W1 → X pre x → YieldAt Fence.wide (n - 1) P l (encs x) W1 fun e W' => e = .returned (.bool true) ∧ J (pre ++ [x]) W') →
    J [] W → CallsIn Fence.wide n P gf (#[.func (.yield l) #[] #[]] ++ lb) W fun e W' => (∃ v, e = .returned v) ∧ ∃ xs, S xs ∧ J xs W'

/-- How a round may end: at its end; what is no cells from 'b' on is as it was, and what is kept is kept. -/
def RoundPost {α : Type} (b : Nat) (I : List α → World → Prop) (xs : List α) (W : World) (e : Exit) (_ : Act) (W' : World) : Prop := e = .normal ∧ KeepsFrom b W W' ∧ I xs W'

theorem wpIn_rangeX {α : Type} {dp : Nat} {P : Program} {g : Operand} {ps : Array Tmp} {assign body : Code} {Q : Exit → Act → World → Prop} {a : Act} {w : World} {gf : Nat} {lb : Array Value}
    (hg : a.eval g = .func (.func gf) #[] lb) (eg : ∀ args w, (callFunc gf args).run P w = .ok (.enter gf args) w) {encs : α → Array Value} {X : List α → α → Prop} {S : List α → Prop}
    (I : List α → World → Prop) (hI : OwnFrom w.heap.size I) (h0 : I [] w) (hps : ∀ x, (encs x).size = ps.size) (hseq : SeqX (dp - 1) P gf lb encs X S I) (a₁ : α → Act)
    (hassign : ∀ (l : Nat) (x : α) (W : World) (K : Act → World → Prop), K (a₁ x) W →
      assign.wpIn (Fence.wide.inRound l) (dp - 1 - 1) P (Exit.then K (fun _ _ _ => False)) { tmps := (ps.zip (encs x)).foldl (fun t (p, v) => t.setIfInBounds p v) a.tmps, defers := [] } W)
    (hbody : ∀ (l : Nat) (pre : List α) (x : α) (W : World), I pre W → X pre x → body.wpIn (Fence.wide.inRound l) (dp - 1 - 1) P (RoundPost w.heap.size I (pre ++ [x]) W) (a₁ x) W)
    (hdone : ∀ (D : Nat) (xs : List α) (W : World), w.heap.size ≤ D → S xs → I xs W → W.heap[D]? = some (.deferred (some [])) → Q .normal { a with defers := { target := .collected D, args := #[] } :: a.defers } W) :
    (Code.rangeFunc g ps assign body).wpIn Fence.wide dp P Q a w := by
  have hnd : ∀ {p : Prop}, (Fence.wide.depth.isSome = true → p) := fun h => by simp [Fence.wide] at h
  refine wpIn_rangeFunc fun fn _ => ?_
  -- the loop's record, as it stands at any time
  obtain ⟨rc, hrc⟩ : ∃ rc : LoopState → Loop, rc = fun st => { state := st, pending := none, fn := fn, tmps := a.tmps, params := ps, assign := assign, body := body, defers := w.heap.size } := ⟨_, rfl⟩
  obtain ⟨V, hV⟩ : ∃ V, V = (w.alloc (.deferred (some []))).alloc (.loop (rc .ready)) := ⟨_, rfl⟩
  have vD : V.heap[w.heap.size]? = some (.deferred (some [])) := by
    rw [hV]
    exact (Below.heap_alloc _ _ _ (by simp)).trans (World.alloc_heap_new w _)
  have vL : V.heap[w.heap.size + 1]? = some (.loop (rc .ready)) := by
    rw [hV]
    have := World.alloc_heap_new (w.alloc (.deferred (some []))) (.loop (rc .ready))
    rwa [World.size_alloc] at this
  have vI : I [] V := by rw [hV]; exact hI.alloc _ (hI.alloc _ h0)
  have hent := run_enterLoop_outer (P := P) (w := w) fn a.tmps ps assign body
  refine ⟨w.heap.size + 1, _, V, { target := .fn (.func gf) lb, args := #[.func (.yield (w.heap.size + 1)) #[] #[]] }, V, gf, #[.func (.yield (w.heap.size + 1)) #[] #[]] ++ lb, V, by rw [hV, hrc]; exact hent, ?_, fun _ _ => trivial, ?_, hnd, ?_⟩
  · simp only [resolve, hg]; simp [go_sem]
  · simp [invoke, go_sem, eg]
  refine (hseq (w.heap.size + 1) (fun pre W => I pre W ∧ W.heap[w.heap.size + 1]? = some (.loop (rc .ready)) ∧ W.heap[w.heap.size]? = some (.deferred (some []))) V (fun _ _ h => h.1) ?_ ⟨vI, vL, vD⟩).mono ?_
  · rintro pre x W ⟨hi, hl, hk⟩ hX
    have hy := run_yield (P := P) (args := encs x) hl (by rw [hrc]; exact hps x)
    rw [hrc] at hy
    refine ⟨fn, _, assign, body, hy, roundIn_of_wpIn trivial (hassign _ x W _ ?_)⟩
    refine ⟨_, run_beginRound hl (by rw [hrc]), ?_⟩
    have hlt : w.heap.size + 1 < W.heap.size := (Array.getElem?_eq_some_iff.1 hl).1
    have bL := World.putObj_heap_same (w := W) (o := .loop { rc .ready with state := .busy }) hlt
    have bD : (W.putObj (w.heap.size + 1) (.loop { rc .ready with state := .busy })).heap[w.heap.size]? = some (.deferred (some [])) := (World.putObj_heap_other (by omega)).trans hk
    refine wpIn_mono (hbody _ pre x _ (hI.putObj _ hi (by omega) hl rfl) hX) ?_
    rintro e a3 W3 ⟨rfl, hk3, hi3⟩
    have cL := hk3.same _ _ (by omega) bL rfl
    have cD := hk3.same _ _ (Nat.le_refl _) bD rfl
    have hr := run_endRound (P := P) none cL
    refine ⟨_, _, hr, rfl, hI.putObj _ hi3 (by omega) cL rfl, ?_, (World.putObj_heap_other (by omega)).trans cD⟩
    rw [World.putObj_heap_same (Array.getElem?_eq_some_iff.1 cL).1, hrc]
    rfl
  · rintro e W2 ⟨⟨v, rfl⟩, xs, hS, hi, hl, hk⟩
    have hr := run_endLoop (P := P) hl (by rw [hrc]; simp)
    rw [hrc] at hr
    exact ⟨none, _, hr, hdone _ xs _ (Nat.le_refl _) hS (hI.putObj _ hi (by omega) (by rw [hrc] at hl; exact hl) rfl) ((World.putObj_heap_other (by omega)).trans hk)⟩
end Go.Proofs.YtmcfciifjgdgoaaGreatDoor
end

section
/- slices.Backward over words, each round's place known to the round. -/
namespace Go.Proofs.YtmcfciifjgdgoaaGreatDoor
open Go.RowKit Go.Shelf
attribute [local go_sem] Oper.semAt_some

def anyWord (_ _ : Nat) : Prop := True
/-- The next place is due. -/
def BwX (n : Nat) (pre : List (Nat × Nat)) (x : Nat × Nat) : Prop := x.1 = pre.length ∧ pre.length < n

set_option maxRecDepth 100000 in
set_option maxHeartbeats 2000000 in
theorem back_x (m Bs n c : Nat) (A : Option Addr) (hm : 1 ≤ m) (hn : n ≤ 100000) (I : List (Nat × Nat) → World → Prop) (hR : ∀ pre W, I pre W → BwRd Bs n A c anyWord W) :
    SeqX m Tryz.prog 76 #[.pointer (some ⟨Bs, 0, none⟩)] (bwEnc n) (BwX n) (fun ys => ys.length = n) I := by
  intro l J W hJI hY h0
  have HY := hid hY
  have HI := hid (fun pre W' (h : J pre W') => hR pre W' (hJI pre W' h))
  have hbx := (HI.out _ _ h0).1
  clear hY hJI hR
  refine callsIn_of_wp Tryz.func76 rfl trivial ?_ rfl
  simp only [Tryz.ntmps76, List.size_toArray, List.length_cons, List.length_nil, Nat.reduceAdd, Nat.reduceSub, Array.replicate_succ, Array.replicate_zero, List.push_toArray, List.append_toArray, List.nil_append, List.cons_append]
  gi_wp2
  gi_loopw [3] (fun i wr => ∃ (k : Nat) (pre : List (Nat × Nat)), i = .int .i64 ((k : Int) - 1) ∧ k + pre.length = n ∧ J pre wr)
    (fun i _ => (intOf i + 1).toNat)
  case atStart => exact ⟨n, [], rfl, by simp, h0⟩
  case round =>
    clear h0 hbx
    obtain ⟨k, pre, rfl, hk, hJs⟩ := hrel
    have HRd := hid (HI.out _ _ hJs)
    have hbx := HRd.out.1
    rcases Nat.eq_zero_or_pos k with h0 | h0
    · subst h0
      have HE := hid (show pre.length = n by omega)
      gi_wp2
      go_end0
      exact ⟨⟨_, rfl⟩, pre, HE.out, hJs⟩
    · obtain ⟨q, rfl⟩ : ∃ q, k = q + 1 := ⟨k - 1, by omega⟩
      obtain ⟨ad, v, rfl, hv, _, hc⟩ := HRd.out.2 q (by omega)
      obtain ⟨fn, tmps, assign, body, hy, hRr⟩ := HY.out pre (pre.length, v) wr hJs ⟨rfl, by omega⟩
      have e1 : n - 1 - pre.length = q := by omega
      unfold bwEnc at hy
      dsimp only at hy
      rw [e1, wordOf_eq hv] at hy
      have HL := hid (show q + (pre ++ [(pre.length, v)]).length = n by simp; omega)
      have hqn : (q : Int) < (n : Int) := by omega
      clear e1 hk h0
      gi_wp2
      refine hRr.mono ?_
      rintro e W3 ⟨rfl, hJ3⟩
      gi_wp2
      go_roundw
      case rel => exact ⟨q, _, by simp, HL.out, hJ3⟩
      case measure => simp [intOf]
end Go.Proofs.YtmcfciifjgdgoaaGreatDoor
end

/- A region that draws its order, walked once for all its orders: a fact for each operation, which holds from then on however the world grows; what the operations 'Al' make lies apart. No program is named here. -/
import Derived.Test.YtilikjfjbnabfaaGreatDoorBase
import Derived.StillTail
namespace Go.Proofs.YtilikjfjbnabfaaGreatDoor
open Go.RowKit

/-- Outside of the slots 'D' nothing has changed. -/
structure SameBut (D : List Tmp) (a0 a : Act) : Prop where
  defers : a.defers = a0.defers
  size : a.tmps.size = a0.tmps.size
  rest : ∀ t, t ∉ D → a.tmps[t]? = a0.tmps[t]?
def dstOf (ops : Array Oper) (i : Nat) : Tmp := ((ops[i]?).bind (·.dst)).getD 0
/-- What the operation 'i' has given. -/
def slotOf (D : List Tmp) (i : Nat) (a : Act) : Value := a.eval (.tmp (D.getD i 0))
def isBool (v : Value) (b : Bool) : Bool := match v with
  | .bool c => c == b
  | _ => false
/-- Is the operation run at all? -/
def wantedD (D : List Tmp) (o : Oper) (a : Act) : Bool := match o.guard with
  | none => true
  | some (g, b) => isBool (slotOf D g a) b
/-- The facts of what stands ahead. -/
def Ahead (D : List Tmp) (φ : Nat → Value → World → Prop) (a : Act) (w : World) : List Edge → Prop
  | [] => True
  | e :: r => (Region.binds .any e = true → φ e.on (slotOf D e.on a) w) ∧ Ahead D φ a w r
theorem ahead_of {D : List Tmp} {φ : Nat → Value → World → Prop} {a : Act} {w : World} : ∀ (l : List Edge), (∀ e ∈ l, Region.binds .any e = true → φ e.on (slotOf D e.on a) w) → Ahead D φ a w l
  | [], _ => trivial
  | e :: r, h => ⟨h e (by simp), ahead_of r (fun x hx => h x (by simp [hx]))⟩
/-- The head of a block that is new since 'w'. -/
def IsNew (v : Value) (w w' : World) : Prop := ∃ g, v = .pointer (some ⟨g, 0, none⟩) ∧ w.heap.size ≤ g ∧ g < w'.heap.size
/-- One operation's end: its slot is written, the world has only grown, and the fact holds. -/
def Gives (F : Value → World → Prop) (al : Bool) (dst : Option Tmp) (a : Act) (w : World) (a' : Act) (w' : World) : Prop := ∃ v, a' = a.put dst v ∧ Grew w w' ∧ F v w' ∧ (al = true → IsNew v w w')
theorem Gives.of {F : Value → World → Prop} {d : Tmp} {a : Act} {w w' : World} {v : Value} (hg : Grew w w') (h : F v w') : Gives F false (some d) a w { tmps := a.tmps.setIfInBounds d v, defers := a.defers } w' := ⟨v, rfl, hg, h, fun h => by cases h⟩
theorem Gives.of' {F : Value → World → Prop} {al : Bool} {d : Tmp} {a : Act} {w w' : World} {v : Value} (hal : al = false) (hg : Grew w w') (h : F v w') : Gives F al (some d) a w { tmps := a.tmps.setIfInBounds d v, defers := a.defers } w' := ⟨v, rfl, hg, h, fun h => by rw [hal] at h; cases h⟩
theorem Gives.al {F : Value → World → Prop} {al : Bool} {d : Tmp} {a : Act} {w w' : World} {g : Nat} (hg : Grew w w') (h1 : w.heap.size ≤ g) (h2 : g < w'.heap.size) (h : F (.pointer (some ⟨g, 0, none⟩)) w') : Gives F al (some d) a w { tmps := a.tmps.setIfInBounds d (.pointer (some ⟨g, 0, none⟩)), defers := a.defers } w' := ⟨_, rfl, hg, h, fun _ => ⟨g, rfl, h1, h2⟩⟩
theorem SameBut.eval {D : List Tmp} {a0 a : Act} (h : SameBut D a0 a) (t : Tmp) (ht : D.contains t = false) {v : Value} (hv : a0.eval (.tmp t) = v) : a.eval (.tmp t) = v := by
  rw [← hv]
  have := h.rest t (by simpa using ht)
  simp only [Act.eval, Array.getD_eq_getD_getElem?, this]
def StepOk (P : Program) (Q : Exit → Act → World → Prop) (D : List Tmp) (Al : List Nat) (φ : Nat → Value → World → Prop) (a0 : Act) (w0 : World) (i : Nat) (o : Oper) : Prop :=
  ∀ a w, Grew w0 w → SameBut D a0 a → Ahead D φ a w o.after.toList →
    if wantedD D o a = true then o.wp P a w (Gives (φ i) (Al.contains i) o.dst a w) Q else φ i undef w ∧ Al.contains i = false
/-- Does 'i' wait for 'j', at first or at last? -/
def reachB (ops : Array Oper) : Nat → Nat → Nat → Bool
  | 0, _, _ => false
  | f + 1, i, j => ((ops[i]?).map fun o => o.after.toList.any fun e => Region.binds .any e && (decide (e.on = j) || reachB ops f e.on j)).getD false
/-- Whoever is listed has those listed for whom he waits. -/
def Closed (ops : Array Oper) (listed : Array Bool) : Prop := ∀ j o, listed.getD j false = true → ops[j]? = some o → ∀ e ∈ o.after, Region.binds .any e = true → listed.getD e.on false = true
theorem Closed.reach {ops : Array Oper} {listed : Array Bool} (hc : Closed ops listed) : ∀ (f i j : Nat) (o : Oper), ops[i]? = some o → (∀ e ∈ o.after, Region.binds .any e = true → listed.getD e.on false = true) → reachB ops f i j = true → listed.getD j false = true
  | 0, _, _, _, _, _, h => by simp [reachB] at h
  | f + 1, i, j, o, ho, hd, h => by
    unfold reachB at h
    rw [ho] at h
    obtain ⟨e, he, h2⟩ := List.any_eq_true.1 h
    simp only [Bool.and_eq_true, Bool.or_eq_true, decide_eq_true_eq] at h2
    have hl := hd e (by simpa using he) h2.1
    rcases h2.2 with h3 | h3
    · rw [← h3]; exact hl
    · cases hoe : ops[e.on]? with
      | none =>
        cases f with
        | zero => simp [reachB] at h3
        | succ f => unfold reachB at h3; rw [hoe] at h3; simp at h3
      | some o2 => exact Closed.reach hc f e.on j o2 hoe (hc e.on o2 hl hoe) h3
/-- What is asked of the region's form: the first 'n' operations write slots of their own, wait for earlier ones alone, and all others wait for all of them and stand in one order. -/
def factsB (ops : Array Oper) (n N : Nat) (D : List Tmp) : Bool :=
  decide (n ≤ ops.size) &&
  ((List.range n).all fun i => ((ops[i]?).bind (·.dst)).isSome && decide (dstOf ops i < N) && decide (dstOf ops i = D.getD i 0) && (((ops[i]?).map fun o => (o.after.all fun e => !Region.binds .any e || decide (e.on < i)) && (o.guard.all fun g => decide (g.1 < n))).getD false)) && decide (D.length = n) &&
  ((List.range n).all fun i => (List.range n).all fun j => decide (i = j) || decide (dstOf ops i ≠ dstOf ops j)) &&
  ((List.range ops.size).all fun i => decide (i < n) || ((List.range n).all fun j => reachB ops 4 i j)) &&
  Region.seqB .any ops (ops.size - n) n ((List.range ops.size).map fun i => decide (i < n)).toArray
structure FactsOk (ops : Array Oper) (n N : Nat) (D : List Tmp) : Prop where
  le : n ≤ ops.size
  dst : ∀ i, i < n → ∃ o d, ops[i]? = some o ∧ o.dst = some d ∧ D.getD i 0 = d ∧ d < N ∧ d ∈ D
  guard : ∀ i o g, i < n → ops[i]? = some o → o.guard = some g → g.1 < n
  back : ∀ i o, i < n → ops[i]? = some o → ∀ e ∈ o.after, Region.binds .any e = true → e.on < i
  apart : ∀ i j, i < n → j < n → i ≠ j → D.getD i 0 ≠ D.getD j 0
  phase : ∀ i o, n ≤ i → ops[i]? = some o → ∀ j, j < n → reachB ops 4 i j = true
  seq : Region.seqB .any ops (ops.size - n) n ((List.range ops.size).map fun i => decide (i < n)).toArray = true
theorem factsB_ok {ops : Array Oper} {n N : Nat} {D : List Tmp} (h : factsB ops n N D = true) : FactsOk ops n N D := by
  unfold factsB at h
  simp only [Bool.and_eq_true, decide_eq_true_eq, List.all_eq_true, List.mem_range, Bool.or_eq_true] at h
  obtain ⟨⟨⟨⟨⟨h1, h2⟩, hl⟩, h3⟩, h4⟩, h5⟩ := h
  have h2' : ∀ i, i < n → ∃ o d, ops[i]? = some o ∧ o.dst = some d ∧ D.getD i 0 = d ∧ dstOf ops i = d ∧ d < N ∧ d ∈ D ∧ (∀ e ∈ o.after, Region.binds .any e = true → e.on < i) ∧ (∀ g, o.guard = some g → g.1 < n) := by
    intro i hi
    obtain ⟨⟨⟨a1, a2⟩, a3⟩, a4⟩ := h2 i hi
    obtain ⟨o, ho⟩ : ∃ o, ops[i]? = some o := ⟨_, Array.getElem?_eq_getElem (by omega)⟩
    rw [ho] at a1 a4
    obtain ⟨d, hd⟩ := Option.isSome_iff_exists.1 a1
    have hd' : o.dst = some d := hd
    have e : dstOf ops i = d := by simp [dstOf, ho, hd']
    have a4' : ((o.after.all fun e => !Region.binds .any e || decide (e.on < i)) && (o.guard.all fun g => decide (g.1 < n))) = true := a4
    rw [Bool.and_eq_true] at a4'
    refine ⟨o, d, ho, hd', by rw [← a3, e], e, by rw [← e]; exact a2, ?_, fun x hx hb => ?_, fun g hg => ?_⟩
    · rw [← e, a3]
      have : i < D.length := by omega
      rw [List.getD_eq_getElem?_getD, List.getElem?_eq_getElem this]
      exact List.getElem_mem this
    · have := (Array.all_eq_true_iff_forall_mem.1 a4'.1) x hx
      simpa [hb] using this
    · have := a4'.2
      rw [hg] at this
      simpa using this
  refine ⟨h1, fun i hi => ?_, fun i o g hi ho hg => ?_, fun i o hi ho e he hb => ?_, fun i j hi hj hne => ?_, fun i o hi ho j hj => ?_, h5⟩
  · obtain ⟨o, d, b1, b2, b3, _, b4, b5, _⟩ := h2' i hi
    exact ⟨o, d, b1, b2, b3, b4, b5⟩
  · obtain ⟨o', d, b1, _, _, _, _, _, _, b6⟩ := h2' i hi
    obtain rfl : o = o' := Option.some.inj (ho.symm.trans b1)
    exact b6 g hg
  · obtain ⟨o', d, b1, _, _, _, _, _, b6, _⟩ := h2' i hi
    obtain rfl : o = o' := Option.some.inj (ho.symm.trans b1)
    exact b6 e he hb
  · obtain ⟨_, _, _, _, c1, c2, _⟩ := h2' i hi
    obtain ⟨_, _, _, _, d1, d2, _⟩ := h2' j hj
    rw [c1, d1]
    rcases h3 i hi j hj with h | h
    · exact absurd h hne
    · rw [c2, d2] at h; exact h
  · have hs : i < ops.size := (Array.getElem?_eq_some_iff.1 ho).1
    rcases h4 i hs with h | h
    · omega
    · exact h j hj

/-- How many of the first 'n' are left. -/
def leftN (listed : Array Bool) : Nat → Nat
  | 0 => 0
  | n + 1 => leftN listed n + if listed.getD n true = false then 1 else 0
theorem leftN_set_ge {listed : Array Bool} {i : Nat} : ∀ (n : Nat), n ≤ i → leftN (listed.setIfInBounds i true) n = leftN listed n
  | 0, _ => rfl
  | n + 1, h => by
    unfold leftN
    rw [leftN_set_ge n (by omega), getD_set_ne true (by omega)]
theorem leftN_set {listed : Array Bool} {i : Nat} (hi : listed.getD i true = false) : ∀ (n : Nat), i < n → leftN listed n = leftN (listed.setIfInBounds i true) n + 1
  | 0, h => by omega
  | n + 1, h => by
    unfold leftN
    rcases Nat.lt_or_ge i n with hlt | hge
    · rw [leftN_set hi n hlt, getD_set_ne true (by omega)]; omega
    · obtain rfl : i = n := by omega
      rw [leftN_set_ge i (Nat.le_refl _), if_pos hi]
      have : (listed.setIfInBounds i true).getD i true = true := by
        rcases Nat.lt_or_ge i listed.size with h1 | h1
        · simp [h1]
        · simp [h1]
      rw [this]; simp
theorem leftN_zero {listed : Array Bool} : ∀ (n : Nat), leftN listed n = 0 → ∀ j, j < n → listed.getD j true = true
  | 0, _, j, h => by omega
  | n + 1, h, j, hj => by
    unfold leftN at h
    rcases Nat.lt_or_ge j n with hlt | hge
    · exact leftN_zero n (by omega) j hlt
    · obtain rfl : j = n := by omega
      cases hv : listed.getD j true
      · rw [if_pos hv] at h; omega
      · rfl
theorem leftN_least {listed : Array Bool} : ∀ (n : Nat), 0 < leftN listed n → ∃ i, i < n ∧ listed.getD i true = false ∧ ∀ j, j < i → listed.getD j true = true
  | 0, h => by simp [leftN] at h
  | n + 1, h => by
    rcases Nat.eq_zero_or_pos (leftN listed n) with h0 | h0
    · unfold leftN at h
      refine ⟨n, by omega, ?_, leftN_zero n h0⟩
      cases hv : listed.getD n true
      · rfl
      · rw [if_neg (by rw [hv]; decide)] at h; omega
    · obtain ⟨i, h1, h2, h3⟩ := leftN_least n h0
      exact ⟨i, by omega, h2, h3⟩
theorem leftN_none (m : Nat) : ∀ (n : Nat), n ≤ m → leftN (Array.replicate m false) n = n
  | 0, _ => rfl
  | n + 1, h => by
    unfold leftN
    rw [leftN_none m n (by omega), if_pos (by simp [show n < m by omega])]
theorem getD_flip {listed : Array Bool} {j : Nat} (hj : j < listed.size) : listed.getD j true = listed.getD j false := by
  simp [hj]

section
variable {P : Program} {ops : Array Oper} {Q : Exit → Act → World → Prop} {D : List Tmp} {Al : List Nat} {φ : Nat → Value → World → Prop} {a0 : Act} {w0 : World} {n : Nat}

structure FactsAt (ops : Array Oper) (D : List Tmp) (Al : List Nat) (φ : Nat → Value → World → Prop) (a0 : Act) (w0 : World) (n : Nat) (listed : Array Bool) (a : Act) (w : World) : Prop where
  grew : Grew w0 w
  same : SameBut D a0 a
  fact : ∀ i, i < n → listed.getD i false = true → φ i (slotOf D i a) w
  made : ∀ i, i < n → Al.contains i = true → listed.getD i false = true → IsNew (slotOf D i a) w0 w
  parted : ∀ i j, i < n → j < n → i ≠ j → Al.contains i = true → Al.contains j = true → listed.getD i false = true → listed.getD j false = true → slotOf D i a ≠ slotOf D j a

theorem FactsAt.step {listed : Array Bool} {a : Act} {w w' : World} {i : Nat} {v : Value} {d : Tmp} (hO : FactsOk ops n a0.tmps.size D) (hm : ∀ i v w w', φ i v w → Grew w w' → φ i v w')
    (h : FactsAt ops D Al φ a0 w0 n listed a w) (hi : i < n) (hd : D.getD i 0 = d) (hdN : d < a0.tmps.size) (hdD : d ∈ D) (hg : Grew w w') (hv : φ i v w') (hn : Al.contains i = true → IsNew v w w') : FactsAt ops D Al φ a0 w0 n (listed.setIfInBounds i true) (a.put (some d) v) w' := by
  have same_i : slotOf D i (a.put (some d) v) = v := by
    unfold slotOf Act.eval
    rw [hd]
    simp [Act.put, h.same.size, hdN]
  have same_j : ∀ j, j < n → i ≠ j → slotOf D j (a.put (some d) v) = slotOf D j a := fun j hj hij => by
    have hne : d ≠ D.getD j 0 := by rw [← hd]; exact hO.apart i j hi hj hij
    unfold slotOf Act.eval
    generalize D.getD j 0 = dj at *
    simp [Act.put, Array.getElem?_setIfInBounds_ne hne]
  have new_j : ∀ j, j < n → Al.contains j = true → listed.getD j false = true → IsNew (slotOf D j a) w0 w' := fun j hj hA hl => by
    obtain ⟨g, h1, h2, h3⟩ := h.made j hj hA hl
    exact ⟨g, h1, h2, Nat.lt_of_lt_of_le h3 hg.below.size⟩
  have apart_j : ∀ j, j < n → Al.contains i = true → Al.contains j = true → listed.getD j false = true → v ≠ slotOf D j a := fun j hj hA hB hl e => by
    obtain ⟨g, h1, h2, h3⟩ := h.made j hj hB hl
    obtain ⟨g', k1, k2, k3⟩ := hn hA
    rw [← e, k1] at h1
    simp only [Value.pointer.injEq, Option.some.injEq, Addr.mk.injEq] at h1
    omega
  refine ⟨h.grew.trans hg, ⟨h.same.defers, ?_, fun t ht => ?_⟩, fun j hj hl => ?_, fun j hj hA hl => ?_, fun j k hj hk hjk hA hB hl hl2 => ?_⟩
  · simp [Act.put, h.same.size]
  · have hne : d ≠ t := by rintro rfl; exact ht hdD
    simp only [Act.put]
    rw [Array.getElem?_setIfInBounds_ne hne]
    exact h.same.rest t ht
  · by_cases hij : i = j
    · subst hij
      rw [same_i]; exact hv
    · rw [same_j j hj hij]
      exact hm j _ _ _ (h.fact j hj (by rwa [getD_set_ne false hij] at hl)) hg
  · by_cases hij : i = j
    · subst hij
      rw [same_i]
      obtain ⟨g, k1, k2, k3⟩ := hn hA
      exact ⟨g, k1, Nat.le_trans h.grew.below.size k2, k3⟩
    · rw [same_j j hj hij]
      exact new_j j hj hA (by rwa [getD_set_ne false hij] at hl)
  · by_cases hij : i = j
    · subst hij
      rw [same_i, same_j k hk hjk]
      exact apart_j k hk hA hB (by rwa [getD_set_ne false hjk] at hl2)
    · rw [same_j j hj hij]
      by_cases hik : i = k
      · subst hik
        rw [same_i]
        exact fun e => apart_j j hj hB hA (by rwa [getD_set_ne false hij] at hl) e.symm
      · rw [same_j k hk hik]
        exact h.parted j k hj hk hjk hA hB (by rwa [getD_set_ne false hij] at hl) (by rwa [getD_set_ne false hik] at hl2)

theorem wpAny_facts (hO : FactsOk ops n a0.tmps.size D) (hm : ∀ i v w w', φ i v w → Grew w w' → φ i v w')
    (hstep : ∀ i o, i < n → ops[i]? = some o → StepOk P Q D Al φ a0 w0 i o)
    (hend : ∀ a w, Grew w0 w → SameBut D a0 a → (∀ i, i < n → φ i (slotOf D i a) w) → (∀ i, i < n → Al.contains i = true → IsNew (slotOf D i a) w0 w) → (∀ i j, i < n → j < n → i ≠ j → Al.contains i = true → Al.contains j = true → slotOf D i a ≠ slotOf D j a) → wpList P ops Q (ops.toList.drop n) a w) :
    ∀ (k : Nat) (listed : Array Bool) (a : Act) (w : World), listed.size = ops.size → (∀ j, n ≤ j → j < ops.size → listed.getD j true = false) → leftN listed n = k → Closed ops listed →
      FactsAt ops D Al φ a0 w0 n listed a w → wpAny P .any ops Q (k + (ops.size - n)) listed a w := by
  intro k
  induction k with
  | zero =>
    intro listed a w hs ht hk _ h
    have hall := leftN_zero n hk
    have e : listed = ((List.range ops.size).map fun i => decide (i < n)).toArray := by
      apply Array.ext (by simp [hs])
      intro j h1 h2
      rcases Nat.lt_or_ge j n with hlt | hge
      · have := hall j hlt
        simp [h1] at this
        simp [this, hlt]
      · have := ht j hge (by omega)
        simp [h1] at this
        simp [this]; omega
    have hl : (ops.toList.drop n).length = ops.size - n := by simp
    rw [Nat.zero_add, ← hl]
    refine wpAny_of_seq (ops.toList.drop n) n listed a w (fun j => by simp) ?_ ?_
    · rw [hl, e]; exact hO.seq
    · have hl : ∀ i, i < n → listed.getD i false = true := fun i hi => by
        rw [← getD_flip (by have := hO.le; omega)]
        exact hall i hi
      exact hend a w h.grew h.same (fun i hi => h.fact i hi (hl i hi)) (fun i hi hA => h.made i hi hA (hl i hi)) (fun i j hi hj hij hA hB => h.parted i j hi hj hij hA hB (hl i hi) (hl j hj))
  | succ k ih =>
    intro listed a w hs ht hk hcl h
    obtain ⟨i0, hi0, hl0, hless⟩ := leftN_least n (by omega : 0 < leftN listed n)
    have hfalse : listed.getD i0 false = false := by rw [← getD_flip (by have := hO.le; omega)]; exact hl0
    rw [Nat.succ_add]
    refine ⟨fun hr => ?_, fun i hi => ?_⟩
    · exfalso
      obtain ⟨o, d, ho, _⟩ := hO.dst i0 hi0
      have : i0 ∈ Region.ready .any ops listed := mem_ready.2 ⟨hl0, o, ho, fun e he hb => by
        have hlt := hO.back i0 o hi0 ho e he hb
        rw [← getD_flip (by have := hO.le; omega)]
        exact hless _ hlt⟩
      rw [hr] at this
      cases this
    · obtain ⟨hli, o, ho, hdep⟩ := mem_ready.1 hi
      have hin : i < n := by
        rcases Nat.lt_or_ge i n with h1 | h1
        · exact h1
        · exfalso
          have := hcl.reach 4 i i0 o ho hdep (hO.phase i o h1 ho i0 hi0)
          rw [hfalse] at this
          cases this
      obtain ⟨o', d, ho', hd, hdd, hdN, hdD⟩ := hO.dst i hin
      obtain rfl : o = o' := Option.some.inj (ho.symm.trans ho')
      have hA : Ahead D φ a w o.after.toList := ahead_of _ (fun e he hb => by
        have he' : e ∈ o.after := by simpa using he
        exact h.fact e.on (Nat.lt_trans (hO.back i o hin ho e he' hb) hin) (hdep e he' hb))
      have hst := hstep i o hin ho a w h.grew h.same hA
      have hs' : (listed.setIfInBounds i true).size = ops.size := by simpa using hs
      have ht' : ∀ j, n ≤ j → j < ops.size → (listed.setIfInBounds i true).getD j true = false := fun j h1 h2 => by
        rw [getD_set_ne true (by omega)]; exact ht j h1 h2
      have hcl' : Closed ops (listed.setIfInBounds i true) := fun j oj hj hoj e he hb => by
        by_cases hij : i = j
        · subst hij
          obtain rfl : o = oj := Option.some.inj (ho.symm.trans hoj)
          exact getD_set_true (hdep e he hb)
        · rw [getD_set_ne false hij] at hj
          exact getD_set_true (hcl j oj hj hoj e he hb)
      have hk' : leftN (listed.setIfInBounds i true) n = k := by
        have := leftN_set hli n hin
        omega
      have hwd : wantedD D o a = Region.wanted o (yielded ops a.tmps) := by
        unfold wantedD Region.wanted
        cases hgd : o.guard with
        | none => rfl
        | some g =>
          obtain ⟨g, b⟩ := g
          obtain ⟨og, dg, hog, hdg, hDg, hNg, _⟩ := hO.dst g (hO.guard i o _ hin ho hgd)
          have hsz : dg < a.tmps.size := by rw [h.same.size]; exact hNg
          simp only [yielded, hog, hdg, slotOf, Act.eval, hDg, Option.bind_some]
          rw [Array.getElem?_eq_getElem hsz]
          have : a.tmps.getD dg undef = a.tmps[dg] := by simp [hsz]
          rw [this]
          unfold isBool
          cases a.tmps[dg] <;> simp
      rw [hwd] at hst
      unfold wpOp
      simp only [ho]
      split
      · rename_i hw
        rw [if_pos hw] at hst
        refine .inl (Oper.wp_mono (fun a' w' h' => ?_) hst)
        obtain ⟨v, rfl, hg, hv, hn⟩ := h'
        rw [hd]
        exact ih _ _ _ hs' ht' hk' hcl' (h.step hO hm hin hdd hdN hdD hg hv hn)
      · rename_i hw
        rw [if_neg hw] at hst
        rw [hd]
        exact ih _ _ _ hs' ht' hk' hcl' (h.step hO hm hin hdd hdN hdD (Grew.refl _) hst.1 (fun h => by rw [hst.2] at h; cases h))

def StepAll (P : Program) (Q : Exit → Act → World → Prop) (D : List Tmp) (Al : List Nat) (φ : Nat → Value → World → Prop) (a0 : Act) (w0 : World) : Nat → List Oper → Prop
  | _, [] => True
  | k, o :: r => StepOk P Q D Al φ a0 w0 k o ∧ StepAll P Q D Al φ a0 w0 (k + 1) r
theorem StepAll.get : ∀ (l : List Oper) (k : Nat), StepAll P Q D Al φ a0 w0 k l → ∀ j o, l[j]? = some o → StepOk P Q D Al φ a0 w0 (k + j) o
  | [], _, _, j, o, h => by simp at h
  | x :: r, k, hs, 0, o, h => by
    obtain rfl : x = o := by simpa using h
    exact hs.1
  | x :: r, k, hs, j + 1, o, h => by
    have := StepAll.get r (k + 1) hs.2 j o (by simpa using h)
    rwa [show k + 1 + j = k + (j + 1) by omega] at this
/-- One walk for all orders. -/
theorem wp_region_facts {id : Nat} (w : World) (n : Nat) (D : List Tmp) (Al : List Nat) (φ : Nat → Value → World → Prop) (hf : P.follows .mixedOrders = true) (hB : factsB ops n a0.tmps.size D = true) (hg : Grew w0 w) (hm : ∀ i v w w', φ i v w → Grew w w' → φ i v w')
    (hstep : StepAll P Q D Al φ a0 w0 0 (ops.toList.take n))
    (hend : ∀ a w, Grew w0 w → SameBut D a0 a → (∀ i, i < n → φ i (slotOf D i a) w) → (∀ i, i < n → Al.contains i = true → IsNew (slotOf D i a) w0 w) → (∀ i j, i < n → j < n → i ≠ j → Al.contains i = true → Al.contains j = true → slotOf D i a ≠ slotOf D j a) → wpList P ops Q (ops.toList.drop n) a w) : (Code.region id ops true).wp P Q a0 w := by
  have hO := factsB_ok hB
  refine wp_region_any hf ?_
  have hstep' : ∀ i o, i < n → ops[i]? = some o → StepOk P Q D Al φ a0 w0 i o := fun i o hi ho => by
    have := StepAll.get _ 0 hstep i o (by rw [List.getElem?_take_of_lt hi]; simpa using ho)
    rwa [Nat.zero_add] at this
  have h := wpAny_facts hO hm hstep' hend n (Array.replicate ops.size false) a0 w.drew (by simp) (fun j _ h2 => by simp [h2]) (leftN_none _ _ hO.le) (fun j o hj ho => by
    simp [show j < ops.size from (Array.getElem?_eq_some_iff.1 ho).1] at hj) ⟨hg.drew, ⟨rfl, rfl, fun _ _ => rfl⟩, fun i hi hl => by
    simp [show i < ops.size by have := hO.le; omega] at hl, fun i hi _ hl => by
    simp [show i < ops.size by have := hO.le; omega] at hl, fun i j hi _ _ _ _ hl _ => by
    simp [show i < ops.size by have := hO.le; omega] at hl⟩
  have e : n + (ops.size - n) = ops.size := by have := hO.le; omega
  rw [e] at h
  exact h
end
/-- An act with slots put. -/
def putAll (f : Tmp → Value) (D : List Tmp) (b : Act) : Act := D.foldl (fun b d => b.put (some d) (f d)) b
theorem putAll_at (f : Tmp → Value) : ∀ (D : List Tmp) (b : Act), (putAll f D b).defers = b.defers ∧ (putAll f D b).tmps.size = b.tmps.size ∧
    ∀ t, (putAll f D b).tmps[t]? = if t ∈ D ∧ t < b.tmps.size then some (f t) else b.tmps[t]?
  | [], b => ⟨rfl, rfl, fun t => by simp [putAll]⟩
  | d :: D, b => by
    obtain ⟨h1, h2, h3⟩ := putAll_at f D (b.put (some d) (f d))
    have e : putAll f (d :: D) b = putAll f D (b.put (some d) (f d)) := rfl
    rw [e]
    refine ⟨h1, by rw [h2]; simp [Act.put], fun t => ?_⟩
    rw [h3]
    have hs : (b.put (some d) (f d)).tmps.size = b.tmps.size := by simp [Act.put]
    rw [hs]
    by_cases ht : t < b.tmps.size
    · by_cases hd : d = t
      · subst hd
        simp [Act.put, ht]
      · have : (b.put (some d) (f d)).tmps[t]? = b.tmps[t]? := by
          simp only [Act.put]
          rw [Array.getElem?_setIfInBounds_ne hd]
        rw [this]
        simp [ht, Ne.symm hd]
    · have h4 : b.tmps[t]? = none := Array.getElem?_eq_none (Nat.le_of_not_lt ht)
      have h5 : (b.put (some d) (f d)).tmps[t]? = none := Array.getElem?_eq_none (by rw [hs]; exact Nat.le_of_not_lt ht)
      rw [h4, h5]
      simp [ht]
theorem SameBut.eq {D : List Tmp} {a0 a : Act} (h : SameBut D a0 a) : a = putAll (fun d => a.tmps.getD d undef) D a0 := by
  obtain ⟨h1, h2, h3⟩ := putAll_at (fun d => a.tmps.getD d undef) D a0
  have e1 : a.tmps = (putAll (fun d => a.tmps.getD d undef) D a0).tmps := by
    apply Array.ext_getElem?
    intro t
    rw [h3 t]
    split
    · rename_i ht
      have : t < a.tmps.size := by rw [h.size]; exact ht.2
      simp [this]
    · rename_i ht
      by_cases hd : t ∈ D
      · have h4 : a0.tmps.size ≤ t := by
          rcases Nat.lt_or_ge t a0.tmps.size with h5 | h5
          · exact absurd ⟨hd, h5⟩ ht
          · exact h5
        rw [Array.getElem?_eq_none h4, Array.getElem?_eq_none (by rw [h.size]; exact h4)]
      · exact h.rest t hd
  have e2 : a.defers = (putAll (fun d => a.tmps.getD d undef) D a0).defers := h.defers.trans h1.symm
  generalize putAll (fun d => a.tmps.getD d undef) D a0 = b at *
  cases a; cases b
  simp only at e1 e2
  rw [e1, e2]
theorem SameBut.put {D : List Tmp} {a0 a : Act} (h : SameBut D a0 a) : ∃ f : Tmp → Value, a = putAll f D a0 ∧ ∀ t, a.eval (.tmp t) = f t := ⟨fun d => a.tmps.getD d undef, h.eq, fun _ => rfl⟩
end Go.Proofs.YtilikjfjbnabfaaGreatDoor

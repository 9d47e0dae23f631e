/- A region that draws its order, walked once for all its orders, where one operation ('m') changes an object of the call's own: a fact for each operation, stable under what the region may do ('R'), and an invariant that tells the object before and behind that operation. No program is named here. -/
import Derived.Test.YtilikjfjbnabfaaGreatDoorFacts2
import Derived.Test.YtilikjfjbnabfaaGreatDoorKept
namespace Go.Proofs.YtilikjfjbnabfaaGreatDoor
open Go.RowKit

def factsB3 (ops : Array Oper) (dep n N : Nat) (D : List Tmp) : Bool :=
  decide (n ≤ ops.size) &&
  ((List.range n).all fun i => ((ops[i]?).bind (·.dst)).isSome && decide (dstOf ops i < N) && decide (dstOf ops i = D.getD i 0) && (((ops[i]?).map fun o => (o.after.all fun e => !Region.binds .any e || decide (e.on < i)) && (o.guard.all fun g => decide (g.1 < n))).getD false)) && decide (D.length = n) &&
  ((List.range n).all fun i => (List.range n).all fun j => decide (i = j) || decide (dstOf ops i ≠ dstOf ops j)) &&
  ((List.range ops.size).all fun i => decide (i < n) || ((List.range n).all fun j => reachB ops dep i j)) &&
  Region.seqB .any ops (ops.size - n) n ((List.range ops.size).map fun i => decide (i < n)).toArray
structure FactsOk3 (ops : Array Oper) (dep n N : Nat) (D : List Tmp) : Prop where
  le : n ≤ ops.size
  dst : ∀ i, i < n → ∃ o d, ops[i]? = some o ∧ o.dst = some d ∧ D.getD i 0 = d ∧ d < N ∧ d ∈ D
  guard : ∀ i o g, i < n → ops[i]? = some o → o.guard = some g → g.1 < n
  back : ∀ i o, i < n → ops[i]? = some o → ∀ e ∈ o.after, Region.binds .any e = true → e.on < i
  apart : ∀ i j, i < n → j < n → i ≠ j → D.getD i 0 ≠ D.getD j 0
  phase : ∀ i o, n ≤ i → ops[i]? = some o → ∀ j, j < n → reachB ops dep i j = true
  seq : Region.seqB .any ops (ops.size - n) n ((List.range ops.size).map fun i => decide (i < n)).toArray = true
theorem factsB3_ok {ops : Array Oper} {dep n N : Nat} {D : List Tmp} (h : factsB3 ops dep n N D = true) : FactsOk3 ops dep n N D := by
  unfold factsB3 at h
  simp only [Bool.and_eq_true, decide_eq_true_eq, List.all_eq_true, List.mem_range, Bool.or_eq_true] at h
  obtain ⟨⟨⟨⟨⟨h1, h2⟩, hl⟩, h3⟩, h4⟩, h5⟩ := h
  have h2' : ∀ i, i < n → ∃ o d, ops[i]? = some o ∧ o.dst = some d ∧ D.getD i 0 = d ∧ dstOf ops i = d ∧ d < N ∧ d ∈ D ∧ (∀ e ∈ o.after, Region.binds .any e = true → e.on < i) ∧ (∀ g, o.guard = some g → g.1 < n) := by
    intro i hi
    obtain ⟨⟨⟨a1, a2⟩, a3⟩, a4⟩ := h2 i hi
    obtain ⟨o, ho⟩ : ∃ o, ops[i]? = some o := ⟨_, Array.getElem?_eq_getElem (by omega)⟩
    rw [ho] at a1 a4
    obtain ⟨d, hd⟩ := Option.isSome_iff_exists.1 a1
    have hd' : o.dst = some d := hd
    have e : dstOf ops i = d := by simp [dstOf, ho, hd']
    have a4' : ((o.after.all fun e => !Region.binds .any e || decide (e.on < i)) && (o.guard.all fun g => decide (g.1 < n))) = true := a4
    rw [Bool.and_eq_true] at a4'
    refine ⟨o, d, ho, hd', by rw [← a3, e], e, by rw [← e]; exact a2, ?_, fun x hx hb => ?_, fun g hg => ?_⟩
    · rw [← e, a3]
      have : i < D.length := by omega
      rw [List.getD_eq_getElem?_getD, List.getElem?_eq_getElem this]
      exact List.getElem_mem this
    · have := (Array.all_eq_true_iff_forall_mem.1 a4'.1) x hx
      simpa [hb] using this
    · have := a4'.2
      rw [hg] at this
      simpa using this
  refine ⟨h1, fun i hi => ?_, fun i o g hi ho hg => ?_, fun i o hi ho e he hb => ?_, fun i j hi hj hne => ?_, fun i o hi ho j hj => ?_, h5⟩
  · obtain ⟨o, d, b1, b2, b3, _, b4, b5, _⟩ := h2' i hi
    exact ⟨o, d, b1, b2, b3, b4, b5⟩
  · obtain ⟨o', d, b1, _, _, _, _, _, _, b6⟩ := h2' i hi
    obtain rfl : o = o' := Option.some.inj (ho.symm.trans b1)
    exact b6 g hg
  · obtain ⟨o', d, b1, _, _, _, _, _, b6, _⟩ := h2' i hi
    obtain rfl : o = o' := Option.some.inj (ho.symm.trans b1)
    exact b6 e he hb
  · obtain ⟨_, _, _, _, c1, c2, _⟩ := h2' i hi
    obtain ⟨_, _, _, _, d1, d2, _⟩ := h2' j hj
    rw [c1, d1]
    rcases h3 i hi j hj with h | h
    · exact absurd h hne
    · rw [c2, d2] at h; exact h
  · have hs : i < ops.size := (Array.getElem?_eq_some_iff.1 ho).1
    rcases h4 i hs with h | h
    · omega
    · exact h j hj


/-- What a region may do to the world. -/
structure May (R : World → World → Prop) : Prop where
  refl : ∀ w, R w w
  trans : ∀ {a b c : World}, R a b → R b c → R a c
  drew : ∀ w : World, R w w.drew
  size : ∀ {a b : World}, R a b → a.heap.size ≤ b.heap.size
theorem May.grew : May Grew := ⟨Grew.refl, fun h k => h.trans k, fun w => (Grew.refl w).drew, fun h => h.below.size⟩
theorem May.kept (F : Nat → Prop) : May (Kept F) := ⟨Kept.refl F, fun h k => h.trans k, fun w => (Kept.refl F w).drew, fun h => h.size⟩

/-- One operation's end: its slot is written, the fact holds, and so does the invariant. -/
def Gives3 (R : World → World → Prop) (F : Value → World → Prop) (J : World → Prop) (al : Bool) (dst : Option Tmp) (a : Act) (w : World) (a' : Act) (w' : World) : Prop := ∃ v, a' = a.put dst v ∧ R w w' ∧ F v w' ∧ J w' ∧ (al = true → IsNew v w w')
theorem Gives3.of {R : World → World → Prop} {F : Value → World → Prop} {J : World → Prop} {al : Bool} {d : Tmp} {a : Act} {w w' : World} {v : Value} (hal : al = false) (hg : R w w') (h : F v w') (hJ : J w') : Gives3 R F J al (some d) a w { tmps := a.tmps.setIfInBounds d v, defers := a.defers } w' := ⟨v, rfl, hg, h, hJ, fun h => by rw [hal] at h; cases h⟩
theorem Gives3.al {R : World → World → Prop} {F : Value → World → Prop} {J : World → Prop} {al : Bool} {d : Tmp} {a : Act} {w w' : World} {g : Nat} (hg : R w w') (h1 : w.heap.size ≤ g) (h2 : g < w'.heap.size) (h : F (.pointer (some ⟨g, 0, none⟩)) w') (hJ : J w') : Gives3 R F J al (some d) a w { tmps := a.tmps.setIfInBounds d (.pointer (some ⟨g, 0, none⟩)), defers := a.defers } w' := ⟨_, rfl, hg, h, hJ, fun _ => ⟨g, rfl, h1, h2⟩⟩
def StepOk3 (P : Program) (Q : Exit → Act → World → Prop) (D : List Tmp) (Al : List Nat) (φ : Nat → Value → World → Prop) (R : World → World → Prop) (J : Bool → World → Prop) (m : Nat) (a0 : Act) (w0 : World) (i : Nat) (o : Oper) : Prop :=
  ∀ a w b, R w0 w → J b w → (i = m → b = false) → SameBut D a0 a → Ahead D φ a w o.after.toList →
    if wantedD D o a = true then o.wp P a w (Gives3 R (φ i) (J (b || decide (i = m))) (Al.contains i) o.dst a w) Q else φ i undef w ∧ J (b || decide (i = m)) w ∧ Al.contains i = false

section
variable {P : Program} {ops : Array Oper} {Q : Exit → Act → World → Prop} {D : List Tmp} {Al : List Nat} {φ : Nat → Value → World → Prop} {R : World → World → Prop} {J : Bool → World → Prop} {m : Nat} {a0 : Act} {w0 : World} {dep n : Nat}

structure FactsAt3 (ops : Array Oper) (D : List Tmp) (Al : List Nat) (φ : Nat → Value → World → Prop) (R : World → World → Prop) (J : Bool → World → Prop) (m : Nat) (a0 : Act) (w0 : World) (n : Nat) (listed : Array Bool) (a : Act) (w : World) : Prop where
  rel : R w0 w
  same : SameBut D a0 a
  fact : ∀ i, i < n → listed.getD i false = true → φ i (slotOf D i a) w
  inv : J (listed.getD m false) w
  made : ∀ i, i < n → Al.contains i = true → listed.getD i false = true → IsNew (slotOf D i a) w0 w
  parted : ∀ i j, i < n → j < n → i ≠ j → Al.contains i = true → Al.contains j = true → listed.getD i false = true → listed.getD j false = true → slotOf D i a ≠ slotOf D j a

theorem FactsAt3.step {listed : Array Bool} {a : Act} {w w' : World} {i : Nat} {v : Value} {d : Tmp} (hR : May R) (hO : FactsOk3 ops dep n a0.tmps.size D) (hm : ∀ i v w w', φ i v w → R w w' → φ i v w')
    (h : FactsAt3 ops D Al φ R J m a0 w0 n listed a w) (hi : i < n) (hsz : i < listed.size) (hd : D.getD i 0 = d) (hdN : d < a0.tmps.size) (hdD : d ∈ D) (hg : R w w') (hv : φ i v w') (hJ : J (listed.getD m false || decide (i = m)) w') (hn : Al.contains i = true → IsNew v w w') : FactsAt3 ops D Al φ R J m a0 w0 n (listed.setIfInBounds i true) (a.put (some d) v) w' := by
  have same_i : slotOf D i (a.put (some d) v) = v := by
    unfold slotOf Act.eval
    rw [hd]
    simp [Act.put, h.same.size, hdN]
  have same_j : ∀ j, j < n → i ≠ j → slotOf D j (a.put (some d) v) = slotOf D j a := fun j hj hij => by
    have hne : d ≠ D.getD j 0 := by rw [← hd]; exact hO.apart i j hi hj hij
    unfold slotOf Act.eval
    generalize D.getD j 0 = dj at *
    simp [Act.put, Array.getElem?_setIfInBounds_ne hne]
  have new_j : ∀ j, j < n → Al.contains j = true → listed.getD j false = true → IsNew (slotOf D j a) w0 w' := fun j hj hA hl => by
    obtain ⟨g, h1, h2, h3⟩ := h.made j hj hA hl
    exact ⟨g, h1, h2, Nat.lt_of_lt_of_le h3 (hR.size hg)⟩
  have apart_j : ∀ j, j < n → Al.contains i = true → Al.contains j = true → listed.getD j false = true → v ≠ slotOf D j a := fun j hj hA hB hl e => by
    obtain ⟨g, h1, h2, h3⟩ := h.made j hj hB hl
    obtain ⟨g', k1, k2, k3⟩ := hn hA
    rw [← e, k1] at h1
    simp only [Value.pointer.injEq, Option.some.injEq, Addr.mk.injEq] at h1
    omega
  refine ⟨hR.trans h.rel hg, ⟨h.same.defers, ?_, fun t ht => ?_⟩, fun j hj hl => ?_, ?_, fun j hj hA hl => ?_, fun j k hj hk hjk hA hB hl hl2 => ?_⟩
  · simp [Act.put, h.same.size]
  · have hne : d ≠ t := by rintro rfl; exact ht hdD
    simp only [Act.put]
    rw [Array.getElem?_setIfInBounds_ne hne]
    exact h.same.rest t ht
  · by_cases hij : i = j
    · subst hij
      rw [same_i]; exact hv
    · rw [same_j j hj hij]
      exact hm j _ _ _ (h.fact j hj (by rwa [getD_set_ne false hij] at hl)) hg
  · by_cases him : i = m
    · subst him
      have : (listed.setIfInBounds i true).getD i false = true := by simp [hsz]
      rw [this]
      simpa using hJ
    · rw [getD_set_ne false him]
      simpa [him] using hJ
  · by_cases hij : i = j
    · subst hij
      rw [same_i]
      obtain ⟨g, k1, k2, k3⟩ := hn hA
      exact ⟨g, k1, Nat.le_trans (hR.size h.rel) k2, k3⟩
    · rw [same_j j hj hij]
      exact new_j j hj hA (by rwa [getD_set_ne false hij] at hl)
  · by_cases hij : i = j
    · subst hij
      rw [same_i, same_j k hk hjk]
      exact apart_j k hk hA hB (by rwa [getD_set_ne false hjk] at hl2)
    · rw [same_j j hj hij]
      by_cases hik : i = k
      · subst hik
        rw [same_i]
        exact fun e => apart_j j hj hB hA (by rwa [getD_set_ne false hij] at hl) e.symm
      · rw [same_j k hk hik]
        exact h.parted j k hj hk hjk hA hB (by rwa [getD_set_ne false hij] at hl) (by rwa [getD_set_ne false hik] at hl2)

theorem wpAny_facts3 (hR : May R) (hO : FactsOk3 ops dep n a0.tmps.size D) (hm : ∀ i v w w', φ i v w → R w w' → φ i v w')
    (hstep : ∀ i o, i < n → ops[i]? = some o → StepOk3 P Q D Al φ R J m a0 w0 i o)
    (hend : ∀ a w, R w0 w → SameBut D a0 a → (∀ i, i < n → φ i (slotOf D i a) w) → J (decide (m < n)) w → (∀ i j, i < n → j < n → i ≠ j → Al.contains i = true → Al.contains j = true → slotOf D i a ≠ slotOf D j a) → wpList P ops Q (ops.toList.drop n) a w) :
    ∀ (k : Nat) (listed : Array Bool) (a : Act) (w : World), listed.size = ops.size → (∀ j, n ≤ j → j < ops.size → listed.getD j true = false) → leftN listed n = k → Closed ops listed →
      FactsAt3 ops D Al φ R J m a0 w0 n listed a w → wpAny P .any ops Q (k + (ops.size - n)) listed a w := by
  intro k
  induction k with
  | zero =>
    intro listed a w hs ht hk _ h
    have hall := leftN_zero n hk
    have e : listed = ((List.range ops.size).map fun i => decide (i < n)).toArray := by
      apply Array.ext (by simp [hs])
      intro j h1 h2
      rcases Nat.lt_or_ge j n with hlt | hge
      · have := hall j hlt
        simp [h1] at this
        simp [this, hlt]
      · have := ht j hge (by omega)
        simp [h1] at this
        simp [this]; omega
    have hl : (ops.toList.drop n).length = ops.size - n := by simp
    rw [Nat.zero_add, ← hl]
    refine wpAny_of_seq (ops.toList.drop n) n listed a w (fun j => by simp) ?_ ?_
    · rw [hl, e]; exact hO.seq
    · have hl : ∀ i, i < n → listed.getD i false = true := fun i hi => by
        rw [← getD_flip (by have := hO.le; omega)]
        exact hall i hi
      refine hend a w h.rel h.same (fun i hi => h.fact i hi (hl i hi)) ?_ (fun i j hi hj hij hA hB => h.parted i j hi hj hij hA hB (hl i hi) (hl j hj))
      have hJ := h.inv
      rcases Nat.lt_or_ge m n with hlt | hge
      · rw [hl m hlt] at hJ
        simpa [hlt] using hJ
      · have hf : listed.getD m false = false := by
          rcases Nat.lt_or_ge m ops.size with h1 | h1
          · rw [← getD_flip (by omega)]; exact ht m hge h1
          · simp [show ¬ m < listed.size by omega]
        rw [hf] at hJ
        simpa [Nat.not_lt.2 hge] using hJ
  | succ k ih =>
    intro listed a w hs ht hk hcl h
    obtain ⟨i0, hi0, hl0, hless⟩ := leftN_least n (by omega : 0 < leftN listed n)
    have hfalse : listed.getD i0 false = false := by rw [← getD_flip (by have := hO.le; omega)]; exact hl0
    rw [Nat.succ_add]
    refine ⟨fun hr => ?_, fun i hi => ?_⟩
    · exfalso
      obtain ⟨o, d, ho, _⟩ := hO.dst i0 hi0
      have : i0 ∈ Region.ready .any ops listed := mem_ready.2 ⟨hl0, o, ho, fun e he hb => by
        have hlt := hO.back i0 o hi0 ho e he hb
        rw [← getD_flip (by have := hO.le; omega)]
        exact hless _ hlt⟩
      rw [hr] at this
      cases this
    · obtain ⟨hli, o, ho, hdep⟩ := mem_ready.1 hi
      have hin : i < n := by
        rcases Nat.lt_or_ge i n with h1 | h1
        · exact h1
        · exfalso
          have := hcl.reach dep i i0 o ho hdep (hO.phase i o h1 ho i0 hi0)
          rw [hfalse] at this
          cases this
      obtain ⟨o', d, ho', hd, hdd, hdN, hdD⟩ := hO.dst i hin
      obtain rfl : o = o' := Option.some.inj (ho.symm.trans ho')
      have hA : Ahead D φ a w o.after.toList := ahead_of _ (fun e he hb => by
        have he' : e ∈ o.after := by simpa using he
        exact h.fact e.on (Nat.lt_trans (hO.back i o hin ho e he' hb) hin) (hdep e he' hb))
      have hisz : i < listed.size := by have := hO.le; omega
      have hst := hstep i o hin ho a w (listed.getD m false) h.rel h.inv (fun e => by
        subst e
        rw [← getD_flip hisz]; exact hli) h.same hA
      have hs' : (listed.setIfInBounds i true).size = ops.size := by simpa using hs
      have ht' : ∀ j, n ≤ j → j < ops.size → (listed.setIfInBounds i true).getD j true = false := fun j h1 h2 => by
        rw [getD_set_ne true (by omega)]; exact ht j h1 h2
      have hcl' : Closed ops (listed.setIfInBounds i true) := fun j oj hj hoj e he hb => by
        by_cases hij : i = j
        · subst hij
          obtain rfl : o = oj := Option.some.inj (ho.symm.trans hoj)
          exact getD_set_true (hdep e he hb)
        · rw [getD_set_ne false hij] at hj
          exact getD_set_true (hcl j oj hj hoj e he hb)
      have hk' : leftN (listed.setIfInBounds i true) n = k := by
        have := leftN_set hli n hin
        omega
      have hwd : wantedD D o a = Region.wanted o (yielded ops a.tmps) := by
        unfold wantedD Region.wanted
        cases hgd : o.guard with
        | none => rfl
        | some g =>
          obtain ⟨g, b⟩ := g
          obtain ⟨og, dg, hog, hdg, hDg, hNg, _⟩ := hO.dst g (hO.guard i o _ hin ho hgd)
          have hsz : dg < a.tmps.size := by rw [h.same.size]; exact hNg
          simp only [yielded, hog, hdg, slotOf, Act.eval, hDg, Option.bind_some]
          rw [Array.getElem?_eq_getElem hsz]
          have : a.tmps.getD dg undef = a.tmps[dg] := by simp [hsz]
          rw [this]
          unfold isBool
          cases a.tmps[dg] <;> simp
      rw [hwd] at hst
      unfold wpOp
      simp only [ho]
      split
      · rename_i hw
        rw [if_pos hw] at hst
        refine .inl (Oper.wp_mono (fun a' w' h' => ?_) hst)
        obtain ⟨v, rfl, hg, hv, hJ, hn⟩ := h'
        rw [hd]
        exact ih _ _ _ hs' ht' hk' hcl' (h.step hR hO hm hin hisz hdd hdN hdD hg hv hJ hn)
      · rename_i hw
        rw [if_neg hw] at hst
        rw [hd]
        exact ih _ _ _ hs' ht' hk' hcl' (h.step hR hO hm hin hisz hdd hdN hdD (hR.refl _) hst.1 hst.2.1 (fun h => by rw [hst.2.2] at h; cases h))

def StepAll3 (P : Program) (Q : Exit → Act → World → Prop) (D : List Tmp) (Al : List Nat) (φ : Nat → Value → World → Prop) (R : World → World → Prop) (J : Bool → World → Prop) (m : Nat) (a0 : Act) (w0 : World) : Nat → List Oper → Prop
  | _, [] => True
  | k, o :: r => StepOk3 P Q D Al φ R J m a0 w0 k o ∧ StepAll3 P Q D Al φ R J m a0 w0 (k + 1) r
theorem StepAll3.get : ∀ (l : List Oper) (k : Nat), StepAll3 P Q D Al φ R J m a0 w0 k l → ∀ j o, l[j]? = some o → StepOk3 P Q D Al φ R J m a0 w0 (k + j) o
  | [], _, _, j, o, h => by simp at h
  | x :: r, k, hs, 0, o, h => by
    obtain rfl : x = o := by simpa using h
    exact hs.1
  | x :: r, k, hs, j + 1, o, h => by
    have := StepAll3.get r (k + 1) hs.2 j o (by simpa using h)
    rwa [show k + 1 + j = k + (j + 1) by omega] at this
/-- One walk for all orders. 'dep': how many steps the form looks on to see that the last operations wait for all others. -/
theorem wp_region_facts3 {id : Nat} (w : World) (dep n : Nat) (D : List Tmp) (Al : List Nat) (φ : Nat → Value → World → Prop) (R : World → World → Prop) (J : Bool → World → Prop) (m : Nat) (hR : May R) (hf : P.follows .mixedOrders = true) (hB : factsB3 ops dep n a0.tmps.size D = true) (hg : R w0 w.drew) (hJ : J false w.drew) (hm : ∀ i v w w', φ i v w → R w w' → φ i v w')
    (hstep : StepAll3 P Q D Al φ R J m a0 w0 0 (ops.toList.take n))
    (hend : ∀ a w, R w0 w → SameBut D a0 a → (∀ i, i < n → φ i (slotOf D i a) w) → J (decide (m < n)) w → (∀ i j, i < n → j < n → i ≠ j → Al.contains i = true → Al.contains j = true → slotOf D i a ≠ slotOf D j a) → wpList P ops Q (ops.toList.drop n) a w) : (Code.region id ops true).wp P Q a0 w := by
  have hO := factsB3_ok hB
  refine wp_region_any hf ?_
  have hstep' : ∀ i o, i < n → ops[i]? = some o → StepOk3 P Q D Al φ R J m a0 w0 i o := fun i o hi ho => by
    have := StepAll3.get _ 0 hstep i o (by rw [List.getElem?_take_of_lt hi]; simpa using ho)
    rwa [Nat.zero_add] at this
  have h := wpAny_facts3 hR hO hm hstep' hend n (Array.replicate ops.size false) a0 w.drew (by simp) (fun j _ h2 => by simp [h2]) (leftN_none _ _ hO.le) (fun j o hj ho => by
    simp [show j < ops.size from (Array.getElem?_eq_some_iff.1 ho).1] at hj) ⟨hg, ⟨rfl, rfl, fun _ _ => rfl⟩, fun i hi hl => by
    simp [show i < ops.size by have := hO.le; omega] at hl, by
    have : (Array.replicate ops.size false).getD m false = false := by
      by_cases h : m < ops.size <;> simp [h]
    rw [this]; exact hJ, fun i hi _ hl => by
    simp [show i < ops.size by have := hO.le; omega] at hl, fun i j hi _ _ _ _ hl _ => by
    simp [show i < ops.size by have := hO.le; omega] at hl⟩
  have e : n + (ops.size - n) = ops.size := by have := hO.le; omega
  rw [e] at h
  exact h
end
end Go.Proofs.YtilikjfjbnabfaaGreatDoor

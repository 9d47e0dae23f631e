/- Drawn regions whose operations change objects: an invariant over the operations done AND their values. -/
import Derived.Test.YtidnaednldcdfaaGreatDoorGeB
namespace Go.Proofs.YtidnaednldcdfaaGreatDoor
open Go.RowKit

def updV (s : Nat → Value) (i : Nat) (v : Value) : Nat → Value := fun j => if j = i then v else s j
def StepOk6 (P : Program) (Q : Exit → Act → World → Prop) (D : List Tmp) (Al : List Nat) (φ : Nat → Value → World → Prop) (R0 : World → World → Prop) (R : Nat → World → World → Prop) (J : (Nat → Bool) → (Nat → Value) → World → Prop) (a0 : Act) (w0 : World) (i : Nat) (o : Oper) : Prop :=
  ∀ a w f, R0 w0 w → J f (fun j => slotOf D j a) w → f i = false → (∀ e ∈ o.after, Region.binds .any e = true → f e.on = true) → SameBut D a0 a → Ahead D φ a w o.after.toList →
    if wantedD D o a = true then o.wp P a w (Gives3 (R i) (fun v w' => φ i v w' ∧ J (updF f i) (updV (fun j => slotOf D j a) i v) w') (fun _ => True) (Al.contains i) o.dst a w) Q else φ i undef w ∧ J (updF f i) (updV (fun j => slotOf D j a) i undef) w ∧ Al.contains i = false

section
variable {P : Program} {ops : Array Oper} {Q : Exit → Act → World → Prop} {D : List Tmp} {Al : List Nat} {φ : Nat → Value → World → Prop} {R0 : World → World → Prop} {R : Nat → World → World → Prop} {J : (Nat → Bool) → (Nat → Value) → World → Prop} {a0 : Act} {w0 : World} {dep n : Nat}

structure FactsAt6 (ops : Array Oper) (D : List Tmp) (Al : List Nat) (φ : Nat → Value → World → Prop) (R0 : World → World → Prop) (R : Nat → World → World → Prop) (J : (Nat → Bool) → (Nat → Value) → World → Prop) (a0 : Act) (w0 : World) (n : Nat) (listed : Array Bool) (a : Act) (w : World) : Prop where
  rel : R0 w0 w
  same : SameBut D a0 a
  fact : ∀ i, i < n → listed.getD i false = true → φ i (slotOf D i a) w
  inv : J (fun j => listed.getD j false) (fun j => slotOf D j a) w
  made : ∀ i, i < n → Al.contains i = true → listed.getD i false = true → IsNew (slotOf D i a) w0 w
  parted : ∀ i j, i < n → j < n → i ≠ j → Al.contains i = true → Al.contains j = true → listed.getD i false = true → listed.getD j false = true → slotOf D i a ≠ slotOf D j a

theorem FactsAt6.step {listed : Array Bool} {a : Act} {w w' : World} {i : Nat} {v : Value} {d : Tmp} (hx : ∀ f (s s' : Nat → Value) w, (∀ j, j < n → s j = s' j) → J f s w → J f s' w) (hR : May R0) (hRi : ∀ i w w', R i w w' → R0 w w') (hO : FactsOk3 ops dep n a0.tmps.size D) (hm : ∀ i j v w w', i < n → j < n → i ≠ j → reachB ops dep i j = false → φ i v w → R j w w' → φ i v w')
    (h : FactsAt6 ops D Al φ R0 R J a0 w0 n listed a w) (hi : i < n) (hsz : i < listed.size) (hd : D.getD i 0 = d) (hdN : d < a0.tmps.size) (hdD : d ∈ D) (hb : ∀ j, j < n → j ≠ i → listed.getD j false = true → reachB ops dep j i = false) (hg : R i w w') (hv : φ i v w') (hJ : J (updF (fun j => listed.getD j false) i) (updV (fun j => slotOf D j a) i v) w') (hn : Al.contains i = true → IsNew v w w') : FactsAt6 ops D Al φ R0 R J a0 w0 n (listed.setIfInBounds i true) (a.put (some d) v) w' := by
  have same_i : slotOf D i (a.put (some d) v) = v := by
    unfold slotOf Act.eval
    rw [hd]
    simp [Act.put, h.same.size, hdN]
  have same_j : ∀ j, j < n → i ≠ j → slotOf D j (a.put (some d) v) = slotOf D j a := fun j hj hij => by
    have hne : d ≠ D.getD j 0 := by rw [← hd]; exact hO.apart i j hi hj hij
    unfold slotOf Act.eval
    generalize D.getD j 0 = dj at *
    simp [Act.put, Array.getElem?_setIfInBounds_ne hne]
  have new_j : ∀ j, j < n → Al.contains j = true → listed.getD j false = true → IsNew (slotOf D j a) w0 w' := fun j hj hA hl => by
    obtain ⟨g, h1, h2, h3⟩ := h.made j hj hA hl
    exact ⟨g, h1, h2, Nat.lt_of_lt_of_le h3 (hR.size (hRi i _ _ hg))⟩
  have apart_j : ∀ j, j < n → Al.contains i = true → Al.contains j = true → listed.getD j false = true → v ≠ slotOf D j a := fun j hj hA hB hl e => by
    obtain ⟨g, h1, h2, h3⟩ := h.made j hj hB hl
    obtain ⟨g', k1, k2, k3⟩ := hn hA
    rw [← e, k1] at h1
    simp only [Value.pointer.injEq, Option.some.injEq, Addr.mk.injEq] at h1
    omega
  refine ⟨hR.trans h.rel (hRi i _ _ hg), ⟨h.same.defers, ?_, fun t ht => ?_⟩, fun j hj hl => ?_, ?_, fun j hj hA hl => ?_, fun j k hj hk hjk hA hB hl hl2 => ?_⟩
  · simp [Act.put, h.same.size]
  · have hne : d ≠ t := by rintro rfl; exact ht hdD
    simp only [Act.put]
    rw [Array.getElem?_setIfInBounds_ne hne]
    exact h.same.rest t ht
  · by_cases hij : i = j
    · subst hij
      rw [same_i]; exact hv
    · rw [same_j j hj hij]
      have hl2 : listed.getD j false = true := by rwa [getD_set_ne false hij] at hl
      exact hm j i _ _ _ hj hi (fun e => hij e.symm) (hb j hj (fun e => hij e.symm) hl2) (h.fact j hj hl2) hg
  · have e : (fun j => (listed.setIfInBounds i true).getD j false) = updF (fun j => listed.getD j false) i := by
      funext j
      unfold updF
      by_cases hij : j = i
      · subst hij
        rw [if_pos rfl]
        simp [hsz]
      · rw [if_neg hij, getD_set_ne false (fun e => hij e.symm)]
    rw [e]
    refine hx _ _ _ _ (fun j hj => ?_) hJ
    unfold updV
    by_cases hij : i = j
    · subst hij
      rw [if_pos rfl, same_i]
    · rw [if_neg (fun e => hij e.symm), same_j j hj hij]
  · by_cases hij : i = j
    · subst hij
      rw [same_i]
      obtain ⟨g, k1, k2, k3⟩ := hn hA
      exact ⟨g, k1, Nat.le_trans (hR.size h.rel) k2, k3⟩
    · rw [same_j j hj hij]
      exact new_j j hj hA (by rwa [getD_set_ne false hij] at hl)
  · by_cases hij : i = j
    · subst hij
      rw [same_i, same_j k hk hjk]
      exact apart_j k hk hA hB (by rwa [getD_set_ne false hjk] at hl2)
    · rw [same_j j hj hij]
      by_cases hik : i = k
      · subst hik
        rw [same_i]
        exact fun e => apart_j j hj hB hA (by rwa [getD_set_ne false hij] at hl) e.symm
      · rw [same_j k hk hik]
        exact h.parted j k hj hk hjk hA hB (by rwa [getD_set_ne false hij] at hl) (by rwa [getD_set_ne false hik] at hl2)

theorem wpAny_facts6 (hx : ∀ f (s s' : Nat → Value) w, (∀ j, j < n → s j = s' j) → J f s w → J f s' w) (hR : May R0) (hRi : ∀ i w w', R i w w' → R0 w w') (hRr : ∀ i w, R i w w) (hO : FactsOk3 ops dep n a0.tmps.size D) (hm : ∀ i j v w w', i < n → j < n → i ≠ j → reachB ops dep i j = false → φ i v w → R j w w' → φ i v w')
    (hstep : ∀ i o, i < n → ops[i]? = some o → StepOk6 P Q D Al φ R0 R J a0 w0 i o)
    (hend : ∀ a w, R0 w0 w → SameBut D a0 a → (∀ i, i < n → φ i (slotOf D i a) w) → J (fun j => decide (j < n)) (fun j => slotOf D j a) w → (∀ i j, i < n → j < n → i ≠ j → Al.contains i = true → Al.contains j = true → slotOf D i a ≠ slotOf D j a) → wpList P ops Q (ops.toList.drop n) a w) :
    ∀ (k : Nat) (listed : Array Bool) (a : Act) (w : World), listed.size = ops.size → (∀ j, n ≤ j → j < ops.size → listed.getD j true = false) → leftN listed n = k → Closed ops listed →
      FactsAt6 ops D Al φ R0 R J a0 w0 n listed a w → wpAny P .any ops Q (k + (ops.size - n)) listed a w := by
  intro k
  induction k with
  | zero =>
    intro listed a w hs ht hk _ h
    have hall := leftN_zero n hk
    have e : listed = ((List.range ops.size).map fun i => decide (i < n)).toArray := by
      apply Array.ext (by simp [hs])
      intro j h1 h2
      rcases Nat.lt_or_ge j n with hlt | hge
      · have := hall j hlt
        simp [h1] at this
        simp [this, hlt]
      · have := ht j hge (by omega)
        simp [h1] at this
        simp [this]; omega
    have hl : (ops.toList.drop n).length = ops.size - n := by simp
    rw [Nat.zero_add, ← hl]
    refine wpAny_of_seq (ops.toList.drop n) n listed a w (fun j => by simp) ?_ ?_
    · rw [hl, e]; exact hO.seq
    · have hl : ∀ i, i < n → listed.getD i false = true := fun i hi => by
        rw [← getD_flip (by have := hO.le; omega)]
        exact hall i hi
      refine hend a w h.rel h.same (fun i hi => h.fact i hi (hl i hi)) ?_ (fun i j hi hj hij hA hB => h.parted i j hi hj hij hA hB (hl i hi) (hl j hj))
      have hJ := h.inv
      have ef : (fun j => listed.getD j false) = fun j => decide (j < n) := by
        funext j
        rcases Nat.lt_or_ge j n with hlt | hge
        · rw [hl j hlt, decide_eq_true hlt]
        · rw [decide_eq_false (Nat.not_lt.2 hge)]
          rcases Nat.lt_or_ge j ops.size with h1 | h1
          · rw [← getD_flip (by omega)]; exact ht j hge h1
          · simp [show ¬ j < listed.size by omega]
      rw [ef] at hJ
      exact hJ
  | succ k ih =>
    intro listed a w hs ht hk hcl h
    obtain ⟨i0, hi0, hl0, hless⟩ := leftN_least n (by omega : 0 < leftN listed n)
    have hfalse : listed.getD i0 false = false := by rw [← getD_flip (by have := hO.le; omega)]; exact hl0
    rw [Nat.succ_add]
    refine ⟨fun hr => ?_, fun i hi => ?_⟩
    · exfalso
      obtain ⟨o, d, ho, _⟩ := hO.dst i0 hi0
      have : i0 ∈ Region.ready .any ops listed := mem_ready.2 ⟨hl0, o, ho, fun e he hb => by
        have hlt := hO.back i0 o hi0 ho e he hb
        rw [← getD_flip (by have := hO.le; omega)]
        exact hless _ hlt⟩
      rw [hr] at this
      cases this
    · obtain ⟨hli, o, ho, hdep⟩ := mem_ready.1 hi
      have hin : i < n := by
        rcases Nat.lt_or_ge i n with h1 | h1
        · exact h1
        · exfalso
          have := hcl.reach dep i i0 o ho hdep (hO.phase i o h1 ho i0 hi0)
          rw [hfalse] at this
          cases this
      obtain ⟨o', d, ho', hd, hdd, hdN, hdD⟩ := hO.dst i hin
      obtain rfl : o = o' := Option.some.inj (ho.symm.trans ho')
      have hA : Ahead D φ a w o.after.toList := ahead_of _ (fun e he hb => by
        have he' : e ∈ o.after := by simpa using he
        exact h.fact e.on (Nat.lt_trans (hO.back i o hin ho e he' hb) hin) (hdep e he' hb))
      have hisz : i < listed.size := by have := hO.le; omega
      have hif : listed.getD i false = false := by rw [← getD_flip hisz]; exact hli
      have hst := hstep i o hin ho a w (fun j => listed.getD j false) h.rel h.inv hif (fun e he hb => hdep e he hb) h.same hA
      have hbk : ∀ j, j < n → j ≠ i → listed.getD j false = true → reachB ops dep j i = false := fun j hj _ hlj => by
        cases hr : reachB ops dep j i
        · rfl
        · exfalso
          obtain ⟨oj, _, hoj, _⟩ := hO.dst j hj
          have := hcl.reach dep j i oj hoj (fun e he hb => hcl j oj hlj hoj e he hb) hr
          rw [hif] at this
          cases this
      have hs' : (listed.setIfInBounds i true).size = ops.size := by simpa using hs
      have ht' : ∀ j, n ≤ j → j < ops.size → (listed.setIfInBounds i true).getD j true = false := fun j h1 h2 => by
        rw [getD_set_ne true (by omega)]; exact ht j h1 h2
      have hcl' : Closed ops (listed.setIfInBounds i true) := fun j oj hj hoj e he hb => by
        by_cases hij : i = j
        · subst hij
          obtain rfl : o = oj := Option.some.inj (ho.symm.trans hoj)
          exact getD_set_true (hdep e he hb)
        · rw [getD_set_ne false hij] at hj
          exact getD_set_true (hcl j oj hj hoj e he hb)
      have hk' : leftN (listed.setIfInBounds i true) n = k := by
        have := leftN_set hli n hin
        omega
      have hwd : wantedD D o a = Region.wanted o (yielded ops a.tmps) := by
        unfold wantedD Region.wanted
        cases hgd : o.guard with
        | none => rfl
        | some g =>
          obtain ⟨g, b⟩ := g
          obtain ⟨og, dg, hog, hdg, hDg, hNg, _⟩ := hO.dst g (hO.guard i o _ hin ho hgd)
          have hsz : dg < a.tmps.size := by rw [h.same.size]; exact hNg
          simp only [yielded, hog, hdg, slotOf, Act.eval, hDg, Option.bind_some]
          rw [Array.getElem?_eq_getElem hsz]
          have : a.tmps.getD dg undef = a.tmps[dg] := by simp [hsz]
          rw [this]
          unfold isBool
          cases a.tmps[dg] <;> simp
      rw [hwd] at hst
      unfold wpOp
      simp only [ho]
      split
      · rename_i hw
        rw [if_pos hw] at hst
        refine .inl (Oper.wp_mono (fun a' w' h' => ?_) hst)
        obtain ⟨v, rfl, hg, ⟨hv, hJ⟩, _, hn⟩ := h'
        rw [hd]
        exact ih _ _ _ hs' ht' hk' hcl' (h.step hx hR hRi hO hm hin hisz hdd hdN hdD hbk hg hv hJ hn)
      · rename_i hw
        rw [if_neg hw] at hst
        rw [hd]
        exact ih _ _ _ hs' ht' hk' hcl' (h.step hx hR hRi hO hm hin hisz hdd hdN hdD hbk (hRr i _) hst.1 hst.2.1 (fun h => by rw [hst.2.2] at h; cases h))

def StepAll6 (P : Program) (Q : Exit → Act → World → Prop) (D : List Tmp) (Al : List Nat) (φ : Nat → Value → World → Prop) (R0 : World → World → Prop) (R : Nat → World → World → Prop) (J : (Nat → Bool) → (Nat → Value) → World → Prop) (a0 : Act) (w0 : World) : Nat → List Oper → Prop
  | _, [] => True
  | k, o :: r => StepOk6 P Q D Al φ R0 R J a0 w0 k o ∧ StepAll6 P Q D Al φ R0 R J a0 w0 (k + 1) r
theorem StepAll6.get : ∀ (l : List Oper) (k : Nat), StepAll6 P Q D Al φ R0 R J a0 w0 k l → ∀ j o, l[j]? = some o → StepOk6 P Q D Al φ R0 R J a0 w0 (k + j) o
  | [], _, _, j, o, h => by simp at h
  | x :: r, k, hs, 0, o, h => by
    obtain rfl : x = o := by simpa using h
    exact hs.1
  | x :: r, k, hs, j + 1, o, h => by
    have := StepAll6.get r (k + 1) hs.2 j o (by simpa using h)
    rwa [show k + 1 + j = k + (j + 1) by omega] at this
/-- One walk for all orders. 'dep': how many steps the form looks on to see that the last operations wait for all others. -/
theorem wp_region_facts6 {id : Nat} (w : World) (dep n : Nat) (D : List Tmp) (Al : List Nat) (φ : Nat → Value → World → Prop) (R0 : World → World → Prop) (R : Nat → World → World → Prop) (J : (Nat → Bool) → (Nat → Value) → World → Prop) (hx : ∀ f (s s' : Nat → Value) w, (∀ j, j < n → s j = s' j) → J f s w → J f s' w) (hR : May R0) (hRi : ∀ i w w', R i w w' → R0 w w') (hRr : ∀ i w, R i w w) (hf : P.follows .mixedOrders = true) (hB : factsB3 ops dep n a0.tmps.size D = true) (hg : R0 w0 w.drew) (hJ : J (fun _ => false) (fun j => slotOf D j a0) w.drew) (hm : ∀ i j v w w', i < n → j < n → i ≠ j → reachB ops dep i j = false → φ i v w → R j w w' → φ i v w')
    (hstep : StepAll6 P Q D Al φ R0 R J a0 w0 0 (ops.toList.take n))
    (hend : ∀ a w, R0 w0 w → SameBut D a0 a → (∀ i, i < n → φ i (slotOf D i a) w) → J (fun j => decide (j < n)) (fun j => slotOf D j a) w → (∀ i j, i < n → j < n → i ≠ j → Al.contains i = true → Al.contains j = true → slotOf D i a ≠ slotOf D j a) → wpList P ops Q (ops.toList.drop n) a w) : (Code.region id ops true).wp P Q a0 w := by
  have hO := factsB3_ok hB
  refine wp_region_any hf ?_
  have hstep' : ∀ i o, i < n → ops[i]? = some o → StepOk6 P Q D Al φ R0 R J a0 w0 i o := fun i o hi ho => by
    have := StepAll6.get _ 0 hstep i o (by rw [List.getElem?_take_of_lt hi]; simpa using ho)
    rwa [Nat.zero_add] at this
  have h := wpAny_facts6 hx hR hRi hRr hO hm hstep' hend n (Array.replicate ops.size false) a0 w.drew (by simp) (fun j _ h2 => by simp [h2]) (leftN_none _ _ hO.le) (fun j o hj ho => by
    simp [show j < ops.size from (Array.getElem?_eq_some_iff.1 ho).1] at hj) ⟨hg, ⟨rfl, rfl, fun _ _ => rfl⟩, fun i hi hl => by
    simp [show i < ops.size by have := hO.le; omega] at hl, by
    have e : (fun j => (Array.replicate ops.size false).getD j false) = fun _ => false := by
      funext j
      by_cases h : j < ops.size <;> simp [h]
    rw [e]; exact hJ, fun i hi _ hl => by
    simp [show i < ops.size by have := hO.le; omega] at hl, fun i j hi _ _ _ _ hl _ => by
    simp [show i < ops.size by have := hO.le; omega] at hl⟩
  have e : n + (ops.size - n) = ops.size := by have := hO.le; omega
  rw [e] at h
  exact h
end
end Go.Proofs.YtidnaednldcdfaaGreatDoor

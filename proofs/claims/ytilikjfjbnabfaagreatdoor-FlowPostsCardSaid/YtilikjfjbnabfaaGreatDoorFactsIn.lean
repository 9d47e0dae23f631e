/- A region that draws its order, within a round of a loop over an iterator, walked once for all its orders. No program is named here. -/
import Derived.Test.YtilikjfjbnabfaaGreatDoorFacts2
import Derived.Test.YtilikjfjbnabfaaGreatDoorRound
namespace Go.Proofs.YtilikjfjbnabfaaGreatDoor
open Go.RowKit

theorem rowsIn_of {P : Program} {row : String} {args : Array Value} {w : World} {R : Value → World → Prop} {dp : Nat} (h : Rows P row args w R) : RowsIn Fence.wide dp P row args w R := fun c cs _ =>
  let ⟨v, w', r, s⟩ := h c cs
  ⟨v, w', r, stepsIn_wide.2 s⟩
theorem oper_in {P : Program} {o : Oper} {a : Act} {w : World} {K : Act → World → Prop} {Q : Exit → Act → World → Prop} {dp : Nat} (h : o.wp P a w K Q) : o.wpIn Fence.wide dp P a w K Q := by
  unfold Oper.wpIn
  refine ⟨fun _ _ => trivial, ?_⟩
  rw [show (o.semAt Fence.wide.round a.eval) = execOp a.eval o by simp [Oper.semAt]]
  unfold Oper.wp at h
  generalize (execOp a.eval o).run P w = r at *
  have hn : ∀ {p : Prop}, (Fence.wide.depth.isSome = true → p) := fun h => by simp [Fence.wide] at h
  cases r with
  | ok x w' =>
    cases x with
    | enter f args => exact ⟨hn, callsIn_wide.2 h⟩
    | row row args => exact ⟨hn, rowsIn_of h⟩
    | _ => first | exact h | exact h.elim
  | halt x w' => cases x <;> first | exact h | exact h.elim

section
variable {P : Program} {ops : Array Oper} {Q : Exit → Act → World → Prop} {D : List Tmp} {Al : List Nat} {φ : Nat → Value → World → Prop} {a0 : Act} {w0 : World} {n dp : Nat}
theorem wpAnyIn_of_seq {md : Region.Mode} {Q' : Exit → Act → World → Prop} : ∀ (l : List Oper) (k : Nat) (listed : Array Bool) (a : Act) (w : World), (∀ j, l[j]? = ops[k + j]?) →
    Region.seqB md ops l.length k listed = true → wpListIn Fence.wide dp P ops Q' l a w → wpAnyIn Fence.wide dp P md ops Q' l.length listed a w
  | [], _, _, _, _, _, hB, h => ⟨by simpa [Region.seqB] using hB, h⟩
  | o :: l, k, listed, a, w, hl, hB, h => by
    have h0 : ops[k]? = some o := by simpa using (hl 0).symm
    simp only [List.length_cons, Region.seqB, Bool.and_eq_true, decide_eq_true_eq] at hB
    refine ⟨fun h1 => (by rw [hB.1] at h1; cases h1), fun i hi => ?_⟩
    rw [hB.1] at hi
    have hik : i = k := by simpa using hi
    subst hik
    have hw : wpOpIn Fence.wide dp P ops Q' i (wpListIn Fence.wide dp P ops Q' l) a w := by unfold wpOpIn; simp only [h0]; exact h
    exact wpOpIn_mono (fun a' w' h' => wpAnyIn_of_seq l (i + 1) _ a' w' (fun j => by have := hl (j + 1); simpa [Nat.add_assoc, Nat.add_comm 1 j] using this) hB.2 h') hw
theorem wpAnyIn_facts (hO : FactsOk ops n a0.tmps.size D) (hm : ∀ i v w w', φ i v w → Grew w w' → φ i v w')
    (hstep : ∀ i o, i < n → ops[i]? = some o → StepOk P Q D Al φ a0 w0 i o)
    (hend : ∀ a w, Grew w0 w → SameBut D a0 a → (∀ i, i < n → φ i (slotOf D i a) w) → (∀ i, i < n → Al.contains i = true → IsNew (slotOf D i a) w0 w) → (∀ i j, i < n → j < n → i ≠ j → Al.contains i = true → Al.contains j = true → slotOf D i a ≠ slotOf D j a) → wpListIn Fence.wide dp P ops Q (ops.toList.drop n) a w) :
    ∀ (k : Nat) (listed : Array Bool) (a : Act) (w : World), listed.size = ops.size → (∀ j, n ≤ j → j < ops.size → listed.getD j true = false) → leftN listed n = k → Closed ops listed →
      FactsAt ops D Al φ a0 w0 n listed a w → wpAnyIn Fence.wide dp P .any ops Q (k + (ops.size - n)) listed a w := by
  intro k
  induction k with
  | zero =>
    intro listed a w hs ht hk _ h
    have hall := leftN_zero n hk
    have e : listed = ((List.range ops.size).map fun i => decide (i < n)).toArray := by
      apply Array.ext (by simp [hs])
      intro j h1 h2
      rcases Nat.lt_or_ge j n with hlt | hge
      · have := hall j hlt
        simp [h1] at this
        simp [this, hlt]
      · have := ht j hge (by omega)
        simp [h1] at this
        simp [this]; omega
    have hl : (ops.toList.drop n).length = ops.size - n := by simp
    rw [Nat.zero_add, ← hl]
    refine wpAnyIn_of_seq (ops.toList.drop n) n listed a w (fun j => by simp) ?_ ?_
    · rw [hl, e]; exact hO.seq
    · have hl : ∀ i, i < n → listed.getD i false = true := fun i hi => by
        rw [← getD_flip (by have := hO.le; omega)]
        exact hall i hi
      exact hend a w h.grew h.same (fun i hi => h.fact i hi (hl i hi)) (fun i hi hA => h.made i hi hA (hl i hi)) (fun i j hi hj hij hA hB => h.parted i j hi hj hij hA hB (hl i hi) (hl j hj))
  | succ k ih =>
    intro listed a w hs ht hk hcl h
    obtain ⟨i0, hi0, hl0, hless⟩ := leftN_least n (by omega : 0 < leftN listed n)
    have hfalse : listed.getD i0 false = false := by rw [← getD_flip (by have := hO.le; omega)]; exact hl0
    rw [Nat.succ_add]
    refine ⟨fun hr => ?_, fun i hi => ?_⟩
    · exfalso
      obtain ⟨o, d, ho, _⟩ := hO.dst i0 hi0
      have : i0 ∈ Region.ready .any ops listed := mem_ready.2 ⟨hl0, o, ho, fun e he hb => by
        have hlt := hO.back i0 o hi0 ho e he hb
        rw [← getD_flip (by have := hO.le; omega)]
        exact hless _ hlt⟩
      rw [hr] at this
      cases this
    · obtain ⟨hli, o, ho, hdep⟩ := mem_ready.1 hi
      have hin : i < n := by
        rcases Nat.lt_or_ge i n with h1 | h1
        · exact h1
        · exfalso
          have := hcl.reach 4 i i0 o ho hdep (hO.phase i o h1 ho i0 hi0)
          rw [hfalse] at this
          cases this
      obtain ⟨o', d, ho', hd, hdd, hdN, hdD⟩ := hO.dst i hin
      obtain rfl : o = o' := Option.some.inj (ho.symm.trans ho')
      have hA : Ahead D φ a w o.after.toList := ahead_of _ (fun e he hb => by
        have he' : e ∈ o.after := by simpa using he
        exact h.fact e.on (Nat.lt_trans (hO.back i o hin ho e he' hb) hin) (hdep e he' hb))
      have hst := hstep i o hin ho a w h.grew h.same hA
      have hs' : (listed.setIfInBounds i true).size = ops.size := by simpa using hs
      have ht' : ∀ j, n ≤ j → j < ops.size → (listed.setIfInBounds i true).getD j true = false := fun j h1 h2 => by
        rw [getD_set_ne true (by omega)]; exact ht j h1 h2
      have hcl' : Closed ops (listed.setIfInBounds i true) := fun j oj hj hoj e he hb => by
        by_cases hij : i = j
        · subst hij
          obtain rfl : o = oj := Option.some.inj (ho.symm.trans hoj)
          exact getD_set_true (hdep e he hb)
        · rw [getD_set_ne false hij] at hj
          exact getD_set_true (hcl j oj hj hoj e he hb)
      have hk' : leftN (listed.setIfInBounds i true) n = k := by
        have := leftN_set hli n hin
        omega
      have hwd : wantedD D o a = Region.wanted o (yielded ops a.tmps) := by
        unfold wantedD Region.wanted
        cases hgd : o.guard with
        | none => rfl
        | some g =>
          obtain ⟨g, b⟩ := g
          obtain ⟨og, dg, hog, hdg, hDg, hNg, _⟩ := hO.dst g (hO.guard i o _ hin ho hgd)
          have hsz : dg < a.tmps.size := by rw [h.same.size]; exact hNg
          simp only [yielded, hog, hdg, slotOf, Act.eval, hDg, Option.bind_some]
          rw [Array.getElem?_eq_getElem hsz]
          have : a.tmps.getD dg undef = a.tmps[dg] := by simp [hsz]
          rw [this]
          unfold isBool
          cases a.tmps[dg] <;> simp
      rw [hwd] at hst
      unfold wpOpIn
      simp only [ho]
      split
      · rename_i hw
        rw [if_pos hw] at hst
        refine oper_in (Oper.wp_mono (fun a' w' h' => ?_) hst)
        obtain ⟨v, rfl, hg, hv, hn⟩ := h'
        rw [hd]
        exact ih _ _ _ hs' ht' hk' hcl' (h.step hO hm hin hdd hdN hdD hg hv hn)
      · rename_i hw
        rw [if_neg hw] at hst
        refine ⟨fun _ _ => trivial, ?_⟩
        rw [hd]
        exact ih _ _ _ hs' ht' hk' hcl' (h.step hO hm hin hdd hdN hdD (Grew.refl _) hst.1 (fun h => by rw [hst.2] at h; cases h))

/-- One walk for all orders, within a round. -/
theorem wpIn_region_facts {id l : Nat} (w : World) (n : Nat) (D : List Tmp) (Al : List Nat) (φ : Nat → Value → World → Prop) (hf : P.follows .mixedOrders = true) (hnd : noDefer ops = true) (hB : factsB ops n a0.tmps.size D = true) (hg : Grew w0 w) (hm : ∀ i v w w', φ i v w → Grew w w' → φ i v w')
    (hstep : StepAll P Q D Al φ a0 w0 0 (ops.toList.take n))
    (hend : ∀ a w, Grew w0 w → SameBut D a0 a → (∀ i, i < n → φ i (slotOf D i a) w) → (∀ i, i < n → Al.contains i = true → IsNew (slotOf D i a) w0 w) → (∀ i j, i < n → j < n → i ≠ j → Al.contains i = true → Al.contains j = true → slotOf D i a ≠ slotOf D j a) → wpListIn Fence.wide dp P ops Q (ops.toList.drop n) a w) :
    (Code.region id ops true).wpIn (Fence.wide.inRound l) dp P Q a0 w := by
  have hO := factsB_ok hB
  refine region_round hf hnd ?_
  have hstep' : ∀ i o, i < n → ops[i]? = some o → StepOk P Q D Al φ a0 w0 i o := fun i o hi ho => by
    have := StepAll.get _ 0 hstep i o (by rw [List.getElem?_take_of_lt hi]; simpa using ho)
    rwa [Nat.zero_add] at this
  have h := wpAnyIn_facts (dp := dp) hO hm hstep' hend n (Array.replicate ops.size false) a0 w.drew (by simp) (fun j _ h2 => by simp [h2]) (leftN_none _ _ hO.le) (fun j o hj ho => by
    simp [show j < ops.size from (Array.getElem?_eq_some_iff.1 ho).1] at hj) ⟨hg.drew, ⟨rfl, rfl, fun _ _ => rfl⟩, fun i hi hl => by
    simp [show i < ops.size by have := hO.le; omega] at hl, fun i hi _ hl => by
    simp [show i < ops.size by have := hO.le; omega] at hl, fun i j hi _ _ _ _ hl _ => by
    simp [show i < ops.size by have := hO.le; omega] at hl⟩
  have e : n + (ops.size - n) = ops.size := by have := hO.le; omega
  rw [e] at h
  exact h
end
end Go.Proofs.YtilikjfjbnabfaaGreatDoor

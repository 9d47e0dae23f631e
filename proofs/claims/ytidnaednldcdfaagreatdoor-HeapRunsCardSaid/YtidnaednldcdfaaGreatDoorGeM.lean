/- Stage 12: the reference's Reached. -/
import Derived.Test.YtidnaednldcdfaaGreatDoorGeK
namespace Go.Proofs.YtidnaednldcdfaaGreatDoor
open Go.RowKit

/-- The marks, by their places. -/
def bL (L : List Hp.It) (Mk : List Int) : List Value := L.map (fun x => .bool (decide (x.i ∈ Mk)))
theorem bL_len (L : List Hp.It) (Mk : List Int) : (bL L Mk).length = L.length := by simp [bL]
theorem bL_at {L : List Hp.It} {p : Nat} {x : Hp.It} (h : L[p]? = some x) (Mk : List Int) : (bL L Mk)[p]? = some (.bool (decide (x.i ∈ Mk))) := by
  unfold bL
  rw [List.getElem?_map, h]
  rfl
theorem bL_set {L : List Hp.It} (hs : Hp.Sorted L) {p : Nat} {x : Hp.It} (h : L[p]? = some x) (Mk : List Int) : (bL L Mk).set p (.bool true) = bL L (x.i :: Mk) := by
  apply List.ext_getElem?
  intro a
  have hp := (List.getElem?_eq_some_iff.1 h).1
  rw [List.getElem?_set]
  by_cases ha : p = a
  · subst ha
    rw [if_pos rfl, if_pos (by rw [bL_len]; exact hp), bL_at h]
    simp
  · rw [if_neg ha]
    cases hy : L[a]? with
    | none =>
      have h1 : (bL L Mk)[a]? = none := by unfold bL; rw [List.getElem?_map, hy]; rfl
      have h2 : (bL L (x.i :: Mk))[a]? = none := by unfold bL; rw [List.getElem?_map, hy]; rfl
      rw [h1, h2]
    | some y =>
      rw [bL_at hy, bL_at hy]
      have hne : y.i ≠ x.i := fun e => by
        have hpw := List.pairwise_iff_getElem.1 hs
        obtain ⟨ha2, e2⟩ := List.getElem?_eq_some_iff.1 hy
        obtain ⟨hk2, e3⟩ := List.getElem?_eq_some_iff.1 h
        rcases Nat.lt_or_ge p a with h4 | h4
        · have := hpw p a hk2 ha2 h4
          rw [e2, e3] at this
          omega
        · have := hpw a p ha2 hk2 (by omega)
          rw [e2, e3] at this
          omega
      simp [hne]
theorem bL_nil (L : List Hp.It) : bL L [] = List.replicate L.length (.bool false) := by
  rw [List.eq_replicate_iff]
  refine ⟨bL_len L [], fun b hb => ?_⟩
  obtain ⟨x, _, rfl⟩ := List.mem_map.1 hb
  simp
/-- Where a round of Reached begins. -/
def RcO (w0 : World) (gx gi : Nat) (hc : Array Value) (L : List Hp.It) (rs : List Ob.Val) (todo : Value) (wr : World) (k : Nat) : Prop :=
  ∃ (A : Option Addr) (c : Nat) (tl : List Ob.Val) (Mk : List Int), todo = .slice A tl.length c ∧ tl.length ≤ 300000 ∧ ValsAt wr A tl ∧ (0 < tl.length → ∀ ad, A = some ad → ad.block ≠ gi) ∧ Blk wr gx 53 hc ∧ Blk wr gi 4 (bL L Mk).toArray ∧ Grew w0 wr ∧ Hp.LookInv L rs (fun u => u ∈ tl ∨ False) (Mk, []) ∧ (∀ v ∈ tl, Hp.IsRef L v → Hp.Reach L rs v.n) ∧ k = 2 * Hp.un L Mk + (if tl.length = 0 then 0 else 1)
/-- What is noted behind so many values. -/
def nxt (L : List Hp.It) (Mk : List Int) (l : List Ob.Val) : List Ob.Val := (Hp.lookAll L (Mk, []) l).2.flatMap (fun y : Hp.It => y.o.f)
theorem flat_le {l : List Hp.It} (h : ∀ x ∈ l, x.o.f.length ≤ 300) : (l.flatMap (fun y : Hp.It => y.o.f)).length ≤ 300 * l.length := by
  induction l with
  | nil => simp
  | cons x r ih =>
    have h1 := h x (List.mem_cons_self ..)
    have h2 := ih (fun y hy => h y (List.mem_cons_of_mem _ hy))
    rw [List.flatMap_cons, List.length_append, List.length_cons]
    omega
theorem look_mid {L : List Hp.It} (hs : Hp.Sorted L) {rs tl : List Ob.Val} {Mk : List Int} (h : Hp.LookInv L rs (fun u => u ∈ tl ∨ False) (Mk, [])) (hr : ∀ v ∈ tl, Hp.IsRef L v → Hp.Reach L rs v.n) (i : Nat) : Hp.LookInv L rs (fun u => u ∈ tl.drop i ∨ False) (Hp.lookAll L (Mk, []) (tl.take i)) :=
  Hp.LookInv.all hs (tl.take i) (h.more (fun u hu => by
    rcases hu with hu | hu
    · rw [← List.take_append_drop i tl, List.mem_append] at hu
      rcases hu with hu | hu
      · exact .inl hu
      · exact .inr (.inl hu)
    · exact hu.elim)) (fun v hv => hr v (List.mem_of_mem_take hv))
theorem nxt_fit {L : List Hp.It} (hs : Hp.Sorted L) (hL : L.length ≤ 1000) (hf : ∀ x ∈ L, x.o.f.length ≤ 300) {rs tl : List Ob.Val} {Mk : List Int} (h : Hp.LookInv L rs (fun u => u ∈ tl ∨ False) (Mk, [])) (hr : ∀ v ∈ tl, Hp.IsRef L v → Hp.Reach L rs v.n) (i : Nat) : (nxt L Mk (tl.take i)).length ≤ 300000 := by
  have h1 := look_mid hs h hr i
  have h2 := h1.few
  have h3 := flat_le (l := (Hp.lookAll L (Mk, []) (tl.take i)).2) (fun x hx => hf x (h1.opn x hx).1)
  unfold nxt
  omega
theorem nxt_ok {n : Nat} (hn : n ≤ 20) {L : List Hp.It} (hs : Hp.Sorted L) (hm : ∀ x ∈ L, Ob.mayB n x.o = true) {rs tl : List Ob.Val} {Mk : List Int} (h : Hp.LookInv L rs (fun u => u ∈ tl ∨ False) (Mk, [])) (hr : ∀ v ∈ tl, Hp.IsRef L v → Hp.Reach L rs v.n) (i : Nat) : ∀ u ∈ nxt L Mk (tl.take i), ValOk u := fun u hu => by
  have h1 := look_mid hs h hr i
  obtain ⟨x, hx, hu⟩ := List.mem_flatMap.1 hu
  exact hp_value ((hp_head (hm x (h1.opn x hx).1)).2.2.2.2.2.2 u hu) hn
theorem nxt_no {L : List Hp.It} {Mk : List Int} {tl : List Ob.Val} {i : Nat} {v : Ob.Val} (hv : tl[i]? = some v) (h : v.k ≠ 4 ∨ Hp.find L v.n = none ∨ v.n ∈ (Hp.lookAll L (Mk, []) (tl.take i)).1) : Hp.lookAll L (Mk, []) (tl.take (i + 1)) = Hp.lookAll L (Mk, []) (tl.take i) := by
  rw [List.take_add_one, hv]
  show Hp.lookAll L (Mk, []) (tl.take i ++ [v]) = _
  rw [Hp.lookAll_snoc, Hp.look_no h]
theorem nxt_yes {L : List Hp.It} {Mk : List Int} {tl : List Ob.Val} {i : Nat} {v : Ob.Val} {x : Hp.It} (hv : tl[i]? = some v) (hk : v.k = 4) (hf : Hp.find L v.n = some x) (hm : v.n ∉ (Hp.lookAll L (Mk, []) (tl.take i)).1) : Hp.lookAll L (Mk, []) (tl.take (i + 1)) = (v.n :: (Hp.lookAll L (Mk, []) (tl.take i)).1, (Hp.lookAll L (Mk, []) (tl.take i)).2 ++ [x]) := by
  rw [List.take_add_one, hv]
  show Hp.lookAll L (Mk, []) (tl.take i ++ [v]) = _
  rw [Hp.lookAll_snoc, Hp.look_yes hk hf hm]
/-- What Reached answers. -/
def RchV (w : World) (L : List Hp.It) (rs : List Ob.Val) (m : Nat) (e : Ending) (w' : World) : Prop := ∃ (g : Nat) (Mk : List Int), e = .returned (.slice (some ⟨g, 0, none⟩) m m) ∧ Blk w' g 4 (bL L Mk).toArray ∧ (∀ i, i ∈ Mk ↔ Hp.Reach L rs i) ∧ w.heap.size ≤ g ∧ Grew w w'
end Go.Proofs.YtidnaednldcdfaaGreatDoor

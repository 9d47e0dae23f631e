/- General words: an append to a slice of the call's own leaves all others as they were. No program is named here. -/
import Derived.Test.YtilikjfjbnabfaaGreatDoorOwn
namespace Go.Proofs.YtilikjfjbnabfaaGreatDoor
open Go.RowKit

/-- What is not the slice that was appended to is as it was. -/
def KeptBut (w w' : World) (A : Option Addr) : Prop := ∀ g, g < w.heap.size → A ≠ some ⟨g, 0, none⟩ → w'.heap[g]? = w.heap[g]?
theorem OwnNums.keptBut {k : IntKind} {w0 w w' : World} {e : TypeId} {A A2 : Option Addr} {c : Nat} {xs : List Nat} (h : OwnNums k w0 w e A2 c xs) (hk : KeptBut w w' A) (hne : ∀ g, A2 = some ⟨g, 0, none⟩ → A ≠ some ⟨g, 0, none⟩) : OwnNums k w0 w' e A2 c xs := by
  refine ⟨h.1, ?_⟩
  rcases h.2 with h1 | ⟨g, cap, cur, hv, hb, hh, hr⟩
  · exact .inl h1
  · refine .inr ⟨g, cap, cur, hv, hb, ?_, hr⟩
    rw [hk g ((World.ownsRow.lt h) g (by rw [hv]; rfl)).2 (hne g (by simp only [Value.slice.injEq] at hv; exact hv.1))]
    exact hh
theorem KeptBut.alloc {w w' : World} {A : Option Addr} {o : Obj} (h : KeptBut (w.alloc o) w' A) : KeptBut w w' A := fun g hg hA => by
  rw [h g (by simp only [World.size_alloc]; omega) hA]
  exact Below.heap_alloc w o g hg

theorem wpList_pushK {P : Program} {ops : Array Oper} {rest : List Oper} {o : Oper} {a : Act} {Q : Exit → Act → World → Prop} (k : IntKind) (b : Nat) (w0 w : World) (hgd : o.guard = none) (s x : Operand) (t e : TypeId)
    (ho : o.op = .call { callee := .builtin .append, args := #[s, x], argTypes := #[t, t] })
    (ht : P.underlying t = some (.slice e)) (he : (P.info? e).map (fun i => (i.zero, i.size, i.bytes)) = some (some (.int k 0), 1, b))
    (hg : Grew w0 w) (A : Option Addr) (c : Nat) (ys : List Nat) (hs : a.eval s = .slice A ys.length c) (hown : OwnNums k w0 w e A c ys) (v : Nat) (H : Nat) (hH : w.heap.size = H) (hxv : a.eval x = .slice (some ⟨H, 0, none⟩) 1 1) (u : Value) (hu : u = .int k ((v : Nat) : Int))
    (hlen : ys.length + 1 ≤ 9223372036854775807) (hby : (ys.length + 1) * b ≤ 140737488355328)
    (h : ∀ A' c' M w', Hid (M = ys ++ [v]) → OwnNums k w0 w' e A' c' M → Grew w0 w' → KeptBut w w' A → wpList P ops Q rest (a.put o.dst (.slice A' M.length c')) w') : wpList P ops Q (o :: rest) a (w.alloc (.cells #[u] e)) := by
  subst hH
  subst hu
  refine wpList_plain hgd fun K hK => ?_
  obtain ⟨i, hi, hz0, hz1, hz2⟩ := info_parts he
  have hone := NumsAt.one k w e v
  obtain ⟨ad, ea, hb, hc⟩ := hone (by simp)
  have ea' := Option.some.inj ea
  subst ea'
  have hown2 : OwnNums k w0 (w.alloc (.cells #[.int k ((v : Nat) : Int)] e)) e A c ys := hown.alloc _
  have hg2 : Grew w0 (w.alloc (.cells #[.int k ((v : Nat) : Int)] e)) := hg.alloc _
  obtain ⟨v', w', hrun, hown', hgr, _⟩ := run_append_own (P := P) (w := w.alloc (.cells #[.int k ((v : Nat) : Int)] e)) w0.heap.size t o.type e i (.int k 0) 1 b ht hi hz0 hz1 hz2 rfl (by decide) _ ys.length (numCells k ys) hown2 ⟨w.heap.size, 0, none⟩ 1 1
    (numCells k [v]) (by simp [numCells]) (fun j u hu => by
      have hj : j < 1 := by
        have := (List.getElem?_eq_some_iff.1 hu).1
        simpa [numCells] using this
      rw [hc j hj, ← numCells_get k [v] j hj]
      exact hu) (fun u hu => by
      obtain ⟨_, _, rfl⟩ := List.mem_map.1 hu
      rfl) (by simp only [maxLen]; exact hlen) hby hg2.below.size
  have hG : Grew w0 w' := .mk (hg2.below.grown hgr hg2.below.size (fun g hgk => ((World.ownsRow.lt hown2) g hgk).1))
  rw [← numCells_append] at hown'
  have hK2 : KeptBut (w.alloc (.cells #[.int k ((v : Nat) : Int)] e)) w' A := fun g hgl hA => hgr.block g hgl (by
    intro hrow
    cases A with
    | none => simp [Value.ownBlock] at hrow
    | some ad =>
      rcases hown2.cases with ⟨h1, _⟩ | ⟨g', h1, _⟩
      · cases h1
      · have h1' := Option.some.inj h1
        subst h1'
        have h2 : g = g' := Option.some.inj hrow
        exact hA (by rw [h2]))
  rcases hown'.2 with ⟨rfl, h0⟩ | ⟨g, cap, cur, rfl, hr⟩
  · omega
  · unfold Oper.wp
    simp only [execOp, ho, resolve, invoke, builtin, Sem.run_bind, Sem.run_pure, Result.andThen_ok, List.map_toArray, List.map_cons, List.map_nil, hs, hxv, hrun]
    have := h (some ⟨g, 0, none⟩) cap (ys ++ [v]) w' rfl (by unfold OwnNums; rw [List.length_append]; exact hown') hG hK2.alloc
    rw [List.length_append] at this
    exact hK _ _ this
end Go.Proofs.YtilikjfjbnabfaaGreatDoor

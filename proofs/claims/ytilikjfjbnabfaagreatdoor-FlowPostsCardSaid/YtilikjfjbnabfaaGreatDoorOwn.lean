/- General words: a slice of unsigned numbers that reads as a list; one that the call has made itself, and appends to it. No program is named here. -/
import Derived.Test.YtilikjfjbnabfaaGreatDoorBase
import Derived.Laws.AppendOwnNone
import Derived.Laws.OwnMore
namespace Go.Proofs.YtilikjfjbnabfaaGreatDoor
open Go.RowKit

def numCells (k : IntKind) (xs : List Nat) : List Value := xs.map fun x : Nat => Value.int k ((x : Nat) : Int)
theorem numCells_length (k : IntKind) (xs : List Nat) : (numCells k xs).length = xs.length := by simp [numCells]
theorem numCells_append (k : IntKind) (xs ys : List Nat) : numCells k (xs ++ ys) = numCells k xs ++ numCells k ys := by simp [numCells]
theorem numCells_get (k : IntKind) (xs : List Nat) (j : Nat) (hj : j < xs.length) : (numCells k xs)[j]? = some (.int k ((xs.getD j 0 : Nat) : Int)) := by
  simp [numCells, List.getD_eq_getElem?_getD, List.getElem?_eq_getElem hj]
theorem numCells_set (k : IntKind) (xs : List Nat) (j x : Nat) : (numCells k xs).set j (.int k ((x : Nat) : Int)) = numCells k (xs.set j x) := by
  simp [numCells, List.map_set]

/-- 'xs.length' cells of kind k from address 'A' on hold 'xs'; they lie below block 'B'. -/
def NumsAt (k : IntKind) (w : World) (B : Nat) (A : Option Addr) (xs : List Nat) : Prop :=
  0 < xs.length → ∃ ad, A = some ad ∧ ad.block < B ∧ ∀ j, j < xs.length → w.cell? (ad.add j) = some (.int k ((xs.getD j 0 : Nat) : Int))
theorem NumsAt.nil (k : IntKind) (w : World) (B : Nat) (A : Option Addr) : NumsAt k w B A [] := fun h => absurd h (by simp)
theorem NumsAt.grew {k : IntKind} {w w' : World} {A : Option Addr} {xs : List Nat} (h : NumsAt k w w.heap.size A xs) (hg : Grew w w') : NumsAt k w' w'.heap.size A xs := by
  intro hn
  obtain ⟨ad, e, hb, hc⟩ := h hn
  exact ⟨ad, e, Nat.lt_of_lt_of_le hb hg.below.size, fun j hj => by rw [hg.below.cell (by rw [block_add]; exact hb)]; exact hc j hj⟩
theorem NumsAt.take {k : IntKind} {w : World} {B : Nat} {A : Option Addr} {xs : List Nat} (h : NumsAt k w B A xs) (n : Nat) : NumsAt k w B A (xs.take n) := by
  intro hn
  have hlen : (xs.take n).length ≤ xs.length := List.length_take_le' n xs
  obtain ⟨ad, e, hb, hc⟩ := h (by omega)
  refine ⟨ad, e, hb, fun j hj => ?_⟩
  rw [hc j (by omega)]
  have : j < n := by have := List.length_take_le n xs; omega
  simp [List.getD_eq_getElem?_getD, this]
theorem NumsAt.of_bytes {w : World} {B : Nat} {A : Option Addr} {xs : List Nat} (h : BytesAt w B A xs) : NumsAt .u8 w B A xs := h.2
theorem NumsAt.to_bytes {w : World} {B : Nat} {A : Option Addr} {xs : List Nat} (h : NumsAt .u8 w B A xs) (hx : ∀ x ∈ xs, x < 256) : BytesAt w B A xs := ⟨hx, h⟩
theorem NumsAt.one (k : IntKind) (w : World) (e : TypeId) (x : Nat) : NumsAt k (w.alloc (.cells #[.int k ((x : Nat) : Int)] e)) (w.alloc (.cells #[.int k ((x : Nat) : Int)] e)).heap.size (some ⟨w.heap.size, 0, none⟩) [x] := by
  intro _
  refine ⟨_, rfl, by simp, fun j hj => ?_⟩
  obtain rfl : j = 0 := by simpa using hj
  rw [add_zero]
  simp

/-- The slice that starts at 'A', of capacity 'c', is nil or made since 'w0' began, and holds 'xs'. -/
def OwnNums (k : IntKind) (w0 w : World) (e : TypeId) (A : Option Addr) (c : Nat) (xs : List Nat) : Prop := w.ownsRow w0.heap.size e 1 (.slice A xs.length c) xs.length (numCells k xs)
theorem OwnNums.nil (k : IntKind) (w0 w : World) (e : TypeId) : OwnNums k w0 w e none 0 [] := World.ownsRow_nil w _ e 1
theorem OwnNums.alloc {k : IntKind} {w0 w : World} {e : TypeId} {A : Option Addr} {c : Nat} {xs : List Nat} (h : OwnNums k w0 w e A c xs) (o : Obj) : OwnNums k w0 (w.alloc o) e A c xs := World.ownsRow.alloc h o
theorem OwnNums.drew {k : IntKind} {w0 w : World} {e : TypeId} {A : Option Addr} {c : Nat} {xs : List Nat} (h : OwnNums k w0 w e A c xs) : OwnNums k w0 w.drew e A c xs := h
theorem OwnNums.cases {k : IntKind} {w0 w : World} {e : TypeId} {A : Option Addr} {c : Nat} {xs : List Nat} (h : OwnNums k w0 w e A c xs) :
    (A = none ∧ c = 0 ∧ xs = []) ∨ ∃ g, A = some ⟨g, 0, none⟩ ∧ w0.heap.size ≤ g ∧ g < w.heap.size ∧ (∀ j, j < xs.length → w.cell? ⟨g, j, none⟩ = some (.int k ((xs.getD j 0 : Nat) : Int))) ∧ (∀ j, w.frozen? ⟨g, j, none⟩ = false) ∧ xs.length ≤ c := by
  rcases h.2 with ⟨h1, h2⟩ | ⟨g, cap, cur, hv, hb, hh, hnc, hcm, hs, ht⟩
  · simp only [Value.slice.injEq] at h1
    exact .inl ⟨h1.1, h1.2.2, List.eq_nil_of_length_eq_zero h2⟩
  · simp only [Value.slice.injEq] at hv
    obtain ⟨rfl, _, rfl⟩ := hv
    refine .inr ⟨g, rfl, hb, ((World.ownsRow.lt h) g rfl).2, fun j hj => ?_, fun j => World.ownsRow.frozenAt h j, hnc⟩
    rw [World.ownsRow.cellAt h j (by omega), numCells_get k xs j hj]
theorem OwnNums.at {k : IntKind} {w0 w : World} {e : TypeId} {A : Option Addr} {c : Nat} {xs : List Nat} (h : OwnNums k w0 w e A c xs) : NumsAt k w w.heap.size A xs := by
  intro hn
  rcases h.cases with ⟨_, _, rfl⟩ | ⟨g, rfl, _, hlt, hc, _⟩
  · simp at hn
  · refine ⟨_, rfl, hlt, fun j hj => ?_⟩
    rw [← hc j hj]
    congr 1
    simp [Addr.add]; omega
theorem OwnNums.cap {k : IntKind} {w0 w : World} {e : TypeId} {A : Option Addr} {c : Nat} {xs : List Nat} (h : OwnNums k w0 w e A c xs) : xs.length ≤ c ∧ c ≤ 9223372036854775807 := by
  rcases h.2 with ⟨h1, h2⟩ | ⟨g, cap, cur, hv, hb, hh, hnc, hcm, hs, ht⟩
  · simp only [Value.slice.injEq] at h1
    omega
  · simp only [Value.slice.injEq] at hv
    simp only [maxLen] at hcm
    omega
/-- A shorter one on the same cells. -/
theorem OwnNums.take {k : IntKind} {w0 w : World} {e : TypeId} {A : Option Addr} {c : Nat} {xs : List Nat} (h : OwnNums k w0 w e A c xs) (n : Nat) : OwnNums k w0 w e A c (xs.take n) := by
  have hl : (xs.take n).length ≤ xs.length := List.length_take_le' n xs
  refine ⟨by rw [numCells_length, Nat.mul_one], ?_⟩
  rcases h.2 with ⟨h1, h2⟩ | ⟨g, cap, cur, hv, hb, hh, hnc, hcm, hs, ht⟩
  · simp only [Value.slice.injEq] at h1
    refine .inl ⟨?_, by omega⟩
    rw [h1.1, h1.2.2, show (xs.take n).length = 0 by omega]
  · simp only [Value.slice.injEq] at hv
    refine .inr ⟨g, cap, cur, by rw [hv.1, hv.2.2], hb, hh, by omega, hcm, hs, ?_⟩
    have e1 : numCells k (xs.take n) = (numCells k xs).take (xs.take n).length := by
      rw [numCells, List.map_take, numCells, List.take_eq_take_iff]
      simp
    rw [e1, ← ht, List.take_take]
    congr 1
    omega
/-- What the call does elsewhere leaves it as it is. -/
theorem OwnNums.grew {k : IntKind} {w0 w w' : World} {e : TypeId} {A : Option Addr} {c : Nat} {xs : List Nat} (h : OwnNums k w0 w e A c xs) (hg : Grew w w') : OwnNums k w0 w' e A c xs := by
  refine ⟨h.1, ?_⟩
  rcases h.2 with ⟨h1, h2⟩ | ⟨g, cap, cur, hv, hb, hh, hnc, hcm, hs, ht⟩
  · exact .inl ⟨h1, h2⟩
  · refine .inr ⟨g, cap, cur, hv, hb, ?_, hnc, hcm, hs, ht⟩
    rw [hg.below.block g]
    · exact hh
    · exact ((World.ownsRow.lt h) g (by rw [hv]; rfl)).2
theorem OwnNums.mono {k : IntKind} {w0 w1 w : World} {e : TypeId} {A : Option Addr} {c : Nat} {xs : List Nat} (h : OwnNums k w1 w e A c xs) (hg : Grew w0 w1) : OwnNums k w0 w e A c xs := by
  refine ⟨h.1, ?_⟩
  rcases h.2 with h1 | ⟨g, cap, cur, hv, hb, hr⟩
  · exact .inl h1
  · exact .inr ⟨g, cap, cur, hv, Nat.le_trans hg.below.size hb, hr⟩
theorem OwnNums.set {k : IntKind} {w0 w : World} {e : TypeId} {g c : Nat} {xs : List Nat} (h : OwnNums k w0 w e (some ⟨g, 0, none⟩) c xs) (j x : Nat) : OwnNums k w0 (w.setCell ⟨g, j, none⟩ (.int k ((x : Nat) : Int))) e (some ⟨g, 0, none⟩) c (xs.set j x) := by
  have := (World.ownsRow.stored h j (.int k ((x : Nat) : Int))).1
  unfold OwnNums
  rw [List.length_set, ← numCells_set]
  exact this
theorem OwnNums.far {k : IntKind} {w0 w : World} {e : TypeId} {A : Option Addr} {c : Nat} {xs : List Nat} (h : OwnNums k w0 w e A c xs) {p : Addr} (hp : ∀ g, A = some ⟨g, 0, none⟩ → g ≠ p.block) (u : Value) : OwnNums k w0 (w.setCell p u) e A c xs := by
  refine ⟨h.1, ?_⟩
  rcases h.2 with h1 | ⟨g, cap, cur, hv, hb, hh, hr⟩
  · exact .inl h1
  · refine .inr ⟨g, cap, cur, hv, hb, ?_, hr⟩
    simp only [Value.slice.injEq] at hv
    rw [Below.heap_setCell w p u g (hp g hv.1)]
    exact hh

/-- 'append(out, xs...)': 'out' is nil or the call's own; 'xs' lies anywhere. -/
theorem run_cat {P : Program} (k : IntKind) (t ty e : TypeId) (b : Nat) (ht : P.underlying t = some (.slice e)) (he : (P.info? e).map (fun i => (i.zero, i.size, i.bytes)) = some (some (.int k 0), 1, b))
    (w0 w : World) (hg : Grew w0 w) (A : Option Addr) (c : Nat) (ys : List Nat) (hown : OwnNums k w0 w e A c ys) (A2 : Option Addr) (c2 : Nat) (xs : List Nat) (hx : NumsAt k w w.heap.size A2 xs)
    (hlen : ys.length + xs.length ≤ 9223372036854775807) (hby : (ys.length + xs.length) * b ≤ 140737488355328) :
    ∃ A' c' w', (Builtin.append_ #[t, t] ty #[.slice A ys.length c, .slice A2 xs.length c2]).run P w = .ok (.slice A' (ys.length + xs.length) c') w' ∧ OwnNums k w0 w' e A' c' (ys ++ xs) ∧ Grew w0 w' := by
  obtain ⟨i, hi, hz0, hz1, hz2⟩ := info_parts he
  have fin : ∀ (ad : Addr) (_ : ∀ j u, (numCells k xs)[j]? = some u → w.cell? (ad.add j) = some u),
      ∃ A' c' w', (Builtin.append_ #[t, t] ty #[.slice A ys.length c, .slice (some ad) xs.length c2]).run P w = .ok (.slice A' (ys.length + xs.length) c') w' ∧ OwnNums k w0 w' e A' c' (ys ++ xs) ∧ Grew w0 w' := by
    intro ad hc
    obtain ⟨v', w', hrun, hown', hgr, _⟩ := run_append_own (P := P) (w := w) w0.heap.size t ty e i (.int k 0) 1 b ht hi hz0 hz1 hz2 rfl (by decide) _ ys.length (numCells k ys) hown ad xs.length c2
      (numCells k xs) (by simp [numCells]) hc (fun u hu => by
        obtain ⟨_, _, rfl⟩ := List.mem_map.1 hu
        rfl) (by simp only [maxLen]; exact hlen) hby hg.below.size
    have hG : Grew w0 w' := .mk (hg.below.grown hgr hg.below.size (fun g hgk => ((World.ownsRow.lt hown) g hgk).1))
    rw [← numCells_append] at hown'
    rcases hown'.2 with ⟨rfl, h0⟩ | ⟨g, cap, cur, rfl, hr⟩
    · refine ⟨none, 0, w', ?_, ?_, hG⟩
      · rw [hrun, h0]
      · unfold OwnNums
        rw [List.length_append, h0]
        rw [h0] at hown'
        exact hown'
    · refine ⟨some ⟨g, 0, none⟩, cap, w', hrun, ?_, hG⟩
      unfold OwnNums
      rw [List.length_append]
      exact hown'
  rcases Nat.eq_zero_or_pos xs.length with h0 | h0
  · obtain rfl := List.eq_nil_of_length_eq_zero h0
    cases A2 with
    | some ad => exact fin ad (fun j u hu => by simp [numCells] at hu)
    | none =>
      refine ⟨A, c, w, ?_, by simpa using hown, hg⟩
      rcases hown.cases with ⟨rfl, rfl, rfl⟩ | ⟨g, rfl, _, _, _, _, hle⟩
      · simp [Builtin.append_, run_underlying ht, sizeOf, typeInfo, hi, Builtin.lenOf, Builtin.firstCells]
      · simp [Builtin.append_, run_underlying ht, sizeOf, typeInfo, hi, Builtin.lenOf, Builtin.firstCells, storeCells, hle]
  · obtain ⟨ad, rfl, hb, hc⟩ := hx h0
    exact fin ad (fun j u hu => by
      have hj : j < xs.length := by
        have := (List.getElem?_eq_some_iff.1 hu).1
        simpa [numCells] using this
      rw [hc j hj, ← numCells_get k xs j hj]
      exact hu)

theorem wpList_cat {P : Program} {ops : Array Oper} {rest : List Oper} {o : Oper} {a : Act} {Q : Exit → Act → World → Prop} (k : IntKind) (b : Nat) (w0 w : World) (hgd : o.guard = none) (s x : Operand) (t e : TypeId)
    (ho : o.op = .call { callee := .builtin .append, args := #[s, x], argTypes := #[t, t] })
    (ht : P.underlying t = some (.slice e)) (he : (P.info? e).map (fun i => (i.zero, i.size, i.bytes)) = some (some (.int k 0), 1, b))
    (hg : Grew w0 w) (A : Option Addr) (c : Nat) (ys : List Nat) (hs : a.eval s = .slice A ys.length c) (hown : OwnNums k w0 w e A c ys) (A2 : Option Addr) (c2 : Nat) (xs : List Nat) (hxv : a.eval x = .slice A2 xs.length c2) (hx : NumsAt k w w.heap.size A2 xs)
    (hlen : ys.length + xs.length ≤ 9223372036854775807) (hby : (ys.length + xs.length) * b ≤ 140737488355328)
    (h : ∀ A' c' w', OwnNums k w0 w' e A' c' (ys ++ xs) → Grew w0 w' → wpList P ops Q rest (a.put o.dst (.slice A' (ys.length + xs.length) c')) w') : wpList P ops Q (o :: rest) a w := by
  refine wpList_plain hgd fun K hK => ?_
  obtain ⟨A', c', w', hrun, h1, h2⟩ := run_cat (P := P) k t o.type e b ht he w0 w hg A c ys hown A2 c2 xs hx hlen hby
  unfold Oper.wp
  simp only [execOp, ho, resolve, invoke, builtin, Sem.run_bind, Sem.run_pure, Result.andThen_ok, List.map_toArray, List.map_cons, List.map_nil, hs, hxv, hrun]
  exact hK _ _ (h A' c' w' h1 h2)

/-- The same; the new list has a name of its own. -/
theorem wpList_catM {P : Program} {ops : Array Oper} {rest : List Oper} {o : Oper} {a : Act} {Q : Exit → Act → World → Prop} (k : IntKind) (b : Nat) (w0 w : World) (hgd : o.guard = none) (s x : Operand) (t e : TypeId)
    (ho : o.op = .call { callee := .builtin .append, args := #[s, x], argTypes := #[t, t] })
    (ht : P.underlying t = some (.slice e)) (he : (P.info? e).map (fun i => (i.zero, i.size, i.bytes)) = some (some (.int k 0), 1, b))
    (hg : Grew w0 w) (A : Option Addr) (c : Nat) (ys : List Nat) (hs : a.eval s = .slice A ys.length c) (hown : OwnNums k w0 w e A c ys) (A2 : Option Addr) (c2 : Nat) (xs : List Nat) (hxv : a.eval x = .slice A2 xs.length c2) (hx : NumsAt k w w.heap.size A2 xs)
    (hlen : ys.length + xs.length ≤ 9223372036854775807) (hby : (ys.length + xs.length) * b ≤ 140737488355328)
    (h : ∀ A' c' M w', Hid (M = ys ++ xs) → OwnNums k w0 w' e A' c' M → Grew w0 w' → wpList P ops Q rest (a.put o.dst (.slice A' M.length c')) w') : wpList P ops Q (o :: rest) a w :=
  wpList_cat k b w0 w hgd s x t e ho ht he hg A c ys hs hown A2 c2 xs hxv hx hlen hby fun A' c' w' h1 h2 => by
    have := h A' c' (ys ++ xs) w' rfl h1 h2
    rwa [List.length_append] at this

/-- 'append(out, v)': the one new cell lies in a block of its own. -/
theorem wpList_push {P : Program} {ops : Array Oper} {rest : List Oper} {o : Oper} {a : Act} {Q : Exit → Act → World → Prop} (k : IntKind) (b : Nat) (w0 w : World) (hgd : o.guard = none) (s x : Operand) (t e : TypeId)
    (ho : o.op = .call { callee := .builtin .append, args := #[s, x], argTypes := #[t, t] })
    (ht : P.underlying t = some (.slice e)) (he : (P.info? e).map (fun i => (i.zero, i.size, i.bytes)) = some (some (.int k 0), 1, b))
    (hg : Grew w0 w) (A : Option Addr) (c : Nat) (ys : List Nat) (hs : a.eval s = .slice A ys.length c) (hown : OwnNums k w0 w e A c ys) (v : Nat) (H : Nat) (hH : w.heap.size = H) (hxv : a.eval x = .slice (some ⟨H, 0, none⟩) 1 1) (u : Value) (hu : u = .int k ((v : Nat) : Int))
    (hlen : ys.length + 1 ≤ 9223372036854775807) (hby : (ys.length + 1) * b ≤ 140737488355328)
    (h : ∀ A' c' w', OwnNums k w0 w' e A' c' (ys ++ [v]) → Grew w0 w' → wpList P ops Q rest (a.put o.dst (.slice A' (ys.length + 1) c')) w') : wpList P ops Q (o :: rest) a (w.alloc (.cells #[u] e)) := by
  subst hH
  subst hu
  exact wpList_cat k b w0 (w.alloc (.cells #[.int k ((v : Nat) : Int)] e)) hgd s x t e ho ht he (hg.alloc _) A c ys hs (hown.alloc _) (some ⟨w.heap.size, 0, none⟩) 1 [v] hxv (NumsAt.one k w e v) hlen hby h
end Go.Proofs.YtilikjfjbnabfaaGreatDoor

/- General words: the walk's laws for an append to a row of the call's own, all other blocks told. No program is named here. -/
import Derived.Test.YtilikjfjbnabfaaGreatDoorKept
import Derived.Deep.RegionLaw
namespace Go.Proofs.YtilikjfjbnabfaaGreatDoor
open Go.RowKit

/-- The row is where it was, or in a new block. -/
def RowTo (w : World) (A A' : Option Addr) : Prop := A' = A ∨ ∃ g, A' = some ⟨g, 0, none⟩ ∧ w.heap.size ≤ g
theorem wpList_catR {P : Program} {ops : Array Oper} {rest : List Oper} {o : Oper} {a : Act} {Q : Exit → Act → World → Prop} (z : Value) (sz b : Nat) (w : World) (hgd : o.guard = none) (s x : Operand) (t e : TypeId)
    (ho : o.op = .call { callee := .builtin .append, args := #[s, x], argTypes := #[t, t] })
    (ht : P.underlying t = some (.slice e)) (he : (P.info? e).map (fun i => (i.zero, i.size, i.bytes)) = some (some z, sz, b)) (hzs : z.cells.size = sz) (hsz : 0 < sz)
    (B : Nat) (hB : B ≤ w.heap.size) (A : Option Addr) (n c : Nat) (ys : List Value) (hs : a.eval s = .slice A n c) (hown : Row w B e sz A n c ys) (A2 : Option Addr) (m c2 : Nat) (xs : List Value) (hxv : a.eval x = .slice A2 m c2)
    (hl : xs.length = m * sz) (h1 : ∀ u ∈ xs, u.oneCell' = true) (hA : A2 = none → m = 0) (hx : ∀ ad, A2 = some ad → ∀ j u, xs[j]? = some u → w.cell? (ad.add j) = some u)
    (hlen : n + m ≤ 9223372036854775807) (hby : (n + m) * b ≤ 140737488355328)
    (h : ∀ A' c' w', Row w' B e sz A' (n + m) c' (ys ++ xs) → Kept (AtRow A) w w' → RowTo w A A' → wpList P ops Q rest (a.put o.dst (.slice A' (n + m) c')) w') : wpList P ops Q (o :: rest) a w := by
  refine wpList_plain hgd fun K hK => ?_
  obtain ⟨A', c', w', hrun, r1, r2, r3⟩ := run_catR (P := P) t o.type e z sz b ht he hzs hsz w B hB A n c ys hown A2 m c2 xs hl h1 hA hx hlen hby
  unfold Oper.wp
  simp only [execOp, ho, resolve, invoke, builtin, Sem.run_bind, Sem.run_pure, Result.andThen_ok, List.map_toArray, List.map_cons, List.map_nil, hs, hxv, hrun]
  exact hK _ _ (h A' c' w' r1 r2 r3)
theorem Kept.of_alloc {F : Nat → Prop} {w w' : World} {o : Obj} (h : Kept F (w.alloc o) w') : Kept F w w' :=
  ((Kept.refl F w).alloc o).trans h
/-- 'append(out, v)': the one new element lies in a block of its own. -/
theorem wpList_pushR {P : Program} {ops : Array Oper} {rest : List Oper} {o : Oper} {a : Act} {Q : Exit → Act → World → Prop} (z : Value) (b : Nat) (w : World) (hgd : o.guard = none) (s x : Operand) (t e : TypeId)
    (ho : o.op = .call { callee := .builtin .append, args := #[s, x], argTypes := #[t, t] })
    (ht : P.underlying t = some (.slice e)) (he : (P.info? e).map (fun i => (i.zero, i.size, i.bytes)) = some (some z, 1, b)) (hzs : z.cells.size = 1)
    (B : Nat) (hB : B ≤ w.heap.size) (A : Option Addr) (n c : Nat) (ys : List Value) (hs : a.eval s = .slice A n c) (hown : Row w B e 1 A n c ys) (H : Nat) (hH : w.heap.size = H) (hxv : a.eval x = .slice (some ⟨H, 0, none⟩) 1 1) (u : Value) (h1 : u.oneCell' = true)
    (hlen : n + 1 ≤ 9223372036854775807) (hby : (n + 1) * b ≤ 140737488355328)
    (h : ∀ A' c' w', Row w' B e 1 A' (n + 1) c' (ys ++ [u]) → Kept (AtRow A) w w' → RowTo w A A' → wpList P ops Q rest (a.put o.dst (.slice A' (n + 1) c')) w') : wpList P ops Q (o :: rest) a (w.alloc (.cells #[u] e)) := by
  subst hH
  refine wpList_catR z 1 b (w.alloc (.cells #[u] e)) hgd s x t e ho ht he hzs (by decide) B (by simp only [World.size_alloc]; omega) A n c ys hs (hown.grew ((Grew.refl w).alloc _)) _ 1 1 [u] hxv (by simp) (by simpa using h1) (by intro h; cases h) (fun ad had j v hv => ?_) hlen hby (fun A' c' w' r1 r2 r3 => h A' c' w' r1 (r2.of_alloc) (r3.imp id (fun ⟨g, h1, h2⟩ => ⟨g, h1, by simp only [World.size_alloc] at h2; omega⟩)))
  obtain rfl := Option.some.inj had
  have hj : j = 0 := by
    have := (List.getElem?_eq_some_iff.1 hv).1
    simpa using this
  subst hj
  obtain rfl : u = v := by simpa using hv
  rw [add_zero]
  simp
/-- The same law for a region that draws its order. -/
theorem step_catR {P : Program} {ops : Array Oper} {o : Oper} {a : Act} {w : World} {K : Act → World → Prop} {Q : Exit → Act → World → Prop} {E : Prop} (z : Value) (sz b : Nat) (hgd : o.guard = none) (s x : Operand) (t e : TypeId)
    (ho : o.op = .call { callee := .builtin .append, args := #[s, x], argTypes := #[t, t] })
    (ht : P.underlying t = some (.slice e)) (he : (P.info? e).map (fun i => (i.zero, i.size, i.bytes)) = some (some z, sz, b)) (hzs : z.cells.size = sz) (hsz : 0 < sz)
    (B : Nat) (hB : B ≤ w.heap.size) (A : Option Addr) (n c : Nat) (ys : List Value) (hs : a.eval s = .slice A n c) (hown : Row w B e sz A n c ys) (A2 : Option Addr) (m c2 : Nat) (xs : List Value) (hxv : a.eval x = .slice A2 m c2)
    (hl : xs.length = m * sz) (h1 : ∀ u ∈ xs, u.oneCell' = true) (hA : A2 = none → m = 0) (hx : ∀ ad, A2 = some ad → ∀ j u, xs[j]? = some u → w.cell? (ad.add j) = some u)
    (hlen : n + m ≤ 9223372036854775807) (hby : (n + m) * b ≤ 140737488355328)
    (h : ∀ A' c' w', Row w' B e sz A' (n + m) c' (ys ++ xs) → Kept (AtRow A) w w' → RowTo w A A' → K (a.put o.dst (.slice A' (n + m) c')) w') :
    if Region.wanted o (yielded ops a.tmps) = true then Oper.wp P o a w K Q else E := by
  have hw : Region.wanted o (yielded ops a.tmps) = true := by simp [Region.wanted, hgd]
  rw [if_pos hw]
  obtain ⟨A', c', w', hrun, r1, r2, r3⟩ := run_catR (P := P) t o.type e z sz b ht he hzs hsz w B hB A n c ys hown A2 m c2 xs hl h1 hA hx hlen hby
  unfold Oper.wp
  simp only [execOp, ho, resolve, invoke, builtin, Sem.run_bind, Sem.run_pure, Result.andThen_ok, List.map_toArray, List.map_cons, List.map_nil, hs, hxv, hrun]
  exact h A' c' w' r1 r2 r3
theorem numCells_one (k : IntKind) (xs : List Nat) : ∀ u ∈ numCells k xs, u.oneCell' = true := by
  intro u hu
  obtain ⟨_, _, rfl⟩ := List.mem_map.1 hu
  rfl
theorem NumsAt.cells {k : IntKind} {w : World} {B : Nat} {A : Option Addr} {xs : List Nat} (h : NumsAt k w B A xs) : (A = none → xs.length = 0) ∧ ∀ ad, A = some ad → ∀ j u, (numCells k xs)[j]? = some u → w.cell? (ad.add j) = some u := by
  refine ⟨fun hA => ?_, fun ad hA j u hu => ?_⟩
  · rcases Nat.eq_zero_or_pos xs.length with h0 | h0
    · exact h0
    · obtain ⟨ad, e, _⟩ := h h0
      rw [hA] at e; cases e
  · have hj : j < xs.length := by
      have := (List.getElem?_eq_some_iff.1 hu).1
      simpa [numCells] using this
    obtain ⟨ad', e, _, hc⟩ := h (by omega)
    obtain rfl := Option.some.inj (hA.symm.trans e)
    rw [hc j hj, ← numCells_get k xs j hj]
    exact hu
theorem Row.nums {k : IntKind} {w : World} {B : Nat} {e : TypeId} {A : Option Addr} {c : Nat} {xs : List Nat} (h : Row w B e 1 A xs.length c (numCells k xs)) : NumsAt k w w.heap.size A xs := by
  intro hn
  rcases h.cases with ⟨_, _, _, ⟨_, h0, _⟩ | ⟨g, rfl, _, hlt, hc, _⟩⟩
  · omega
  · refine ⟨_, rfl, hlt, fun j hj => ?_⟩
    rw [show (⟨g, 0, none⟩ : Addr).add j = ⟨g, j, none⟩ by simp [Addr.add]; omega]
    exact hc j _ (numCells_get k xs j hj)
theorem Row.made {w : World} {B : Nat} {e : TypeId} {sz : Nat} (hB : B ≤ w.heap.size) : Row (w.alloc (.cells #[] e)) B e sz (some ⟨w.heap.size, 0, none⟩) 0 0 [] :=
  ⟨by simp, .inr ⟨w.heap.size, 0, #[], rfl, hB, by simp only [World.alloc, Array.getElem?_push_size], by simp [maxLen]⟩⟩
end Go.Proofs.YtilikjfjbnabfaaGreatDoor

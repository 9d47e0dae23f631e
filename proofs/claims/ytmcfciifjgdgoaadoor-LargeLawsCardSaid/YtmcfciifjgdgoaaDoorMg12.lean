/- Texts of this claim in one: Own2 Rf11. -/
import Derived.Test.YtmcfciifjgdgoaaDoorOwn
import Derived.Test.YtmcfciifjgdgoaaDoorMg11
import Derived.Laws.Strings
section
/- General words: an append to a slice of the call's own leaves all others as they were. No program is named here. -/
namespace Go.Proofs.YtmcfciifjgdgoaaDoor
open Go.RowKit

/-- What is not the slice that was appended to is as it was. -/
def KeptBut (w w' : World) (A : Option Addr) : Prop := ∀ g, g < w.heap.size → A ≠ some ⟨g, 0, none⟩ → w'.heap[g]? = w.heap[g]?
theorem OwnNums.keptBut {k : IntKind} {w0 w w' : World} {e : TypeId} {A A2 : Option Addr} {c : Nat} {xs : List Nat} (h : OwnNums k w0 w e A2 c xs) (hk : KeptBut w w' A) (hne : ∀ g, A2 = some ⟨g, 0, none⟩ → A ≠ some ⟨g, 0, none⟩) : OwnNums k w0 w' e A2 c xs := by
  refine ⟨h.1, ?_⟩
  rcases h.2 with h1 | ⟨g, cap, cur, hv, hb, hh, hr⟩
  · exact .inl h1
  · refine .inr ⟨g, cap, cur, hv, hb, ?_, hr⟩
    rw [hk g ((World.ownsRow.lt h) g (by rw [hv]; rfl)).2 (hne g (by simp only [Value.slice.injEq] at hv; exact hv.1))]
    exact hh
theorem KeptBut.alloc {w w' : World} {A : Option Addr} {o : Obj} (h : KeptBut (w.alloc o) w' A) : KeptBut w w' A := fun g hg hA => by
  rw [h g (by simp only [World.size_alloc]; omega) hA]
  exact Below.heap_alloc w o g hg

theorem wpList_pushK {P : Program} {ops : Array Oper} {rest : List Oper} {o : Oper} {a : Act} {Q : Exit → Act → World → Prop} (k : IntKind) (b : Nat) (w0 w : World) (hgd : o.guard = none) (s x : Operand) (t e : TypeId)
    (ho : o.op = .call { callee := .builtin .append, args := #[s, x], argTypes := #[t, t] })
    (ht : P.underlying t = some (.slice e)) (he : (P.info? e).map (fun i => (i.zero, i.size, i.bytes)) = some (some (.int k 0), 1, b))
    (hg : Grew w0 w) (A : Option Addr) (c : Nat) (ys : List Nat) (hs : a.eval s = .slice A ys.length c) (hown : OwnNums k w0 w e A c ys) (v : Nat) (H : Nat) (hH : w.heap.size = H) (hxv : a.eval x = .slice (some ⟨H, 0, none⟩) 1 1) (u : Value) (hu : u = .int k ((v : Nat) : Int))
    (hlen : ys.length + 1 ≤ 9223372036854775807) (hby : (ys.length + 1) * b ≤ 140737488355328)
    (h : ∀ A' c' M w', Hid (M = ys ++ [v]) → OwnNums k w0 w' e A' c' M → Grew w0 w' → KeptBut w w' A → wpList P ops Q rest (a.put o.dst (.slice A' M.length c')) w') : wpList P ops Q (o :: rest) a (w.alloc (.cells #[u] e)) := by
  subst hH
  subst hu
  refine wpList_plain hgd fun K hK => ?_
  obtain ⟨i, hi, hz0, hz1, hz2⟩ := info_parts he
  have hone := NumsAt.one k w e v
  obtain ⟨ad, ea, hb, hc⟩ := hone (by simp)
  have ea' := Option.some.inj ea
  subst ea'
  have hown2 : OwnNums k w0 (w.alloc (.cells #[.int k ((v : Nat) : Int)] e)) e A c ys := hown.alloc _
  have hg2 : Grew w0 (w.alloc (.cells #[.int k ((v : Nat) : Int)] e)) := hg.alloc _
  obtain ⟨v', w', hrun, hown', hgr, _⟩ := run_append_own (P := P) (w := w.alloc (.cells #[.int k ((v : Nat) : Int)] e)) w0.heap.size t o.type e i (.int k 0) 1 b ht hi hz0 hz1 hz2 rfl (by decide) _ ys.length (numCells k ys) hown2 ⟨w.heap.size, 0, none⟩ 1 1
    (numCells k [v]) (by simp [numCells]) (fun j u hu => by
      have hj : j < 1 := by
        have := (List.getElem?_eq_some_iff.1 hu).1
        simpa [numCells] using this
      rw [hc j hj, ← numCells_get k [v] j hj]
      exact hu) (fun u hu => by
      obtain ⟨_, _, rfl⟩ := List.mem_map.1 hu
      rfl) (by simp only [maxLen]; exact hlen) hby hg2.below.size
  have hG : Grew w0 w' := .mk (hg2.below.grown hgr hg2.below.size (fun g hgk => ((World.ownsRow.lt hown2) g hgk).1))
  rw [← numCells_append] at hown'
  have hK2 : KeptBut (w.alloc (.cells #[.int k ((v : Nat) : Int)] e)) w' A := fun g hgl hA => hgr.block g hgl (by
    intro hrow
    cases A with
    | none => simp [Value.ownBlock] at hrow
    | some ad =>
      rcases hown2.cases with ⟨h1, _⟩ | ⟨g', h1, _⟩
      · cases h1
      · have h1' := Option.some.inj h1
        subst h1'
        have h2 : g = g' := Option.some.inj hrow
        exact hA (by rw [h2]))
  rcases hown'.2 with ⟨rfl, h0⟩ | ⟨g, cap, cur, rfl, hr⟩
  · omega
  · unfold Oper.wp
    simp only [execOp, ho, resolve, invoke, builtin, Sem.run_bind, Sem.run_pure, Result.andThen_ok, List.map_toArray, List.map_cons, List.map_nil, hs, hxv, hrun]
    have := h (some ⟨g, 0, none⟩) cap (ys ++ [v]) w' rfl (by unfold OwnNums; rw [List.length_append]; exact hown') hG hK2.alloc
    rw [List.length_append] at this
    exact hK _ _ this
end Go.Proofs.YtmcfciifjgdgoaaDoor
end

section
/- The walks of the document's own large numbers, part 11: numerals read. -/
namespace Go.Proofs.YtmcfciifjgdgoaaDoor
open Go.RowKit

/-- A number and an error's number come back; of the number, and of it all, this holds. -/
def NumPost (P : Bool → List Nat → Nat → Prop) (w : World) (T : TypeId) (e : Ending) (w' : World) : Prop := ∃ A' c' ng L k, e = .returned (.tuple #[.agg #[.bool ng, .slice A' (List.length L) c'], .int .i64 ((k : Nat) : Int)]) ∧ OwnNums .u32 w w' T A' c' L ∧ P ng L k ∧ Grew w w'
/-- The test ahead of all digits. -/
def badForm (neg : Bool) (l : List Nat) : Bool := !(decide (1 ≤ l.length) && decide (l.length ≤ 700) && !(decide (1 < l.length) && decide (l.getD 0 0 = 48)) && !(neg && decide (l = [48])))
theorem formOk_bad {neg : Bool} {l : List Nat} (h : badForm neg l = true) : Lg.formOk neg l = false := by
  unfold badForm at h
  unfold Lg.formOk
  simp only [Bool.not_eq_true'] at h
  rw [h, Bool.false_and]
theorem formOk_rest {neg : Bool} {l : List Nat} (h : badForm neg l = false) : Lg.formOk neg l = l.all Lg.isDigit ∧ 1 ≤ l.length ∧ l.length ≤ 700 ∧ (1 < l.length → l.getD 0 0 ≠ 48) := by
  unfold badForm at h
  rw [Bool.not_eq_false'] at h
  refine ⟨by unfold Lg.formOk; rw [h, Bool.true_and], ?_⟩
  simp only [Bool.and_eq_true, decide_eq_true_eq, Bool.not_eq_true', Bool.and_eq_false_iff, decide_eq_false_iff_not] at h
  obtain ⟨⟨⟨h1, h2⟩, h3⟩, _⟩ := h
  exact ⟨h1, h2, fun h4 => by rcases h3 with h3 | h3; exact absurd h4 h3; exact h3⟩
theorem zero_text (t : ByteArray) : (t.toList == [48]) = decide (Lg.bytes t = [48]) := by
  rw [ByteArray.toList_eq, Lg.bytes]
  generalize t.data.toList = l
  rw [Bool.eq_iff_iff, beq_iff_eq, decide_eq_true_iff]
  constructor
  · rintro rfl; rfl
  · intro h
    cases l with
    | nil => simp at h
    | cons a r =>
      cases r with
      | nil =>
        simp only [List.map_cons, List.map_nil, List.cons.injEq, and_true] at h
        have : a = 48 := UInt8.toNat_inj.1 h
        rw [this]
      | cons b q => simp at h
theorem digits_low {l : List Nat} (h : ∀ j, j < l.length → Lg.isDigit (l.getD j 0) = true) : Dg.Low 10 (l.map (· - 48)) := by
  intro y hy
  obtain ⟨x, hx, rfl⟩ := List.mem_map.1 hy
  obtain ⟨j, hj, rfl⟩ := List.mem_iff_getElem.1 hx
  have := h j hj
  rw [List.getD_eq_getElem?_getD, List.getElem?_eq_getElem hj] at this
  simp [Lg.isDigit] at this
  omega
theorem digits_head {l : List Nat} (h1 : 1 ≤ l.length) (h : ∀ j, j < l.length → Lg.isDigit (l.getD j 0) = true) (h48 : 1 < l.length → l.getD 0 0 ≠ 48) : (l.map (· - 48)).head? ≠ some 0 ∨ l.map (· - 48) = [0] := by
  cases l with
  | nil => simp at h1
  | cons a r =>
    have ha := h 0 (by simp)
    simp [Lg.isDigit] at ha
    by_cases h0 : a = 48
    · subst h0
      cases r with
      | nil => exact .inr rfl
      | cons b q => exact absurd rfl (h48 (by simp))
    · refine .inl ?_
      simp
      omega
theorem bit_round {B : List Nat} {n q cy N : Nat} (h : Dg.val 2 B + 2 ^ B.length * n = N) (hn : 2 * q + cy = n) : Dg.val 2 (B ++ [cy]) + 2 ^ (B ++ [cy]).length * q = N := by
  rw [Dg.val_snoc, List.length_append, List.length_cons, List.length_nil, Nat.zero_add, Nat.pow_succ, Nat.mul_assoc, Nat.add_assoc, ← Nat.mul_add]
  rw [show cy + 2 * q = n by omega]
  exact h
theorem all_false {l : List Nat} {k : Nat} (hk : k < l.length) (h : Lg.isDigit (l.getD k 0) = false) : l.all Lg.isDigit = false := by
  rw [List.all_eq_false]
  refine ⟨l.getD k 0, ?_, by simpa using h⟩
  rw [List.getD_eq_getElem?_getD, List.getElem?_eq_getElem hk]
  exact List.getElem_mem hk
theorem all_true {l : List Nat} (h : ∀ j, j < l.length → Lg.isDigit (l.getD j 0) = true) : l.all Lg.isDigit = true := by
  rw [List.all_eq_true]
  intro x hx
  obtain ⟨j, hj, rfl⟩ := List.mem_iff_getElem.1 hx
  have := h j hj
  rwa [List.getD_eq_getElem?_getD, List.getElem?_eq_getElem hj] at this
theorem bytes_tail (s : ByteArray) : Lg.bytes (s.extract 1 s.size) = (Lg.bytes s).drop 1 := by
  have e : (s.extract 1 s.size).data = s.data.extract 1 s.data.size := by
    rw [ByteArray.data_extract]; rfl
  rw [Lg.bytes, e, Array.toList_extract, Lg.bytes, ← List.map_drop]
  congr 1
  rw [List.extract_eq_take_drop, List.take_of_length_le (by simp)]

end Go.Proofs.YtmcfciifjgdgoaaDoor
end

/- Texts of this claim in one: But Row. -/
import Derived.Test.YtmcfciifjgdgoaaDoorMg12
import Derived.Test.YtmcfciifjgdgoaaDoorMg18
import Derived.Laws.CopyRow
import Derived.OwnWalkIn
section
/- A world in which one block has changed, and otherwise only new ones are there. No program is named here. -/
namespace Go.Proofs.YtmcfciifjgdgoaaDoor
open Go.RowKit

structure But (H : Nat) (w W : World) : Prop where
  os : W.os = w.os
  tape : W.tape = w.tape
  output : W.output = w.output
  size : w.heap.size ≤ W.heap.size
  block : ∀ k, k < w.heap.size → k ≠ H → W.heap[k]? = w.heap[k]?
theorem But.of_grew {H : Nat} {w W : World} (h : Grew w W) : But H w W := ⟨h.below.os, h.below.tape, h.below.output, h.below.size, fun k hk _ => h.below.block k hk⟩
theorem But.refl (H : Nat) (w : World) : But H w w := .of_grew (Grew.refl w)
theorem But.trans {H : Nat} {a b c : World} (h : But H a b) (k : But H b c) : But H a c :=
  ⟨k.os.trans h.os, k.tape.trans h.tape, k.output.trans h.output, Nat.le_trans h.size k.size, fun i hi hn => (k.block i (Nat.lt_of_lt_of_le hi h.size) hn).trans (h.block i hi hn)⟩
theorem But.setCell {H : Nat} {a w : World} (h : But H a w) {p : Addr} (hp : p.block = H) (u : Value) : But H a (w.setCell p u) :=
  h.trans ⟨rfl, rfl, rfl, by simp [World.setCell], fun k _ hk => Below.heap_setCell _ _ _ _ (by rw [hp]; exact hk)⟩
theorem But.drew {H : Nat} {a w : World} (h : But H a w) : But H a w.drew := ⟨h.os, h.tape, h.output, h.size, h.block⟩
theorem But.drewN {H : Nat} {a w : World} (h : But H a w) (n : Nat) : But H a (w.drewN n) := ⟨h.os, h.tape, h.output, h.size, h.block⟩
theorem But.blk {H g : Nat} {w W : World} {t : TypeId} {cs : Array Value} (h : Blk w g t cs) (hb : But H w W) (hg : g ≠ H) : Blk W g t cs := (hb.block g h.lt hg).trans h
theorem But.cell {H : Nat} {w W : World} (hb : But H w W) {p : Addr} (h1 : p.block < w.heap.size) (h2 : p.block ≠ H) : W.cell? p = w.cell? p := World.cell?_of_block (hb.block p.block h1 h2)
theorem But.nums {k : IntKind} {H : Nat} {w W : World} {A : Option Addr} {xs : List Nat} (h : NumsAt k w w.heap.size A xs) (hb : But H w W) (hA : 0 < xs.length → ∀ ad, A = some ad → ad.block ≠ H) : NumsAt k W W.heap.size A xs := by
  intro hn
  obtain ⟨ad, e, h1, h2⟩ := h hn
  exact ⟨ad, e, Nat.lt_of_lt_of_le h1 hb.size, fun j hj => by rw [hb.cell (by rw [block_add]; exact h1) (by rw [block_add]; exact hA hn ad e)]; exact h2 j hj⟩
theorem But.below {H n0 : Nat} {w0 w W : World} (h : Below n0 w0 w) (hb : But H w W) (h1 : n0 ≤ H) (h2 : n0 ≤ w.heap.size) : Below n0 w0 W :=
  ⟨hb.os.trans h.os, hb.tape.trans h.tape, hb.output.trans h.output, Nat.le_trans h.size hb.size, fun k hk => (hb.block k (by omega) (by omega)).trans (h.block k hk)⟩

theorem mid_get {pre X post : List Nat} {i j : Nat} (hi : pre.length = i) (hj : j < X.length) : (pre ++ (X ++ post)).getD (i + j) 0 = X.getD j 0 := by
  subst hi
  rw [List.getD_eq_getElem?_getD, List.getElem?_append_right (by omega), Nat.add_sub_cancel_left, List.getElem?_append_left hj, List.getD_eq_getElem?_getD]
theorem mid_set {pre X post : List Nat} {i j v : Nat} (hi : pre.length = i) (hj : j < X.length) : (pre ++ (X ++ post)).set (i + j) v = pre ++ (X.set j v ++ post) := by
  subst hi
  rw [List.set_append_right _ _ (by omega), Nat.add_sub_cancel_left, List.set_append_left _ _ hj]
theorem mid_split {L : List Nat} {i k : Nat} : L = L.take i ++ ((L.drop i).take k ++ L.drop (i + k)) := by
  conv => lhs; rw [← List.take_append_drop i L, ← List.take_append_drop k (L.drop i), List.drop_drop]
end Go.Proofs.YtmcfciifjgdgoaaDoor
end

section
/- Words of the call's own, with room behind them; a copy into the midst of such words, inside a fence. No program is named here. -/
namespace Go.Proofs.YtmcfciifjgdgoaaDoor
open Go.RowKit

def rowOf (L : List Nat) (sp : List Value) : Array Value := (numCells .u32 L ++ sp).toArray
theorem rowOf_get {L : List Nat} {sp : List Value} {j : Nat} (h : j < L.length) : (rowOf L sp)[j]? = some (.int .u32 ((L.getD j 0 : Nat) : Int)) := by
  unfold rowOf
  rw [List.getElem?_toArray, List.getElem?_append_left (by simpa [numCells] using h)]
  exact numCells_get _ _ _ h
theorem rowOf_set {L : List Nat} {sp : List Value} {j v : Nat} (h : j < L.length) : (rowOf L sp).setIfInBounds j (.int .u32 ((v : Nat) : Int)) = rowOf (L.set j v) sp := by
  unfold rowOf
  rw [List.setIfInBounds_toArray, List.set_append_left _ _ (by simpa [numCells] using h), numCells_set]
theorem OwnNums.row {w0 w : World} {e : TypeId} {g c : Nat} {L : List Nat} (h : OwnNums .u32 w0 w e (some ⟨g, 0, none⟩) c L) : ∃ sp, Blk w g e (rowOf L sp) ∧ w0.heap.size ≤ g ∧ L.length + sp.length = c ∧ c ≤ 9223372036854775807 := by
  rcases h.2 with ⟨h1, _⟩ | ⟨g', cap, cur, hv, hb, hh, hnc, hcm, hs, ht⟩
  · simp at h1
  · simp only [Value.slice.injEq, Option.some.injEq, Addr.mk.injEq] at hv
    obtain ⟨⟨rfl, _⟩, _, rfl⟩ := hv
    rw [Nat.mul_one] at hs ht
    refine ⟨cur.toList.drop L.length, ?_, hb, ?_, by simpa [maxLen] using hcm⟩
    · unfold rowOf Blk
      rw [← ht, List.take_append_drop, hh]
    · have h9 : cur.toList.length = c := by simp [hs]
      rw [List.length_drop, h9]; omega
theorem OwnNums.of_row {w0 w : World} {e : TypeId} {g c : Nat} {L : List Nat} {sp : List Value} (h : Blk w g e (rowOf L sp)) (hg : w0.heap.size ≤ g) (hc : L.length + sp.length = c) (hm : c ≤ 9223372036854775807) : OwnNums .u32 w0 w e (some ⟨g, 0, none⟩) c L :=
  ⟨by simp [numCells], .inr ⟨g, c, rowOf L sp, rfl, hg, h, by omega, by simpa [maxLen] using hm, by simp [rowOf, numCells]; omega, by simp [rowOf, numCells]⟩⟩

theorem wpListIn_copyW {F : Fence} {dp : Nat} {P : Program} {ops : Array Oper} {rest : List Oper} {o : Oper} {a : Act} {Q : Exit → Act → World → Prop} (w : World) (hgd : o.guard = none) (d s : Operand) (t e : TypeId)
    (ho : o.op = .call { callee := .builtin .copy, args := #[d, s], argTypes := #[t, t] }) (ht : P.underlying t = some (.slice e)) (hsz : (P.info? e).map (·.size) = some 1)
    (H i m c : Nat) (pre X post : List Nat) (sp : List Value) (hd : a.eval d = .slice (some ⟨H, i, none⟩) m c) (hB : Blk w H e (rowOf (pre ++ (X ++ post)) sp)) (hi : pre.length = i) (hX : X.length = m) (hm0 : 0 < m)
    (A2 : Option Addr) (c2 : Nat) (S : List Nat) (hs : a.eval s = .slice A2 S.length c2) (hS : NumsAt .u32 w w.heap.size A2 S) (hle : m ≤ S.length)
    (h : ∀ w', Hid (Blk w' H e (rowOf (pre ++ (S.take m ++ post)) sp)) → Hid (But H w w') → wpListIn F dp P ops Q rest (a.put o.dst (.int .i64 ((m : Nat) : Int))) w') : wpListIn F dp P ops Q (o :: rest) a w := by
  obtain ⟨ad, rfl, _, hc⟩ := hS (by omega)
  have hl : (S.take m).length = m := by rw [List.length_take]; omega
  have hr := run_copy_row P w t t o.type e H i m c ad S.length c2 (rowOf (pre ++ (X ++ post)) sp) e (numCells .u32 (S.take m)) ht hsz hB (by rw [numCells_length, hl]; exact (Nat.min_eq_right hle).symm) (fun j v hv => by
    have hj : j < m := by
      have := (List.getElem?_eq_some_iff.1 hv).1
      rw [numCells_length, hl] at this
      exact this
    rw [numCells_get _ _ _ (by rw [hl]; exact hj)] at hv
    rw [← Option.some.inj hv, hc j (by omega)]
    simp [List.getD_eq_getElem?_getD, hj]) (by simp [rowOf, numCells]; omega) (fun v hv => by obtain ⟨_, _, rfl⟩ := List.mem_map.1 hv; rfl)
  have e1 : ((rowOf (pre ++ (X ++ post)) sp).toList.take i ++ numCells .u32 (S.take m) ++ (rowOf (pre ++ (X ++ post)) sp).toList.drop (i + (numCells .u32 (S.take m)).length)).toArray = rowOf (pre ++ (S.take m ++ post)) sp := by
    subst hi
    rw [numCells_length, hl]
    subst hX
    unfold rowOf
    simp only [numCells_append, List.append_assoc]
    congr 1
    have f1 : (numCells .u32 pre).length = pre.length := numCells_length _ _
    have f2 : (numCells .u32 X).length = X.length := numCells_length _ _
    rw [← f1, List.take_left, List.drop_append, f1, Nat.add_sub_cancel_left, List.drop_of_length_le (by omega), ← f2, List.drop_append, List.drop_length]
    simp
  rw [e1, numCells_length, hl] at hr
  refine wpListIn_plain hgd fun K hK => ?_
  unfold Oper.wpIn
  refine ⟨?_, ?_⟩
  · simp [Oper.about, ho, resolve, Target.leads, Sem.run_pure]
  · rw [Oper.semAt_plain F _ _ (by rw [ho]; intro c hc'; cases hc')]
    simp [execOp, ho, resolve, invoke, builtin, hd, hs, hr, Result.andThen]
    refine hK _ _ (h _ (hid (setRow_heap w H _ _ e (0, 0) hB)) (hid ?_))
    exact ⟨rfl, rfl, rfl, by simp [World.setRow], fun k _ hk => setRow_other w H k _ hk⟩
end Go.Proofs.YtmcfciifjgdgoaaDoor
end

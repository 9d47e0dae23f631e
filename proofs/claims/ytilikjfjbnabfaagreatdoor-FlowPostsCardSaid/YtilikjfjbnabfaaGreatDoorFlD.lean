/- Stage 8: what onEveryPath holds between two rounds. -/
import Derived.Test.YtilikjfjbnabfaaGreatDoorFlC
import Derived.Test.YtilikjfjbnabfaaGreatDoorFl6
namespace Go.Proofs.YtilikjfjbnabfaaGreatDoor
open Go.RowKit

theorem Row.setMany {B g n c s : Nat} {e : TypeId} : ∀ (us : List Value) (o : Nat) {w : World} {vs : List Value}, Row w B e s (some ⟨g, 0, none⟩) n c vs → o + us.length ≤ vs.length → Row (w.setCells g o us) B e s (some ⟨g, 0, none⟩) n c (splice vs o us)
  | [], o, w, vs, h, _ => by
    have : splice vs o [] = vs := by simp [splice]
    rw [this]; exact h
  | u :: us, o, w, vs, h, hl => by
    have h1 : Row (w.setCell ⟨g, o, none⟩ u) B e s (some ⟨g, 0, none⟩) n c (vs.set o u) := (World.ownsRow.stored h o u).1
    simp only [List.length_cons] at hl
    have h2 := Row.setMany us (o + 1) h1 (by rw [List.length_set]; omega)
    have e : splice (vs.set o u) (o + 1) us = splice vs o (u :: us) := by
      apply List.ext_getElem?
      intro j
      rw [splice_get _ _ _ _ (by rw [List.length_set]; omega), splice_get _ _ _ _ (by simp only [List.length_cons]; omega), List.length_cons, List.getElem?_set]
      by_cases h1 : j < o
      · rw [if_pos (by omega), if_pos h1, if_neg (by omega)]
      · rw [if_neg h1]
        by_cases h2 : j = o
        · subst h2
          rw [if_pos (by omega), if_pos rfl, if_pos (by omega), if_pos (by omega), Nat.sub_self]
          rfl
        · rw [if_neg (by omega)]
          by_cases h3 : j < o + (us.length + 1)
          · rw [if_pos (by omega), if_pos h3, show j - o = (j - (o + 1)) + 1 by omega]
            rfl
          · rw [if_neg (by omega), if_neg h3, if_neg (by omega)]
    rw [e] at h2
    exact h2
theorem sets_splice {S : List (List Nat)} {s : List Nat} {k : Nat} (h : ∀ t ∈ S, t.length = 9) (hs : s.length = 9) (hk : k < S.length) : splice (setsCells S) (k * 9) (numCells .u64 s) = setsCells (S.set k s) := by
  have hl := setsCells_len h
  have h' : ∀ t ∈ S.set k s, t.length = 9 := fun t ht => by
    rcases List.mem_or_eq_of_mem_set ht with h1 | h1
    · exact h t h1
    · rw [h1]; exact hs
  have hl' := setsCells_len h'
  rw [List.length_set] at hl'
  have hn : (numCells .u64 s).length = 9 := by rw [numCells_length, hs]
  have hk9 : k * 9 + 9 ≤ S.length * 9 := by omega
  apply List.ext_getElem?
  intro j
  rw [splice_get _ _ _ _ (by omega), hn]
  rcases Nat.lt_or_ge j (S.length * 9) with hj | hj
  · obtain ⟨q, r, hr, rfl⟩ : ∃ q r, r < 9 ∧ j = q * 9 + r := ⟨j / 9, j % 9, Nat.mod_lt _ (by decide), by omega⟩
    have hq : q < S.length := by omega
    rw [setsCells_at h q hq r hr, setsCells_at h' q (by rw [List.length_set]; exact hq) r hr, Fl.getD_set]
    by_cases e : q = k
    · subst e
      rw [if_neg (by omega), if_pos (by omega), if_pos ⟨rfl, hq⟩, show q * 9 + r - q * 9 = r by omega]
    · have e' : ¬ (k = q ∧ q < S.length) := fun h => e h.1.symm
      rw [if_neg e']
      by_cases h1 : q * 9 + r < k * 9
      · rw [if_pos h1]
      · rw [if_neg h1, if_neg (by omega)]
  · rw [if_neg (by omega), if_neg (by omega), List.getElem?_eq_none (by omega), List.getElem?_eq_none (by omega)]
theorem Kept.setCells {F : Nat → Prop} {a : World} {g : Nat} (hg : F g) : ∀ (us : List Value) (o : Nat) {b : World}, Kept F a b → Kept F a (b.setCells g o us)
  | [], _, _, h => h
  | u :: us, o, _, h => Kept.setCells hg us (o + 1) (h.setCell (p := ⟨g, o, none⟩) (fun _ => hg) u)
theorem SetsAt.put {w : World} {B g n : Nat} {S : List (List Nat)} (h : SetsAt w B g n S) {k : Nat} (hk : k < n) {s : List Nat} (hs : Fl.Ok s) : SetsAt (w.setCells g (k * 9) (numCells .u64 s)) B g n (S.set k s) := by
  have h9 : ∀ t ∈ S, t.length = 9 := fun t ht => (h.oks.2 t ht).1
  have hS := h.oks.1
  have := Row.setMany (numCells .u64 s) (k * 9) h.row (by rw [numCells_length, hs.1, setsCells_len h9]; omega)
  rw [sets_splice h9 hs.1 (by omega)] at this
  exact ⟨this, h.oks.set k hs⟩
theorem SetsAt.kept {F : Nat → Prop} {w w' : World} {B g n : Nat} {S : List (List Nat)} (h : SetsAt w B g n S) (hk : Kept F w w') (hF : ¬ F g) : SetsAt w' B g n S :=
  ⟨h.row.kept hk (fun g' e => by cases e; exact hF), h.oks⟩
theorem Kept.of_grown {W W' : World} {row : Option Nat} (hg : W.grownBy W' row) : Kept (fun k => row = some k) W W' :=
  ⟨hg.os, hg.tape, hg.output, hg.size, fun k hk hF => hg.block k hk (fun e => hF e.symm)⟩
theorem SetsAt.keptR {W W' : World} {row : Option Nat} {B g n : Nat} {S : List (List Nat)} (h : SetsAt W B g n S) (hg : W.grownBy W' row) (hr : ∀ r, row = some r → ∃ o : Obj, W.heap[r]? = some o ∧ o.isCells = false) : SetsAt W' B g n S := by
  refine h.kept (Kept.of_grown hg) fun e => ?_
  obtain ⟨o, h1, h2⟩ := hr g e
  rcases h.row.2 with ⟨h3, _⟩ | ⟨g', cap, cur, hv, _, hh, _⟩
  · cases h3
  · simp only [Value.slice.injEq, Option.some.injEq, Addr.mk.injEq] at hv
    obtain ⟨⟨rfl, _⟩, _⟩ := hv
    rw [hh] at h1
    cases h1
    cases h2
/-- The memory. -/
structure EvM (w : World) (gS g3 g4 n : Nat) (S : List (List Nat)) (ch : Bool) (W : World) : Prop where
  sets : SetsAt W w.heap.size gS n S
  box : Blk W g3 62 #[.slice (some ⟨gS, 0, none⟩) n n]
  chg : Blk W g4 4 #[.bool ch]
  grew : Grew w W
theorem EvM.keptR {W W' : World} {row : Option Nat} {w : World} {gS g3 g4 n : Nat} {S : List (List Nat)} {ch : Bool} (h : EvM w gS g3 g4 n S ch W) (hg : W.grownBy W' row) (hr : ∀ r, row = some r → ∃ o : Obj, W.heap[r]? = some o ∧ o.isCells = false) (hB : ∀ r, row = some r → w.heap.size ≤ r) : EvM w gS g3 g4 n S ch W' :=
  ⟨h.sets.keptR hg hr, h.box.keptR hg hr, h.chg.keptR hg hr, (Kept.of_grown hg).grew h.grew hB⟩
theorem EvM.grewM {W W' : World} {w : World} {gS g3 g4 n : Nat} {S : List (List Nat)} {ch : Bool} (h : EvM w gS g3 g4 n S ch W) (hg : Grew W W') : EvM w gS g3 g4 n S ch W' :=
  ⟨h.sets.grew hg, h.box.grew hg, h.chg.grew hg, h.grew.trans hg⟩
theorem EvM.setCh {W : World} {w : World} {gS g3 g4 n : Nat} {S : List (List Nat)} {ch : Bool} (h : EvM w gS g3 g4 n S ch W) (h34 : g3 ≠ g4) (hS4 : gS ≠ g4) (hB : w.heap.size ≤ g4) (b : Bool) : EvM w gS g3 g4 n S b (W.setCell ⟨g4, 0, none⟩ (.bool b)) :=
  ⟨h.sets.kept ((Kept.refl (fun k => k = g4) W).setCell (p := ⟨g4, 0, none⟩) (fun _ => rfl) _) hS4, h.box.far h34 _, by have := h.chg.put 0 (.bool b); simpa using this, h.grew.setCell hB _⟩
theorem EvM.setS {W : World} {w : World} {gS g3 g4 n : Nat} {S : List (List Nat)} {ch : Bool} (h : EvM w gS g3 g4 n S ch W) (h3 : g3 ≠ gS) (h4 : g4 ≠ gS) (hB : w.heap.size ≤ gS) {k : Nat} (hk : k < n) {s : List Nat} (hs : Fl.Ok s) : EvM w gS g3 g4 n (S.set k s) ch (W.setCells gS (k * 9) (numCells .u64 s)) := by
  have hK : Kept (fun k => k = gS) W (W.setCells gS (k * 9) (numCells .u64 s)) := Kept.setCells (F := fun k => k = gS) rfl _ _ (Kept.refl _ W)
  exact ⟨h.sets.put hk hs, h.box.kept hK h3, h.chg.kept hK h4, hK.grew h.grew (fun k e => by subst e; exact hB)⟩
/-- How far the sweep has come. -/
def SwInv (G S1 : List (List Nat)) (n : Nat) (S : List (List Nat)) (ch : Bool) (pre : List Nat) : Prop := BkCame n pre → Fl.sweepF G n S1 false = Fl.sweepF G (n - pre.length) S ch
theorem SwInv.step {G S1 S : List (List Nat)} {n : Nat} {ch : Bool} {pre : List Nat} {x : Nat} (h : SwInv G S1 n S ch pre) :
    SwInv G S1 n (S.set (n - 1 - x) (Fl.newAt G S (n - 1 - x))) (ch || decide (Fl.newAt G S (n - 1 - x) ≠ S.getD (n - 1 - x) Fl.full)) (pre ++ [x]) := by
  intro hc
  obtain ⟨h1, h2, h3⟩ := hc.of_snoc
  rw [h h1, show n - pre.length = (n - 1 - x) + 1 by omega, show n - (pre ++ [x]).length = n - 1 - x by simp; omega]
  rfl
theorem wpList_storeM {ops : Array Oper} {rest : List Oper} {o : Oper} {a : Act} {w : World} {Q : Exit → Act → World → Prop} (x y : Operand) (ho : o.op = .store 66 x y) (hgd : o.guard = none) (g f : Nat) (t : List Nat) (hx : a.eval x = .pointer (some ⟨g, f, none⟩)) (hy : a.eval y = setVal t) (ht : t.length = 9) (h : w.there g f 9)
    (hk : wpList Tryz.prog ops Q rest (a.put o.dst undef) (w.setCells g f (numCells .u64 t))) : wpList Tryz.prog ops Q (o :: rest) a w := by
  refine wpList_store_mid hgd 66 x y ho g f (setCs t) hx hy (by rw [setCs_size ht]; exact h) (by rw [setCs_size ht]; exact set_size) (setCs_one t) ?_
  exact hk
end Go.Proofs.YtilikjfjbnabfaaGreatDoor

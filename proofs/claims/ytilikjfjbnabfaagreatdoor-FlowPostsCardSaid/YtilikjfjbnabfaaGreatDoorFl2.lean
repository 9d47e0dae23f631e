/- Stage 8: slices.Sort and slices.Compact at rows of two at most; the program's own isJoin. -/
import Derived.Test.YtilikjfjbnabfaaGreatDoorFl1b
namespace Go.Proofs.YtilikjfjbnabfaaGreatDoor
open Go.RowKit

/-- A row's cells written anew, new blocks behind. -/
theorem Row.put {w : World} {B : Nat} {e : TypeId} {g n c : Nat} {vs : List Value} (h : Row w B e 1 (some ⟨g, 0, none⟩) n c vs) (ys : List Int) (hl : ys.length = n) (q : Nat) (os : Array Obj) :
    Row (Go.Sort.grow (Go.Sort.putRow (Value.int .i64) (Go.Sort.ahead w q) g 0 ys.toArray) os) B e 1 (some ⟨g, 0, none⟩) n c (ys.map (Value.int .i64)) ∧ Kept (AtRow (some ⟨g, 0, none⟩)) w (Go.Sort.grow (Go.Sort.putRow (Value.int .i64) (Go.Sort.ahead w q) g 0 ys.toArray) os) := by
  rcases h.2 with ⟨h1, _⟩ | ⟨g', cap, cur, hv, hb, hh, hnc, hcm, hs, ht⟩
  · simp at h1
  · simp only [Value.slice.injEq, Option.some.injEq, Addr.mk.injEq] at hv
    obtain ⟨⟨rfl, _⟩, _, rfl⟩ := hv
    have hlt : g < w.heap.size := by
      rcases Nat.lt_or_ge g w.heap.size with h1 | h1
      · exact h1
      · rw [Array.getElem?_eq_none h1] at hh; cases hh
    have hblk : ∀ k, k < w.heap.size → (Go.Sort.grow (Go.Sort.putRow (Value.int .i64) (Go.Sort.ahead w q) g 0 ys.toArray) os).heap[k]? = if g = k then (w.heap[k]?).map (Go.Sort.onCells (Go.Sort.putCells (Value.int .i64) 0 ys.toArray)) else w.heap[k]? := fun k hk => by
      rw [Go.Sort.heap_grow_old _ _ (by simp [Go.Sort.putRow, Go.Sort.mapBlock, Go.Sort.ahead]; exact hk)]
      simp only [Go.Sort.putRow, Go.Sort.mapBlock, Go.Sort.ahead, Array.getElem?_modify]
    refine ⟨⟨by simp [hl], .inr ⟨g, c, Go.Sort.putCells (Value.int .i64) 0 ys.toArray cur, rfl, hb, ?_, hnc, hcm, by simp [Go.Sort.putCells, hs], ?_⟩⟩, rfl, rfl, rfl, ?_, fun k hk hF => ?_⟩
    · rw [hblk g hlt, if_pos rfl, hh]; rfl
    · apply List.ext_getElem?
      intro j
      rw [Nat.mul_one] at hs ⊢
      rw [List.getElem?_take, Array.getElem?_toList, Go.Sort.putCells, Array.getElem?_mapIdx, List.getElem?_map]
      by_cases hj : j < n
      · rw [if_pos hj, Array.getElem?_eq_getElem (by omega), Option.map_some, if_pos ⟨Nat.zero_le _, by simp; omega⟩, List.getElem?_eq_getElem (by omega)]
        simp [getElem!_pos, hl, hj]
      · rw [if_neg hj, List.getElem?_eq_none (by omega)]; rfl
    · simp [Go.Sort.putRow, Go.Sort.mapBlock, Go.Sort.ahead]
    · rw [hblk k hk, if_neg (fun h => hF ⟨_, rfl, h⟩)]
theorem Row.cut {w : World} {B : Nat} {e : TypeId} {A : Option Addr} {n c m : Nat} {vs us : List Value} (h : Row w B e 1 A n c (vs ++ us)) (hm : vs.length = m) : Row w B e 1 A m c vs := by
  refine ⟨by omega, ?_⟩
  have hl := h.1
  rw [List.length_append] at hl
  rcases h.2 with ⟨h1, h2⟩ | ⟨g, cap, cur, hv, hb, hh, hnc, hcm, hs, ht⟩
  · simp only [Value.slice.injEq] at h1
    exact .inl ⟨by rw [h1.1, h1.2.2, show m = 0 by omega], by omega⟩
  · simp only [Value.slice.injEq] at hv
    refine .inr ⟨g, cap, cur, by rw [hv.1, hv.2.2], hb, hh, by omega, hcm, hs, ?_⟩
    have : cur.toList.take (m * 1) = (cur.toList.take (n * 1)).take m := by
      rw [List.take_take, Nat.mul_one, Nat.mul_one, Nat.min_eq_left (by omega)]
    rw [this, ht, ← hm, List.take_left]
theorem toI_cells (xs : List Nat) : (Fl.toI xs).map (Value.int .i64) = numCells .i64 xs := by simp [Fl.toI, numCells]
theorem RowN.holds {w : World} {B g c : Nat} {xs : List Nat} (h : RowN w B (some ⟨g, 0, none⟩) c xs) : Go.Sort.Holds (Value.int .i64) w g 0 (Fl.toI xs).toArray ∧ g < w.heap.size := by
  rcases Row.cases h with ⟨_, _, _, ⟨h1, _⟩ | ⟨g', h1, _, hlt, hc, hf⟩⟩
  · cases h1
  · obtain ⟨rfl⟩ := h1
    refine ⟨fun j hj => ?_, hlt⟩
    have hj' : j < xs.length := by simpa [Fl.toI] using hj
    rw [Nat.zero_add, hc j _ (numCells_get .i64 xs j hj')]
    refine ⟨?_, hf j⟩
    rw [getElem!_pos _ j hj]
    simp [Fl.toI, List.getD_eq_getElem?_getD, hj']
/-- Two in order. -/
def sort2 : List Nat → List Nat
  | [x, y] => if x ≤ y then [x, y] else [y, x]
  | l => l
def comp2 : List Nat → List Nat
  | [x, y] => if x = y then [x] else [x, y]
  | l => l
theorem sort2_len (xs : List Nat) : (sort2 xs).length = xs.length := by
  unfold sort2
  split
  · split <;> rfl
  · rfl
theorem norm_eq (xs : List Nat) : Fl.norm xs = comp2 (sort2 xs) := by
  unfold Fl.norm
  split
  · rename_i x y
    unfold sort2
    simp only
    by_cases h1 : x < y
    · rw [if_pos h1, if_pos (by omega)]
      unfold comp2
      simp only
      rw [if_neg (by omega)]
    · rw [if_neg h1]
      by_cases h2 : x = y
      · rw [if_pos h2, if_pos (by omega)]
        unfold comp2
        simp only
        rw [if_pos h2]
      · rw [if_neg h2, if_neg (by omega)]
        unfold comp2
        simp only
        rw [if_neg (by omega)]
  · rename_i h
    have e : sort2 xs = xs := by
      unfold sort2
      split
      · exact absurd rfl (h _ _)
      · rfl
    rw [e]
    unfold comp2
    split
    · exact absurd rfl (h _ _)
    · rfl
theorem merge2 (xs : List Nat) (h : xs.length ≤ 2) : ((Fl.toI xs).mergeSort fun x y => decide (x ≤ y)) = Fl.toI (sort2 xs) := by
  match xs, h with
  | [], _ => simp [Fl.toI, sort2]
  | [x], _ => simp [Fl.toI, sort2]
  | [x, y], _ =>
    unfold sort2
    simp only
    show (List.mergeSort [((x : Nat) : Int), (y : Int)] fun x y => decide (x ≤ y)) = _
    simp only [List.mergeSort, List.MergeSort.Internal.splitInTwo]
    by_cases h : x ≤ y
    · rw [if_pos h]
      simp [h, Fl.toI]
    · rw [if_neg h]
      simp [h, Fl.toI]
theorem compact2 (xs : List Nat) (h : xs.length ≤ 2) : Go.Lib.compact (Fl.toI xs) = Fl.toI (comp2 xs) := by
  match xs, h with
  | [], _ => rfl
  | [x], _ => rfl
  | [x, y], _ =>
    unfold comp2
    simp only
    by_cases h : x = y
    · subst h
      rw [if_pos rfl]
      simp [Fl.toI, Go.Lib.compact, Go.Lib.compactUpTo, Go.Lib.keeps, show List.range 2 = [0, 1] from rfl]
    · rw [if_neg h]
      have : ¬ ((y : Nat) : Int) = (x : Nat) := by omega
      simp [Fl.toI, Go.Lib.compact, Go.Lib.compactUpTo, Go.Lib.keeps, show List.range 2 = [0, 1] from rfl, this]
theorem comp2_len (xs : List Nat) : (comp2 xs).length ≤ xs.length := by
  unfold comp2
  split
  · split
    · simp
    · exact Nat.le_refl _
  · exact Nat.le_refl _
theorem sort_c (A : Option Addr) (c : Nat) (xs : List Nat) (B : Nat) (w : World) (h : RowN w B A c xs) (hl : xs.length ≤ 2) :
    Calls Tryz.prog 43 #[.slice A xs.length c] w fun e w' => e = .returned (.tuple #[]) ∧ RowN w' B A c (sort2 xs) ∧ Kept (AtRow A) w w' := by
  rcases Row.cases h with ⟨_, _, _, ⟨rfl, h0, rfl⟩ | ⟨g, rfl, _⟩⟩
  · obtain rfl := List.eq_nil_of_length_eq_zero h0
    refine (Tryz.slices_Sort_int_none none 0 w).mono ?_
    rintro e w' ⟨rfl, rfl⟩
    exact ⟨rfl, RowN.nil _ _, Kept.refl _ _⟩
  · obtain ⟨hH, hlt⟩ := h.holds
    have := Tryz.slices_Sort_int g 0 c (Fl.toI xs) w hH hlt (by rw [toI_len]; omega)
    rw [toI_len, merge2 xs hl] at this
    refine this.mono ?_
    rintro e w' ⟨rfl, q, os, rfl⟩
    obtain ⟨r1, r2⟩ := Row.put h (Fl.toI (sort2 xs)) (by rw [toI_len, sort2_len]) q os
    rw [toI_cells] at r1
    exact ⟨rfl, by unfold RowN; rw [sort2_len]; exact r1, r2⟩
theorem compact_c (A : Option Addr) (c : Nat) (xs : List Nat) (B : Nat) (w : World) (h : RowN w B A c xs) (hl : xs.length ≤ 2) :
    Calls Tryz.prog 44 #[.slice A xs.length c] w fun e w' => e = .returned (.slice A (comp2 xs).length c) ∧ RowN w' B A c (comp2 xs) ∧ Kept (AtRow A) w w' := by
  rcases Row.cases h with ⟨_, hcap, _, ⟨rfl, h0, rfl⟩ | ⟨g, rfl, _⟩⟩
  · obtain rfl := List.eq_nil_of_length_eq_zero h0
    refine (Tryz.slices_Compact_int_empty none 0 w).mono ?_
    rintro e w' ⟨rfl, rfl⟩
    exact ⟨rfl, RowN.nil _ _, Kept.refl _ _⟩
  · obtain ⟨hH, hlt⟩ := h.holds
    have := Tryz.slices_Compact_int g 0 c (Fl.toI xs) w hH (by rw [toI_len]; omega) (by rw [toI_len]; exact hcap)
    rw [toI_len, compact2 xs hl, toI_len] at this
    refine this.mono ?_
    rintro e w' ⟨rfl, q, rfl⟩
    have hle := comp2_len xs
    obtain ⟨r1, r2⟩ := Row.put h (Fl.toI (comp2 xs) ++ List.replicate (xs.length - (comp2 xs).length) 0) (by rw [List.length_append, toI_len, List.length_replicate]; omega) q #[]
    rw [Go.Sort.grow_empty] at r1 r2
    rw [List.map_append, toI_cells] at r1
    exact ⟨rfl, Row.cut r1 (numCells_length _ _), r2⟩
end Go.Proofs.YtilikjfjbnabfaaGreatDoor

/- Parts of elder texts that this layer needs, joined: XYFlA XYFlB. -/
import Derived.Test.YtjladeiecokpfaaGreatDoorZOpC
import Derived.Test.YtjladeiecokpfaaGreatDoorZOpM
import Derived.Test.YtjladeiecokpfaaGreatDoorShelf
import Derived.Laws.CopyOwn
import Derived.Test.YtjladeiecokpfaaGreatDoorZBase
namespace Go.Proofs.YtjladeiecokpfaaGreatDoor
open Go.RowKit

set_option maxRecDepth 100000 in
set_option maxHeartbeats 1000000 in
theorem continues_c (o : Op7.Ins) (w : World) :
    Calls Tryz.prog 184 #[.agg (opCells o)] w (fun e w' => e = .returned (.bool (Fl.cont o.code)) ∧ Grew w w') := by
  obtain ⟨c, a, b⟩ := o
  show Calls _ _ #[.agg #[.int .u8 ((c : Nat) : Int), .int .i64 a, .int .i64 b]] w _
  unfold Fl.cont
  simp only
  have hg := hid ((Grew.refl w).alloc (.cells #[.int .u8 ((c : Nat) : Int), .int .i64 a, .int .i64 b] 181))
  by_cases h1 : c = 17
  · subst h1
    go_enter Tryz.func184, Tryz.ntmps184
    go_wp2_with fail
    go_ret
    exact ⟨rfl, hg.out⟩
  by_cases h2 : c = 18
  · subst h2
    go_enter Tryz.func184, Tryz.ntmps184
    go_wp2_with fail
    go_ret
    exact ⟨rfl, hg.out⟩
  by_cases h3 : c = 19
  · subst h3
    go_enter Tryz.func184, Tryz.ntmps184
    go_wp2_with fail
    go_ret
    exact ⟨rfl, hg.out⟩
  by_cases h4 : c = 13
  · subst h4
    go_enter Tryz.func184, Tryz.ntmps184
    go_wp2_with fail
    go_ret
    exact ⟨rfl, hg.out⟩
  have e1 : (((c : Nat) : Int) == 17) = false := by rw [beq_eq_false_iff_ne]; omega
  have e2 : (((c : Nat) : Int) == 18) = false := by rw [beq_eq_false_iff_ne]; omega
  have e3 : (((c : Nat) : Int) == 19) = false := by rw [beq_eq_false_iff_ne]; omega
  have e4 : (((c : Nat) : Int) == 13) = false := by rw [beq_eq_false_iff_ne]; omega
  rw [show (!(c == 17 || c == 18 || c == 19 || c == 13)) = true by simp [h1, h2, h3, h4]]
  go_enter Tryz.func184, Tryz.ntmps184
  go_wp2_with fail
  go_ret
  exact ⟨rfl, hg.out⟩
set_option maxRecDepth 100000 in
set_option maxHeartbeats 2000000 in
theorem effect_c (o : Op7.Ins) (w : World) (hb : 0 ≤ o.b ∧ o.b ≤ 65536) :
    Calls Tryz.prog 189 #[.agg (opCells o)] w (fun e w' => e = .returned (.tuple #[.int .i64 (Fl.effect o).1, .int .i64 (Fl.effect o).2]) ∧ Grew w w') := by
  obtain ⟨c, a, b⟩ := o
  show Calls _ _ #[.agg #[.int .u8 ((c : Nat) : Int), .int .i64 a, .int .i64 b]] w _
  change 0 ≤ b ∧ b ≤ 65536 at hb
  obtain ⟨b0, b1⟩ := hb
  have hg := hid ((Grew.refl w).alloc (.cells #[.int .u8 ((c : Nat) : Int), .int .i64 a, .int .i64 b] 181))
  have key : ∀ k, k < 21 → c = k → Calls Tryz.prog 189 #[.agg #[.int .u8 ((k : Nat) : Int), .int .i64 a, .int .i64 b]] w (fun e w' => e = .returned (.tuple #[.int .i64 (Fl.effect ⟨k, a, b⟩).1, .int .i64 (Fl.effect ⟨k, a, b⟩).2]) ∧ Grew w w') := by
    intro k hk hc
    subst hc
    unfold Fl.effect
    simp only
    rcases (by omega : c = 0 ∨ c = 1 ∨ c = 2 ∨ c = 3 ∨ c = 4 ∨ c = 5 ∨ c = 6 ∨ c = 7 ∨ c = 8 ∨ c = 9 ∨ c = 10 ∨ c = 11 ∨ c = 12 ∨ c = 13 ∨ c = 14 ∨ c = 15 ∨ c = 16 ∨ c = 17 ∨ c = 18 ∨ c = 19 ∨ c = 20) with h | h | h | h | h | h | h | h | h | h | h | h | h | h | h | h | h | h | h | h | h
    all_goals
      subst h
      go_enter Tryz.func189, Tryz.ntmps189
      go_wp2_with fail
      go_ret2
      exact ⟨rfl, hg.out⟩
  by_cases h : c < 21
  · exact key c h rfl
  · have n0 : Fl.effect ⟨c, a, b⟩ = (0, 0) := by
      unfold Fl.effect
      simp only
      rw [if_neg (by omega), if_neg (by omega), if_neg (by omega), if_pos (by omega)]
    rw [n0]
    have m : ∀ k : Nat, k < 21 → (((c : Nat) : Int) == (k : Int)) = false := fun k hk => by rw [beq_eq_false_iff_ne]; omega
    have m0 : (((c : Nat) : Int) == 0) = false := m 0 (by omega)
    have m1 : (((c : Nat) : Int) == 1) = false := m 1 (by omega)
    have m2 : (((c : Nat) : Int) == 2) = false := m 2 (by omega)
    have m3 : (((c : Nat) : Int) == 3) = false := m 3 (by omega)
    have m4 : (((c : Nat) : Int) == 4) = false := m 4 (by omega)
    have m5 : (((c : Nat) : Int) == 5) = false := m 5 (by omega)
    have m6 : (((c : Nat) : Int) == 6) = false := m 6 (by omega)
    have m7 : (((c : Nat) : Int) == 7) = false := m 7 (by omega)
    have m8 : (((c : Nat) : Int) == 8) = false := m 8 (by omega)
    have m9 : (((c : Nat) : Int) == 9) = false := m 9 (by omega)
    have m10 : (((c : Nat) : Int) == 10) = false := m 10 (by omega)
    have m11 : (((c : Nat) : Int) == 11) = false := m 11 (by omega)
    have m12 : (((c : Nat) : Int) == 12) = false := m 12 (by omega)
    have m14 : (((c : Nat) : Int) == 14) = false := m 14 (by omega)
    have m16 : (((c : Nat) : Int) == 16) = false := m 16 (by omega)
    have m17 : (((c : Nat) : Int) == 17) = false := m 17 (by omega)
    have m19 : (((c : Nat) : Int) == 19) = false := m 19 (by omega)
    have m20 : (((c : Nat) : Int) == 20) = false := m 20 (by omega)
    clear m
    go_enter Tryz.func189, Tryz.ntmps189
    go_wp2_with fail
    go_ret2
    exact ⟨rfl, hg.out⟩
set_option maxRecDepth 100000 in
set_option maxHeartbeats 1000000 in
theorem depthAfter_c (o : Op7.Ins) (d : Int) (w : World) (hb : 0 ≤ o.b ∧ o.b ≤ 65536) (hd : -1 ≤ d ∧ d ≤ 32) :
    Calls Tryz.prog 178 #[.agg (opCells o), .int .i64 d] w (fun e w' => e = .returned (.tuple #[.int .i64 (Fl.after o d), .bool (Fl.may o d)]) ∧ Grew w w') := by
  have HE := hid (fun w' => effect_c o w' hb)
  unfold Fl.may Fl.after
  have hx : 0 ≤ (Fl.effect o).1 ∧ (Fl.effect o).1 ≤ 65537 ∧ 0 ≤ (Fl.effect o).2 ∧ (Fl.effect o).2 ≤ 2 := by
    unfold Fl.effect
    split
    · decide
    · split
      · simp only; omega
      · split
        · decide
        · split <;> decide
  obtain ⟨x0, x1, x2, x3⟩ := hx
  generalize (Fl.effect o).1 = x at *
  generalize (Fl.effect o).2 = y at *
  obtain ⟨c, a, b⟩ := o
  unfold opCells at HE ⊢
  simp only at HE ⊢
  obtain ⟨d0, d1⟩ := hd
  clear hb
  have hg := hid ((Grew.refl w).alloc (.cells #[.int .u8 ((c : Nat) : Int), .int .i64 a, .int .i64 b] 181))
  go_enter Tryz.func178, Tryz.ntmps178
  go_wp2_with fail
  refine (Calls.grew hg.out (HE.out _)).mono ?_
  rintro e w1 ⟨rfl, hg1⟩
  by_cases h1 : x ≤ d
  · go_wp2_with fail
    go_ret2
    exact ⟨by simp [h1], hg1⟩
  · go_wp2_with fail
    go_ret2
    exact ⟨by simp; omega, hg1⟩

/-- What 'at' answers. -/
def AtPost (w : World) (r : Option Nat) (e : Ending) (w' : World) : Prop := ∃ (k : Nat) (b : Bool), e = .returned (.tuple #[.int .i64 ((k : Nat) : Int), .bool b]) ∧ r = (if b then some k else none) ∧ Grew w w'
theorem toI_getD (os : List Nat) (j : Nat) : (Fl.toI os).getD j 0 = ((os.getD j 0 : Nat) : Int) := by
  unfold Fl.toI
  simp only [List.getD_eq_getElem?_getD, List.getElem?_map]
  cases os[j]? <;> rfl
theorem toI_len (os : List Nat) : (Fl.toI os).length = os.length := by simp [Fl.toI]
theorem search_c (A : Option Addr) (c : Nat) (os : List Nat) (x : Int) (B : Nat) (w : World) (h : RowN w B A c os) (hs : os.Pairwise (· < ·)) (hl : os.length ≤ 100000) :
    Calls Tryz.prog 190 #[.slice A os.length c, .int .i64 x] w (AtPost w (Fl.place os x)) := by
  rcases Row.cases h with ⟨_, _, _, ⟨rfl, h0, _⟩ | ⟨g, rfl, _, _, hc, _⟩⟩
  · obtain rfl := List.eq_nil_of_length_eq_zero h0
    refine (Tryz.slices_BinarySearch_int_empty none c x w).mono ?_
    rintro e w' ⟨rfl, rfl⟩
    exact ⟨0, false, rfl, rfl, Grew.refl _⟩
  · have := Tryz.slices_BinarySearch_int g 0 os.length c (Fl.toI os) x w (by rw [toI_len]; omega) (by omega) (fun j hj => by
      rw [toI_len] at hj
      rw [toI_getD, Nat.zero_add]
      exact hc j _ (numCells_get .i64 os j hj)) (by
      rw [List.take_of_length_le (by rw [toI_len]; omega)]
      unfold Fl.toI
      rw [List.pairwise_map]
      exact hs.imp fun h => by omega)
    rw [List.take_of_length_le (by rw [toI_len]; omega)] at this
    refine this.mono ?_
    rintro e w' ⟨rfl, q, rfl⟩
    exact ⟨_, _, rfl, rfl, (Grew.refl w).drewN q⟩
end Go.Proofs.YtjladeiecokpfaaGreatDoor
namespace Go.Proofs.YtjladeiecokpfaaGreatDoor
open Go.RowKit

set_option maxRecDepth 100000 in
set_option maxHeartbeats 1000000 in
theorem at_c (v1 : Value) (A : Option Addr) (c n : Nat) (os : List Nat) (hn : n = os.length) (x : Int) (B : Nat) (w : World) (h : RowN w B A c os) (hs : os.Pairwise (· < ·)) (hl : os.length ≤ 100000) (hv : ∃ A1 n1 c1, v1 = .slice A1 n1 c1) :
    Calls Tryz.prog 185 #[.agg #[v1, .slice A n c], .int .i64 x] w (AtPost w (Fl.place os x)) := by
  have H := hid (fun w' (hg : Grew w w') => search_c A c os x B w' (h.grew hg) hs hl)
  rw [← hn] at H
  clear hn hl
  obtain ⟨A1, n1, c1, rfl⟩ := hv
  have hg := hid ((Grew.refl w).alloc (.cells #[.slice A1 n1 c1, .slice A n c] 218))
  clear h hs
  go_enter Tryz.func185, Tryz.ntmps185
  go_wp2_with fail
  refine (H.out _ hg.out).mono ?_
  rintro e w1 ⟨k, b, rfl, hr, hg1⟩
  have HR := hid hr
  clear hr
  go_wp2_with fail
  go_ret2
  exact ⟨k, b, rfl, HR.out, hg.out.trans hg1⟩
end Go.Proofs.YtjladeiecokpfaaGreatDoor
namespace Go.Proofs.YtjladeiecokpfaaGreatDoor
open Go.RowKit

/-- A row's cells written anew, new blocks behind. -/
theorem Row.put {w : World} {B : Nat} {e : TypeId} {g n c : Nat} {vs : List Value} (h : Row w B e 1 (some ⟨g, 0, none⟩) n c vs) (ys : List Int) (hl : ys.length = n) (q : Nat) (os : Array Obj) :
    Row (Go.Sort.grow (Go.Sort.putRow (Value.int .i64) (Go.Sort.ahead w q) g 0 ys.toArray) os) B e 1 (some ⟨g, 0, none⟩) n c (ys.map (Value.int .i64)) ∧ Kept (AtRow (some ⟨g, 0, none⟩)) w (Go.Sort.grow (Go.Sort.putRow (Value.int .i64) (Go.Sort.ahead w q) g 0 ys.toArray) os) := by
  rcases h.2 with ⟨h1, _⟩ | ⟨g', cap, cur, hv, hb, hh, hnc, hcm, hs, ht⟩
  · simp at h1
  · simp only [Value.slice.injEq, Option.some.injEq, Addr.mk.injEq] at hv
    obtain ⟨⟨rfl, _⟩, _, rfl⟩ := hv
    have hlt : g < w.heap.size := by
      rcases Nat.lt_or_ge g w.heap.size with h1 | h1
      · exact h1
      · rw [Array.getElem?_eq_none h1] at hh; cases hh
    have hblk : ∀ k, k < w.heap.size → (Go.Sort.grow (Go.Sort.putRow (Value.int .i64) (Go.Sort.ahead w q) g 0 ys.toArray) os).heap[k]? = if g = k then (w.heap[k]?).map (Go.Sort.onCells (Go.Sort.putCells (Value.int .i64) 0 ys.toArray)) else w.heap[k]? := fun k hk => by
      rw [Go.Sort.heap_grow_old _ _ (by simp [Go.Sort.putRow, Go.Sort.mapBlock, Go.Sort.ahead]; exact hk)]
      simp only [Go.Sort.putRow, Go.Sort.mapBlock, Go.Sort.ahead, Array.getElem?_modify]
    refine ⟨⟨by simp [hl], .inr ⟨g, c, Go.Sort.putCells (Value.int .i64) 0 ys.toArray cur, rfl, hb, ?_, hnc, hcm, by simp [Go.Sort.putCells, hs], ?_⟩⟩, rfl, rfl, rfl, ?_, fun k hk hF => ?_⟩
    · rw [hblk g hlt, if_pos rfl, hh]; rfl
    · apply List.ext_getElem?
      intro j
      rw [Nat.mul_one] at hs ⊢
      rw [List.getElem?_take, Array.getElem?_toList, Go.Sort.putCells, Array.getElem?_mapIdx, List.getElem?_map]
      by_cases hj : j < n
      · rw [if_pos hj, Array.getElem?_eq_getElem (by omega), Option.map_some, if_pos ⟨Nat.zero_le _, by simp; omega⟩, List.getElem?_eq_getElem (by omega)]
        simp [getElem!_pos, hl, hj]
      · rw [if_neg hj, List.getElem?_eq_none (by omega)]; rfl
    · simp [Go.Sort.putRow, Go.Sort.mapBlock, Go.Sort.ahead]
    · rw [hblk k hk, if_neg (fun h => hF ⟨_, rfl, h⟩)]
theorem Row.cut {w : World} {B : Nat} {e : TypeId} {A : Option Addr} {n c m : Nat} {vs us : List Value} (h : Row w B e 1 A n c (vs ++ us)) (hm : vs.length = m) : Row w B e 1 A m c vs := by
  refine ⟨by omega, ?_⟩
  have hl := h.1
  rw [List.length_append] at hl
  rcases h.2 with ⟨h1, h2⟩ | ⟨g, cap, cur, hv, hb, hh, hnc, hcm, hs, ht⟩
  · simp only [Value.slice.injEq] at h1
    exact .inl ⟨by rw [h1.1, h1.2.2, show m = 0 by omega], by omega⟩
  · simp only [Value.slice.injEq] at hv
    refine .inr ⟨g, cap, cur, by rw [hv.1, hv.2.2], hb, hh, by omega, hcm, hs, ?_⟩
    have : cur.toList.take (m * 1) = (cur.toList.take (n * 1)).take m := by
      rw [List.take_take, Nat.mul_one, Nat.mul_one, Nat.min_eq_left (by omega)]
    rw [this, ht, ← hm, List.take_left]
theorem toI_cells (xs : List Nat) : (Fl.toI xs).map (Value.int .i64) = numCells .i64 xs := by simp [Fl.toI, numCells]
theorem RowN.holds {w : World} {B g c : Nat} {xs : List Nat} (h : RowN w B (some ⟨g, 0, none⟩) c xs) : Go.Sort.Holds (Value.int .i64) w g 0 (Fl.toI xs).toArray ∧ g < w.heap.size := by
  rcases Row.cases h with ⟨_, _, _, ⟨h1, _⟩ | ⟨g', h1, _, hlt, hc, hf⟩⟩
  · cases h1
  · obtain ⟨rfl⟩ := h1
    refine ⟨fun j hj => ?_, hlt⟩
    have hj' : j < xs.length := by simpa [Fl.toI] using hj
    rw [Nat.zero_add, hc j _ (numCells_get .i64 xs j hj')]
    refine ⟨?_, hf j⟩
    rw [getElem!_pos _ j hj]
    simp [Fl.toI, List.getD_eq_getElem?_getD, hj']
/-- Two in order. -/
def sort2 : List Nat → List Nat
  | [x, y] => if x ≤ y then [x, y] else [y, x]
  | l => l
def comp2 : List Nat → List Nat
  | [x, y] => if x = y then [x] else [x, y]
  | l => l
theorem sort2_len (xs : List Nat) : (sort2 xs).length = xs.length := by
  unfold sort2
  split
  · split <;> rfl
  · rfl
theorem norm_eq (xs : List Nat) : Fl.norm xs = comp2 (sort2 xs) := by
  unfold Fl.norm
  split
  · rename_i x y
    unfold sort2
    simp only
    by_cases h1 : x < y
    · rw [if_pos h1, if_pos (by omega)]
      unfold comp2
      simp only
      rw [if_neg (by omega)]
    · rw [if_neg h1]
      by_cases h2 : x = y
      · rw [if_pos h2, if_pos (by omega)]
        unfold comp2
        simp only
        rw [if_pos h2]
      · rw [if_neg h2, if_neg (by omega)]
        unfold comp2
        simp only
        rw [if_neg (by omega)]
  · rename_i h
    have e : sort2 xs = xs := by
      unfold sort2
      split
      · exact absurd rfl (h _ _)
      · rfl
    rw [e]
    unfold comp2
    split
    · exact absurd rfl (h _ _)
    · rfl
theorem merge2 (xs : List Nat) (h : xs.length ≤ 2) : ((Fl.toI xs).mergeSort fun x y => decide (x ≤ y)) = Fl.toI (sort2 xs) := by
  match xs, h with
  | [], _ => simp [Fl.toI, sort2]
  | [x], _ => simp [Fl.toI, sort2]
  | [x, y], _ =>
    unfold sort2
    simp only
    show (List.mergeSort [((x : Nat) : Int), (y : Int)] fun x y => decide (x ≤ y)) = _
    simp only [List.mergeSort, List.MergeSort.Internal.splitInTwo]
    by_cases h : x ≤ y
    · rw [if_pos h]
      simp [h, Fl.toI]
    · rw [if_neg h]
      simp [h, Fl.toI]
theorem compact2 (xs : List Nat) (h : xs.length ≤ 2) : Go.Lib.compact (Fl.toI xs) = Fl.toI (comp2 xs) := by
  match xs, h with
  | [], _ => rfl
  | [x], _ => rfl
  | [x, y], _ =>
    unfold comp2
    simp only
    by_cases h : x = y
    · subst h
      rw [if_pos rfl]
      simp [Fl.toI, Go.Lib.compact, Go.Lib.compactUpTo, Go.Lib.keeps, show List.range 2 = [0, 1] from rfl]
    · rw [if_neg h]
      have : ¬ ((y : Nat) : Int) = (x : Nat) := by omega
      simp [Fl.toI, Go.Lib.compact, Go.Lib.compactUpTo, Go.Lib.keeps, show List.range 2 = [0, 1] from rfl, this]
theorem comp2_len (xs : List Nat) : (comp2 xs).length ≤ xs.length := by
  unfold comp2
  split
  · split
    · simp
    · exact Nat.le_refl _
  · exact Nat.le_refl _
theorem sort_c (A : Option Addr) (c : Nat) (xs : List Nat) (B : Nat) (w : World) (h : RowN w B A c xs) (hl : xs.length ≤ 2) :
    Calls Tryz.prog 186 #[.slice A xs.length c] w fun e w' => e = .returned (.tuple #[]) ∧ RowN w' B A c (sort2 xs) ∧ Kept (AtRow A) w w' := by
  rcases Row.cases h with ⟨_, _, _, ⟨rfl, h0, rfl⟩ | ⟨g, rfl, _⟩⟩
  · obtain rfl := List.eq_nil_of_length_eq_zero h0
    refine (Tryz.slices_Sort_int_none none 0 w).mono ?_
    rintro e w' ⟨rfl, rfl⟩
    exact ⟨rfl, RowN.nil _ _, Kept.refl _ _⟩
  · obtain ⟨hH, hlt⟩ := h.holds
    have := Tryz.slices_Sort_int g 0 c (Fl.toI xs) w hH hlt (by rw [toI_len]; omega)
    rw [toI_len, merge2 xs hl] at this
    refine this.mono ?_
    rintro e w' ⟨rfl, q, os, rfl⟩
    obtain ⟨r1, r2⟩ := Row.put h (Fl.toI (sort2 xs)) (by rw [toI_len, sort2_len]) q os
    rw [toI_cells] at r1
    exact ⟨rfl, by unfold RowN; rw [sort2_len]; exact r1, r2⟩
theorem compact_c (A : Option Addr) (c : Nat) (xs : List Nat) (B : Nat) (w : World) (h : RowN w B A c xs) (hl : xs.length ≤ 2) :
    Calls Tryz.prog 187 #[.slice A xs.length c] w fun e w' => e = .returned (.slice A (comp2 xs).length c) ∧ RowN w' B A c (comp2 xs) ∧ Kept (AtRow A) w w' := by
  rcases Row.cases h with ⟨_, hcap, _, ⟨rfl, h0, rfl⟩ | ⟨g, rfl, _⟩⟩
  · obtain rfl := List.eq_nil_of_length_eq_zero h0
    refine (Tryz.slices_Compact_int_empty none 0 w).mono ?_
    rintro e w' ⟨rfl, rfl⟩
    exact ⟨rfl, RowN.nil _ _, Kept.refl _ _⟩
  · obtain ⟨hH, hlt⟩ := h.holds
    have := Tryz.slices_Compact_int g 0 c (Fl.toI xs) w hH (by rw [toI_len]; omega) (by rw [toI_len]; exact hcap)
    rw [toI_len, compact2 xs hl, toI_len] at this
    refine this.mono ?_
    rintro e w' ⟨rfl, q, rfl⟩
    have hle := comp2_len xs
    obtain ⟨r1, r2⟩ := Row.put h (Fl.toI (comp2 xs) ++ List.replicate (xs.length - (comp2 xs).length) 0) (by rw [List.length_append, toI_len, List.length_replicate]; omega) q #[]
    rw [Go.Sort.grow_empty] at r1 r2
    rw [List.map_append, toI_cells] at r1
    exact ⟨rfl, Row.cut r1 (numCells_length _ _), r2⟩
end Go.Proofs.YtjladeiecokpfaaGreatDoor
namespace Go.Proofs.YtjladeiecokpfaaGreatDoor
open Go.RowKit

/-- The decoded code in memory. -/
structure CodeAt (w : World) (A1 : Option Addr) (A2 : Option Addr) (c2 n : Nat) (l : List Op7.Ins) (os : List Nat) : Prop where
  ops : OpsAt w w.heap.size A1 l
  offs : RowN w 0 A2 c2 os
  l1 : n = l.length
  l2 : n = os.length
  up : os.Pairwise (· < ·)
  few : n ≤ 512
  fit : ∀ o ∈ l, 0 ≤ o.a ∧ 0 ≤ o.b ∧ o.b ≤ 65536
theorem OpsAt.grew {w w' : World} {A : Option Addr} {l : List Op7.Ins} (h : OpsAt w w.heap.size A l) (hg : Grew w w') : OpsAt w' w'.heap.size A l := by
  refine ⟨h.1, fun hn => ?_⟩
  obtain ⟨ad, e, hb, hc⟩ := h.2 hn
  exact ⟨ad, e, Nat.lt_of_lt_of_le hb hg.below.size, fun i o ho j u hu => by rw [hg.below.cell (by rw [block_add]; exact hb)]; exact hc i o ho j u hu⟩
theorem CodeAt.grew {w w' : World} {A1 A2 : Option Addr} {c2 n : Nat} {l : List Op7.Ins} {os : List Nat} (h : CodeAt w A1 A2 c2 n l os) (hg : Grew w w') : CodeAt w' A1 A2 c2 n l os :=
  ⟨h.ops.grew hg, h.offs.grew hg, h.l1, h.l2, h.up, h.few, h.fit⟩
theorem code_at {w : World} {A1 A2 : Option Addr} {c2 n : Nat} {l : List Op7.Ins} {os : List Nat} (h : CodeAt w A1 A2 c2 n l os) (x : Int) (n1 c1 : Nat) : Calls Tryz.prog 185 #[.agg #[.slice A1 n1 c1, .slice A2 n c2], .int .i64 x] w (AtPost w (Fl.place os x)) :=
  at_c _ A2 c2 n os h.l2 x 0 w h.offs h.up (by rw [← h.l2]; have := h.few; omega) ⟨A1, n1, c1, rfl⟩

/-- What 'successors' answers. -/
def SuccPost (w : World) (r : Option (List Nat)) (e : Ending) (w' : World) : Prop := ∃ (A : Option Addr) (c : Nat) (b : Bool) (s : List Nat), e = .returned (.tuple #[.slice A (List.length s) c, .bool b]) ∧ r = (if b then some s else none) ∧ RowN w' w.heap.size A c s ∧ Grew w w'
theorem SuccPost.no {w w' : World} {r : Option (List Nat)} (hr : r = none) (hg : Grew w w') : SuccPost w r (.returned (.tuple #[.slice none 0 0, .bool false])) w' := ⟨none, 0, false, [], rfl, hr, RowN.nil _ _, hg⟩
theorem wpList_pushN0 {ops : Array Oper} {rest : List Oper} {o : Oper} {a : Act} {Q : Exit → Act → World → Prop} (w : World) (hgd : o.guard = none) (s x : Operand)
    (ho : o.op = .call { callee := .builtin .append, args := #[s, x], argTypes := #[58, 58] })
    (B : Nat) (hB : B ≤ w.heap.size) (hs : a.eval s = .slice none 0 0) (v H : Nat) (hH : w.heap.size = H) (hxv : a.eval x = .slice (some ⟨H, 0, none⟩) 1 1) (u : Value) (hu : u = .int .i64 ((v : Nat) : Int))
    (h : ∀ A' c' w', RowN w' B A' c' [v] → Grew w w' → wpList Tryz.prog ops Q rest (a.put o.dst (.slice A' 1 c')) w') : wpList Tryz.prog ops Q (o :: rest) a (w.alloc (.cells #[u] 3)) :=
  wpList_pushN w hgd s x ho B hB none 0 [] 0 rfl hs (RowN.nil _ _) v H hH hxv u hu (by decide) fun A' c' w' r1 r2 _ => h A' c' w' r1 (r2.grew (Grew.refl w) (by rintro k ⟨_, h, _⟩; cases h))
/-- Sorted and compacted, the two calls. -/
theorem norm_calls (A : Option Addr) (c : Nat) (xs : List Nat) (w0 w : World) (hg : Grew w0 w) (h : RowN w w0.heap.size A c xs) (hl : xs.length ≤ 2) :
    Calls Tryz.prog 186 #[.slice A xs.length c] w fun e w' => e = .returned (.tuple #[]) ∧ Grew w0 w' ∧
      Calls Tryz.prog 187 #[.slice A xs.length c] w' fun e w'' => ∃ s, e = .returned (.slice A (List.length s) c) ∧ s = Fl.norm xs ∧ RowN w'' w0.heap.size A c s ∧ Grew w0 w'' := by
  refine (sort_c A c xs _ w h hl).mono ?_
  rintro e w' ⟨rfl, r1, r2⟩
  have hg1 := r2.grew hg (Row.at_base h)
  refine ⟨rfl, hg1, ?_⟩
  have := compact_c A c (sort2 xs) _ w' r1 (by rw [sort2_len]; exact hl)
  rw [sort2_len] at this
  refine this.mono ?_
  rintro e w'' ⟨rfl, r3, r4⟩
  exact ⟨_, rfl, (norm_eq xs).symm, r3, r4.grew hg1 (Row.at_base r1)⟩
set_option maxRecDepth 100000 in
set_option maxHeartbeats 2000000 in
theorem succ_c (A1 : Option Addr) (c1 : Nat) (A2 : Option Addr) (c2 n : Nat) (l : List Op7.Ins) (os : List Nat) (i : Nat) (w : World) (h : CodeAt w A1 A2 c2 n l os) (hi : i < n) :
    Calls Tryz.prog 175 #[.agg #[.slice A1 n c1, .slice A2 n c2], .int .i64 (i : Nat)] w (SuccPost w (Fl.succ l os i)) := by
  have H := hid h
  have hn := h.few
  obtain ⟨o, ho⟩ : ∃ o, l[i]? = some o := ⟨_, List.getElem?_eq_getElem (show i < l.length by rw [← h.l1]; exact hi)⟩
  obtain ⟨ad, rfl, hb, hc⟩ := h.ops.2 (by rw [← h.l1]; omega)
  obtain ⟨q0, q1, q2⟩ := op_cell (o := o) (i := i) (ad := ad) (w := w) (hc i o ho)
  have HS : Hid (Fl.succ l os i = Fl.succO os n i o) := hid (by unfold Fl.succ; rw [ho, ← h.l1]; rfl)
  have HC := hid (fun w' => continues_c o w')
  clear hc ho h
  have f1 : (i : Int) < n := by omega
  unfold opCells at HC
  obtain ⟨cd, oa, ob⟩ := o
  simp only at HC q0 q1 q2
  have HL : Hid (∀ p, Fl.nextOf n i ⟨cd, oa, ob⟩ = some p → Fl.succO os n i ⟨cd, oa, ob⟩ = if Fl.jumps cd then (Fl.place os oa).map fun t => Fl.norm (p ++ [t]) else some (Fl.norm p)) := hid (by
    intro p hp
    unfold Fl.succO
    rw [hp, Option.bind_some])
  have HN : Hid (Fl.nextOf n i ⟨cd, oa, ob⟩ = if Fl.cont cd then (if i + 1 = n then none else some [i + 1]) else some []) := hid rfl
  have HJ : Hid (Fl.jumps cd = (cd == 13 || cd == 14)) := hid rfl
  have HZ : Hid (Fl.nextOf n i ⟨cd, oa, ob⟩ = none → Fl.succ l os i = none) := hid (by
    intro hp
    rw [HS.out]
    unfold Fl.succO
    rw [hp]; rfl)
  have HK1 : cd = 13 → Fl.cont cd = false := fun h => by rw [h]; rfl
  have HK2 : cd = 14 → Fl.cont cd = true := fun h => by rw [h]; rfl
  have hgA := hid (((Grew.refl w).alloc (.cells #[.slice (some ad) n c1, .slice A2 n c2] 218)).alloc (.cells #[.int .u8 ((cd : Nat) : Int), .int .i64 oa, .int .i64 ob] 181))
  generalize Fl.cont cd = ct at *
  by_cases h13 : cd = 13
  · have e13 : (((cd : Nat) : Int) == 13) = true := by rw [beq_iff_eq]; omega
    obtain rfl : ct = false := HK1 h13
    have HX := hid (HL.out [] (by rw [HN.out]; rfl))
    rw [show Fl.jumps cd = true by rw [HJ.out, h13]; rfl, if_pos rfl, ← HS.out] at HX
    clear HL HN HS HZ HJ HK1 HK2 h13
    go_enter Tryz.func175, Tryz.ntmps175
    go_wp2_with fail
    refine (Calls.after (Grew.refl _) (HC.out _)).mono ?_
    rintro e w1 ⟨rfl, y1, rfl⟩
    have G1 := hid (hgA.out.trans y1.grew)
    go_wp2_with fail
    refine (code_at (H.out.grew G1.out) oa n c1).mono ?_
    rintro e w2 ⟨k, b, rfl, hr, hg2⟩
    have HR := hid hr
    have G2 := hid (G1.out.trans hg2)
    clear hr
    cases b
    · go_wp2_with fail
      go_ret2
      exact SuccPost.no (by rw [HX.out, HR.out]; rfl) G2.out
    · go_wp2_with (at_builtin; refine wpList_pushN0 w2 rfl _ _ rfl w.heap.size G2.out.below.size rfl k _ rfl rfl _ rfl ?_; rintro A3 c3 W3 hO3 hg3; have HO3 := hid hO3; have G3 := hid (G2.out.trans hg3); clear hO3 hg3)
      refine (norm_calls A3 c3 [k] w _ G3.out HO3.out (by simp)).mono ?_
      rintro e wa ⟨rfl, hga, hca⟩
      have HCA := hid hca
      clear hca
      go_wp2_with fail
      refine HCA.out.mono ?_
      rintro e wb ⟨s, rfl, hs, hO, hgb⟩
      replace hs := hid hs
      have HO := hid hO
      clear hO HCA
      go_wp2_with fail
      go_ret2
      exact ⟨_, _, true, s, rfl, by rw [hs.out]; exact show Fl.succ l os i = some _ by rw [HX.out, HR.out]; rfl, HO.out, hgb⟩
  by_cases hct : ct = false
  · subst hct
    have h14 : cd ≠ 14 := fun h => by have := HK2 h; cases this
    have e13 : (((cd : Nat) : Int) == 13) = false := by rw [beq_eq_false_iff_ne]; omega
    have e14 : (((cd : Nat) : Int) == 14) = false := by rw [beq_eq_false_iff_ne]; omega
    have HX := hid (HL.out [] (by rw [HN.out]; rfl))
    rw [show Fl.jumps cd = false by rw [HJ.out]; simp [h13, h14], if_neg (by decide), ← HS.out] at HX
    clear HL HN HS HZ HJ HK1 HK2 h13
    go_enter Tryz.func175, Tryz.ntmps175
    go_wp2_with fail
    refine (Calls.after (Grew.refl _) (HC.out _)).mono ?_
    rintro e w1 ⟨rfl, y1, rfl⟩
    have G1 := hid (hgA.out.trans y1.grew)
    go_wp2_with fail
    refine (norm_calls none 0 [] w _ G1.out (RowN.nil _ _) (by decide)).mono ?_
    rintro e wa ⟨rfl, hga, hca⟩
    have HCA := hid hca
    clear hca
    go_wp2_with fail
    refine HCA.out.mono ?_
    rintro e wb ⟨s, rfl, hs, hO, hgb⟩
    replace hs := hid hs
    have HO := hid hO
    clear hO HCA
    go_wp2_with fail
    go_ret2
    exact ⟨_, _, true, s, rfl, by rw [hs.out]; exact HX.out, HO.out, hgb⟩
  obtain rfl : ct = true := by cases ct <;> simp_all
  by_cases hin : i + 1 = n
  · have f2 : (i : Int) + 1 = n := by omega
    have HX := hid (HZ.out (by rw [HN.out, if_pos rfl, if_pos hin]))
    clear HL HN HS HZ HJ HK1 HK2 h13
    go_enter Tryz.func175, Tryz.ntmps175
    go_wp2_with fail
    refine (Calls.after (Grew.refl _) (HC.out _)).mono ?_
    rintro e w1 ⟨rfl, y1, rfl⟩
    have G1 := hid (hgA.out.trans y1.grew)
    go_wp2_with fail
    go_ret2
    exact SuccPost.no HX.out G1.out
  have f2 : ¬ ((i : Int) + 1 = n) := by omega
  have e13 : (((cd : Nat) : Int) == 13) = false := by rw [beq_eq_false_iff_ne]; omega
  by_cases h14 : cd = 14
  · have e14 : (((cd : Nat) : Int) == 14) = true := by rw [beq_iff_eq]; omega
    have HX := hid (HL.out [i + 1] (by rw [HN.out, if_pos rfl, if_neg hin]))
    rw [show Fl.jumps cd = true by rw [HJ.out, h14]; rfl, if_pos rfl, ← HS.out] at HX
    clear HL HN HS HZ HJ HK1 HK2 h13 hin h14
    go_enter Tryz.func175, Tryz.ntmps175
    go_wp2_with fail
    refine (Calls.after (Grew.refl _) (HC.out _)).mono ?_
    rintro e w1 ⟨rfl, y1, rfl⟩
    have G1 := hid (hgA.out.trans y1.grew)
    go_wp2_with (at_builtin; refine wpList_pushN0 y1.w rfl _ _ rfl w.heap.size G1.out.below.size rfl (i + 1) _ rfl rfl _ (by congr 1) ?_; rintro A3 c3 W3 hO3 hg3; obtain ⟨y3, rfl⟩ := y1.grew.trans hg3; have HO3 := hid hO3; have G3 := hid (G1.out.trans hg3); clear hO3 hg3)
    refine (code_at (H.out.grew G3.out) oa n c1).mono ?_
    rintro e w2 ⟨k, b, rfl, hr, hg2⟩
    have HR := hid hr
    have G2 := hid (G3.out.trans hg2)
    have HO4 := hid (HO3.out.grew hg2)
    clear hr
    cases b
    · go_wp2_with fail
      go_ret2
      exact SuccPost.no (by rw [HX.out, HR.out]; rfl) G2.out
    · go_wp2_with (at_builtin; refine wpList_pushN w2 rfl _ _ rfl w.heap.size G2.out.below.size A3 c3 [i + 1] 1 rfl rfl HO4.out k _ rfl rfl _ rfl (by decide) ?_; rintro A5 c5 W5 hO5 hK5 hT5; have HO5 := hid hO5; have G5 := hid (hK5.grew G2.out (Row.at_base HO4.out)); clear hO5 hK5 hT5)
      refine (norm_calls A5 c5 [i + 1, k] w _ G5.out HO5.out (by simp)).mono ?_
      rintro e wa ⟨rfl, hga, hca⟩
      have HCA := hid hca
      clear hca
      go_wp2_with fail
      refine HCA.out.mono ?_
      rintro e wb ⟨s, rfl, hs, hO, hgb⟩
      replace hs := hid hs
      have HO := hid hO
      clear hO HCA
      go_wp2_with fail
      go_ret2
      exact ⟨_, _, true, s, rfl, by rw [hs.out]; exact show Fl.succ l os i = some _ by rw [HX.out, HR.out]; rfl, HO.out, hgb⟩
  · have e14 : (((cd : Nat) : Int) == 14) = false := by rw [beq_eq_false_iff_ne]; omega
    have HX := hid (HL.out [i + 1] (by rw [HN.out, if_pos rfl, if_neg hin]))
    rw [show Fl.jumps cd = false by rw [HJ.out]; simp [h13, h14], if_neg (by decide), ← HS.out] at HX
    clear HL HN HS HZ HJ HK1 HK2 h13 hin
    go_enter Tryz.func175, Tryz.ntmps175
    go_wp2_with fail
    refine (Calls.after (Grew.refl _) (HC.out _)).mono ?_
    rintro e w1 ⟨rfl, y1, rfl⟩
    have G1 := hid (hgA.out.trans y1.grew)
    go_wp2_with (at_builtin; refine wpList_pushN0 y1.w rfl _ _ rfl w.heap.size G1.out.below.size rfl (i + 1) _ rfl rfl _ (by congr 1) ?_; rintro A3 c3 W3 hO3 hg3; obtain ⟨y3, rfl⟩ := y1.grew.trans hg3; have HO3 := hid hO3; have G3 := hid (G1.out.trans hg3); clear hO3 hg3)
    refine (norm_calls A3 c3 [i + 1] w _ G3.out HO3.out (by simp)).mono ?_
    rintro e wa ⟨rfl, hga, hca⟩
    have HCA := hid hca
    clear hca
    go_wp2_with fail
    refine HCA.out.mono ?_
    rintro e wb ⟨s, rfl, hs, hO, hgb⟩
    replace hs := hid hs
    have HO := hid hO
    clear hO HCA
    go_wp2_with fail
    go_ret2
    exact ⟨_, _, true, s, rfl, by rw [hs.out]; exact HX.out, HO.out, hgb⟩
end Go.Proofs.YtjladeiecokpfaaGreatDoor
namespace Go.Proofs.YtjladeiecokpfaaGreatDoor
open Go.RowKit

theorem place_lt {os : List Nat} {x : Int} (k : Nat) (h : Fl.place os x = some k) : k < os.length := by
  unfold Fl.place at h
  split at h
  · rename_i hc
    cases h
    have hm : x ∈ Fl.toI os := by simpa using hc
    have : (Fl.toI os).countP (· < x) < (Fl.toI os).length := by
      rcases Nat.lt_or_ge ((Fl.toI os).countP (· < x)) (Fl.toI os).length with h1 | h1
      · exact h1
      · have h2 := List.countP_eq_length.1 (Nat.le_antisymm List.countP_le_length h1) x hm
        simp at h2
    rwa [toI_len] at this
  · cases h
set_option maxRecDepth 100000 in
set_option maxHeartbeats 1000000 in
theorem join_c (A1 : Option Addr) (c1 : Nat) (A2 : Option Addr) (c2 n : Nat) (l : List Op7.Ins) (os : List Nat) (x : Int) (w : World) (h : CodeAt w A1 A2 c2 n l os) :
    Calls Tryz.prog 176 #[.agg #[.slice A1 n c1, .slice A2 n c2], .int .i64 x] w (fun e w' => e = .returned (.bool (Fl.isJoin l os x)) ∧ Grew w w') := by
  have H := hid h
  have HI : Hid (Fl.isJoin l os x = match Fl.place os x with | none => false | some k => ((l[k]?).map (·.code)).getD 0 == 15) := hid rfl
  have HP := hid (fun k => @place_lt os x k)
  have HG := hid (((Grew.refl w).alloc (.cells #[.slice A1 n c1, .slice A2 n c2] 218)))
  clear h
  go_enter Tryz.func176, Tryz.ntmps176
  go_wp2_with fail
  refine (code_at (H.out.grew HG.out) x n c1).mono ?_
  rintro e w2 ⟨k, b, rfl, hr, y2, rfl⟩
  have HR := hid hr
  clear hr
  cases b
  · have HX : Hid (Fl.isJoin l os x = false) := hid (by rw [HI.out, HR.out]; rfl)
    go_wp2_with fail
    go_ret
    exact ⟨by rw [HX.out]; rfl, HG.out.trans y2.grew⟩
  · have hk : k < n := by rw [H.out.l2]; exact HP.out k (by rw [HR.out]; rfl)
    obtain ⟨o, ho⟩ : ∃ o, l[k]? = some o := ⟨_, List.getElem?_eq_getElem (show k < l.length by rw [← H.out.l1]; exact hk)⟩
    obtain ⟨ad, rfl, hb, hc⟩ := H.out.ops.2 (by rw [← H.out.l1]; omega)
    obtain ⟨q0, _, _⟩ := op_cell (o := o) (i := k) (ad := ad) (w := y2.w) (fun j u hu => by
      rw [(HG.out.trans y2.grew).below.cell (by rw [block_add]; exact hb)]; exact hc k o ho j u hu)
    have HX : Hid (Fl.isJoin l os x = (o.code == 15)) := hid (by rw [HI.out, HR.out]; simp [ho])
    have HE : Hid ((((o.code : Nat) : Int) == 15) = (o.code == 15)) := hid (by rw [Bool.eq_iff_iff]; simp; omega)
    have f1 : (k : Int) < n := by omega
    clear hc ho
    generalize o.code = cd at *
    go_wp2_with fail
    go_ret
    exact ⟨by rw [HX.out]; exact ret_bool HE.out, HG.out.trans y2.grew⟩

/-- A row from a block known whole. -/
theorem Row.of_blk {w : World} {B g : Nat} {e : TypeId} {s n : Nat} {cs : Array Value} (h : Blk w g e cs) (hB : B ≤ g) (hn : cs.size = n * s) (hm : n ≤ 9223372036854775807) : Row w B e s (some ⟨g, 0, none⟩) n n cs.toList :=
  ⟨by simpa using hn, .inr ⟨g, n, cs, rfl, hB, h, Nat.le_refl _, by simp only [maxLen]; omega, hn, by rw [List.take_of_length_le (by simp; omega)]⟩⟩
theorem slice_info : (Tryz.prog.info? 58).map (fun i => (i.zero, i.size, i.bytes)) = some (some (.slice none 0 0), 1, 24) := by kernel_rfl
/-- 'make([]T, n)', T of one cell. -/
theorem make_one {P : Program} {t e : TypeId} {z : Value} {b : Nat} (ht : P.underlying t = some (.slice e)) (he : (P.info? e).map (fun i => (i.zero, i.size, i.bytes)) = some (some z, 1, b)) (hz : z.cells = #[z]) (hb : b ≤ 24)
    (n : Nat) (hn : n ≤ 1048576) (W : World) : ∃ w', (Instr.makeSlice t (.int .i64 n) (.int .i64 n)).run P W = .ok (.slice (some ⟨W.heap.size, 0, none⟩) n n) w' ∧ Row w' W.heap.size e 1 (some ⟨W.heap.size, 0, none⟩) n n (List.replicate n z) ∧ Grew W w' ∧ W.heap.size < w'.heap.size := by
  obtain ⟨i, hi, hz0, hz1, hz2⟩ := info_parts he
  have hm : n * b ≤ n * 24 := Nat.mul_le_mul_left n hb
  have hm2 : (b : Int) * (n : Int) ≤ 24 * n := by rw [← Int.natCast_mul, Nat.mul_comm]; omega
  have hr := run_make (P := P) W t e i z ht hi hz0 .i64 .i64 n n (by omega) (by omega) (by rw [hz2]; omega) (by omega)
  simp only [Int.toNat_natCast] at hr
  have e1 : (madeCells z.cells (n * i.size)).toList = List.replicate n z := by
    rw [hz1, Nat.mul_one, hz]
    exact toList_madeCells_one _ _
  refine ⟨_, hr, ?_, (Grew.refl W).alloc _, by simp⟩
  have := Row.of_blk (s := 1) (n := n) (B := W.heap.size) (Blk.new W e (madeCells z.cells (n * i.size))) (Nat.le_refl _) (by rw [← Array.length_toList, e1]; simp) (by omega)
  rwa [e1] at this
/-- The graph in memory. -/
structure GraphAt (w : World) (B g c : Nat) (vs : List Value) (G : List (List Nat)) : Prop where
  row : Row w B 58 1 (some ⟨g, 0, none⟩) vs.length c vs
  each : ∀ (i : Nat) (s : List Nat), G[i]? = some s → ∃ A k, vs[i]? = some (Value.slice A s.length k) ∧ RowN w (g + 1) A k s
theorem GraphAt.grew {w w' : World} {B g c : Nat} {vs : List Value} {G : List (List Nat)} (h : GraphAt w B g c vs G) (hg : Grew w w') : GraphAt w' B g c vs G :=
  ⟨h.row.grew hg, fun i s hs => by obtain ⟨A, k, h1, h2⟩ := h.each i s hs; exact ⟨A, k, h1, h2.grew hg⟩⟩
theorem Row.lt' {w : World} {B : Nat} {e : TypeId} {s g n c : Nat} {vs : List Value} (h : Row w B e s (some ⟨g, 0, none⟩) n c vs) : B ≤ g ∧ g < w.heap.size := ⟨Row.at_base h g ⟨_, rfl, rfl⟩, Row.at_lt h g ⟨_, rfl, rfl⟩⟩
theorem Row.set {w : World} {B g n c : Nat} {e : TypeId} {vs : List Value} (h : Row w B e 1 (some ⟨g, 0, none⟩) n c vs) (j : Nat) (u : Value) : Row (w.setCell ⟨g, j, none⟩ u) B e 1 (some ⟨g, 0, none⟩) n c (vs.set j u) := (World.ownsRow.stored h j u).1
theorem GraphAt.next {w : World} {B g c : Nat} {vs : List Value} {G : List (List Nat)} (h : GraphAt w B g c vs G) (hl : G.length < vs.length) (A : Option Addr) (k : Nat) (s : List Nat) (hs : RowN w (g + 1) A k s) :
    GraphAt (w.setCell ⟨g, G.length, none⟩ (.slice A s.length k)) B g c (vs.set G.length (.slice A s.length k)) (G ++ [s]) := by
  have hk : Kept (fun x => x = g) w (w.setCell ⟨g, G.length, none⟩ (Value.slice A s.length k)) := (Kept.refl (fun x => x = g) w).setCell (p := ⟨g, G.length, none⟩) (fun _ => rfl) _
  refine ⟨by rw [List.length_set]; exact h.row.set _ _, fun i s' hs' => ?_⟩
  have far : ∀ {A' : Option Addr} {k' : Nat} {s' : List Nat}, RowN w (g + 1) A' k' s' → RowN (w.setCell ⟨g, G.length, none⟩ (.slice A s.length k)) (g + 1) A' k' s' := fun hr => Row.kept hr hk fun g' hg' e => by
    subst hg'
    have := (Row.lt' hr).1
    omega
  rcases Nat.lt_or_ge i G.length with hi | hi
  · rw [List.getElem?_append_left hi] at hs'
    obtain ⟨A', k', h1, h2⟩ := h.each i s' hs'
    exact ⟨A', k', by rw [List.getElem?_set_ne (by omega)]; exact h1, far h2⟩
  · have hi' : i < (G ++ [s]).length := (List.getElem?_eq_some_iff.1 hs').1
    rw [List.length_append, List.length_singleton] at hi'
    obtain rfl : i = G.length := by omega
    rw [List.getElem?_append_right (Nat.le_refl _), Nat.sub_self] at hs'
    cases hs'
    exact ⟨A, k, by rw [List.getElem?_set_self hl], far hs⟩
theorem GraphAt.next' {w : World} {B g c i : Nat} {vs : List Value} {G : List (List Nat)} (h : GraphAt w B g c vs G) (hi : G.length = i) (hl : i < vs.length) (A : Option Addr) (k : Nat) (s : List Nat) (hs : RowN w (g + 1) A k s) :
    GraphAt (w.setCell ⟨g, i, none⟩ (.slice A s.length k)) B g c (vs.set i (.slice A s.length k)) (G ++ [s]) := by
  subst hi
  exact h.next hl A k s hs
theorem Row.cellAt {w : World} {B g n c : Nat} {e : TypeId} {vs : List Value} (h : Row w B e 1 (some ⟨g, 0, none⟩) n c vs) (i : Nat) (hi : i < vs.length) : w.cell? ⟨g, i, none⟩ = some (vs[i]'hi) ∧ w.frozen? ⟨g, i, none⟩ = false := by
  rcases Row.cases h with ⟨_, _, _, ⟨h1, _⟩ | ⟨g', h1, _, _, hc, hf⟩⟩
  · cases h1
  · obtain ⟨rfl⟩ := h1
    exact ⟨hc i _ (List.getElem?_eq_getElem hi), hf i⟩
def GraphPost (w : World) (n : Nat) (r : Option (List (List Nat))) (e : Ending) (w' : World) : Prop :=
  (e = .returned (.tuple #[.slice none 0 0, .bool false]) ∧ r = none ∧ Grew w w') ∨ ∃ g vs G, e = .returned (.tuple #[.slice (some ⟨g, 0, none⟩) n n, .bool true]) ∧ r = some G ∧ vs.length = n ∧ GraphAt w' w.heap.size g n vs G ∧ Grew w w'
set_option maxRecDepth 100000 in
set_option maxHeartbeats 2000000 in
theorem graph_c (A1 : Option Addr) (c1 : Nat) (A2 : Option Addr) (c2 n : Nat) (l : List Op7.Ins) (os : List Nat) (w : World) (h : CodeAt w A1 A2 c2 n l os) :
    Calls Tryz.prog 152 #[.agg #[.slice A1 n c1, .slice A2 n c2]] w (GraphPost w n (Fl.graph l os)) := by
  have H := hid h
  have hn := h.few
  have HG := hid (((Grew.refl w).alloc (.cells #[.slice A1 n c1, .slice A2 n c2] 218)))
  clear h
  rcases Nat.eq_zero_or_pos n with h0 | h0
  · subst h0
    have HR : Hid (Fl.graph l os = none) := hid (by unfold Fl.graph; rw [if_pos (List.eq_nil_of_length_eq_zero H.out.l1.symm)])
    go_enter Tryz.func152, Tryz.ntmps152
    go_wp2_with fail
    go_ret2
    exact .inl ⟨rfl, HR.out, HG.out⟩
  · have HE : Hid (Fl.graph l os = Fl.graphTo l os n) := hid (by
      unfold Fl.graph
      rw [if_neg (fun h => by have := H.out.l1; rw [h] at this; simp at this; omega), ← H.out.l1])
    have f0 : (((n : Nat) : Int) == 0) = false := by rw [beq_eq_false_iff_ne]; omega
    obtain ⟨W1, hmk, hR1, hG1, hlt1⟩ := make_one (z := .slice none 0 0) Tryz.underlying202 slice_info rfl (by decide) n (by omega) (w.alloc (.cells #[.slice A1 n c1, .slice A2 n c2] 218))
    simp only [World.size_alloc] at hR1 hmk hlt1
    obtain ⟨g, hg⟩ : ∃ g, g = w.heap.size + 1 := ⟨_, rfl⟩
    rw [← hg] at hmk hR1 hlt1
    have hQ1 : GraphAt W1 w.heap.size g n (List.replicate n (.slice none 0 0)) [] := ⟨by rw [List.length_replicate]; exact Row.low hR1 (by omega), fun i s hs => by simp at hs⟩
    obtain ⟨y1, rfl⟩ := hG1
    have HQ1 := hid hQ1
    clear hQ1 hR1 hlt1
    have HGG := hid hg
    clear hg
    go_enter Tryz.func152, Tryz.ntmps152
    go_wp2_with fail
    clear hmk
    go_loopw [20] (fun s20 wr => ∃ (i : Nat) (vs : List Value) (G : List (List Nat)), s20 = .int .i64 ((i : Nat) : Int) ∧ i ≤ n ∧ Hid (vs.length = n ∧ G.length = i ∧ Fl.graphTo l os i = some G ∧ GraphAt wr w.heap.size g n vs G) ∧ (∃ y : After (w.alloc (.cells #[.slice A1 n c1, .slice A2 n c2] 218)), wr = y.w)) (fun s20 _ => n - (intOf s20).toNat)
    case atStart => exact ⟨0, _, [], rfl, Nat.zero_le _, hid ⟨by simp, rfl, rfl, HQ1.out⟩, y1, rfl⟩
    case round =>
      obtain ⟨i, vs, G, rfl, hi, HI, y2, rfl⟩ := hrel
      clear HQ1
      by_cases hlt : i < n
      · have f1 : (i : Int) < n := by omega
        obtain ⟨o, ho⟩ : ∃ o, l[i]? = some o := ⟨_, List.getElem?_eq_getElem (show i < l.length by rw [← H.out.l1]; exact hlt)⟩
        obtain ⟨ad, rfl, hb, hc⟩ := H.out.ops.2 (by rw [← H.out.l1]; omega)
        obtain ⟨q0, q1, q2⟩ := op_cell (o := o) (i := i) (ad := ad) (w := y2.w) (fun j u hu => by
          rw [(HG.out.trans y2.grew).below.cell (by rw [block_add]; exact hb)]; exact hc i o ho j u hu)
        have HSC := hid (fun w' (hg : Grew w w') => succ_c (some ad) c1 A2 c2 n l os i w' (H.out.grew hg) hlt)
        have HJC := hid (fun w' (hg : Grew w w') x => join_c (some ad) c1 A2 c2 n l os x w' (H.out.grew hg))
        have HST : Hid (Fl.graphTo l os (i + 1) = (Fl.node l os i).map fun s => G ++ [s]) := hid (by
          show (Fl.graphTo l os i).bind _ = _
          rw [HI.out.2.2.1]; rfl)
        have HND : Hid (∀ s, Fl.succ l os i = some s → Fl.node l os i = if o.code = 14 ∧ Fl.isJoin l os o.b = false then none else some s) := hid (by
          intro s hs
          unfold Fl.node
          rw [hs, Option.bind_some, ho])
        have HNN : Hid (Fl.succ l os i = none → Fl.graph l os = none) := hid (by
          intro hs
          rw [HE.out]
          refine Fl.graphTo_none (k := i + 1) ?_ n (by omega)
          rw [HST.out]
          unfold Fl.node
          rw [hs]; rfl)
        have HNJ : Hid (Fl.node l os i = none → Fl.graph l os = none) := hid (by
          intro hs
          rw [HE.out]
          refine Fl.graphTo_none (k := i + 1) ?_ n (by omega)
          rw [HST.out, hs]; rfl)
        obtain ⟨hgl, hgs⟩ := Row.lt' HI.out.2.2.2.row
        have hws : w.heap.size < y2.w.heap.size := by omega
        obtain ⟨qc, qf⟩ := HI.out.2.2.2.row.cellAt i (by rw [HI.out.1]; exact hlt)
        clear hc ho
        obtain ⟨cd, oa, ob⟩ := o
        simp only at q0 q1 q2 HND
        go_wp2_with fail
        refine (HSC.out _ (HG.out.trans (y2.grew.alloc _))).mono ?_
        rintro e w3 ⟨A3, c3, b, s, rfl, hs, hO, y3, rfl⟩
        have HS := hid hs
        have HO := hid hO
        clear hs hO
        cases b
        · have HX := hid (HNN.out (by rw [HS.out]; rfl))
          go_wp2_with fail
          go_ret2
          exact .inl ⟨rfl, HX.out, HG.out.trans ((y2.grew.alloc _).trans y3.grew)⟩
        · replace HND := hid (HND.out s (by rw [HS.out]; rfl))
          have HGR := hid ((y2.grew.alloc (.cells #[.int .u8 ((cd : Nat) : Int), .int .i64 oa, .int .i64 ob] 181)).trans y3.grew)
          by_cases h14 : cd = 14
          · have e14 : (((cd : Nat) : Int) == 14) = true := by rw [beq_iff_eq]; omega
            cases hj : Fl.isJoin l os ob
            · have HX := hid (HNJ.out (by rw [HND.out, if_pos ⟨h14, hj⟩]))
              have HJ := hid (fun w' (hg : Grew w w') => HJC.out w' hg ob)
              rw [hj] at HJ
              clear h14
              go_wp2_with fail
              refine (HJ.out _ (HG.out.trans HGR.out)).mono ?_
              rintro e w4 ⟨rfl, hg4⟩
              go_wp2_with fail
              go_ret2
              exact .inl ⟨rfl, HX.out, HG.out.trans (HGR.out.trans hg4)⟩
            · have HX := hid (show Fl.graphTo l os (i + 1) = some (G ++ [s]) by rw [HST.out, HND.out, if_neg (fun h => by rw [hj] at h; cases h.2)]; rfl)
              have HJ := hid (fun w' (hg : Grew w w') => HJC.out w' hg ob)
              rw [hj] at HJ
              clear h14
              go_wp2_with fail
              refine (HJ.out _ (HG.out.trans HGR.out)).mono ?_
              rintro e w4 ⟨rfl, hg4⟩
              have HO4 := hid (HO.out.grew hg4)
              have HI4 := hid (HI.out.2.2.2.grew (((Grew.refl y2.w).alloc (.cells #[.int .u8 ((cd : Nat) : Int), .int .i64 oa, .int .i64 ob] 181)).trans (y3.grew.trans hg4)))
              have HG4 := hid (HGR.out.trans hg4)
              obtain ⟨qc4, qf4⟩ := HI4.out.row.cellAt i (by rw [HI.out.1]; exact hlt)
              clear q0 q1 q2 qc qf
              go_wp2_with fail
              go_round
              case rel => exact ⟨i + 1, vs.set i (.slice A3 s.length c3), G ++ [s], by go_num, by omega, hid ⟨by rw [List.length_set]; exact HI.out.1, by rw [List.length_append, HI.out.2.1]; rfl, HX.out, HI4.out.next' HI.out.2.1 (by rw [HI.out.1]; exact hlt) A3 c3 s (Row.low HO4.out (by simp only [World.size_alloc]; omega))⟩, HG4.out.setCell (by simp only [World.size_alloc]; have := HGG.out; omega) _⟩
              case measure => simp [intOf]; omega
          · have e14 : (((cd : Nat) : Int) == 14) = false := by rw [beq_eq_false_iff_ne]; omega
            have HX := hid (show Fl.graphTo l os (i + 1) = some (G ++ [s]) by rw [HST.out, HND.out, if_neg (fun h => h14 h.1)]; rfl)
            have HI4 := hid (HI.out.2.2.2.grew (((Grew.refl y2.w).alloc (.cells #[.int .u8 ((cd : Nat) : Int), .int .i64 oa, .int .i64 ob] 181)).trans y3.grew))
            go_wp2_with fail
            go_round
            case rel => exact ⟨i + 1, vs.set i (.slice A3 s.length c3), G ++ [s], by go_num, by omega, hid ⟨by rw [List.length_set]; exact HI.out.1, by rw [List.length_append, HI.out.2.1]; rfl, HX.out, HI4.out.next' HI.out.2.1 (by rw [HI.out.1]; exact hlt) A3 c3 s (Row.low HO.out (by simp only [World.size_alloc]; omega))⟩, HGR.out.setCell (by simp only [World.size_alloc]; have := HGG.out; omega) _⟩
            case measure => simp [intOf]; omega
      · have hin : i = n := by omega
        subst hin
        have HX : Hid (Fl.graph l os = some G) := hid (by rw [HE.out]; exact HI.out.2.2.1)
        go_wp2_with fail
        go_ret2
        exact .inr ⟨g, vs, G, rfl, HX.out, HI.out.1, HI.out.2.2.2, HG.out.trans y2.grew⟩
end Go.Proofs.YtjladeiecokpfaaGreatDoor
namespace Go.Proofs.YtjladeiecokpfaaGreatDoor
open Go.RowKit

/-- 'copy(dst, src)', elements of s cells, into a block that is known whole. -/
theorem run_copyS {P : Program} (s : Nat) (w : World) (dT sT ty elem : TypeId) (g o dLen dCap : Nat) (a : Addr) (sLen sCap : Nat) (vs : List Value) (t : TypeId) (cs : List Value)
    (hu : P.underlying dT = some (.slice elem)) (hs : (P.info? elem).map (·.size) = some s)
    (hg : Blk w g t vs.toArray) (hn : cs.length = Nat.min sLen dLen * s)
    (hsrc : ∀ j v, cs[j]? = some v → w.cell? (a.add j) = some v) (hfit : o + cs.length ≤ vs.length) (h1 : ∀ v ∈ cs, v.oneCell' = true) :
    ∃ w', (Builtin.copy_ #[dT, sT] ty #[.slice (some ⟨g, o, none⟩) dLen dCap, .slice (some a) sLen sCap]).run P w = .ok (goInt (Nat.min sLen dLen)) w' ∧ Blk w' g t (splice vs o cs).toArray ∧ Kept (fun k => k = g) w w' := by
  have hl := run_loadCells_list (P := P) w a cs hsrc
  have hst := run_storeCells_at P g o t cs 0 vs.toArray w hg (by simpa using hfit) h1
  refine ⟨w.setRow g ((vs.take o ++ cs ++ vs.drop (o + cs.length))).toArray, ?_, ?_, rfl, rfl, rfl, by simp [World.setRow], fun k hk hF => setRow_other w g k _ (fun h => hF h)⟩
  · cases hq : P.info? elem with
    | none => simp [hq] at hs
    | some i =>
      have hi : i.size = s := by simpa [hq] using hs
      simp only [Nat.add_zero] at hst
      simp [Builtin.copy_, run_underlying hu, Builtin.lenOf, Builtin.firstCells, sizeOf, typeInfo, hq, hi, ← hn, hl, hst]
  · have := setRow_heap w g vs.toArray (vs.take o ++ cs ++ vs.drop (o + cs.length)).toArray t _ hg
    unfold Blk
    rw [this]
    simp [splice]
/-- 'make([]T, n)', whatever T. -/
theorem make_blk {P : Program} {t e : TypeId} {z : Value} {s b : Nat} (ht : P.underlying t = some (.slice e)) (he : (P.info? e).map (fun i => (i.zero, i.size, i.bytes)) = some (some z, s, b)) (hb : b ≤ 100)
    (n : Nat) (hn : n ≤ 1048576) (W : World) : ∃ (vs : List Value) (w' : World), vs.length = n * s ∧ (Instr.makeSlice t (.int .i64 n) (.int .i64 n)).run P W = .ok (.slice (some ⟨W.heap.size, 0, none⟩) n n) w' ∧ Blk w' W.heap.size e vs.toArray ∧ Grew W w' ∧ w'.heap.size = W.heap.size + 1 := by
  obtain ⟨i, hi, hz0, hz1, hz2⟩ := info_parts he
  have hm : n * b ≤ n * 100 := Nat.mul_le_mul_left n hb
  have hm2 : (b : Int) * (n : Int) ≤ 100 * n := by rw [← Int.natCast_mul, Nat.mul_comm]; omega
  have hr := run_make (P := P) W t e i z ht hi hz0 .i64 .i64 n n (by omega) (by omega) (by rw [hz2]; omega) (by omega)
  simp only [Int.toNat_natCast] at hr
  refine ⟨(madeCells z.cells (n * i.size)).toList, _, by simp [size_madeCells, hz1], hr, ?_, (Grew.refl W).alloc _, by simp⟩
  have := Blk.new W e (madeCells z.cells (n * i.size))
  simpa using this
/-- As far as copies of xs have come. -/
def Filled (xs vs : List Value) (n f : Nat) : Prop := vs.length = n * xs.length ∧ ∀ j, j < f * xs.length → vs[j]? = xs[j % xs.length]?
theorem splice_get {α : Type} (vs cs : List α) (o j : Nat) (h : o + cs.length ≤ vs.length) : (splice vs o cs)[j]? = if j < o then vs[j]? else if j < o + cs.length then cs[j - o]? else vs[j]? := by
  unfold splice
  have hl : (vs.take o).length = o := by rw [List.length_take]; omega
  by_cases h1 : j < o
  · rw [if_pos h1, List.getElem?_append_left (by omega), List.getElem?_take_of_lt h1]
  · rw [if_neg h1, List.getElem?_append_right (by omega), hl]
    by_cases h2 : j < o + cs.length
    · rw [if_pos h2, List.getElem?_append_left (by omega)]
    · rw [if_neg h2, List.getElem?_append_right (by omega), List.getElem?_drop]
      congr 1
      omega
theorem Filled.first {xs vs : List Value} {n : Nat} (h : vs.length = n * xs.length) (hn : 1 ≤ n) : Filled xs (splice vs 0 xs) n 1 := by
  have h1 : 1 * xs.length ≤ n * xs.length := Nat.mul_le_mul_right _ hn
  have hf : 0 + xs.length ≤ vs.length := by omega
  refine ⟨by rw [length_splice _ _ _ hf, h], fun j hj => ?_⟩
  rw [splice_get _ _ _ _ hf, if_neg (by omega), if_pos (by omega), Nat.sub_zero, Nat.mod_eq_of_lt (by omega)]
theorem Filled.next {xs vs : List Value} {n f : Nat} (h : Filled xs vs n f) (m : Nat) (hm : m ≤ f) (hn : f + m ≤ n) : Filled xs (splice vs (f * xs.length) (vs.take (m * xs.length))) n (f + m) := by
  have h0 : (f + m) * xs.length ≤ n * xs.length := Nat.mul_le_mul_right _ hn
  have h1 : (f + m) * xs.length = f * xs.length + m * xs.length := Nat.add_mul _ _ _
  have h2 : m * xs.length ≤ f * xs.length := Nat.mul_le_mul_right _ hm
  have hl : (vs.take (m * xs.length)).length = m * xs.length := by rw [List.length_take, h.1]; omega
  have hf : f * xs.length + (vs.take (m * xs.length)).length ≤ vs.length := by rw [hl, h.1]; omega
  refine ⟨by rw [length_splice _ _ _ hf, h.1], fun j hj => ?_⟩
  rw [splice_get _ _ _ _ hf, hl]
  by_cases h3 : j < f * xs.length
  · rw [if_pos h3]; exact h.2 j h3
  · rw [if_neg h3, if_pos (by omega), List.getElem?_take_of_lt (by omega), h.2 _ (by omega)]
    congr 1
    conv => rhs; rw [show j = (j - f * xs.length) + f * xs.length by omega, Nat.add_mul_mod_self_right]
theorem flatten_get (xs : List Value) (hx : 0 < xs.length) : ∀ (n j : Nat), j < n * xs.length → ((List.replicate n xs).flatten)[j]? = xs[j % xs.length]?
  | 0, j, h => by omega
  | n + 1, j, h => by
    rw [List.replicate_succ, List.flatten_cons]
    rcases Nat.lt_or_ge j xs.length with h1 | h1
    · rw [List.getElem?_append_left h1, Nat.mod_eq_of_lt h1]
    · rw [List.getElem?_append_right h1, flatten_get xs hx n (j - xs.length) (by rw [Nat.add_mul] at h; omega)]
      congr 1
      rw [Nat.mod_eq_sub_mod h1]
theorem Filled.all {xs vs : List Value} {n : Nat} (hx : 0 < xs.length) (h : Filled xs vs n n) : vs = (List.replicate n xs).flatten := by
  have hl : ((List.replicate n xs).flatten).length = n * xs.length := by simp
  apply List.ext_getElem?
  intro j
  by_cases hj : j < n * xs.length
  · rw [h.2 j hj, flatten_get xs hx n j hj]
  · rw [List.getElem?_eq_none (by rw [h.1]; omega), List.getElem?_eq_none (by omega)]
end Go.Proofs.YtjladeiecokpfaaGreatDoor
namespace Go.Proofs.YtjladeiecokpfaaGreatDoor
open Go.RowKit

def RepPost (w : World) (e : TypeId) (s n : Nat) (xs : List Value) (en : Ending) (w' : World) : Prop :=
  ∃ g vs, en = .returned (.slice (some ⟨g, 0, none⟩) n n) ∧ vs = (List.replicate n xs).flatten ∧ Row w' w.heap.size e s (some ⟨g, 0, none⟩) n n vs ∧ Grew w w'
/-- What each operation of the round gives. -/
def RepF (g s n f m : Nat) (i : Nat) (v : Value) (_ : World) : Prop := match i with
  | 0 => v = .int .i64 ((f : Nat) : Int)
  | 1 => v = .slice (some ⟨g, 0, none⟩) n n
  | 2 => v = .int .i64 ((f : Nat) : Int)
  | 3 => v = .slice (some ⟨g, f * s, none⟩) (n - f) (n - f)
  | 4 => v = .slice (some ⟨g, 0, none⟩) n n
  | 5 => v = .int .i64 ((f : Nat) : Int)
  | 6 => v = .slice (some ⟨g, 0, none⟩) f n
  | _ => v = .int .i64 ((m : Nat) : Int)
/-- The row before and behind the copy. -/
def RepJ (g : Nat) (e : TypeId) (us us' : List Value) (b : Bool) (w : World) : Prop := Blk w g e (if b then us' else us).toArray
set_option maxRecDepth 100000 in
set_option maxHeartbeats 2000000 in
theorem repInt (bx n : Nat) (xs : List Value) (w : World) (hx : ∀ j v, xs[j]? = some v → w.cell? ⟨bx, j, none⟩ = some v) (hb : bx < w.heap.size) (hl : xs.length = 1) (h1 : ∀ v ∈ xs, v.oneCell' = true) (hn : 1 ≤ n) (hn2 : n ≤ 1024) :
    Calls Tryz.prog 177 #[.slice (some ⟨bx, 0, none⟩) 1 1, .int .i64 (n : Nat)] w (RepPost w 3 1 n xs) := by
  have H1 := hid h1
  have HL := hid hl
  have HM := hid (fun w' => Tryz.bits_Mul 1 n (by decide) (by omega) w')
  have e1 : 1 * n / 18446744073709551616 = 0 := Nat.div_eq_of_lt (by omega)
  have e2 : 1 * n % 18446744073709551616 = n := by rw [Nat.one_mul]; exact Nat.mod_eq_of_lt (by omega)
  rw [e1, e2] at HM
  clear e1 e2
  obtain ⟨vs, W1, hvl, hmk, hB, hG, hS⟩ := make_blk (z := .int .i64 0) (s := 1) (b := 8) Tryz.underlying58 (by kernel_rfl) (by decide) n (by omega) w
  have hFit : 0 + xs.length ≤ vs.length := by rw [hl, hvl]; omega
  obtain ⟨W2, hcp, hB2, hK2⟩ := run_copyS (P := Tryz.prog) 1 W1 58 58 3 3 w.heap.size 0 n n ⟨bx, 0, none⟩ 1 1 vs 3 xs Tryz.underlying58 (by kernel_rfl) hB (by rw [hl, show Nat.min 1 n = 1 from Nat.min_eq_left hn]) (fun j v hv => by
    rw [hG.below.cell (by rw [block_add]; exact hb), show (⟨bx, 0, none⟩ : Addr).add j = ⟨bx, j, none⟩ by simp [Addr.add]; omega]
    exact hx j v hv) hFit h1
  rw [show Nat.min 1 n = 1 from Nat.min_eq_left hn, show goInt ((1 : Nat) : Int) = .int .i64 1 from rfl] at hcp
  have HB := hid hB2
  have HF := hid (Filled.first (xs := xs) (vs := vs) (n := n) (by rw [hl]; exact hvl) hn)
  have HG := hid (hK2.grew hG (fun k hk => by subst hk; exact Nat.le_refl _))
  have HV := hid hvl
  clear hB hB2 hG hS hvl hx h1 hl hK2 hFit
  obtain ⟨g, hg⟩ : ∃ g, g = w.heap.size := ⟨_, rfl⟩
  have HGG := hid hg
  rw [← hg] at hmk HB hcp
  clear hg
  generalize splice vs 0 xs = us at *
  have f0 : ¬ ((n : Int) < 0) := by omega
  have f1 : ¬ ((9223372036854775807 : Int) < n) := by omega
  go_enter Tryz.func177, Tryz.ntmps177
  go_wp2_with fail
  refine (HM.out _).mono ?_
  rintro e w2 ⟨rfl, rfl⟩
  go_wp2_with fail
  clear hmk hcp
  go_loopw [8] (fun s8 wr => ∃ (f : Nat) (us : List Value), s8 = .int .i64 ((f : Nat) : Int) ∧ 1 ≤ f ∧ f ≤ n ∧ Hid (Blk wr g 3 us.toArray ∧ Filled xs us n f) ∧ Hid (Grew w2 wr)) (fun s8 _ => n - (intOf s8).toNat)
  case atStart => exact ⟨1, us, rfl, Nat.le_refl _, hn, hid ⟨HB.out, HF.out⟩, HG⟩
  case round =>
    obtain ⟨f, us, rfl, hf1, hfn, HB, HGr⟩ := hrel
    by_cases hlt : f < n
    · have g1 : (f : Int) < n := by omega
      have g2 : (f : Int) ≤ n := by omega
      go_wp2_with fail
      obtain ⟨m, hm⟩ : ∃ m, m = Nat.min f (n - f) := ⟨_, rfl⟩
      have hmf : m ≤ f := by rw [hm]; exact Nat.min_le_left _ _
      have hmn : f + m ≤ n := by have : m ≤ n - f := by rw [hm]; exact Nat.min_le_right _ _
                                 omega
      have hm1 : 1 ≤ m := by rw [hm]; exact Nat.le_min.2 ⟨hf1, by omega⟩
      have HN := hid (HB.out.2.next m hmf hmn)
      have HCP := hid (fun (w' : World) (hb : Blk w' g 3 us.toArray) => run_copyS (P := Tryz.prog) 1 w' 58 58 3 3 g (f * 1) (n - f) (n - f) ⟨g, 0, none⟩ f n us 3 (us.take (m * 1)) Tryz.underlying58 (by kernel_rfl) hb (by
          have h0 : m * 1 ≤ n * 1 := Nat.mul_le_mul_right _ (by omega)
          have h2 := HB.out.2.1
          rw [HL.out] at h2
          rw [List.length_take, ← hm, h2]; omega) (fun j v hv => by
        have hj : j < m * 1 := by have := (List.getElem?_eq_some_iff.1 hv).1; rw [List.length_take] at this; omega
        rw [List.getElem?_take_of_lt hj] at hv
        rw [show (⟨g, 0, none⟩ : Addr).add j = ⟨g, j, none⟩ by simp [Addr.add]; omega, hb.cell j]
        simpa using hv) (by
          have h0 : (f + m) * 1 ≤ n * 1 := Nat.mul_le_mul_right _ hmn
          have h2 := HB.out.2.1
          rw [HL.out] at h2
          rw [List.length_take, h2]; omega) (fun v hv => by
        obtain ⟨j, hj, rfl⟩ := List.mem_iff_getElem.1 hv
        have hj2 : j < f * 1 := by
          rw [List.length_take] at hj
          have : m * 1 ≤ f * 1 := Nat.mul_le_mul_right _ hmf
          omega
        have h3 := HB.out.2.2 j (by rw [HL.out]; exact hj2)
        rw [List.getElem_take]
        rw [List.getElem?_eq_getElem (by rw [List.length_take] at hj; omega)] at h3
        exact H1.out _ (List.mem_of_getElem? h3.symm)))
      rw [← hm] at HCP
      have hne : ¬ (n = f) := by omega
      obtain ⟨vs2, hvs2⟩ : ∃ vs2, vs2 = splice us (f * 1) (us.take (m * 1)) := ⟨_, rfl⟩
      rw [← hvs2] at HCP
      have HN2 : Hid (Filled xs vs2 n (f + m)) := hid (by rw [hvs2]; have := HN.out; rwa [HL.out] at this)
      have HH1 := hid H1.out
      clear hvs2 HN hm
      refine wp_region_facts3 (w0 := wr) _ 3 8 [38, 39, 40, 41, 42, 43, 44, 45] [] (RepF g 1 n f m) (Kept (fun k => k = g)) (RepJ g 3 us vs2) 7 (May.kept _) (by kernel_rfl) (by kernel_rfl) (Kept.refl _ _).drew HB.out.1.drew (fun _ _ _ _ h _ => h) ?_ ?_
      · repeat' (first | exact trivial | apply And.intro)
        all_goals
          intro a w' b hgw hJ hbm hs hA
          have e7 := hs.eval 7 (by decide) (v := .slice (some ⟨g, 0, none⟩) n n) rfl
          have e8 := hs.eval 8 (by decide) (v := .int .i64 ((f : Nat) : Int)) rfl
          have HJ := hid hJ
          have HBM := hid hbm
          clear hs hgw hJ hbm
          simp only [Ahead, Region.binds, slotOf, RepF, List.getD_cons_succ, List.getD_cons_zero, forall_const, and_true] at hA
          simp only [wantedD, if_true]
          unfold Oper.wp
          generalize hfe : a.eval = fe at *
          clear hfe
          first
            | (have hbf : b = false := HBM.out (by decide)
               subst hbf
               obtain ⟨W3, hrun, hb3, hk3⟩ := HCP.out w' HJ.out
               have HB3 := hid hb3
               clear hb3
               rw [show goInt ((m : Nat) : Int) = .int .i64 ((m : Nat) : Int) from rfl] at hrun
               try simp only [Nat.mul_one] at hrun
               have HQ := hid (Gives3.of (R := Kept (fun k => k = g)) (F := RepF g 1 n f m 7) (J := RepJ g 3 us vs2 true) (al := false) (d := 45) (a := a) rfl hk3 rfl HB3.out)
               clear HB3 hk3
               go_simp
               exact HQ.out)
            | (go_simp; exact Gives3.of rfl (Kept.refl _ _) rfl (by cases b <;> exact HJ.out))
            | (go_simp; exact Gives3.of rfl (Kept.refl _ _) (by simp [RepF]) (by cases b <;> exact HJ.out))
      · intro a w3 hgw hs hf hJ _
        have h0 := hf 0 (by decide)
        have h7 := hf 7 (by decide)
        simp only [slotOf, RepF, List.getD_cons_succ, List.getD_cons_zero] at h0 h7
        obtain ⟨fn, rfl, hft⟩ := hs.put
        rw [hft] at h0 h7
        have HJ : Hid (Blk w3 g 3 vs2.toArray) := hid hJ
        have HG3 := hid (hgw.grew HGr.out (fun k hk => by subst hk; rw [HGG.out]; exact Nat.le_refl _))
        clear hf hft hs hgw hJ
        simp only [List.drop_succ_cons, List.drop_zero, putAll, List.foldl_cons, List.foldl_nil, Act.put, List.setIfInBounds_toArray, List.set_cons_succ, List.set_cons_zero, h0, h7]
        clear h0 h7
        go_wp2_with fail
        go_round
        case rel => exact ⟨f + m, vs2, by go_num, by omega, hmn, hid ⟨HJ.out, HN2.out⟩, HG3⟩
        case measure => simp [intOf]; omega
    · obtain rfl : f = n := by omega
      go_wp2_with fail
      go_ret
      exact ⟨g, us, rfl, HB.out.2.all (by rw [HL.out]; decide), by have := Row.of_blk (B := w2.heap.size) (s := 1) (n := f) HB.out.1 (by rw [HGG.out]; exact Nat.le_refl _) (by have := HB.out.2.1; rw [HL.out] at this; simpa using this) (by omega); simpa using this, HGr.out⟩
end Go.Proofs.YtjladeiecokpfaaGreatDoor

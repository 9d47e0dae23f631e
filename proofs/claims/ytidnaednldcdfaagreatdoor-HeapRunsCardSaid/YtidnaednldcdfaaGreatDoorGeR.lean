/- Stage 12: the list of the reference that Add makes. -/
import Derived.Test.YtidnaednldcdfaaGreatDoorGeQ
namespace Go.Proofs.YtidnaednldcdfaaGreatDoor
open Go.RowKit

def RdF (gx gt : Nat) (I : Option Addr) (m ci n : Nat) (C : Option Addr) (un cc : Nat) (lev cj : Int) (pC ob it yv : Value) (j : Nat) (v : Value) (_ : World) : Prop := match j with
  | 0 => ∃ H, v = .slice (some ⟨H, 0, none⟩) 0 0
  | 1 => v = .pointer (some ⟨gx, 3, none⟩)
  | 2 => v = .slice I m ci
  | 3 => v = .int .i64 ((n : Nat) : Int)
  | 4 => v = .slice I n ci
  | 5 => ∃ A c, v = .slice A n c
  | 6 => v = .int .i64 ((n : Nat) : Int)
  | 7 => v = .pointer (some ⟨gx, 4, none⟩)
  | 8 => v = .slice C un cc
  | 9 => v = .pointer (some ⟨gx + 1, 1, none⟩)
  | 10 => v = .int .i64 lev
  | 11 => v = pC
  | 12 => v = .int .i64 cj
  | 13 => v = ob
  | 14 => v = it
  | 15 => ∃ H, v = .slice (some ⟨H, 0, none⟩) 1 1
  | 16 => ∃ A c, v = .slice A (n + 1) c
  | 17 => v = .pointer (some ⟨gx, 3, none⟩)
  | 18 => v = .slice I m ci
  | 19 => v = .int .i64 ((n : Nat) : Int)
  | 20 => v = yv
  | 21 => ∃ A c, v = .slice A (m + 1) c
  | 22 => v = .pointer (some ⟨gt, 3, none⟩)
  | _ => True
/-- The state of the list that is being made, in the slots that hold it. -/
structure RdJ (w0 : World) (n m : Nat) (xs nw ys : List Value) (f : Nat → Bool) (s : Nat → Value) (w : World) : Prop where
  gr : Kept (fun k => w0.heap.size ≤ k) w0 w
  o16 : f 16 = true → f 5 = true
  o21 : f 21 = true → f 16 = true
  j0 : f 0 = true → f 5 = false → ∃ H, s 0 = .slice (some ⟨H, 0, none⟩) 0 0 ∧ w0.heap.size ≤ H ∧ Blk w H 75 #[]
  j5 : f 5 = true → f 16 = false → ∃ A c, s 5 = .slice A n c ∧ Row w w0.heap.size 75 6 A n c xs
  j15 : f 15 = true → f 16 = false → ∃ H, s 15 = .slice (some ⟨H, 0, none⟩) 1 1 ∧ w0.heap.size ≤ H ∧ Blk w H 75 nw.toArray
  j16 : f 16 = true → f 21 = false → ∃ A c, s 16 = .slice A (n + 1) c ∧ Row w w0.heap.size 75 6 A (n + 1) c (xs ++ nw)
  j21 : f 21 = true → ∃ A c, s 21 = .slice A (m + 1) c ∧ Row w w0.heap.size 75 6 A (m + 1) c ((xs ++ nw) ++ ys)
theorem RdJ.start (w0 : World) (n m : Nat) (xs nw ys : List Value) (s : Nat → Value) {w : World} (h : Kept (fun k => w0.heap.size ≤ k) w0 w) : RdJ w0 n m xs nw ys (fun _ => false) s w :=
  ⟨h, fun h => (by cases h), fun h => (by cases h), fun h => (by cases h), fun h => (by cases h), fun h => (by cases h), fun h => (by cases h), fun h => (by cases h)⟩
theorem RdJ.same {w0 w : World} {n m : Nat} {xs nw ys : List Value} {f f' : Nat → Bool} {s s' : Nat → Value} (h : RdJ w0 n m xs nw ys f s w) (f0 : f' 0 = f 0) (f5 : f' 5 = f 5) (f15 : f' 15 = f 15) (f16 : f' 16 = f 16) (f21 : f' 21 = f 21) (s0 : s' 0 = s 0) (s5 : s' 5 = s 5) (s15 : s' 15 = s 15) (s16 : s' 16 = s 16) (s21 : s' 21 = s 21) : RdJ w0 n m xs nw ys f' s' w :=
  ⟨h.gr, by rw [f16, f5]; exact h.o16, by rw [f21, f16]; exact h.o21, by rw [f0, f5, s0]; exact h.j0, by rw [f5, f16, s5]; exact h.j5, by rw [f15, f16, s15]; exact h.j15, by rw [f16, f21, s16]; exact h.j16, by rw [f21, s21]; exact h.j21⟩
theorem updF_ne {f : Nat → Bool} {i j : Nat} (h : j ≠ i) : updF f i j = f j := if_neg h
theorem updV_ne {s : Nat → Value} {i j : Nat} {v : Value} (h : j ≠ i) : updV s i v j = s j := if_neg h
theorem updF_at {f : Nat → Bool} {i : Nat} : updF f i i = true := if_pos rfl
theorem updV_at {s : Nat → Value} {i : Nat} {v : Value} : updV s i v i = v := if_pos rfl
theorem RdJ.pure {w0 w : World} {n m : Nat} {xs nw ys : List Value} {f : Nat → Bool} {s : Nat → Value} (h : RdJ w0 n m xs nw ys f s w) (i : Nat) (v : Value) (h0 : 0 ≠ i) (h5 : 5 ≠ i) (h15 : 15 ≠ i) (h16 : 16 ≠ i) (h21 : 21 ≠ i) : RdJ w0 n m xs nw ys (updF f i) (updV s i v) w :=
  h.same (updF_ne h0) (updF_ne h5) (updF_ne h15) (updF_ne h16) (updF_ne h21) (updV_ne h0) (updV_ne h5) (updV_ne h15) (updV_ne h16) (updV_ne h21)
theorem RdJ.grew {w0 w w' : World} {n m : Nat} {xs nw ys : List Value} {f : Nat → Bool} {s : Nat → Value} (h : RdJ w0 n m xs nw ys f s w) (hg : Grew w w') : RdJ w0 n m xs nw ys f s w' :=
  ⟨(May.kept _).trans h.gr (Kept.of_grew hg), h.o16, h.o21, fun a b => by obtain ⟨H, h1, h2, h3⟩ := h.j0 a b; exact ⟨H, h1, h2, h3.grew hg⟩, fun a b => by obtain ⟨A, c, h1, h2⟩ := h.j5 a b; exact ⟨A, c, h1, h2.grew hg⟩, fun a b => by obtain ⟨H, h1, h2, h3⟩ := h.j15 a b; exact ⟨H, h1, h2, h3.grew hg⟩, fun a b => by obtain ⟨A, c, h1, h2⟩ := h.j16 a b; exact ⟨A, c, h1, h2.grew hg⟩, fun a => by obtain ⟨A, c, h1, h2⟩ := h.j21 a; exact ⟨A, c, h1, h2.grew hg⟩⟩
theorem RdJ.set0 {w0 w : World} {n m : Nat} {xs nw ys : List Value} {f : Nat → Bool} {s : Nat → Value} (h : RdJ w0 n m xs nw ys f s w) {H : Nat} (hB : w0.heap.size ≤ H) (hb : Blk w H 75 #[]) : RdJ w0 n m xs nw ys (updF f 0) (updV s 0 (.slice (some ⟨H, 0, none⟩) 0 0)) w := by
  refine ⟨h.gr, ?_, ?_, fun _ _ => ⟨H, updV_at, hB, hb⟩, ?_, ?_, ?_, ?_⟩ <;> simp only [updF_ne (show 5 ≠ 0 by decide), updF_ne (show 15 ≠ 0 by decide), updF_ne (show 16 ≠ 0 by decide), updF_ne (show 21 ≠ 0 by decide), updV_ne (show 5 ≠ 0 by decide), updV_ne (show 15 ≠ 0 by decide), updV_ne (show 16 ≠ 0 by decide), updV_ne (show 21 ≠ 0 by decide)]
  · exact h.o16
  · exact h.o21
  · exact h.j5
  · exact h.j15
  · exact h.j16
  · exact h.j21
theorem RdJ.set15 {w0 w : World} {n m : Nat} {xs nw ys : List Value} {f : Nat → Bool} {s : Nat → Value} (h : RdJ w0 n m xs nw ys f s w) {H : Nat} (hB : w0.heap.size ≤ H) (hb : Blk w H 75 nw.toArray) : RdJ w0 n m xs nw ys (updF f 15) (updV s 15 (.slice (some ⟨H, 0, none⟩) 1 1)) w := by
  refine ⟨h.gr, ?_, ?_, ?_, ?_, fun _ _ => ⟨H, updV_at, hB, hb⟩, ?_, ?_⟩ <;> simp only [updF_ne (show 0 ≠ 15 by decide), updF_ne (show 5 ≠ 15 by decide), updF_ne (show 16 ≠ 15 by decide), updF_ne (show 21 ≠ 15 by decide), updV_ne (show 0 ≠ 15 by decide), updV_ne (show 5 ≠ 15 by decide), updV_ne (show 16 ≠ 15 by decide), updV_ne (show 21 ≠ 15 by decide)]
  · exact h.o16
  · exact h.o21
  · exact h.j0
  · exact h.j5
  · exact h.j16
  · exact h.j21
theorem RdJ.set5 {w0 w w' : World} {n m : Nat} {xs nw ys : List Value} {f : Nat → Bool} {s : Nat → Value} (h : RdJ w0 n m xs nw ys f s w) (h5 : f 5 = false) (hnw : nw ≠ []) {H : Nat} (hB : w0.heap.size ≤ H) (hb : Blk w H 75 #[]) (hk : Kept (AtRow (some ⟨H, 0, none⟩)) w w') {A : Option Addr} {c : Nat} (hr : Row w' w0.heap.size 75 6 A n c xs) : RdJ w0 n m xs nw ys (updF f 5) (updV s 5 (.slice A n c)) w' := by
  have h16 : f 16 = false := by
    cases e : f 16
    · rfl
    · rw [h.o16 e] at h5; cases h5
  have h21 : f 21 = false := by
    cases e : f 21
    · rfl
    · rw [h.o21 e] at h16; cases h16
  have hk2 : Kept (fun k => w0.heap.size ≤ k) w w' := hk.mono (fun k _ hq => by obtain ⟨ad, e, rfl⟩ := hq; cases e; exact hB)
  refine ⟨(May.kept _).trans h.gr hk2, fun _ => updF_at, fun e => ?_, fun _ e => ?_, fun _ _ => ⟨A, c, updV_at, hr⟩, fun e _ => ?_, fun e _ => ?_, fun e => ?_⟩
  · rw [updF_ne (by decide), h21] at e; cases e
  · rw [updF_at] at e; cases e
  · rw [updF_ne (by decide)] at e
    obtain ⟨H', h1, h2, h3⟩ := h.j15 e h16
    refine ⟨H', by rw [updV_ne (by decide)]; exact h1, h2, h3.kept hk (fun hq => ?_)⟩
    obtain ⟨ad, e2, e3⟩ := hq
    cases e2
    simp only at e3
    rw [← e3] at h3
    exact hnw (by simpa using (h3.ty hb).2)
  · rw [updF_ne (by decide), h16] at e; cases e
  · rw [updF_ne (by decide), h21] at e; cases e
theorem RdJ.set16 {w0 w w' : World} {n m : Nat} {xs nw ys : List Value} {f : Nat → Bool} {s : Nat → Value} (h : RdJ w0 n m xs nw ys f s w) (h5 : f 5 = true) (h16 : f 16 = false) {A5 : Option Addr} {c5 k5 : Nat} {zs : List Value} (h5r : Row w w0.heap.size 75 6 A5 k5 c5 zs) (hk : Kept (AtRow A5) w w') {A : Option Addr} {c : Nat} (hr : Row w' w0.heap.size 75 6 A (n + 1) c (xs ++ nw)) : RdJ w0 n m xs nw ys (updF f 16) (updV s 16 (.slice A (n + 1) c)) w' := by
  have h21 : f 21 = false := by
    cases e : f 21
    · rfl
    · rw [h.o21 e] at h16; cases h16
  refine ⟨(May.kept _).trans h.gr (hk.mono (fun k _ hq => Row.at_base h5r k hq)), fun _ => by rw [updF_ne (by decide)]; exact h5, fun _ => updF_at, fun _ e => ?_, fun _ e => ?_, fun _ e => ?_, fun _ _ => ⟨A, c, updV_at, hr⟩, fun e => ?_⟩
  · rw [updF_ne (by decide), h5] at e; cases e
  · rw [updF_at] at e; cases e
  · rw [updF_at] at e; cases e
  · rw [updF_ne (by decide), h21] at e; cases e
theorem RdJ.set21 {w0 w w' : World} {n m : Nat} {xs nw ys : List Value} {f : Nat → Bool} {s : Nat → Value} (h : RdJ w0 n m xs nw ys f s w) (h16 : f 16 = true) {A5 : Option Addr} {c5 k5 : Nat} {zs : List Value} (h5r : Row w w0.heap.size 75 6 A5 k5 c5 zs) (hk : Kept (AtRow A5) w w') {A : Option Addr} {c : Nat} (hr : Row w' w0.heap.size 75 6 A (m + 1) c ((xs ++ nw) ++ ys)) : RdJ w0 n m xs nw ys (updF f 21) (updV s 21 (.slice A (m + 1) c)) w' := by
  refine ⟨(May.kept _).trans h.gr (hk.mono (fun k _ hq => Row.at_base h5r k hq)), fun _ => by rw [updF_ne (by decide)]; exact h.o16 h16, fun _ => by rw [updF_ne (by decide)]; exact h16, fun _ e => ?_, fun _ e => ?_, fun _ e => ?_, fun _ e => ?_, fun _ => ⟨A, c, updV_at, hr⟩⟩
  · rw [updF_ne (by decide), h.o16 h16] at e; cases e
  · rw [updF_ne (by decide), h16] at e; cases e
  · rw [updF_ne (by decide), h16] at e; cases e
  · rw [updF_at] at e; cases e
theorem ritem_info : (Tryz.prog.info? 75).map (fun i => (i.zero, i.size, i.bytes)) = some (some (.agg #[.int .i64 0, .int .i64 0, .int .i64 0, .int .i64 0, .slice none 0 0, .string ⟨#[]⟩]), 6, 72) := by kernel_rfl
theorem ivF_one (x : IV) : ∀ u ∈ ivF x, u.oneCell' = true := fun u hu => by
  simp only [ivF, List.mem_cons, List.not_mem_nil, or_false] at hu
  rcases hu with rfl | rfl | rfl | rfl | rfl | rfl <;> rfl
theorem items_cell {w : World} {A : Option Addr} {l : List IV} (h : ItemsAt w A l) {ad : Addr} (e : A = some ad) (k : Nat) {u : Value} (hu : (l.flatMap ivF)[k]? = some u) : w.cell? (ad.add k) = some u := by
  have hl : 0 < l.length := by
    have := (List.getElem?_eq_some_iff.1 hu).1
    rw [flatMap_length ivF_len] at this
    omega
  obtain ⟨ad', h1, _, h3⟩ := h.cells hl
  rw [e] at h1
  cases h1
  exact flat_cell (by decide) ivF_len h3 k u hu
theorem items_none {w : World} {A : Option Addr} {l : List IV} (h : ItemsAt w A l) (e : A = none) : l.length = 0 := by
  rcases Nat.eq_zero_or_pos l.length with h0 | h0
  · exact h0
  · obtain ⟨ad, h1, _⟩ := h.cells h0
    rw [e] at h1; cases h1
theorem flat_split (l : List IV) (n : Nat) : l.flatMap ivF = (l.take n).flatMap ivF ++ (l.drop n).flatMap ivF := by
  rw [← List.flatMap_append, List.take_append_drop]
theorem flat_take {l : List IV} {n k : Nat} {u : Value} (h : ((l.take n).flatMap ivF)[k]? = some u) : (l.flatMap ivF)[k]? = some u := by
  rw [flat_split l n, List.getElem?_append_left (List.getElem?_eq_some_iff.1 h).1]
  exact h
theorem flat_drop {l : List IV} {n k : Nat} (hn : n ≤ l.length) {u : Value} (h : ((l.drop n).flatMap ivF)[k]? = some u) : (l.flatMap ivF)[n * 6 + k]? = some u := by
  have e : ((l.take n).flatMap ivF).length = n * 6 := by rw [flatMap_length ivF_len, List.length_take, Nat.min_eq_left hn]
  rw [flat_split l n, List.getElem?_append_right (by omega), e, Nat.add_sub_cancel_left]
  exact h
theorem ints_row2 {w : World} {B : Nat} {e : TypeId} {A : Option Addr} {n c : Nat} {l : List Int} (h : Row w B e 1 A n c (l.flatMap intF)) (hn : l.length = n) : IntsAt w A l := by
  subst hn
  exact ints_row h
theorem ints_map (l : List Int) : l.flatMap intF = l.map (fun x => Value.int .i64 x) := by
  induction l with
  | nil => rfl
  | cons x r ih => rw [List.flatMap_cons, ih]; rfl
theorem ints_set (l : List Int) (j : Nat) (x : Int) : (l.flatMap intF).set j (.int .i64 x) = (l.set j x).flatMap intF := by
  rw [ints_map, ints_map, List.map_set]
theorem cntL_upd (n : Nat) (f : Nat → Int) (j : Nat) (x : Int) : (cntL n f).set j x = cntL n (upd f j x) := by
  apply List.ext_getElem?
  intro k
  rw [List.getElem?_set]
  by_cases hk : k < n
  · rw [cntL_at hk, cntL_at hk, cntL_len]
    unfold upd
    by_cases e : j = k
    · subst e
      rw [if_pos rfl, if_pos hk, if_pos rfl]
    · rw [if_neg e, if_neg (fun e2 => e e2.symm)]
  · rw [List.getElem?_eq_none (by rw [cntL_len]; omega), List.getElem?_eq_none (by rw [cntL_len]; omega), cntL_len]
    by_cases e : j = k
    · subst e
      rw [if_pos rfl, if_neg hk]
    · rw [if_neg e]
end Go.Proofs.YtidnaednldcdfaaGreatDoor

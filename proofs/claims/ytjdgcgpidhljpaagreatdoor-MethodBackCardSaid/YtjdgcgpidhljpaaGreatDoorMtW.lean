/- Stage 9: what a drawn region may do that copies an element and appends it to a field of a struct; an append to an empty list. -/
import Derived.Test.YtjdgcgpidhljpaaGreatDoorMtV
import Derived.Test.YtjdgcgpidhljpaaGreatDoorMtT
namespace Go.Proofs.YtjdgcgpidhljpaaGreatDoor
open Go.RowKit

/-- 'append([]uint8{}, xs...)' where the empty list lies anywhere. -/
theorem run_catE {P : Program} (t ty e : TypeId) (ht : P.underlying t = some (.slice e)) (he : (P.info? e).map (fun i => (i.zero, i.size, i.bytes)) = some (some (.int .u8 0), 1, 1))
    (w : World) (H : Nat) (hH : Blk w H e #[]) (A : Option Addr) (c : Nat) (xs : List Nat) (hb : BytesAt w w.heap.size A xs) (hlen : (xs.length : Int) ≤ 140737488355328) :
    ∃ A' c' w', (Builtin.append_ #[t, t] ty #[.slice (some ⟨H, 0, none⟩) 0 0, .slice A xs.length c]).run P w = .ok (.slice A' xs.length c') w' ∧ BytesAt w' w'.heap.size A' xs ∧ xs.length ≤ c' ∧ c' ≤ 9223372036854775807 ∧ Grew w w' ∧ ∀ ad, A' = some ad → (ad.block = H ∨ w.heap.size ≤ ad.block) ∧ ad.block < w'.heap.size := by
  obtain ⟨i, hi, hz0, hz1, hz2⟩ := info_parts he
  have hrow : Row w H e 1 (some ⟨H, 0, none⟩) 0 0 [] := Row.of_blk hH (Nat.le_refl _) rfl (by decide)
  have hlt := hH.lt
  rcases Nat.eq_zero_or_pos xs.length with h0 | h0
  · obtain rfl := List.eq_nil_of_length_eq_zero h0
    refine ⟨some ⟨H, 0, none⟩, 0, w, ?_, BytesAt.nil _ _ _, Nat.le_refl _, by decide, Grew.refl _, fun ad e => ?_⟩
    · cases A with
      | none => simp [Builtin.append_, run_underlying ht, sizeOf, typeInfo, hi, Builtin.lenOf, Builtin.firstCells, storeCells]
      | some ad => simp [Builtin.append_, run_underlying ht, sizeOf, typeInfo, hi, Builtin.lenOf, Builtin.firstCells, storeCells, loadCells, loadCellsFrom]
    · cases e
      exact ⟨.inl rfl, hlt⟩
  · obtain ⟨ad, rfl, hbk, hc⟩ := hb.2 h0
    have hx : ∀ j u, (numCells .u8 xs)[j]? = some u → w.cell? (ad.add j) = some u := fun j u hu => by
      have hj : j < xs.length := by
        have := (List.getElem?_eq_some_iff.1 hu).1
        simpa [numCells] using this
      rw [hc j hj, ← numCells_get .u8 xs j hj]
      exact hu
    obtain ⟨A', c', w', hrun, r1, r2, r3⟩ := run_catR (P := P) t ty e (.int .u8 0) 1 1 ht he rfl (by decide) w H (Nat.le_of_lt hlt) (some ⟨H, 0, none⟩) 0 0 [] hrow (some ad) xs.length c (numCells .u8 xs) (by rw [numCells_length]; omega) (numCells_one _ _) (fun h => by cases h) (fun ad' e j u hu => by cases e; exact hx j u hu) (by omega) (by omega)
    have hrun2 := run_append_grow (P := P) (w := w) t ty e i (.int .u8 0) ht hi hz0 ⟨H, 0, none⟩ 0 0 [] (by simp) (by simp) ad xs.length c (numCells .u8 xs) (by rw [numCells_length, hz1]; omega) hx (by omega) (by omega) (by rw [hz2]; exact growslice_fits (by omega) (by omega))
    rw [hrun] at hrun2
    simp only [Result.ok.injEq] at hrun2
    obtain ⟨_, hw⟩ := hrun2
    rw [Nat.zero_add] at hrun r1
    rw [List.nil_append] at r1
    refine ⟨A', c', w', hrun, ⟨hb.1, fun hl => ?_⟩, r1.cases.2.1, r1.cases.2.2.1, by rw [hw]; exact (Grew.refl w).drew.alloc _, fun ad' e => ?_⟩
    · exact (Row.nums r1) hl
    · have hlt' := Row.at_lt r1 ad'.block ⟨ad', e, rfl⟩
      refine ⟨?_, hlt'⟩
      rcases r3 with r3 | ⟨g, e1, e2⟩
      · rw [r3] at e; cases e; exact .inl rfl
      · rw [e1] at e; cases e; exact .inr e2
section
variable {α : Type}
/-- What each operation gives. -/
def GF (w0 : World) (M k G : Nat) (A : Option Addr) (i c : Nat) (S : Option Addr) (n cs : Nat) (ad : Addr) (s : Nat) (e : TypeId) (ys : List Value) (enc : α → List Value) (x : α) (j : Nat) (v : Value) (w : World) : Prop := match j with
  | 0 => v = .pointer (some ⟨M, k, none⟩)
  | 1 => v = .slice A i c
  | 2 => v = .pointer (some ⟨G, k, none⟩)
  | 3 => v = .slice S n cs
  | 4 => v = .int .i64 ((i : Nat) : Int)
  | 5 => v = .pointer (some (ad.add (i * s)))
  | 6 => v = .agg (enc x).toArray
  | 7 => ∃ H, v = .slice (some ⟨H, 0, none⟩) 1 1 ∧ Blk w H e (enc x).toArray ∧ M < H ∧ ¬ AtRow A H
  | 8 => ∃ A' c', v = .slice A' (i + 1) c' ∧ Row w (M + 1) e s A' (i + 1) c' (ys ++ enc x) ∧ RowTo w0 A A'
  | _ => v = .pointer (some ⟨M, k, none⟩)
/-- Only the operation 'q' changes the row. -/
def GR (q : Nat) (A : Option Addr) (j : Nat) : World → World → Prop := if j = q then Kept (AtRow A) else Kept (fun _ => False)
def GJ (q M : Nat) (A : Option Addr) (i c : Nat) (e : TypeId) (s : Nat) (ys : List Value) (tM : TypeId) (bx : Array Value) (f : Nat → Bool) (w : World) : Prop :=
  (f q = false → Row w (M + 1) e s A i c ys) ∧ Blk w M tM bx
theorem GR.zero {q : Nat} {A : Option Addr} (j : Nat) (w w' : World) (h : GR q A j w w') : Kept (AtRow A) w w' := by
  unfold GR at h
  split at h
  · exact h
  · exact h.mono (fun _ _ h => h.elim)
theorem GR.refl {q : Nat} {A : Option Addr} (j : Nat) (w : World) : GR q A j w w := by
  unfold GR
  split <;> exact Kept.refl _ _
theorem GR.grew {q : Nat} {A : Option Addr} {j : Nat} {w w' : World} (h : Grew w w') : GR q A j w w' := by
  unfold GR
  split <;> exact Kept.of_grew h
theorem GF.stable {w0 : World} {M k G : Nat} {A : Option Addr} {i c : Nat} {S : Option Addr} {n cs : Nat} {ad : Addr} {s : Nat} {e : TypeId} {ys : List Value} {enc : α → List Value} {x : α}
    (a b : Nat) (v : Value) (w w' : World) (hab : a ≠ b) (h : GF w0 M k G A i c S n cs ad s e ys enc x a v w) (hr : GR 8 A b w w') : GF w0 M k G A i c S n cs ad s e ys enc x a v w' := by
  have h0 := GR.zero b w w' hr
  unfold GF at h ⊢
  split at h
  · exact h
  · exact h
  · exact h
  · exact h
  · exact h
  · exact h
  · exact h
  · obtain ⟨H, h2, h3, h4, h5⟩ := h
    exact ⟨H, h2, h3.kept h0 h5, h4, h5⟩
  · obtain ⟨A', c', h2, h3, h4⟩ := h
    refine ⟨A', c', h2, ?_, h4⟩
    unfold GR at hr
    rw [if_neg (fun e => hab e.symm)] at hr
    exact h3.kept hr (fun q hq e => e)
  · exact h
theorem GJ.pure {q M : Nat} {A : Option Addr} {i c : Nat} {e : TypeId} {s : Nat} {ys : List Value} {tM : TypeId} {bx : Array Value} {f : Nat → Bool} {w : World} (h : GJ q M A i c e s ys tM bx f w) (j : Nat) : GJ q M A i c e s ys tM bx (updF f j) w := by
  refine ⟨fun h5 => h.1 ?_, h.2⟩
  unfold updF at h5
  split at h5
  · cases h5
  · exact h5
theorem GJ.grew {q M : Nat} {A : Option Addr} {i c : Nat} {e : TypeId} {s : Nat} {ys : List Value} {tM : TypeId} {bx : Array Value} {f : Nat → Bool} {w w' : World} (h : GJ q M A i c e s ys tM bx f w) (hg : Grew w w') : GJ q M A i c e s ys tM bx f w' :=
  ⟨fun h5 => (h.1 h5).grew hg, h.2.grew hg⟩
theorem GJ.app {q M : Nat} {A : Option Addr} {i c : Nat} {e : TypeId} {s : Nat} {ys : List Value} {tM : TypeId} {bx : Array Value} {f : Nat → Bool} {w w' : World} (h : GJ q M A i c e s ys tM bx f w) (hk : Kept (AtRow A) w w') (hA : ∀ k, AtRow A k → M < k) : GJ q M A i c e s ys tM bx (updF f q) w' := by
  refine ⟨fun (h5 : updF f q q = false) => ?_, h.2.kept hk (fun h => by have := hA _ h; omega)⟩
  unfold updF at h5
  rw [if_pos rfl] at h5
  cases h5
end
/-- A part's field list, from a drawn region that copies its code, too. -/
def PF9 (w0 : World) (M P : Nat) (A : Option Addr) (i c : Nat) (e e8 : TypeId) (ys : List Value) (x : PV) (j : Nat) (v : Value) (w : World) : Prop := match j with
  | 0 => v = .pointer (some ⟨M, 2, none⟩)
  | 1 => v = .slice A i c
  | 2 => v = .pointer (some ⟨P, 0, none⟩)
  | 3 => v = .int .i64 x.p.outer
  | 4 => v = .pointer (some ⟨P, 1, none⟩)
  | 5 => v = .int .i64 x.p.args
  | 6 => v = .pointer (some ⟨P, 2, none⟩)
  | 7 => v = .int .i64 x.p.temps
  | 8 => ∃ H, v = .slice (some ⟨H, 0, none⟩) 0 0 ∧ Blk w H e8 #[] ∧ w0.heap.size ≤ H ∧ ¬ AtRow A H
  | 9 => v = .pointer (some ⟨P, 3, none⟩)
  | 10 => v = .slice x.A x.p.code.length x.c
  | 11 => ∃ y : PV, (y.p = x.p ∧ PvOk w y ∧ ∀ ad, y.A = some ad → w0.heap.size ≤ ad.block ∧ ad.block < w.heap.size) ∧ v = .slice y.A x.p.code.length y.c
  | 12 => ∃ y : PV, (y.p = x.p ∧ PvOk w y ∧ ∀ ad, y.A = some ad → w0.heap.size ≤ ad.block ∧ ad.block < w.heap.size) ∧ v = .agg (pvF y).toArray
  | 13 => ∃ (y : PV) (H : Nat), (y.p = x.p ∧ PvOk w y ∧ ∀ ad, y.A = some ad → w0.heap.size ≤ ad.block ∧ ad.block < w.heap.size) ∧ v = .slice (some ⟨H, 0, none⟩) 1 1 ∧ Blk w H e (pvF y).toArray ∧ M < H ∧ ¬ AtRow A H
  | 14 => ∃ (y : PV) (A' : Option Addr) (c' : Nat), (y.p = x.p ∧ PvOk w y ∧ ∀ ad, y.A = some ad → w0.heap.size ≤ ad.block ∧ ad.block < w.heap.size) ∧ v = .slice A' (i + 1) c' ∧ Row w (M + 1) e 4 A' (i + 1) c' (ys ++ pvF y) ∧ RowTo w0 A A' ∧ ∀ ad, y.A = some ad → ¬ AtRow A' ad.block
  | _ => v = .pointer (some ⟨M, 2, none⟩)
theorem good_kept {w0 : World} {A : Option Addr} {x : PV} (hA : ∀ k, AtRow A k → k < w0.heap.size) {y : PV} {w w' : World} (h : y.p = x.p ∧ PvOk w y ∧ ∀ ad, y.A = some ad → w0.heap.size ≤ ad.block ∧ ad.block < w.heap.size) (hk : Kept (AtRow A) w w') : y.p = x.p ∧ PvOk w' y ∧ ∀ ad, y.A = some ad → w0.heap.size ≤ ad.block ∧ ad.block < w'.heap.size :=
  ⟨h.1, h.2.1.kept9 hk (fun ad e hF => by have h1 := h.2.2 ad e; have h2 := hA _ hF; omega), fun ad e => ⟨(h.2.2 ad e).1, Nat.lt_of_lt_of_le (h.2.2 ad e).2 hk.size⟩⟩
theorem PF9.stable {w0 : World} {M P : Nat} {A : Option Addr} {i c : Nat} {e e8 : TypeId} {ys : List Value} {x : PV} (hA : ∀ k, AtRow A k → k < w0.heap.size)
    (a b : Nat) (v : Value) (w w' : World) (hab : a ≠ b) (h : PF9 w0 M P A i c e e8 ys x a v w) (hr : GR 14 A b w w') : PF9 w0 M P A i c e e8 ys x a v w' := by
  have h0 := GR.zero b w w' hr
  unfold PF9 at h ⊢
  split at h
  · exact h
  · exact h
  · exact h
  · exact h
  · exact h
  · exact h
  · exact h
  · exact h
  · obtain ⟨H, h2, h3, h4, h5⟩ := h
    exact ⟨H, h2, h3.kept h0 h5, h4, h5⟩
  · exact h
  · exact h
  · obtain ⟨y, h1, h2⟩ := h
    exact ⟨y, good_kept hA h1 h0, h2⟩
  · obtain ⟨y, h1, h2⟩ := h
    exact ⟨y, good_kept hA h1 h0, h2⟩
  · obtain ⟨y, H, h1, h2, h3, h4, h5⟩ := h
    exact ⟨y, H, good_kept hA h1 h0, h2, h3.kept h0 h5, h4, h5⟩
  · obtain ⟨y, A', c', h1, h2, h3, h4⟩ := h
    refine ⟨y, A', c', good_kept hA h1 h0, h2, ?_, h4⟩
    unfold GR at hr
    rw [if_neg (fun e => hab e.symm)] at hr
    exact h3.kept hr (fun q hq e => e)
  · exact h
end Go.Proofs.YtjdgcgpidhljpaaGreatDoor

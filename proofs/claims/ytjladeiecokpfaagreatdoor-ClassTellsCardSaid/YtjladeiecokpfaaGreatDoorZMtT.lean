/- Parts of elder texts that this layer needs, joined: XMtT XMtW XMtX. -/
import Derived.Test.YtjladeiecokpfaaGreatDoorZMtR
namespace Go.Proofs.YtjladeiecokpfaaGreatDoor
open Go.RowKit

theorem lit_info9 : (Tryz.prog.info? 99).map (fun i => (i.zero, i.size, i.bytes)) = some (some (.agg #[.int .u8 0, .string ⟨#[]⟩]), 2, 24) := by kernel_rfl
theorem part_info9 : (Tryz.prog.info? 71).map (fun i => (i.zero, i.size, i.bytes)) = some (some (.agg #[.int .i64 0, .int .i64 0, .int .i64 0, .slice none 0 0]), 4, 48) := by kernel_rfl
theorem at_row_lt {w : World} {B : Nat} {e : TypeId} {s : Nat} {A : Option Addr} {n c : Nat} {vs : List Value} (h : Row w B e s A n c vs) (k : Nat) (hk : AtRow A k) : B ≤ k ∧ k < w.heap.size := ⟨Row.at_base h k hk, Row.at_lt h k hk⟩
theorem Blk.put3 {w : World} {g : Nat} {t : TypeId} {a0 a1 a2 : Value} (h : Blk w g t #[a0, a1, a2]) (c0 c1 c2 : Value) :
    Blk (((w.setCell ⟨g, 0, none⟩ c0).setCell ⟨g, 1, none⟩ c1).setCell ⟨g, 2, none⟩ c2) g t #[c0, c1, c2] := by
  have := ((h.put 0 c0).put 1 c1).put 2 c2
  simpa using this
theorem kept3 {F : Nat → Prop} {w w2 : World} {g : Nat} (h : Kept F w w2) (hg : g < w.heap.size → F g) (c0 c1 c2 : Value) :
    Kept F w (((w2.setCell ⟨g, 0, none⟩ c0).setCell ⟨g, 1, none⟩ c1).setCell ⟨g, 2, none⟩ c2) :=
  ((h.setCell (p := ⟨g, 0, none⟩) hg c0).setCell (p := ⟨g, 1, none⟩) hg c1).setCell (p := ⟨g, 2, none⟩) hg c2
end Go.Proofs.YtjladeiecokpfaaGreatDoor
namespace Go.Proofs.YtjladeiecokpfaaGreatDoor
open Go.RowKit

/-- 'append([]uint8{}, xs...)' where the empty list lies anywhere. -/
theorem run_catE {P : Program} (t ty e : TypeId) (ht : P.underlying t = some (.slice e)) (he : (P.info? e).map (fun i => (i.zero, i.size, i.bytes)) = some (some (.int .u8 0), 1, 1))
    (w : World) (H : Nat) (hH : Blk w H e #[]) (A : Option Addr) (c : Nat) (xs : List Nat) (hb : BytesAt w w.heap.size A xs) (hlen : (xs.length : Int) ≤ 140737488355328) :
    ∃ A' c' w', (Builtin.append_ #[t, t] ty #[.slice (some ⟨H, 0, none⟩) 0 0, .slice A xs.length c]).run P w = .ok (.slice A' xs.length c') w' ∧ BytesAt w' w'.heap.size A' xs ∧ xs.length ≤ c' ∧ c' ≤ 9223372036854775807 ∧ Grew w w' ∧ ∀ ad, A' = some ad → (ad.block = H ∨ w.heap.size ≤ ad.block) ∧ ad.block < w'.heap.size := by
  obtain ⟨i, hi, hz0, hz1, hz2⟩ := info_parts he
  have hrow : Row w H e 1 (some ⟨H, 0, none⟩) 0 0 [] := Row.of_blk hH (Nat.le_refl _) rfl (by decide)
  have hlt := hH.lt
  rcases Nat.eq_zero_or_pos xs.length with h0 | h0
  · obtain rfl := List.eq_nil_of_length_eq_zero h0
    refine ⟨some ⟨H, 0, none⟩, 0, w, ?_, BytesAt.nil _ _ _, Nat.le_refl _, by decide, Grew.refl _, fun ad e => ?_⟩
    · cases A with
      | none => simp [Builtin.append_, run_underlying ht, sizeOf, typeInfo, hi, Builtin.lenOf, Builtin.firstCells, storeCells]
      | some ad => simp [Builtin.append_, run_underlying ht, sizeOf, typeInfo, hi, Builtin.lenOf, Builtin.firstCells, storeCells, loadCells, loadCellsFrom]
    · cases e
      exact ⟨.inl rfl, hlt⟩
  · obtain ⟨ad, rfl, hbk, hc⟩ := hb.2 h0
    have hx : ∀ j u, (numCells .u8 xs)[j]? = some u → w.cell? (ad.add j) = some u := fun j u hu => by
      have hj : j < xs.length := by
        have := (List.getElem?_eq_some_iff.1 hu).1
        simpa [numCells] using this
      rw [hc j hj, ← numCells_get .u8 xs j hj]
      exact hu
    obtain ⟨A', c', w', hrun, r1, r2, r3⟩ := run_catR (P := P) t ty e (.int .u8 0) 1 1 ht he rfl (by decide) w H (Nat.le_of_lt hlt) (some ⟨H, 0, none⟩) 0 0 [] hrow (some ad) xs.length c (numCells .u8 xs) (by rw [numCells_length]; omega) (numCells_one _ _) (fun h => by cases h) (fun ad' e j u hu => by cases e; exact hx j u hu) (by omega) (by omega)
    have hrun2 := run_append_grow (P := P) (w := w) t ty e i (.int .u8 0) ht hi hz0 ⟨H, 0, none⟩ 0 0 [] (by simp) (by simp) ad xs.length c (numCells .u8 xs) (by rw [numCells_length, hz1]; omega) hx (by omega) (by omega) (by rw [hz2]; exact growslice_fits (by omega) (by omega))
    rw [hrun] at hrun2
    simp only [Result.ok.injEq] at hrun2
    obtain ⟨_, hw⟩ := hrun2
    rw [Nat.zero_add] at hrun r1
    rw [List.nil_append] at r1
    refine ⟨A', c', w', hrun, ⟨hb.1, fun hl => ?_⟩, r1.cases.2.1, r1.cases.2.2.1, by rw [hw]; exact (Grew.refl w).drew.alloc _, fun ad' e => ?_⟩
    · exact (Row.nums r1) hl
    · have hlt' := Row.at_lt r1 ad'.block ⟨ad', e, rfl⟩
      refine ⟨?_, hlt'⟩
      rcases r3 with r3 | ⟨g, e1, e2⟩
      · rw [r3] at e; cases e; exact .inl rfl
      · rw [e1] at e; cases e; exact .inr e2
section
variable {α : Type}
/-- What each operation gives. -/
def GF (w0 : World) (M k G : Nat) (A : Option Addr) (i c : Nat) (S : Option Addr) (n cs : Nat) (ad : Addr) (s : Nat) (e : TypeId) (ys : List Value) (enc : α → List Value) (x : α) (j : Nat) (v : Value) (w : World) : Prop := match j with
  | 0 => v = .pointer (some ⟨M, k, none⟩)
  | 1 => v = .slice A i c
  | 2 => v = .pointer (some ⟨G, k, none⟩)
  | 3 => v = .slice S n cs
  | 4 => v = .int .i64 ((i : Nat) : Int)
  | 5 => v = .pointer (some (ad.add (i * s)))
  | 6 => v = .agg (enc x).toArray
  | 7 => ∃ H, v = .slice (some ⟨H, 0, none⟩) 1 1 ∧ Blk w H e (enc x).toArray ∧ M < H ∧ ¬ AtRow A H
  | 8 => ∃ A' c', v = .slice A' (i + 1) c' ∧ Row w (M + 1) e s A' (i + 1) c' (ys ++ enc x) ∧ RowTo w0 A A'
  | _ => v = .pointer (some ⟨M, k, none⟩)
/-- Only the operation 'q' changes the row. -/
def GR (q : Nat) (A : Option Addr) (j : Nat) : World → World → Prop := if j = q then Kept (AtRow A) else Kept (fun _ => False)
def GJ (q M : Nat) (A : Option Addr) (i c : Nat) (e : TypeId) (s : Nat) (ys : List Value) (tM : TypeId) (bx : Array Value) (f : Nat → Bool) (w : World) : Prop :=
  (f q = false → Row w (M + 1) e s A i c ys) ∧ Blk w M tM bx
theorem GR.zero {q : Nat} {A : Option Addr} (j : Nat) (w w' : World) (h : GR q A j w w') : Kept (AtRow A) w w' := by
  unfold GR at h
  split at h
  · exact h
  · exact h.mono (fun _ _ h => h.elim)
theorem GR.refl {q : Nat} {A : Option Addr} (j : Nat) (w : World) : GR q A j w w := by
  unfold GR
  split <;> exact Kept.refl _ _
theorem GR.grew {q : Nat} {A : Option Addr} {j : Nat} {w w' : World} (h : Grew w w') : GR q A j w w' := by
  unfold GR
  split <;> exact Kept.of_grew h
theorem GF.stable {w0 : World} {M k G : Nat} {A : Option Addr} {i c : Nat} {S : Option Addr} {n cs : Nat} {ad : Addr} {s : Nat} {e : TypeId} {ys : List Value} {enc : α → List Value} {x : α}
    (a b : Nat) (v : Value) (w w' : World) (hab : a ≠ b) (h : GF w0 M k G A i c S n cs ad s e ys enc x a v w) (hr : GR 8 A b w w') : GF w0 M k G A i c S n cs ad s e ys enc x a v w' := by
  have h0 := GR.zero b w w' hr
  unfold GF at h ⊢
  split at h
  · exact h
  · exact h
  · exact h
  · exact h
  · exact h
  · exact h
  · exact h
  · obtain ⟨H, h2, h3, h4, h5⟩ := h
    exact ⟨H, h2, h3.kept h0 h5, h4, h5⟩
  · obtain ⟨A', c', h2, h3, h4⟩ := h
    refine ⟨A', c', h2, ?_, h4⟩
    unfold GR at hr
    rw [if_neg (fun e => hab e.symm)] at hr
    exact h3.kept hr (fun q hq e => e)
  · exact h
theorem GJ.pure {q M : Nat} {A : Option Addr} {i c : Nat} {e : TypeId} {s : Nat} {ys : List Value} {tM : TypeId} {bx : Array Value} {f : Nat → Bool} {w : World} (h : GJ q M A i c e s ys tM bx f w) (j : Nat) : GJ q M A i c e s ys tM bx (updF f j) w := by
  refine ⟨fun h5 => h.1 ?_, h.2⟩
  unfold updF at h5
  split at h5
  · cases h5
  · exact h5
theorem GJ.grew {q M : Nat} {A : Option Addr} {i c : Nat} {e : TypeId} {s : Nat} {ys : List Value} {tM : TypeId} {bx : Array Value} {f : Nat → Bool} {w w' : World} (h : GJ q M A i c e s ys tM bx f w) (hg : Grew w w') : GJ q M A i c e s ys tM bx f w' :=
  ⟨fun h5 => (h.1 h5).grew hg, h.2.grew hg⟩
theorem GJ.app {q M : Nat} {A : Option Addr} {i c : Nat} {e : TypeId} {s : Nat} {ys : List Value} {tM : TypeId} {bx : Array Value} {f : Nat → Bool} {w w' : World} (h : GJ q M A i c e s ys tM bx f w) (hk : Kept (AtRow A) w w') (hA : ∀ k, AtRow A k → M < k) : GJ q M A i c e s ys tM bx (updF f q) w' := by
  refine ⟨fun (h5 : updF f q q = false) => ?_, h.2.kept hk (fun h => by have := hA _ h; omega)⟩
  unfold updF at h5
  rw [if_pos rfl] at h5
  cases h5
end
/-- A part's field list, from a drawn region that copies its code, too. -/
def PF9 (w0 : World) (M P : Nat) (A : Option Addr) (i c : Nat) (e e8 : TypeId) (ys : List Value) (x : PV) (j : Nat) (v : Value) (w : World) : Prop := match j with
  | 0 => v = .pointer (some ⟨M, 2, none⟩)
  | 1 => v = .slice A i c
  | 2 => v = .pointer (some ⟨P, 0, none⟩)
  | 3 => v = .int .i64 x.p.outer
  | 4 => v = .pointer (some ⟨P, 1, none⟩)
  | 5 => v = .int .i64 x.p.args
  | 6 => v = .pointer (some ⟨P, 2, none⟩)
  | 7 => v = .int .i64 x.p.temps
  | 8 => ∃ H, v = .slice (some ⟨H, 0, none⟩) 0 0 ∧ Blk w H e8 #[] ∧ w0.heap.size ≤ H ∧ ¬ AtRow A H
  | 9 => v = .pointer (some ⟨P, 3, none⟩)
  | 10 => v = .slice x.A x.p.code.length x.c
  | 11 => ∃ y : PV, (y.p = x.p ∧ PvOk w y ∧ ∀ ad, y.A = some ad → w0.heap.size ≤ ad.block ∧ ad.block < w.heap.size) ∧ v = .slice y.A x.p.code.length y.c
  | 12 => ∃ y : PV, (y.p = x.p ∧ PvOk w y ∧ ∀ ad, y.A = some ad → w0.heap.size ≤ ad.block ∧ ad.block < w.heap.size) ∧ v = .agg (pvF y).toArray
  | 13 => ∃ (y : PV) (H : Nat), (y.p = x.p ∧ PvOk w y ∧ ∀ ad, y.A = some ad → w0.heap.size ≤ ad.block ∧ ad.block < w.heap.size) ∧ v = .slice (some ⟨H, 0, none⟩) 1 1 ∧ Blk w H e (pvF y).toArray ∧ M < H ∧ ¬ AtRow A H
  | 14 => ∃ (y : PV) (A' : Option Addr) (c' : Nat), (y.p = x.p ∧ PvOk w y ∧ ∀ ad, y.A = some ad → w0.heap.size ≤ ad.block ∧ ad.block < w.heap.size) ∧ v = .slice A' (i + 1) c' ∧ Row w (M + 1) e 4 A' (i + 1) c' (ys ++ pvF y) ∧ RowTo w0 A A' ∧ ∀ ad, y.A = some ad → ¬ AtRow A' ad.block
  | _ => v = .pointer (some ⟨M, 2, none⟩)
theorem good_kept {w0 : World} {A : Option Addr} {x : PV} (hA : ∀ k, AtRow A k → k < w0.heap.size) {y : PV} {w w' : World} (h : y.p = x.p ∧ PvOk w y ∧ ∀ ad, y.A = some ad → w0.heap.size ≤ ad.block ∧ ad.block < w.heap.size) (hk : Kept (AtRow A) w w') : y.p = x.p ∧ PvOk w' y ∧ ∀ ad, y.A = some ad → w0.heap.size ≤ ad.block ∧ ad.block < w'.heap.size :=
  ⟨h.1, h.2.1.kept9 hk (fun ad e hF => by have h1 := h.2.2 ad e; have h2 := hA _ hF; omega), fun ad e => ⟨(h.2.2 ad e).1, Nat.lt_of_lt_of_le (h.2.2 ad e).2 hk.size⟩⟩
theorem PF9.stable {w0 : World} {M P : Nat} {A : Option Addr} {i c : Nat} {e e8 : TypeId} {ys : List Value} {x : PV} (hA : ∀ k, AtRow A k → k < w0.heap.size)
    (a b : Nat) (v : Value) (w w' : World) (hab : a ≠ b) (h : PF9 w0 M P A i c e e8 ys x a v w) (hr : GR 14 A b w w') : PF9 w0 M P A i c e e8 ys x a v w' := by
  have h0 := GR.zero b w w' hr
  unfold PF9 at h ⊢
  split at h
  · exact h
  · exact h
  · exact h
  · exact h
  · exact h
  · exact h
  · exact h
  · exact h
  · obtain ⟨H, h2, h3, h4, h5⟩ := h
    exact ⟨H, h2, h3.kept h0 h5, h4, h5⟩
  · exact h
  · exact h
  · obtain ⟨y, h1, h2⟩ := h
    exact ⟨y, good_kept hA h1 h0, h2⟩
  · obtain ⟨y, h1, h2⟩ := h
    exact ⟨y, good_kept hA h1 h0, h2⟩
  · obtain ⟨y, H, h1, h2, h3, h4, h5⟩ := h
    exact ⟨y, H, good_kept hA h1 h0, h2, h3.kept h0 h5, h4, h5⟩
  · obtain ⟨y, A', c', h1, h2, h3, h4⟩ := h
    refine ⟨y, A', c', good_kept hA h1 h0, h2, ?_, h4⟩
    unfold GR at hr
    rw [if_neg (fun e => hab e.symm)] at hr
    exact h3.kept hr (fun q hq e => e)
  · exact h
end Go.Proofs.YtjladeiecokpfaaGreatDoor
namespace Go.Proofs.YtjladeiecokpfaaGreatDoor
open Go.RowKit

theorem litF_ok (x : Mt.Lit) : ∀ u ∈ litF x, u.oneCell' = true := by
  intro u hu
  simp only [litF, List.mem_cons, List.not_mem_nil, or_false] at hu
  rcases hu with rfl | rfl <;> rfl
theorem pvF_ok (x : PV) : ∀ u ∈ pvF x, u.oneCell' = true := by
  intro u hu
  simp only [pvF, List.mem_cons, List.not_mem_nil, or_false] at hu
  rcases hu with rfl | rfl | rfl | rfl <;> rfl
theorem blk_row {w : World} {H : Nat} {e : TypeId} {cs : List Value} (h : Blk w H e cs.toArray) : ∀ ad, some (⟨H, 0, none⟩ : Addr) = some ad → ∀ j u, cs[j]? = some u → w.cell? (ad.add j) = some u := fun ad e j u hu => by
  cases e
  rw [show (⟨H, 0, none⟩ : Addr).add j = ⟨H, j, none⟩ by unfold Addr.add; split <;> simp_all, h.cell j, List.getElem?_toArray]
  exact hu
set_option maxRecDepth 100000 in
/-- A result that is a method. -/
theorem res_meth1 {fn : Func} {a : Tmp} (hr : fn.results = #[ResultVar.cell a 55]) (tmps : Array Value) (g : Nat) (ha : tmps.getD a undef = .pointer (some ⟨g, 0, none⟩)) (w : World) (c0 c1 c2 : Value) (hb : Blk w g 55 #[c0, c1, c2]) :
    (results fn tmps).run Tryz.prog w = .ok (.agg #[c0, c1, c2]) w := by
  have y0 : w.cell? ⟨g, 0, none⟩ = some c0 := hb.cell 0
  have y1 : w.cell? ⟨g, 1, none⟩ = some c1 := hb.cell 1
  have y2 : w.cell? ⟨g, 2, none⟩ = some c2 := hb.cell 2
  have ha' : tmps[a]?.getD undef = .pointer (some ⟨g, 0, none⟩) := by simpa using ha
  simp [results, go_sem, *]
/-- What 'giveMethod' answers. -/
def GivePost (w : World) (v : MV) (e : Ending) (w' : World) : Prop := ∃ u : MV, e = .returned (.agg (mvCells u)) ∧ u.m = v.m ∧ MethAt w' u ∧ Grew w w'
/-- The blocks that a method's slices lie in. -/
def MBlk (u : MV) (k : Nat) : Prop := (∃ ad, u.A1 = some ad ∧ ad.block = k) ∨ (∃ ad, u.A2 = some ad ∧ ad.block = k) ∨ ∃ v ∈ u.vs, ∃ ad, v.A = some ad ∧ ad.block = k
/-- The same, and all of it lies in new blocks. -/
def GivePostN (w : World) (v : MV) (e : Ending) (w' : World) : Prop := ∃ u : MV, e = .returned (.agg (mvCells u)) ∧ u.m = v.m ∧ MethAt w' u ∧ Grew w w' ∧ ∀ k, MBlk u k → w.heap.size ≤ k ∧ k < w'.heap.size
set_option maxRecDepth 100000 in
set_option maxHeartbeats 8000000 in
theorem giveMethod_cN (v : MV) (w : World) (h : MethAt w v) :
    Calls Tryz.prog 29 #[.agg (mvCells v)] w (GivePostN w v) := by
  obtain ⟨sel, lits, A1, c1, vs, A2, c2⟩ := v
  obtain ⟨n, en⟩ : ∃ n, n = lits.length := ⟨_, rfl⟩
  obtain ⟨m, em⟩ : ∃ m, m = vs.length := ⟨_, rfl⟩
  have HS : Hid (sel.size ≤ 2000) := hid h.sel
  have HA : Hid (LitsAt w A1 lits) := hid h.lits
  have HP : Hid (PartsAt w A2 vs) := hid h.parts
  have hn : n ≤ 100 := by rw [en]; exact h.l1
  have hm : m ≤ 100 := by rw [em]; exact h.l2
  obtain ⟨G, hG⟩ : ∃ G, G = w.heap.size := ⟨_, rfl⟩
  have hb0 := Blk.new w 67 (mvCells ⟨sel, lits, A1, c1, vs, A2, c2⟩)
  rw [← hG] at hb0
  unfold mvCells at hb0 ⊢
  simp only at hb0 ⊢
  rw [← en, ← em] at hb0 ⊢
  have hb1 := Blk.new (w.alloc (.cells #[.string sel, .slice A1 n c1, .slice A2 m c2] 67)) 55 #[.string ⟨#[]⟩, .slice none 0 0, .slice none 0 0]
  have hb2 := Blk.new ((w.alloc (.cells #[.string sel, .slice A1 n c1, .slice A2 m c2] 67)).alloc (.cells #[.string ⟨#[]⟩, .slice none 0 0, .slice none 0 0] 55)) 55 #[.string sel, .slice none 0 0, .slice none 0 0]
  simp only [World.size_alloc, ← hG] at hb1 hb2
  obtain ⟨w2, hw2⟩ : ∃ w2, w2 = ((w.alloc (.cells #[.string sel, .slice A1 n c1, .slice A2 m c2] 67)).alloc (.cells #[.string ⟨#[]⟩, .slice none 0 0, .slice none 0 0] 55)).alloc (.cells #[.string sel, .slice none 0 0, .slice none 0 0] 55) := ⟨_, rfl⟩
  have hg2 : Grew w w2 := by rw [hw2]; exact (((Grew.refl w).alloc _).alloc _).alloc _
  have hs2 : w2.heap.size = G + 1 + 1 + 1 := by rw [hw2, hG]; simp only [World.size_alloc]
  rw [← hw2] at hb2
  have hb0' : Blk w2 G 67 #[.string sel, .slice A1 n c1, .slice A2 m c2] := by rw [hw2]; exact hb0.grew (((Grew.refl _).alloc _).alloc _)
  have hb1' : Blk w2 (G + 1) 55 #[.string ⟨#[]⟩, .slice none 0 0, .slice none 0 0] := by rw [hw2]; exact hb1.grew ((Grew.refl _).alloc _)
  have EN := hid en
  have EM := hid em
  have HG := hid hG
  have HG2 := hid hg2
  have HB0 := hid hb0'
  have HB1 := hid hb1'
  have HB2 := hid hb2
  have HS2 := hid hs2
  clear h en em hG hb0 hb1 hb2 hg2 hb0' hb1' hs2
  go_enter Tryz.func29, Tryz.ntmps29
  go_wp2_with fail
  rw [← hw2]
  rw [← HG.out]
  clear hw2
  obtain ⟨M, hM⟩ : ∃ M, M = G + 1 + 1 := ⟨_, rfl⟩
  rw [← hM] at HB2 HS2 ⊢
  have hGM : G + 1 < M := by omega
  clear hM
  go_loopw [4] (fun s4 wr => ∃ (i : Nat) (A' : Option Addr) (c' : Nat), s4 = .int .i64 ((i : Nat) : Int) ∧ i ≤ n ∧ Hid (Row wr (M + 1) 99 2 A' i c' ((lits.take i).flatMap litF) ∧ Blk wr M 55 #[.string sel, .slice A' i c', .slice none 0 0] ∧ Kept (fun k => M ≤ k) w2 wr)) (fun s4 _ => n - (intOf s4).toNat)
  case atStart => exact ⟨0, none, 0, rfl, Nat.zero_le _, hid ⟨Row.nil _ _ _ _, HB2.out, Kept.refl _ _⟩⟩
  case round =>
    obtain ⟨i, A', c', rfl, hi, HI⟩ := hrel
    obtain ⟨hrow, hbk, hkp⟩ := HI.out
    have hb0 := HB0.out.kept hkp (by omega)
    have m1 := hb0.cell 1
    have m2 := hb0.cell 2
    simp only [List.getElem?_toArray, List.getElem?_cons_zero, List.getElem?_cons_succ] at m1 m2
    have hgr : Grew w wr := hkp.grew HG2.out (fun k hk => by have := HG.out; omega)
    by_cases hlt : i < n
    · have f1 : (i : Int) < n := by omega
      obtain ⟨ad, x, rfl, hx, q0, q1, hadl⟩ := argLit_at (l := lits) ⟨fun x hx => (HA.out.1 x hx).1, HA.out.2⟩ (Grew.refl w) (i := i) (by rw [← EN.out]; exact hlt)
      have HX : Hid (lits.take (i + 1) = lits.take i ++ [x]) := hid (by rw [List.take_add_one, hx]; rfl)
      have hA : ∀ k, AtRow A' k → M < k := fun k hk => (at_row_lt hrow k hk).1
      have hA2 : ∀ k, AtRow A' k → k < wr.heap.size := fun k hk => (at_row_lt hrow k hk).2
      have hM2 : M < wr.heap.size := hbk.lt
      have HAd := hid hadl
      have HA1 := hid hA
      have HA2 := hid hA2
      have HK := hid hkp
      have HM2 := hid hM2
      have HGr := hid hgr
      have HBw := hid hb0
      have HQ0 := hid q0
      have HQ1 := hid q1
      have HJ0 : Hid (GJ 8 M A' i c' 99 2 ((lits.take i).flatMap litF) 55 #[.string sel, .slice A' i c', .slice none 0 0] (fun _ => false) wr) := hid ⟨fun _ => hrow, hbk⟩
      clear hrow hbk hkp hA hA2 hM2 HI hgr hb0 hadl q0 q1 hx
      generalize lits.take i = ls at *
      go_wp2_with fail
      clear m1 m2
      refine wp_region_facts4 (w0 := wr) _ 9 10 [17, 18, 19, 20, 21, 22, 23, 24, 25, 26] [] (GF wr M 1 G A' i c' (some ad) n c1 ad 2 99 (ls.flatMap litF) litF x) (Kept (AtRow A')) (GR 8 A') (GJ 8 M A' i c' 99 2 (ls.flatMap litF) 55 #[.string sel, .slice A' i c', .slice none 0 0]) (May.kept _) GR.zero GR.refl (by kernel_rfl) (by kernel_rfl) (Kept.refl _ _).drew (HJ0.out.grew (Grew.refl _).drew) (fun a b v w w' _ _ hab _ h hr => GF.stable a b v w w' hab h hr) ?_ ?_
      · repeat' (first | exact trivial | apply And.intro)
        all_goals
          intro a w' f hgw hJ hfi hdep hs hA
          have e3 := hs.eval 3 (by decide) (v := .pointer (some ⟨M, 0, none⟩)) rfl
          have e1 := hs.eval 1 (by decide) (v := .pointer (some ⟨G, 0, none⟩)) rfl
          have e4 := hs.eval 4 (by decide) (v := .int .i64 ((i : Nat) : Int)) rfl
          have HJ := hid hJ
          have HFi := hid hfi
          have HGW := hid hgw
          have HGe : Hid (Grew w w') := hid (hgw.grew HGr.out (fun k hk => by have h1 := HA1.out k hk; have h2 := HG.out; omega))
          have HBe := hid (HBw.out.kept hgw (fun hk => by have h1 := HA1.out _ hk; omega))
          clear hs hgw hJ hfi hdep
          simp only [Ahead, Region.binds, slotOf, GF, List.getD_cons_succ, List.getD_cons_zero, forall_const, and_true] at hA
          simp only [wantedD, if_true]
          unfold Oper.wp
          have ec : ∀ v, a.eval (.const v) = v := fun _ => rfl
          generalize hfe : a.eval = fe at *
          clear hfe
        · go_simp
          exact Gives3.of rfl (GR.refl 0 _) rfl (HJ.out.pure 0)
        · have q1 := HJ.out.2.cell 1
          simp only [List.getElem?_toArray, List.getElem?_cons_zero, List.getElem?_cons_succ] at q1
          go_simp
          exact Gives3.of rfl (GR.refl 1 _) rfl (HJ.out.pure 1)
        · go_simp
          exact Gives3.of rfl (GR.refl 2 _) rfl (HJ.out.pure 2)
        · have q1 := HBe.out.cell 1
          simp only [List.getElem?_toArray, List.getElem?_cons_zero, List.getElem?_cons_succ] at q1
          go_simp
          exact Gives3.of rfl (GR.refl 3 _) rfl (HJ.out.pure 3)
        · go_simp
          exact Gives3.of rfl (GR.refl 4 _) rfl (HJ.out.pure 4)
        · have f1 : (i : Int) < n := by omega
          go_simp
          exact Gives3.of rfl (GR.refl 5 _) rfl (HJ.out.pure 5)
        · have q0 : w'.cell? (ad.add (i * 2)) = _ := (HGe.out.below.cell (by rw [block_add]; exact HAd.out)).trans HQ0.out
          have q1 : w'.cell? ⟨ad.block, (ad.add (i * 2)).off + 1, none⟩ = _ := (HGe.out.below.cell (by exact HAd.out)).trans HQ1.out
          go_simp
          exact Gives3.of rfl (GR.refl 6 _) rfl (HJ.out.pure 6)
        · have hnew := Blk.new w' 99 (litF x).toArray
          have hgn : Grew w' (w'.alloc (.cells (litF x).toArray 99)) := (Grew.refl w').alloc _
          have HN := hid hnew
          have HGn := hid hgn
          unfold litF at hA HN HGn
          clear hnew hgn
          go_simp
          have hsz := HGW.out.size
          exact Gives3.of rfl (GR.grew (j := 7) HGn.out) ⟨w'.heap.size, rfl, HN.out, by have := HM2.out; omega, fun hk => by have := HA2.out _ hk; omega⟩ ((HJ.out.grew HGn.out).pure 7)
        · obtain ⟨h1, Hn, hv, hbn, _, _⟩ := hA
          have hown := HJ.out.1 HFi.out
          obtain ⟨A3, c3, w2', hrun, r1, r2, r3⟩ := run_catR (P := Tryz.prog) 52 52 99 (.agg #[.int .u8 0, .string ⟨#[]⟩]) 2 24 Tryz.underlying52 lit_info9 rfl (by decide) w' (M + 1) (by have := HGW.out.size; have := HM2.out; omega) A' i c' (ls.flatMap litF) hown (some ⟨Hn, 0, none⟩) 1 1 (litF x) rfl (litF_ok x) (by intro e; cases e) (blk_row hbn) (by omega) (by omega)
          have HR1 := hid r1
          have HR2 := hid r2
          have HR3 : Hid (RowTo wr A' A3) := hid (by
            rcases r3 with r3 | ⟨q, e1, e2⟩
            · exact .inl r3
            · exact .inr ⟨q, e1, Nat.le_trans HGW.out.size e2⟩)
          clear hown hbn r1 r2 r3
          simp only [execOp, resolve, invoke, builtin, Sem.run_bind, Sem.run_pure, Result.andThen_ok, List.map_toArray, List.map_cons, List.map_nil, h1, hv, hrun]
          refine Gives3.of rfl ?_ ?_ ?_
          · exact HR2.out
          · exact ⟨A3, c3, rfl, HR1.out, HR3.out⟩
          · exact HJ.out.app HR2.out HA1.out
        · go_simp
          exact Gives3.of rfl (GR.refl 9 _) rfl (HJ.out.pure 9)
      · intro a w3' hgw hs hf hJ _
        have h8 := hf 8 (by decide)
        have h9 := hf 9 (by decide)
        simp only [slotOf, GF, List.getD_cons_succ, List.getD_cons_zero] at h8 h9
        obtain ⟨A3, c3, ev, hrow, hto⟩ := h8
        obtain ⟨fn, rfl, hft⟩ := hs.put
        rw [hft] at ev h9
        have hbM := hJ.2
        have q1 := hbM.cell 1
        have q2 := hbM.frozen 1
        simp only [List.getElem?_toArray, List.getElem?_cons_zero, List.getElem?_cons_succ] at q1
        have HbM := hid hbM
        have Hrow := hid hrow
        have HGw := hid hgw
        clear hf hft hs hgw hJ hbM hrow hto
        simp only [List.drop_succ_cons, List.drop_zero, putAll, List.foldl_cons, List.foldl_nil, Act.put, List.setIfInBounds_toArray, List.set_cons_succ, List.set_cons_zero, ev, h9]
        clear ev h9
        go_wp2_with fail
        have hks : Kept (· = M) w3' (w3'.setCell ⟨M, 1, none⟩ (.slice A3 (i + 1) c3)) := (Kept.refl (· = M) w3').setCell (p := ⟨M, 1, none⟩) (fun _ => rfl) _
        have hbn := HbM.out.put 1 (.slice A3 (i + 1) c3)
        simp only [List.setIfInBounds_toArray, List.set_cons_zero, List.set_cons_succ] at hbn
        have HX2 := hid (Hrow.out.kept hks (fun q hq e => by have := Row.at_base Hrow.out q ⟨_, hq, rfl⟩; omega))
        have HX3 := hid hbn
        have HX4 : Hid (Kept (fun k => M ≤ k) w2 (w3'.setCell ⟨M, 1, none⟩ (.slice A3 (i + 1) c3))) := hid ((HK.out.trans (HGw.out.mono (fun k _ h => Nat.le_of_lt (HA1.out k h)))).trans (hks.mono (fun k _ h => by omega)))
        clear hks hbn
        go_round
        case rel => exact ⟨i + 1, A3, c3, by go_num, by omega, hid ⟨by rw [HX.out, List.flatMap_append]; simpa using HX2.out, HX3.out, HX4.out⟩⟩
        case measure => simp [intOf]; omega
    · have hin : i = n := by omega
      subst hin
      have hli : lits.take i = lits := by rw [EN.out, List.take_length]
      rw [hli] at hrow
      have HRow1 := hid hrow
      have HBk := hid hbk
      have HKp := hid hkp
      clear hrow hbk hkp hb0 hgr HI hli
      go_wp2_with fail
      clear m1 m2
      go_loopw [5] (fun s5 wr => ∃ (j : Nat) (B2 : Option Addr) (d2 : Nat) (pv : List PV), s5 = .int .i64 ((j : Nat) : Int) ∧ j ≤ m ∧ Hid (pv.map (·.p) = (vs.take j).map (·.p) ∧ Row wr (M + 1) 71 4 B2 j d2 (pv.flatMap pvF) ∧ Blk wr M 55 #[.string sel, .slice A' i c', .slice B2 j d2] ∧ Kept (fun k => M ≤ k) w2 wr ∧ Row wr (M + 1) 99 2 A' i c' (lits.flatMap litF) ∧ (∀ v ∈ pv, PvOk wr v ∧ ∀ ad, v.A = some ad → M < ad.block ∧ ¬ AtRow B2 ad.block ∧ ad.block < wr.heap.size) ∧ (∀ q, AtRow A' q → ¬ AtRow B2 q))) (fun s5 _ => m - (intOf s5).toNat)
      case atStart => exact ⟨0, none, 0, [], rfl, Nat.zero_le _, hid ⟨rfl, Row.nil _ _ _ _, HBk.out, HKp.out, HRow1.out, (fun v hv => by cases hv), (fun q _ h => by obtain ⟨_, e, _⟩ := h; cases e)⟩⟩
      case round =>
        obtain ⟨j, B2, d2, pv, rfl, hj, HJ⟩ := hrel
        clear HRow1 HBk HKp
        obtain ⟨hpm, hrow, hbk, hkp, hrow1, hels, hap⟩ := HJ.out
        have hb0 := HB0.out.kept hkp (by omega)
        have m1 := hb0.cell 1
        have m2 := hb0.cell 2
        simp only [List.getElem?_toArray, List.getElem?_cons_zero, List.getElem?_cons_succ] at m1 m2
        have hgr : Grew w wr := hkp.grew HG2.out (fun k hk => by have := HG.out; omega)
        by_cases hlt : j < m
        · have f1 : (j : Int) < m := by omega
          obtain ⟨ad, v, rfl, hv, q0, q1, q2, q3, hadl⟩ := argPart_at (l := vs) ⟨fun x hx => ⟨(HP.out.1 x hx).1, (HP.out.1 x hx).2.1, (HP.out.1 x hx).2.2.1⟩, HP.out.2⟩ hgr (i := j) (by rw [← EM.out]; exact hlt)
          have HX : Hid ((vs.take (j + 1)).map (·.p) = (vs.take j).map (·.p) ++ [v.p]) := hid (by rw [List.take_add_one, hv, List.map_append]; rfl)
          have HSrc := hid (HP.out.1 v (List.mem_of_getElem? hv))
          obtain ⟨P, hP⟩ : ∃ P, P = wr.heap.size := ⟨_, rfl⟩
          obtain ⟨wp, hwp⟩ : ∃ wp, wp = wr.alloc (.cells #[.int .i64 v.p.outer, .int .i64 v.p.args, .int .i64 v.p.temps, .slice v.A v.p.code.length v.c] 97) := ⟨_, rfl⟩
          have hgp : Grew wr wp := by rw [hwp]; exact (Grew.refl wr).alloc _
          have hbp := Blk.new wr 97 #[.int .i64 v.p.outer, .int .i64 v.p.args, .int .i64 v.p.temps, .slice v.A v.p.code.length v.c]
          rw [← hwp, ← hP] at hbp
          have hA : ∀ k, AtRow B2 k → M < k := fun k hk => (at_row_lt hrow k hk).1
          have hA2 : ∀ k, AtRow B2 k → k < P := fun k hk => by rw [hP]; exact (at_row_lt hrow k hk).2
          have hA1 : ∀ k, AtRow A' k → M < k ∧ k < wr.heap.size := fun k hk => at_row_lt hrow1 k hk
          have hM2 : M < wr.heap.size := hbk.lt
          have HPp := hid hP
          have HGp := hid hgp
          have HBp := hid hbp
          have HA1 := hid hA
          have HA2 := hid hA2
          have HA3 := hid hA1
          have HK := hid hkp
          have HM2 := hid hM2
          have HGr := hid (hgr.trans hgp)
          have HEls := hid hels
          have HAp := hid hap
          have HPm := hid hpm
          have HRow1 := hid hrow1
          have HPs : Hid (P < wp.heap.size) := hid hbp.lt
          have HJ0 : Hid (GJ 14 M B2 j d2 71 4 (pv.flatMap pvF) 55 #[.string sel, .slice A' i c', .slice B2 j d2] (fun _ => false) wp) := hid ⟨fun _ => hrow.grew hgp, hbk.grew hgp⟩
          clear hpm hrow hbk hkp hrow1 hels hap hA hA2 hA1 hM2 hgr hgp hbp hP HJ hv hb0 hadl
          go_wp2_with fail
          rw [← hwp, ← HPp.out]
          clear m1 m2 q0 q1 q2 q3 hwp
          refine wp_region_facts4 (w0 := wp) _ 12 16 [39, 40, 41, 42, 43, 44, 45, 46, 47, 48, 49, 50, 51, 52, 53, 54] [] (PF9 wp M P B2 j d2 71 5 (pv.flatMap pvF) v) (Kept (AtRow B2)) (GR 14 B2) (GJ 14 M B2 j d2 71 4 (pv.flatMap pvF) 55 #[.string sel, .slice A' i c', .slice B2 j d2]) (May.kept _) GR.zero GR.refl (by kernel_rfl) (by kernel_rfl) (Kept.refl _ _).drew (HJ0.out.grew (Grew.refl _).drew) (fun a b v w w' _ _ hab _ h hr => PF9.stable (fun k hk => Nat.lt_trans (HA2.out k hk) HPs.out) a b v w w' hab h hr) ?_ ?_
          · repeat' (first | exact trivial | apply And.intro)
            all_goals
              intro a w' f hgw hJ hfi hdep hs hA
              have e3 := hs.eval 3 (by decide) (v := .pointer (some ⟨M, 0, none⟩)) rfl
              have e6 := hs.eval 6 (by decide) (v := .pointer (some ⟨P, 0, none⟩)) rfl
              have HJ := hid hJ
              have HFi := hid hfi
              have HGW := hid hgw
              have HGe : Hid (Grew w w') := hid (hgw.grew HGr.out (fun k hk => by have h1 := HA1.out k hk; have h2 := HG.out; omega))
              have HBe := hid (HBp.out.kept hgw (fun hk => by have h1 := HA2.out _ hk; omega))
              clear hs hgw hJ hfi hdep
              simp only [Ahead, Region.binds, slotOf, PF9, List.getD_cons_succ, List.getD_cons_zero, forall_const, and_true] at hA
              simp only [wantedD, if_true]
              unfold Oper.wp
              have ec : ∀ v, a.eval (.const v) = v := fun _ => rfl
              generalize hfe : a.eval = fe at *
              clear hfe
            · go_simp
              exact Gives3.of rfl (GR.refl 0 _) rfl (HJ.out.pure 0)
            · have q1 := HJ.out.2.cell 2
              simp only [List.getElem?_toArray, List.getElem?_cons_zero, List.getElem?_cons_succ] at q1
              go_simp
              exact Gives3.of rfl (GR.refl 1 _) rfl (HJ.out.pure 1)
            · go_simp
              exact Gives3.of rfl (GR.refl 2 _) rfl (HJ.out.pure 2)
            · have q1 := HBe.out.cell 0
              simp only [List.getElem?_toArray, List.getElem?_cons_zero] at q1
              go_simp
              exact Gives3.of rfl (GR.refl 3 _) rfl (HJ.out.pure 3)
            · go_simp
              exact Gives3.of rfl (GR.refl 4 _) rfl (HJ.out.pure 4)
            · have q1 := HBe.out.cell 1
              simp only [List.getElem?_toArray, List.getElem?_cons_zero, List.getElem?_cons_succ] at q1
              go_simp
              exact Gives3.of rfl (GR.refl 5 _) rfl (HJ.out.pure 5)
            · go_simp
              exact Gives3.of rfl (GR.refl 6 _) rfl (HJ.out.pure 6)
            · have q1 := HBe.out.cell 2
              simp only [List.getElem?_toArray, List.getElem?_cons_zero, List.getElem?_cons_succ] at q1
              go_simp
              exact Gives3.of rfl (GR.refl 7 _) rfl (HJ.out.pure 7)
            · have hnew := Blk.new w' 5 #[]
              have hgn : Grew w' (w'.alloc (.cells #[] 5)) := (Grew.refl w').alloc _
              have HN := hid hnew
              have HGn := hid hgn
              clear hnew hgn
              go_simp
              have hsz := HGW.out.size
              exact Gives3.of rfl (GR.grew (j := 8) HGn.out) ⟨w'.heap.size, rfl, HN.out, hsz, fun hk => by have := HA2.out _ hk; have := HPs.out; omega⟩ ((HJ.out.grew HGn.out).pure 8)
            · go_simp
              exact Gives3.of rfl (GR.refl 9 _) rfl (HJ.out.pure 9)
            · have q1 := HBe.out.cell 3
              simp only [List.getElem?_toArray, List.getElem?_cons_zero, List.getElem?_cons_succ] at q1
              go_simp
              exact Gives3.of rfl (GR.refl 10 _) rfl (HJ.out.pure 10)
            · obtain ⟨⟨H, hv1, hbH, hHw, hHr⟩, hv2⟩ := hA
              obtain ⟨A3, c3, w2', hrun, r1, r2, r3, r4, r5⟩ := run_catE (P := Tryz.prog) 69 69 5 Tryz.underlying69 u8_info9 w' H hbH v.A v.c v.p.code (HSrc.out.1.grew HGe.out) (by have := HSrc.out.2.2.2; omega)
              have HG4 := hid r4
              have HF : Hid (PvOk w2' ⟨v.p, A3, c3⟩) := hid ⟨r1, r2, r3, HSrc.out.2.2.2⟩
              have HF2 : Hid (∀ ad, A3 = some ad → wp.heap.size ≤ ad.block ∧ ad.block < w2'.heap.size) := hid (fun ad e => ⟨by
                have h1 := (r5 ad e).1
                have h2 := HGW.out.size
                omega, (r5 ad e).2⟩)
              clear r1 r2 r3 r4 r5 hbH
              simp only [execOp, resolve, invoke, builtin, Sem.run_bind, Sem.run_pure, Result.andThen_ok, List.map_toArray, List.map_cons, List.map_nil, hv1, hv2, hrun]
              exact Gives3.of rfl (GR.grew (j := 11) HG4.out) ⟨⟨v.p, A3, c3⟩, ⟨rfl, HF.out, HF2.out⟩, rfl⟩ ((HJ.out.grew HG4.out).pure 11)
            · obtain ⟨h1, h2, h3, y, hy, hv⟩ := hA
              have HY := hid hy
              clear hy
              go_simp
              exact Gives3.of rfl (GR.refl 12 _) ⟨y, HY.out, by unfold pvF; rw [HY.out.1]⟩ (HJ.out.pure 12)
            · obtain ⟨y, hy, hv⟩ := hA
              have HY := hid hy
              have hnew := Blk.new w' 71 (pvF y).toArray
              have hgn : Grew w' (w'.alloc (.cells (pvF y).toArray 71)) := (Grew.refl w').alloc _
              have HN := hid hnew
              have HGn := hid hgn
              unfold pvF at hv HN HGn
              clear hnew hgn hy
              go_simp
              have hsz := HGW.out.size
              exact Gives3.of rfl (GR.grew (j := 13) HGn.out) ⟨y, w'.heap.size, good_kept (fun k hk => Nat.lt_trans (HA2.out k hk) HPs.out) HY.out (Kept.of_grew HGn.out), rfl, HN.out, by have := HM2.out; have := HGp.out.below.size; omega, fun hk => by have := HA2.out _ hk; have := HPs.out; omega⟩ ((HJ.out.grew HGn.out).pure 13)
            · obtain ⟨h1, ⟨y, Hn, hy, hv, hbn, _, _⟩, _⟩ := hA
              have hown := HJ.out.1 HFi.out
              obtain ⟨A3, c3, w2', hrun, r1, r2, r3⟩ := run_catR (P := Tryz.prog) 53 53 71 (.agg #[.int .i64 0, .int .i64 0, .int .i64 0, .slice none 0 0]) 4 48 Tryz.underlying53 part_info9 rfl (by decide) w' (M + 1) (by have := HGW.out.size; have := HM2.out; have := HGp.out.below.size; omega) B2 j d2 (pv.flatMap pvF) hown (some ⟨Hn, 0, none⟩) 1 1 (pvF y) rfl (pvF_ok y) (by intro e; cases e) (blk_row hbn) (by omega) (by omega)
              have HR1 := hid r1
              have HR2 := hid r2
              have HR3 : Hid (RowTo wp B2 A3) := hid (by
                rcases r3 with r3 | ⟨q, e1, e2⟩
                · exact .inl r3
                · exact .inr ⟨q, e1, Nat.le_trans HGW.out.size e2⟩)
              have HFar : Hid (∀ ad, y.A = some ad → ¬ AtRow A3 ad.block) := hid (by
                intro ad e hq
                have h4 := hy.2.2 ad e
                rcases r3 with r3 | ⟨q', e1, e2⟩
                · rw [r3] at hq
                  have := HA2.out _ hq
                  have := HPs.out
                  omega
                · rw [e1] at hq
                  obtain ⟨ad', e3, e4⟩ := hq
                  cases e3
                  simp only at e4
                  omega)
              have HY2 := hid (good_kept (fun k hk => Nat.lt_trans (HA2.out k hk) HPs.out) hy r2)
              clear hown hbn r1 r2 r3 hy
              simp only [execOp, resolve, invoke, builtin, Sem.run_bind, Sem.run_pure, Result.andThen_ok, List.map_toArray, List.map_cons, List.map_nil, h1, hv, hrun]
              exact Gives3.of rfl HR2.out ⟨y, A3, c3, HY2.out, rfl, HR1.out, HR3.out, HFar.out⟩ (HJ.out.app HR2.out HA1.out)
            · go_simp
              exact Gives3.of rfl (GR.refl 15 _) rfl (HJ.out.pure 15)
          · intro a w3' hgw hs hf hJ _
            have h14 := hf 14 (by decide)
            have h15 := hf 15 (by decide)
            simp only [slotOf, PF9, List.getD_cons_succ, List.getD_cons_zero] at h14 h15
            obtain ⟨y, A3, c3, hy, ev, hrow, hto, hfar⟩ := h14
            obtain ⟨fn, rfl, hft⟩ := hs.put
            rw [hft] at ev h15
            have hbM := hJ.2
            have q1 := hbM.cell 2
            have q2 := hbM.frozen 2
            simp only [List.getElem?_toArray, List.getElem?_cons_zero, List.getElem?_cons_succ] at q1
            have HbM := hid hbM
            have Hrow := hid hrow
            have HGw := hid hgw
            have HY := hid hy
            have HTo := hid hto
            have HFar := hid hfar
            clear hf hft hs hgw hJ hbM hrow hto hy hfar
            simp only [List.drop_succ_cons, List.drop_zero, putAll, List.foldl_cons, List.foldl_nil, Act.put, List.setIfInBounds_toArray, List.set_cons_succ, List.set_cons_zero, ev, h15]
            clear ev h15
            go_wp2_with fail
            have hks : Kept (· = M) w3' (w3'.setCell ⟨M, 2, none⟩ (.slice A3 (j + 1) c3)) := (Kept.refl (· = M) w3').setCell (p := ⟨M, 2, none⟩) (fun _ => rfl) _
            have hbn := HbM.out.put 2 (.slice A3 (j + 1) c3)
            simp only [List.setIfInBounds_toArray, List.set_cons_zero, List.set_cons_succ] at hbn
            have hall : Kept (fun k => AtRow B2 k ∨ k = M) wp (w3'.setCell ⟨M, 2, none⟩ (.slice A3 (j + 1) c3)) := (HGw.out.mono (fun _ _ h => .inl h)).trans (hks.mono (fun _ _ h => .inr h))
            have hall2 : Kept (fun k => AtRow B2 k ∨ k = M) wr (w3'.setCell ⟨M, 2, none⟩ (.slice A3 (j + 1) c3)) := (Kept.of_grew HGp.out).trans hall
            have HX2 := hid (Hrow.out.kept hks (fun q hq e => by have := Row.at_base Hrow.out q ⟨_, hq, rfl⟩; omega))
            have HX3 := hid hbn
            have HX4 : Hid (Kept (fun k => M ≤ k) w2 (w3'.setCell ⟨M, 2, none⟩ (.slice A3 (j + 1) c3))) := hid (HK.out.trans (hall2.mono (fun k _ h => by rcases h with h | h; exact Nat.le_of_lt (HA1.out k h); omega)))
            have HX5 := hid (HRow1.out.kept hall2 (fun q hq hF => by
              have h1 := HA3.out q ⟨_, hq, rfl⟩
              rcases hF with hF | hF
              · exact HAp.out q ⟨_, hq, rfl⟩ hF
              · omega))
            have hsz := Kept.size hall2
            have hszw : wp.heap.size ≤ w3'.heap.size := Kept.size HGw.out
            have hPs := HPs.out
            have hPp := HPp.out
            have HX6 : Hid (∀ v ∈ pv ++ [y], PvOk (w3'.setCell ⟨M, 2, none⟩ (.slice A3 (j + 1) c3)) v ∧ ∀ ad, v.A = some ad → M < ad.block ∧ ¬ AtRow A3 ad.block ∧ ad.block < (w3'.setCell ⟨M, 2, none⟩ (.slice A3 (j + 1) c3)).heap.size) := hid (fun v hv => by
              rcases List.mem_append.1 hv with hv | hv
              · obtain ⟨h1, h2⟩ := HEls.out v hv
                refine ⟨h1.kept9 hall2 (fun ad e hF => by
                  have h3 := h2 ad e
                  rcases hF with hF | hF
                  · exact h3.2.1 hF
                  · omega), fun ad e => ?_⟩
                have h3 := h2 ad e
                refine ⟨h3.1, fun hq => ?_, by omega⟩
                rcases HTo.out with h4 | ⟨q, e1, e2⟩
                · rw [h4] at hq; exact h3.2.1 hq
                · rw [e1] at hq
                  obtain ⟨ad', e3, e4⟩ := hq
                  cases e3
                  simp only at e4
                  omega
              · rw [List.mem_singleton.1 hv]
                obtain ⟨_, h2, h3⟩ := HY.out
                have hm2 := HM2.out
                refine ⟨h2.kept9 hks (fun ad e hF => by have := h3 ad e; omega), fun ad e => ?_⟩
                have h4 := h3 ad e
                refine ⟨by omega, HFar.out _ e, Nat.lt_of_lt_of_le h4.2 (Kept.size hks)⟩)
            have HX7 : Hid (∀ q, AtRow A' q → ¬ AtRow A3 q) := hid (fun q hq hq3 => by
              rcases HTo.out with h4 | ⟨q', e1, e2⟩
              · rw [h4] at hq3; exact HAp.out q hq hq3
              · rw [e1] at hq3
                obtain ⟨ad', e3, e4⟩ := hq3
                cases e3
                simp only at e4
                have := (HA3.out q hq).2
                omega)
            clear hks hbn hall hall2 hsz hszw hPs hPp
            go_round
            case rel => exact ⟨j + 1, A3, c3, pv ++ [y], by go_num, by omega, hid ⟨by rw [HX.out, List.map_append, HPm.out]; simp [HY.out.1], by rw [List.flatMap_append]; simpa using HX2.out, HX3.out, HX4.out, HX5.out, HX6.out, HX7.out⟩⟩
            case measure => simp [intOf]; omega
        · have hjm : j = m := by omega
          subst hjm
          have hpl : pv.length = j := by
            have := congrArg List.length hpm
            rw [List.length_map, List.length_map, List.length_take] at this
            have := EM.out
            omega
          have hpm2 : pv.map (·.p) = vs.map (·.p) := by rw [hpm, EM.out, List.take_length]
          have hb1 := HB1.out.kept hkp (by omega)
          have HMe : Hid (∀ wf, Kept (· = G + 1) wr wf → MethAt wf ⟨sel, lits, A', c', pv, B2, d2⟩) := hid (fun wf hk => by
            refine ⟨HS.out, ?_, by show lits.length ≤ 100; have := EN.out; omega, ?_, by show pv.length ≤ 100; omega⟩
            · exact row_lits EN.out (hrow1.kept hk (fun q hq e => by have := Row.at_base hrow1 q ⟨_, hq, rfl⟩; omega)) (fun x hx => HA.out.1 x hx)
            · refine row_parts hpl.symm (hrow.kept hk (fun q hq e => by have := Row.at_base hrow q ⟨_, hq, rfl⟩; omega)) (fun v hv => ?_)
              obtain ⟨h1, h2⟩ := hels v hv
              exact h1.kept9 hk (fun ad e hF => by have := h2 ad e; omega))
          have HNw : Hid (∀ wf, Kept (· = G + 1) wr wf → ∀ k, MBlk ⟨sel, lits, A', c', pv, B2, d2⟩ k → w.heap.size ≤ k ∧ k < wf.heap.size) := hid (fun wf hk k hb => by
            have hG0 := HG.out
            have hs9 := hk.size
            rcases hb with ⟨ad, e, rfl⟩ | ⟨ad, e, rfl⟩ | ⟨v, hv, ad, e, rfl⟩
            · have h1 := Row.at_base hrow1 ad.block ⟨ad, e, rfl⟩
              have h2 := Row.at_lt hrow1 ad.block ⟨ad, e, rfl⟩
              omega
            · have h1 := Row.at_base hrow ad.block ⟨ad, e, rfl⟩
              have h2 := Row.at_lt hrow ad.block ⟨ad, e, rfl⟩
              omega
            · have h1 := (hels v hv).2 ad e
              omega)
          have HLs : Hid (lits.length = i ∧ pv.length = j ∧ pv.map (·.p) = vs.map (·.p)) := hid ⟨EN.out.symm, hpl, hpm2⟩
          have n0 := hbk.cell 0
          have n1 := hbk.cell 1
          have n2 := hbk.cell 2
          have r0 := hb1.cell 0
          have r1 := hb1.cell 1
          have r2 := hb1.cell 2
          have k0 := hb1.frozen 0
          have k1 := hb1.frozen 1
          have k2 := hb1.frozen 2
          simp only [List.getElem?_toArray, List.getElem?_cons_zero, List.getElem?_cons_succ] at n0 n1 n2 r0 r1 r2
          have HB1' := hid hb1
          have HGr := hid hgr
          clear HJ hpm hrow hbk hkp hrow1 hels hap hpl hgr hb0 hb1 hpm2
          go_wp2_with fail
          refine bodyPost_ret (v := .agg #[.string sel, .slice A' i c', .slice B2 j d2]) (res_meth1 rfl _ (G + 1) rfl _ _ _ _ (HB1'.out.put3 _ _ _)) rfl ?_
          have hk9 := kept3 (Kept.refl (· = G + 1) wr) (g := G + 1) (fun _ => rfl) (.string sel) (.slice A' i c') (.slice B2 j d2)
          refine ⟨⟨sel, lits, A', c', pv, B2, d2⟩, ?_, ?_, HMe.out _ hk9, hk9.grew HGr.out (fun q e => by have := HG.out; omega), HNw.out _ hk9⟩
          · rw [mvCells, HLs.out.1, HLs.out.2.1]
          · rw [MV.m, MV.m, HLs.out.2.2]
theorem giveMethod_c (v : MV) (w : World) (h : MethAt w v) :
    Calls Tryz.prog 29 #[.agg (mvCells v)] w (GivePost w v) := (giveMethod_cN v w h).mono fun _ _ ⟨u, h1, h2, h3, h4, _⟩ => ⟨u, h1, h2, h3, h4⟩
end Go.Proofs.YtjladeiecokpfaaGreatDoor

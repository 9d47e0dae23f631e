/- General words: a call that changes what lies in some blocks: all other blocks are as they were ('Kept F'). No program is named here. -/
import Derived.Test.YtilikjfjbnabfaaGreatDoorOwn2
namespace Go.Proofs.YtilikjfjbnabfaaGreatDoor
open Go.RowKit

/-- Outside of the blocks 'F' nothing that was there has changed; there may be new blocks. -/
structure Kept (F : Nat → Prop) (w w' : World) : Prop where
  os : w'.os = w.os
  tape : w'.tape = w.tape
  output : w'.output = w.output
  size : w.heap.size ≤ w'.heap.size
  block : ∀ k, k < w.heap.size → ¬ F k → w'.heap[k]? = w.heap[k]?

theorem Kept.of_grew {F : Nat → Prop} {w w' : World} (h : Grew w w') : Kept F w w' :=
  ⟨h.below.os, h.below.tape, h.below.output, h.below.size, fun k hk _ => h.below.block k hk⟩
theorem Kept.refl (F : Nat → Prop) (w : World) : Kept F w w := .of_grew (Grew.refl w)
/-- One behind the other: what the second one changes was not there, or lies in F. -/
theorem Kept.next {F G : Nat → Prop} {a b c : World} (h : Kept F a b) (k : Kept G b c) (hG : ∀ i, i < a.heap.size → G i → F i) : Kept F a c :=
  ⟨k.os.trans h.os, k.tape.trans h.tape, k.output.trans h.output, Nat.le_trans h.size k.size, fun i hi hF =>
    (k.block i (Nat.lt_of_lt_of_le hi h.size) (fun hg => hF (hG i hi hg))).trans (h.block i hi hF)⟩
theorem Kept.trans {F : Nat → Prop} {a b c : World} (h : Kept F a b) (k : Kept F b c) : Kept F a c := h.next k (fun _ _ h => h)
theorem Kept.mono {F G : Nat → Prop} {a b : World} (h : Kept F a b) (hG : ∀ i, i < a.heap.size → F i → G i) : Kept G a b :=
  (Kept.refl G a).next h hG
theorem Kept.grew {F : Nat → Prop} {w0 w w' : World} (h : Kept F w w') (hg : Grew w0 w) (hF : ∀ k, F k → w0.heap.size ≤ k) : Grew w0 w' :=
  .mk ⟨h.os.trans hg.below.os, h.tape.trans hg.below.tape, h.output.trans hg.below.output, Nat.le_trans hg.below.size h.size, fun k hk => (h.block k (Nat.lt_of_lt_of_le hk hg.below.size) (fun hf => by have := hF k hf; omega)).trans (hg.below.block k hk)⟩
theorem Kept.alloc {F : Nat → Prop} {a b : World} (h : Kept F a b) (o : Obj) : Kept F a (b.alloc o) := h.trans (.of_grew ((Grew.refl b).alloc o))
theorem Kept.drew {F : Nat → Prop} {a b : World} (h : Kept F a b) : Kept F a b.drew := h.trans (.of_grew (Grew.refl b).drew)
theorem Kept.setCell {F : Nat → Prop} {a b : World} (h : Kept F a b) {p : Addr} (hp : p.block < a.heap.size → F p.block) (u : Value) : Kept F a (b.setCell p u) :=
  h.next (G := fun k => k = p.block) ⟨rfl, rfl, rfl, by simp [World.setCell], fun k _ hk => Below.heap_setCell b p u k hk⟩ (fun i hi e => by subst e; exact hp hi)
theorem Kept.cell {F : Nat → Prop} {w w' : World} (h : Kept F w w') {p : Addr} (hp : p.block < w.heap.size) (hF : ¬ F p.block) : w'.cell? p = w.cell? p := World.cell?_of_block (w := w) (h.block p.block hp hF)
theorem Kept.frozen {F : Nat → Prop} {w w' : World} (h : Kept F w w') {p : Addr} (hp : p.block < w.heap.size) (hF : ¬ F p.block) : w'.frozen? p = w.frozen? p := World.frozen?_of_block (w := w) (h.block p.block hp hF)
theorem Blk.kept {F : Nat → Prop} {w w' : World} {g : Nat} {t : TypeId} {cs : Array Value} (h : Blk w g t cs) (k : Kept F w w') (hF : ¬ F g) : Blk w' g t cs := (k.block g h.lt hF).trans h
theorem NumsAt.kept {F : Nat → Prop} {k : IntKind} {w w' : World} {B : Nat} {A : Option Addr} {xs : List Nat} (h : NumsAt k w B A xs) (hk : Kept F w w') (hB : B ≤ w.heap.size) (hF : ∀ ad, A = some ad → ¬ F ad.block) : NumsAt k w' B A xs := by
  intro hn
  obtain ⟨ad, e, hb, hc⟩ := h hn
  refine ⟨ad, e, hb, fun j hj => ?_⟩
  rw [hk.cell (by rw [block_add]; omega) (by rw [block_add]; exact hF ad e)]
  exact hc j hj

/-! ### A row of the call's own, of whatever elements -/
/-- A value that is 'n' elements 'vs' in a block of its own (or nil), from block 'B' on. -/
def Row (w : World) (B : Nat) (e : TypeId) (s : Nat) (A : Option Addr) (n c : Nat) (vs : List Value) : Prop := w.ownsRow B e s (.slice A n c) n vs
theorem Row.nil (w : World) (B : Nat) (e : TypeId) (s : Nat) : Row w B e s none 0 0 [] := World.ownsRow_nil w _ e s
theorem Row.cases {w : World} {B : Nat} {e : TypeId} {s : Nat} {A : Option Addr} {n c : Nat} {vs : List Value} (h : Row w B e s A n c vs) :
    vs.length = n * s ∧ n ≤ c ∧ c ≤ 9223372036854775807 ∧ ((A = none ∧ n = 0 ∧ c = 0) ∨ ∃ g, A = some ⟨g, 0, none⟩ ∧ B ≤ g ∧ g < w.heap.size ∧ (∀ j u, vs[j]? = some u → w.cell? ⟨g, j, none⟩ = some u) ∧ (∀ j, w.frozen? ⟨g, j, none⟩ = false)) := by
  refine ⟨h.1, ?_⟩
  rcases h.2 with ⟨h1, h2⟩ | ⟨g, cap, cur, hv, hb, hh, hnc, hcm, hs, ht⟩
  · simp only [Value.slice.injEq] at h1
    exact ⟨by omega, by omega, .inl ⟨h1.1, by omega, by omega⟩⟩
  · simp only [Value.slice.injEq] at hv
    obtain ⟨rfl, _, rfl⟩ := hv
    simp only [maxLen] at hcm
    refine ⟨hnc, hcm, .inr ⟨g, rfl, hb, ((World.ownsRow.lt h) g rfl).2, fun j u hu => ?_, fun j => World.ownsRow.frozenAt h j⟩⟩
    have hj : j < vs.length := (List.getElem?_eq_some_iff.1 hu).1
    have := World.ownsRow.cellAt h j (by rw [← h.1]; exact hj)
    rw [this, hu]
/-- The block that it lies in. -/
def RowIn (A : Option Addr) (g : Nat) : Prop := A = some ⟨g, 0, none⟩
theorem Row.kept {F : Nat → Prop} {w w' : World} {B : Nat} {e : TypeId} {s : Nat} {A : Option Addr} {n c : Nat} {vs : List Value} (h : Row w B e s A n c vs) (hk : Kept F w w') (hF : ∀ g, A = some ⟨g, 0, none⟩ → ¬ F g) : Row w' B e s A n c vs := by
  refine ⟨h.1, ?_⟩
  rcases h.2 with h1 | ⟨g, cap, cur, hv, hb, hh, hr⟩
  · exact .inl h1
  · refine .inr ⟨g, cap, cur, hv, hb, ?_, hr⟩
    rw [hk.block g ((World.ownsRow.lt h) g (by rw [hv]; rfl)).2 (hF g (by simp only [Value.slice.injEq] at hv; exact hv.1))]
    exact hh
theorem Row.grew {w w' : World} {B : Nat} {e : TypeId} {s : Nat} {A : Option Addr} {n c : Nat} {vs : List Value} (h : Row w B e s A n c vs) (hg : Grew w w') : Row w' B e s A n c vs := h.kept (F := fun _ => False) (.of_grew hg) (fun _ _ h => h)
theorem Row.low {w : World} {B B' : Nat} {e : TypeId} {s : Nat} {A : Option Addr} {n c : Nat} {vs : List Value} (h : Row w B e s A n c vs) (hB : B' ≤ B) : Row w B' e s A n c vs := by
  refine ⟨h.1, ?_⟩
  rcases h.2 with h1 | ⟨g, cap, cur, hv, hb, hr⟩
  · exact .inl h1
  · exact .inr ⟨g, cap, cur, hv, Nat.le_trans hB hb, hr⟩
theorem Row.of_own {k : IntKind} {w0 w : World} {e : TypeId} {A : Option Addr} {c : Nat} {xs : List Nat} (h : OwnNums k w0 w e A c xs) : Row w w0.heap.size e 1 A xs.length c (numCells k xs) := h
theorem Row.to_own {k : IntKind} {w0 w : World} {e : TypeId} {A : Option Addr} {c : Nat} {xs : List Nat} (h : Row w w0.heap.size e 1 A xs.length c (numCells k xs)) : OwnNums k w0 w e A c xs := h

/-- The block that an append changes: the row's own. -/
def AtRow (A : Option Addr) (k : Nat) : Prop := ∃ ad, A = some ad ∧ ad.block = k
/-- 'append(out, xs...)': 'out' is nil or a row of the call's own; 'xs' lies anywhere. -/
theorem run_catR {P : Program} (t ty e : TypeId) (z : Value) (s b : Nat) (ht : P.underlying t = some (.slice e)) (he : (P.info? e).map (fun i => (i.zero, i.size, i.bytes)) = some (some z, s, b)) (hzs : z.cells.size = s) (hs : 0 < s)
    (w : World) (B : Nat) (hB : B ≤ w.heap.size) (A : Option Addr) (n c : Nat) (ys : List Value) (hown : Row w B e s A n c ys) (A2 : Option Addr) (m c2 : Nat) (xs : List Value) (hl : xs.length = m * s) (h1 : ∀ u ∈ xs, u.oneCell' = true) (hA : A2 = none → m = 0)
    (hx : ∀ ad, A2 = some ad → ∀ j u, xs[j]? = some u → w.cell? (ad.add j) = some u)
    (hlen : n + m ≤ 9223372036854775807) (hby : (n + m) * b ≤ 140737488355328) :
    ∃ A' c' w', (Builtin.append_ #[t, t] ty #[.slice A n c, .slice A2 m c2]).run P w = .ok (.slice A' (n + m) c') w' ∧ Row w' B e s A' (n + m) c' (ys ++ xs) ∧ Kept (AtRow A) w w' ∧ (A' = A ∨ ∃ g, A' = some ⟨g, 0, none⟩ ∧ w.heap.size ≤ g) := by
  obtain ⟨i, hi, hz0, hz1, hz2⟩ := info_parts he
  cases A2 with
  | none =>
    obtain rfl := hA rfl
    obtain rfl : xs = [] := List.eq_nil_of_length_eq_zero (by simpa using hl)
    refine ⟨A, c, w, ?_, by simpa using hown, Kept.refl _ _, .inl rfl⟩
    rcases hown.cases with ⟨_, hnc, _, ⟨rfl, rfl, rfl⟩ | ⟨g, rfl, _, _, _, _⟩⟩
    · simp [Builtin.append_, run_underlying ht, sizeOf, typeInfo, hi, Builtin.lenOf, Builtin.firstCells]
    · simp [Builtin.append_, run_underlying ht, sizeOf, typeInfo, hi, Builtin.lenOf, Builtin.firstCells, storeCells, hnc]
  | some ad =>
    obtain ⟨v', w', hrun, hown', hgr, hiff⟩ := run_append_own (P := P) (w := w) B t ty e i z s b ht hi hz0 hz1 hz2 hzs hs _ n ys hown ad m c2 xs hl (hx ad rfl) h1 (by simp only [maxLen]; exact hlen) hby hB
    have hK : Kept (AtRow A) w w' := ⟨hgr.os, hgr.tape, hgr.output, hgr.size, fun k hk hF => hgr.block k hk (by
      intro hrow
      cases A with
      | none => simp [Value.ownBlock] at hrow
      | some ad => exact hF ⟨ad, rfl, (Option.some.inj hrow).symm⟩)⟩
    have hN : ∀ g cap, v' = .slice (some ⟨g, 0, none⟩) (n + m) cap → (some ⟨g, 0, none⟩ = A ∨ w.heap.size ≤ g) := by
      intro g cap hv
      subst hz1
      subst hz2
      rcases hown.cases with ⟨hyl, hnc, _, ⟨rfl, rfl, rfl⟩ | ⟨g0, rfl, _, _, hc0, _⟩⟩
      · right
        have hownT : w.ownsRow w.heap.size e i.size (.slice none 0 0) 0 ys := ⟨hyl, .inl ⟨rfl, rfl⟩⟩
        obtain ⟨v2, w2, hrun2, hown2, _⟩ := run_append_own (P := P) (w := w) w.heap.size t ty e i z i.size i.bytes ht hi hz0 rfl rfl hzs hs _ 0 ys hownT ad m c2 xs hl (hx ad rfl) h1 (by simp only [maxLen]; exact hlen) hby (Nat.le_refl _)
        rw [hrun] at hrun2
        simp only [Result.ok.injEq] at hrun2
        obtain ⟨rfl, rfl⟩ := hrun2
        rcases hown2.2 with ⟨h3, _⟩ | ⟨g2, cap2, cur, h3, hb2, _⟩
        · rw [h3] at hv; simp at hv
        · rw [h3] at hv
          simp only [Value.slice.injEq, Option.some.injEq, Addr.mk.injEq] at hv
          omega
      · by_cases hroom : n + m ≤ c
        · obtain ⟨w2, hrun2, _⟩ := run_append_fits (P := P) w B t ty e i i.size ht hi rfl g0 n c ys hown ad m c2 xs hl (hx ad rfl) h1 hroom
          rw [hrun] at hrun2
          simp only [Result.ok.injEq] at hrun2
          rw [hv] at hrun2
          simp only [Value.slice.injEq, Option.some.injEq, Addr.mk.injEq] at hrun2
          left
          rw [hrun2.1.1.1]
        · have hrun2 := run_append_grow (P := P) w t ty e i z ht hi hz0 ⟨g0, 0, none⟩ n c ys hyl (fun j u hu => by
            have := hc0 j u hu
            simpa [Addr.add, Nat.pos_iff_ne_zero] using (show w.cell? ((⟨g0, 0, none⟩ : Addr).add j) = some u by
              rw [show (⟨g0, 0, none⟩ : Addr).add j = ⟨g0, j, none⟩ by simp [Addr.add]; omega]; exact this)) ad m c2 xs hl (hx ad rfl) (by omega) (by omega) (growslice_fits (by omega) hby)
          rw [hrun] at hrun2
          simp only [Result.ok.injEq] at hrun2
          rw [hv] at hrun2
          simp only [Value.slice.injEq, Option.some.injEq, Addr.mk.injEq] at hrun2
          right
          omega
    rcases hown'.2 with ⟨rfl, h0⟩ | ⟨g, cap, cur, rfl, hr⟩
    · refine ⟨none, 0, w', ?_, ?_, hK, .inl ?_⟩
      · rw [hrun, h0]
      · unfold Row
        rw [h0]
        rw [h0] at hown'
        exact hown'
      · have := (hiff.1 rfl).1
        simp only [Value.slice.injEq] at this
        exact this.1.symm
    · exact ⟨some ⟨g, 0, none⟩, cap, w', hrun, hown', hK, (hN g cap rfl).imp id (fun h => ⟨g, rfl, h⟩)⟩
end Go.Proofs.YtilikjfjbnabfaaGreatDoor

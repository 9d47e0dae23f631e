/- HeapRuns: the reference's Collect in its drawn region. -/
import Derived.Test.YtidnaednldcdfaaGreatDoorGeT
namespace Go.Proofs.YtidnaednldcdfaaGreatDoor
open Go.RowKit

/-- The one among the first n operations that writes no slot. -/
def noneAt (ops : Array Oper) (n m : Nat) : Bool := (List.range n).all fun i => i == m || ((ops[i]?).map (fun o => o.dst.isSome)).getD true
theorem noneAt_eq {ops : Array Oper} {n m i : Nat} {o : Oper} (h : noneAt ops n m = true) (hi : i < n) (ho : ops[i]? = some o) (hd : o.dst = none) : i = m := by
  unfold noneAt at h
  have h1 := List.all_eq_true.1 h i (List.mem_range.2 hi)
  rw [ho] at h1
  simpa [hd] using h1
/-- What the operations of 't, m := colloquyref12.Collect(r, all(x.Roots))' give. -/
def RgF (gx : Nat) (rc0 : Value) (rA : Option Addr) (rn rc : Nat) (d : Int) (j : Nat) (v : Value) (_w : World) : Prop := match j with
  | 0 => v = rc0
  | 1 => v = .pointer (some ⟨gx, 11, none⟩)
  | 2 => v = .slice rA rn rc
  | 5 => ∃ x, v = .tuple #[x, .int .i64 d]
  | 7 => v = .int .i64 d
  | 10 => v = .int .i64 d
  | _ => True
/-- The new block is none that is read. -/
def NG (b : Bool) (v : Value) (r : RV) : Prop := b = true → ∀ g, v = .pointer (some ⟨g, 0, none⟩) → ∀ k, RFp r k → k ≠ g
/-- What is stored, and not yet. -/
structure RgJ (w0 : World) (PR : RV → World → Prop) (rs : List Ob.Val) (d : Int) (f : Nat → Bool) (s : Nat → Value) (w : World) : Prop where
  gr : Kept (fun k => w0.heap.size ≤ k) w0 w
  o4 : f 4 = true → f 3 = true
  o5 : f 5 = true → f 4 = true
  o6 : f 6 = true → f 5 = true
  o9 : f 9 = true → f 6 = true ∧ f 8 = true
  j3 : f 3 = true → f 9 = false → ∃ A c, s 3 = .slice A rs.length c ∧ ValsAt w A rs
  j4 : f 4 = true → f 9 = false → ∃ r, s 4 = .tuple #[.agg (rvC r), .int .i64 d] ∧ PR r w ∧ NG (f 8) (s 8) r
  j5 : f 5 = true → f 9 = false → ∃ r, s 5 = .tuple #[.agg (rvC r), .int .i64 d] ∧ PR r w ∧ NG (f 8) (s 8) r
  j6 : f 6 = true → f 9 = false → ∃ r, s 6 = .agg (rvC r) ∧ PR r w ∧ NG (f 8) (s 8) r
  j8 : f 8 = true → ∃ g, s 8 = .pointer (some ⟨g, 0, none⟩) ∧ w0.heap.size ≤ g ∧ (f 9 = false → Blk w g 53 #[.slice none 0 0, .int .i64 0, .slice none 0 0, .slice none 0 0, .slice none 0 0]) ∧ (f 9 = true → ∃ r, Blk w g 53 (rvC r) ∧ PR r w)
section
variable {w0 w w' : World} {PR : RV → World → Prop} {rs : List Ob.Val} {d : Int} {f : Nat → Bool} {s : Nat → Value}
theorem RgJ.start (s : Nat → Value) (h : Kept (fun k => w0.heap.size ≤ k) w0 w) : RgJ w0 PR rs d (fun _ => false) s w :=
  ⟨h, (fun h => by cases h), (fun h => by cases h), (fun h => by cases h), (fun h => by cases h), (fun h => by cases h), (fun h => by cases h), (fun h => by cases h), (fun h => by cases h), (fun h => by cases h)⟩
theorem RgJ.same {s' : Nat → Value} (h : RgJ w0 PR rs d f s w) (hs : ∀ j, j < 11 → s j = s' j) : RgJ w0 PR rs d f s' w :=
  ⟨h.gr, h.o4, h.o5, h.o6, h.o9, by rw [← hs 3 (by decide)]; exact h.j3, by rw [← hs 4 (by decide), ← hs 8 (by decide)]; exact h.j4, by rw [← hs 5 (by decide), ← hs 8 (by decide)]; exact h.j5, by rw [← hs 6 (by decide), ← hs 8 (by decide)]; exact h.j6, by rw [← hs 8 (by decide)]; exact h.j8⟩
theorem RgJ.grew (h : RgJ w0 PR rs d f s w) (hP : ∀ r w w', PR r w → Grew w w' → PR r w') (hg : Grew w w') : RgJ w0 PR rs d f s w' :=
  ⟨(May.kept _).trans h.gr (Kept.of_grew hg), h.o4, h.o5, h.o6, h.o9,
    fun a b => by obtain ⟨A, c, h1, h2⟩ := h.j3 a b; exact ⟨A, c, h1, h2.grew hg⟩,
    fun a b => by obtain ⟨r, h1, h2, h3⟩ := h.j4 a b; exact ⟨r, h1, hP _ _ _ h2 hg, h3⟩,
    fun a b => by obtain ⟨r, h1, h2, h3⟩ := h.j5 a b; exact ⟨r, h1, hP _ _ _ h2 hg, h3⟩,
    fun a b => by obtain ⟨r, h1, h2, h3⟩ := h.j6 a b; exact ⟨r, h1, hP _ _ _ h2 hg, h3⟩,
    fun a => by
      obtain ⟨g, h1, h2, h3, h4⟩ := h.j8 a
      exact ⟨g, h1, h2, fun b => (h3 b).grew hg, fun b => by obtain ⟨r, h5, h6⟩ := h4 b; exact ⟨r, h5.grew hg, hP _ _ _ h6 hg⟩⟩⟩
theorem RgJ.pure (h : RgJ w0 PR rs d f s w) (i : Nat) (v : Value) (h3 : 3 ≠ i) (h4 : 4 ≠ i) (h5 : 5 ≠ i) (h6 : 6 ≠ i) (h8 : 8 ≠ i) (h9 : 9 ≠ i) : RgJ w0 PR rs d (updF f i) (updV s i v) w := by
  refine ⟨h.gr, ?_, ?_, ?_, ?_, ?_, ?_, ?_, ?_, ?_⟩ <;> simp only [updF_ne h3, updF_ne h4, updF_ne h5, updF_ne h6, updF_ne h8, updF_ne h9, updV_ne h3, updV_ne h4, updV_ne h5, updV_ne h6, updV_ne h8]
  · exact h.o4
  · exact h.o5
  · exact h.o6
  · exact h.o9
  · exact h.j3
  · exact h.j4
  · exact h.j5
  · exact h.j6
  · exact h.j8
theorem RgJ.no9 (h : RgJ w0 PR rs d f s w) (h6 : f 6 = false) : f 9 = false := by
  cases e : f 9
  · rfl
  · rw [(h.o9 e).1] at h6; cases h6
theorem RgJ.no6 (h : RgJ w0 PR rs d f s w) (h5 : f 5 = false) : f 6 = false := by
  cases e : f 6
  · rfl
  · rw [h.o6 e] at h5; cases h5
theorem RgJ.no5 (h : RgJ w0 PR rs d f s w) (h4 : f 4 = false) : f 5 = false := by
  cases e : f 5
  · rfl
  · rw [h.o5 e] at h4; cases h4
theorem RgJ.no4 (h : RgJ w0 PR rs d f s w) (h3 : f 3 = false) : f 4 = false := by
  cases e : f 4
  · rfl
  · rw [h.o4 e] at h3; cases h3
theorem RgJ.set3 (h : RgJ w0 PR rs d f s w) (h3 : f 3 = false) {A : Option Addr} {c : Nat} (hv : ValsAt w A rs) : RgJ w0 PR rs d (updF f 3) (updV s 3 (.slice A rs.length c)) w := by
  have h4 := h.no4 h3
  have h5 := h.no5 h4
  have h6 := h.no6 h5
  have h9 := h.no9 h6
  refine ⟨h.gr, fun _ => updF_at, ?_, ?_, ?_, fun _ _ => ⟨A, c, updV_at, hv⟩, ?_, ?_, ?_, ?_⟩ <;> simp only [updF_ne (show 4 ≠ 3 by decide), updF_ne (show 5 ≠ 3 by decide), updF_ne (show 6 ≠ 3 by decide), updF_ne (show 8 ≠ 3 by decide), updF_ne (show 9 ≠ 3 by decide), updV_ne (show 4 ≠ 3 by decide), updV_ne (show 5 ≠ 3 by decide), updV_ne (show 6 ≠ 3 by decide), updV_ne (show 8 ≠ 3 by decide)]
  · exact h.o5
  · exact h.o6
  · exact h.o9
  · exact h.j4
  · exact h.j5
  · exact h.j6
  · exact h.j8
theorem RgJ.set4 (h : RgJ w0 PR rs d f s w) (h3 : f 3 = true) {r : RV} (hv : PR r w) (hn : NG (f 8) (s 8) r) : RgJ w0 PR rs d (updF f 4) (updV s 4 (.tuple #[.agg (rvC r), .int .i64 d])) w := by
  refine ⟨h.gr, fun _ => ?_, fun _ => updF_at, ?_, ?_, ?_, fun _ _ => ⟨r, updV_at, hv, by rw [updF_ne (by decide), updV_ne (by decide)]; exact hn⟩, ?_, ?_, ?_⟩ <;> simp only [updF_ne (show 3 ≠ 4 by decide), updF_ne (show 5 ≠ 4 by decide), updF_ne (show 6 ≠ 4 by decide), updF_ne (show 8 ≠ 4 by decide), updF_ne (show 9 ≠ 4 by decide), updV_ne (show 3 ≠ 4 by decide), updV_ne (show 5 ≠ 4 by decide), updV_ne (show 6 ≠ 4 by decide), updV_ne (show 8 ≠ 4 by decide)]
  · exact h3
  · exact h.o6
  · exact h.o9
  · exact h.j3
  · exact h.j5
  · exact h.j6
  · exact h.j8
theorem RgJ.set5 (h : RgJ w0 PR rs d f s w) (h4 : f 4 = true) {r : RV} (hv : PR r w) (hn : NG (f 8) (s 8) r) : RgJ w0 PR rs d (updF f 5) (updV s 5 (.tuple #[.agg (rvC r), .int .i64 d])) w := by
  refine ⟨h.gr, ?_, fun _ => ?_, fun _ => updF_at, ?_, ?_, ?_, fun _ _ => ⟨r, updV_at, hv, by rw [updF_ne (by decide), updV_ne (by decide)]; exact hn⟩, ?_, ?_⟩ <;> simp only [updF_ne (show 3 ≠ 5 by decide), updF_ne (show 4 ≠ 5 by decide), updF_ne (show 6 ≠ 5 by decide), updF_ne (show 8 ≠ 5 by decide), updF_ne (show 9 ≠ 5 by decide), updV_ne (show 3 ≠ 5 by decide), updV_ne (show 4 ≠ 5 by decide), updV_ne (show 6 ≠ 5 by decide), updV_ne (show 8 ≠ 5 by decide)]
  · exact h.o4
  · exact h4
  · exact h.o9
  · exact h.j3
  · exact h.j4
  · exact h.j6
  · exact h.j8
theorem RgJ.set6 (h : RgJ w0 PR rs d f s w) (h5 : f 5 = true) (h6 : f 6 = false) {r : RV} (hv : PR r w) (hn : NG (f 8) (s 8) r) : RgJ w0 PR rs d (updF f 6) (updV s 6 (.agg (rvC r))) w := by
  have h9 := h.no9 h6
  refine ⟨h.gr, ?_, ?_, fun _ => ?_, fun e => ?_, ?_, ?_, ?_, fun _ _ => ⟨r, updV_at, hv, by rw [updF_ne (by decide), updV_ne (by decide)]; exact hn⟩, ?_⟩ <;> simp only [updF_ne (show 3 ≠ 6 by decide), updF_ne (show 4 ≠ 6 by decide), updF_ne (show 5 ≠ 6 by decide), updF_ne (show 8 ≠ 6 by decide), updF_ne (show 9 ≠ 6 by decide), updV_ne (show 3 ≠ 6 by decide), updV_ne (show 4 ≠ 6 by decide), updV_ne (show 5 ≠ 6 by decide), updV_ne (show 8 ≠ 6 by decide)] at *
  · exact h.o4
  · exact h.o5
  · exact h5
  · rw [h9] at e; cases e
  · exact h.j3
  · exact h.j4
  · exact h.j5
  · exact h.j8
theorem RgJ.set8 (h : RgJ w0 PR rs d f s w) (h8 : f 8 = false) {g : Nat} (hg : w0.heap.size ≤ g) (hP : ∀ r, PR r w → ∀ k, RFp r k → k ≠ g) (hPs : ∀ r w w', PR r w → Grew w w' → PR r w') (hgr : Grew w w') (hb : Blk w' g 53 #[.slice none 0 0, .int .i64 0, .slice none 0 0, .slice none 0 0, .slice none 0 0]) : RgJ w0 PR rs d (updF f 8) (updV s 8 (.pointer (some ⟨g, 0, none⟩))) w' := by
  have h9 : f 9 = false := by
    cases e : f 9
    · rfl
    · rw [(h.o9 e).2] at h8; cases h8
  have hN : ∀ r, PR r w → NG (updF f 8 8) (updV s 8 (.pointer (some ⟨g, 0, none⟩)) 8) r := fun r hr _ g' e k hk => by
    rw [updV_at] at e
    cases e
    exact hP r hr k hk
  have n9 : updF f 8 9 = false := by rw [updF_ne (by decide)]; exact h9
  refine ⟨(May.kept _).trans h.gr (Kept.of_grew hgr), ?_, ?_, ?_, fun e => ?_, ?_, ?_, ?_, ?_, fun _ => ⟨g, updV_at, hg, fun _ => hb, fun e => ?_⟩⟩
  · rw [updF_ne (show 4 ≠ 8 by decide), updF_ne (show 3 ≠ 8 by decide)]; exact h.o4
  · rw [updF_ne (show 5 ≠ 8 by decide), updF_ne (show 4 ≠ 8 by decide)]; exact h.o5
  · rw [updF_ne (show 6 ≠ 8 by decide), updF_ne (show 5 ≠ 8 by decide)]; exact h.o6
  · rw [n9] at e; cases e
  · rw [updF_ne (show 3 ≠ 8 by decide), updF_ne (show 9 ≠ 8 by decide), updV_ne (show 3 ≠ 8 by decide)]
    intro a b
    obtain ⟨A, c, h1, h2⟩ := h.j3 a b
    exact ⟨A, c, h1, h2.grew hgr⟩
  · rw [updF_ne (show 4 ≠ 8 by decide), updF_ne (show 9 ≠ 8 by decide), updV_ne (show 4 ≠ 8 by decide)]
    intro a b
    obtain ⟨r, h1, h2, _⟩ := h.j4 a b
    exact ⟨r, h1, hPs _ _ _ h2 hgr, hN r h2⟩
  · rw [updF_ne (show 5 ≠ 8 by decide), updF_ne (show 9 ≠ 8 by decide), updV_ne (show 5 ≠ 8 by decide)]
    intro a b
    obtain ⟨r, h1, h2, _⟩ := h.j5 a b
    exact ⟨r, h1, hPs _ _ _ h2 hgr, hN r h2⟩
  · rw [updF_ne (show 6 ≠ 8 by decide), updF_ne (show 9 ≠ 8 by decide), updV_ne (show 6 ≠ 8 by decide)]
    intro a b
    obtain ⟨r, h1, h2, _⟩ := h.j6 a b
    exact ⟨r, h1, hPs _ _ _ h2 hgr, hN r h2⟩
  · rw [n9] at e; cases e
/-- The store. -/
theorem RgJ.set9 (h : RgJ w0 PR rs d f s w) (h6 : f 6 = true) (h8 : f 8 = true) {g : Nat} (hs : s 8 = .pointer (some ⟨g, 0, none⟩)) {r : RV} (hk : Kept (fun k => k = g) w w') (hb : Blk w' g 53 (rvC r)) (hv : PR r w') : RgJ w0 PR rs d (updF f 9) s w' := by
  obtain ⟨g', e1, hg, -⟩ := h.j8 h8
  rw [hs] at e1
  cases e1
  have n9 : updF f 9 9 = true := updF_at
  refine ⟨(May.kept _).trans h.gr (hk.mono (fun k _ e => by rw [e]; exact hg)), ?_, ?_, ?_, fun _ => ⟨?_, ?_⟩, fun _ e => ?_, fun _ e => ?_, fun _ e => ?_, fun _ e => ?_, fun _ => ⟨g, hs, hg, fun e => ?_, fun _ => ⟨r, hb, hv⟩⟩⟩
  · simp only [updF_ne (show 3 ≠ 9 by decide), updF_ne (show 4 ≠ 9 by decide)]; exact h.o4
  · simp only [updF_ne (show 4 ≠ 9 by decide), updF_ne (show 5 ≠ 9 by decide)]; exact h.o5
  · simp only [updF_ne (show 5 ≠ 9 by decide), updF_ne (show 6 ≠ 9 by decide)]; exact h.o6
  · rw [updF_ne (by decide)]; exact h6
  · rw [updF_ne (by decide)]; exact h8
  all_goals
    rw [n9] at e
    cases e
end
end Go.Proofs.YtidnaednldcdfaaGreatDoor

/- Stage 11: copies, stores and new rows of things of several cells. -/
import Derived.Test.YtcfknfiddadgbaaDoorObM
import Derived.Laws.CopyOwn
namespace Go.Proofs.YtcfknfiddadgbaaDoor
open Go.RowKit

/-- 'copy(dst, src)', elements of s cells, into a block that is known whole. -/
theorem run_copyS {P : Program} (s : Nat) (w : World) (dT sT ty elem : TypeId) (g o dLen dCap : Nat) (a : Addr) (sLen sCap : Nat) (vs : List Value) (t : TypeId) (cs : List Value)
    (hu : P.underlying dT = some (.slice elem)) (hs : (P.info? elem).map (·.size) = some s)
    (hg : Blk w g t vs.toArray) (hn : cs.length = Nat.min sLen dLen * s)
    (hsrc : ∀ j v, cs[j]? = some v → w.cell? (a.add j) = some v) (hfit : o + cs.length ≤ vs.length) (h1 : ∀ v ∈ cs, v.oneCell' = true) :
    ∃ w', (Builtin.copy_ #[dT, sT] ty #[.slice (some ⟨g, o, none⟩) dLen dCap, .slice (some a) sLen sCap]).run P w = .ok (goInt (Nat.min sLen dLen)) w' ∧ Blk w' g t (splice vs o cs).toArray ∧ Kept (fun k => k = g) w w' := by
  have hl := run_loadCells_list (P := P) w a cs hsrc
  have hst := run_storeCells_at P g o t cs 0 vs.toArray w hg (by simpa using hfit) h1
  refine ⟨w.setRow g ((vs.take o ++ cs ++ vs.drop (o + cs.length))).toArray, ?_, ?_, rfl, rfl, rfl, by simp [World.setRow], fun k hk hF => setRow_other w g k _ (fun h => hF h)⟩
  · cases hq : P.info? elem with
    | none => simp [hq] at hs
    | some i =>
      have hi : i.size = s := by simpa [hq] using hs
      simp only [Nat.add_zero] at hst
      simp [Builtin.copy_, run_underlying hu, Builtin.lenOf, Builtin.firstCells, sizeOf, typeInfo, hq, hi, ← hn, hl, hst]
  · have := setRow_heap w g vs.toArray (vs.take o ++ cs ++ vs.drop (o + cs.length)).toArray t _ hg
    unfold Blk
    rw [this]
    simp [splice]
theorem wpList_copyS {P : Program} {ops : Array Oper} {rest : List Oper} {p : Oper} {a : Act} {Q : Exit → Act → World → Prop} (s : Nat) (w : World) (hgd : p.guard = none) (d sr : Operand) (dT sT elem : TypeId)
    (ho : p.op = .call { callee := .builtin .copy, args := #[d, sr], argTypes := #[dT, sT] })
    (hu : P.underlying dT = some (.slice elem)) (hs : (P.info? elem).map (·.size) = some s)
    (g o dLen dCap : Nat) (ad : Addr) (sLen sCap : Nat) (hd : a.eval d = .slice (some ⟨g, o, none⟩) dLen dCap) (hsv : a.eval sr = .slice (some ad) sLen sCap)
    (vs : List Value) (t : TypeId) (cs : List Value) (hg : Blk w g t vs.toArray) (m : Nat) (hm : m = Nat.min sLen dLen) (hn : cs.length = m * s)
    (hsrc : ∀ j v, cs[j]? = some v → w.cell? (ad.add j) = some v) (hfit : o + cs.length ≤ vs.length) (h1 : ∀ v ∈ cs, v.oneCell' = true)
    (h : ∀ w', Hid (Blk w' g t (splice vs o cs).toArray) → Kept (fun k => k = g) w w' → wpList P ops Q rest (a.put p.dst (.int .i64 (m : Nat))) w') : wpList P ops Q (p :: rest) a w := by
  refine wpList_plain hgd fun K hK => ?_
  subst hm
  obtain ⟨w', hrun, r1, r2⟩ := run_copyS (P := P) s w dT sT p.type elem g o dLen dCap ad sLen sCap vs t cs hu hs hg hn hsrc hfit h1
  unfold Oper.wp
  simp only [execOp, ho, resolve, invoke, builtin, Sem.run_bind, Sem.run_pure, Result.andThen_ok, List.map_toArray, List.map_cons, List.map_nil, hd, hsv, hrun]
  exact hK _ _ (h w' r1 r2)
/-- Nothing to copy. -/
theorem run_copy0 {P : Program} {w : World} (s : Nat) (dT sT ty elem : TypeId) (hu : P.underlying dT = some (.slice elem)) (hs : (P.info? elem).map (·.size) = some s)
    (dp sp : Option Addr) (dLen dCap sLen sCap : Nat) (hn : Nat.min sLen dLen = 0) : (Builtin.copy_ #[dT, sT] ty #[.slice dp dLen dCap, .slice sp sLen sCap]).run P w = .ok (goInt 0) w := by
  cases hq : P.info? elem with
  | none => simp [hq] at hs
  | some i =>
    have hi : i.size = s := by simpa [hq] using hs
    cases sp <;> cases dp <;> simp [Builtin.copy_, run_underlying hu, Builtin.lenOf, Builtin.firstCells, sizeOf, typeInfo, hq, hn, loadCells, loadCellsFrom, storeCells]
/-- A whole new row filled: 'copy(f, src)', as long as each other. -/
theorem run_copyA {P : Program} (s : Nat) (w : World) (dT sT ty elem : TypeId) (g m c : Nat) (A : Option Addr) (vs cs : List Value) (t : TypeId)
    (hu : P.underlying dT = some (.slice elem)) (hs : (P.info? elem).map (·.size) = some s) (hg : Blk w g t vs.toArray) (hn : cs.length = m * s) (hv : vs.length = m * s)
    (hsrc : 0 < m → ∃ ad, A = some ad ∧ ∀ j v, cs[j]? = some v → w.cell? (ad.add j) = some v) (h1 : ∀ v ∈ cs, v.oneCell' = true) :
    ∃ w', (Builtin.copy_ #[dT, sT] ty #[.slice (some ⟨g, 0, none⟩) m m, .slice A m c]).run P w = .ok (.int .i64 ((m : Nat) : Int)) w' ∧ Blk w' g t cs.toArray ∧ Kept (fun k => k = g) w w' := by
  rcases Nat.eq_zero_or_pos m with h0 | h0
  · subst h0
    have e1 : cs = [] := List.eq_nil_of_length_eq_zero (by omega)
    have e2 : vs = [] := List.eq_nil_of_length_eq_zero (by omega)
    subst e1 e2
    exact ⟨w, run_copy0 s dT sT ty elem hu hs _ _ _ _ _ _ (by simp), hg, Kept.refl _ _⟩
  · obtain ⟨ad, rfl, ha⟩ := hsrc h0
    obtain ⟨w', h2, h3, h4⟩ := run_copyS (P := P) s w dT sT ty elem g 0 m m ad m c vs t cs hu hs hg (by simp [hn]) ha (by omega) h1
    refine ⟨w', by rw [h2]; simp [goInt], ?_, h4⟩
    rwa [show splice vs 0 cs = cs by unfold splice; rw [List.take_zero, List.nil_append, Nat.zero_add, show cs.length = vs.length by omega, List.drop_length, List.append_nil]] at h3
/-- 'make([]T, n)', whatever T. -/
theorem make_blk {P : Program} {t e : TypeId} {z : Value} {s b : Nat} (ht : P.underlying t = some (.slice e)) (he : (P.info? e).map (fun i => (i.zero, i.size, i.bytes)) = some (some z, s, b)) (hb : b ≤ 100)
    (n : Nat) (hn : n ≤ 1048576) (W : World) : ∃ (vs : List Value) (w' : World), vs.length = n * s ∧ (Instr.makeSlice t (.int .i64 n) (.int .i64 n)).run P W = .ok (.slice (some ⟨W.heap.size, 0, none⟩) n n) w' ∧ Blk w' W.heap.size e vs.toArray ∧ Grew W w' ∧ w'.heap.size = W.heap.size + 1 := by
  obtain ⟨i, hi, hz0, hz1, hz2⟩ := info_parts he
  have hm : n * b ≤ n * 100 := Nat.mul_le_mul_left n hb
  have hm2 : (b : Int) * (n : Int) ≤ 100 * n := by rw [← Int.natCast_mul, Nat.mul_comm]; omega
  have hr := run_make (P := P) W t e i z ht hi hz0 .i64 .i64 n n (by omega) (by omega) (by rw [hz2]; omega) (by omega)
  simp only [Int.toNat_natCast] at hr
  refine ⟨(madeCells z.cells (n * i.size)).toList, _, by simp [size_madeCells, hz1], hr, ?_, (Grew.refl W).alloc _, by simp⟩
  have := Blk.new W e (madeCells z.cells (n * i.size))
  simpa using this
/-- A store of several cells into a block that is known whole. -/
theorem run_storeS {P : Program} (ty : TypeId) (w : World) (g o : Nat) (t : TypeId) (vs cs : List Value) (hg : Blk w g t vs.toArray) (hi : (P.info? ty).map (·.size) = some cs.length) (hfit : o + cs.length ≤ vs.length) (h1 : ∀ v ∈ cs, v.oneCell' = true) (hc : (Value.agg cs.toArray).cells = cs.toArray) :
    ∃ w', (Instr.storeAt ty (.pointer (some ⟨g, o, none⟩)) (.agg cs.toArray)).run P w = .ok () w' ∧ Blk w' g t (splice vs o cs).toArray ∧ Kept (fun k => k = g) w w' := by
  have hst := run_storeCells_at P g o t cs 0 vs.toArray w hg (by simpa using hfit) h1
  refine ⟨w.setRow g ((vs.take o ++ cs ++ vs.drop (o + cs.length))).toArray, ?_, ?_, rfl, rfl, rfl, by simp [World.setRow], fun k hk hF => setRow_other w g k _ (fun h => hF h)⟩
  · cases hq : P.info? ty with
    | none => simp [hq] at hi
    | some i =>
      have hi' : i.size = cs.length := by simpa [hq] using hi
      simp only [Nat.add_zero] at hst
      rw [List.append_assoc] at hst
      simp [Instr.storeAt, Instr.sureAddr, storeVar, sizeOf, typeInfo, hq, hi', hc, hst]
  · have := setRow_heap w g vs.toArray (vs.take o ++ cs ++ vs.drop (o + cs.length)).toArray t _ hg
    unfold Blk
    rw [this]
    simp [splice]
theorem wpList_storeS {P : Program} {ops : Array Oper} {rest : List Oper} {p : Oper} {a : Act} {Q : Exit → Act → World → Prop} (w : World) (hgd : p.guard = none) (s x : Operand) (ty : TypeId) (ho : p.op = .store ty s x) (hd : p.dst = none) (g o : Nat) (t : TypeId) (vs cs : List Value)
    (hs : a.eval s = .pointer (some ⟨g, o, none⟩)) (hx : a.eval x = .agg cs.toArray) (hg : Blk w g t vs.toArray) (hi : (P.info? ty).map (·.size) = some cs.length) (hfit : o + cs.length ≤ vs.length) (h1 : ∀ v ∈ cs, v.oneCell' = true) (hc : (Value.agg cs.toArray).cells = cs.toArray)
    (h : ∀ w', Hid (Blk w' g t (splice vs o cs).toArray) → Kept (fun k => k = g) w w' → wpList P ops Q rest a w') : wpList P ops Q (p :: rest) a w := by
  refine wpList_plain hgd fun K hK => ?_
  obtain ⟨w', hrun, r1, r2⟩ := run_storeS (P := P) ty w g o t vs cs hg hi hfit h1 hc
  unfold Oper.wp
  have hfin := hK a w' (h w' r1 r2)
  simp only [execOp, ho, hs, hx, Sem.run_bind, Sem.run_pure, hrun, Result.andThen_ok]
  show K (a.put p.dst undef) w'
  rw [hd]
  exact hfin
theorem Blk.put4 {w : World} {g : Nat} {t : TypeId} {a0 a1 a2 a3 : Value} (h : Blk w g t #[a0, a1, a2, a3]) (c0 c1 c2 c3 : Value) :
    Blk ((((w.setCell ⟨g, 0, none⟩ c0).setCell ⟨g, 1, none⟩ c1).setCell ⟨g, 2, none⟩ c2).setCell ⟨g, 3, none⟩ c3) g t #[c0, c1, c2, c3] := by
  have := (((h.put 0 c0).put 1 c1).put 2 c2).put 3 c3
  simpa using this
theorem kept4 {F : Nat → Prop} {w w2 : World} {g : Nat} (h : Kept F w w2) (hg : g < w.heap.size → F g) (c0 c1 c2 c3 : Value) :
    Kept F w ((((w2.setCell ⟨g, 0, none⟩ c0).setCell ⟨g, 1, none⟩ c1).setCell ⟨g, 2, none⟩ c2).setCell ⟨g, 3, none⟩ c3) :=
  (((h.setCell (p := ⟨g, 0, none⟩) hg c0).setCell (p := ⟨g, 1, none⟩) hg c1).setCell (p := ⟨g, 2, none⟩) hg c2).setCell (p := ⟨g, 3, none⟩) hg c3
/-- What lies in other blocks. -/
theorem Blk.far4 {w : World} {g k : Nat} {t : TypeId} {cs : Array Value} (h : Blk w k t cs) (hk : k ≠ g) (c0 c1 c2 c3 : Value) :
    Blk ((((w.setCell ⟨g, 0, none⟩ c0).setCell ⟨g, 1, none⟩ c1).setCell ⟨g, 2, none⟩ c2).setCell ⟨g, 3, none⟩ c3) k t cs :=
  (((h.far (p := ⟨g, 0, none⟩) hk c0).far (p := ⟨g, 1, none⟩) hk c1).far (p := ⟨g, 2, none⟩) hk c2).far (p := ⟨g, 3, none⟩) hk c3
/-- Changes to blocks made since. -/
theorem Kept.up {w w' : World} (h : Kept (fun k => w.heap.size ≤ k) w w') : Grew w w' := h.grew (Grew.refl w) (fun _ h => h)
theorem splice_all {α : Type} (vs cs : List α) (h : vs.length = cs.length) : splice vs 0 cs = cs := by
  unfold splice
  rw [List.take_zero, List.nil_append, Nat.zero_add, ← h, List.drop_length, List.append_nil]
theorem flatMap_length {α : Type} {f : α → List Value} {k : Nat} (hk : ∀ x, (f x).length = k) (l : List α) : (l.flatMap f).length = l.length * k := by
  induction l with
  | nil => simp
  | cons x r ih => rw [List.flatMap_cons, List.length_append, hk, ih, List.length_cons, Nat.add_mul]; omega
/-- One of them replaced. -/
theorem splice_flat {α : Type} {f : α → List Value} {k : Nat} (hk : ∀ x, (f x).length = k) : ∀ (l : List α) (i : Nat) (x : α), i < l.length → splice (l.flatMap f) (i * k) (f x) = (l.set i x).flatMap f
  | [], i, x, h => by simp at h
  | y :: r, 0, x, _ => by
    have h1 : (f y).length = (f x).length := by rw [hk, hk]
    simp only [splice, Nat.zero_mul, List.take_zero, List.nil_append, Nat.zero_add, List.flatMap_cons, List.set_cons_zero]
    rw [← h1, List.drop_left]
  | y :: r, i + 1, x, h => by
    have ih := splice_flat hk r i x (by simpa using h)
    rw [List.set_cons_succ, List.flatMap_cons, List.flatMap_cons, ← ih]
    unfold splice
    have e1 : (i + 1) * k = (f y).length + i * k := by rw [hk, Nat.add_mul]; omega
    rw [e1, List.take_length_add_append, Nat.add_assoc, List.drop_length_add_append, List.append_assoc]
end Go.Proofs.YtcfknfiddadgbaaDoor

/- Stage 8: slices.Repeat: general words on copies within a block. -/
import Derived.Test.YtilikjfjbnabfaaGreatDoorFl4
import Derived.Laws.CopyOwn
namespace Go.Proofs.YtilikjfjbnabfaaGreatDoor
open Go.RowKit

/-- 'copy(dst, src)', elements of s cells, into a block that is known whole. -/
theorem run_copyS {P : Program} (s : Nat) (w : World) (dT sT ty elem : TypeId) (g o dLen dCap : Nat) (a : Addr) (sLen sCap : Nat) (vs : List Value) (t : TypeId) (cs : List Value)
    (hu : P.underlying dT = some (.slice elem)) (hs : (P.info? elem).map (·.size) = some s)
    (hg : Blk w g t vs.toArray) (hn : cs.length = Nat.min sLen dLen * s)
    (hsrc : ∀ j v, cs[j]? = some v → w.cell? (a.add j) = some v) (hfit : o + cs.length ≤ vs.length) (h1 : ∀ v ∈ cs, v.oneCell' = true) :
    ∃ w', (Builtin.copy_ #[dT, sT] ty #[.slice (some ⟨g, o, none⟩) dLen dCap, .slice (some a) sLen sCap]).run P w = .ok (goInt (Nat.min sLen dLen)) w' ∧ Blk w' g t (splice vs o cs).toArray ∧ Kept (fun k => k = g) w w' := by
  have hl := run_loadCells_list (P := P) w a cs hsrc
  have hst := run_storeCells_at P g o t cs 0 vs.toArray w hg (by simpa using hfit) h1
  refine ⟨w.setRow g ((vs.take o ++ cs ++ vs.drop (o + cs.length))).toArray, ?_, ?_, rfl, rfl, rfl, by simp [World.setRow], fun k hk hF => setRow_other w g k _ (fun h => hF h)⟩
  · cases hq : P.info? elem with
    | none => simp [hq] at hs
    | some i =>
      have hi : i.size = s := by simpa [hq] using hs
      simp only [Nat.add_zero] at hst
      simp [Builtin.copy_, run_underlying hu, Builtin.lenOf, Builtin.firstCells, sizeOf, typeInfo, hq, hi, ← hn, hl, hst]
  · have := setRow_heap w g vs.toArray (vs.take o ++ cs ++ vs.drop (o + cs.length)).toArray t _ hg
    unfold Blk
    rw [this]
    simp [splice]
theorem wpList_copyS {P : Program} {ops : Array Oper} {rest : List Oper} {p : Oper} {a : Act} {Q : Exit → Act → World → Prop} (s : Nat) (w : World) (hgd : p.guard = none) (d sr : Operand) (dT sT elem : TypeId)
    (ho : p.op = .call { callee := .builtin .copy, args := #[d, sr], argTypes := #[dT, sT] })
    (hu : P.underlying dT = some (.slice elem)) (hs : (P.info? elem).map (·.size) = some s)
    (g o dLen dCap : Nat) (ad : Addr) (sLen sCap : Nat) (hd : a.eval d = .slice (some ⟨g, o, none⟩) dLen dCap) (hsv : a.eval sr = .slice (some ad) sLen sCap)
    (vs : List Value) (t : TypeId) (cs : List Value) (hg : Blk w g t vs.toArray) (m : Nat) (hm : m = Nat.min sLen dLen) (hn : cs.length = m * s)
    (hsrc : ∀ j v, cs[j]? = some v → w.cell? (ad.add j) = some v) (hfit : o + cs.length ≤ vs.length) (h1 : ∀ v ∈ cs, v.oneCell' = true)
    (h : ∀ w', Hid (Blk w' g t (splice vs o cs).toArray) → Kept (fun k => k = g) w w' → wpList P ops Q rest (a.put p.dst (.int .i64 (m : Nat))) w') : wpList P ops Q (p :: rest) a w := by
  refine wpList_plain hgd fun K hK => ?_
  subst hm
  obtain ⟨w', hrun, r1, r2⟩ := run_copyS (P := P) s w dT sT p.type elem g o dLen dCap ad sLen sCap vs t cs hu hs hg hn hsrc hfit h1
  unfold Oper.wp
  simp only [execOp, ho, resolve, invoke, builtin, Sem.run_bind, Sem.run_pure, Result.andThen_ok, List.map_toArray, List.map_cons, List.map_nil, hd, hsv, hrun]
  exact hK _ _ (h w' r1 r2)
theorem step_copyS {P : Program} {ops : Array Oper} {p : Oper} {a : Act} {w : World} {K : Act → World → Prop} {Q : Exit → Act → World → Prop} {E : Prop} (s : Nat) (hgd : p.guard = none) (d sr : Operand) (dT sT elem : TypeId)
    (ho : p.op = .call { callee := .builtin .copy, args := #[d, sr], argTypes := #[dT, sT] })
    (hu : P.underlying dT = some (.slice elem)) (hs : (P.info? elem).map (·.size) = some s)
    (g o dLen dCap : Nat) (ad : Addr) (sLen sCap : Nat) (hd : a.eval d = .slice (some ⟨g, o, none⟩) dLen dCap) (hsv : a.eval sr = .slice (some ad) sLen sCap)
    (vs : List Value) (t : TypeId) (cs : List Value) (hg : Blk w g t vs.toArray) (m : Nat) (hm : m = Nat.min sLen dLen) (hn : cs.length = m * s)
    (hsrc : ∀ j v, cs[j]? = some v → w.cell? (ad.add j) = some v) (hfit : o + cs.length ≤ vs.length) (h1 : ∀ v ∈ cs, v.oneCell' = true)
    (h : ∀ w', Hid (Blk w' g t (splice vs o cs).toArray) → Kept (fun k => k = g) w w' → K (a.put p.dst (.int .i64 (m : Nat))) w') :
    if Region.wanted p (yielded ops a.tmps) = true then Oper.wp P p a w K Q else E := by
  have hw : Region.wanted p (yielded ops a.tmps) = true := by simp [Region.wanted, hgd]
  rw [if_pos hw]
  subst hm
  obtain ⟨w', hrun, r1, r2⟩ := run_copyS (P := P) s w dT sT p.type elem g o dLen dCap ad sLen sCap vs t cs hu hs hg hn hsrc hfit h1
  unfold Oper.wp
  simp only [execOp, ho, resolve, invoke, builtin, Sem.run_bind, Sem.run_pure, Result.andThen_ok, List.map_toArray, List.map_cons, List.map_nil, hd, hsv, hrun]
  exact h w' r1 r2
/-- 'make([]T, n)', whatever T. -/
theorem make_blk {P : Program} {t e : TypeId} {z : Value} {s b : Nat} (ht : P.underlying t = some (.slice e)) (he : (P.info? e).map (fun i => (i.zero, i.size, i.bytes)) = some (some z, s, b)) (hb : b ≤ 100)
    (n : Nat) (hn : n ≤ 1048576) (W : World) : ∃ (vs : List Value) (w' : World), vs.length = n * s ∧ (Instr.makeSlice t (.int .i64 n) (.int .i64 n)).run P W = .ok (.slice (some ⟨W.heap.size, 0, none⟩) n n) w' ∧ Blk w' W.heap.size e vs.toArray ∧ Grew W w' ∧ w'.heap.size = W.heap.size + 1 := by
  obtain ⟨i, hi, hz0, hz1, hz2⟩ := info_parts he
  have hm : n * b ≤ n * 100 := Nat.mul_le_mul_left n hb
  have hm2 : (b : Int) * (n : Int) ≤ 100 * n := by rw [← Int.natCast_mul, Nat.mul_comm]; omega
  have hr := run_make (P := P) W t e i z ht hi hz0 .i64 .i64 n n (by omega) (by omega) (by rw [hz2]; omega) (by omega)
  simp only [Int.toNat_natCast] at hr
  refine ⟨(madeCells z.cells (n * i.size)).toList, _, by simp [size_madeCells, hz1], hr, ?_, (Grew.refl W).alloc _, by simp⟩
  have := Blk.new W e (madeCells z.cells (n * i.size))
  simpa using this
/-- As far as copies of xs have come. -/
def Filled (xs vs : List Value) (n f : Nat) : Prop := vs.length = n * xs.length ∧ ∀ j, j < f * xs.length → vs[j]? = xs[j % xs.length]?
theorem splice_get {α : Type} (vs cs : List α) (o j : Nat) (h : o + cs.length ≤ vs.length) : (splice vs o cs)[j]? = if j < o then vs[j]? else if j < o + cs.length then cs[j - o]? else vs[j]? := by
  unfold splice
  have hl : (vs.take o).length = o := by rw [List.length_take]; omega
  by_cases h1 : j < o
  · rw [if_pos h1, List.getElem?_append_left (by omega), List.getElem?_take_of_lt h1]
  · rw [if_neg h1, List.getElem?_append_right (by omega), hl]
    by_cases h2 : j < o + cs.length
    · rw [if_pos h2, List.getElem?_append_left (by omega)]
    · rw [if_neg h2, List.getElem?_append_right (by omega), List.getElem?_drop]
      congr 1
      omega
theorem Filled.first {xs vs : List Value} {n : Nat} (h : vs.length = n * xs.length) (hn : 1 ≤ n) : Filled xs (splice vs 0 xs) n 1 := by
  have h1 : 1 * xs.length ≤ n * xs.length := Nat.mul_le_mul_right _ hn
  have hf : 0 + xs.length ≤ vs.length := by omega
  refine ⟨by rw [length_splice _ _ _ hf, h], fun j hj => ?_⟩
  rw [splice_get _ _ _ _ hf, if_neg (by omega), if_pos (by omega), Nat.sub_zero, Nat.mod_eq_of_lt (by omega)]
theorem Filled.next {xs vs : List Value} {n f : Nat} (h : Filled xs vs n f) (m : Nat) (hm : m ≤ f) (hn : f + m ≤ n) : Filled xs (splice vs (f * xs.length) (vs.take (m * xs.length))) n (f + m) := by
  have h0 : (f + m) * xs.length ≤ n * xs.length := Nat.mul_le_mul_right _ hn
  have h1 : (f + m) * xs.length = f * xs.length + m * xs.length := Nat.add_mul _ _ _
  have h2 : m * xs.length ≤ f * xs.length := Nat.mul_le_mul_right _ hm
  have hl : (vs.take (m * xs.length)).length = m * xs.length := by rw [List.length_take, h.1]; omega
  have hf : f * xs.length + (vs.take (m * xs.length)).length ≤ vs.length := by rw [hl, h.1]; omega
  refine ⟨by rw [length_splice _ _ _ hf, h.1], fun j hj => ?_⟩
  rw [splice_get _ _ _ _ hf, hl]
  by_cases h3 : j < f * xs.length
  · rw [if_pos h3]; exact h.2 j h3
  · rw [if_neg h3, if_pos (by omega), List.getElem?_take_of_lt (by omega), h.2 _ (by omega)]
    congr 1
    conv => rhs; rw [show j = (j - f * xs.length) + f * xs.length by omega, Nat.add_mul_mod_self_right]
theorem flatten_get (xs : List Value) (hx : 0 < xs.length) : ∀ (n j : Nat), j < n * xs.length → ((List.replicate n xs).flatten)[j]? = xs[j % xs.length]?
  | 0, j, h => by omega
  | n + 1, j, h => by
    rw [List.replicate_succ, List.flatten_cons]
    rcases Nat.lt_or_ge j xs.length with h1 | h1
    · rw [List.getElem?_append_left h1, Nat.mod_eq_of_lt h1]
    · rw [List.getElem?_append_right h1, flatten_get xs hx n (j - xs.length) (by rw [Nat.add_mul] at h; omega)]
      congr 1
      rw [Nat.mod_eq_sub_mod h1]
theorem Filled.all {xs vs : List Value} {n : Nat} (hx : 0 < xs.length) (h : Filled xs vs n n) : vs = (List.replicate n xs).flatten := by
  have hl : ((List.replicate n xs).flatten).length = n * xs.length := by simp
  apply List.ext_getElem?
  intro j
  by_cases hj : j < n * xs.length
  · rw [h.2 j hj, flatten_get xs hx n j hj]
  · rw [List.getElem?_eq_none (by rw [h.1]; omega), List.getElem?_eq_none (by omega)]
end Go.Proofs.YtilikjfjbnabfaaGreatDoor

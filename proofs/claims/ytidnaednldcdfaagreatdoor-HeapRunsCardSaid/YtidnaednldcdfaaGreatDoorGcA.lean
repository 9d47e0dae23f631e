/- Parts of elder texts that this layer needs, joined: XHmM XHmN XHmA XHmB XHmC XHmD XHmE. -/
import Derived.Test.YtidnaednldcdfaaGreatDoorHpR
import Derived.Test.YtidnaednldcdfaaGreatDoorGaA
import Derived.Test.YtidnaednldcdfaaGreatDoorZNum
namespace Go.Proofs.YtidnaednldcdfaaGreatDoor
open Go.RowKit

theorem Blk.ty {w : World} {g : Nat} {t t' : TypeId} {cs cs' : Array Value} (h : Blk w g t cs) (h' : Blk w g t' cs') : t = t' ∧ cs = cs' := by
  unfold Blk at h h'
  rw [h] at h'
  simp only [Option.some.injEq, Obj.cells.injEq] at h'
  exact ⟨h'.2.1, h'.1⟩
theorem Row.blkAt {w : World} {B : Nat} {e : TypeId} {s : Nat} {A : Option Addr} {n c : Nat} {vs : List Value} (h : Row w B e s A n c vs) {k : Nat} (hk : AtRow A k) : ∃ cs, Blk w k e cs := by
  obtain ⟨ad, rfl, rfl⟩ := hk
  rcases h.2 with ⟨h1, h2⟩ | ⟨g, cap, cur, hv, hb, hh, hr⟩
  · cases h1
  · simp only [Value.slice.injEq, Option.some.injEq] at hv
    obtain ⟨rfl, _, _⟩ := hv
    exact ⟨_, hh⟩
theorem Row.base {w : World} {B B' : Nat} {e : TypeId} {s : Nat} {A : Option Addr} {n c : Nat} {vs : List Value} (h : Row w B e s A n c vs) (hB : ∀ k, AtRow A k → B' ≤ k) : Row w B' e s A n c vs := by
  refine ⟨h.1, ?_⟩
  rcases h.2 with h1 | ⟨g, cap, cur, hv, hb, hr⟩
  · exact .inl h1
  · refine .inr ⟨g, cap, cur, hv, hB g ⟨⟨g, 0, none⟩, ?_, rfl⟩, hr⟩
    simp only [Value.slice.injEq] at hv
    exact hv.1
/-- An object in its slot: its block, its fields' row. -/
structure SX where
  p : Nat
  h : Int
  o : Ob.Obj
  A : Option Addr
  c : Nat
def sxC (i : Nat) (x : SX) : Array Value := #[.int .i64 (i : Int), .int .i64 x.h, .int .i64 x.o.cls, .int .i64 x.o.lev, .slice x.A x.o.f.length x.c, .string x.o.b]
def slotV : Option SX → Value
  | none => .pointer none
  | some x => .pointer (some ⟨x.p, 0, none⟩)
theorem slotV_one (x : Option SX) : (slotV x).oneCell' = true := by cases x <;> rfl
/-- A heap: its cells in words. -/
structure HV where
  g : Nat
  U : Option Addr
  cu : Nat
  up : List Nat
  room : Int
  q : Nat → Int
  us : Nat → Int
  cn : Nat → Int
  S : Option Addr
  cs : Nat
  sl : List (Option SX)
  n : Int
  fr : Int
def hvC (v : HV) : Array Value := #[.slice v.U v.up.length v.cu, .int .i64 v.room,
  .int .i64 (v.q 0), .int .i64 (v.q 1), .int .i64 (v.q 2), .int .i64 (v.q 3), .int .i64 (v.q 4), .int .i64 (v.q 5), .int .i64 (v.q 6), .int .i64 (v.q 7),
  .int .i64 (v.us 0), .int .i64 (v.us 1), .int .i64 (v.us 2), .int .i64 (v.us 3), .int .i64 (v.us 4), .int .i64 (v.us 5), .int .i64 (v.us 6), .int .i64 (v.us 7),
  .int .i64 (v.cn 0), .int .i64 (v.cn 1), .int .i64 (v.cn 2), .int .i64 (v.cn 3), .int .i64 (v.cn 4), .int .i64 (v.cn 5), .int .i64 (v.cn 6), .int .i64 (v.cn 7),
  .slice v.S v.sl.length v.cs, .int .i64 v.n, .int .i64 v.fr]
theorem hv_q (v : HV) (j : Nat) (hj : j < 8) : (hvC v)[2 + j]? = some (.int .i64 (v.q j)) := by
  rcases (by omega : j = 0 ∨ j = 1 ∨ j = 2 ∨ j = 3 ∨ j = 4 ∨ j = 5 ∨ j = 6 ∨ j = 7) with rfl | rfl | rfl | rfl | rfl | rfl | rfl | rfl <;> rfl
theorem hv_us (v : HV) (j : Nat) (hj : j < 8) : (hvC v)[10 + j]? = some (.int .i64 (v.us j)) := by
  rcases (by omega : j = 0 ∨ j = 1 ∨ j = 2 ∨ j = 3 ∨ j = 4 ∨ j = 5 ∨ j = 6 ∨ j = 7) with rfl | rfl | rfl | rfl | rfl | rfl | rfl | rfl <;> rfl
theorem hv_cn (v : HV) (j : Nat) (hj : j < 8) : (hvC v)[18 + j]? = some (.int .i64 (v.cn j)) := by
  rcases (by omega : j = 0 ∨ j = 1 ∨ j = 2 ∨ j = 3 ∨ j = 4 ∨ j = 5 ∨ j = 6 ∨ j = 7) with rfl | rfl | rfl | rfl | rfl | rfl | rfl | rfl <;> rfl
def upd (f : Nat → Int) (j : Nat) (x : Int) (k : Nat) : Int := if k = j then x else f k
theorem set_q (v : HV) (j : Nat) (hj : j < 8) (x : Int) : (hvC v).setIfInBounds (2 + j) (.int .i64 x) = hvC { v with q := upd v.q j x } := by
  rcases (by omega : j = 0 ∨ j = 1 ∨ j = 2 ∨ j = 3 ∨ j = 4 ∨ j = 5 ∨ j = 6 ∨ j = 7) with rfl | rfl | rfl | rfl | rfl | rfl | rfl | rfl <;> rfl
theorem set_us (v : HV) (j : Nat) (hj : j < 8) (x : Int) : (hvC v).setIfInBounds (10 + j) (.int .i64 x) = hvC { v with us := upd v.us j x } := by
  rcases (by omega : j = 0 ∨ j = 1 ∨ j = 2 ∨ j = 3 ∨ j = 4 ∨ j = 5 ∨ j = 6 ∨ j = 7) with rfl | rfl | rfl | rfl | rfl | rfl | rfl | rfl <;> rfl
theorem set_cn (v : HV) (j : Nat) (hj : j < 8) (x : Int) : (hvC v).setIfInBounds (18 + j) (.int .i64 x) = hvC { v with cn := upd v.cn j x } := by
  rcases (by omega : j = 0 ∨ j = 1 ∨ j = 2 ∨ j = 3 ∨ j = 4 ∨ j = 5 ∨ j = 6 ∨ j = 7) with rfl | rfl | rfl | rfl | rfl | rfl | rfl | rfl <;> rfl
/-- The blocks that it writes. -/
def HOwns (v : HV) (k : Nat) : Prop := k = v.g ∨ AtRow v.S k ∨ ∃ (i : Nat) (x : SX), v.sl[i]? = some (some x) ∧ (x.p = k ∨ AtRow x.A k)
structure MemAt (w : World) (B : Nat) (v : HV) : Prop where
  blk : Blk w v.g 95 (hvC v)
  low : B ≤ v.g
  up : BytesAt w w.heap.size v.U v.up
  upNe : ∀ ad, v.U = some ad → ¬ HOwns v ad.block
  upLt : ∀ ad, v.U = some ad → ad.block < w.heap.size
  upLow : ∀ ad, v.U = some ad → B ≤ ad.block
  row : Row w B 84 1 v.S v.sl.length v.cs (v.sl.map slotV)
  it : ∀ (i : Nat) (x : SX), v.sl[i]? = some (some x) → B ≤ x.p ∧ Blk w x.p 89 (sxC i x) ∧ Row w B 41 3 x.A x.o.f.length x.c (x.o.f.flatMap valF)
  dis : ∀ (i j : Nat) (x y : SX), v.sl[i]? = some (some x) → v.sl[j]? = some (some y) → ∀ k, AtRow x.A k → AtRow y.A k → i = j
theorem MemAt.owns {w : World} {B : Nat} {v : HV} (h : MemAt w B v) {k : Nat} (hk : HOwns v k) : B ≤ k ∧ k < w.heap.size := by
  rcases hk with rfl | hk | ⟨i, x, hx, rfl | hk⟩
  · exact ⟨h.low, h.blk.lt⟩
  · exact at_row_lt h.row k hk
  · exact ⟨(h.it i x hx).1, (h.it i x hx).2.1.lt⟩
  · exact at_row_lt (h.it i x hx).2.2 k hk
theorem MemAt.kept {F : Nat → Prop} {w w' : World} {B : Nat} {v : HV} (h : MemAt w B v) (hk : Kept F w w') (hF : ∀ k, F k → ¬ HOwns v k) (hU : ∀ ad, v.U = some ad → ¬ F ad.block) : MemAt w' B v :=
  ⟨h.blk.kept hk (fun hf => hF _ hf (.inl rfl)), h.low, ⟨h.up.1, fun hl => by
    obtain ⟨ad, h1, h2, h3⟩ := h.up.2 hl
    exact ⟨ad, h1, Nat.lt_of_lt_of_le h2 hk.size, fun j hj => (hk.cell (by rw [block_add]; exact h2) (by rw [block_add]; exact hU ad h1)).trans (h3 j hj)⟩⟩, h.upNe, fun ad e => Nat.lt_of_lt_of_le (h.upLt ad e) hk.size, h.upLow,
    h.row.kept hk (fun g hA hf => hF _ hf (.inr (.inl ⟨_, hA, rfl⟩))), fun i x hx => ⟨(h.it i x hx).1, (h.it i x hx).2.1.kept hk (fun hf => hF _ hf (.inr (.inr ⟨i, x, hx, .inl rfl⟩))), (h.it i x hx).2.2.kept hk (fun g hA hf => hF _ hf (.inr (.inr ⟨i, x, hx, .inr ⟨_, hA, rfl⟩⟩)))⟩, h.dis⟩
theorem MemAt.grew {w w' : World} {B : Nat} {v : HV} (h : MemAt w B v) (hg : Grew w w') : MemAt w' B v := h.kept (F := fun _ => False) (.of_grew hg) (fun _ hf => hf.elim) (fun _ _ hf => hf)
theorem MemAt.base {w : World} {B B' : Nat} {v : HV} (h : MemAt w B v) (hB : B' ≤ B) : MemAt w B' v :=
  ⟨h.blk, Nat.le_trans hB h.low, h.up, h.upNe, h.upLt, fun ad e => Nat.le_trans hB (h.upLow ad e), h.row.low hB, fun i x hx => ⟨Nat.le_trans hB (h.it i x hx).1, (h.it i x hx).2.1, (h.it i x hx).2.2.low hB⟩, h.dis⟩
/-- Which blocks are unlike each other. -/
theorem MemAt.g_row {w : World} {B : Nat} {v : HV} (h : MemAt w B v) : ¬ AtRow v.S v.g := fun hk => by
  obtain ⟨cs, hc⟩ := h.row.blkAt hk
  exact absurd (hc.ty h.blk).1 (by decide)
theorem MemAt.g_it {w : World} {B : Nat} {v : HV} (h : MemAt w B v) {i : Nat} {x : SX} (hx : v.sl[i]? = some (some x)) : x.p ≠ v.g ∧ ¬ AtRow x.A v.g := ⟨fun e => by
  have h1 := (h.it i x hx).2.1
  rw [e] at h1
  exact absurd (h1.ty h.blk).1 (by decide), fun hk => by
  obtain ⟨cs, hc⟩ := (h.it i x hx).2.2.blkAt hk
  exact absurd (hc.ty h.blk).1 (by decide)⟩
theorem MemAt.s_it {w : World} {B : Nat} {v : HV} (h : MemAt w B v) {i : Nat} {x : SX} (hx : v.sl[i]? = some (some x)) : ¬ AtRow v.S x.p ∧ ∀ k, AtRow x.A k → ¬ AtRow v.S k := ⟨fun hk => by
  obtain ⟨cs, hc⟩ := h.row.blkAt hk
  exact absurd (hc.ty (h.it i x hx).2.1).1 (by decide), fun k hk hk2 => by
  obtain ⟨cs, hc⟩ := h.row.blkAt hk2
  obtain ⟨ds, hd⟩ := (h.it i x hx).2.2.blkAt hk
  exact absurd (hc.ty hd).1 (by decide)⟩
theorem MemAt.p_f {w : World} {B : Nat} {v : HV} (h : MemAt w B v) {i j : Nat} {x y : SX} (hx : v.sl[i]? = some (some x)) (hy : v.sl[j]? = some (some y)) : ¬ AtRow y.A x.p := fun hk => by
  obtain ⟨cs, hc⟩ := (h.it j y hy).2.2.blkAt hk
  exact absurd (hc.ty (h.it i x hx).2.1).1 (by decide)
theorem MemAt.p_p {w : World} {B : Nat} {v : HV} (h : MemAt w B v) {i j : Nat} {x y : SX} (hx : v.sl[i]? = some (some x)) (hy : v.sl[j]? = some (some y)) (he : x.p = y.p) : i = j := by
  have h1 := (h.it i x hx).2.1
  have h2 := (h.it j y hy).2.1
  rw [he] at h1
  have := (h1.ty h2).2
  simp only [sxC, Array.mk.injEq, List.cons.injEq, Value.int.injEq] at this
  omega
/-- What a call may leave of it. -/
structure Step (w : World) (B : Nat) (v v' : HV) (w' : World) : Prop where
  mem : MemAt w' B v'
  g : v'.g = v.g
  U : v'.U = v.U
  cu : v'.cu = v.cu
  up : v'.up = v.up
  room : v'.room = v.room
  q : v'.q = v.q
  kept : Kept (HOwns v) w w'
  owns : ∀ k, HOwns v' k → HOwns v k ∨ w.heap.size ≤ k
theorem Step.refl {w : World} {B : Nat} {v : HV} (h : MemAt w B v) : Step w B v v w := ⟨h, rfl, rfl, rfl, rfl, rfl, rfl, Kept.refl _ _, fun _ h => .inl h⟩
theorem Step.of_grew {w w' : World} {B : Nat} {v : HV} (h : MemAt w B v) (hg : Grew w w') : Step w B v v w' := ⟨h.grew hg, rfl, rfl, rfl, rfl, rfl, rfl, .of_grew hg, fun _ h => .inl h⟩
theorem Step.trans {w1 w2 w3 : World} {B : Nat} {v1 v2 v3 : HV} (h : Step w1 B v1 v2 w2) (k : Step w2 B v2 v3 w3) : Step w1 B v1 v3 w3 :=
  ⟨k.mem, k.g.trans h.g, k.U.trans h.U, k.cu.trans h.cu, k.up.trans h.up, k.room.trans h.room, k.q.trans h.q, h.kept.next k.kept (fun i hi ho => (h.owns i ho).resolve_right (by omega)), fun i ho => by
    rcases k.owns i ho with h1 | h1
    · exact h.owns i h1
    · exact .inr (Nat.le_trans h.kept.size h1)⟩
theorem Step.grew {w w' w2 : World} {B : Nat} {v v' : HV} (h : Step w B v v' w') (hg : Grew w' w2) : Step w B v v' w2 := h.trans (Step.of_grew h.mem hg)
/-- A cell of the heap's own block stored. -/
theorem MemAt.cell {w : World} {B : Nat} {v : HV} (h : MemAt w B v) (j : Nat) (u : Value) (v' : HV) (hc : (hvC v).setIfInBounds j u = hvC v') (e1 : v'.g = v.g) (e2 : v'.U = v.U) (e3 : v'.cu = v.cu) (e4 : v'.up = v.up) (e5 : v'.room = v.room) (e6 : v'.q = v.q) (e7 : v'.S = v.S) (e8 : v'.cs = v.cs) (e9 : v'.sl = v.sl) :
    Step w B v v' (w.setCell ⟨v.g, j, none⟩ u) := by
  have hk : Kept (· = v.g) w (w.setCell ⟨v.g, j, none⟩ u) := (Kept.refl (fun k => k = v.g) w).setCell (p := ⟨v.g, j, none⟩) (fun _ => rfl) u
  have ho : ∀ k, HOwns v' k ↔ HOwns v k := fun k => by unfold HOwns; rw [e1, e7, e9]
  refine ⟨⟨?_, by rw [e1]; exact h.low, ?_, fun ad e => ?_, fun ad e => Nat.lt_of_lt_of_le (h.upLt ad (by rw [← e2]; exact e)) hk.size, fun ad e => h.upLow ad (by rw [← e2]; exact e), ?_, fun i x hx => ?_, fun i k x y hx hy => ?_⟩, e1, e2, e3, e4, e5, e6, hk.mono (fun k _ e => .inl e), fun k hk => .inl ((ho k).1 hk)⟩
  · have := h.blk.put j u
    rw [hc] at this
    rw [e1]
    exact this
  · rw [e2, e4]
    refine ⟨h.up.1, fun hl => ?_⟩
    obtain ⟨ad, h1, h2, h3⟩ := h.up.2 hl
    exact ⟨ad, h1, Nat.lt_of_lt_of_le h2 hk.size, fun j hj => (hk.cell (by rw [block_add]; exact h2) (by rw [block_add]; exact fun e => h.upNe ad h1 (.inl e))).trans (h3 j hj)⟩
  · rw [e2] at e
    exact fun hh => h.upNe ad e ((ho _).1 hh)
  · rw [e7, e8, e9]
    exact h.row.kept hk (fun g hA e => h.g_row ⟨_, hA, e⟩)
  · rw [e9] at hx
    exact ⟨(h.it i x hx).1, (h.it i x hx).2.1.kept hk (h.g_it hx).1, (h.it i x hx).2.2.kept hk (fun g hA e => (h.g_it hx).2 ⟨_, hA, e⟩)⟩
  · rw [e9] at hx hy
    exact h.dis i k x y hx hy
end Go.Proofs.YtidnaednldcdfaaGreatDoor
namespace Go.Proofs.YtidnaednldcdfaaGreatDoor
open Go.RowKit

def itsFrom : List (Option SX) → Nat → List Hp.It
  | [], _ => []
  | none :: r, k => itsFrom r (k + 1)
  | some x :: r, k => ⟨(k : Int), x.h, x.o⟩ :: itsFrom r (k + 1)
theorem mem_itsFrom : ∀ (l : List (Option SX)) (k : Nat) (y : Hp.It), y ∈ itsFrom l k ↔ ∃ (i : Nat) (x : SX), l[i]? = some (some x) ∧ y = ⟨((k + i : Nat) : Int), x.h, x.o⟩
  | [], k, y => by simp [itsFrom]
  | none :: r, k, y => by
    rw [itsFrom, mem_itsFrom r (k + 1) y]
    constructor
    · rintro ⟨i, x, h1, h2⟩
      exact ⟨i + 1, x, by simpa using h1, by rw [h2, show k + 1 + i = k + (i + 1) by omega]⟩
    · rintro ⟨i, x, h1, h2⟩
      cases i with
      | zero => simp at h1
      | succ i => exact ⟨i, x, by simpa using h1, by rw [h2, show k + 1 + i = k + (i + 1) by omega]⟩
  | some z :: r, k, y => by
    rw [itsFrom, List.mem_cons, mem_itsFrom r (k + 1) y]
    constructor
    · rintro (rfl | ⟨i, x, h1, h2⟩)
      · exact ⟨0, z, by simp, by simp⟩
      · exact ⟨i + 1, x, by simpa using h1, by rw [h2, show k + 1 + i = k + (i + 1) by omega]⟩
    · rintro ⟨i, x, h1, h2⟩
      cases i with
      | zero =>
        left
        simp at h1
        subst h1
        simpa using h2
      | succ i => exact .inr ⟨i, x, by simpa using h1, by rw [h2, show k + 1 + i = k + (i + 1) by omega]⟩
theorem itsFrom_sorted : ∀ (l : List (Option SX)) (k : Nat), Hp.Sorted (itsFrom l k)
  | [], k => List.Pairwise.nil
  | none :: r, k => itsFrom_sorted r (k + 1)
  | some x :: r, k => by
    rw [itsFrom]
    refine List.pairwise_cons.2 ⟨fun y hy => ?_, itsFrom_sorted r (k + 1)⟩
    obtain ⟨i, z, _, rfl⟩ := (mem_itsFrom r (k + 1) y).1 hy
    simp only
    omega
theorem itsFrom_len : ∀ (l : List (Option SX)) (k : Nat), (itsFrom l k).length ≤ l.length
  | [], k => Nat.le_refl _
  | none :: r, k => by have := itsFrom_len r (k + 1); rw [itsFrom, List.length_cons]; omega
  | some x :: r, k => by have := itsFrom_len r (k + 1); rw [itsFrom, List.length_cons, List.length_cons]; omega
def its (l : List (Option SX)) : List Hp.It := itsFrom l 0
theorem its_sorted (l : List (Option SX)) : Hp.Sorted (its l) := itsFrom_sorted l 0
theorem its_len (l : List (Option SX)) : (its l).length ≤ l.length := itsFrom_len l 0
theorem mem_its {l : List (Option SX)} {y : Hp.It} : y ∈ its l ↔ ∃ (i : Nat) (x : SX), l[i]? = some (some x) ∧ y = ⟨(i : Int), x.h, x.o⟩ := by
  unfold its
  rw [mem_itsFrom]
  simp
theorem its_nonneg {l : List (Option SX)} : ∀ y ∈ its l, 0 ≤ y.i ∧ y.i < l.length := by
  intro y hy
  obtain ⟨i, x, h, rfl⟩ := mem_its.1 hy
  have := (List.getElem?_eq_some_iff.1 h).1
  simp only
  omega
theorem its_find {l : List (Option SX)} {i : Nat} {x : SX} (h : l[i]? = some (some x)) : Hp.find (its l) (i : Int) = some ⟨(i : Int), x.h, x.o⟩ :=
  Hp.find_of (its_sorted l) (x := ⟨(i : Int), x.h, x.o⟩) (mem_its.2 ⟨i, x, h, rfl⟩)
theorem its_none {l : List (Option SX)} {i : Int} (h : ∀ (k : Nat) (x : SX), l[k]? = some (some x) → (k : Int) ≠ i) : Hp.find (its l) i = none := by
  rw [Hp.find_none]
  intro y hy
  obtain ⟨k, x, hk, rfl⟩ := mem_its.1 hy
  exact h k x hk
theorem its_app_none (l : List (Option SX)) : its (l ++ [none]) = its l := by
  refine Hp.sorted_ext (its_sorted _) (its_sorted _) (fun y => ?_)
  rw [mem_its, mem_its]
  constructor
  · rintro ⟨i, x, h, rfl⟩
    rcases Nat.lt_trichotomy i l.length with hl | hl | hl
    · rw [List.getElem?_append_left hl] at h
      exact ⟨i, x, h, rfl⟩
    · subst hl; simp at h
    · rw [List.getElem?_eq_none (by simp; omega)] at h
      cases h
  · rintro ⟨i, x, h, rfl⟩
    have hl := (List.getElem?_eq_some_iff.1 h).1
    exact ⟨i, x, by rw [List.getElem?_append_left hl]; exact h, rfl⟩
theorem its_del {l : List (Option SX)} (i : Nat) : its (l.set i none) = Hp.del (its l) (i : Int) := by
  refine Hp.sorted_ext (its_sorted _) ((its_sorted l).filter _) (fun y => ?_)
  unfold Hp.del
  rw [List.mem_filter, mem_its, mem_its]
  constructor
  · rintro ⟨k, x, h, rfl⟩
    rw [List.getElem?_set] at h
    by_cases e : i = k
    · rw [if_pos e] at h
      split at h <;> cases h
    · rw [if_neg e] at h
      refine ⟨⟨k, x, h, rfl⟩, ?_⟩
      simp
      omega
  · rintro ⟨⟨k, x, h, rfl⟩, h2⟩
    refine ⟨k, x, ?_, rfl⟩
    rw [List.getElem?_set, if_neg (by rintro rfl; simp at h2)]
    exact h
theorem its_free {l : List (Option SX)} {i : Nat} (hi : l[i]? = some none) : ∀ y ∈ its l, y.i ≠ (i : Int) := by
  intro y hy e
  obtain ⟨k, x, h, rfl⟩ := mem_its.1 hy
  simp only at e
  obtain rfl : k = i := by omega
  rw [hi] at h
  cases h
theorem its_ins {l : List (Option SX)} {i : Nat} (hi : l[i]? = some none) (x : SX) : its (l.set i (some x)) = Hp.ins (its l) ⟨(i : Int), x.h, x.o⟩ := by
  have hl := (List.getElem?_eq_some_iff.1 hi).1
  refine Hp.sorted_ext (its_sorted _) (Hp.sorted_ins _ _ (its_sorted l)) (fun y => ?_)
  rw [Hp.mem_ins _ _ _ (its_free hi), mem_its, mem_its]
  constructor
  · rintro ⟨k, z, h, rfl⟩
    rw [List.getElem?_set] at h
    by_cases e : i = k
    · rw [if_pos e, if_pos hl] at h
      obtain rfl : x = z := by simpa using h
      subst e
      exact .inl rfl
    · rw [if_neg e] at h
      exact .inr ⟨k, z, h, rfl⟩
  · rintro (rfl | ⟨k, z, h, rfl⟩)
    · exact ⟨i, x, by rw [List.getElem?_set, if_pos rfl, if_pos hl], rfl⟩
    · refine ⟨k, z, ?_, rfl⟩
      rw [List.getElem?_set, if_neg (by rintro rfl; rw [hi] at h; cases h)]
      exact h
/-- An object's field replaced. -/
theorem its_put {l : List (Option SX)} {i : Nat} {x : SX} (hi : l[i]? = some (some x)) (up : List Nat) (k under : Int) (v : Ob.Val) : its (l.set i (some { x with o := Ob.setF x.o k.toNat (Ob.putV up under v) })) = (its l).map (Hp.putIt up (i : Int) k under v) := by
  have hl := (List.getElem?_eq_some_iff.1 hi).1
  refine Hp.sorted_ext (its_sorted _) (Hp.sorted_map (Hp.putIt_i up i k under v) (its_sorted l)) (fun y => ?_)
  rw [List.mem_map, mem_its]
  constructor
  · rintro ⟨j, z, h, rfl⟩
    rw [List.getElem?_set] at h
    by_cases e : i = j
    · rw [if_pos e, if_pos hl] at h
      subst e
      refine ⟨⟨(i : Int), x.h, x.o⟩, mem_its.2 ⟨i, x, hi, rfl⟩, ?_⟩
      obtain rfl := Option.some.inj (Option.some.inj h)
      unfold Hp.putIt
      rw [if_pos rfl]
    · rw [if_neg e] at h
      refine ⟨⟨(j : Int), z.h, z.o⟩, mem_its.2 ⟨j, z, h, rfl⟩, ?_⟩
      unfold Hp.putIt
      rw [if_neg (by simp only; omega)]
  · rintro ⟨z, hz, rfl⟩
    obtain ⟨j, u, h, rfl⟩ := mem_its.1 hz
    by_cases e : i = j
    · subst e
      rw [hi] at h
      obtain rfl := Option.some.inj (Option.some.inj h)
      refine ⟨i, _, by rw [List.getElem?_set, if_pos rfl, if_pos hl], ?_⟩
      unfold Hp.putIt
      rw [if_pos rfl]
    · refine ⟨j, u, by rw [List.getElem?_set, if_neg e]; exact h, ?_⟩
      unfold Hp.putIt
      rw [if_neg (by simp only; omega)]
/-- What is known of a heap's numbers. -/
structure HvOk (v : HV) (C : Nat) : Prop where
  valid : La.valid v.up = true
  room : 0 ≤ v.room ∧ v.room ≤ 1048576
  q : ∀ j, 0 ≤ v.q j ∧ v.q j ≤ 1048576
  cn : ∀ j, 0 ≤ v.cn j ∧ v.cn j ≤ C
  us : ∀ j : Nat, v.us j = (Hp.used (its v.sl) (j : Int) : Nat)
  n : v.n = ((its v.sl).length : Nat)
  ok : ∀ x ∈ its v.sl, Ob.mayB v.up.length x.o = true
  hs : ∀ x ∈ its v.sl, N64 x.h
  fit : ∀ j : Nat, j < v.up.length → (Hp.used (its v.sl) (j : Int) : Int) ≤ v.q j
  fitAll : (Hp.all (its v.sl) : Int) ≤ v.room
  len : v.sl.length ≤ 65536
  fr : 0 ≤ v.fr ∧ v.fr ≤ v.sl.length ∧ ∀ k : Nat, (k : Int) < v.fr → ∃ x, v.sl[k]? = some (some x)
  C : C ≤ 1099511627776
theorem HvOk.lens {v : HV} {C : Nat} (h : HvOk v C) : 1 ≤ v.up.length ∧ v.up.length ≤ 8 := ⟨(La.valid_spec h.valid).1, (La.valid_spec h.valid).2⟩
theorem hp_head {n : Nat} {o : Ob.Obj} (h : Ob.mayB n o = true) : 0 ≤ o.cls ∧ o.cls < 64 ∧ 0 ≤ o.lev ∧ o.lev < n ∧ o.f.length ≤ 256 ∧ o.b.size ≤ 1024 ∧ ∀ v ∈ o.f, Ob.valueB n v = true := by
  simp only [Ob.mayB, Ob.headB, Ob.inB, Bool.and_eq_true, decide_eq_true_eq, List.all_eq_true] at h
  exact ⟨h.1.1.1, h.1.1.2, h.1.2.1.1, h.1.2.1.2, h.1.2.2.1, h.1.2.2.2.1, h.2⟩
theorem hp_value {n : Nat} {v : Ob.Val} (h : Ob.valueB n v = true) (hn : n ≤ 20) : ValOk v := by
  simp only [Ob.valueB, Ob.inB, Ob.numB, Bool.and_eq_true, decide_eq_true_eq] at h
  obtain ⟨⟨h1, h2⟩, h3⟩ := h
  have hl : N64 v.l := ⟨by omega, by omega⟩
  by_cases a : v.k ≤ 2
  · rw [if_pos a, decide_eq_true_eq] at h3
    exact ⟨by omega, ⟨by omega, by omega⟩, hl⟩
  rw [if_neg a] at h3
  by_cases b : v.k = 3
  · rw [if_pos b, Bool.and_eq_true, decide_eq_true_eq, decide_eq_true_eq] at h3
    exact ⟨by omega, ⟨by omega, by omega⟩, hl⟩
  rw [if_neg b] at h3
  by_cases c : v.k = 4
  · rw [if_pos c, Bool.and_eq_true, decide_eq_true_eq, decide_eq_true_eq] at h3
    exact ⟨by omega, ⟨by omega, by omega⟩, hl⟩
  rw [if_neg c] at h3
  by_cases d : v.k = 5
  · rw [if_pos d, Bool.and_eq_true, decide_eq_true_eq, decide_eq_true_eq] at h3
    exact ⟨by omega, ⟨by omega, by omega⟩, hl⟩
  rw [if_neg d] at h3
  cases h3
/-- An object in its slot. -/
theorem HvOk.at {v : HV} {C : Nat} (h : HvOk v C) {i : Nat} {x : SX} (hx : v.sl[i]? = some (some x)) : Ob.mayB v.up.length x.o = true ∧ N64 x.h :=
  ⟨h.ok ⟨(i : Int), x.h, x.o⟩ (mem_its.2 ⟨i, x, hx, rfl⟩), h.hs ⟨(i : Int), x.h, x.o⟩ (mem_its.2 ⟨i, x, hx, rfl⟩)⟩
theorem row_vals_at {w : World} {B : Nat} {v : HV} {C : Nat} (h : MemAt w B v) (hv : HvOk v C) {i : Nat} {x : SX} (hx : v.sl[i]? = some (some x)) : ValsAt w x.A x.o.f := by
  have hh := hp_head (hv.at hx).1
  have hl := hv.lens
  exact row_vals (h.it i x hx).2.2 rfl (fun u hu => hp_value (hh.2.2.2.2.2.2 u hu) (by omega))
theorem sx_ok {w : World} {B : Nat} {v : HV} {C : Nat} (h : MemAt w B v) (hv : HvOk v C) {i : Nat} {x : SX} (hx : v.sl[i]? = some (some x)) : OvOk w ⟨x.o, x.A, x.c⟩ := by
  have hh := hp_head (hv.at hx).1
  have hl := hv.lens
  refine ⟨row_vals_at h hv hx, ⟨by simp only; omega, by simp only; omega⟩, ⟨by simp only; omega, by simp only; omega⟩, (h.it i x hx).2.2.cases.2.1⟩
/-- What a slot's cell holds. -/
theorem slot_at {w w' : World} {B : Nat} {v : HV} (h : MemAt w B v) (hg : Grew w w') {i : Nat} {y : Option SX} (hy : v.sl[i]? = some y) : ∃ s, v.S = some ⟨s, 0, none⟩ ∧ w'.cell? ⟨s, i, none⟩ = some (slotV y) ∧ w'.frozen? ⟨s, i, none⟩ = false ∧ s < w'.heap.size := by
  have hi := (List.getElem?_eq_some_iff.1 hy).1
  rcases (h.row.grew hg).cases with ⟨_, _, _, ⟨_, h2, _⟩ | ⟨g, h1, _, hw, hc, hf⟩⟩
  · omega
  · exact ⟨g, h1, hc i _ (by rw [List.getElem?_map, hy]; rfl), hf i, hw⟩
theorem Row.set1 {w : World} {B g n c : Nat} {e : TypeId} {s : Nat} {vs : List Value} (h : Row w B e s (some ⟨g, 0, none⟩) n c vs) (j : Nat) (u : Value) : Row (w.setCell ⟨g, j, none⟩ u) B e s (some ⟨g, 0, none⟩) n c (vs.set j u) := (World.ownsRow.stored h j u).1
/-- A slot emptied. -/
theorem MemAt.drop {w : World} {B : Nat} {v : HV} (h : MemAt w B v) {i : Nat} (hi : i < v.sl.length) {s : Nat} (hs : v.S = some ⟨s, 0, none⟩) : Step w B v { v with sl := v.sl.set i none } (w.setCell ⟨s, i, none⟩ (.pointer none)) := by
  have hk : Kept (fun k => k = s) w (w.setCell ⟨s, i, none⟩ (.pointer none)) := (Kept.refl (fun k => k = s) w).setCell (p := ⟨s, i, none⟩) (fun _ => rfl) _
  have hat : AtRow v.S s := ⟨_, hs, rfl⟩
  have hsub : ∀ (k : Nat) (x : SX), (v.sl.set i none)[k]? = some (some x) → v.sl[k]? = some (some x) := fun k x hx => by
    rw [List.getElem?_set] at hx
    by_cases e : i = k
    · rw [if_pos e, if_pos hi] at hx
      cases hx
    · rw [if_neg e] at hx
      exact hx
  have ho : ∀ k, HOwns { v with sl := v.sl.set i none } k → HOwns v k := fun k hk => by
    rcases hk with h1 | h1 | ⟨j, x, hx, h1⟩
    · exact .inl h1
    · exact .inr (.inl h1)
    · exact .inr (.inr ⟨j, x, hsub j x hx, h1⟩)
  refine ⟨⟨h.blk.kept hk (fun e => h.g_row ⟨_, hs, e.symm⟩) |> fun b => ?_, h.low, ⟨h.up.1, fun hl => ?_⟩, fun ad e hh => h.upNe ad e (ho _ hh), fun ad e => Nat.lt_of_lt_of_le (h.upLt ad e) hk.size, h.upLow, ?_, fun j x hx => ?_, fun j k x y hx hy => h.dis j k x y (hsub j x hx) (hsub k y hy)⟩, rfl, rfl, rfl, rfl, rfl, rfl, hk.mono (fun k _ e => by subst e; exact .inr (.inl hat)), fun k hk => .inl (ho k hk)⟩
  · have e : hvC { v with sl := v.sl.set i none } = hvC v := by unfold hvC; simp only [List.length_set]
    rw [e]
    exact b
  · obtain ⟨ad, h1, h2, h3⟩ := h.up.2 hl
    exact ⟨ad, h1, Nat.lt_of_lt_of_le h2 hk.size, fun j hj => (hk.cell (by rw [block_add]; exact h2) (by rw [block_add]; exact fun e => h.upNe ad h1 (.inr (.inl ⟨_, hs, e.symm⟩)))).trans (h3 j hj)⟩
  · have h1 := h.row
    rw [hs] at h1
    have h2 := h1.set1 i (.pointer none)
    show Row _ B _ 1 v.S (v.sl.set i none).length v.cs ((v.sl.set i none).map slotV)
    rw [List.length_set, List.map_set, hs]
    exact h2
  · have hx' := hsub j x hx
    exact ⟨(h.it j x hx').1, (h.it j x hx').2.1.kept hk (fun e => (h.s_it hx').1 ⟨_, hs, e.symm⟩), (h.it j x hx').2.2.kept hk (fun g hA e => (h.s_it hx').2 g ⟨_, hA, rfl⟩ ⟨_, hs, e.symm⟩)⟩
/-- A slot filled with what was made since. -/
theorem Step.fill {w0 w : World} {B : Nat} {v0 v : HV} (h : Step w0 B v0 v w) (hB : B ≤ w0.heap.size) {i : Nat} (hi : i < v.sl.length) {s : Nat} (hs : v.S = some ⟨s, 0, none⟩) (x : SX)
    (hb : Blk w x.p 89 (sxC i x)) (hr : Row w B 41 3 x.A x.o.f.length x.c (x.o.f.flatMap valF)) (h1 : w0.heap.size ≤ x.p) (h2 : ∀ k, AtRow x.A k → w0.heap.size ≤ k)
    (n2 : ∀ (j : Nat) (y : SX), v.sl[j]? = some (some y) → ∀ k, AtRow x.A k → ¬ AtRow y.A k) (hu : ∀ ad, v.U = some ad → ad.block < w0.heap.size) :
    Step w0 B v0 { v with sl := v.sl.set i (some x) } (w.setCell ⟨s, i, none⟩ (.pointer (some ⟨x.p, 0, none⟩))) := by
  have hm := h.mem
  have hk : Kept (fun k => k = s) w (w.setCell ⟨s, i, none⟩ (.pointer (some ⟨x.p, 0, none⟩))) := (Kept.refl (fun k => k = s) w).setCell (p := ⟨s, i, none⟩) (fun _ => rfl) _
  have hat : AtRow v.S s := ⟨_, hs, rfl⟩
  have hsub : ∀ (k : Nat) (y : SX), (v.sl.set i (some x))[k]? = some (some y) → (k = i ∧ y = x) ∨ v.sl[k]? = some (some y) := fun k y hy => by
    rw [List.getElem?_set] at hy
    by_cases e : i = k
    · rw [if_pos e, if_pos hi] at hy
      exact .inl ⟨e.symm, (Option.some.inj (Option.some.inj hy)).symm⟩
    · rw [if_neg e] at hy
      exact .inr hy
  have ho : ∀ k, HOwns { v with sl := v.sl.set i (some x) } k → HOwns v k ∨ k = x.p ∨ AtRow x.A k := fun k hk => by
    rcases hk with h7 | h7 | ⟨j, y, hy, h7⟩
    · exact .inl (.inl h7)
    · exact .inl (.inr (.inl h7))
    · rcases hsub j y hy with ⟨_, e7⟩ | hy
      · rw [e7] at h7
        rcases h7 with h7 | h7
        · exact .inr (.inl h7.symm)
        · exact .inr (.inr h7)
      · exact .inl (.inr (.inr ⟨j, y, hy, h7⟩))
  have hown : ∀ k, HOwns { v with sl := v.sl.set i (some x) } k → HOwns v0 k ∨ w0.heap.size ≤ k := fun k hk => by
    rcases ho k hk with h3 | rfl | h3
    · exact h.owns k h3
    · exact .inr h1
    · exact .inr (h2 k h3)
  refine ⟨⟨hm.blk.kept hk (fun e => hm.g_row ⟨_, hs, e.symm⟩) |> fun b => ?_, hm.low, ⟨hm.up.1, fun hl => ?_⟩, fun ad e hh => ?_, fun ad e => Nat.lt_of_lt_of_le (hm.upLt ad e) hk.size, hm.upLow, ?_, fun j y hy => ?_, fun j k y z hy hz q hq hr => ?_⟩, h.g, h.U, h.cu, h.up, h.room, h.q, h.kept.next hk (fun k hk e => by subst e; exact (h.owns _ (.inr (.inl hat))).resolve_right (by omega)), hown⟩
  · have e : hvC { v with sl := v.sl.set i (some x) } = hvC v := by unfold hvC; simp only [List.length_set]
    rw [e]
    exact b
  · obtain ⟨ad, h1, h2, h3⟩ := hm.up.2 hl
    exact ⟨ad, h1, Nat.lt_of_lt_of_le h2 hk.size, fun j hj => (hk.cell (by rw [block_add]; exact h2) (by rw [block_add]; exact fun e => hm.upNe ad h1 (.inr (.inl ⟨_, hs, e.symm⟩)))).trans (h3 j hj)⟩
  · have h5 := hu ad e
    rcases ho _ hh with h3 | h3 | h3
    · exact hm.upNe ad e h3
    · omega
    · have := h2 _ h3; omega
  · have h1 := hm.row
    rw [hs] at h1
    have h2 := h1.set1 i (.pointer (some ⟨x.p, 0, none⟩))
    show Row _ B _ 1 v.S (v.sl.set i (some x)).length v.cs ((v.sl.set i (some x)).map slotV)
    rw [List.length_set, List.map_set, hs]
    exact h2
  · rcases hsub j y hy with ⟨rfl, rfl⟩ | hy'
    · refine ⟨Nat.le_trans hB h1, hb.kept hk (fun e => ?_), hr.kept hk (fun g hA e => ?_)⟩
      · obtain ⟨cs, hc⟩ := hm.row.blkAt (k := y.p) ⟨_, hs, e.symm⟩
        exact absurd (hc.ty hb).1 (by decide)
      · obtain ⟨cs, hc⟩ := hm.row.blkAt (k := g) ⟨_, hs, e.symm⟩
        obtain ⟨ds, hd⟩ := hr.blkAt (k := g) ⟨_, hA, rfl⟩
        exact absurd (hc.ty hd).1 (by decide)
    · exact ⟨(hm.it j y hy').1, (hm.it j y hy').2.1.kept hk (fun e => (hm.s_it hy').1 ⟨_, hs, e.symm⟩), (hm.it j y hy').2.2.kept hk (fun g hA e => (hm.s_it hy').2 g ⟨_, hA, rfl⟩ ⟨_, hs, e.symm⟩)⟩
  · rcases hsub j y hy with ⟨e1, e2⟩ | hy' <;> rcases hsub k z hz with ⟨e3, e4⟩ | hz'
    · omega
    · rw [e2] at hq
      exact absurd hr (n2 k z hz' q hq)
    · rw [e4] at hr
      exact absurd hq (n2 j y hy' q hr)
    · exact hm.dis j k y z hy' hz' q hq hr
/-- One more slot, that is empty. -/
theorem MemAt.app {w w1 : World} {B : Nat} {v : HV} (h : MemAt w B v) {S' : Option Addr} {cs' : Nat} (hr : Row w1 B 84 1 S' (v.sl.length + 1) cs' (v.sl.map slotV ++ [.pointer none])) (hk : Kept (AtRow v.S) w w1) (ht : RowTo w v.S S') :
    Step w B v { v with S := S', cs := cs', sl := v.sl ++ [none] } (w1.setCell ⟨v.g, 26, none⟩ (.slice S' ((v.sl.length + 1 : Nat) : Nat) cs')) := by
  have hk2 : Kept (fun k => k = v.g) w1 (w1.setCell ⟨v.g, 26, none⟩ (.slice S' ((v.sl.length + 1 : Nat) : Nat) cs')) := (Kept.refl (fun k => k = v.g) w1).setCell (p := ⟨v.g, 26, none⟩) (fun _ => rfl) _
  have hk3 : Kept (HOwns v) w (w1.setCell ⟨v.g, 26, none⟩ (.slice S' ((v.sl.length + 1 : Nat) : Nat) cs')) := (hk.mono (fun k _ e => .inr (.inl e))).next hk2 (fun k _ e => .inl e)
  have hto : ∀ k, AtRow S' k → AtRow v.S k ∨ w.heap.size ≤ k := by
    intro k hk
    rcases ht with e | ⟨q, e1, e2⟩
    · rw [e] at hk; exact .inl hk
    · obtain ⟨ad, h1, h2⟩ := hk
      rw [e1] at h1
      cases h1
      exact .inr (by subst h2; exact e2)
  have hsub : ∀ (k : Nat) (y : SX), (v.sl ++ [none])[k]? = some (some y) → v.sl[k]? = some (some y) := fun k y hy => by
    rcases Nat.lt_trichotomy k v.sl.length with hl | hl | hl
    · rw [List.getElem?_append_left hl] at hy
      exact hy
    · subst hl; simp at hy
    · rw [List.getElem?_eq_none (by simp; omega)] at hy
      cases hy
  have hown : ∀ k, HOwns { v with S := S', cs := cs', sl := v.sl ++ [none] } k → HOwns v k ∨ w.heap.size ≤ k := fun k hk => by
    rcases hk with h1 | h1 | ⟨j, y, hy, h1⟩
    · exact .inl (.inl h1)
    · exact (hto k h1).imp (fun h => .inr (.inl h)) id
    · exact .inl (.inr (.inr ⟨j, y, hsub j y hy, h1⟩))
  have hb := (h.blk.kept hk h.g_row).put 26 (.slice S' ((v.sl.length + 1 : Nat) : Nat) cs')
  refine ⟨⟨?_, h.low, ⟨h.up.1, fun hl => ?_⟩, fun ad e hh => ?_, fun ad e => Nat.lt_of_lt_of_le (h.upLt ad e) hk3.size, h.upLow, ?_, fun j x hx => ?_, fun j k x y hx hy => h.dis j k x y (hsub j x hx) (hsub k y hy)⟩, rfl, rfl, rfl, rfl, rfl, rfl, hk3, hown⟩
  · have e : hvC { v with S := S', cs := cs', sl := v.sl ++ [none] } = (hvC v).setIfInBounds 26 (.slice S' ((v.sl.length + 1 : Nat) : Nat) cs') := by
      unfold hvC
      simp
    rw [e]
    exact hb
  · obtain ⟨ad, h1, h2, h3⟩ := h.up.2 hl
    exact ⟨ad, h1, Nat.lt_of_lt_of_le h2 hk3.size, fun j hj => (hk3.cell (by rw [block_add]; exact h2) (by rw [block_add]; exact h.upNe ad h1)).trans (h3 j hj)⟩
  · rcases hown _ hh with h3 | h3
    · exact h.upNe ad e h3
    · have := h.upLt ad e; omega
  · show Row _ B _ 1 S' (v.sl ++ [none]).length cs' ((v.sl ++ [none]).map slotV)
    rw [List.length_append, List.map_append]
    refine Row.kept (vs := v.sl.map slotV ++ [.pointer none]) hr hk2 (fun g hA e => ?_)
    obtain ⟨cs, hc⟩ := hr.blkAt (k := g) ⟨_, hA, rfl⟩
    subst e
    exact absurd (hc.ty (h.blk.kept hk h.g_row)).1 (by decide)
  · have hx' := hsub j x hx
    exact ⟨(h.it j x hx').1, ((h.it j x hx').2.1.kept hk (h.s_it hx').1).kept hk2 (h.g_it hx').1, ((h.it j x hx').2.2.kept hk (fun g hA e => (h.s_it hx').2 g ⟨_, hA, rfl⟩ e)).kept hk2 (fun g hA e => (h.g_it hx').2 ⟨_, hA, e⟩)⟩
end Go.Proofs.YtidnaednldcdfaaGreatDoor
namespace Go.Proofs.YtidnaednldcdfaaGreatDoor
open Go.RowKit

theorem hIndex_c (i n : Int) (w : World) : Calls Tryz.prog 41 #[.int .i64 i, .int .i64 n] w fun e w' => e = .returned (.bool (Ob.inB i n)) ∧ Grew w w' := by
  unfold Ob.inB
  by_cases h1 : 0 ≤ i
  · rw [decide_eq_true h1, Bool.true_and]
    by_cases h2 : i < n
    · rw [decide_eq_true h2]
      go_enter Tryz.func41, Tryz.ntmps41
      go_wp2_with fail
      go_ret
      exact ⟨rfl, Grew.refl _⟩
    · rw [decide_eq_false h2]
      go_enter Tryz.func41, Tryz.ntmps41
      go_wp2_with fail
      go_ret
      exact ⟨rfl, Grew.refl _⟩
  · rw [decide_eq_false h1, Bool.false_and]
    go_enter Tryz.func41, Tryz.ntmps41
    go_wp2_with fail
    go_ret
    exact ⟨rfl, Grew.refl _⟩
def limB (n : Int) : Bool := decide (0 ≤ n) && decide (n ≤ 1048576)
theorem limit_c (n : Int) (w : World) : Calls Tryz.prog 50 #[.int .i64 n] w fun e w' => e = .returned (.bool (limB n)) ∧ Grew w w' := by
  unfold limB
  by_cases h1 : 0 ≤ n
  · rw [decide_eq_true h1, Bool.true_and]
    by_cases h2 : n ≤ 1048576
    · rw [decide_eq_true h2]
      go_enter Tryz.func50, Tryz.ntmps50
      go_wp2_with fail
      go_ret
      exact ⟨rfl, Grew.refl _⟩
    · rw [decide_eq_false h2]
      go_enter Tryz.func50, Tryz.ntmps50
      go_wp2_with fail
      go_ret
      exact ⟨rfl, Grew.refl _⟩
  · rw [decide_eq_false h1, Bool.false_and]
    go_enter Tryz.func50, Tryz.ntmps50
    go_wp2_with fail
    go_ret
    exact ⟨rfl, Grew.refl _⟩
set_option maxRecDepth 100000 in
theorem size_c (o : Ob.Obj) (A : Option Addr) (c : Nat) (w : World) (h1 : o.f.length ≤ 300) (h2 : o.b.size ≤ 2000) : Calls Tryz.prog 69 #[.agg #[.int .i64 o.cls, .int .i64 o.lev, .slice A o.f.length c, .string o.b]] w fun e w' => e = .returned (.int .i64 ((Hp.words o : Nat) : Int)) ∧ Grew w w' := by
  obtain ⟨cls, lev, f, b⟩ := o
  unfold Hp.words
  simp only at h1 h2 ⊢
  obtain ⟨m, em⟩ : ∃ m, m = f.length := ⟨_, rfl⟩
  rw [← em] at h1 ⊢
  have B1 := Blk.new w 30 #[.int .i64 cls, .int .i64 lev, .slice A m c, .string b]
  have G1 := (Grew.refl w).alloc (.cells #[.int .i64 cls, .int .i64 lev, .slice A m c, .string b] 30)
  clear em
  obtain ⟨k, ek⟩ : ∃ k, k = b.size := ⟨_, rfl⟩
  rw [← ek] at h2
  have HQ := hid (show ((2 + 2 * m + (b.size + 7) / 8 : Nat) : Int) = 2 + 2 * (m : Int) + ((b.size : Int) + 7) / 8 by omega)
  go_enter Tryz.func69, Tryz.ntmps69
  go_upto_region 1 with fail
  generalize w.alloc (.cells #[.int .i64 cls, .int .i64 lev, .slice A m c, .string b] 30) = w1 at *
  generalize w.heap.size = g at *
  have q2 := B1.cell 2
  have q3 := B1.cell 3
  have ql := B1.lt
  simp only [List.getElem?_toArray, List.getElem?_cons_zero, List.getElem?_cons_succ] at q2 q3
  have HB := hid B1
  have HG := hid G1
  clear B1 G1
  go_wp2_with fail
  go_ret
  refine ⟨?_, HG.out⟩
  rw [HQ.out]
  rfl
theorem hm_cell {w w' : World} {B : Nat} {v : HV} (h : MemAt w B v) (hg : Grew w w') (j : Nat) {u : Value} (hu : (hvC v)[j]? = some u) : w'.cell? ⟨v.g, j, none⟩ = some u ∧ v.g < w'.heap.size :=
  ⟨((h.blk.grew hg).cell j).trans hu, (h.blk.grew hg).lt⟩
theorem hLevels_c (v : HV) (B : Nat) (w : World) (h : MemAt w B v) : Calls Tryz.prog 35 #[.pointer (some ⟨v.g, 0, none⟩)] w fun e w' => e = .returned (.int .i64 ((v.up.length : Nat) : Int)) ∧ Grew w w' := by
  obtain ⟨q0, ql⟩ := hm_cell h (Grew.refl w) 0 (u := .slice v.U v.up.length v.cu) rfl
  clear h
  generalize v.g = g at *
  generalize v.up.length = n at *
  go_enter Tryz.func35, Tryz.ntmps35
  go_wp2_with fail
  go_ret
  exact ⟨rfl, Grew.refl _⟩
/-- Is there an object of that number? -/
def hasB (l : List (Option SX)) (i : Int) : Bool := Ob.inB i (l.length : Nat) && (l[i.toNat]?.join).isSome
theorem hasB_at {l : List (Option SX)} {i : Nat} {x : SX} (h : l[i]? = some (some x)) : hasB l (i : Int) = true := by
  have := (List.getElem?_eq_some_iff.1 h).1
  rw [hasB, Int.toNat_natCast, h]
  simp [Ob.inB, this]
theorem hasB_no {l : List (Option SX)} {i : Nat} (h : l[i]? = some none) : hasB l (i : Int) = false := by
  simp [hasB, h]
theorem hasB_out {l : List (Option SX)} {i : Int} (h : Ob.inB i (l.length : Nat) = false) : hasB l i = false := by
  simp [hasB, h]
theorem hasB_cases (l : List (Option SX)) (i : Int) : (Ob.inB i (l.length : Nat) = false) ∨ (∃ k : Nat, i = k ∧ l[k]? = some none) ∨ ∃ (k : Nat) (x : SX), i = k ∧ l[k]? = some (some x) := by
  cases hb : Ob.inB i (l.length : Nat)
  · exact .inl rfl
  · obtain ⟨k, rfl⟩ : ∃ k : Nat, i = k := ⟨i.toNat, by simp [Ob.inB] at hb; omega⟩
    have hk : k < l.length := by simp [Ob.inB] at hb; omega
    have e := List.getElem?_eq_getElem hk
    cases hx : l[k] with
    | none => exact .inr (.inl ⟨k, rfl, by rw [e, hx]⟩)
    | some x => exact .inr (.inr ⟨k, x, rfl, by rw [e, hx]⟩)
theorem hasB_find {l : List (Option SX)} {i : Int} : hasB l i = (Hp.find (its l) i).isSome := by
  rcases hasB_cases l i with h | ⟨k, rfl, h⟩ | ⟨k, x, rfl, h⟩
  · rw [hasB_out h, its_none]
    · rfl
    · intro k x hk e
      have := (List.getElem?_eq_some_iff.1 hk).1
      subst e
      simp [Ob.inB] at h
      omega
  · rw [hasB_no h, its_none]
    · rfl
    · intro j x hj e
      obtain rfl : j = k := by omega
      rw [h] at hj
      cases hj
  · rw [hasB_at h, its_find h]
    rfl
set_option maxRecDepth 100000 in
theorem has_c (v : HV) (B : Nat) (i : Int) (w : World) (h : MemAt w B v) (hn : v.sl.length ≤ 65536) : Calls Tryz.prog 45 #[.pointer (some ⟨v.g, 0, none⟩), .int .i64 i] w fun e w' => e = .returned (.bool (hasB v.sl i)) ∧ Grew w w' := by
  have HI := hid (fun W => hIndex_c i ((v.sl.length : Nat) : Int) W)
  have HM := hid (fun W (hW : Grew w W) => hm_cell h hW 26 (u := .slice v.S v.sl.length v.cs) rfl)
  have HS := hid (fun W (hW : Grew w W) k y (hy : v.sl[k]? = some y) => slot_at h hW hy)
  obtain ⟨q0, ql⟩ := HM.out w (Grew.refl w)
  have hlim : ((v.sl.length : Nat) : Int) ≤ 65536 := by omega
  clear h hn
  rcases hasB_cases v.sl i with h | ⟨k, rfl, h⟩ | ⟨k, x, rfl, h⟩
  · rw [hasB_out h]
    rw [h] at HI
    clear h
    generalize v.g = g at *
    generalize v.sl.length = n at *
    go_enter Tryz.func45, Tryz.ntmps45
    go_wp2_with (go_at_call 41; refine (HI.out _).mono ?_; rintro e w2 ⟨rfl, hg2⟩)
    go_ret
    exact ⟨rfl, hg2⟩
  · have hk := (List.getElem?_eq_some_iff.1 h).1
    have f1 : (k : Int) < ((v.sl.length : Nat) : Int) := by omega
    rw [hasB_no h]
    rw [show Ob.inB (k : Int) ((v.sl.length : Nat) : Int) = true by simp [Ob.inB, hk]] at HI
    have HSk := hid (fun W (hW : Grew w W) => HS.out W hW k none h)
    clear h HS hk
    generalize v.g = g at *
    generalize v.sl.length = n at *
    generalize v.S = S at *
    go_enter Tryz.func45, Tryz.ntmps45
    go_wp2_with (go_at_call 41; refine (HI.out _).mono ?_; rintro e w2 ⟨rfl, hg2⟩; clear q0 ql; obtain ⟨q0, ql⟩ := HM.out w2 hg2; obtain ⟨s, rfl, p0, _, pl⟩ := HSk.out w2 hg2; unfold slotV at p0)
    go_ret
    exact ⟨rfl, hg2⟩
  · have hk := (List.getElem?_eq_some_iff.1 h).1
    have f1 : (k : Int) < ((v.sl.length : Nat) : Int) := by omega
    rw [hasB_at h]
    rw [show Ob.inB (k : Int) ((v.sl.length : Nat) : Int) = true by simp [Ob.inB, hk]] at HI
    have HSk := hid (fun W (hW : Grew w W) => HS.out W hW k (some x) h)
    clear h HS hk
    generalize v.g = g at *
    generalize v.sl.length = n at *
    generalize v.S = S at *
    go_enter Tryz.func45, Tryz.ntmps45
    go_wp2_with (go_at_call 41; refine (HI.out _).mono ?_; rintro e w2 ⟨rfl, hg2⟩; clear q0 ql; obtain ⟨q0, ql⟩ := HM.out w2 hg2; obtain ⟨s, rfl, p0, _, pl⟩ := HSk.out w2 hg2; unfold slotV at p0)
    go_ret
    exact ⟨rfl, hg2⟩
end Go.Proofs.YtidnaednldcdfaaGreatDoor
namespace Go.Proofs.YtidnaednldcdfaaGreatDoor
open Go.RowKit

set_option maxRecDepth 100000 in
theorem hfind_yes (v : HV) (B : Nat) (k : Nat) (x : SX) (w : World) (h : MemAt w B v) (hn : v.sl.length ≤ 65536) (hx : v.sl[k]? = some (some x)) : Calls Tryz.prog 32 #[.pointer (some ⟨v.g, 0, none⟩), .int .i64 ((k : Nat) : Int)] w fun e w' => e = .returned (.tuple #[.pointer (some ⟨x.p, 0, none⟩), .nilIface]) ∧ Grew w w' := by
  have HH := hid (fun W (hW : Grew w W) => has_c v B (k : Int) W (h.grew hW) hn)
  have HM := hid (fun W (hW : Grew w W) => hm_cell h hW 26 (u := .slice v.S v.sl.length v.cs) rfl)
  have HS := hid (fun W (hW : Grew w W) => slot_at h hW hx)
  have hk := (List.getElem?_eq_some_iff.1 hx).1
  rw [hasB_at hx] at HH
  have f1 : (k : Int) < ((v.sl.length : Nat) : Int) := by omega
  have hlim : ((v.sl.length : Nat) : Int) ≤ 65536 := by omega
  clear h hx hk hn
  generalize v.g = g at *
  generalize v.sl.length = n at *
  generalize v.S = S at *
  go_enter Tryz.func32, Tryz.ntmps32
  go_wp2_with (go_at_call 45; refine (HH.out w (Grew.refl w)).mono ?_; rintro e w2 ⟨rfl, hg2⟩; obtain ⟨q0, ql⟩ := HM.out w2 hg2; obtain ⟨s, rfl, p0, _, pl⟩ := HS.out w2 hg2; unfold slotV at p0)
  go_ret2
  exact ⟨rfl, hg2⟩
set_option maxRecDepth 100000 in
theorem hfind_no (v : HV) (B : Nat) (i : Int) (w : World) (h : MemAt w B v) (hn : v.sl.length ≤ 65536) (hx : hasB v.sl i = false) : Calls Tryz.prog 32 #[.pointer (some ⟨v.g, 0, none⟩), .int .i64 i] w fun e w' => e = .returned (.tuple #[.pointer none, errVal 3]) ∧ Grew w w' := by
  have HH := hid (fun W (hW : Grew w W) => has_c v B i W (h.grew hW) hn)
  rw [hx] at HH
  clear h hx hn
  generalize v.g = g at *
  go_enter Tryz.func32, Tryz.ntmps32
  go_wp2_with (go_at_call 45; refine (HH.out w (Grew.refl w)).mono ?_; rintro e w2 ⟨rfl, hg2⟩)
  go_ret2
  exact ⟨rfl, hg2⟩
theorem hfind_nil (i : Int) (w : World) : Calls Tryz.prog 32 #[.pointer none, .int .i64 i] w fun e w' => e = .returned (.tuple #[.pointer none, errVal 1]) ∧ Grew w w' := by
  go_enter Tryz.func32, Tryz.ntmps32
  go_wp2_with fail
  go_ret2
  exact ⟨rfl, Grew.refl _⟩
theorem hLen_c (v : HV) (B : Nat) (w : World) (h : MemAt w B v) : Calls Tryz.prog 10 #[.pointer (some ⟨v.g, 0, none⟩)] w fun e w' => e = .returned (.int .i64 v.n) ∧ Grew w w' := by
  obtain ⟨q0, ql⟩ := hm_cell h (Grew.refl w) 27 (u := .int .i64 v.n) rfl
  clear h
  generalize v.g = g at *
  generalize v.n = n at *
  go_enter Tryz.func10, Tryz.ntmps10
  go_wp2_with fail
  go_ret
  exact ⟨rfl, Grew.refl _⟩
theorem hLen_nil (w : World) : Calls Tryz.prog 10 #[.pointer none] w fun e w' => e = .returned (.int .i64 0) ∧ Grew w w' := by
  go_enter Tryz.func10, Tryz.ntmps10
  go_wp2_with fail
  go_ret
  exact ⟨rfl, Grew.refl _⟩
def usedI (v : HV) (i : Int) : Int := if Ob.inB i (v.up.length : Nat) then v.us i.toNat else 0
set_option maxRecDepth 100000 in
theorem hUsed_c (v : HV) (B : Nat) (i : Int) (w : World) (h : MemAt w B v) (hu : v.up.length ≤ 8) : Calls Tryz.prog 11 #[.pointer (some ⟨v.g, 0, none⟩), .int .i64 i] w fun e w' => e = .returned (.int .i64 (usedI v i)) ∧ Grew w w' := by
  have HL := hid (fun W (hW : Grew w W) => hLevels_c v B W (h.grew hW))
  have HI := hid (fun W => hIndex_c i ((v.up.length : Nat) : Int) W)
  unfold usedI
  cases hb : Ob.inB i ((v.up.length : Nat) : Int)
  · rw [hb] at HI
    clear h hb
    generalize v.g = g at *
    generalize v.up.length = n at *
    go_enter Tryz.func11, Tryz.ntmps11
    go_wp2_with first | (go_at_call 35; refine (HL.out _ (Grew.refl w)).mono ?_; rintro e w2 ⟨rfl, hg2⟩) | (go_at_call 41; refine (HI.out _).mono ?_; rintro e w3 ⟨rfl, hg3⟩)
    go_ret
    exact ⟨rfl, hg2.trans hg3⟩
  · rw [hb] at HI
    obtain ⟨k, rfl⟩ : ∃ k : Nat, i = k := ⟨i.toNat, by simp [Ob.inB] at hb; omega⟩
    have hk : k < v.up.length := by simp [Ob.inB] at hb; omega
    have HM := hid (fun W (hW : Grew w W) => hm_cell h hW (10 + k) (hv_us v k (by omega)))
    have f1 : (k : Int) < 8 := by omega
    rw [if_pos rfl, Int.toNat_natCast]
    clear h hb hk
    generalize v.g = g at *
    generalize v.up.length = n at *
    generalize v.us k = u at *
    go_enter Tryz.func11, Tryz.ntmps11
    go_wp2_with first | (go_at_call 35; refine (HL.out _ (Grew.refl w)).mono ?_; rintro e w2 ⟨rfl, hg2⟩) | (go_at_call 41; refine (HI.out _).mono ?_; rintro e w3 ⟨rfl, hg3⟩; obtain ⟨q0, ql⟩ := HM.out w3 (hg2.trans hg3))
    go_ret
    exact ⟨rfl, hg2.trans hg3⟩
theorem hUsed_nil (i : Int) (w : World) : Calls Tryz.prog 11 #[.pointer none, .int .i64 i] w fun e w' => e = .returned (.int .i64 0) ∧ Grew w w' := by
  go_enter Tryz.func11, Tryz.ntmps11
  go_wp2_with fail
  go_ret
  exact ⟨rfl, Grew.refl _⟩
set_option maxRecDepth 100000 in
theorem hHash_yes (v : HV) (B : Nat) (k : Nat) (x : SX) (w : World) (h : MemAt w B v) (hn : v.sl.length ≤ 65536) (hx : v.sl[k]? = some (some x)) : Calls Tryz.prog 6 #[.pointer (some ⟨v.g, 0, none⟩), .int .i64 ((k : Nat) : Int)] w fun e w' => e = .returned (.tuple #[.int .i64 x.h, .nilIface]) ∧ Grew w w' := by
  have HF := hid (fun W (hW : Grew w W) => hfind_yes v B k x W (h.grew hW) hn hx)
  have HB := hid (h.it k x hx).2.1
  unfold sxC at HB
  clear h hx hn
  generalize v.g = g at *
  obtain ⟨p, hh, ⟨cls, lev, f, b⟩, A, c⟩ := x
  simp only at HF HB ⊢
  go_enter Tryz.func6, Tryz.ntmps6
  go_wp2_with (go_at_call 32; refine (HF.out w (Grew.refl w)).mono ?_; rintro e w2 ⟨rfl, hg2⟩; have q1 := (HB.out.grew hg2).cell 1; have ql := (HB.out.grew hg2).lt; simp only [List.getElem?_toArray, List.getElem?_cons_zero, List.getElem?_cons_succ] at q1)
  go_ret2
  exact ⟨rfl, hg2⟩
set_option maxRecDepth 100000 in
theorem hHash_no (v : HV) (B : Nat) (i : Int) (w : World) (h : MemAt w B v) (hn : v.sl.length ≤ 65536) (hx : hasB v.sl i = false) : Calls Tryz.prog 6 #[.pointer (some ⟨v.g, 0, none⟩), .int .i64 i] w fun e w' => e = .returned (.tuple #[.int .i64 0, errVal 3]) ∧ Grew w w' := by
  have HF : Hid (∀ W, Grew w W → Calls Tryz.prog 32 #[.pointer (some ⟨v.g, 0, none⟩), .int .i64 i] W fun e w' => e = .returned (.tuple #[.pointer none, .iface 91 (.int .i64 3)]) ∧ Grew W w') := hid (fun W hW => hfind_no v B i W (h.grew hW) hn hx)
  clear h hx hn
  generalize v.g = g at *
  go_enter Tryz.func6, Tryz.ntmps6
  go_wp2_with (go_at_call 32; refine (HF.out w (Grew.refl w)).mono ?_; rintro e w2 ⟨rfl, hg2⟩)
  go_ret2
  exact ⟨rfl, hg2⟩
theorem hHash_nil (i : Int) (w : World) : Calls Tryz.prog 6 #[.pointer none, .int .i64 i] w fun e w' => e = .returned (.tuple #[.int .i64 0, errVal 1]) ∧ Grew w w' := by
  have HF : Hid (∀ W, Calls Tryz.prog 32 #[.pointer none, .int .i64 i] W fun e w' => e = .returned (.tuple #[.pointer none, .iface 91 (.int .i64 1)]) ∧ Grew W w') := hid (fun W => hfind_nil i W)
  go_enter Tryz.func6, Tryz.ntmps6
  go_wp2_with (go_at_call 32; refine (HF.out w).mono ?_; rintro e w2 ⟨rfl, hg2⟩)
  go_ret2
  exact ⟨rfl, hg2⟩
end Go.Proofs.YtidnaednldcdfaaGreatDoor
namespace Go.Proofs.YtidnaednldcdfaaGreatDoor
open Go.RowKit

/-- What a copy of values is. -/
def CloneV (w : World) (l : List Ob.Val) (e : Ending) (w' : World) : Prop := ∃ A' c', e = .returned (.slice A' l.length c') ∧ Row w' w.heap.size 41 3 A' l.length c' (l.flatMap valF) ∧ Grew w w'
set_option maxRecDepth 100000 in
set_option maxHeartbeats 2000000 in
theorem cloneV_c (A : Option Addr) (c : Nat) (l : List Ob.Val) (w : World) (h : ValsAt w A l) (hl : l.length ≤ 300) : Calls Tryz.prog 65 #[.slice A l.length c] w (CloneV w l) := by
  unfold CloneV
  cases A with
  | none =>
    obtain rfl : l = [] := by
      cases l with
      | nil => rfl
      | cons x r => obtain ⟨ad, e, _⟩ := h.2 (by simp); cases e
    simp only [List.length_nil, List.flatMap_nil]
    have he : ∀ W : World, (binOp .eql 28 (.slice none 0 c) (.slice none 0 0)).run Tryz.prog W = .ok (.bool true) W := fun _ => rfl
    go_enter Tryz.func65, Tryz.ntmps65
    go_wp2_with fail
    go_ret
    exact ⟨none, 0, rfl, Row.nil _ _ _ _, Grew.refl _⟩
  | some ad =>
    obtain ⟨n, en⟩ : ∃ n, n = l.length := ⟨_, rfl⟩
    obtain ⟨cs, ecs⟩ : ∃ cs, cs = l.flatMap valF := ⟨_, rfl⟩
    have HL := hid (show cs.length = n * 3 by rw [ecs, en, flatMap_length valF_len])
    have HO := hid (show ∀ u ∈ cs, u.oneCell' = true by rw [ecs]; exact vals_one l)
    have HC := hid (show ∀ j u, cs[j]? = some u → ad.block < w.heap.size ∧ w.cell? (ad.add j) = some u by
      intro j u hu
      have h0 : 0 < l.length := by
        have h1 := (List.getElem?_eq_some_iff.1 hu).1
        rw [HL.out, en] at h1
        omega
      obtain ⟨ad', h1, h2, h3⟩ := h.2 h0
      cases h1
      exact ⟨h2, flat_cell (by decide) valF_len h3 j u (by rw [← ecs]; exact hu)⟩)
    rw [← en] at hl ⊢
    rw [← ecs]
    clear h en ecs
    have he : ∀ W : World, (binOp .eql 28 (.slice (some ad) n c) (.slice none 0 0)).run Tryz.prog W = .ok (.bool false) W := fun _ => rfl
    go_enter Tryz.func65, Tryz.ntmps65
    have R0 := hid (Row.made (w := w) (e := 41) (sz := 3) (B := w.heap.size) (Nat.le_refl _))
    have G0 := hid ((Grew.refl w).alloc (.cells #[] 41))
    go_wp2_with (at_builtin; refine wpList_catR (.agg #[.int .u8 0, .int .i64 0, .int .i64 0]) 3 24 _ rfl _ _ 28 41 rfl Tryz.underlying28 val_info rfl (by decide) w.heap.size (by simp) (some ⟨w.heap.size, 0, none⟩) 0 0 [] rfl R0.out (some ad) n c cs rfl HL.out HO.out (by intro h; cases h) (by intro ad2 e2 j u hu; cases e2; rw [G0.out.below.cell (by rw [block_add]; exact (HC.out j u hu).1)]; exact (HC.out j u hu).2) (by omega) (by omega) ?_; rintro A8 k8 w8 hR8 hK8 hT8; rw [Nat.zero_add, List.nil_append] at hR8; rw [Nat.zero_add]; have HR8 := hid hR8; have HG8 := hid (hK8.grew G0.out (Row.at_base R0.out)); clear hR8 hK8 hT8)
    go_ret
    exact ⟨A8, k8, rfl, HR8.out, HG8.out⟩
/-- What 'copied' answers. -/
def CopyV (w : World) (o : Ob.Obj) (e : Ending) (w' : World) : Prop := ∃ A' c', e = .returned (.agg #[.int .i64 o.cls, .int .i64 o.lev, .slice A' o.f.length c', .string o.b]) ∧ Row w' w.heap.size 41 3 A' o.f.length c' (o.f.flatMap valF) ∧ Grew w w'
set_option maxRecDepth 100000 in
set_option maxHeartbeats 2000000 in
theorem hcopied_c (v : OV) (w : World) (h : OvOk w v) (hl : v.o.f.length ≤ 300) : Calls Tryz.prog 33 #[.agg #[.int .i64 v.o.cls, .int .i64 v.o.lev, .slice v.A v.o.f.length v.c, .string v.o.b]] w (CopyV w v.o) := by
  obtain ⟨⟨cls, lev, f, b⟩, A, c⟩ := v
  have HC := hid (fun W (hW : Grew w W) => cloneV_c A c f W (h.f.grew hW) hl)
  unfold CloneV at HC
  clear h
  unfold CopyV
  simp only at hl HC ⊢
  obtain ⟨m, hm⟩ : ∃ m, m = f.length := ⟨_, rfl⟩
  obtain ⟨cs, hcs⟩ : ∃ cs, cs = f.flatMap valF := ⟨_, rfl⟩
  rw [← hcs, ← hm] at HC ⊢
  rw [← hm] at hl
  clear hcs hm
  have G1 := (Grew.refl w).alloc (.cells #[.int .i64 cls, .int .i64 lev, .slice A m c, .string b] 30)
  have B1 := Blk.new w 30 #[.int .i64 cls, .int .i64 lev, .slice A m c, .string b]
  have G2 := G1.alloc (.cells #[.int .i64 0, .int .i64 0, .slice none 0 0, .string ⟨#[]⟩] 30)
  have B1' := B1.grew ((Grew.refl _).alloc (.cells #[.int .i64 0, .int .i64 0, .slice none 0 0, .string ⟨#[]⟩] 30))
  have B2 := Blk.new (w.alloc (.cells #[.int .i64 cls, .int .i64 lev, .slice A m c, .string b] 30)) 30 #[.int .i64 0, .int .i64 0, .slice none 0 0, .string ⟨#[]⟩]
  have e1 : (w.alloc (.cells #[.int .i64 cls, .int .i64 lev, .slice A m c, .string b] 30)).heap.size = w.heap.size + 1 := World.size_alloc _ _
  rw [e1] at B2
  clear G1 B1
  go_enter Tryz.func33, Tryz.ntmps33
  go_upto_region 1 with fail
  generalize (w.alloc (.cells #[.int .i64 cls, .int .i64 lev, .slice A m c, .string b] 30)).alloc (.cells #[.int .i64 0, .int .i64 0, .slice none 0 0, .string ⟨#[]⟩] 30) = w1 at *
  have HG := hid G2
  obtain ⟨gb, egb⟩ : ∃ gb, gb = w.heap.size := ⟨_, rfl⟩
  rw [← egb] at B1' B2 ⊢
  have EGB := hid egb
  have HB1 := hid B1'
  have HB2 := hid B2
  have q2 := B1'.cell 2
  have ql := B1'.lt
  simp only [List.getElem?_toArray, List.getElem?_cons_zero, List.getElem?_cons_succ] at q2
  have hcall := HC.out w1 G2
  clear G2 B1' B2 e1 egb HC
  go_upto_region 2 with (go_at_call 65; refine hcall.mono ?_; rintro e w2 ⟨A2, c2, rfl, hr2, hg2⟩; have HR2 := hid hr2; have HC1 := hid (HB1.out.grew hg2); have HC2 := hid (HB2.out.grew hg2); have HG2 := hid (HG.out.trans hg2); have r2 := HC1.out.cell 2; have rf := HC1.out.frozen 2; have rl := HC1.out.lt; simp only [List.getElem?_toArray, List.getElem?_cons_zero, List.getElem?_cons_succ] at r2; clear hr2 hg2 q2 ql hcall)
  have HW1 : Hid (Grew w (w2.setCell ⟨gb, 2, none⟩ (.slice A2 m c2))) := hid (Kept.up ((Kept.of_grew HG2.out).setCell (p := ⟨gb, 2, none⟩) (fun _ => by have := EGB.out; simp only; omega) _))
  have HX1 := hid (show Blk (w2.setCell ⟨gb, 2, none⟩ (.slice A2 m c2)) gb 30 #[.int .i64 cls, .int .i64 lev, .slice A2 m c2, .string b] by
    have := HC1.out.put 2 (.slice A2 m c2)
    simpa using this)
  have HX2 := hid (HC2.out.far (p := ⟨gb, 2, none⟩) (by simp) (.slice A2 m c2))
  have HX3 := hid (HR2.out.kept ((Kept.refl (fun k => k = gb) w2).setCell (p := ⟨gb, 2, none⟩) (fun _ => rfl) (.slice A2 m c2)) (fun g hA e => by have h1 := Row.at_base HR2.out g ⟨_, hA, rfl⟩; have h2 := HB1.out.lt; omega))
  generalize w2.setCell ⟨gb, 2, none⟩ (.slice A2 m c2) = w4 at *
  clear r2 rf rl HC1 HC2 HR2 HG2
  have s0 := HX1.out.cell 0
  have s1 := HX1.out.cell 1
  have s2 := HX1.out.cell 2
  have s3 := HX1.out.cell 3
  have sl := HX1.out.lt
  have t0 := HX2.out.cell 0
  have t1 := HX2.out.cell 1
  have t2 := HX2.out.cell 2
  have t3 := HX2.out.cell 3
  have tl := HX2.out.lt
  have tf := HX2.out.frozen
  simp only [List.getElem?_toArray, List.getElem?_cons_zero, List.getElem?_cons_succ] at s0 s1 s2 s3 t0 t1 t2 t3
  go_wp2_with fail
  refine bodyPost_ret (v := .agg #[.int .i64 cls, .int .i64 lev, .slice A2 m c2, .string b]) (res_obj1 rfl _ (gb + 1) rfl _ _ _ _ _ (HX2.out.put4 _ _ _ _)) rfl ?_
  refine ⟨A2, c2, rfl, ?_, Kept.up (kept4 (Kept.of_grew HW1.out) (fun _ => by have h1 := EGB.out; show w.heap.size ≤ gb + 1; omega) _ _ _ _)⟩
  have hl1 : ∀ g, A2 = some ⟨g, 0, none⟩ → w1.heap.size ≤ g := fun g hA => Row.at_base HX3.out g ⟨_, hA, rfl⟩
  have hl2 := HB2.out.lt
  have hk : Kept (fun k => k = gb + 1) w4 ((((w4.setCell ⟨gb + 1, 0, none⟩ (.int .i64 cls)).setCell ⟨gb + 1, 1, none⟩ (.int .i64 lev)).setCell ⟨gb + 1, 2, none⟩ (.slice A2 m c2)).setCell ⟨gb + 1, 3, none⟩ (.string b)) := kept4 (Kept.refl (fun k => k = gb + 1) w4) (fun _ => rfl) _ _ _ _
  exact (HX3.out.kept hk (fun g hA e => by have := hl1 g hA; omega)).low HG.out.below.size
set_option maxRecDepth 100000 in
theorem res_hget (tmps : Array Value) (g : Nat) (ha : tmps.getD 4 undef = .pointer (some ⟨g, 0, none⟩)) (v : Value) (hv : tmps.getD 5 undef = v) (w : World) (c0 c1 c2 c3 : Value) (hb : Blk w g 30 #[c0, c1, c2, c3]) :
    (results Tryz.f5 tmps).run Tryz.prog w = .ok (.tuple #[.agg #[c0, c1, c2, c3], v]) w := by
  have y0 : w.cell? ⟨g, 0, none⟩ = some c0 := hb.cell 0
  have y1 : w.cell? ⟨g, 1, none⟩ = some c1 := hb.cell 1
  have y2 : w.cell? ⟨g, 2, none⟩ = some c2 := hb.cell 2
  have y3 : w.cell? ⟨g, 3, none⟩ = some c3 := hb.cell 3
  have ha' : tmps[4]?.getD undef = .pointer (some ⟨g, 0, none⟩) := by simpa using ha
  have hv' : tmps[5]?.getD undef = v := by simpa using hv
  simp [results, Tryz.results5, go_sem, *]
def zeroH : Array Value := #[.int .i64 0, .int .i64 0, .slice none 0 0, .string ⟨#[]⟩]
/-- What Get answers of an object that there is. -/
def GetV (w : World) (o : Ob.Obj) (e : Ending) (w' : World) : Prop := ∃ A' c', e = .returned (.tuple #[.agg #[.int .i64 o.cls, .int .i64 o.lev, .slice A' o.f.length c', .string o.b], .nilIface]) ∧ Row w' w.heap.size 41 3 A' o.f.length c' (o.f.flatMap valF) ∧ Grew w w'
set_option maxRecDepth 100000 in
set_option maxHeartbeats 2000000 in
theorem hGet_yes (v : HV) (B C : Nat) (i : Nat) (x : SX) (w : World) (h : MemAt w B v) (hv : HvOk v C) (hx : v.sl[i]? = some (some x)) : Calls Tryz.prog 5 #[.pointer (some ⟨v.g, 0, none⟩), .int .i64 ((i : Nat) : Int)] w (GetV w x.o) := by
  have hsp := hp_head (hv.at hx).1
  have HCC := hid (fun W (hW : Grew w W) => hcopied_c ⟨x.o, x.A, x.c⟩ W (sx_ok (h.grew hW) hv hx) (by have := hsp.2.2.2.2.1; simp only; omega))
  have HFI := hid (fun W (hW : Grew w W) => hfind_yes v B i x W (h.grew hW) hv.len hx)
  have HB := hid (h.it i x hx).2.1
  unfold sxC at HB
  unfold GetV
  simp only at HCC
  clear h hsp hv hx
  generalize v.g = sg at *
  obtain ⟨p, hh, ⟨cls, lev, f, b⟩, A, c⟩ := x
  simp only at HCC HFI HB ⊢
  unfold CopyV at HCC
  simp only at HCC
  obtain ⟨m, em⟩ : ∃ m, m = f.length := ⟨_, rfl⟩
  obtain ⟨cs, ecs⟩ : ∃ cs, cs = f.flatMap valF := ⟨_, rfl⟩
  rw [← em, ← ecs] at HCC
  rw [← em] at HB
  rw [← em, ← ecs]
  clear em ecs
  have G1 := (Grew.refl w).alloc (.cells #[.int .i64 0, .int .i64 0, .slice none 0 0, .string ⟨#[]⟩] 30)
  have B1 := Blk.new w 30 #[.int .i64 0, .int .i64 0, .slice none 0 0, .string ⟨#[]⟩]
  go_enter Tryz.func5, Tryz.ntmps5
  go_upto_region 1 with fail
  obtain ⟨gb, egb⟩ : ∃ gb, gb = w.heap.size := ⟨_, rfl⟩
  generalize w.alloc (.cells #[.int .i64 0, .int .i64 0, .slice none 0 0, .string ⟨#[]⟩] 30) = w1 at *
  rw [← egb] at B1 ⊢
  have HG1 := hid G1
  have HB1 := hid B1
  have EGB := hid egb
  clear G1 B1 egb
  go_upto_region 4 with (go_at_call 32; refine (HFI.out _ HG1.out).mono ?_; rintro e w2 ⟨rfl, hg2⟩)
  have HG2 := hid (HG1.out.trans hg2)
  have HB2 := hid (HB1.out.grew hg2)
  clear hg2 HFI HB1
  have HI2 := hid (HB.out.grew HG2.out)
  have q2 := HI2.out.cell 2
  have q3 := HI2.out.cell 3
  have q4 := HI2.out.cell 4
  have q5 := HI2.out.cell 5
  have ql := HI2.out.lt
  simp only [List.getElem?_toArray, List.getElem?_cons_zero, List.getElem?_cons_succ] at q2 q3 q4 q5
  have hcall := HCC.out w2 HG2.out
  clear HB HCC HI2
  go_wp2_with (go_at_call 33; refine hcall.mono ?_; rintro e w3 ⟨A3, c3, rfl, hr3, hg3⟩; have HR3 := hid hr3; have HB3 := hid (HB2.out.grew hg3); have HG3 := hid (HG2.out.trans hg3); have t0 := HB3.out.cell 0; have t1 := HB3.out.cell 1; have t2 := HB3.out.cell 2; have t3 := HB3.out.cell 3; have tl := HB3.out.lt; have tf := HB3.out.frozen; simp only [List.getElem?_toArray, List.getElem?_cons_zero, List.getElem?_cons_succ] at t0 t1 t2 t3; clear hr3 hg3 q2 q3 q4 q5 ql)
  refine bodyPost_ret (v := .tuple #[.agg #[.int .i64 cls, .int .i64 lev, .slice A3 m c3, .string b], .nilIface]) (res_hget _ gb rfl _ rfl _ _ _ _ _ (HB3.out.put4 _ _ _ _)) rfl ?_
  refine ⟨A3, c3, rfl, ?_, Kept.up (kept4 (Kept.of_grew HG3.out) (fun _ => by have h1 := EGB.out; show w.heap.size ≤ gb; omega) _ _ _ _)⟩
  have hl1 : ∀ g, A3 = some ⟨g, 0, none⟩ → w2.heap.size ≤ g := fun g hA => Row.at_base HR3.out g ⟨_, hA, rfl⟩
  have hl2 := HB2.out.lt
  have hk : Kept (fun k => k = gb) w3 ((((w3.setCell ⟨gb, 0, none⟩ (.int .i64 cls)).setCell ⟨gb, 1, none⟩ (.int .i64 lev)).setCell ⟨gb, 2, none⟩ (.slice A3 m c3)).setCell ⟨gb, 3, none⟩ (.string b)) := kept4 (Kept.refl (fun k => k = gb) w3) (fun _ => rfl) _ _ _ _
  exact (HR3.out.kept hk (fun g hA e => by have := hl1 g hA; omega)).low HG2.out.below.size
set_option maxRecDepth 100000 in
theorem hGet_no (v : HV) (B : Nat) (i : Int) (w : World) (h : MemAt w B v) (hn : v.sl.length ≤ 65536) (hi : hasB v.sl i = false) : Calls Tryz.prog 5 #[.pointer (some ⟨v.g, 0, none⟩), .int .i64 i] w fun e w' => e = .returned (.tuple #[.agg zeroH, errVal 3]) ∧ Grew w w' := by
  have HFI : Hid (∀ W, Grew w W → Calls Tryz.prog 32 #[.pointer (some ⟨v.g, 0, none⟩), .int .i64 i] W fun e w' => e = .returned (.tuple #[.pointer none, .iface 91 (.int .i64 3)]) ∧ Grew W w') := hid (fun W hW => hfind_no v B i W (h.grew hW) hn hi)
  clear h hi hn
  generalize v.g = sg at *
  have G1 := (Grew.refl w).alloc (.cells #[.int .i64 0, .int .i64 0, .slice none 0 0, .string ⟨#[]⟩] 30)
  have B1 := Blk.new w 30 #[.int .i64 0, .int .i64 0, .slice none 0 0, .string ⟨#[]⟩]
  go_enter Tryz.func5, Tryz.ntmps5
  go_upto_region 1 with fail
  obtain ⟨gb, egb⟩ : ∃ gb, gb = w.heap.size := ⟨_, rfl⟩
  generalize w.alloc (.cells #[.int .i64 0, .int .i64 0, .slice none 0 0, .string ⟨#[]⟩] 30) = w1 at *
  rw [← egb] at B1 ⊢
  have HG1 := hid G1
  have HB1 := hid B1
  have EGB := hid egb
  clear G1 B1 egb
  go_wp2_with (go_at_call 32; refine (HFI.out _ HG1.out).mono ?_; rintro e w2 ⟨rfl, hg2⟩; have HB3 := hid (HB1.out.grew hg2); have HG3 := hid (HG1.out.trans hg2); have t0 := HB3.out.cell 0; have t1 := HB3.out.cell 1; have t2 := HB3.out.cell 2; have t3 := HB3.out.cell 3; have tl := HB3.out.lt; have tf := HB3.out.frozen; simp only [List.getElem?_toArray, List.getElem?_cons_zero, List.getElem?_cons_succ] at t0 t1 t2 t3; clear hg2)
  refine bodyPost_ret (v := .tuple #[.agg zeroH, errVal 3]) (res_hget _ gb rfl _ rfl _ _ _ _ _ (HB3.out.put4 _ _ _ _)) rfl ?_
  exact ⟨rfl, Kept.up (kept4 (Kept.of_grew HG3.out) (fun _ => by have h1 := EGB.out; show w.heap.size ≤ gb; omega) _ _ _ _)⟩
set_option maxRecDepth 100000 in
theorem hGet_nil (i : Int) (w : World) : Calls Tryz.prog 5 #[.pointer none, .int .i64 i] w fun e w' => e = .returned (.tuple #[.agg zeroH, errVal 1]) ∧ Grew w w' := by
  have HFI : Hid (∀ W, Calls Tryz.prog 32 #[.pointer none, .int .i64 i] W fun e w' => e = .returned (.tuple #[.pointer none, .iface 91 (.int .i64 1)]) ∧ Grew W w') := hid (fun W => hfind_nil i W)
  have G1 := (Grew.refl w).alloc (.cells #[.int .i64 0, .int .i64 0, .slice none 0 0, .string ⟨#[]⟩] 30)
  have B1 := Blk.new w 30 #[.int .i64 0, .int .i64 0, .slice none 0 0, .string ⟨#[]⟩]
  go_enter Tryz.func5, Tryz.ntmps5
  go_upto_region 1 with fail
  obtain ⟨gb, egb⟩ : ∃ gb, gb = w.heap.size := ⟨_, rfl⟩
  generalize w.alloc (.cells #[.int .i64 0, .int .i64 0, .slice none 0 0, .string ⟨#[]⟩] 30) = w1 at *
  rw [← egb] at B1 ⊢
  have HG1 := hid G1
  have HB1 := hid B1
  have EGB := hid egb
  clear G1 B1 egb
  go_wp2_with (go_at_call 32; refine (HFI.out _).mono ?_; rintro e w2 ⟨rfl, hg2⟩; have HB3 := hid (HB1.out.grew hg2); have HG3 := hid (HG1.out.trans hg2); have t0 := HB3.out.cell 0; have t1 := HB3.out.cell 1; have t2 := HB3.out.cell 2; have t3 := HB3.out.cell 3; have tl := HB3.out.lt; have tf := HB3.out.frozen; simp only [List.getElem?_toArray, List.getElem?_cons_zero, List.getElem?_cons_succ] at t0 t1 t2 t3; clear hg2)
  refine bodyPost_ret (v := .tuple #[.agg zeroH, errVal 1]) (res_hget _ gb rfl _ rfl _ _ _ _ _ (HB3.out.put4 _ _ _ _)) rfl ?_
  exact ⟨rfl, Kept.up (kept4 (Kept.of_grew HG3.out) (fun _ => by have h1 := EGB.out; show w.heap.size ≤ gb; omega) _ _ _ _)⟩
end Go.Proofs.YtidnaednldcdfaaGreatDoor
namespace Go.Proofs.YtidnaednldcdfaaGreatDoor
open Go.RowKit

namespace Hp
/-- The words of the levels up to one. -/
def sumTo (L : List It) : Nat → Nat
  | 0 => 0
  | n + 1 => sumTo L n + used L (n : Int)
theorem sumTo_cons (x : It) (r : List It) : ∀ n : Nat, sumTo (x :: r) n = (if 0 ≤ x.o.lev ∧ x.o.lev < (n : Int) then words x.o else 0) + sumTo r n
  | 0 => by
    rw [if_neg (by omega)]
    rfl
  | n + 1 => by
    rw [sumTo, sumTo, sumTo_cons x r n]
    have e : used (x :: r) (n : Int) = (if x.o.lev = (n : Int) then words x.o else 0) + used r (n : Int) := by
      unfold used
      simp only [sumIf, lvl, decide_eq_true_eq]
    rw [e]
    by_cases h1 : x.o.lev = (n : Int)
    · rw [if_pos h1, if_neg (by omega), if_pos (by omega)]
      omega
    · rw [if_neg h1]
      by_cases h2 : 0 ≤ x.o.lev ∧ x.o.lev < (n : Int)
      · rw [if_pos h2, if_pos (by omega)]
        omega
      · rw [if_neg h2, if_neg (by omega)]
        omega
theorem sumTo_all (n : Nat) : ∀ (L : List It), (∀ x ∈ L, 0 ≤ x.o.lev ∧ x.o.lev < (n : Int)) → sumTo L n = all L
  | [], _ => by
    induction n with
    | zero => rfl
    | succ n ih => rw [sumTo, ih (by simp)]; rfl
  | x :: r, h => by
    rw [sumTo_cons, if_pos (h x (List.mem_cons_self ..)), sumTo_all n r (fun y hy => h y (List.mem_cons_of_mem _ hy))]
    unfold all
    simp only [sumIf, if_true]
theorem sumTo_mono (L : List It) {a b : Nat} (h : a ≤ b) : sumTo L a ≤ sumTo L b := by
  induction b with
  | zero => obtain rfl : a = 0 := by omega
            exact Nat.le_refl _
  | succ b ih =>
    rcases Nat.lt_or_ge a (b + 1) with h1 | h1
    · have := ih (by omega)
      rw [sumTo]; omega
    · obtain rfl : a = b + 1 := by omega
      exact Nat.le_refl _
def fits (L : List It) (room : Int) (q : Nat → Int) (o : Ob.Obj) : Bool := decide (((words o + all L : Nat) : Int) ≤ room) && decide (((used L o.lev + words o : Nat) : Int) ≤ q o.lev.toNat)
end Hp
theorem its_lev {v : HV} {C : Nat} (hv : HvOk v C) : ∀ x ∈ its v.sl, 0 ≤ x.o.lev ∧ x.o.lev < ((8 : Nat) : Int) := fun x hx => by
  have h1 := hp_head (hv.ok x hx)
  have h2 := hv.lens
  omega
theorem words_le {n : Nat} {o : Ob.Obj} (h : Ob.mayB n o = true) : Hp.words o ≤ 643 := by
  have h1 := hp_head h
  unfold Hp.words
  omega
set_option maxRecDepth 100000 in
theorem index8 (us : Nat → Int) (k : Nat) (hk : k < 8) (W : World) : (Instr.index 92 (.agg #[.int .i64 (us 0), .int .i64 (us 1), .int .i64 (us 2), .int .i64 (us 3), .int .i64 (us 4), .int .i64 (us 5), .int .i64 (us 6), .int .i64 (us 7)]) (.int .i64 (k : Int))).run Tryz.prog W = .ok (.int .i64 (us k)) W := by
  rcases (by omega : k = 0 ∨ k = 1 ∨ k = 2 ∨ k = 3 ∨ k = 4 ∨ k = 5 ∨ k = 6 ∨ k = 7) with rfl | rfl | rfl | rfl | rfl | rfl | rfl | rfl <;> rfl
set_option maxRecDepth 100000 in
set_option maxHeartbeats 4000000 in
theorem hasRoom_c (v : HV) (B C : Nat) (o : Ob.Obj) (A : Option Addr) (c : Nat) (w : World) (h : MemAt w B v) (hv : HvOk v C) (ho : Ob.mayB v.up.length o = true) : Calls Tryz.prog 36 #[.pointer (some ⟨v.g, 0, none⟩), .agg #[.int .i64 o.cls, .int .i64 o.lev, .slice A o.f.length c, .string o.b]] w fun e w' => e = .returned (.bool (Hp.fits (its v.sl) v.room v.q o)) ∧ Grew w w' := by
  have hh := hp_head ho
  have hl := hv.lens
  have HS := hid (fun W => size_c o A c W (by omega) (by omega))
  obtain ⟨ws, ews⟩ : ∃ ws, ws = Hp.words o := ⟨_, rfl⟩
  have hws := words_le ho
  rw [← ews] at HS hws
  obtain ⟨j, ej⟩ : ∃ j : Nat, o.lev = (j : Int) := ⟨o.lev.toNat, by omega⟩
  have hj8 : j < 8 := by omega
  have HRo := hid (fun W (hW : Grew w W) => hm_cell h hW 1 (u := .int .i64 v.room) rfl)
  have HU := hid (fun W (hW : Grew w W) (k : Nat) (hk : k < 8) => hm_cell h hW (10 + k) (hv_us v k hk))
  have HUj := hid (fun W (hW : Grew w W) => hm_cell h hW (10 + j) (hv_us v j hj8))
  have HQj := hid (fun W (hW : Grew w W) => hm_cell h hW (2 + j) (hv_q v j hj8))
  have hall := Hp.sumTo_all 8 (its v.sl) (its_lev hv)
  have hfa := hv.fitAll
  have hr := hv.room
  have hq := hv.q j
  have HUS := hid hv.us
  have husj := hv.us j
  have hul := Hp.used_le (its v.sl) (j : Int)
  obtain ⟨R, hR⟩ : ∃ R, R = Hp.fits (its v.sl) v.room v.q o := ⟨_, rfl⟩
  rw [← hR]
  have ER := hid (show R = (decide (((ws + Hp.all (its v.sl) : Nat) : Int) ≤ v.room) && decide (v.us j + (ws : Int) ≤ v.q j)) by
    rw [hR, Hp.fits, ← ews, husj, ej]
    rfl)
  have HST := hid (show ∀ k, k ≤ 8 → Hp.sumTo (its v.sl) k ≤ Hp.all (its v.sl) from fun k hk => by rw [← hall]; exact Hp.sumTo_mono _ hk)
  have HSE := hid hall
  have hus := (show 0 ≤ v.us j ∧ v.us j ≤ 1048576 by omega)
  have h8 := (show ∀ k, k < 8 → 0 ≤ v.us k ∧ v.us k ≤ 1048576 from fun k hk => by have h1 := hv.us k; have h2 := Hp.used_le (its v.sl) (k : Int); omega)
  have u0 := h8 0 (by decide)
  have hal : Hp.all (its v.sl) ≤ 1048576 := by omega
  have EJ := hid ej
  have HV8 := hid h8
  clear h hR hv ho hh hl hall hfa h8 husj hul ews u0
  obtain ⟨cls, lev, f, b⟩ := o
  simp only at ej HS EJ ⊢
  subst ej
  generalize v.g = g at *
  generalize v.up.length = un at *
  generalize v.room = room at *
  generalize v.q j = qj at *
  generalize f.length = m at *
  obtain ⟨us, eus⟩ : ∃ us, us = v.us := ⟨_, rfl⟩
  rw [← eus] at HU HUj ER HUS HV8 hus
  clear eus
  have HIX := hid (index8 us)
  have B1 := Blk.new w 30 #[.int .i64 cls, .int .i64 (j : Int), .slice A m c, .string b]
  have G1 := (Grew.refl w).alloc (.cells #[.int .i64 cls, .int .i64 (j : Int), .slice A m c, .string b] 30)
  go_enter Tryz.func36, Tryz.ntmps36
  go_upto_region 1 with fail
  generalize w.alloc (.cells #[.int .i64 cls, .int .i64 (j : Int), .slice A m c, .string b] 30) = w1 at *
  generalize w.heap.size = gx at *
  have HB1 := hid B1
  have HG1 := hid G1
  have q0 := B1.cell 0
  have q1 := B1.cell 1
  have q2 := B1.cell 2
  have q3 := B1.cell 3
  have ql := B1.lt
  simp only [List.getElem?_toArray, List.getElem?_cons_zero, List.getElem?_cons_succ] at q0 q1 q2 q3
  clear B1 G1
  go_upto_region 2 with (go_at_call 69; refine (HS.out _).mono ?_; rintro e w2 ⟨rfl, hg2⟩)
  have HG2 := hid (HG1.out.trans hg2)
  have HB2 := hid (HB1.out.grew hg2)
  clear q0 q1 q2 q3 ql hg2 HB1
  obtain ⟨r0, rl⟩ := HU.out w2 HG2.out 0 (by decide)
  obtain ⟨r1, -⟩ := HU.out w2 HG2.out 1 (by decide)
  obtain ⟨r2, -⟩ := HU.out w2 HG2.out 2 (by decide)
  obtain ⟨r3, -⟩ := HU.out w2 HG2.out 3 (by decide)
  obtain ⟨r4, -⟩ := HU.out w2 HG2.out 4 (by decide)
  obtain ⟨r5, -⟩ := HU.out w2 HG2.out 5 (by decide)
  obtain ⟨r6, -⟩ := HU.out w2 HG2.out 6 (by decide)
  obtain ⟨r7, -⟩ := HU.out w2 HG2.out 7 (by decide)
  go_upto_region 3 with fail
  clear r0 r1 r2 r3 r4 r5 r6 r7 rl
  go_loopw [5, 14] (fun s5 s14 wr => ∃ (k : Nat), s14 = .int .i64 ((k : Nat) : Int) ∧ k ≤ 8 ∧ s5 = .int .i64 ((ws + Hp.sumTo (its v.sl) k : Nat) : Int) ∧ Hid (wr = w2)) (fun _ s14 _ => 8 - (intOf s14).toNat)
  case atStart => exact ⟨0, rfl, by decide, rfl, hid rfl⟩
  case round =>
    obtain ⟨k, rfl, hk, rfl, HW⟩ := hrel
    by_cases hlt : k < 8
    · have f1 : (k : Int) < 8 := by omega
      have hix := HIX.out k hlt
      have hb := HV8.out k hlt
      have hst := HST.out k (by omega)
      have hs1 := hid (show ((ws + Hp.sumTo (its v.sl) (k + 1) : Nat) : Int) = ((ws + Hp.sumTo (its v.sl) k : Nat) : Int) + us k by rw [Hp.sumTo, HUS.out k]; omega)
      generalize hsum : (ws + Hp.sumTo (its v.sl) k : Nat) = sm at *
      have hsm : sm ≤ 2000000 := by omega
      generalize us k = uk at *
      clear hsum hst
      go_wp2_with fail
      go_round
      case rel => exact ⟨k + 1, by go_num, by omega, by rw [hs1.out], HW⟩
      case measure => simp [intOf]; omega
    · have f1 : ¬ (k : Int) < 8 := by omega
      have hw : wr = w2 := HW.out
      subst hw
      rw [show Hp.sumTo (its v.sl) k = Hp.all (its v.sl) by rw [show k = 8 by omega, HSE.out]]
      obtain ⟨al, eal⟩ : ∃ al, al = ws + Hp.all (its v.sl) := ⟨_, rfl⟩
      rw [← eal] at ER ⊢
      have hal2 : (al : Int) ≤ 2000000 := by omega
      clear eal HST HSE HIX HUS HV8 HU hk hlt hal HW
      go_upto_region 7 with fail
      clear f1
      have q0 := fun (y : After wr) => (HRo.out y.w (HG2.out.trans y.grew)).1
      have q1 := fun (y : After wr) => (HRo.out y.w (HG2.out.trans y.grew)).2
      by_cases hc : (al : Int) ≤ room
      · rw [decide_eq_true hc, Bool.true_and] at ER
        have q2 := fun (y : After wr) => (HUj.out y.w (HG2.out.trans y.grew)).1
        have q3 := fun (y : After wr) => (HQj.out y.w (HG2.out.trans y.grew)).1
        have p0 := fun (y : After wr) => (HB2.out.grew y.grew).cell 0
        have p1 := fun (y : After wr) => (HB2.out.grew y.grew).cell 1
        have p2 := fun (y : After wr) => (HB2.out.grew y.grew).cell 2
        have p3 := fun (y : After wr) => (HB2.out.grew y.grew).cell 3
        have pl := fun (y : After wr) => (HB2.out.grew y.grew).lt
        simp only [List.getElem?_toArray, List.getElem?_cons_zero, List.getElem?_cons_succ] at p0 p1 p2 p3
        have f8 : (j : Int) < 8 := by omega
        obtain ⟨uj, euj⟩ : ∃ uj, uj = us j := ⟨_, rfl⟩
        rw [← euj] at ER hus
        simp only [← euj] at q2
        clear euj HRo HUj HQj
        refine wp_region_grew_from (w0 := wr) (Grew.refl wr) (by kernel_rfl) (by kernel_rfl) ?_
        repeat (go_big_quiet_step (first | (go_at_call 69; exact Calls.grew (After.grew _) (HS.out _))))
        refine wpQuiet_nil ?_
        rintro _ ⟨y, rfl⟩
        clear q0 q1 q2 q3 p0 p1 p2 p3 pl
        go_wp2_with fail
        go_ret
        exact ⟨by rw [ER.out]; rfl, HG2.out.trans y.grew⟩
      · rw [decide_eq_false hc, Bool.false_and] at ER
        refine wp_region_grew_from (w0 := wr) (Grew.refl wr) (by kernel_rfl) (by kernel_rfl) ?_
        repeat (go_big_quiet_step (fail))
        refine wpQuiet_nil ?_
        rintro _ ⟨y, rfl⟩
        clear q0 q1
        go_wp2_with fail
        go_ret
        exact ⟨by rw [ER.out]; rfl, HG2.out.trans y.grew⟩
end Go.Proofs.YtidnaednldcdfaaGreatDoor
namespace Go.Proofs.YtidnaednldcdfaaGreatDoor
open Go.RowKit

/-- All below a number are there. -/
def Full (l : List (Option SX)) (i : Nat) : Prop := ∀ k : Nat, k < i → ∃ x, l[k]? = some (some x)
theorem Full.le {l : List (Option SX)} {i : Nat} (h : Full l i) : i ≤ l.length := by
  rcases Nat.eq_zero_or_pos i with h0 | h0
  · omega
  · obtain ⟨x, hx⟩ := h (i - 1) (by omega)
    have := (List.getElem?_eq_some_iff.1 hx).1
    omega
theorem Full.least {l : List (Option SX)} {i : Nat} (h : Full l i) (hn : hasB l (i : Int) = false) : Hp.least (its l) = i := by
  refine Hp.least_eq (its_sorted l) (fun x hx => (its_nonneg x hx).1) (fun k hk => ?_) (fun x hx e => ?_)
  · obtain ⟨x, hx⟩ := h k hk
    exact ⟨⟨(k : Int), x.h, x.o⟩, mem_its.2 ⟨k, x, hx, rfl⟩, rfl⟩
  · obtain ⟨k, y, hy, rfl⟩ := mem_its.1 hx
    simp only at e
    obtain rfl : k = i := by omega
    rw [hasB_at hy] at hn
    cases hn
def setFr (v : HV) (i : Int) : HV := { v with fr := i }
def frOf (g : Nat) (w : World) : Nat := match w.cell? ⟨g, 28, none⟩ with
  | some (.int _ i) => i.toNat
  | _ => 0
set_option maxRecDepth 100000 in
set_option maxHeartbeats 4000000 in
theorem leastFree_c (v : HV) (B C : Nat) (w : World) (h : MemAt w B v) (hv : HvOk v C) : Calls Tryz.prog 37 #[.pointer (some ⟨v.g, 0, none⟩)] w fun e w' => e = .returned (.int .i64 ((Hp.least (its v.sl) : Nat) : Int)) ∧ Step w B v (setFr v ((Hp.least (its v.sl) : Nat) : Int)) w' ∧ Full v.sl (Hp.least (its v.sl)) ∧ hasB v.sl (Hp.least (its v.sl) : Int) = false := by
  obtain ⟨f0, ef⟩ : ∃ f0 : Nat, v.fr = (f0 : Int) := ⟨v.fr.toNat, by have := hv.fr.1; omega⟩
  have hF0 : Full v.sl f0 := fun k hk => hv.fr.2.2 k (by omega)
  have hS0 : Step w B v (setFr v (f0 : Int)) w := by
    rw [← ef]
    exact Step.refl h
  have hlen := hv.len
  have HH : Hid (∀ W (i : Int), MemAt W B (setFr v i) → Calls Tryz.prog 45 #[.pointer (some ⟨v.g, 0, none⟩), .int .i64 i] W fun e w' => e = .returned (.bool (hasB v.sl i)) ∧ Grew W w') := hid (fun W i hW => has_c (setFr v i) B i W hW hlen)
  have HM : Hid (∀ W (i : Int), MemAt W B (setFr v i) → W.cell? ⟨v.g, 28, none⟩ = some (.int .i64 i) ∧ v.g < W.heap.size) := hid (fun W i hW => hm_cell hW (Grew.refl W) 28 (u := .int .i64 i) rfl)
  have HI : Hid (∀ W (i j : Int), MemAt W B (setFr v i) → Step W B (setFr v i) (setFr v j) (W.setCell ⟨v.g, 28, none⟩ (.int .i64 j))) := hid (fun W i j hW => MemAt.cell hW 28 (.int .i64 j) (setFr v j) rfl rfl rfl rfl rfl rfl rfl rfl rfl rfl)
  have HFz : Hid (∀ (W : World) (i : Int), MemAt W B (setFr v i) → W.frozen? ⟨v.g, 28, none⟩ = false) := hid (fun W i hW => hW.blk.frozen 28)
  have HF0 := hid hF0
  have HS0 := hid hS0
  clear hF0 hS0 ef h hv
  obtain ⟨g, eg⟩ : ∃ g, g = v.g := ⟨_, rfl⟩
  rw [← eg] at HH HM HI HFz ⊢
  clear eg
  go_enter Tryz.func37, Tryz.ntmps37
  go_wp2_with fail
  go_loopw [] (fun wr => ∃ (i : Nat), Hid (Full v.sl i) ∧ Hid (Step w B v (setFr v (i : Int)) wr)) (fun wr => 65537 - frOf g wr)
  case atStart => exact ⟨f0, HF0, HS0⟩
  case round =>
    obtain ⟨i, HFu, HSt⟩ := hrel
    have hi := HFu.out.le
    have hib : (i : Int) ≤ 65536 := by omega
    obtain ⟨q0, ql⟩ := HM.out wr i HSt.out.mem
    have hcall := HH.out wr i HSt.out.mem
    cases hb : hasB v.sl (i : Int)
    · rw [hb] at hcall
      have HB := hid hb
      clear hb
      go_wp2_with (go_at_call 45; refine hcall.mono ?_; rintro e w2 ⟨rfl, hg2⟩; clear q0 ql hcall; have HS2 := hid (HSt.out.grew hg2); obtain ⟨q0, ql⟩ := HM.out w2 i HS2.out.mem)
      go_ret
      have hle := HFu.out.least HB.out
      rw [hle]
      exact ⟨rfl, HS2.out, HFu.out, HB.out⟩
    · rw [hb] at hcall
      have HB := hid hb
      clear hb
      go_wp2_with (go_at_call 45; refine hcall.mono ?_; rintro e w2 ⟨rfl, hg2⟩; have HQ0 := hid q0; clear q0 ql hcall; have HS2 := hid (HSt.out.grew hg2); obtain ⟨q0, ql⟩ := HM.out w2 i HS2.out.mem; have qf := HFz.out w2 i HS2.out.mem)
      have HS3 := hid (HS2.out.trans (HI.out w2 i ((i : Int) + 1) HS2.out.mem))
      have HQ3 := hid ((HM.out _ _ HS3.out.mem).1)
      go_round
      case rel =>
        refine ⟨i + 1, hid (fun k hk => ?_), ?_⟩
        · rcases Nat.lt_or_ge k i with h1 | h1
          · exact HFu.out k h1
          · obtain rfl : k = i := by omega
            rcases hasB_cases v.sl (k : Int) with h2 | ⟨j, e, h2⟩ | ⟨j, x, e, h2⟩
            · rw [hasB_out h2] at HB
              cases HB.out
            · rw [e, hasB_no h2] at HB
              cases HB.out
            · obtain rfl : k = j := by omega
              exact ⟨x, h2⟩
        · have := HS3
          simpa using this
      case measure =>
        unfold frOf
        rw [HQ3.out, HQ0.out]
        simp only
        omega
end Go.Proofs.YtidnaednldcdfaaGreatDoor

/- Stage 11: values and objects in memory. -/
import Derived.Test.YtcfknfiddadgbaaDoorObP
import Derived.Test.YtcfknfiddadgbaaDoorZBase
namespace Go.Proofs.YtcfknfiddadgbaaDoor
open Go.RowKit

theorem add_pos {a : Addr} {j : Nat} (hj : j ≠ 0) : a.add j = ⟨a.block, a.off + j, none⟩ := by simp [Addr.add, hj]
theorem Row.of_blk {w : World} {B g : Nat} {e : TypeId} {s n : Nat} {cs : Array Value} (h : Blk w g e cs) (hB : B ≤ g) (hn : cs.size = n * s) (hm : n ≤ 9223372036854775807) : Row w B e s (some ⟨g, 0, none⟩) n n cs.toList :=
  ⟨by simpa using hn, .inr ⟨g, n, cs, rfl, hB, h, Nat.le_refl _, by simp only [maxLen]; omega, hn, by rw [List.take_of_length_le (by simp; omega)]⟩⟩
theorem Row.at_base {w : World} {B : Nat} {e : TypeId} {s : Nat} {A : Option Addr} {n c : Nat} {vs : List Value} (h : Row w B e s A n c vs) : ∀ k, AtRow A k → B ≤ k := by
  rintro k ⟨ad, rfl, rfl⟩
  rcases h.cases with ⟨_, _, _, ⟨h1, _⟩ | ⟨g, h1, hb, _⟩⟩
  · cases h1
  · obtain rfl := Option.some.inj h1
    exact hb
theorem Row.at_lt {w : World} {B : Nat} {e : TypeId} {s : Nat} {A : Option Addr} {n c : Nat} {vs : List Value} (h : Row w B e s A n c vs) : ∀ k, AtRow A k → k < w.heap.size := by
  rintro k ⟨ad, rfl, rfl⟩
  rcases h.cases with ⟨_, _, _, ⟨h1, _⟩ | ⟨g, h1, hb, hl, _⟩⟩
  · cases h1
  · obtain rfl := Option.some.inj h1
    exact hl
theorem flat_at {α : Type} (f : α → List Value) (k : Nat) (hk : ∀ x, (f x).length = k) : ∀ (l : List α) (i : Nat) (x : α), l[i]? = some x → ∀ j u, (f x)[j]? = some u → (l.flatMap f)[i * k + j]? = some u
  | [], i, x, hx, _, _, _ => by simp at hx
  | y :: r, 0, x, hx, j, u, hu => by
    obtain rfl : y = x := by simpa using hx
    rw [List.flatMap_cons, Nat.zero_mul, Nat.zero_add, List.getElem?_append_left (List.getElem?_eq_some_iff.1 hu).1]
    exact hu
  | y :: r, i + 1, x, hx, j, u, hu => by
    have h2 := flat_at f k hk r i x (by simpa using hx) j u hu
    rw [List.flatMap_cons, List.getElem?_append_right (by rw [hk]; rw [Nat.add_mul]; omega), hk, show (i + 1) * k + j - k = i * k + j by rw [Nat.add_mul]; omega]
    exact h2
theorem blk_row {w : World} {H : Nat} {e : TypeId} {cs : List Value} (h : Blk w H e cs.toArray) : ∀ ad, some (⟨H, 0, none⟩ : Addr) = some ad → ∀ j u, cs[j]? = some u → w.cell? (ad.add j) = some u := fun ad e j u hu => by
  cases e
  rw [show (⟨H, 0, none⟩ : Addr).add j = ⟨H, j, none⟩ by unfold Addr.add; split <;> simp_all, h.cell j, List.getElem?_toArray]
  exact hu
theorem at_row_lt {w : World} {B : Nat} {e : TypeId} {s : Nat} {A : Option Addr} {n c : Nat} {vs : List Value} (h : Row w B e s A n c vs) (k : Nat) (hk : AtRow A k) : B ≤ k ∧ k < w.heap.size := ⟨Row.at_base h k hk, Row.at_lt h k hk⟩

/-- A number of 64 bits. -/
def N64 (n : Int) : Prop := -9223372036854775808 ≤ n ∧ n ≤ 9223372036854775807
structure ValOk (v : Ob.Val) : Prop where
  k : v.k < 256
  n : N64 v.n
  l : N64 v.l
def valF (v : Ob.Val) : List Value := [.int .u8 ((v.k : Nat) : Int), .int .i64 v.n, .int .i64 v.l]
theorem valF_len (v : Ob.Val) : (valF v).length = 3 := rfl
theorem valF_one (v : Ob.Val) : ∀ u ∈ valF v, u.oneCell' = true := by
  intro u hu
  simp only [valF, List.mem_cons, List.not_mem_nil, or_false] at hu
  rcases hu with rfl | rfl | rfl <;> rfl
/-- Cells of things of one size, one behind the other. -/
def CellsAt {α : Type} (s : Nat) (f : α → List Value) (w : World) (ad : Addr) (l : List α) : Prop := ∀ i v, l[i]? = some v → ∀ j u, (f v)[j]? = some u → w.cell? (ad.add (i * s + j)) = some u
theorem CellsAt.kept {α : Type} {s : Nat} {f : α → List Value} {F : Nat → Prop} {w w' : World} {ad : Addr} {l : List α} (h : CellsAt s f w ad l) (hk : Kept F w w') (hb : ad.block < w.heap.size) (hF : ¬ F ad.block) : CellsAt s f w' ad l :=
  fun i v hi j u hu => (hk.cell (by rw [block_add]; exact hb) (by rw [block_add]; exact hF)).trans (h i v hi j u hu)
theorem CellsAt.of_row {α : Type} {s : Nat} {f : α → List Value} (hf : ∀ x, (f x).length = s) {w : World} {B : Nat} {t : TypeId} {ad : Addr} {n c : Nat} {l : List α} (h : Row w B t s (some ad) n c (l.flatMap f)) : CellsAt s f w ad l := by
  rcases h.cases with ⟨_, _, _, ⟨h1, _⟩ | ⟨g, h1, hb, hl, hc, _⟩⟩
  · cases h1
  · intro i v hi j u hu
    cases h1
    have := hc (i * s + j) u (flat_at f s hf l i v hi j u hu)
    rwa [show (⟨g, 0, none⟩ : Addr).add (i * s + j) = ⟨g, i * s + j, none⟩ by unfold Addr.add; split <;> simp_all]
def ValsAt (w : World) (A : Option Addr) (l : List Ob.Val) : Prop := (∀ v ∈ l, ValOk v) ∧ (0 < l.length → ∃ ad, A = some ad ∧ ad.block < w.heap.size ∧ CellsAt 3 valF w ad l)
theorem ValsAt.nil (w : World) (A : Option Addr) : ValsAt w A [] := ⟨by simp, fun h => absurd h (by simp)⟩
theorem ValsAt.kept {F : Nat → Prop} {w w' : World} {A : Option Addr} {l : List Ob.Val} (h : ValsAt w A l) (hk : Kept F w w') (hF : 0 < l.length → ∀ ad, A = some ad → ¬ F ad.block) : ValsAt w' A l := ⟨h.1, fun hl => by
  obtain ⟨ad, h1, h2, h3⟩ := h.2 hl
  exact ⟨ad, h1, Nat.lt_of_lt_of_le h2 hk.size, h3.kept hk h2 (hF hl ad h1)⟩⟩
theorem ValsAt.grew {w w' : World} {A : Option Addr} {l : List Ob.Val} (h : ValsAt w A l) (hg : Grew w w') : ValsAt w' A l := h.kept (F := fun _ => False) (.of_grew hg) (fun _ _ _ h => h)
/-- One value. -/
theorem val_at {w wr : World} {A : Option Addr} {l : List Ob.Val} (h : ValsAt w A l) (hg : Grew w wr) {i : Nat} (hi : i < l.length) : ∃ ad v, A = some ad ∧ l[i]? = some v ∧ wr.cell? (ad.add (i * 3)) = some (.int .u8 ((v.k : Nat) : Int)) ∧ wr.cell? ⟨ad.block, (ad.add (i * 3)).off + 1, none⟩ = some (.int .i64 v.n) ∧ wr.cell? ⟨ad.block, (ad.add (i * 3)).off + 2, none⟩ = some (.int .i64 v.l) ∧ ad.block < wr.heap.size ∧ ValOk v := by
  obtain ⟨ad, e, hb, hc⟩ := h.2 (by omega)
  have hv := List.getElem?_eq_getElem hi
  have hq : ∀ j u, (valF l[i])[j]? = some u → wr.cell? (ad.add (i * 3 + j)) = some u := fun j u hu => by
    rw [hg.below.cell (by rw [block_add]; exact hb)]; exact hc i _ hv j u hu
  refine ⟨ad, l[i], e, hv, hq 0 _ rfl, ?_, ?_, Nat.lt_of_lt_of_le hb hg.below.size, h.1 _ (List.getElem_mem hi)⟩
  · have := hq 1 _ rfl
    rwa [← add_add, add_pos (by decide), block_add] at this
  · have := hq 2 _ rfl
    rwa [← add_add, add_pos (by decide), block_add] at this
theorem row_vals {w : World} {B : Nat} {t : TypeId} {A : Option Addr} {c n : Nat} {l : List Ob.Val} (h : Row w B t 3 A n c (l.flatMap valF)) (hn : n = l.length) (hl : ∀ x ∈ l, ValOk x) : ValsAt w A l := ⟨hl, fun hp => by
  rcases h.cases with ⟨_, _, _, ⟨h1, h2, _⟩ | ⟨g, h1, hb, hw, hc, _⟩⟩
  · omega
  · exact ⟨⟨g, 0, none⟩, h1, hw, CellsAt.of_row valF_len (by rw [h1] at h; exact h)⟩⟩
/-- An object, and where its fields lie. -/
structure OV where
  o : Ob.Obj
  A : Option Addr
  c : Nat
def ovF (v : OV) : List Value := [.int .i64 v.o.cls, .int .i64 v.o.lev, .slice v.A v.o.f.length v.c, .string v.o.b]
theorem ovF_len (v : OV) : (ovF v).length = 4 := rfl
theorem ovF_one (v : OV) : ∀ u ∈ ovF v, u.oneCell' = true := by
  intro u hu
  simp only [ovF, List.mem_cons, List.not_mem_nil, or_false] at hu
  rcases hu with rfl | rfl | rfl | rfl <;> rfl
structure OvOk (w : World) (v : OV) : Prop where
  f : ValsAt w v.A v.o.f
  cls : N64 v.o.cls
  lev : N64 v.o.lev
  cap : v.o.f.length ≤ v.c
theorem OvOk.kept {F : Nat → Prop} {w w' : World} {v : OV} (h : OvOk w v) (hk : Kept F w w') (hF : 0 < v.o.f.length → ∀ ad, v.A = some ad → ¬ F ad.block) : OvOk w' v := ⟨h.f.kept hk hF, h.cls, h.lev, h.cap⟩
theorem OvOk.grew {w w' : World} {v : OV} (h : OvOk w v) (hg : Grew w w') : OvOk w' v := ⟨h.f.grew hg, h.cls, h.lev, h.cap⟩
structure ObjsAt (w : World) (A : Option Addr) (l : List OV) : Prop where
  ok : ∀ v ∈ l, OvOk w v
  cells : 0 < l.length → ∃ ad, A = some ad ∧ ad.block < w.heap.size ∧ CellsAt 4 ovF w ad l
theorem ObjsAt.nil (w : World) (A : Option Addr) : ObjsAt w A [] := ⟨by simp, fun h => absurd h (by simp)⟩
theorem ObjsAt.grew {w w' : World} {A : Option Addr} {l : List OV} (h : ObjsAt w A l) (hg : Grew w w') : ObjsAt w' A l := ⟨fun v hv => (h.ok v hv).grew hg, fun hl => by
  obtain ⟨ad, h1, h2, h3⟩ := h.cells hl
  exact ⟨ad, h1, Nat.lt_of_lt_of_le h2 hg.below.size, h3.kept (F := fun _ => False) (.of_grew hg) h2 (fun h => h)⟩⟩
/-- Objects that are not too great to be looked at. -/
structure ObjsFit (l : List Ob.Obj) : Prop where
  len : l.length ≤ 1000
  f : ∀ o ∈ l, o.f.length ≤ 300
  b : ∀ o ∈ l, o.b.size ≤ 1100
def objs (l : List OV) : List Ob.Obj := l.map (·.o)
theorem objs_len (l : List OV) : (objs l).length = l.length := by simp [objs]
theorem objs_at {l : List OV} {i : Nat} {v : OV} (h : l[i]? = some v) : (objs l)[i]? = some v.o := by simp [objs, h]
theorem objs_snoc (l : List OV) (v : OV) : objs (l ++ [v]) = objs l ++ [v.o] := by simp [objs]
theorem objs_mem {l : List OV} {v : OV} (h : v ∈ l) : v.o ∈ objs l := List.mem_map.2 ⟨v, h, rfl⟩
theorem ov_get {w wr : World} {A : Option Addr} {l : List OV} (h : ObjsAt w A l) (hg : Grew w wr) {i : Nat} (hi : i < l.length) : ∃ ad v, A = some ad ∧ l[i]? = some v ∧ wr.cell? (ad.add (i * 4)) = some (.int .i64 v.o.cls) ∧ wr.cell? ⟨ad.block, (ad.add (i * 4)).off + 1, none⟩ = some (.int .i64 v.o.lev) ∧ wr.cell? ⟨ad.block, (ad.add (i * 4)).off + 2, none⟩ = some (.slice v.A v.o.f.length v.c) ∧ wr.cell? ⟨ad.block, (ad.add (i * 4)).off + 3, none⟩ = some (.string v.o.b) ∧ ad.block < wr.heap.size ∧ OvOk wr v := by
  obtain ⟨ad, e, hb, hc⟩ := h.cells (by omega)
  have hv := List.getElem?_eq_getElem hi
  have hq : ∀ j u, (ovF l[i])[j]? = some u → wr.cell? (ad.add (i * 4 + j)) = some u := fun j u hu => by
    rw [hg.below.cell (by rw [block_add]; exact hb)]; exact hc i _ hv j u hu
  refine ⟨ad, l[i], e, hv, hq 0 _ rfl, ?_, ?_, ?_, Nat.lt_of_lt_of_le hb hg.below.size, (h.ok _ (List.getElem_mem hi)).grew hg⟩
  · have := hq 1 _ rfl
    rwa [← add_add, add_pos (by decide), block_add] at this
  · have := hq 2 _ rfl
    rwa [← add_add, add_pos (by decide), block_add] at this
  · have := hq 3 _ rfl
    rwa [← add_add, add_pos (by decide), block_add] at this
theorem row_objs {w : World} {B : Nat} {t : TypeId} {A : Option Addr} {c n : Nat} {l : List OV} (h : Row w B t 4 A n c (l.flatMap ovF)) (hn : n = l.length) (hl : ∀ x ∈ l, OvOk w x) : ObjsAt w A l := ⟨hl, fun hp => by
  rcases h.cases with ⟨_, _, _, ⟨h1, h2, _⟩ | ⟨g, h1, hb, hw, hc, _⟩⟩
  · omega
  · exact ⟨⟨g, 0, none⟩, h1, hw, CellsAt.of_row ovF_len (by rw [h1] at h; exact h)⟩⟩
end Go.Proofs.YtcfknfiddadgbaaDoor

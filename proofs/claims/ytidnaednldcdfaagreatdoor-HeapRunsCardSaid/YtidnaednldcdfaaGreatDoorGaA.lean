/- Parts of elder texts that this layer needs, joined: XObM XObA XObB XObG XObS XObT XObU XObW XObX XObY XObZ XOcA XOcB XOcC XOcD. -/
import Derived.Test.YtidnaednldcdfaaGreatDoorObP
import Derived.Test.YtidnaednldcdfaaGreatDoorZBase
import Derived.Test.YtidnaednldcdfaaGreatDoorProg
import Derived.Deep.Cut
import Derived.Laws.CopyOwn
import Derived.Test.YtidnaednldcdfaaGreatDoorZNum
import Derived.Test.YtidnaednldcdfaaGreatDoorZFa
import Derived.Test.YtidnaednldcdfaaGreatDoorBLat
import Derived.Lib.SliceRun
namespace Go.Proofs.YtidnaednldcdfaaGreatDoor
open Go.RowKit

theorem add_pos {a : Addr} {j : Nat} (hj : j ≠ 0) : a.add j = ⟨a.block, a.off + j, none⟩ := by simp [Addr.add, hj]
theorem Row.of_blk {w : World} {B g : Nat} {e : TypeId} {s n : Nat} {cs : Array Value} (h : Blk w g e cs) (hB : B ≤ g) (hn : cs.size = n * s) (hm : n ≤ 9223372036854775807) : Row w B e s (some ⟨g, 0, none⟩) n n cs.toList :=
  ⟨by simpa using hn, .inr ⟨g, n, cs, rfl, hB, h, Nat.le_refl _, by simp only [maxLen]; omega, hn, by rw [List.take_of_length_le (by simp; omega)]⟩⟩
theorem Row.at_base {w : World} {B : Nat} {e : TypeId} {s : Nat} {A : Option Addr} {n c : Nat} {vs : List Value} (h : Row w B e s A n c vs) : ∀ k, AtRow A k → B ≤ k := by
  rintro k ⟨ad, rfl, rfl⟩
  rcases h.cases with ⟨_, _, _, ⟨h1, _⟩ | ⟨g, h1, hb, _⟩⟩
  · cases h1
  · obtain rfl := Option.some.inj h1
    exact hb
theorem Row.at_lt {w : World} {B : Nat} {e : TypeId} {s : Nat} {A : Option Addr} {n c : Nat} {vs : List Value} (h : Row w B e s A n c vs) : ∀ k, AtRow A k → k < w.heap.size := by
  rintro k ⟨ad, rfl, rfl⟩
  rcases h.cases with ⟨_, _, _, ⟨h1, _⟩ | ⟨g, h1, hb, hl, _⟩⟩
  · cases h1
  · obtain rfl := Option.some.inj h1
    exact hl
theorem flat_at {α : Type} (f : α → List Value) (k : Nat) (hk : ∀ x, (f x).length = k) : ∀ (l : List α) (i : Nat) (x : α), l[i]? = some x → ∀ j u, (f x)[j]? = some u → (l.flatMap f)[i * k + j]? = some u
  | [], i, x, hx, _, _, _ => by simp at hx
  | y :: r, 0, x, hx, j, u, hu => by
    obtain rfl : y = x := by simpa using hx
    rw [List.flatMap_cons, Nat.zero_mul, Nat.zero_add, List.getElem?_append_left (List.getElem?_eq_some_iff.1 hu).1]
    exact hu
  | y :: r, i + 1, x, hx, j, u, hu => by
    have h2 := flat_at f k hk r i x (by simpa using hx) j u hu
    rw [List.flatMap_cons, List.getElem?_append_right (by rw [hk]; rw [Nat.add_mul]; omega), hk, show (i + 1) * k + j - k = i * k + j by rw [Nat.add_mul]; omega]
    exact h2
theorem blk_row {w : World} {H : Nat} {e : TypeId} {cs : List Value} (h : Blk w H e cs.toArray) : ∀ ad, some (⟨H, 0, none⟩ : Addr) = some ad → ∀ j u, cs[j]? = some u → w.cell? (ad.add j) = some u := fun ad e j u hu => by
  cases e
  rw [show (⟨H, 0, none⟩ : Addr).add j = ⟨H, j, none⟩ by unfold Addr.add; split <;> simp_all, h.cell j, List.getElem?_toArray]
  exact hu
theorem at_row_lt {w : World} {B : Nat} {e : TypeId} {s : Nat} {A : Option Addr} {n c : Nat} {vs : List Value} (h : Row w B e s A n c vs) (k : Nat) (hk : AtRow A k) : B ≤ k ∧ k < w.heap.size := ⟨Row.at_base h k hk, Row.at_lt h k hk⟩

/-- A number of 64 bits. -/
def N64 (n : Int) : Prop := -9223372036854775808 ≤ n ∧ n ≤ 9223372036854775807
structure ValOk (v : Ob.Val) : Prop where
  k : v.k < 256
  n : N64 v.n
  l : N64 v.l
def valF (v : Ob.Val) : List Value := [.int .u8 ((v.k : Nat) : Int), .int .i64 v.n, .int .i64 v.l]
theorem valF_len (v : Ob.Val) : (valF v).length = 3 := rfl
theorem valF_one (v : Ob.Val) : ∀ u ∈ valF v, u.oneCell' = true := by
  intro u hu
  simp only [valF, List.mem_cons, List.not_mem_nil, or_false] at hu
  rcases hu with rfl | rfl | rfl <;> rfl
/-- Cells of things of one size, one behind the other. -/
def CellsAt {α : Type} (s : Nat) (f : α → List Value) (w : World) (ad : Addr) (l : List α) : Prop := ∀ i v, l[i]? = some v → ∀ j u, (f v)[j]? = some u → w.cell? (ad.add (i * s + j)) = some u
theorem CellsAt.kept {α : Type} {s : Nat} {f : α → List Value} {F : Nat → Prop} {w w' : World} {ad : Addr} {l : List α} (h : CellsAt s f w ad l) (hk : Kept F w w') (hb : ad.block < w.heap.size) (hF : ¬ F ad.block) : CellsAt s f w' ad l :=
  fun i v hi j u hu => (hk.cell (by rw [block_add]; exact hb) (by rw [block_add]; exact hF)).trans (h i v hi j u hu)
theorem CellsAt.of_row {α : Type} {s : Nat} {f : α → List Value} (hf : ∀ x, (f x).length = s) {w : World} {B : Nat} {t : TypeId} {ad : Addr} {n c : Nat} {l : List α} (h : Row w B t s (some ad) n c (l.flatMap f)) : CellsAt s f w ad l := by
  rcases h.cases with ⟨_, _, _, ⟨h1, _⟩ | ⟨g, h1, hb, hl, hc, _⟩⟩
  · cases h1
  · intro i v hi j u hu
    cases h1
    have := hc (i * s + j) u (flat_at f s hf l i v hi j u hu)
    rwa [show (⟨g, 0, none⟩ : Addr).add (i * s + j) = ⟨g, i * s + j, none⟩ by unfold Addr.add; split <;> simp_all]
def ValsAt (w : World) (A : Option Addr) (l : List Ob.Val) : Prop := (∀ v ∈ l, ValOk v) ∧ (0 < l.length → ∃ ad, A = some ad ∧ ad.block < w.heap.size ∧ CellsAt 3 valF w ad l)
theorem ValsAt.nil (w : World) (A : Option Addr) : ValsAt w A [] := ⟨by simp, fun h => absurd h (by simp)⟩
theorem ValsAt.kept {F : Nat → Prop} {w w' : World} {A : Option Addr} {l : List Ob.Val} (h : ValsAt w A l) (hk : Kept F w w') (hF : 0 < l.length → ∀ ad, A = some ad → ¬ F ad.block) : ValsAt w' A l := ⟨h.1, fun hl => by
  obtain ⟨ad, h1, h2, h3⟩ := h.2 hl
  exact ⟨ad, h1, Nat.lt_of_lt_of_le h2 hk.size, h3.kept hk h2 (hF hl ad h1)⟩⟩
theorem ValsAt.grew {w w' : World} {A : Option Addr} {l : List Ob.Val} (h : ValsAt w A l) (hg : Grew w w') : ValsAt w' A l := h.kept (F := fun _ => False) (.of_grew hg) (fun _ _ _ h => h)
/-- One value. -/
theorem val_at {w wr : World} {A : Option Addr} {l : List Ob.Val} (h : ValsAt w A l) (hg : Grew w wr) {i : Nat} (hi : i < l.length) : ∃ ad v, A = some ad ∧ l[i]? = some v ∧ wr.cell? (ad.add (i * 3)) = some (.int .u8 ((v.k : Nat) : Int)) ∧ wr.cell? ⟨ad.block, (ad.add (i * 3)).off + 1, none⟩ = some (.int .i64 v.n) ∧ wr.cell? ⟨ad.block, (ad.add (i * 3)).off + 2, none⟩ = some (.int .i64 v.l) ∧ ad.block < wr.heap.size ∧ ValOk v := by
  obtain ⟨ad, e, hb, hc⟩ := h.2 (by omega)
  have hv := List.getElem?_eq_getElem hi
  have hq : ∀ j u, (valF l[i])[j]? = some u → wr.cell? (ad.add (i * 3 + j)) = some u := fun j u hu => by
    rw [hg.below.cell (by rw [block_add]; exact hb)]; exact hc i _ hv j u hu
  refine ⟨ad, l[i], e, hv, hq 0 _ rfl, ?_, ?_, Nat.lt_of_lt_of_le hb hg.below.size, h.1 _ (List.getElem_mem hi)⟩
  · have := hq 1 _ rfl
    rwa [← add_add, add_pos (by decide), block_add] at this
  · have := hq 2 _ rfl
    rwa [← add_add, add_pos (by decide), block_add] at this
theorem row_vals {w : World} {B : Nat} {t : TypeId} {A : Option Addr} {c n : Nat} {l : List Ob.Val} (h : Row w B t 3 A n c (l.flatMap valF)) (hn : n = l.length) (hl : ∀ x ∈ l, ValOk x) : ValsAt w A l := ⟨hl, fun hp => by
  rcases h.cases with ⟨_, _, _, ⟨h1, h2, _⟩ | ⟨g, h1, hb, hw, hc, _⟩⟩
  · omega
  · exact ⟨⟨g, 0, none⟩, h1, hw, CellsAt.of_row valF_len (by rw [h1] at h; exact h)⟩⟩
/-- An object, and where its fields lie. -/
structure OV where
  o : Ob.Obj
  A : Option Addr
  c : Nat
def ovF (v : OV) : List Value := [.int .i64 v.o.cls, .int .i64 v.o.lev, .slice v.A v.o.f.length v.c, .string v.o.b]
theorem ovF_len (v : OV) : (ovF v).length = 4 := rfl
structure OvOk (w : World) (v : OV) : Prop where
  f : ValsAt w v.A v.o.f
  cls : N64 v.o.cls
  lev : N64 v.o.lev
  cap : v.o.f.length ≤ v.c
theorem OvOk.kept {F : Nat → Prop} {w w' : World} {v : OV} (h : OvOk w v) (hk : Kept F w w') (hF : 0 < v.o.f.length → ∀ ad, v.A = some ad → ¬ F ad.block) : OvOk w' v := ⟨h.f.kept hk hF, h.cls, h.lev, h.cap⟩
theorem OvOk.grew {w w' : World} {v : OV} (h : OvOk w v) (hg : Grew w w') : OvOk w' v := ⟨h.f.grew hg, h.cls, h.lev, h.cap⟩
structure ObjsAt (w : World) (A : Option Addr) (l : List OV) : Prop where
  ok : ∀ v ∈ l, OvOk w v
  cells : 0 < l.length → ∃ ad, A = some ad ∧ ad.block < w.heap.size ∧ CellsAt 4 ovF w ad l
theorem ObjsAt.nil (w : World) (A : Option Addr) : ObjsAt w A [] := ⟨by simp, fun h => absurd h (by simp)⟩
theorem ObjsAt.grew {w w' : World} {A : Option Addr} {l : List OV} (h : ObjsAt w A l) (hg : Grew w w') : ObjsAt w' A l := ⟨fun v hv => (h.ok v hv).grew hg, fun hl => by
  obtain ⟨ad, h1, h2, h3⟩ := h.cells hl
  exact ⟨ad, h1, Nat.lt_of_lt_of_le h2 hg.below.size, h3.kept (F := fun _ => False) (.of_grew hg) h2 (fun h => h)⟩⟩
def objs (l : List OV) : List Ob.Obj := l.map (·.o)
theorem objs_len (l : List OV) : (objs l).length = l.length := by simp [objs]
theorem objs_at {l : List OV} {i : Nat} {v : OV} (h : l[i]? = some v) : (objs l)[i]? = some v.o := by simp [objs, h]
theorem objs_snoc (l : List OV) (v : OV) : objs (l ++ [v]) = objs l ++ [v.o] := by simp [objs]
theorem ov_get {w wr : World} {A : Option Addr} {l : List OV} (h : ObjsAt w A l) (hg : Grew w wr) {i : Nat} (hi : i < l.length) : ∃ ad v, A = some ad ∧ l[i]? = some v ∧ wr.cell? (ad.add (i * 4)) = some (.int .i64 v.o.cls) ∧ wr.cell? ⟨ad.block, (ad.add (i * 4)).off + 1, none⟩ = some (.int .i64 v.o.lev) ∧ wr.cell? ⟨ad.block, (ad.add (i * 4)).off + 2, none⟩ = some (.slice v.A v.o.f.length v.c) ∧ wr.cell? ⟨ad.block, (ad.add (i * 4)).off + 3, none⟩ = some (.string v.o.b) ∧ ad.block < wr.heap.size ∧ OvOk wr v := by
  obtain ⟨ad, e, hb, hc⟩ := h.cells (by omega)
  have hv := List.getElem?_eq_getElem hi
  have hq : ∀ j u, (ovF l[i])[j]? = some u → wr.cell? (ad.add (i * 4 + j)) = some u := fun j u hu => by
    rw [hg.below.cell (by rw [block_add]; exact hb)]; exact hc i _ hv j u hu
  refine ⟨ad, l[i], e, hv, hq 0 _ rfl, ?_, ?_, ?_, Nat.lt_of_lt_of_le hb hg.below.size, (h.ok _ (List.getElem_mem hi)).grew hg⟩
  · have := hq 1 _ rfl
    rwa [← add_add, add_pos (by decide), block_add] at this
  · have := hq 2 _ rfl
    rwa [← add_add, add_pos (by decide), block_add] at this
  · have := hq 3 _ rfl
    rwa [← add_add, add_pos (by decide), block_add] at this
theorem row_objs {w : World} {B : Nat} {t : TypeId} {A : Option Addr} {c n : Nat} {l : List OV} (h : Row w B t 4 A n c (l.flatMap ovF)) (hn : n = l.length) (hl : ∀ x ∈ l, OvOk w x) : ObjsAt w A l := ⟨hl, fun hp => by
  rcases h.cases with ⟨_, _, _, ⟨h1, h2, _⟩ | ⟨g, h1, hb, hw, hc, _⟩⟩
  · omega
  · exact ⟨⟨g, 0, none⟩, h1, hw, CellsAt.of_row ovF_len (by rw [h1] at h; exact h)⟩⟩
end Go.Proofs.YtidnaednldcdfaaGreatDoor
namespace Go.Proofs.YtidnaednldcdfaaGreatDoor
open Go.RowKit

theorem isIndex_c (i n : Int) (w : World) : Calls Tryz.prog 67 #[.int .i64 i, .int .i64 n] w fun e w' => e = .returned (.bool (Ob.inB i n)) ∧ Grew w w' := by
  unfold Ob.inB
  by_cases h1 : 0 ≤ i
  · rw [decide_eq_true h1, Bool.true_and]
    by_cases h2 : i < n
    · rw [decide_eq_true h2]
      go_enter Tryz.func67, Tryz.ntmps67
      go_wp2_with fail
      go_ret
      exact ⟨rfl, Grew.refl _⟩
    · rw [decide_eq_false h2]
      go_enter Tryz.func67, Tryz.ntmps67
      go_wp2_with fail
      go_ret
      exact ⟨rfl, Grew.refl _⟩
  · rw [decide_eq_false h1, Bool.false_and]
    go_enter Tryz.func67, Tryz.ntmps67
    go_wp2_with fail
    go_ret
    exact ⟨rfl, Grew.refl _⟩
theorem isNumber_c (k : Nat) (n : Int) (w : World) : Calls Tryz.prog 74 #[.int .u8 ((k : Nat) : Int), .int .i64 n] w fun e w' => e = .returned (.bool (Ob.numB k n)) ∧ Grew w w' := by
  unfold Ob.numB
  by_cases h : k ≤ 2
  · rw [if_pos h]
    rcases (by omega : k = 0 ∨ k = 1 ∨ k = 2) with rfl | rfl | rfl <;> by_cases hz : n = 0
    all_goals
      go_enter Tryz.func74, Tryz.ntmps74
      go_wp2_with fail
      go_ret
      refine ⟨?_, Grew.refl _⟩
      simp [hz]
  · rw [if_neg h]
    by_cases h3 : k = 3
    · subst h3
      rw [if_pos rfl]
      by_cases h1 : -2305843009213693952 ≤ n
      · by_cases h2 : n ≤ 2305843009213693951
        all_goals
          go_enter Tryz.func74, Tryz.ntmps74
          go_wp2_with fail
          go_ret
          refine ⟨?_, Grew.refl _⟩
          simp [h1, h2]
      · go_enter Tryz.func74, Tryz.ntmps74
        go_wp2_with fail
        go_ret
        refine ⟨?_, Grew.refl _⟩
        rw [decide_eq_false (by omega), Bool.false_and]
        rfl
    · rw [if_neg h3]
      by_cases h4 : k = 4
      · subst h4
        rw [if_pos rfl]
        go_enter Tryz.func74, Tryz.ntmps74
        go_wp2_with (go_at_call 67; refine (isIndex_c n 65536 _).mono ?_; rintro e w2 ⟨rfl, hg2⟩)
        go_ret
        exact ⟨rfl, hg2⟩
      · rw [if_neg h4]
        by_cases h5 : k = 5
        · subst h5
          rw [if_pos rfl]
          go_enter Tryz.func74, Tryz.ntmps74
          go_wp2_with (go_at_call 67; refine (isIndex_c n 64 _).mono ?_; rintro e w2 ⟨rfl, hg2⟩)
          go_ret
          exact ⟨rfl, hg2⟩
        · rw [if_neg h5]
          have f : ∀ j : Int, j ≤ 5 → 0 ≤ j → (((k : Nat) : Int) == j) = false := fun j hj h0 => by
            rw [beq_eq_false_iff_ne]; omega
          have f0 := f 0 (by decide) (by decide)
          have f1 := f 1 (by decide) (by decide)
          have f2 := f 2 (by decide) (by decide)
          have f3 := f 3 (by decide) (by decide)
          have f4 := f 4 (by decide) (by decide)
          have f5 := f 5 (by decide) (by decide)
          clear f
          go_enter Tryz.func74, Tryz.ntmps74
          go_wp2_with fail
          go_ret
          exact ⟨rfl, Grew.refl _⟩
theorem value_c (n : Nat) (v : Ob.Val) (w : World) : Calls Tryz.prog 40 #[.int .i64 ((n : Nat) : Int), .agg #[.int .u8 ((v.k : Nat) : Int), .int .i64 v.n, .int .i64 v.l]] w fun e w' => e = .returned (.bool (Ob.valueB n v)) ∧ Grew w w' := by
  unfold Ob.valueB
  obtain ⟨k, z, l⟩ := v
  simp only
  cases hb : Ob.inB l n
  · have HI := hid (fun W => isIndex_c l ((n : Nat) : Int) W)
    rw [hb] at HI
    clear hb
    rw [Bool.false_and]
    go_enter Tryz.func40, Tryz.ntmps40
    go_wp2_with (go_at_call 67; refine (HI.out _).mono ?_; rintro e w2 ⟨rfl, hg2⟩)
    go_ret
    exact ⟨rfl, ((Grew.refl _).alloc _).trans hg2⟩
  · have HI := hid (fun W => isIndex_c l ((n : Nat) : Int) W)
    rw [hb] at HI
    clear hb
    have HN := hid (fun W => isNumber_c k z W)
    generalize Ob.numB k z = b at *
    rw [Bool.true_and]
    have B1 := Blk.new w 41 #[.int .u8 ((k : Nat) : Int), .int .i64 z, .int .i64 l]
    have G1 := (Grew.refl w).alloc (.cells #[.int .u8 ((k : Nat) : Int), .int .i64 z, .int .i64 l] 41)
    go_enter Tryz.func40, Tryz.ntmps40
    go_upto_region 1 with fail
    generalize w.alloc (.cells #[.int .u8 ((k : Nat) : Int), .int .i64 z, .int .i64 l] 41) = w1 at *
    generalize w.heap.size = g at *
    have q0 := B1.cell 0
    have q1 := B1.cell 1
    have q2 := B1.cell 2
    have ql := B1.lt
    simp only [List.getElem?_toArray, List.getElem?_cons_zero, List.getElem?_cons_succ] at q0 q1 q2
    have HB := hid B1
    have HG := hid G1
    clear B1 G1
    go_wp2_with (go_at_call 67; refine (HI.out _).mono ?_; rintro e w2 ⟨rfl, hg2⟩; have HB2 := hid (HB.out.grew hg2); have HG2 := hid (HG.out.trans hg2); have r0 := HB2.out.cell 0; have r1 := HB2.out.cell 1; have rl := HB2.out.lt; simp only [List.getElem?_toArray, List.getElem?_cons_zero, List.getElem?_cons_succ] at r0 r1; clear q0 q1 q2 ql hg2)
    refine (HN.out _).mono ?_
    rintro e w3 ⟨rfl, hg3⟩
    go_wp2_with fail
    go_ret
    exact ⟨rfl, HG2.out.trans hg3⟩
end Go.Proofs.YtidnaednldcdfaaGreatDoor
namespace Go.Proofs.YtidnaednldcdfaaGreatDoor
open Go.RowKit

set_option maxHeartbeats 1000000 in
theorem idxVal_c (g : Nat) (lb : Array Value) (eg : ∀ args w, (callFunc g args).run Tryz.prog w = .ok (.enter g args) w) (p : Ob.Val → Bool) (A : Option Addr) (c : Nat) (l : List Ob.Val) (w : World) (h : ValsAt w A l) (hl : l.length ≤ 1000000)
    (hp : ∀ x ∈ l, ∀ W, Grew w W → Calls Tryz.prog g (#[.agg #[.int .u8 ((x.k : Nat) : Int), .int .i64 x.n, .int .i64 x.l]] ++ lb) W fun e w' => e = .returned (.bool (p x)) ∧ Grew W w') :
    Calls Tryz.prog 87 #[.slice A l.length c, .func (.func g) #[] lb] w fun e w' => (∃ r : Int, e = .returned (.int .i64 r) ∧ (0 ≤ r ↔ l.any p = true)) ∧ Grew w w' := by
  obtain ⟨n, en⟩ : ∃ n, n = l.length := ⟨_, rfl⟩
  have HA := hid h
  have HP := hid hp
  rw [← en] at hl ⊢
  have EN := hid en
  clear h hp en
  go_enter Tryz.func87, Tryz.ntmps87
  go_wp2_with fail
  go_loopw [5, 8] (fun _ s8 wr => ∃ i : Nat, s8 = .int .i64 ((i : Nat) : Int) ∧ i ≤ n ∧ Grew w wr ∧ Hid ((l.take i).any p = false)) (fun _ s8 _ => n - (intOf s8).toNat)
  case atStart => exact ⟨0, rfl, Nat.zero_le _, Grew.refl _, hid (by simp)⟩
  case round =>
    obtain ⟨i, rfl, hi, hg, HI⟩ := hrel
    have HG := hid hg
    clear hg
    by_cases hlt : i < n
    · have f1 : (i : Int) < n := by omega
      obtain ⟨ad, x, rfl, hx, q0, q1, q2, hb, _⟩ := val_at HA.out HG.out (i := i) (by rw [← EN.out]; exact hlt)
      have HT : Hid ((l.take (i + 1)).any p = p x) := hid (by
        rw [List.take_add_one, hx, List.any_append, HI.out]
        simp)
      have HX : Hid (p x = true → l.any p = true) := hid (fun hf => List.any_eq_true.2 ⟨x, List.mem_of_getElem? hx, hf⟩)
      have hcall := HP.out x (List.mem_of_getElem? hx) wr HG.out
      generalize p x = b at hcall HT HX
      clear hx
      obtain ⟨k, s, t⟩ := x
      simp only at q0 q1 q2 hcall
      cases b
      · go_wp2_with (go_at_fn g; refine hcall.mono ?_; rintro e w2 ⟨rfl, hg2⟩)
        go_round
        case rel => exact ⟨i + 1, by go_num, by omega, HG.out.trans hg2, HT⟩
        case measure => simp [intOf]; omega
      · go_wp2_with (go_at_fn g; refine hcall.mono ?_; rintro e w2 ⟨rfl, hg2⟩)
        go_ret
        exact ⟨⟨_, rfl, by rw [HX.out (by trivial)]; simp⟩, HG.out.trans hg2⟩
    · have hin : i = n := by omega
      subst hin
      go_wp2_with fail
      go_ret
      refine ⟨⟨_, rfl, ?_⟩, HG.out⟩
      have := HI.out
      rw [EN.out, List.take_length] at this
      rw [this]
      simp
theorem anyVal_c (g : Nat) (lb : Array Value) (eg : ∀ args w, (callFunc g args).run Tryz.prog w = .ok (.enter g args) w) (p : Ob.Val → Bool) (A : Option Addr) (c : Nat) (l : List Ob.Val) (w : World) (h : ValsAt w A l) (hl : l.length ≤ 1000000)
    (hp : ∀ x ∈ l, ∀ W, Grew w W → Calls Tryz.prog g (#[.agg #[.int .u8 ((x.k : Nat) : Int), .int .i64 x.n, .int .i64 x.l]] ++ lb) W fun e w' => e = .returned (.bool (p x)) ∧ Grew W w') :
    Calls Tryz.prog 68 #[.slice A l.length c, .func (.func g) #[] lb] w fun e w' => e = .returned (.bool (l.any p)) ∧ Grew w w' := by
  have HI := hid (idxVal_c g lb eg p A c l w h hl hp)
  clear h hp hl eg
  generalize l.any p = b at *
  generalize l.length = n at *
  go_enter Tryz.func68, Tryz.ntmps68
  go_wp2_with fail
  refine HI.out.mono ?_
  rintro e w1 ⟨⟨r, rfl, hr⟩, hg⟩
  have HD := hid (show decide ((0 : Int) ≤ r) = b by rw [Bool.eq_iff_iff, decide_eq_true_iff]; exact hr)
  clear hr
  go_wp2_with fail
  go_ret
  exact ⟨congrArg (fun z => Ending.returned (.bool z)) HD.out, hg⟩
theorem other_c (n : Nat) (v : Ob.Val) (gb : Nat) (w : World) (h : Blk w gb 3 #[.int .i64 ((n : Nat) : Int)]) : Calls Tryz.prog 66 #[.agg #[.int .u8 ((v.k : Nat) : Int), .int .i64 v.n, .int .i64 v.l], .pointer (some ⟨gb, 0, none⟩)] w fun e w' => e = .returned (.bool (!Ob.valueB n v)) ∧ Grew w w' := by
  have HV := hid (fun W => value_c n v W)
  generalize Ob.valueB n v = b at *
  obtain ⟨k, z, l⟩ := v
  simp only at HV ⊢
  have G1 := (Grew.refl w).alloc (.cells #[.int .u8 ((k : Nat) : Int), .int .i64 z, .int .i64 l] 41)
  have h1 := h.grew G1
  have q0 := h1.cell 0
  have ql := h1.lt
  have B1 := Blk.new w 41 #[.int .u8 ((k : Nat) : Int), .int .i64 z, .int .i64 l]
  have p0 := B1.cell 0
  have p1 := B1.cell 1
  have p2 := B1.cell 2
  have pl := B1.lt
  simp only [List.getElem?_toArray, List.getElem?_cons_zero, List.getElem?_cons_succ] at q0 p0 p1 p2
  have HG := hid G1
  clear h h1 B1 G1
  go_enter Tryz.func66, Tryz.ntmps66
  go_upto_region 1 with fail
  generalize w.alloc (.cells #[.int .u8 ((k : Nat) : Int), .int .i64 z, .int .i64 l] 41) = w1 at *
  generalize w.heap.size = g at *
  go_wp2_with (go_at_call 40; refine (HV.out _).mono ?_; rintro e w2 ⟨rfl, hg2⟩)
  go_ret
  exact ⟨rfl, HG.out.trans hg2⟩
theorem all_not (l : List Ob.Val) (n : Nat) : (!l.any (fun v => !Ob.valueB n v)) = l.all (Ob.valueB n) := by
  induction l with
  | nil => rfl
  | cons x r ih => rw [List.any_cons, List.all_cons, Bool.not_or, ih, Bool.not_not]
set_option maxRecDepth 100000 in
set_option maxHeartbeats 2000000 in
theorem may_c (n : Nat) (v : OV) (w : World) (h : OvOk w v) : Calls Tryz.prog 34 #[.int .i64 ((n : Nat) : Int), .agg #[.int .i64 v.o.cls, .int .i64 v.o.lev, .slice v.A v.o.f.length v.c, .string v.o.b]] w fun e w' => e = .returned (.bool (Ob.mayB n v.o)) ∧ Grew w w' := by
  obtain ⟨⟨cls, lev, f, b⟩, A, c⟩ := v
  have hf := h.f
  clear h
  simp only at hf ⊢
  have HA := hid (fun (gb : Nat) (W : World) (hw : Grew w W) (hb : Blk W gb 3 #[.int .i64 ((n : Nat) : Int)]) (hl : f.length ≤ 256) => anyVal_c 66 #[.pointer (some ⟨gb, 0, none⟩)] (fun _ _ => rfl) (fun v => !Ob.valueB n v) A c f W (hf.grew hw) (by omega) (fun x _ W' hW' => other_c n x gb W' (hb.grew hW')))
  have HI1 := hid (fun W => isIndex_c cls 64 W)
  have HI2 := hid (fun W => isIndex_c lev ((n : Nat) : Int) W)
  unfold Ob.mayB Ob.headB
  simp only
  have EA := hid (all_not f n)
  generalize f.all (Ob.valueB n) = al at *
  generalize (f.any fun v => !Ob.valueB n v) = an at *
  generalize Ob.inB cls 64 = b1 at *
  generalize Ob.inB lev ((n : Nat) : Int) = b2 at *
  generalize f.length = m at *
  obtain ⟨R, hR⟩ : ∃ R, R = ((b1 && (b2 && (decide (m ≤ 256) && (decide (b.size ≤ 1024) && (decide (m = 0) || decide (b.size = 0)))))) && al) := ⟨_, rfl⟩
  rw [← hR]
  have HR := hid hR
  clear hR
  have G1 := (Grew.refl w).alloc (.cells #[.int .i64 ((n : Nat) : Int)] 3)
  have G2 := G1.alloc (.cells #[.int .i64 cls, .int .i64 lev, .slice A m c, .string b] 30)
  have B2 := (Blk.new w 3 #[.int .i64 ((n : Nat) : Int)]).grew ((Grew.refl _).alloc (.cells #[.int .i64 cls, .int .i64 lev, .slice A m c, .string b] 30))
  have B3 := Blk.new (w.alloc (.cells #[.int .i64 ((n : Nat) : Int)] 3)) 30 #[.int .i64 cls, .int .i64 lev, .slice A m c, .string b]
  clear hf G1
  go_enter Tryz.func34, Tryz.ntmps34
  go_upto_region 2 with fail
  have e1 : (w.alloc (.cells #[.int .i64 ((n : Nat) : Int)] 3)).heap.size = w.heap.size + 1 := World.size_alloc _ _
  rw [e1] at B3
  generalize (w.alloc (.cells #[.int .i64 ((n : Nat) : Int)] 3)).alloc (.cells #[.int .i64 cls, .int .i64 lev, .slice A m c, .string b] 30) = w1 at *
  generalize w.heap.size = g at *
  have HG := hid G2
  have HB2 := hid B2
  have HB := hid B3
  have q0 := B3.cell 0
  have q1 := B3.cell 1
  have ql := B3.lt
  have p0 := B2.cell 0
  have pl := B2.lt
  simp only [List.getElem?_toArray, List.getElem?_cons_zero, List.getElem?_cons_succ] at q0 q1 p0
  clear G2 B2 B3 e1
  cases b1
  · go_wp2_with (go_at_call 67; refine (HI1.out _).mono ?_; rintro e w2 ⟨rfl, hg2⟩)
    go_ret
    exact ⟨congrArg (fun z => Ending.returned (.bool z)) (by rw [HR.out]; rfl), HG.out.trans hg2⟩
  · go_wp2_with fail
    refine (HI1.out _).mono ?_
    rintro e w2 ⟨rfl, hg2⟩
    have HC := hid (HG.out.trans hg2)
    have HD := hid (HB.out.grew hg2)
    have HE := hid (HB2.out.grew hg2)
    have r1 := HD.out.cell 1
    have rl := HD.out.lt
    have s0 := HE.out.cell 0
    have sl := HE.out.lt
    simp only [List.getElem?_toArray, List.getElem?_cons_zero, List.getElem?_cons_succ] at r1 s0
    clear q0 q1 ql p0 pl HG HB HB2 hg2
    cases b2
    · go_wp2_with (go_at_call 67; refine (HI2.out _).mono ?_; rintro e w3 ⟨rfl, hg3⟩)
      go_ret
      exact ⟨congrArg (fun z => Ending.returned (.bool z)) (by rw [HR.out]; rfl), HC.out.trans hg3⟩
    · go_wp2_with fail
      refine (HI2.out _).mono ?_
      rintro e w3 ⟨rfl, hg3⟩
      have HG := hid (HC.out.trans hg3)
      have HB := hid (HD.out.grew hg3)
      have HB2 := hid (HE.out.grew hg3)
      have q2 := HB.out.cell 2
      have q3 := HB.out.cell 3
      have ql := HB.out.lt
      simp only [List.getElem?_toArray, List.getElem?_cons_zero, List.getElem?_cons_succ] at q2 q3
      clear r1 rl s0 sl HC HD HE hg3
      by_cases h1 : m ≤ 256
      · have f1 : (m : Int) ≤ 256 := by omega
        have D1 := hid (decide_eq_true h1)
        by_cases h2 : b.size ≤ 1024
        · have f2 : ((b.size : Nat) : Int) ≤ 1024 := by omega
          have D2 := hid (decide_eq_true h2)
          have hcall := HA.out g w3 HG.out HB2.out h1
          by_cases h3 : m = 0
          · have f3 : ((m : Int) == 0) = true := by rw [beq_iff_eq]; omega
            have D3 := hid (decide_eq_true h3)
            clear h1 h2 h3
            go_wp2_with fail
            refine hcall.mono ?_
            rintro e w4 ⟨rfl, hg4⟩
            go_wp2_with fail
            go_ret
            exact ⟨congrArg (fun z => Ending.returned (.bool z)) (by rw [HR.out, D1.out, D2.out, D3.out]; exact EA.out), HG.out.trans hg4⟩
          · have f3 : ((m : Int) == 0) = false := by rw [beq_eq_false_iff_ne]; omega
            have D3 := hid (decide_eq_false h3)
            by_cases h4 : b.size = 0
            · have f4 : (((b.size : Nat) : Int) == 0) = true := by rw [beq_iff_eq]; omega
              have D4 := hid (decide_eq_true h4)
              clear h1 h2 h3 h4
              go_wp2_with fail
              refine hcall.mono ?_
              rintro e w4 ⟨rfl, hg4⟩
              go_wp2_with fail
              go_ret
              exact ⟨congrArg (fun z => Ending.returned (.bool z)) (by rw [HR.out, D1.out, D2.out, D3.out, D4.out]; exact EA.out), HG.out.trans hg4⟩
            · have f4 : (((b.size : Nat) : Int) == 0) = false := by rw [beq_eq_false_iff_ne]; omega
              have D4 := hid (decide_eq_false h4)
              clear h1 h2 h3 h4 hcall
              go_wp2_with fail
              go_ret
              exact ⟨congrArg (fun z => Ending.returned (.bool z)) (by rw [HR.out, D1.out, D2.out, D3.out, D4.out]; rfl), HG.out⟩
        · have f2 : ¬ ((b.size : Nat) : Int) ≤ 1024 := by omega
          have D2 := hid (decide_eq_false h2)
          go_wp2_with fail
          go_ret
          exact ⟨congrArg (fun z => Ending.returned (.bool z)) (by rw [HR.out, D1.out, D2.out]; rfl), HG.out⟩
      · have f1 : ¬ (m : Int) ≤ 256 := by omega
        have D1 := hid (decide_eq_false h1)
        go_wp2_with fail
        go_ret
        exact ⟨congrArg (fun z => Ending.returned (.bool z)) (by rw [HR.out, D1.out]; rfl), HG.out⟩
end Go.Proofs.YtidnaednldcdfaaGreatDoor
namespace Go.Proofs.YtidnaednldcdfaaGreatDoor
open Go.RowKit

/-- 'copy(dst, src)', elements of s cells, into a block that is known whole. -/
theorem run_copyS {P : Program} (s : Nat) (w : World) (dT sT ty elem : TypeId) (g o dLen dCap : Nat) (a : Addr) (sLen sCap : Nat) (vs : List Value) (t : TypeId) (cs : List Value)
    (hu : P.underlying dT = some (.slice elem)) (hs : (P.info? elem).map (·.size) = some s)
    (hg : Blk w g t vs.toArray) (hn : cs.length = Nat.min sLen dLen * s)
    (hsrc : ∀ j v, cs[j]? = some v → w.cell? (a.add j) = some v) (hfit : o + cs.length ≤ vs.length) (h1 : ∀ v ∈ cs, v.oneCell' = true) :
    ∃ w', (Builtin.copy_ #[dT, sT] ty #[.slice (some ⟨g, o, none⟩) dLen dCap, .slice (some a) sLen sCap]).run P w = .ok (goInt (Nat.min sLen dLen)) w' ∧ Blk w' g t (splice vs o cs).toArray ∧ Kept (fun k => k = g) w w' := by
  have hl := run_loadCells_list (P := P) w a cs hsrc
  have hst := run_storeCells_at P g o t cs 0 vs.toArray w hg (by simpa using hfit) h1
  refine ⟨w.setRow g ((vs.take o ++ cs ++ vs.drop (o + cs.length))).toArray, ?_, ?_, rfl, rfl, rfl, by simp [World.setRow], fun k hk hF => setRow_other w g k _ (fun h => hF h)⟩
  · cases hq : P.info? elem with
    | none => simp [hq] at hs
    | some i =>
      have hi : i.size = s := by simpa [hq] using hs
      simp only [Nat.add_zero] at hst
      simp [Builtin.copy_, run_underlying hu, Builtin.lenOf, Builtin.firstCells, sizeOf, typeInfo, hq, hi, ← hn, hl, hst]
  · have := setRow_heap w g vs.toArray (vs.take o ++ cs ++ vs.drop (o + cs.length)).toArray t _ hg
    unfold Blk
    rw [this]
    simp [splice]
/-- Nothing to copy. -/
theorem run_copy0 {P : Program} {w : World} (s : Nat) (dT sT ty elem : TypeId) (hu : P.underlying dT = some (.slice elem)) (hs : (P.info? elem).map (·.size) = some s)
    (dp sp : Option Addr) (dLen dCap sLen sCap : Nat) (hn : Nat.min sLen dLen = 0) : (Builtin.copy_ #[dT, sT] ty #[.slice dp dLen dCap, .slice sp sLen sCap]).run P w = .ok (goInt 0) w := by
  cases hq : P.info? elem with
  | none => simp [hq] at hs
  | some i =>
    have hi : i.size = s := by simpa [hq] using hs
    cases sp <;> cases dp <;> simp [Builtin.copy_, run_underlying hu, Builtin.lenOf, Builtin.firstCells, sizeOf, typeInfo, hq, hn, loadCells, loadCellsFrom, storeCells]
theorem Blk.put4 {w : World} {g : Nat} {t : TypeId} {a0 a1 a2 a3 : Value} (h : Blk w g t #[a0, a1, a2, a3]) (c0 c1 c2 c3 : Value) :
    Blk ((((w.setCell ⟨g, 0, none⟩ c0).setCell ⟨g, 1, none⟩ c1).setCell ⟨g, 2, none⟩ c2).setCell ⟨g, 3, none⟩ c3) g t #[c0, c1, c2, c3] := by
  have := (((h.put 0 c0).put 1 c1).put 2 c2).put 3 c3
  simpa using this
theorem kept4 {F : Nat → Prop} {w w2 : World} {g : Nat} (h : Kept F w w2) (hg : g < w.heap.size → F g) (c0 c1 c2 c3 : Value) :
    Kept F w ((((w2.setCell ⟨g, 0, none⟩ c0).setCell ⟨g, 1, none⟩ c1).setCell ⟨g, 2, none⟩ c2).setCell ⟨g, 3, none⟩ c3) :=
  (((h.setCell (p := ⟨g, 0, none⟩) hg c0).setCell (p := ⟨g, 1, none⟩) hg c1).setCell (p := ⟨g, 2, none⟩) hg c2).setCell (p := ⟨g, 3, none⟩) hg c3
/-- Changes to blocks made since. -/
theorem Kept.up {w w' : World} (h : Kept (fun k => w.heap.size ≤ k) w w') : Grew w w' := h.grew (Grew.refl w) (fun _ h => h)
theorem flatMap_length {α : Type} {f : α → List Value} {k : Nat} (hk : ∀ x, (f x).length = k) (l : List α) : (l.flatMap f).length = l.length * k := by
  induction l with
  | nil => simp
  | cons x r ih => rw [List.flatMap_cons, List.length_append, hk, ih, List.length_cons, Nat.add_mul]; omega
/-- One of them replaced. -/
theorem splice_flat {α : Type} {f : α → List Value} {k : Nat} (hk : ∀ x, (f x).length = k) : ∀ (l : List α) (i : Nat) (x : α), i < l.length → splice (l.flatMap f) (i * k) (f x) = (l.set i x).flatMap f
  | [], i, x, h => by simp at h
  | y :: r, 0, x, _ => by
    have h1 : (f y).length = (f x).length := by rw [hk, hk]
    simp only [splice, Nat.zero_mul, List.take_zero, List.nil_append, Nat.zero_add, List.flatMap_cons, List.set_cons_zero]
    rw [← h1, List.drop_left]
  | y :: r, i + 1, x, h => by
    have ih := splice_flat hk r i x (by simpa using h)
    rw [List.set_cons_succ, List.flatMap_cons, List.flatMap_cons, ← ih]
    unfold splice
    have e1 : (i + 1) * k = (f y).length + i * k := by rw [hk, Nat.add_mul]; omega
    rw [e1, List.take_length_add_append, Nat.add_assoc, List.drop_length_add_append, List.append_assoc]
end Go.Proofs.YtidnaednldcdfaaGreatDoor
namespace Go.Proofs.YtidnaednldcdfaaGreatDoor
open Go.RowKit

theorem res_obj1 {fn : Func} {a : Tmp} (hr : fn.results = #[ResultVar.cell a 30]) (tmps : Array Value) (g : Nat) (ha : tmps.getD a undef = .pointer (some ⟨g, 0, none⟩)) (w : World) (c0 c1 c2 c3 : Value) (hb : Blk w g 30 #[c0, c1, c2, c3]) :
    (results fn tmps).run Tryz.prog w = .ok (.agg #[c0, c1, c2, c3]) w := by
  have y0 : w.cell? ⟨g, 0, none⟩ = some c0 := hb.cell 0
  have y1 : w.cell? ⟨g, 1, none⟩ = some c1 := hb.cell 1
  have y2 : w.cell? ⟨g, 2, none⟩ = some c2 := hb.cell 2
  have y3 : w.cell? ⟨g, 3, none⟩ = some c3 := hb.cell 3
  have ha' : tmps[a]?.getD undef = .pointer (some ⟨g, 0, none⟩) := by simpa using ha
  simp [results, go_sem, *]
theorem val_info : (Tryz.prog.info? 41).map (fun i => (i.zero, i.size, i.bytes)) = some (some (.agg #[.int .u8 0, .int .i64 0, .int .i64 0]), 3, 24) := by kernel_rfl
theorem vals_one (l : List Ob.Val) : ∀ u ∈ l.flatMap valF, u.oneCell' = true := fun u hu => by
  obtain ⟨v, _, h⟩ := List.mem_flatMap.1 hu
  exact valF_one v u h
theorem flat_cell {α : Type} {f : α → List Value} {s : Nat} (hs : 0 < s) (hf : ∀ x, (f x).length = s) {w : World} {ad : Addr} {l : List α} (h : CellsAt s f w ad l) : ∀ j u, (l.flatMap f)[j]? = some u → w.cell? (ad.add j) = some u := fun j u hu => by
  have hj : j < l.length * s := by
    have := (List.getElem?_eq_some_iff.1 hu).1
    rwa [flatMap_length hf] at this
  have hq : j / s < l.length := Nat.div_lt_of_lt_mul (by rw [Nat.mul_comm]; exact hj)
  have hx := List.getElem?_eq_getElem hq
  have hr : j % s < (f l[j / s]).length := by rw [hf]; exact Nat.mod_lt _ hs
  have h2 := flat_at f s hf l (j / s) _ hx (j % s) _ (List.getElem?_eq_getElem hr)
  have e : j / s * s + j % s = j := by rw [Nat.mul_comm]; exact Nat.div_add_mod j s
  rw [e] at h2
  rw [hu] at h2
  have h3 := h _ _ hx (j % s) _ (List.getElem?_eq_getElem hr)
  rw [e] at h3
  rw [h3, h2]
end Go.Proofs.YtidnaednldcdfaaGreatDoor
namespace Go.Proofs.YtidnaednldcdfaaGreatDoor
open Go.RowKit

theorem valueB_put {up : List Nat} (h256 : ∀ x ∈ up, x < 256) (hv : La.valid up = true) {v : Ob.Val} {under : Int} (h1 : Ob.valueB up.length v = true) (h2 : Ob.inB under up.length = true) : Ob.valueB up.length (Ob.putV up under v) = true := by
  have h1' := h1
  simp only [Ob.valueB, Bool.and_eq_true] at h1'
  have hl : La.isLevel up v.l = true := h1'.1
  have hu : La.isLevel up under = true := h2
  have hj := (La.joinOf_level h256 hv hl hu).1
  simp only [Ob.valueB, Ob.putV, Bool.and_eq_true]
  exact ⟨hj, h1'.2⟩
theorem mayB_set {n : Nat} {o : Ob.Obj} {b : Nat} {v : Ob.Val} (h : Ob.mayB n o = true) (hv : Ob.valueB n v = true) : Ob.mayB n (Ob.setF o b v) = true := by
  simp only [Ob.mayB, Bool.and_eq_true, List.all_eq_true] at h ⊢
  refine ⟨?_, fun x hx => ?_⟩
  · have e : Ob.headB n (Ob.setF o b v) = Ob.headB n o := by
      have hl : (Ob.setF o b v).f.length = o.f.length := by simp [Ob.setF]
      unfold Ob.headB
      rw [hl]
      rfl
    rw [e]
    exact h.1
  · rcases List.mem_or_eq_of_mem_set hx with hx | rfl
    · exact h.2 x hx
    · exact hv
end Go.Proofs.YtidnaednldcdfaaGreatDoor
namespace Go.Proofs.YtidnaednldcdfaaGreatDoor
open Go.RowKit

theorem set3 (a b c : Value) : ∀ (i : Nat) (L : List Value), i + 3 ≤ L.length → ((L.set i a).set (i + 1) b).set (i + 2) c = Go.splice L i [a, b, c]
  | 0, x :: y :: z :: r, _ => by simp [Go.splice]
  | i + 1, x :: r, h => by
    have ih := set3 a b c i r (by simp at h; omega)
    simp only [List.set_cons_succ, show i + 1 + 1 = (i + 1) + 1 from rfl, show i + 1 + 2 = (i + 2) + 1 from rfl, ih]
    simp only [Go.splice, List.take_succ_cons, List.length_cons, List.length_nil, List.cons_append, show i + 1 + (0 + 1 + 1 + 1) = (i + (0 + 1 + 1 + 1)) + 1 by omega, List.drop_succ_cons]
  | 0, [], h => by simp at h
  | 0, [x], h => by simp at h
  | 0, [x, y], h => by simp at h
  | i + 1, [], h => by simp at h
theorem kept3 {F : Nat → Prop} {w w2 : World} {g o : Nat} (h : Kept F w w2) (hg : g < w.heap.size → F g) (c0 c1 c2 : Value) :
    Kept F w (((w2.setCell ⟨g, o, none⟩ c0).setCell ⟨g, o + 1, none⟩ c1).setCell ⟨g, o + 2, none⟩ c2) :=
  ((h.setCell (p := ⟨g, o, none⟩) hg c0).setCell (p := ⟨g, o + 1, none⟩) hg c1).setCell (p := ⟨g, o + 2, none⟩) hg c2
end Go.Proofs.YtidnaednldcdfaaGreatDoor
namespace Go.Proofs.YtidnaednldcdfaaGreatDoor
open Go.RowKit

/-- 'append(out, x)': x of several cells. -/
theorem wpList_pushS {P : Program} {ops : Array Oper} {rest : List Oper} {o : Oper} {a : Act} {Q : Exit → Act → World → Prop} (z : Value) (sz b : Nat) (w : World) (hgd : o.guard = none) (s x : Operand) (t e : TypeId)
    (ho : o.op = .call { callee := .builtin .append, args := #[s, x], argTypes := #[t, t] })
    (ht : P.underlying t = some (.slice e)) (he : (P.info? e).map (fun i => (i.zero, i.size, i.bytes)) = some (some z, sz, b)) (hzs : z.cells.size = sz) (hsz : 0 < sz)
    (B : Nat) (hB : B ≤ w.heap.size) (A : Option Addr) (n c : Nat) (ys : List Value) (hs : a.eval s = .slice A n c) (hown : Row w B e sz A n c ys) (H : Nat) (hH : w.heap.size = H) (hxv : a.eval x = .slice (some ⟨H, 0, none⟩) 1 1) (cs : List Value) (hl : cs.length = sz) (h1 : ∀ u ∈ cs, u.oneCell' = true)
    (hlen : n + 1 ≤ 9223372036854775807) (hby : (n + 1) * b ≤ 140737488355328)
    (h : ∀ A' c' w', Row w' B e sz A' (n + 1) c' (ys ++ cs) → Kept (AtRow A) w w' → RowTo w A A' → wpList P ops Q rest (a.put o.dst (.slice A' (n + 1) c')) w') : wpList P ops Q (o :: rest) a (w.alloc (.cells cs.toArray e)) := by
  subst hH
  refine wpList_catR z sz b (w.alloc (.cells cs.toArray e)) hgd s x t e ho ht he hzs hsz B (by simp only [World.size_alloc]; omega) A n c ys hs (hown.grew ((Grew.refl w).alloc _)) _ 1 1 cs hxv (by omega) h1 (by intro h; cases h) (blk_row (Blk.new w e cs.toArray)) hlen hby (fun A' c' w' r1 r2 r3 => h A' c' w' r1 (r2.of_alloc) (r3.imp id (fun ⟨g, h1, h2⟩ => ⟨g, h1, by simp only [World.size_alloc] at h2; omega⟩)))
/-- What 'giveVals' answers. -/
def GiveV (w : World) (l : List Ob.Val) (e : Ending) (w' : World) : Prop := ∃ A' c', e = .returned (.slice A' l.length c') ∧ Row w' w.heap.size 41 3 A' l.length c' (l.flatMap valF) ∧ Grew w w'
set_option maxRecDepth 100000 in
set_option maxHeartbeats 2000000 in
theorem giveVals_c (A : Option Addr) (cap : Nat) (l : List Ob.Val) (w : World) (h : ValsAt w A l) (hl : l.length ≤ 1000) :
    Calls Tryz.prog 19 #[.slice A l.length cap] w (GiveV w l) := by
  obtain ⟨n, en⟩ : ∃ n, n = l.length := ⟨_, rfl⟩
  have HA := hid h
  unfold GiveV
  rw [← en] at hl ⊢
  have EN := hid en
  clear h en
  go_enter Tryz.func19, Tryz.ntmps19
  go_wp2_with fail
  go_loopw [3, 4] (fun s3 s4 wr => ∃ (i : Nat) (A' : Option Addr) (k' : Nat), s4 = .int .i64 ((i : Nat) : Int) ∧ i ≤ n ∧ s3 = .slice A' i k' ∧ Hid (Row wr w.heap.size 41 3 A' i k' ((l.take i).flatMap valF)) ∧ Hid (Grew w wr)) (fun _ s4 _ => n - (intOf s4).toNat)
  case atStart => exact ⟨0, none, 0, rfl, Nat.zero_le _, rfl, hid (Row.nil _ _ _ _), hid (Grew.refl _)⟩
  case round =>
    obtain ⟨i, A', k', rfl, hi, rfl, HR, HG⟩ := hrel
    by_cases hlt : i < n
    · have f1 : (i : Int) < n := by omega
      obtain ⟨ad, x, rfl, hx, q0, q1, q2, hb, _⟩ := val_at HA.out HG.out (i := i) (by rw [← EN.out]; exact hlt)
      have HTk := hid (show (l.take (i + 1)).flatMap valF = (l.take i).flatMap valF ++ valF x by rw [List.take_add_one, hx, List.flatMap_append]; simp)
      clear hx
      obtain ⟨k, z, t⟩ := x
      simp only at q0 q1 q2
      go_wp2_with (at_builtin; refine wpList_pushS (.agg #[.int .u8 0, .int .i64 0, .int .i64 0]) 3 24 wr rfl _ _ 28 41 rfl Tryz.underlying28 val_info rfl (by decide) w.heap.size HG.out.below.size A' i k' _ rfl HR.out _ rfl rfl [.int .u8 ((k : Nat) : Int), .int .i64 z, .int .i64 t] rfl (by intro u hu; simp only [List.mem_cons, List.not_mem_nil, or_false] at hu; rcases hu with rfl | rfl | rfl <;> rfl) (by omega) (by omega) ?_; rintro A8 k8 w8 hR8 hK8 hT8; have HR8 := hid hR8; have HG8 := hid (hK8.grew HG.out (Row.at_base HR.out)); clear hR8 hK8 hT8)
      go_round
      case rel => exact ⟨i + 1, A8, k8, by go_num, by omega, rfl, by rw [HTk.out]; exact HR8, HG8⟩
      case measure => simp [intOf]; omega
    · have hin : i = n := by omega
      subst hin
      have HLe := hid (show l.take i = l by rw [EN.out, List.take_length])
      go_wp2_with fail
      go_ret
      exact ⟨A', k', rfl, by have := HR.out; rwa [HLe.out] at this, HG.out⟩
/-- Is an object too great to be looked at? -/
def bigO (o : Ob.Obj) : Bool := (decide (60 < o.f.length) && decide (o.f.length ≤ 256)) || (decide (300 < o.f.length) || decide (1100 < o.b.size))
end Go.Proofs.YtidnaednldcdfaaGreatDoor

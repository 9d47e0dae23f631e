/- Parts of elder texts that this layer needs, joined: XObM XObA XObB XObG XObS XObT XObU XObW XObX XObY XObZ XOcA XOcB XOcC XOcD. -/
import Derived.Test.YtidnaednldcdfaaDoorObP
import Derived.Test.YtidnaednldcdfaaDoorZBase
import Derived.Test.YtidnaednldcdfaaDoorProg
import Derived.Deep.Cut
import Derived.Laws.CopyOwn
import Derived.Test.YtidnaednldcdfaaDoorZNum
import Derived.Test.YtidnaednldcdfaaDoorZFa
import Derived.Test.YtidnaednldcdfaaDoorBLat
import Derived.Lib.SliceRun
namespace Go.Proofs.YtidnaednldcdfaaDoor
open Go.RowKit

theorem add_pos {a : Addr} {j : Nat} (hj : j ≠ 0) : a.add j = ⟨a.block, a.off + j, none⟩ := by simp [Addr.add, hj]
theorem Row.of_blk {w : World} {B g : Nat} {e : TypeId} {s n : Nat} {cs : Array Value} (h : Blk w g e cs) (hB : B ≤ g) (hn : cs.size = n * s) (hm : n ≤ 9223372036854775807) : Row w B e s (some ⟨g, 0, none⟩) n n cs.toList :=
  ⟨by simpa using hn, .inr ⟨g, n, cs, rfl, hB, h, Nat.le_refl _, by simp only [maxLen]; omega, hn, by rw [List.take_of_length_le (by simp; omega)]⟩⟩
theorem Row.at_base {w : World} {B : Nat} {e : TypeId} {s : Nat} {A : Option Addr} {n c : Nat} {vs : List Value} (h : Row w B e s A n c vs) : ∀ k, AtRow A k → B ≤ k := by
  rintro k ⟨ad, rfl, rfl⟩
  rcases h.cases with ⟨_, _, _, ⟨h1, _⟩ | ⟨g, h1, hb, _⟩⟩
  · cases h1
  · obtain rfl := Option.some.inj h1
    exact hb
theorem Row.at_lt {w : World} {B : Nat} {e : TypeId} {s : Nat} {A : Option Addr} {n c : Nat} {vs : List Value} (h : Row w B e s A n c vs) : ∀ k, AtRow A k → k < w.heap.size := by
  rintro k ⟨ad, rfl, rfl⟩
  rcases h.cases with ⟨_, _, _, ⟨h1, _⟩ | ⟨g, h1, hb, hl, _⟩⟩
  · cases h1
  · obtain rfl := Option.some.inj h1
    exact hl
theorem flat_at {α : Type} (f : α → List Value) (k : Nat) (hk : ∀ x, (f x).length = k) : ∀ (l : List α) (i : Nat) (x : α), l[i]? = some x → ∀ j u, (f x)[j]? = some u → (l.flatMap f)[i * k + j]? = some u
  | [], i, x, hx, _, _, _ => by simp at hx
  | y :: r, 0, x, hx, j, u, hu => by
    obtain rfl : y = x := by simpa using hx
    rw [List.flatMap_cons, Nat.zero_mul, Nat.zero_add, List.getElem?_append_left (List.getElem?_eq_some_iff.1 hu).1]
    exact hu
  | y :: r, i + 1, x, hx, j, u, hu => by
    have h2 := flat_at f k hk r i x (by simpa using hx) j u hu
    rw [List.flatMap_cons, List.getElem?_append_right (by rw [hk]; rw [Nat.add_mul]; omega), hk, show (i + 1) * k + j - k = i * k + j by rw [Nat.add_mul]; omega]
    exact h2
theorem blk_row {w : World} {H : Nat} {e : TypeId} {cs : List Value} (h : Blk w H e cs.toArray) : ∀ ad, some (⟨H, 0, none⟩ : Addr) = some ad → ∀ j u, cs[j]? = some u → w.cell? (ad.add j) = some u := fun ad e j u hu => by
  cases e
  rw [show (⟨H, 0, none⟩ : Addr).add j = ⟨H, j, none⟩ by unfold Addr.add; split <;> simp_all, h.cell j, List.getElem?_toArray]
  exact hu
theorem at_row_lt {w : World} {B : Nat} {e : TypeId} {s : Nat} {A : Option Addr} {n c : Nat} {vs : List Value} (h : Row w B e s A n c vs) (k : Nat) (hk : AtRow A k) : B ≤ k ∧ k < w.heap.size := ⟨Row.at_base h k hk, Row.at_lt h k hk⟩

/-- A number of 64 bits. -/
def N64 (n : Int) : Prop := -9223372036854775808 ≤ n ∧ n ≤ 9223372036854775807
structure ValOk (v : Ob.Val) : Prop where
  k : v.k < 256
  n : N64 v.n
  l : N64 v.l
def valF (v : Ob.Val) : List Value := [.int .u8 ((v.k : Nat) : Int), .int .i64 v.n, .int .i64 v.l]
theorem valF_len (v : Ob.Val) : (valF v).length = 3 := rfl
theorem valF_one (v : Ob.Val) : ∀ u ∈ valF v, u.oneCell' = true := by
  intro u hu
  simp only [valF, List.mem_cons, List.not_mem_nil, or_false] at hu
  rcases hu with rfl | rfl | rfl <;> rfl
/-- Cells of things of one size, one behind the other. -/
def CellsAt {α : Type} (s : Nat) (f : α → List Value) (w : World) (ad : Addr) (l : List α) : Prop := ∀ i v, l[i]? = some v → ∀ j u, (f v)[j]? = some u → w.cell? (ad.add (i * s + j)) = some u
theorem CellsAt.kept {α : Type} {s : Nat} {f : α → List Value} {F : Nat → Prop} {w w' : World} {ad : Addr} {l : List α} (h : CellsAt s f w ad l) (hk : Kept F w w') (hb : ad.block < w.heap.size) (hF : ¬ F ad.block) : CellsAt s f w' ad l :=
  fun i v hi j u hu => (hk.cell (by rw [block_add]; exact hb) (by rw [block_add]; exact hF)).trans (h i v hi j u hu)
theorem CellsAt.of_row {α : Type} {s : Nat} {f : α → List Value} (hf : ∀ x, (f x).length = s) {w : World} {B : Nat} {t : TypeId} {ad : Addr} {n c : Nat} {l : List α} (h : Row w B t s (some ad) n c (l.flatMap f)) : CellsAt s f w ad l := by
  rcases h.cases with ⟨_, _, _, ⟨h1, _⟩ | ⟨g, h1, hb, hl, hc, _⟩⟩
  · cases h1
  · intro i v hi j u hu
    cases h1
    have := hc (i * s + j) u (flat_at f s hf l i v hi j u hu)
    rwa [show (⟨g, 0, none⟩ : Addr).add (i * s + j) = ⟨g, i * s + j, none⟩ by unfold Addr.add; split <;> simp_all]
def ValsAt (w : World) (A : Option Addr) (l : List Ob.Val) : Prop := (∀ v ∈ l, ValOk v) ∧ (0 < l.length → ∃ ad, A = some ad ∧ ad.block < w.heap.size ∧ CellsAt 3 valF w ad l)
theorem ValsAt.nil (w : World) (A : Option Addr) : ValsAt w A [] := ⟨by simp, fun h => absurd h (by simp)⟩
theorem ValsAt.kept {F : Nat → Prop} {w w' : World} {A : Option Addr} {l : List Ob.Val} (h : ValsAt w A l) (hk : Kept F w w') (hF : 0 < l.length → ∀ ad, A = some ad → ¬ F ad.block) : ValsAt w' A l := ⟨h.1, fun hl => by
  obtain ⟨ad, h1, h2, h3⟩ := h.2 hl
  exact ⟨ad, h1, Nat.lt_of_lt_of_le h2 hk.size, h3.kept hk h2 (hF hl ad h1)⟩⟩
theorem ValsAt.grew {w w' : World} {A : Option Addr} {l : List Ob.Val} (h : ValsAt w A l) (hg : Grew w w') : ValsAt w' A l := h.kept (F := fun _ => False) (.of_grew hg) (fun _ _ _ h => h)
/-- One value. -/
theorem val_at {w wr : World} {A : Option Addr} {l : List Ob.Val} (h : ValsAt w A l) (hg : Grew w wr) {i : Nat} (hi : i < l.length) : ∃ ad v, A = some ad ∧ l[i]? = some v ∧ wr.cell? (ad.add (i * 3)) = some (.int .u8 ((v.k : Nat) : Int)) ∧ wr.cell? ⟨ad.block, (ad.add (i * 3)).off + 1, none⟩ = some (.int .i64 v.n) ∧ wr.cell? ⟨ad.block, (ad.add (i * 3)).off + 2, none⟩ = some (.int .i64 v.l) ∧ ad.block < wr.heap.size ∧ ValOk v := by
  obtain ⟨ad, e, hb, hc⟩ := h.2 (by omega)
  have hv := List.getElem?_eq_getElem hi
  have hq : ∀ j u, (valF l[i])[j]? = some u → wr.cell? (ad.add (i * 3 + j)) = some u := fun j u hu => by
    rw [hg.below.cell (by rw [block_add]; exact hb)]; exact hc i _ hv j u hu
  refine ⟨ad, l[i], e, hv, hq 0 _ rfl, ?_, ?_, Nat.lt_of_lt_of_le hb hg.below.size, h.1 _ (List.getElem_mem hi)⟩
  · have := hq 1 _ rfl
    rwa [← add_add, add_pos (by decide), block_add] at this
  · have := hq 2 _ rfl
    rwa [← add_add, add_pos (by decide), block_add] at this
theorem row_vals {w : World} {B : Nat} {t : TypeId} {A : Option Addr} {c n : Nat} {l : List Ob.Val} (h : Row w B t 3 A n c (l.flatMap valF)) (hn : n = l.length) (hl : ∀ x ∈ l, ValOk x) : ValsAt w A l := ⟨hl, fun hp => by
  rcases h.cases with ⟨_, _, _, ⟨h1, h2, _⟩ | ⟨g, h1, hb, hw, hc, _⟩⟩
  · omega
  · exact ⟨⟨g, 0, none⟩, h1, hw, CellsAt.of_row valF_len (by rw [h1] at h; exact h)⟩⟩
/-- An object, and where its fields lie. -/
structure OV where
  o : Ob.Obj
  A : Option Addr
  c : Nat
def ovF (v : OV) : List Value := [.int .i64 v.o.cls, .int .i64 v.o.lev, .slice v.A v.o.f.length v.c, .string v.o.b]
structure OvOk (w : World) (v : OV) : Prop where
  f : ValsAt w v.A v.o.f
  cls : N64 v.o.cls
  lev : N64 v.o.lev
  cap : v.o.f.length ≤ v.c
theorem OvOk.kept {F : Nat → Prop} {w w' : World} {v : OV} (h : OvOk w v) (hk : Kept F w w') (hF : 0 < v.o.f.length → ∀ ad, v.A = some ad → ¬ F ad.block) : OvOk w' v := ⟨h.f.kept hk hF, h.cls, h.lev, h.cap⟩
theorem OvOk.grew {w w' : World} {v : OV} (h : OvOk w v) (hg : Grew w w') : OvOk w' v := ⟨h.f.grew hg, h.cls, h.lev, h.cap⟩
structure ObjsAt (w : World) (A : Option Addr) (l : List OV) : Prop where
  ok : ∀ v ∈ l, OvOk w v
  cells : 0 < l.length → ∃ ad, A = some ad ∧ ad.block < w.heap.size ∧ CellsAt 4 ovF w ad l
theorem ObjsAt.nil (w : World) (A : Option Addr) : ObjsAt w A [] := ⟨by simp, fun h => absurd h (by simp)⟩
theorem ObjsAt.grew {w w' : World} {A : Option Addr} {l : List OV} (h : ObjsAt w A l) (hg : Grew w w') : ObjsAt w' A l := ⟨fun v hv => (h.ok v hv).grew hg, fun hl => by
  obtain ⟨ad, h1, h2, h3⟩ := h.cells hl
  exact ⟨ad, h1, Nat.lt_of_lt_of_le h2 hg.below.size, h3.kept (F := fun _ => False) (.of_grew hg) h2 (fun h => h)⟩⟩
theorem ov_get {w wr : World} {A : Option Addr} {l : List OV} (h : ObjsAt w A l) (hg : Grew w wr) {i : Nat} (hi : i < l.length) : ∃ ad v, A = some ad ∧ l[i]? = some v ∧ wr.cell? (ad.add (i * 4)) = some (.int .i64 v.o.cls) ∧ wr.cell? ⟨ad.block, (ad.add (i * 4)).off + 1, none⟩ = some (.int .i64 v.o.lev) ∧ wr.cell? ⟨ad.block, (ad.add (i * 4)).off + 2, none⟩ = some (.slice v.A v.o.f.length v.c) ∧ wr.cell? ⟨ad.block, (ad.add (i * 4)).off + 3, none⟩ = some (.string v.o.b) ∧ ad.block < wr.heap.size ∧ OvOk wr v := by
  obtain ⟨ad, e, hb, hc⟩ := h.cells (by omega)
  have hv := List.getElem?_eq_getElem hi
  have hq : ∀ j u, (ovF l[i])[j]? = some u → wr.cell? (ad.add (i * 4 + j)) = some u := fun j u hu => by
    rw [hg.below.cell (by rw [block_add]; exact hb)]; exact hc i _ hv j u hu
  refine ⟨ad, l[i], e, hv, hq 0 _ rfl, ?_, ?_, ?_, Nat.lt_of_lt_of_le hb hg.below.size, (h.ok _ (List.getElem_mem hi)).grew hg⟩
  · have := hq 1 _ rfl
    rwa [← add_add, add_pos (by decide), block_add] at this
  · have := hq 2 _ rfl
    rwa [← add_add, add_pos (by decide), block_add] at this
  · have := hq 3 _ rfl
    rwa [← add_add, add_pos (by decide), block_add] at this
end Go.Proofs.YtidnaednldcdfaaDoor
namespace Go.Proofs.YtidnaednldcdfaaDoor
open Go.RowKit

theorem isIndex_c (i n : Int) (w : World) : Calls Tryd.prog 59 #[.int .i64 i, .int .i64 n] w fun e w' => e = .returned (.bool (Ob.inB i n)) ∧ Grew w w' := by
  unfold Ob.inB
  by_cases h1 : 0 ≤ i
  · rw [decide_eq_true h1, Bool.true_and]
    by_cases h2 : i < n
    · rw [decide_eq_true h2]
      go_enter Tryd.func59, Tryd.ntmps59
      go_wp2_with fail
      go_ret
      exact ⟨rfl, Grew.refl _⟩
    · rw [decide_eq_false h2]
      go_enter Tryd.func59, Tryd.ntmps59
      go_wp2_with fail
      go_ret
      exact ⟨rfl, Grew.refl _⟩
  · rw [decide_eq_false h1, Bool.false_and]
    go_enter Tryd.func59, Tryd.ntmps59
    go_wp2_with fail
    go_ret
    exact ⟨rfl, Grew.refl _⟩
theorem isNumber_c (k : Nat) (n : Int) (w : World) : Calls Tryd.prog 76 #[.int .u8 ((k : Nat) : Int), .int .i64 n] w fun e w' => e = .returned (.bool (Ob.numB k n)) ∧ Grew w w' := by
  unfold Ob.numB
  by_cases h : k ≤ 2
  · rw [if_pos h]
    rcases (by omega : k = 0 ∨ k = 1 ∨ k = 2) with rfl | rfl | rfl <;> by_cases hz : n = 0
    all_goals
      go_enter Tryd.func76, Tryd.ntmps76
      go_wp2_with fail
      go_ret
      refine ⟨?_, Grew.refl _⟩
      simp [hz]
  · rw [if_neg h]
    by_cases h3 : k = 3
    · subst h3
      rw [if_pos rfl]
      by_cases h1 : -2305843009213693952 ≤ n
      · by_cases h2 : n ≤ 2305843009213693951
        all_goals
          go_enter Tryd.func76, Tryd.ntmps76
          go_wp2_with fail
          go_ret
          refine ⟨?_, Grew.refl _⟩
          simp [h1, h2]
      · go_enter Tryd.func76, Tryd.ntmps76
        go_wp2_with fail
        go_ret
        refine ⟨?_, Grew.refl _⟩
        rw [decide_eq_false (by omega), Bool.false_and]
        rfl
    · rw [if_neg h3]
      by_cases h4 : k = 4
      · subst h4
        rw [if_pos rfl]
        go_enter Tryd.func76, Tryd.ntmps76
        go_wp2_with (go_at_call 59; refine (isIndex_c n 65536 _).mono ?_; rintro e w2 ⟨rfl, hg2⟩)
        go_ret
        exact ⟨rfl, hg2⟩
      · rw [if_neg h4]
        by_cases h5 : k = 5
        · subst h5
          rw [if_pos rfl]
          go_enter Tryd.func76, Tryd.ntmps76
          go_wp2_with (go_at_call 59; refine (isIndex_c n 64 _).mono ?_; rintro e w2 ⟨rfl, hg2⟩)
          go_ret
          exact ⟨rfl, hg2⟩
        · rw [if_neg h5]
          have f : ∀ j : Int, j ≤ 5 → 0 ≤ j → (((k : Nat) : Int) == j) = false := fun j hj h0 => by
            rw [beq_eq_false_iff_ne]; omega
          have f0 := f 0 (by decide) (by decide)
          have f1 := f 1 (by decide) (by decide)
          have f2 := f 2 (by decide) (by decide)
          have f3 := f 3 (by decide) (by decide)
          have f4 := f 4 (by decide) (by decide)
          have f5 := f 5 (by decide) (by decide)
          clear f
          go_enter Tryd.func76, Tryd.ntmps76
          go_wp2_with fail
          go_ret
          exact ⟨rfl, Grew.refl _⟩
theorem value_c (n : Nat) (v : Ob.Val) (w : World) : Calls Tryd.prog 55 #[.int .i64 ((n : Nat) : Int), .agg #[.int .u8 ((v.k : Nat) : Int), .int .i64 v.n, .int .i64 v.l]] w fun e w' => e = .returned (.bool (Ob.valueB n v)) ∧ Grew w w' := by
  unfold Ob.valueB
  obtain ⟨k, z, l⟩ := v
  simp only
  cases hb : Ob.inB l n
  · have HI := hid (fun W => isIndex_c l ((n : Nat) : Int) W)
    rw [hb] at HI
    clear hb
    rw [Bool.false_and]
    go_enter Tryd.func55, Tryd.ntmps55
    go_wp2_with (go_at_call 59; refine (HI.out _).mono ?_; rintro e w2 ⟨rfl, hg2⟩)
    go_ret
    exact ⟨rfl, ((Grew.refl _).alloc _).trans hg2⟩
  · have HI := hid (fun W => isIndex_c l ((n : Nat) : Int) W)
    rw [hb] at HI
    clear hb
    have HN := hid (fun W => isNumber_c k z W)
    generalize Ob.numB k z = b at *
    rw [Bool.true_and]
    have B1 := Blk.new w 48 #[.int .u8 ((k : Nat) : Int), .int .i64 z, .int .i64 l]
    have G1 := (Grew.refl w).alloc (.cells #[.int .u8 ((k : Nat) : Int), .int .i64 z, .int .i64 l] 48)
    go_enter Tryd.func55, Tryd.ntmps55
    go_upto_region 1 with fail
    generalize w.alloc (.cells #[.int .u8 ((k : Nat) : Int), .int .i64 z, .int .i64 l] 48) = w1 at *
    generalize w.heap.size = g at *
    have q0 := B1.cell 0
    have q1 := B1.cell 1
    have q2 := B1.cell 2
    have ql := B1.lt
    simp only [List.getElem?_toArray, List.getElem?_cons_zero, List.getElem?_cons_succ] at q0 q1 q2
    have HB := hid B1
    have HG := hid G1
    clear B1 G1
    go_wp2_with (go_at_call 59; refine (HI.out _).mono ?_; rintro e w2 ⟨rfl, hg2⟩; have HB2 := hid (HB.out.grew hg2); have HG2 := hid (HG.out.trans hg2); have r0 := HB2.out.cell 0; have r1 := HB2.out.cell 1; have rl := HB2.out.lt; simp only [List.getElem?_toArray, List.getElem?_cons_zero, List.getElem?_cons_succ] at r0 r1; clear q0 q1 q2 ql hg2)
    refine (HN.out _).mono ?_
    rintro e w3 ⟨rfl, hg3⟩
    go_wp2_with fail
    go_ret
    exact ⟨rfl, HG2.out.trans hg3⟩
end Go.Proofs.YtidnaednldcdfaaDoor
namespace Go.Proofs.YtidnaednldcdfaaDoor
open Go.RowKit

set_option maxHeartbeats 1000000 in
theorem idxVal_c (g : Nat) (lb : Array Value) (eg : ∀ args w, (callFunc g args).run Tryd.prog w = .ok (.enter g args) w) (p : Ob.Val → Bool) (A : Option Addr) (c : Nat) (l : List Ob.Val) (w : World) (h : ValsAt w A l) (hl : l.length ≤ 1000000)
    (hp : ∀ x ∈ l, ∀ W, Grew w W → Calls Tryd.prog g (#[.agg #[.int .u8 ((x.k : Nat) : Int), .int .i64 x.n, .int .i64 x.l]] ++ lb) W fun e w' => e = .returned (.bool (p x)) ∧ Grew W w') :
    Calls Tryd.prog 84 #[.slice A l.length c, .func (.func g) #[] lb] w fun e w' => (∃ r : Int, e = .returned (.int .i64 r) ∧ (0 ≤ r ↔ l.any p = true)) ∧ Grew w w' := by
  obtain ⟨n, en⟩ : ∃ n, n = l.length := ⟨_, rfl⟩
  have HA := hid h
  have HP := hid hp
  rw [← en] at hl ⊢
  have EN := hid en
  clear h hp en
  go_enter Tryd.func84, Tryd.ntmps84
  go_wp2_with fail
  go_loopw [5, 8] (fun _ s8 wr => ∃ i : Nat, s8 = .int .i64 ((i : Nat) : Int) ∧ i ≤ n ∧ Grew w wr ∧ Hid ((l.take i).any p = false)) (fun _ s8 _ => n - (intOf s8).toNat)
  case atStart => exact ⟨0, rfl, Nat.zero_le _, Grew.refl _, hid (by simp)⟩
  case round =>
    obtain ⟨i, rfl, hi, hg, HI⟩ := hrel
    have HG := hid hg
    clear hg
    by_cases hlt : i < n
    · have f1 : (i : Int) < n := by omega
      obtain ⟨ad, x, rfl, hx, q0, q1, q2, hb, _⟩ := val_at HA.out HG.out (i := i) (by rw [← EN.out]; exact hlt)
      have HT : Hid ((l.take (i + 1)).any p = p x) := hid (by
        rw [List.take_add_one, hx, List.any_append, HI.out]
        simp)
      have HX : Hid (p x = true → l.any p = true) := hid (fun hf => List.any_eq_true.2 ⟨x, List.mem_of_getElem? hx, hf⟩)
      have hcall := HP.out x (List.mem_of_getElem? hx) wr HG.out
      generalize p x = b at hcall HT HX
      clear hx
      obtain ⟨k, s, t⟩ := x
      simp only at q0 q1 q2 hcall
      cases b
      · go_wp2_with (go_at_fn g; refine hcall.mono ?_; rintro e w2 ⟨rfl, hg2⟩)
        go_round
        case rel => exact ⟨i + 1, by go_num, by omega, HG.out.trans hg2, HT⟩
        case measure => simp [intOf]; omega
      · go_wp2_with (go_at_fn g; refine hcall.mono ?_; rintro e w2 ⟨rfl, hg2⟩)
        go_ret
        exact ⟨⟨_, rfl, by rw [HX.out (by trivial)]; simp⟩, HG.out.trans hg2⟩
    · have hin : i = n := by omega
      subst hin
      go_wp2_with fail
      go_ret
      refine ⟨⟨_, rfl, ?_⟩, HG.out⟩
      have := HI.out
      rw [EN.out, List.take_length] at this
      rw [this]
      simp
theorem anyVal_c (g : Nat) (lb : Array Value) (eg : ∀ args w, (callFunc g args).run Tryd.prog w = .ok (.enter g args) w) (p : Ob.Val → Bool) (A : Option Addr) (c : Nat) (l : List Ob.Val) (w : World) (h : ValsAt w A l) (hl : l.length ≤ 1000000)
    (hp : ∀ x ∈ l, ∀ W, Grew w W → Calls Tryd.prog g (#[.agg #[.int .u8 ((x.k : Nat) : Int), .int .i64 x.n, .int .i64 x.l]] ++ lb) W fun e w' => e = .returned (.bool (p x)) ∧ Grew W w') :
    Calls Tryd.prog 70 #[.slice A l.length c, .func (.func g) #[] lb] w fun e w' => e = .returned (.bool (l.any p)) ∧ Grew w w' := by
  have HI := hid (idxVal_c g lb eg p A c l w h hl hp)
  clear h hp hl eg
  generalize l.any p = b at *
  generalize l.length = n at *
  go_enter Tryd.func70, Tryd.ntmps70
  go_wp2_with fail
  refine HI.out.mono ?_
  rintro e w1 ⟨⟨r, rfl, hr⟩, hg⟩
  have HD := hid (show decide ((0 : Int) ≤ r) = b by rw [Bool.eq_iff_iff, decide_eq_true_iff]; exact hr)
  clear hr
  go_wp2_with fail
  go_ret
  exact ⟨congrArg (fun z => Ending.returned (.bool z)) HD.out, hg⟩
theorem other_c (n : Nat) (v : Ob.Val) (gb : Nat) (w : World) (h : Blk w gb 3 #[.int .i64 ((n : Nat) : Int)]) : Calls Tryd.prog 69 #[.agg #[.int .u8 ((v.k : Nat) : Int), .int .i64 v.n, .int .i64 v.l], .pointer (some ⟨gb, 0, none⟩)] w fun e w' => e = .returned (.bool (!Ob.valueB n v)) ∧ Grew w w' := by
  have HV := hid (fun W => value_c n v W)
  generalize Ob.valueB n v = b at *
  obtain ⟨k, z, l⟩ := v
  simp only at HV ⊢
  have G1 := (Grew.refl w).alloc (.cells #[.int .u8 ((k : Nat) : Int), .int .i64 z, .int .i64 l] 48)
  have h1 := h.grew G1
  have q0 := h1.cell 0
  have ql := h1.lt
  have B1 := Blk.new w 48 #[.int .u8 ((k : Nat) : Int), .int .i64 z, .int .i64 l]
  have p0 := B1.cell 0
  have p1 := B1.cell 1
  have p2 := B1.cell 2
  have pl := B1.lt
  simp only [List.getElem?_toArray, List.getElem?_cons_zero, List.getElem?_cons_succ] at q0 p0 p1 p2
  have HG := hid G1
  clear h h1 B1 G1
  go_enter Tryd.func69, Tryd.ntmps69
  go_upto_region 1 with fail
  generalize w.alloc (.cells #[.int .u8 ((k : Nat) : Int), .int .i64 z, .int .i64 l] 48) = w1 at *
  generalize w.heap.size = g at *
  go_wp2_with (go_at_call 55; refine (HV.out _).mono ?_; rintro e w2 ⟨rfl, hg2⟩)
  go_ret
  exact ⟨rfl, HG.out.trans hg2⟩
theorem all_not (l : List Ob.Val) (n : Nat) : (!l.any (fun v => !Ob.valueB n v)) = l.all (Ob.valueB n) := by
  induction l with
  | nil => rfl
  | cons x r ih => rw [List.any_cons, List.all_cons, Bool.not_or, ih, Bool.not_not]
set_option maxRecDepth 100000 in
set_option maxHeartbeats 2000000 in
theorem may_c (n : Nat) (v : OV) (w : World) (h : OvOk w v) : Calls Tryd.prog 47 #[.int .i64 ((n : Nat) : Int), .agg #[.int .i64 v.o.cls, .int .i64 v.o.lev, .slice v.A v.o.f.length v.c, .string v.o.b]] w fun e w' => e = .returned (.bool (Ob.mayB n v.o)) ∧ Grew w w' := by
  obtain ⟨⟨cls, lev, f, b⟩, A, c⟩ := v
  have hf := h.f
  clear h
  simp only at hf ⊢
  have HA := hid (fun (gb : Nat) (W : World) (hw : Grew w W) (hb : Blk W gb 3 #[.int .i64 ((n : Nat) : Int)]) (hl : f.length ≤ 256) => anyVal_c 69 #[.pointer (some ⟨gb, 0, none⟩)] (fun _ _ => rfl) (fun v => !Ob.valueB n v) A c f W (hf.grew hw) (by omega) (fun x _ W' hW' => other_c n x gb W' (hb.grew hW')))
  have HI1 := hid (fun W => isIndex_c cls 64 W)
  have HI2 := hid (fun W => isIndex_c lev ((n : Nat) : Int) W)
  unfold Ob.mayB Ob.headB
  simp only
  have EA := hid (all_not f n)
  generalize f.all (Ob.valueB n) = al at *
  generalize (f.any fun v => !Ob.valueB n v) = an at *
  generalize Ob.inB cls 64 = b1 at *
  generalize Ob.inB lev ((n : Nat) : Int) = b2 at *
  generalize f.length = m at *
  obtain ⟨R, hR⟩ : ∃ R, R = ((b1 && (b2 && (decide (m ≤ 256) && (decide (b.size ≤ 1024) && (decide (m = 0) || decide (b.size = 0)))))) && al) := ⟨_, rfl⟩
  rw [← hR]
  have HR := hid hR
  clear hR
  have G1 := (Grew.refl w).alloc (.cells #[.int .i64 ((n : Nat) : Int)] 3)
  have G2 := G1.alloc (.cells #[.int .i64 cls, .int .i64 lev, .slice A m c, .string b] 42)
  have B2 := (Blk.new w 3 #[.int .i64 ((n : Nat) : Int)]).grew ((Grew.refl _).alloc (.cells #[.int .i64 cls, .int .i64 lev, .slice A m c, .string b] 42))
  have B3 := Blk.new (w.alloc (.cells #[.int .i64 ((n : Nat) : Int)] 3)) 42 #[.int .i64 cls, .int .i64 lev, .slice A m c, .string b]
  clear hf G1
  go_enter Tryd.func47, Tryd.ntmps47
  go_upto_region 2 with fail
  have e1 : (w.alloc (.cells #[.int .i64 ((n : Nat) : Int)] 3)).heap.size = w.heap.size + 1 := World.size_alloc _ _
  rw [e1] at B3
  generalize (w.alloc (.cells #[.int .i64 ((n : Nat) : Int)] 3)).alloc (.cells #[.int .i64 cls, .int .i64 lev, .slice A m c, .string b] 42) = w1 at *
  generalize w.heap.size = g at *
  have HG := hid G2
  have HB2 := hid B2
  have HB := hid B3
  have q0 := B3.cell 0
  have q1 := B3.cell 1
  have ql := B3.lt
  have p0 := B2.cell 0
  have pl := B2.lt
  simp only [List.getElem?_toArray, List.getElem?_cons_zero, List.getElem?_cons_succ] at q0 q1 p0
  clear G2 B2 B3 e1
  cases b1
  · go_wp2_with (go_at_call 59; refine (HI1.out _).mono ?_; rintro e w2 ⟨rfl, hg2⟩)
    go_ret
    exact ⟨congrArg (fun z => Ending.returned (.bool z)) (by rw [HR.out]; rfl), HG.out.trans hg2⟩
  · go_wp2_with fail
    refine (HI1.out _).mono ?_
    rintro e w2 ⟨rfl, hg2⟩
    have HC := hid (HG.out.trans hg2)
    have HD := hid (HB.out.grew hg2)
    have HE := hid (HB2.out.grew hg2)
    have r1 := HD.out.cell 1
    have rl := HD.out.lt
    have s0 := HE.out.cell 0
    have sl := HE.out.lt
    simp only [List.getElem?_toArray, List.getElem?_cons_zero, List.getElem?_cons_succ] at r1 s0
    clear q0 q1 ql p0 pl HG HB HB2 hg2
    cases b2
    · go_wp2_with (go_at_call 59; refine (HI2.out _).mono ?_; rintro e w3 ⟨rfl, hg3⟩)
      go_ret
      exact ⟨congrArg (fun z => Ending.returned (.bool z)) (by rw [HR.out]; rfl), HC.out.trans hg3⟩
    · go_wp2_with fail
      refine (HI2.out _).mono ?_
      rintro e w3 ⟨rfl, hg3⟩
      have HG := hid (HC.out.trans hg3)
      have HB := hid (HD.out.grew hg3)
      have HB2 := hid (HE.out.grew hg3)
      have q2 := HB.out.cell 2
      have q3 := HB.out.cell 3
      have ql := HB.out.lt
      simp only [List.getElem?_toArray, List.getElem?_cons_zero, List.getElem?_cons_succ] at q2 q3
      clear r1 rl s0 sl HC HD HE hg3
      by_cases h1 : m ≤ 256
      · have f1 : (m : Int) ≤ 256 := by omega
        have D1 := hid (decide_eq_true h1)
        by_cases h2 : b.size ≤ 1024
        · have f2 : ((b.size : Nat) : Int) ≤ 1024 := by omega
          have D2 := hid (decide_eq_true h2)
          have hcall := HA.out g w3 HG.out HB2.out h1
          by_cases h3 : m = 0
          · have f3 : ((m : Int) == 0) = true := by rw [beq_iff_eq]; omega
            have D3 := hid (decide_eq_true h3)
            clear h1 h2 h3
            go_wp2_with fail
            refine hcall.mono ?_
            rintro e w4 ⟨rfl, hg4⟩
            go_wp2_with fail
            go_ret
            exact ⟨congrArg (fun z => Ending.returned (.bool z)) (by rw [HR.out, D1.out, D2.out, D3.out]; exact EA.out), HG.out.trans hg4⟩
          · have f3 : ((m : Int) == 0) = false := by rw [beq_eq_false_iff_ne]; omega
            have D3 := hid (decide_eq_false h3)
            by_cases h4 : b.size = 0
            · have f4 : (((b.size : Nat) : Int) == 0) = true := by rw [beq_iff_eq]; omega
              have D4 := hid (decide_eq_true h4)
              clear h1 h2 h3 h4
              go_wp2_with fail
              refine hcall.mono ?_
              rintro e w4 ⟨rfl, hg4⟩
              go_wp2_with fail
              go_ret
              exact ⟨congrArg (fun z => Ending.returned (.bool z)) (by rw [HR.out, D1.out, D2.out, D3.out, D4.out]; exact EA.out), HG.out.trans hg4⟩
            · have f4 : (((b.size : Nat) : Int) == 0) = false := by rw [beq_eq_false_iff_ne]; omega
              have D4 := hid (decide_eq_false h4)
              clear h1 h2 h3 h4 hcall
              go_wp2_with fail
              go_ret
              exact ⟨congrArg (fun z => Ending.returned (.bool z)) (by rw [HR.out, D1.out, D2.out, D3.out, D4.out]; rfl), HG.out⟩
        · have f2 : ¬ ((b.size : Nat) : Int) ≤ 1024 := by omega
          have D2 := hid (decide_eq_false h2)
          go_wp2_with fail
          go_ret
          exact ⟨congrArg (fun z => Ending.returned (.bool z)) (by rw [HR.out, D1.out, D2.out]; rfl), HG.out⟩
      · have f1 : ¬ (m : Int) ≤ 256 := by omega
        have D1 := hid (decide_eq_false h1)
        go_wp2_with fail
        go_ret
        exact ⟨congrArg (fun z => Ending.returned (.bool z)) (by rw [HR.out, D1.out]; rfl), HG.out⟩
end Go.Proofs.YtidnaednldcdfaaDoor
namespace Go.Proofs.YtidnaednldcdfaaDoor
open Go.RowKit

/-- 'copy(dst, src)', elements of s cells, into a block that is known whole. -/
theorem run_copyS {P : Program} (s : Nat) (w : World) (dT sT ty elem : TypeId) (g o dLen dCap : Nat) (a : Addr) (sLen sCap : Nat) (vs : List Value) (t : TypeId) (cs : List Value)
    (hu : P.underlying dT = some (.slice elem)) (hs : (P.info? elem).map (·.size) = some s)
    (hg : Blk w g t vs.toArray) (hn : cs.length = Nat.min sLen dLen * s)
    (hsrc : ∀ j v, cs[j]? = some v → w.cell? (a.add j) = some v) (hfit : o + cs.length ≤ vs.length) (h1 : ∀ v ∈ cs, v.oneCell' = true) :
    ∃ w', (Builtin.copy_ #[dT, sT] ty #[.slice (some ⟨g, o, none⟩) dLen dCap, .slice (some a) sLen sCap]).run P w = .ok (goInt (Nat.min sLen dLen)) w' ∧ Blk w' g t (splice vs o cs).toArray ∧ Kept (fun k => k = g) w w' := by
  have hl := run_loadCells_list (P := P) w a cs hsrc
  have hst := run_storeCells_at P g o t cs 0 vs.toArray w hg (by simpa using hfit) h1
  refine ⟨w.setRow g ((vs.take o ++ cs ++ vs.drop (o + cs.length))).toArray, ?_, ?_, rfl, rfl, rfl, by simp [World.setRow], fun k hk hF => setRow_other w g k _ (fun h => hF h)⟩
  · cases hq : P.info? elem with
    | none => simp [hq] at hs
    | some i =>
      have hi : i.size = s := by simpa [hq] using hs
      simp only [Nat.add_zero] at hst
      simp [Builtin.copy_, run_underlying hu, Builtin.lenOf, Builtin.firstCells, sizeOf, typeInfo, hq, hi, ← hn, hl, hst]
  · have := setRow_heap w g vs.toArray (vs.take o ++ cs ++ vs.drop (o + cs.length)).toArray t _ hg
    unfold Blk
    rw [this]
    simp [splice]
/-- Nothing to copy. -/
theorem run_copy0 {P : Program} {w : World} (s : Nat) (dT sT ty elem : TypeId) (hu : P.underlying dT = some (.slice elem)) (hs : (P.info? elem).map (·.size) = some s)
    (dp sp : Option Addr) (dLen dCap sLen sCap : Nat) (hn : Nat.min sLen dLen = 0) : (Builtin.copy_ #[dT, sT] ty #[.slice dp dLen dCap, .slice sp sLen sCap]).run P w = .ok (goInt 0) w := by
  cases hq : P.info? elem with
  | none => simp [hq] at hs
  | some i =>
    have hi : i.size = s := by simpa [hq] using hs
    cases sp <;> cases dp <;> simp [Builtin.copy_, run_underlying hu, Builtin.lenOf, Builtin.firstCells, sizeOf, typeInfo, hq, hn, loadCells, loadCellsFrom, storeCells]
/-- A whole new row filled: 'copy(f, src)', as long as each other. -/
theorem run_copyA {P : Program} (s : Nat) (w : World) (dT sT ty elem : TypeId) (g m c : Nat) (A : Option Addr) (vs cs : List Value) (t : TypeId)
    (hu : P.underlying dT = some (.slice elem)) (hs : (P.info? elem).map (·.size) = some s) (hg : Blk w g t vs.toArray) (hn : cs.length = m * s) (hv : vs.length = m * s)
    (hsrc : 0 < m → ∃ ad, A = some ad ∧ ∀ j v, cs[j]? = some v → w.cell? (ad.add j) = some v) (h1 : ∀ v ∈ cs, v.oneCell' = true) :
    ∃ w', (Builtin.copy_ #[dT, sT] ty #[.slice (some ⟨g, 0, none⟩) m m, .slice A m c]).run P w = .ok (.int .i64 ((m : Nat) : Int)) w' ∧ Blk w' g t cs.toArray ∧ Kept (fun k => k = g) w w' := by
  rcases Nat.eq_zero_or_pos m with h0 | h0
  · subst h0
    have e1 : cs = [] := List.eq_nil_of_length_eq_zero (by omega)
    have e2 : vs = [] := List.eq_nil_of_length_eq_zero (by omega)
    subst e1 e2
    exact ⟨w, run_copy0 s dT sT ty elem hu hs _ _ _ _ _ _ (by simp), hg, Kept.refl _ _⟩
  · obtain ⟨ad, rfl, ha⟩ := hsrc h0
    obtain ⟨w', h2, h3, h4⟩ := run_copyS (P := P) s w dT sT ty elem g 0 m m ad m c vs t cs hu hs hg (by simp [hn]) ha (by omega) h1
    refine ⟨w', by rw [h2]; simp [goInt], ?_, h4⟩
    rwa [show splice vs 0 cs = cs by unfold splice; rw [List.take_zero, List.nil_append, Nat.zero_add, show cs.length = vs.length by omega, List.drop_length, List.append_nil]] at h3
/-- 'make([]T, n)', whatever T. -/
theorem make_blk {P : Program} {t e : TypeId} {z : Value} {s b : Nat} (ht : P.underlying t = some (.slice e)) (he : (P.info? e).map (fun i => (i.zero, i.size, i.bytes)) = some (some z, s, b)) (hb : b ≤ 100)
    (n : Nat) (hn : n ≤ 1048576) (W : World) : ∃ (vs : List Value) (w' : World), vs.length = n * s ∧ (Instr.makeSlice t (.int .i64 n) (.int .i64 n)).run P W = .ok (.slice (some ⟨W.heap.size, 0, none⟩) n n) w' ∧ Blk w' W.heap.size e vs.toArray ∧ Grew W w' ∧ w'.heap.size = W.heap.size + 1 := by
  obtain ⟨i, hi, hz0, hz1, hz2⟩ := info_parts he
  have hm : n * b ≤ n * 100 := Nat.mul_le_mul_left n hb
  have hm2 : (b : Int) * (n : Int) ≤ 100 * n := by rw [← Int.natCast_mul, Nat.mul_comm]; omega
  have hr := run_make (P := P) W t e i z ht hi hz0 .i64 .i64 n n (by omega) (by omega) (by rw [hz2]; omega) (by omega)
  simp only [Int.toNat_natCast] at hr
  refine ⟨(madeCells z.cells (n * i.size)).toList, _, by simp [size_madeCells, hz1], hr, ?_, (Grew.refl W).alloc _, by simp⟩
  have := Blk.new W e (madeCells z.cells (n * i.size))
  simpa using this
theorem Blk.put4 {w : World} {g : Nat} {t : TypeId} {a0 a1 a2 a3 : Value} (h : Blk w g t #[a0, a1, a2, a3]) (c0 c1 c2 c3 : Value) :
    Blk ((((w.setCell ⟨g, 0, none⟩ c0).setCell ⟨g, 1, none⟩ c1).setCell ⟨g, 2, none⟩ c2).setCell ⟨g, 3, none⟩ c3) g t #[c0, c1, c2, c3] := by
  have := (((h.put 0 c0).put 1 c1).put 2 c2).put 3 c3
  simpa using this
theorem kept4 {F : Nat → Prop} {w w2 : World} {g : Nat} (h : Kept F w w2) (hg : g < w.heap.size → F g) (c0 c1 c2 c3 : Value) :
    Kept F w ((((w2.setCell ⟨g, 0, none⟩ c0).setCell ⟨g, 1, none⟩ c1).setCell ⟨g, 2, none⟩ c2).setCell ⟨g, 3, none⟩ c3) :=
  (((h.setCell (p := ⟨g, 0, none⟩) hg c0).setCell (p := ⟨g, 1, none⟩) hg c1).setCell (p := ⟨g, 2, none⟩) hg c2).setCell (p := ⟨g, 3, none⟩) hg c3
/-- What lies in other blocks. -/
theorem Blk.far4 {w : World} {g k : Nat} {t : TypeId} {cs : Array Value} (h : Blk w k t cs) (hk : k ≠ g) (c0 c1 c2 c3 : Value) :
    Blk ((((w.setCell ⟨g, 0, none⟩ c0).setCell ⟨g, 1, none⟩ c1).setCell ⟨g, 2, none⟩ c2).setCell ⟨g, 3, none⟩ c3) k t cs :=
  (((h.far (p := ⟨g, 0, none⟩) hk c0).far (p := ⟨g, 1, none⟩) hk c1).far (p := ⟨g, 2, none⟩) hk c2).far (p := ⟨g, 3, none⟩) hk c3
/-- Changes to blocks made since. -/
theorem Kept.up {w w' : World} (h : Kept (fun k => w.heap.size ≤ k) w w') : Grew w w' := h.grew (Grew.refl w) (fun _ h => h)
theorem flatMap_length {α : Type} {f : α → List Value} {k : Nat} (hk : ∀ x, (f x).length = k) (l : List α) : (l.flatMap f).length = l.length * k := by
  induction l with
  | nil => simp
  | cons x r ih => rw [List.flatMap_cons, List.length_append, hk, ih, List.length_cons, Nat.add_mul]; omega
/-- One of them replaced. -/
theorem splice_flat {α : Type} {f : α → List Value} {k : Nat} (hk : ∀ x, (f x).length = k) : ∀ (l : List α) (i : Nat) (x : α), i < l.length → splice (l.flatMap f) (i * k) (f x) = (l.set i x).flatMap f
  | [], i, x, h => by simp at h
  | y :: r, 0, x, _ => by
    have h1 : (f y).length = (f x).length := by rw [hk, hk]
    simp only [splice, Nat.zero_mul, List.take_zero, List.nil_append, Nat.zero_add, List.flatMap_cons, List.set_cons_zero]
    rw [← h1, List.drop_left]
  | y :: r, i + 1, x, h => by
    have ih := splice_flat hk r i x (by simpa using h)
    rw [List.set_cons_succ, List.flatMap_cons, List.flatMap_cons, ← ih]
    unfold splice
    have e1 : (i + 1) * k = (f y).length + i * k := by rw [hk, Nat.add_mul]; omega
    rw [e1, List.take_length_add_append, Nat.add_assoc, List.drop_length_add_append, List.append_assoc]
end Go.Proofs.YtidnaednldcdfaaDoor
namespace Go.Proofs.YtidnaednldcdfaaDoor
open Go.RowKit

theorem res_obj1 {fn : Func} {a : Tmp} (hr : fn.results = #[ResultVar.cell a 42]) (tmps : Array Value) (g : Nat) (ha : tmps.getD a undef = .pointer (some ⟨g, 0, none⟩)) (w : World) (c0 c1 c2 c3 : Value) (hb : Blk w g 42 #[c0, c1, c2, c3]) :
    (results fn tmps).run Tryd.prog w = .ok (.agg #[c0, c1, c2, c3]) w := by
  have y0 : w.cell? ⟨g, 0, none⟩ = some c0 := hb.cell 0
  have y1 : w.cell? ⟨g, 1, none⟩ = some c1 := hb.cell 1
  have y2 : w.cell? ⟨g, 2, none⟩ = some c2 := hb.cell 2
  have y3 : w.cell? ⟨g, 3, none⟩ = some c3 := hb.cell 3
  have ha' : tmps[a]?.getD undef = .pointer (some ⟨g, 0, none⟩) := by simpa using ha
  simp [results, go_sem, *]
theorem val_info : (Tryd.prog.info? 48).map (fun i => (i.zero, i.size, i.bytes)) = some (some (.agg #[.int .u8 0, .int .i64 0, .int .i64 0]), 3, 24) := by kernel_rfl
theorem val_size : (Tryd.prog.info? 48).map (·.size) = some 3 := by kernel_rfl
theorem vals_one (l : List Ob.Val) : ∀ u ∈ l.flatMap valF, u.oneCell' = true := fun u hu => by
  obtain ⟨v, _, h⟩ := List.mem_flatMap.1 hu
  exact valF_one v u h
theorem flat_cell {α : Type} {f : α → List Value} {s : Nat} (hs : 0 < s) (hf : ∀ x, (f x).length = s) {w : World} {ad : Addr} {l : List α} (h : CellsAt s f w ad l) : ∀ j u, (l.flatMap f)[j]? = some u → w.cell? (ad.add j) = some u := fun j u hu => by
  have hj : j < l.length * s := by
    have := (List.getElem?_eq_some_iff.1 hu).1
    rwa [flatMap_length hf] at this
  have hq : j / s < l.length := Nat.div_lt_of_lt_mul (by rw [Nat.mul_comm]; exact hj)
  have hx := List.getElem?_eq_getElem hq
  have hr : j % s < (f l[j / s]).length := by rw [hf]; exact Nat.mod_lt _ hs
  have h2 := flat_at f s hf l (j / s) _ hx (j % s) _ (List.getElem?_eq_getElem hr)
  have e : j / s * s + j % s = j := by rw [Nat.mul_comm]; exact Nat.div_add_mod j s
  rw [e] at h2
  rw [hu] at h2
  have h3 := h _ _ hx (j % s) _ (List.getElem?_eq_getElem hr)
  rw [e] at h3
  rw [h3, h2]
/-- What 'copied' answers. -/
def CopyPost (w : World) (o : Ob.Obj) (e : Ending) (w' : World) : Prop := ∃ b, e = .returned (.agg #[.int .i64 o.cls, .int .i64 o.lev, .slice (some ⟨b, 0, none⟩) o.f.length o.f.length, .string o.b]) ∧ w.heap.size ≤ b ∧ Blk w' b 48 (o.f.flatMap valF).toArray ∧ Grew w w'
set_option maxRecDepth 100000 in
set_option maxHeartbeats 2000000 in
theorem copied_c (v : OV) (w : World) (h : OvOk w v) (hl : v.o.f.length ≤ 300) : Calls Tryd.prog 61 #[.agg #[.int .i64 v.o.cls, .int .i64 v.o.lev, .slice v.A v.o.f.length v.c, .string v.o.b]] w (CopyPost w v.o) := by
  obtain ⟨⟨cls, lev, f, b⟩, A, c⟩ := v
  have hf := h.f
  clear h
  simp only at hf hl ⊢
  unfold CopyPost
  simp only
  obtain ⟨m, hm⟩ : ∃ m, m = f.length := ⟨_, rfl⟩
  obtain ⟨cs, hcs⟩ : ∃ cs, cs = f.flatMap valF := ⟨_, rfl⟩
  have HL := hid (show cs.length = m * 3 by rw [hcs, hm, flatMap_length valF_len])
  have HO := hid (show ∀ u ∈ cs, u.oneCell' = true by rw [hcs]; exact vals_one f)
  have HF := hid (show 0 < m → ∃ ad, A = some ad ∧ ad.block < w.heap.size ∧ ∀ j u, cs[j]? = some u → w.cell? (ad.add j) = some u by
    intro h0
    obtain ⟨ad, h1, h2, h3⟩ := hf.2 (by rw [← hm]; exact h0)
    exact ⟨ad, h1, h2, fun j u hu => flat_cell (by decide) valF_len h3 j u (by rw [← hcs]; exact hu)⟩)
  rw [← hcs, ← hm]
  rw [← hm] at hl
  clear hf hcs hm
  have G1 := (Grew.refl w).alloc (.cells #[.int .i64 cls, .int .i64 lev, .slice A m c, .string b] 42)
  have B1 := Blk.new w 42 #[.int .i64 cls, .int .i64 lev, .slice A m c, .string b]
  have G2 := G1.alloc (.cells #[.int .i64 0, .int .i64 0, .slice none 0 0, .string ⟨#[]⟩] 42)
  have B1' := B1.grew ((Grew.refl _).alloc (.cells #[.int .i64 0, .int .i64 0, .slice none 0 0, .string ⟨#[]⟩] 42))
  have B2 := Blk.new (w.alloc (.cells #[.int .i64 cls, .int .i64 lev, .slice A m c, .string b] 42)) 42 #[.int .i64 0, .int .i64 0, .slice none 0 0, .string ⟨#[]⟩]
  have e1 : (w.alloc (.cells #[.int .i64 cls, .int .i64 lev, .slice A m c, .string b] 42)).heap.size = w.heap.size + 1 := World.size_alloc _ _
  rw [e1] at B2
  clear G1 B1
  go_enter Tryd.func61, Tryd.ntmps61
  go_upto_region 1 with fail
  generalize (w.alloc (.cells #[.int .i64 cls, .int .i64 lev, .slice A m c, .string b] 42)).alloc (.cells #[.int .i64 0, .int .i64 0, .slice none 0 0, .string ⟨#[]⟩] 42) = w1 at *
  have HG := hid G2
  have HW := hid G2.below.size
  obtain ⟨gb, egb⟩ : ∃ gb, gb = w.heap.size := ⟨_, rfl⟩
  rw [← egb] at B1' B2 ⊢
  have EGB := hid egb
  have HB1 := hid B1'
  have HB2 := hid B2
  have HG1B := hid B2.lt
  have q2 := B1'.cell 2
  have ql := B1'.lt
  simp only [List.getElem?_toArray, List.getElem?_cons_zero, List.getElem?_cons_succ] at q2
  clear G2 B1' B2 e1 egb
  obtain ⟨vs, w2, hvl, hrun, hbk, hg2, hsz⟩ := make_blk (P := Tryd.prog) Tryd.underlying40 val_info (by decide) m (by omega) w1
  obtain ⟨H, eH⟩ : ∃ H, H = w1.heap.size := ⟨_, rfl⟩
  rw [← eH] at hrun hbk
  have EH := hid eH
  have HK := hid hbk
  have HG2 := hid (HG.out.trans hg2)
  have HB1' := hid (HB1.out.grew hg2)
  have HB2' := hid (HB2.out.grew hg2)
  have p2 := HB1'.out.cell 2
  have pl := HB1'.out.lt
  simp only [List.getElem?_toArray, List.getElem?_cons_zero, List.getElem?_cons_succ] at p2
  have HLV := hid hvl
  have HQ := hid ql
  clear hbk hg2 hsz eH hvl HB1 HB2 HG
  go_upto_region 2 with fail
  clear hrun q2 ql
  obtain ⟨w3, hrun, hb3, hk3⟩ := run_copyA (P := Tryd.prog) 3 w2 40 40 3 48 H m c A vs cs 48 Tryd.underlying40 val_size HK.out HL.out HLV.out (fun h0 => by
    obtain ⟨ad, h1, h2, h3⟩ := HF.out h0
    exact ⟨ad, h1, fun j u hu => by rw [HG2.out.below.cell (by rw [block_add]; exact h2)]; exact h3 j u hu⟩) HO.out
  have HG3 := hid (hk3.grew HG2.out (fun k hk => by subst hk; rw [EH.out]; exact HW.out))
  have HC1 := hid (HB1'.out.kept hk3 (by have := EH.out; have := HQ.out; omega))
  have HC2 := hid (HB2'.out.kept hk3 (by have h1 := EH.out; have h2 := HG1B.out; omega))
  have r2 := HC1.out.cell 2
  have rf := HC1.out.frozen 2
  have rl := HC1.out.lt
  simp only [List.getElem?_toArray, List.getElem?_cons_zero, List.getElem?_cons_succ] at r2
  have HH := hid hb3
  clear hb3 hk3 HK HG2
  go_upto_region 4 with fail
  have HW1 : Hid (Grew w (w3.setCell ⟨gb, 2, none⟩ (.slice (some ⟨H, 0, none⟩) m m))) := hid (Kept.up ((Kept.of_grew HG3.out).setCell (p := ⟨gb, 2, none⟩) (fun _ => by have := EGB.out; simp only; omega) _))
  have hne : H ≠ gb := by have := EH.out; have := HQ.out; omega
  have HX1 := hid (show Blk (w3.setCell ⟨gb, 2, none⟩ (.slice (some ⟨H, 0, none⟩) m m)) gb 42 #[.int .i64 cls, .int .i64 lev, .slice (some ⟨H, 0, none⟩) m m, .string b] by
    have := HC1.out.put 2 (.slice (some ⟨H, 0, none⟩) m m)
    simpa using this)
  have HX2 := hid (HC2.out.far (p := ⟨gb, 2, none⟩) (by simp) (.slice (some ⟨H, 0, none⟩) m m))
  have HX3 := hid (HH.out.far (p := ⟨gb, 2, none⟩) hne (.slice (some ⟨H, 0, none⟩) m m))
  have hne2 := hid (show H ≠ gb + 1 by have h1 := EH.out; have h2 := HG1B.out; omega)
  generalize w3.setCell ⟨gb, 2, none⟩ (.slice (some ⟨H, 0, none⟩) m m) = w4 at *
  clear r2 rf rl HC1 HC2 HH HG3
  have s0 := HX1.out.cell 0
  have s1 := HX1.out.cell 1
  have s2 := HX1.out.cell 2
  have s3 := HX1.out.cell 3
  have sl := HX1.out.lt
  have t0 := HX2.out.cell 0
  have t1 := HX2.out.cell 1
  have t2 := HX2.out.cell 2
  have t3 := HX2.out.cell 3
  have tl := HX2.out.lt
  have tf := HX2.out.frozen
  simp only [List.getElem?_toArray, List.getElem?_cons_zero, List.getElem?_cons_succ] at s0 s1 s2 s3 t0 t1 t2 t3
  go_wp2_with fail
  refine bodyPost_ret (v := .agg #[.int .i64 cls, .int .i64 lev, .slice (some ⟨H, 0, none⟩) m m, .string b]) (res_obj1 rfl _ (gb + 1) rfl _ _ _ _ _ (HX2.out.put4 _ _ _ _)) rfl ?_
  exact ⟨H, rfl, by rw [EH.out]; exact HW.out, HX3.out.far4 hne2.out _ _ _ _, Kept.up (kept4 (Kept.of_grew HW1.out) (fun _ => by have h1 := EGB.out; show w.heap.size ≤ gb + 1; omega) _ _ _ _)⟩
end Go.Proofs.YtidnaednldcdfaaDoor
namespace Go.Proofs.YtidnaednldcdfaaDoor
open Go.RowKit

/-- An object of a Store: the block of its fields, and its number among those of its level. -/
structure IT where
  o : Ob.Obj
  b : Nat
  h : Nat
def itF (x : IT) : List Value := [.int .i64 x.o.cls, .int .i64 x.o.lev, .slice (some ⟨x.b, 0, none⟩) x.o.f.length x.o.f.length, .string x.o.b, .int .i64 ((x.h : Nat) : Int)]
theorem itF_len (x : IT) : (itF x).length = 5 := rfl
def objsI (l : List IT) : List Ob.Obj := l.map (·.o)
theorem objsI_len (l : List IT) : (objsI l).length = l.length := by simp [objsI]
theorem objsI_at {l : List IT} {i : Nat} {x : IT} (h : l[i]? = some x) : (objsI l)[i]? = some x.o := by simp [objsI, h]
theorem objsI_snoc (l : List IT) (x : IT) : objsI (l ++ [x]) = objsI l ++ [x.o] := by simp [objsI]
/-- A Store: its block, its levels, its objects. -/
structure SV where
  g : Nat
  U : Option Addr
  cu : Nat
  A : Option Addr
  ca : Nat
  up : List Nat
  its : List IT
def cV (s : SV) (j : Nat) : Value := .int .i64 ((Ob.cnt (objsI s.its) (j : Int) : Nat) : Int)
def stCells (s : SV) : Array Value := #[.slice s.U s.up.length s.cu, .slice s.A s.its.length s.ca, cV s 0, cV s 1, cV s 2, cV s 3, cV s 4, cV s 5, cV s 6, cV s 7]
/-- The blocks that it writes. -/
def Owns (s : SV) (k : Nat) : Prop := k = s.g ∨ AtRow s.A k ∨ ∃ x ∈ s.its, x.b = k
structure StoreAt (w : World) (B : Nat) (s : SV) : Prop where
  blk : Blk w s.g 102 (stCells s)
  low : B ≤ s.g
  up : BytesAt w w.heap.size s.U s.up
  upNe : ∀ ad, s.U = some ad → ¬ Owns s ad.block
  valid : La.valid s.up = true
  row : Row w B 112 5 s.A s.its.length s.ca (s.its.flatMap itF)
  rowNe : ¬ AtRow s.A s.g
  fb : ∀ x ∈ s.its, B ≤ x.b ∧ Blk w x.b 48 (x.o.f.flatMap valF).toArray ∧ x.b ≠ s.g ∧ ¬ AtRow s.A x.b
  dis : ∀ (i j : Nat) (x y : IT), s.its[i]? = some x → s.its[j]? = some y → x.b = y.b → i = j
  hs : ∀ (i : Nat) (x : IT), s.its[i]? = some x → x.h = Ob.hash (objsI s.its) i
  ok : ∀ x ∈ s.its, Ob.mayB s.up.length x.o = true
  len : s.its.length ≤ 65536
theorem StoreAt.grew {w w' : World} {B : Nat} {s : SV} (h : StoreAt w B s) (hg : Grew w w') : StoreAt w' B s :=
  ⟨h.blk.grew hg, h.low, h.up.grew hg, h.upNe, h.valid, h.row.grew hg, h.rowNe, fun x hx => ⟨(h.fb x hx).1, (h.fb x hx).2.1.grew hg, (h.fb x hx).2.2⟩, h.dis, h.hs, h.ok, h.len⟩
/-- What is changed elsewhere leaves it. -/
theorem StoreAt.kept {F : Nat → Prop} {w w' : World} {B : Nat} {s : SV} (h : StoreAt w B s) (hk : Kept F w w') (hF : ∀ k, F k → ¬ Owns s k) (hU : ∀ ad, s.U = some ad → ¬ F ad.block) : StoreAt w' B s :=
  ⟨h.blk.kept hk (fun hf => hF _ hf (.inl rfl)), h.low, ⟨h.up.1, fun hl => by
    obtain ⟨ad, h1, h2, h3⟩ := h.up.2 hl
    exact ⟨ad, h1, Nat.lt_of_lt_of_le h2 hk.size, fun j hj => (hk.cell (by rw [block_add]; exact h2) (by rw [block_add]; exact hU ad h1)).trans (h3 j hj)⟩⟩, h.upNe, h.valid,
    h.row.kept hk (fun g hA hf => hF _ hf (.inr (.inl ⟨_, hA, rfl⟩))), h.rowNe, fun x hx => ⟨(h.fb x hx).1, (h.fb x hx).2.1.kept hk (fun hf => hF _ hf (.inr (.inr ⟨x, hx, rfl⟩))), (h.fb x hx).2.2⟩, h.dis, h.hs, h.ok, h.len⟩
theorem StoreAt.owns {w : World} {B : Nat} {s : SV} (h : StoreAt w B s) {k : Nat} (hk : Owns s k) : B ≤ k ∧ k < w.heap.size := by
  rcases hk with rfl | hk | ⟨x, hx, rfl⟩
  · exact ⟨h.low, h.blk.lt⟩
  · exact at_row_lt h.row k hk
  · exact ⟨(h.fb x hx).1, (h.fb x hx).2.1.lt⟩
theorem StoreAt.lens {w : World} {B : Nat} {s : SV} (h : StoreAt w B s) : s.up.length ≤ 8 := (La.valid_spec h.valid).2
theorem head_spec {n : Nat} {o : Ob.Obj} (h : Ob.mayB n o = true) : 0 ≤ o.cls ∧ o.cls < 64 ∧ 0 ≤ o.lev ∧ o.lev < n ∧ o.f.length ≤ 256 ∧ o.b.size ≤ 1024 ∧ ∀ v ∈ o.f, Ob.valueB n v = true := by
  simp only [Ob.mayB, Ob.headB, Ob.inB, Bool.and_eq_true, decide_eq_true_eq, List.all_eq_true] at h
  exact ⟨h.1.1.1, h.1.1.2, h.1.2.1.1, h.1.2.1.2, h.1.2.2.1, h.1.2.2.2.1, h.2⟩
theorem value_spec {n : Nat} {v : Ob.Val} (h : Ob.valueB n v = true) (hn : n ≤ 20) : ValOk v := by
  simp only [Ob.valueB, Ob.inB, Ob.numB, Bool.and_eq_true, decide_eq_true_eq] at h
  obtain ⟨⟨h1, h2⟩, h3⟩ := h
  have hl : N64 v.l := ⟨by omega, by omega⟩
  by_cases a : v.k ≤ 2
  · rw [if_pos a, decide_eq_true_eq] at h3
    exact ⟨by omega, ⟨by omega, by omega⟩, hl⟩
  rw [if_neg a] at h3
  by_cases b : v.k = 3
  · rw [if_pos b, Bool.and_eq_true, decide_eq_true_eq, decide_eq_true_eq] at h3
    exact ⟨by omega, ⟨by omega, by omega⟩, hl⟩
  rw [if_neg b] at h3
  by_cases c : v.k = 4
  · rw [if_pos c, Bool.and_eq_true, decide_eq_true_eq, decide_eq_true_eq] at h3
    exact ⟨by omega, ⟨by omega, by omega⟩, hl⟩
  rw [if_neg c] at h3
  by_cases d : v.k = 5
  · rw [if_pos d, Bool.and_eq_true, decide_eq_true_eq, decide_eq_true_eq] at h3
    exact ⟨by omega, ⟨by omega, by omega⟩, hl⟩
  rw [if_neg d] at h3
  cases h3
/-- One object of it. -/
theorem it_get {w wr : World} {B : Nat} {s : SV} (h : StoreAt w B s) (hg : Grew w wr) {i : Nat} {x : IT} (hx : s.its[i]? = some x) : ∃ ad, s.A = some ad ∧ wr.cell? (ad.add (i * 5)) = some (.int .i64 x.o.cls) ∧ wr.cell? ⟨ad.block, (ad.add (i * 5)).off + 1, none⟩ = some (.int .i64 x.o.lev) ∧ wr.cell? ⟨ad.block, (ad.add (i * 5)).off + 2, none⟩ = some (.slice (some ⟨x.b, 0, none⟩) x.o.f.length x.o.f.length) ∧ wr.cell? ⟨ad.block, (ad.add (i * 5)).off + 3, none⟩ = some (.string x.o.b) ∧ wr.cell? ⟨ad.block, (ad.add (i * 5)).off + 4, none⟩ = some (.int .i64 ((x.h : Nat) : Int)) ∧ ad.block < wr.heap.size := by
  have hi := (List.getElem?_eq_some_iff.1 hx).1
  have hrow := h.row.grew hg
  rcases hrow.cases with ⟨_, _, _, ⟨_, h2, _⟩ | ⟨g, h1, _, hw, _, _⟩⟩
  · omega
  · rw [h1] at hrow
    have hc := CellsAt.of_row itF_len hrow
    have hq : ∀ j u, (itF x)[j]? = some u → wr.cell? ((⟨g, 0, none⟩ : Addr).add (i * 5 + j)) = some u := fun j u hu => hc i x hx j u hu
    refine ⟨⟨g, 0, none⟩, h1, hq 0 _ rfl, ?_, ?_, ?_, ?_, hw⟩
    · have := hq 1 _ rfl
      rwa [← add_add, add_pos (by decide), block_add] at this
    · have := hq 2 _ rfl
      rwa [← add_add, add_pos (by decide), block_add] at this
    · have := hq 3 _ rfl
      rwa [← add_add, add_pos (by decide), block_add] at this
    · have := hq 4 _ rfl
      rwa [← add_add, add_pos (by decide), block_add] at this
/-- An object of it, as what 'copied' reads. -/
theorem it_ok {w : World} {B : Nat} {s : SV} (h : StoreAt w B s) {x : IT} (hx : x ∈ s.its) : OvOk w ⟨x.o, some ⟨x.b, 0, none⟩, x.o.f.length⟩ := by
  have hs := head_spec (h.ok x hx)
  have hl := h.lens
  refine ⟨⟨fun v hv => value_spec (hs.2.2.2.2.2.2 v hv) (by omega), fun _ => ⟨⟨x.b, 0, none⟩, rfl, (h.fb x hx).2.1.lt, fun i v hi j u hu => ?_⟩⟩, ⟨by simp only; omega, by simp only; omega⟩, ⟨by simp only; omega, by simp only; omega⟩, Nat.le_refl _⟩
  exact blk_row (h.fb x hx).2.1 _ rfl _ _ (flat_at valF 3 valF_len _ i v hi j u hu)
theorem st_cells {w w' : World} {B : Nat} {s : SV} (h : StoreAt w B s) (hg : Grew w w') : w'.cell? ⟨s.g, 0, none⟩ = some (.slice s.U s.up.length s.cu) ∧ w'.cell? ⟨s.g, 1, none⟩ = some (.slice s.A s.its.length s.ca) ∧ s.g < w'.heap.size :=
  ⟨(h.blk.grew hg).cell 0, (h.blk.grew hg).cell 1, (h.blk.grew hg).lt⟩
theorem levels_c (s : SV) (B : Nat) (w : World) (h : StoreAt w B s) : Calls Tryd.prog 54 #[.pointer (some ⟨s.g, 0, none⟩)] w fun e w' => e = .returned (.int .i64 ((s.up.length : Nat) : Int)) ∧ Grew w w' := by
  obtain ⟨q0, q1, ql⟩ := st_cells h (Grew.refl w)
  clear h
  generalize s.g = g at *
  generalize s.up.length = n at *
  generalize s.its.length = m at *
  go_enter Tryd.func54, Tryd.ntmps54
  go_wp2_with fail
  go_ret
  exact ⟨rfl, Grew.refl _⟩
theorem len_c (s : SV) (B : Nat) (w : World) (h : StoreAt w B s) : Calls Tryd.prog 29 #[.pointer (some ⟨s.g, 0, none⟩)] w fun e w' => e = .returned (.int .i64 ((s.its.length : Nat) : Int)) ∧ Grew w w' := by
  obtain ⟨q0, q1, ql⟩ := st_cells h (Grew.refl w)
  clear h
  generalize s.g = g at *
  generalize s.up.length = n at *
  generalize s.its.length = m at *
  go_enter Tryd.func29, Tryd.ntmps29
  go_wp2_with fail
  go_ret
  exact ⟨rfl, Grew.refl _⟩
theorem find_c (s : SV) (B : Nat) (i : Int) (w : World) (h : StoreAt w B s) (b : Bool) (hb : Ob.inB i ((s.its.length : Nat) : Int) = b) : Calls Tryd.prog 60 #[.pointer (some ⟨s.g, 0, none⟩), .int .i64 i] w fun e w' => e = .returned (if b then .nilIface else errVal 3) ∧ Grew w w' := by
  obtain ⟨q0, q1, ql⟩ := st_cells h (Grew.refl w)
  clear h
  have HI := hid (fun W => isIndex_c i ((s.its.length : Nat) : Int) W)
  rw [hb] at HI
  clear hb
  generalize s.g = g at *
  generalize s.up.length = n at *
  generalize s.its.length = m at *
  cases b
  all_goals
    go_enter Tryd.func60, Tryd.ntmps60
    go_wp2_with (go_at_call 59; refine (HI.out _).mono ?_; rintro e w2 ⟨rfl, hg2⟩)
    go_ret
    exact ⟨rfl, hg2⟩
end Go.Proofs.YtidnaednldcdfaaDoor
namespace Go.Proofs.YtidnaednldcdfaaDoor
open Go.RowKit

set_option maxRecDepth 100000 in
theorem res_get (tmps : Array Value) (g : Nat) (ha : tmps.getD 4 undef = .pointer (some ⟨g, 0, none⟩)) (v : Value) (hv : tmps.getD 5 undef = v) (w : World) (c0 c1 c2 c3 : Value) (hb : Blk w g 42 #[c0, c1, c2, c3]) :
    (results Tryd.f26 tmps).run Tryd.prog w = .ok (.tuple #[.agg #[c0, c1, c2, c3], v]) w := by
  have y0 : w.cell? ⟨g, 0, none⟩ = some c0 := hb.cell 0
  have y1 : w.cell? ⟨g, 1, none⟩ = some c1 := hb.cell 1
  have y2 : w.cell? ⟨g, 2, none⟩ = some c2 := hb.cell 2
  have y3 : w.cell? ⟨g, 3, none⟩ = some c3 := hb.cell 3
  have ha' : tmps[4]?.getD undef = .pointer (some ⟨g, 0, none⟩) := by simpa using ha
  have hv' : tmps[5]?.getD undef = v := by simpa using hv
  simp [results, Tryd.results26, go_sem, *]
def zeroO : Array Value := #[.int .i64 0, .int .i64 0, .slice none 0 0, .string ⟨#[]⟩]
/-- What Get answers of an object that there is. -/
def GetPost (w : World) (o : Ob.Obj) (e : Ending) (w' : World) : Prop := ∃ b, e = .returned (.tuple #[.agg #[.int .i64 o.cls, .int .i64 o.lev, .slice (some ⟨b, 0, none⟩) o.f.length o.f.length, .string o.b], .nilIface]) ∧ w.heap.size ≤ b ∧ Blk w' b 48 (o.f.flatMap valF).toArray ∧ Grew w w'
set_option maxRecDepth 100000 in
set_option maxHeartbeats 2000000 in
theorem get_c (s : SV) (B : Nat) (i : Nat) (x : IT) (w : World) (h : StoreAt w B s) (hx : s.its[i]? = some x) : Calls Tryd.prog 26 #[.pointer (some ⟨s.g, 0, none⟩), .int .i64 ((i : Nat) : Int)] w (GetPost w x.o) := by
  have hi := (List.getElem?_eq_some_iff.1 hx).1
  have hb : Ob.inB (i : Int) ((s.its.length : Nat) : Int) = true := by simp [Ob.inB, hi]
  have hm := List.mem_of_getElem? hx
  have hsp := head_spec (h.ok x hm)
  have HCC := hid (fun W (hW : Grew w W) => copied_c ⟨x.o, some ⟨x.b, 0, none⟩, x.o.f.length⟩ W (it_ok (h.grew hW) hm) (by have := hsp.2.2.2.2.1; simp only; omega))
  have HFI := hid (fun W (hW : Grew w W) => find_c s B (i : Int) W (h.grew hW) true hb)
  have HIT := hid (fun W (hW : Grew w W) => it_get h hW hx)
  have HST := hid (fun W (hW : Grew w W) => st_cells h hW)
  have HL := hid h.len
  have f0 : (i : Int) < ((s.its.length : Nat) : Int) := by omega
  have f1 : ((s.its.length : Nat) : Int) ≤ 65536 := by have := h.len; omega
  unfold GetPost
  simp only at HCC
  clear h hsp hm hb
  obtain ⟨⟨cls, lev, f, b⟩, bb, hh⟩ := x
  simp only at HCC HIT ⊢
  unfold CopyPost at HCC
  simp only at HCC
  obtain ⟨m, em⟩ : ∃ m, m = f.length := ⟨_, rfl⟩
  obtain ⟨cs, ecs⟩ : ∃ cs, cs = (f.flatMap valF).toArray := ⟨_, rfl⟩
  rw [← em, ← ecs] at HCC
  rw [← em] at HIT
  rw [← em, ← ecs]
  clear hx em ecs
  generalize s.its.length = n at *
  generalize s.g = sg at *
  generalize s.A = sA at *
  have G1 := (Grew.refl w).alloc (.cells #[.int .i64 0, .int .i64 0, .slice none 0 0, .string ⟨#[]⟩] 42)
  have B1 := Blk.new w 42 #[.int .i64 0, .int .i64 0, .slice none 0 0, .string ⟨#[]⟩]
  go_enter Tryd.func26, Tryd.ntmps26
  go_upto_region 1 with fail
  obtain ⟨gb, egb⟩ : ∃ gb, gb = w.heap.size := ⟨_, rfl⟩
  generalize w.alloc (.cells #[.int .i64 0, .int .i64 0, .slice none 0 0, .string ⟨#[]⟩] 42) = w1 at *
  rw [← egb] at B1 ⊢
  have HG1 := hid G1
  have HB1 := hid B1
  have EGB := hid egb
  clear G1 B1 egb
  go_upto_region 4 with (go_at_call 60; refine (HFI.out _ HG1.out).mono ?_; rintro e w2 ⟨rfl, hg2⟩)
  have HG2 := hid (HG1.out.trans hg2)
  have HB2 := hid (HB1.out.grew hg2)
  clear hg2 HFI HB1
  obtain ⟨p0, p1, pl⟩ := HST.out w2 HG2.out
  obtain ⟨ad, rfl, q0, q1, q2, q3, q4, ql⟩ := HIT.out w2 HG2.out
  have hcall := HCC.out w2 HG2.out
  clear HIT HST HCC p0 q4
  go_wp2_with (go_at_call 61; refine hcall.mono ?_; rintro e w3 ⟨H, rfl, hH, hbk, hg3⟩; have HB3 := hid (HB2.out.grew hg3); have HG3 := hid (HG2.out.trans hg3); have HH := hid hH; have HK := hid hbk; have t0 := HB3.out.cell 0; have t1 := HB3.out.cell 1; have t2 := HB3.out.cell 2; have t3 := HB3.out.cell 3; have tl := HB3.out.lt; have tf := HB3.out.frozen; simp only [List.getElem?_toArray, List.getElem?_cons_zero, List.getElem?_cons_succ] at t0 t1 t2 t3; clear hH hbk hg3 q0 q1 q2 q3 ql p1 pl)
  refine bodyPost_ret (v := .tuple #[.agg #[.int .i64 cls, .int .i64 lev, .slice (some ⟨H, 0, none⟩) m m, .string b], .nilIface]) (res_get _ gb rfl _ rfl _ _ _ _ _ (HB3.out.put4 _ _ _ _)) rfl ?_
  have hne : H ≠ gb := by have h1 := HH.out; have h2 := HB2.out.lt; omega
  exact ⟨H, rfl, Nat.le_trans HG2.out.below.size HH.out, HK.out.far4 hne _ _ _ _, Kept.up (kept4 (Kept.of_grew HG3.out) (fun _ => by have h1 := EGB.out; show w.heap.size ≤ gb; omega) _ _ _ _)⟩
set_option maxRecDepth 100000 in
theorem get_no (s : SV) (B : Nat) (i : Int) (w : World) (h : StoreAt w B s) (hi : Ob.inB i ((s.its.length : Nat) : Int) = false) : Calls Tryd.prog 26 #[.pointer (some ⟨s.g, 0, none⟩), .int .i64 i] w fun e w' => e = .returned (.tuple #[.agg zeroO, errVal 3]) ∧ Grew w w' := by
  have HFI : Hid (∀ W, Grew w W → Calls Tryd.prog 60 #[.pointer (some ⟨s.g, 0, none⟩), .int .i64 i] W fun e w' => e = .returned (.iface 94 (.int .i64 3)) ∧ Grew W w') := hid (fun W hW => find_c s B i W (h.grew hW) false hi)
  clear h hi
  generalize s.its.length = n at *
  generalize s.g = sg at *
  have G1 := (Grew.refl w).alloc (.cells #[.int .i64 0, .int .i64 0, .slice none 0 0, .string ⟨#[]⟩] 42)
  have B1 := Blk.new w 42 #[.int .i64 0, .int .i64 0, .slice none 0 0, .string ⟨#[]⟩]
  go_enter Tryd.func26, Tryd.ntmps26
  go_upto_region 1 with fail
  obtain ⟨gb, egb⟩ : ∃ gb, gb = w.heap.size := ⟨_, rfl⟩
  generalize w.alloc (.cells #[.int .i64 0, .int .i64 0, .slice none 0 0, .string ⟨#[]⟩] 42) = w1 at *
  rw [← egb] at B1 ⊢
  have HG1 := hid G1
  have HB1 := hid B1
  have EGB := hid egb
  clear G1 B1 egb
  go_wp2_with (go_at_call 60; refine (HFI.out _ HG1.out).mono ?_; rintro e w2 ⟨rfl, hg2⟩; have HB3 := hid (HB1.out.grew hg2); have HG3 := hid (HG1.out.trans hg2); have t0 := HB3.out.cell 0; have t1 := HB3.out.cell 1; have t2 := HB3.out.cell 2; have t3 := HB3.out.cell 3; have tl := HB3.out.lt; have tf := HB3.out.frozen; simp only [List.getElem?_toArray, List.getElem?_cons_zero, List.getElem?_cons_succ] at t0 t1 t2 t3; clear hg2)
  refine bodyPost_ret (v := .tuple #[.agg zeroO, errVal 3]) (res_get _ gb rfl _ rfl _ _ _ _ _ (HB3.out.put4 _ _ _ _)) rfl ?_
  exact ⟨rfl, Kept.up (kept4 (Kept.of_grew HG3.out) (fun _ => by have h1 := EGB.out; show w.heap.size ≤ gb; omega) _ _ _ _)⟩
set_option maxRecDepth 100000 in
theorem hash_c (s : SV) (B : Nat) (i : Nat) (x : IT) (w : World) (h : StoreAt w B s) (hx : s.its[i]? = some x) : Calls Tryd.prog 28 #[.pointer (some ⟨s.g, 0, none⟩), .int .i64 ((i : Nat) : Int)] w fun e w' => e = .returned (.tuple #[.int .i64 ((x.h : Nat) : Int), .nilIface]) ∧ Grew w w' := by
  have hi := (List.getElem?_eq_some_iff.1 hx).1
  have hb : Ob.inB (i : Int) ((s.its.length : Nat) : Int) = true := by simp [Ob.inB, hi]
  have HFI := hid (fun W (hW : Grew w W) => find_c s B (i : Int) W (h.grew hW) true hb)
  have HIT := hid (fun W (hW : Grew w W) => it_get h hW hx)
  have HST := hid (fun W (hW : Grew w W) => st_cells h hW)
  have f0 : (i : Int) < ((s.its.length : Nat) : Int) := by omega
  have f1 : ((s.its.length : Nat) : Int) ≤ 65536 := by have := h.len; omega
  clear h hb
  obtain ⟨⟨cls, lev, f, b⟩, bb, hh⟩ := x
  simp only at HIT ⊢
  clear hx
  generalize s.its.length = n at *
  generalize s.g = sg at *
  generalize s.A = sA at *
  go_enter Tryd.func28, Tryd.ntmps28
  go_wp2_with (go_at_call 60; refine (HFI.out w (Grew.refl w)).mono ?_; rintro e w2 ⟨rfl, hg2⟩; obtain ⟨p0, p1, pl⟩ := HST.out w2 hg2; obtain ⟨ad, rfl, q0, q1, q2, q3, q4, ql⟩ := HIT.out w2 hg2; clear HIT HST p0)
  go_ret2
  exact ⟨rfl, hg2⟩
set_option maxRecDepth 100000 in
theorem hash_no (s : SV) (B : Nat) (i : Int) (w : World) (h : StoreAt w B s) (hi : Ob.inB i ((s.its.length : Nat) : Int) = false) : Calls Tryd.prog 28 #[.pointer (some ⟨s.g, 0, none⟩), .int .i64 i] w fun e w' => e = .returned (.tuple #[.int .i64 0, errVal 3]) ∧ Grew w w' := by
  have HFI : Hid (∀ W, Grew w W → Calls Tryd.prog 60 #[.pointer (some ⟨s.g, 0, none⟩), .int .i64 i] W fun e w' => e = .returned (.iface 94 (.int .i64 3)) ∧ Grew W w') := hid (fun W hW => find_c s B i W (h.grew hW) false hi)
  clear h hi
  generalize s.its.length = n at *
  generalize s.g = sg at *
  go_enter Tryd.func28, Tryd.ntmps28
  go_wp2_with (go_at_call 60; refine (HFI.out w (Grew.refl w)).mono ?_; rintro e w2 ⟨rfl, hg2⟩)
  go_ret2
  exact ⟨rfl, hg2⟩
end Go.Proofs.YtidnaednldcdfaaDoor
namespace Go.Proofs.YtidnaednldcdfaaDoor
open Go.RowKit

/-- Only the operation 'q' changes the row. -/
def GR (q : Nat) (A : Option Addr) (j : Nat) : World → World → Prop := if j = q then Kept (AtRow A) else Kept (fun _ => False)
theorem GR.zero {q : Nat} {A : Option Addr} (j : Nat) (w w' : World) (h : GR q A j w w') : Kept (AtRow A) w w' := by
  unfold GR at h
  split at h
  · exact h
  · exact h.mono (fun _ _ h => h.elim)
theorem GR.refl {q : Nat} {A : Option Addr} (j : Nat) (w : World) : GR q A j w w := by
  unfold GR
  split <;> exact Kept.refl _ _
theorem GR.grew {q : Nat} {A : Option Addr} {j : Nat} {w w' : World} (h : Grew w w') : GR q A j w w' := by
  unfold GR
  split <;> exact Kept.of_grew h
theorem item_info : (Tryd.prog.info? 112).map (fun i => (i.zero, i.size, i.bytes)) = some (some (.agg #[.int .i64 0, .int .i64 0, .slice none 0 0, .string ⟨#[]⟩, .int .i64 0]), 5, 64) := by kernel_rfl
/-- What lies in a new block: an object's fields. -/
def NewF (w0 w : World) (o : Ob.Obj) (b : Nat) : Prop := w0.heap.size ≤ b ∧ Blk w b 48 (o.f.flatMap valF).toArray
theorem NewF.kept {F : Nat → Prop} {w0 w w' : World} {o : Ob.Obj} {b : Nat} (h : NewF w0 w o b) (hk : Kept F w w') (hF : ∀ k, F k → k < w0.heap.size) : NewF w0 w' o b := ⟨h.1, h.2.kept hk (fun hf => by have h1 := hF _ hf; have h2 := h.1; omega)⟩
def AF (w0 : World) (B sg gx j cj : Nat) (A : Option Addr) (n ca : Nat) (o : Ob.Obj) (A0 : Option Addr) (m c0 : Nat) (ys : List Value) (k : Nat) (v : Value) (w : World) : Prop := match k with
  | 3 => v = .pointer (some ⟨sg, 1, none⟩)
  | 4 => v = .slice A n ca
  | 5 => v = .agg #[.int .i64 o.cls, .int .i64 o.lev, .slice A0 m c0, .string o.b]
  | 6 => ∃ b, v = .agg #[.int .i64 o.cls, .int .i64 o.lev, .slice (some ⟨b, 0, none⟩) m m, .string o.b] ∧ NewF w0 w o b
  | 8 => v = .pointer (some ⟨gx, 1, none⟩)
  | 9 => v = .int .i64 ((j : Nat) : Int)
  | 11 => v = .pointer (some ⟨sg, 2, none⟩)
  | 12 => v = .pointer (some ⟨sg, 2 + j, none⟩)
  | 13 => v = .int .i64 ((cj : Nat) : Int)
  | 14 => ∃ b, v = .agg #[.int .i64 o.cls, .int .i64 o.lev, .slice (some ⟨b, 0, none⟩) m m, .string o.b, .int .i64 ((cj : Nat) : Int)] ∧ NewF w0 w o b
  | 15 => ∃ b H, v = .slice (some ⟨H, 0, none⟩) 1 1 ∧ NewF w0 w o b ∧ Blk w H 112 #[.int .i64 o.cls, .int .i64 o.lev, .slice (some ⟨b, 0, none⟩) m m, .string o.b, .int .i64 ((cj : Nat) : Int)] ∧ w0.heap.size ≤ H
  | 16 => ∃ b A' c', v = .slice A' (n + 1) c' ∧ NewF w0 w o b ∧ Row w B 112 5 A' (n + 1) c' (ys ++ [.int .i64 o.cls, .int .i64 o.lev, .slice (some ⟨b, 0, none⟩) m m, .string o.b, .int .i64 ((cj : Nat) : Int)]) ∧ RowTo w0 A A' ∧ ¬ AtRow A' b
  | 18 => v = .pointer (some ⟨sg, 1, none⟩)
  | _ => v = .pointer (some ⟨sg, 0, none⟩)
theorem AF.stable {w0 : World} {B sg gx j cj : Nat} {A : Option Addr} {n ca : Nat} {o : Ob.Obj} {A0 : Option Addr} {m c0 : Nat} {ys : List Value} (hA : ∀ k, AtRow A k → k < w0.heap.size)
    (a b : Nat) (v : Value) (w w' : World) (hab : a ≠ b) (h : AF w0 B sg gx j cj A n ca o A0 m c0 ys a v w) (hr : GR 16 A b w w') : AF w0 B sg gx j cj A n ca o A0 m c0 ys a v w' := by
  have h0 := GR.zero b w w' hr
  unfold AF at h ⊢
  split at h
  · exact h
  · exact h
  · exact h
  · obtain ⟨x, h1, h2⟩ := h
    exact ⟨x, h1, h2.kept h0 hA⟩
  · exact h
  · exact h
  · exact h
  · exact h
  · exact h
  · obtain ⟨x, h1, h2⟩ := h
    exact ⟨x, h1, h2.kept h0 hA⟩
  · obtain ⟨x, H, h1, h2, h3, h4⟩ := h
    exact ⟨x, H, h1, h2.kept h0 hA, h3.kept h0 (fun hk => by have := hA _ hk; omega), h4⟩
  · obtain ⟨x, A', c', h1, h2, h3, h4, h5⟩ := h
    refine ⟨x, A', c', h1, h2.kept h0 hA, ?_, h4, h5⟩
    unfold GR at hr
    rw [if_neg (fun e => hab e.symm)] at hr
    exact h3.kept hr (fun q hq e => e)
  · exact h
  · exact h
def AJ (B sg gx : Nat) (A : Option Addr) (n ca : Nat) (ys : List Value) (bs bx : Array Value) (f : Nat → Bool) (w : World) : Prop :=
  (f 16 = false → Row w B 112 5 A n ca ys) ∧ Blk w sg 102 bs ∧ Blk w gx 42 bx
theorem AJ.pure {B sg gx : Nat} {A : Option Addr} {n ca : Nat} {ys : List Value} {bs bx : Array Value} {f : Nat → Bool} {w : World} (h : AJ B sg gx A n ca ys bs bx f w) (j : Nat) : AJ B sg gx A n ca ys bs bx (updF f j) w := by
  refine ⟨fun h5 => h.1 ?_, h.2⟩
  unfold updF at h5
  split at h5
  · cases h5
  · exact h5
theorem AJ.grew {B sg gx : Nat} {A : Option Addr} {n ca : Nat} {ys : List Value} {bs bx : Array Value} {f : Nat → Bool} {w w' : World} (h : AJ B sg gx A n ca ys bs bx f w) (hg : Grew w w') : AJ B sg gx A n ca ys bs bx f w' :=
  ⟨fun h5 => (h.1 h5).grew hg, h.2.1.grew hg, h.2.2.grew hg⟩
theorem AJ.app {B sg gx : Nat} {A : Option Addr} {n ca : Nat} {ys : List Value} {bs bx : Array Value} {f : Nat → Bool} {w w' : World} (h : AJ B sg gx A n ca ys bs bx f w) (hk : Kept (AtRow A) w w') (h1 : ¬ AtRow A sg) (h2 : ¬ AtRow A gx) : AJ B sg gx A n ca ys bs bx (updF f 16) w' := by
  refine ⟨fun (h5 : updF f 16 16 = false) => ?_, h.2.1.kept hk h1, h.2.2.kept hk h2⟩
  unfold updF at h5
  rw [if_pos rfl] at h5
  cases h5
/-- The Store with one more object. -/
def addS (s : SV) (A' : Option Addr) (c' : Nat) (o : Ob.Obj) (b : Nat) : SV := { s with A := A', ca := c', its := s.its ++ [⟨o, b, Ob.cnt (objsI s.its) o.lev⟩] }
/-- What 'add' leaves. -/
def AddIn (w : World) (B : Nat) (s : SV) (o : Ob.Obj) (w' : World) : Prop := ∃ s', StoreAt w' B s' ∧ s'.g = s.g ∧ s'.up = s.up ∧ s'.U = s.U ∧ objsI s'.its = objsI s.its ++ [o] ∧ Kept (Owns s) w w' ∧ ∀ k, Owns s' k → Owns s k ∨ w.heap.size ≤ k
theorem st_count (s : SV) (j : Nat) (hj : j < 8) : (stCells s)[2 + j]? = some (cV s j) := by
  rcases (by omega : j = 0 ∨ j = 1 ∨ j = 2 ∨ j = 3 ∨ j = 4 ∨ j = 5 ∨ j = 6 ∨ j = 7) with rfl | rfl | rfl | rfl | rfl | rfl | rfl | rfl <;> rfl
/-- The cells of it, after the two stores. -/
theorem st_add (s : SV) (A' : Option Addr) (c' : Nat) (o : Ob.Obj) (b j : Nat) (hj : j < 8) (ho : o.lev = (j : Int)) : ((stCells s).setIfInBounds 1 (.slice A' (s.its.length + 1) c')).setIfInBounds (2 + j) (.int .i64 ((Ob.cnt (objsI s.its) (j : Int) + 1 : Nat) : Int)) = stCells (addS s A' c' o b) := by
  have e : ∀ i : Nat, cV (addS s A' c' o b) i = if i = j then .int .i64 ((Ob.cnt (objsI s.its) (j : Int) + 1 : Nat) : Int) else cV s i := by
    intro i
    unfold cV addS
    simp only [objsI_snoc, Ob.cnt_snoc, ho]
    by_cases h : i = j
    · subst h; simp
    · have h2 : ¬ (j : Int) = (i : Int) := by omega
      rw [if_neg h2, if_neg h, Nat.add_zero]
  unfold stCells
  simp only [e]
  rcases (by omega : j = 0 ∨ j = 1 ∨ j = 2 ∨ j = 3 ∨ j = 4 ∨ j = 5 ∨ j = 6 ∨ j = 7) with rfl | rfl | rfl | rfl | rfl | rfl | rfl | rfl <;> simp [addS]
/-- What is left is a Store. -/
theorem add_in {w w1 w2 : World} {B : Nat} {s : SV} (h : StoreAt w B s) {o : Ob.Obj} {A' : Option Addr} {c' b : Nat} (hm : Ob.mayB s.up.length o = true) (hn : s.its.length < 65536)
    (hk : Kept (AtRow s.A) w w1) (hb : NewF w w1 o b) (hr : Row w1 B 112 5 A' (s.its.length + 1) c' (s.its.flatMap itF ++ itF ⟨o, b, Ob.cnt (objsI s.its) o.lev⟩)) (ht : RowTo w s.A A') (hA : ¬ AtRow A' b)
    (hs : Blk w2 s.g 102 (stCells (addS s A' c' o b))) (hk2 : Kept (· = s.g) w1 w2) : AddIn w B s o w2 := by
  have hB : B ≤ w.heap.size := Nat.le_trans h.low (Nat.le_of_lt h.blk.lt)
  have hk3 : Kept (Owns s) w w2 := (hk.mono (fun k _ hk => .inr (.inl hk))).next hk2 (fun k _ e => .inl e)
  have hto : ∀ k, AtRow A' k → AtRow s.A k ∨ w.heap.size ≤ k := by
    intro k hk
    rcases ht with e | ⟨q, e1, e2⟩
    · rw [e] at hk; exact .inl hk
    · obtain ⟨ad, h1, h2⟩ := hk
      rw [e1] at h1
      cases h1
      exact .inr (by subst h2; exact e2)
  have hown : ∀ k, Owns (addS s A' c' o b) k → Owns s k ∨ w.heap.size ≤ k := by
    intro k hk
    rcases hk with h1 | h1 | ⟨x, hx, h1⟩
    · exact .inl (.inl h1)
    · rcases hto k h1 with h2 | h2
      · exact .inl (.inr (.inl h2))
      · exact .inr h2
    · rcases List.mem_append.1 hx with hx | hx
      · exact .inl (.inr (.inr ⟨x, hx, h1⟩))
      · obtain rfl := List.mem_singleton.1 hx
        exact .inr (by rw [← h1]; exact hb.1)
  have hne : ∀ k, AtRow A' k → k ≠ s.g := by
    intro k hk e
    subst e
    rcases hto _ hk with h1 | h1
    · exact h.rowNe h1
    · have := h.blk.lt; omega
  refine ⟨addS s A' c' o b, ⟨hs, h.low, ⟨h.up.1, fun hl => ?_⟩, ?_, h.valid, ?_, fun hk => hne _ hk rfl, ?_, ?_, ?_, ?_, ?_⟩, rfl, rfl, rfl, objsI_snoc _ _, hk3, hown⟩
  · obtain ⟨ad, h1, h2, h3⟩ := h.up.2 hl
    exact ⟨ad, h1, Nat.lt_of_lt_of_le h2 hk3.size, fun j hj => (hk3.cell (by rw [block_add]; exact h2) (by rw [block_add]; exact h.upNe ad h1)).trans (h3 j hj)⟩
  · intro ad h1 h2
    have h1' : s.U = some ad := h1
    rcases hown _ h2 with h3 | h3
    · exact h.upNe ad h1' h3
    · have hp : 0 < s.up.length := (La.valid_spec h.valid).1
      obtain ⟨ad', h4, h5, _⟩ := h.up.2 hp
      rw [h1'] at h4
      cases h4
      omega
  · show Row w2 B 112 5 A' (s.its ++ [_]).length c' ((s.its ++ [_]).flatMap itF)
    rw [List.length_append, List.flatMap_append]
    simpa using hr.kept hk2 (fun q hq e => hne q ⟨_, hq, rfl⟩ e)
  · intro x hx
    have hx' : x ∈ s.its ++ [⟨o, b, Ob.cnt (objsI s.its) o.lev⟩] := hx
    rcases List.mem_append.1 hx' with hx | hx
    · obtain ⟨h1, h2, h3, h4⟩ := h.fb x hx
      refine ⟨h1, (h2.kept hk h4).kept hk2 h3, h3, fun h5 => ?_⟩
      rcases hto _ h5 with h6 | h6
      · exact h4 h6
      · have := h2.lt; omega
    · obtain rfl := List.mem_singleton.1 hx
      have hbg : b ≠ s.g := by have := hb.1; have := h.blk.lt; omega
      exact ⟨Nat.le_trans hB hb.1, hb.2.kept hk2 hbg, hbg, hA⟩
  · intro i k x y hx hy he
    have hx' : (s.its ++ [⟨o, b, Ob.cnt (objsI s.its) o.lev⟩])[i]? = some x := hx
    have hy' : (s.its ++ [⟨o, b, Ob.cnt (objsI s.its) o.lev⟩])[k]? = some y := hy
    have hlast : ∀ (i : Nat) (x : IT), (s.its ++ [⟨o, b, Ob.cnt (objsI s.its) o.lev⟩])[i]? = some x → (s.its[i]? = some x ∧ x.b < w.heap.size) ∨ (i = s.its.length ∧ x.b = b) := by
      intro i x hx
      rcases Nat.lt_trichotomy i s.its.length with hl | hl | hl
      · rw [List.getElem?_append_left hl] at hx
        exact .inl ⟨hx, (h.fb x (List.mem_of_getElem? hx)).2.1.lt⟩
      · subst hl
        simp at hx
        exact .inr ⟨rfl, by rw [← hx]⟩
      · rw [List.getElem?_eq_none (by simp; omega)] at hx
        cases hx
    rcases hlast i x hx' with ⟨h1, h2⟩ | ⟨h1, h2⟩ <;> rcases hlast k y hy' with ⟨h3, h4⟩ | ⟨h3, h4⟩
    · exact h.dis i k x y h1 h3 he
    · have := hb.1; omega
    · have := hb.1; omega
    · omega
  · intro i x hx
    have hx' : (s.its ++ [⟨o, b, Ob.cnt (objsI s.its) o.lev⟩])[i]? = some x := hx
    show x.h = Ob.hash (objsI (s.its ++ [⟨o, b, Ob.cnt (objsI s.its) o.lev⟩])) i
    rw [objsI_snoc]
    rcases Nat.lt_trichotomy i s.its.length with hl | hl | hl
    · rw [List.getElem?_append_left hl] at hx'
      rw [Ob.hash_app _ (by rw [objsI_len]; exact hl)]
      exact h.hs i x hx'
    · subst hl
      simp at hx'
      rw [← objsI_len, Ob.hash_new, ← hx']
    · rw [List.getElem?_eq_none (by simp; omega)] at hx'
      cases hx'
  · intro x hx
    have hx' : x ∈ s.its ++ [⟨o, b, Ob.cnt (objsI s.its) o.lev⟩] := hx
    rcases List.mem_append.1 hx' with hx | hx
    · exact h.ok x hx
    · obtain rfl := List.mem_singleton.1 hx
      exact hm
  · show (s.its ++ [_]).length ≤ 65536
    rw [List.length_append]
    simp; omega
end Go.Proofs.YtidnaednldcdfaaDoor
namespace Go.Proofs.YtidnaednldcdfaaDoor
open Go.RowKit

/-- What the count's operations give. -/
def BF (sg gx j cj : Nat) (k : Nat) (v : Value) (_ : World) : Prop := match k with
  | 1 => v = .pointer (some ⟨gx, 1, none⟩)
  | 2 => v = .int .i64 ((j : Nat) : Int)
  | 4 => v = .pointer (some ⟨sg, 2, none⟩)
  | 5 => v = .pointer (some ⟨sg, 2 + j, none⟩)
  | 6 => v = .int .i64 ((cj : Nat) : Int)
  | 7 => v = .int .i64 ((cj : Nat) + 1 : Int)
  | 9 => v = .pointer (some ⟨sg, 2, none⟩)
  | 10 => v = .pointer (some ⟨sg, 2 + j, none⟩)
  | _ => v = .pointer (some ⟨sg, 0, none⟩)
set_option maxRecDepth 100000 in
set_option maxHeartbeats 8000000 in
theorem add_c (s : SV) (B : Nat) (v : OV) (w : World) (h : StoreAt w B s) (hv : OvOk w v) (hvA : 0 < v.o.f.length → ∀ ad, v.A = some ad → ¬ Owns s ad.block) (hm : Ob.mayB s.up.length v.o = true) (hn : s.its.length < 65536) :
    Calls Tryd.prog 49 #[.pointer (some ⟨s.g, 0, none⟩), .agg #[.int .i64 v.o.cls, .int .i64 v.o.lev, .slice v.A v.o.f.length v.c, .string v.o.b]] w fun e w' => e = .returned (.tuple #[]) ∧ AddIn w B s v.o w' := by
  have hsp := head_spec hm
  have hl8 := h.lens
  obtain ⟨j, hj⟩ : ∃ j : Nat, v.o.lev = (j : Int) := ⟨v.o.lev.toNat, by omega⟩
  have hj8 : j < 8 := by omega
  have HSt := hid h
  have HM := hid hm
  have HJ := hid hj
  have HCC := hid (fun W (hW : Kept (AtRow s.A) w W) => copied_c v W (hv.kept hW (fun hl ad e hk => hvA hl ad e (.inr (.inl hk)))) (by omega))
  clear hvA
  have HB := hid (show B ≤ w.heap.size from Nat.le_trans h.low (Nat.le_of_lt h.blk.lt))
  have hc := st_count s j hj8
  obtain ⟨cj, hcj⟩ : ∃ cj, cj = Ob.cnt (objsI s.its) (j : Int) := ⟨_, rfl⟩
  have hcl : cj ≤ 65536 := by
    rw [hcj]
    have h1 := Ob.cnt_le (objsI s.its) (j : Int)
    rw [objsI_len] at h1
    omega
  have HCJ := hid hcj
  have hcV : cV s j = .int .i64 ((cj : Nat) : Int) := by unfold cV; rw [← hcj]
  rw [hcV] at hc
  have HC := hid hc
  have HRow := hid h.row
  have HRl := hid (fun k (hk : AtRow s.A k) => (at_row_lt h.row k hk).2)
  have HBs := hid h.blk
  have HRn := hid h.rowNe
  have h1c : (stCells s)[1]? = some (.slice s.A s.its.length s.ca) := rfl
  have H1C := hid h1c
  clear hsp hl8 h hm hcj hcV hc h1c
  obtain ⟨⟨cls, lev, f, bt⟩, A0, c0⟩ := v
  simp only at hj HCC HM HJ ⊢
  subst hj
  unfold CopyPost at HCC
  simp only at HCC
  obtain ⟨m, em⟩ : ∃ m, m = f.length := ⟨_, rfl⟩
  rw [← em] at HCC ⊢
  have EM := hid em
  obtain ⟨n, en⟩ : ∃ n, n = s.its.length := ⟨_, rfl⟩
  have EN := hid en
  rw [← en] at HRow H1C hn
  have HN := hid hn
  obtain ⟨sg, esg⟩ : ∃ sg, sg = s.g := ⟨_, rfl⟩
  have ESG := hid esg
  rw [← esg] at HBs HRn ⊢
  obtain ⟨A, eA⟩ : ∃ A, A = s.A := ⟨_, rfl⟩
  have EA := hid eA
  rw [← eA] at HRow HRl HRn H1C HCC
  obtain ⟨ca, eca⟩ : ∃ ca, ca = s.ca := ⟨_, rfl⟩
  have ECA := hid eca
  rw [← eca] at HRow H1C
  obtain ⟨bs, ebs⟩ : ∃ bs, bs = stCells s := ⟨_, rfl⟩
  have EBS := hid ebs
  rw [← ebs] at HBs HC H1C
  obtain ⟨ys, eys⟩ : ∃ ys, ys = s.its.flatMap itF := ⟨_, rfl⟩
  have EYS := hid eys
  rw [← eys] at HRow
  clear em en esg eA eca ebs eys hv
  have G1 := (Grew.refl w).alloc (.cells #[.int .i64 cls, .int .i64 (j : Int), .slice A0 m c0, .string bt] 42)
  have B1 := Blk.new w 42 #[.int .i64 cls, .int .i64 (j : Int), .slice A0 m c0, .string bt]
  go_enter Tryd.func49, Tryd.ntmps49
  go_upto_region 1 with fail
  obtain ⟨gx, egx⟩ : ∃ gx, gx = w.heap.size := ⟨_, rfl⟩
  have hs1 : (w.alloc (.cells #[.int .i64 cls, .int .i64 (j : Int), .slice A0 m c0, .string bt] 42)).heap.size = w.heap.size + 1 := World.size_alloc _ _
  generalize w.alloc (.cells #[.int .i64 cls, .int .i64 (j : Int), .slice A0 m c0, .string bt] 42) = w1 at *
  rw [← egx] at B1 hs1 ⊢
  have EGX := hid egx
  have HG1 := hid G1
  have HS1 := hid hs1
  have HAl : Hid (∀ k, AtRow A k → k < w1.heap.size) := hid (fun k hk => Nat.lt_of_lt_of_le (HRl.out k hk) HG1.out.below.size)
  have hxA : ¬ AtRow A gx := fun hk => by have h1 := HRl.out _ hk; have h2 := EGX.out; omega
  have HXA := hid hxA
  have HJ0 : Hid (AJ B sg gx A n ca ys bs #[.int .i64 cls, .int .i64 (j : Int), .slice A0 m c0, .string bt] (fun _ => false) w1) := hid ⟨fun _ => HRow.out.grew G1, HBs.out.grew G1, B1⟩
  clear G1 B1 egx hs1 hxA
  refine wp_region_facts4 (w0 := w1) w1 19 19 [4, 5, 6, 7, 8, 9, 10, 11, 12, 13, 14, 15, 16, 17, 18, 19, 20, 21, 22] [] (AF w1 B sg gx j cj A n ca ⟨cls, (j : Int), f, bt⟩ A0 m c0 ys) (Kept (AtRow A)) (GR 16 A) (AJ B sg gx A n ca ys bs #[.int .i64 cls, .int .i64 (j : Int), .slice A0 m c0, .string bt]) (May.kept _) GR.zero GR.refl (by kernel_rfl) (by kernel_rfl) (Kept.refl _ _).drew (HJ0.out.grew (Grew.refl _).drew) (fun a b v w w' _ _ hab _ h hr => AF.stable HAl.out a b v w w' hab h hr) ?_ ?_
  · repeat' (first | exact trivial | apply And.intro)
    all_goals
      intro a w' fl hgw hJ hfi hdep hs hA
      have e0 := hs.eval 0 (by decide) (v := .pointer (some ⟨sg, 0, none⟩)) rfl
      have e3 := hs.eval 3 (by decide) (v := .pointer (some ⟨gx, 0, none⟩)) rfl
      have HJ1 := hid hJ
      have HFi := hid hfi
      have HGW := hid hgw
      clear hs hgw hJ hfi hdep
      simp only [Ahead, Region.binds, slotOf, AF, List.getD_cons_succ, List.getD_cons_zero, forall_const, and_true] at hA
      simp only [wantedD, if_true]
      unfold Oper.wp
      have ec : ∀ v, a.eval (.const v) = v := fun _ => rfl
      generalize hfe : a.eval = fe at *
      have ef : ∀ k, fe (.func k) = Act.eval ⟨#[], []⟩ (.func k) := fun k => by rw [← hfe]; rfl
      clear hfe
    · go_simp
      exact Gives3.of rfl (GR.refl 0 _) rfl (HJ1.out.pure 0)
    · go_simp
      exact Gives3.of rfl (GR.refl 1 _) rfl (HJ1.out.pure 1)
    · go_simp
      exact Gives3.of rfl (GR.refl 2 _) rfl (HJ1.out.pure 2)
    · go_simp
      exact Gives3.of rfl (GR.refl 3 _) rfl (HJ1.out.pure 3)
    · have q1 := HJ1.out.2.1.cell 1
      rw [H1C.out] at q1
      go_simp
      exact Gives3.of rfl (GR.refl 4 _) rfl (HJ1.out.pure 4)
    · have q0 := HJ1.out.2.2.cell 0
      have q1 := HJ1.out.2.2.cell 1
      have q2 := HJ1.out.2.2.cell 2
      have q3 := HJ1.out.2.2.cell 3
      simp only [List.getElem?_toArray, List.getElem?_cons_zero, List.getElem?_cons_succ] at q0 q1 q2 q3
      go_simp
      exact Gives3.of rfl (GR.refl 5 _) rfl (HJ1.out.pure 5)
    · go_simp
      have hcall := HCC.out w' ((Kept.of_grew HG1.out).trans HGW.out)
      refine hcall.mono ?_
      rintro e w3 ⟨b, rfl, hb, hbk, hg3⟩
      have hsz := HGW.out.size
      exact Gives3.of rfl (GR.grew (j := 6) hg3) ⟨b, rfl, by omega, hbk⟩ ((HJ1.out.grew hg3).pure 6)
    · go_simp
      exact Gives3.of rfl (GR.refl 7 _) rfl (HJ1.out.pure 7)
    · go_simp
      exact Gives3.of rfl (GR.refl 8 _) rfl (HJ1.out.pure 8)
    · have q1 := HJ1.out.2.2.cell 1
      simp only [List.getElem?_toArray, List.getElem?_cons_zero, List.getElem?_cons_succ] at q1
      go_simp
      exact Gives3.of rfl (GR.refl 9 _) rfl (HJ1.out.pure 9)
    · go_simp
      exact Gives3.of rfl (GR.refl 10 _) rfl (HJ1.out.pure 10)
    · go_simp
      exact Gives3.of rfl (GR.refl 11 _) rfl (HJ1.out.pure 11)
    · have f1 : (j : Int) < 8 := by omega
      go_simp
      exact Gives3.of rfl (GR.refl 12 _) rfl (HJ1.out.pure 12)
    · have q1 := HJ1.out.2.1.cell (2 + j)
      rw [HC.out] at q1
      go_simp
      exact Gives3.of rfl (GR.refl 13 _) rfl (HJ1.out.pure 13)
    · obtain ⟨⟨b, hv1, hnew⟩, hv2⟩ := hA
      have HNw := hid hnew
      clear hnew
      go_simp
      exact Gives3.of rfl (GR.refl 14 _) ⟨b, rfl, HNw.out⟩ (HJ1.out.pure 14)
    · obtain ⟨b, hv1, hnew⟩ := hA
      have HNw := hid hnew
      have hgn : Grew w' (w'.alloc (.cells #[.int .i64 cls, .int .i64 (j : Int), .slice (some ⟨b, 0, none⟩) m m, .string bt, .int .i64 ((cj : Nat) : Int)] 112)) := (Grew.refl w').alloc _
      have hbn := Blk.new w' 112 #[.int .i64 cls, .int .i64 (j : Int), .slice (some ⟨b, 0, none⟩) m m, .string bt, .int .i64 ((cj : Nat) : Int)]
      have HGn := hid hgn
      have HBn := hid hbn
      clear hnew hgn hbn
      go_simp
      have hsz := HGW.out.size
      exact Gives3.of rfl (GR.grew (j := 15) HGn.out) ⟨b, w'.heap.size, rfl, HNw.out.kept (F := fun _ => False) (.of_grew HGn.out) (fun _ h => h.elim), HBn.out, hsz⟩ ((HJ1.out.grew HGn.out).pure 15)
    · obtain ⟨hv1, ⟨b, H, hv2, hnew, hbn, hH⟩, _⟩ := hA
      have HNw := hid hnew
      have hown := HJ1.out.1 HFi.out
      obtain ⟨A3, c3, w2', hrun, r1, r2, r3⟩ := run_catR (P := Tryd.prog) 100 100 112 (.agg #[.int .i64 0, .int .i64 0, .slice none 0 0, .string ⟨#[]⟩, .int .i64 0]) 5 64 Tryd.underlying100 item_info rfl (by decide) w' B (Nat.le_trans HB.out (Nat.le_trans HG1.out.below.size HGW.out.size)) A n ca ys hown (some ⟨H, 0, none⟩) 1 1 [.int .i64 cls, .int .i64 (j : Int), .slice (some ⟨b, 0, none⟩) m m, .string bt, .int .i64 ((cj : Nat) : Int)] rfl (by intro u hu; simp only [List.mem_cons, List.not_mem_nil, or_false] at hu; rcases hu with rfl | rfl | rfl | rfl | rfl <;> rfl) (by intro e; cases e) (blk_row hbn) (by omega) (by omega)
      have HR1 := hid r1
      have HR2 := hid r2
      have HR3 : Hid (RowTo w1 A A3) := hid (by
        rcases r3 with r3 | ⟨q, e1, e2⟩
        · exact .inl r3
        · exact .inr ⟨q, e1, Nat.le_trans HGW.out.size e2⟩)
      have HAb : Hid (¬ AtRow A3 b) := hid (fun hk => by
        have h1 := HNw.out.1
        rcases r3 with r3 | ⟨q, e1, e2⟩
        · rw [r3] at hk
          have h2 := HAl.out _ hk
          omega
        · obtain ⟨ad, e3, e4⟩ := hk
          rw [e1, Option.some.injEq] at e3
          rw [← e3] at e4
          simp only at e4
          have := HNw.out.2.lt
          omega)
      clear hown hbn r1 r2 r3 hnew
      simp only [execOp, resolve, invoke, builtin, Sem.run_bind, Sem.run_pure, Result.andThen_ok, List.map_toArray, List.map_cons, List.map_nil, hv1, hv2, hrun]
      refine Gives3.of rfl ?_ ?_ ?_
      · exact HR2.out
      · exact ⟨b, A3, c3, rfl, HNw.out.kept HR2.out HAl.out, HR1.out, HR3.out, HAb.out⟩
      · exact HJ1.out.app HR2.out HRn.out HXA.out
    · go_simp
      exact Gives3.of rfl (GR.refl 17 _) rfl (HJ1.out.pure 17)
    · go_simp
      exact Gives3.of rfl (GR.refl 18 _) rfl (HJ1.out.pure 18)
  · intro a w3 hgw hs hf hJ _
    have h16 := hf 16 (by decide)
    have h18 := hf 18 (by decide)
    simp only [slotOf, AF, List.getD_cons_succ, List.getD_cons_zero] at h16 h18
    obtain ⟨b, A3, c3, ev, hnew, hrow, hto, hAb⟩ := h16
    obtain ⟨fn, rfl, hft⟩ := hs.put
    rw [hft] at ev h18
    have q1 := hJ.2.1.cell 1
    have q2 := hJ.2.1.frozen 1
    have q3 := hJ.2.1.lt
    rw [H1C.out] at q1
    have HNw := hid hnew
    have Hrow := hid hrow
    have HTo := hid hto
    have HAb := hid hAb
    have HJ3 := hid hJ.2
    have HGw := hid hgw
    clear hf hft hs hgw hJ hnew hrow hto hAb
    simp only [List.drop_succ_cons, List.drop_zero, putAll, List.foldl_cons, List.foldl_nil, Act.put, List.setIfInBounds_toArray, List.set_cons_succ, List.set_cons_zero, ev, h18]
    clear ev h18
    go_upto_region 2 with fail
    have hks : Kept (· = sg) w3 (w3.setCell ⟨sg, 1, none⟩ (.slice A3 (n + 1) c3)) := (Kept.refl (· = sg) w3).setCell (p := ⟨sg, 1, none⟩) (fun _ => rfl) _
    have hb1 := HJ3.out.1.put 1 (.slice A3 (n + 1) c3)
    have hgs : gx ≠ sg := by have h1 := HBs.out.lt; have h2 := EGX.out; omega
    have hb2 := HJ3.out.2.far (p := ⟨sg, 1, none⟩) hgs (.slice A3 (n + 1) c3)
    have HKs := hid hks
    have HB1 := hid hb1
    have HB2 := hid hb2
    generalize w3.setCell ⟨sg, 1, none⟩ (.slice A3 (n + 1) c3) = w4 at *
    have hcell : (bs.setIfInBounds 1 (.slice A3 (n + 1) c3))[2 + j]? = some (.int .i64 ((cj : Nat) : Int)) := by
      rw [Array.getElem?_setIfInBounds_ne (by omega)]; exact HC.out
    have HC4 := hid hcell
    obtain ⟨bs4, hbs4⟩ : ∃ bs4, bs4 = bs.setIfInBounds 1 (.slice A3 (n + 1) c3) := ⟨_, rfl⟩
    rw [← hbs4] at HB1 HC4
    have HBS4 := hid hbs4
    clear hks hb1 hb2 hcell hbs4 q1 q2 q3 hgs
    refine wp_region_facts4 (w0 := w4) w4 11 11 [23, 24, 25, 26, 27, 28, 29, 30, 31, 32, 33] [] (BF sg gx j cj) (Kept (fun _ => False)) (fun _ => Kept (fun _ => False)) (fun _ w => Blk w sg 102 bs4 ∧ Blk w gx 42 #[.int .i64 cls, .int .i64 (j : Int), .slice A0 m c0, .string bt]) (May.kept _) (fun _ _ _ h => h) (fun _ w => Kept.refl _ w) (by kernel_rfl) (by kernel_rfl) (Kept.refl _ _).drew ⟨HB1.out.drew, HB2.out.drew⟩ (fun a b v w w' _ _ hab _ h hr => h) ?_ ?_
    · repeat' (first | exact trivial | apply And.intro)
      all_goals
        intro a w' fl hgw hJ hfi hdep hs hA
        have e0 := hs.eval 0 (by decide) (v := .pointer (some ⟨sg, 0, none⟩)) rfl
        have e3 := hs.eval 3 (by decide) (v := .pointer (some ⟨gx, 0, none⟩)) rfl
        have HJ1 := hid hJ
        clear hs hgw hJ hfi hdep
        simp only [Ahead, Region.binds, slotOf, BF, List.getD_cons_succ, List.getD_cons_zero, forall_const, and_true] at hA
        simp only [wantedD, if_true]
        unfold Oper.wp
        have ec : ∀ v, a.eval (.const v) = v := fun _ => rfl
        generalize hfe : a.eval = fe at *
        clear hfe
      · go_simp
        exact Gives3.of rfl (Kept.refl _ _) rfl HJ1.out
      · go_simp
        exact Gives3.of rfl (Kept.refl _ _) rfl HJ1.out
      · have q1 := HJ1.out.2.cell 1
        simp only [List.getElem?_toArray, List.getElem?_cons_zero, List.getElem?_cons_succ] at q1
        go_simp
        exact Gives3.of rfl (Kept.refl _ _) rfl HJ1.out
      · go_simp
        exact Gives3.of rfl (Kept.refl _ _) rfl HJ1.out
      · go_simp
        exact Gives3.of rfl (Kept.refl _ _) rfl HJ1.out
      · have f1 : (j : Int) < 8 := by omega
        go_simp
        exact Gives3.of rfl (Kept.refl _ _) rfl HJ1.out
      · have q1 := HJ1.out.1.cell (2 + j)
        rw [HC4.out] at q1
        go_simp
        exact Gives3.of rfl (Kept.refl _ _) rfl HJ1.out
      · have hw : IntKind.i64.wrap ((cj : Int) + 1) = (cj : Int) + 1 := by
          simp [IntKind.wrap, IntKind.bits, IntKind.signed]
          omega
        go_simp
        exact Gives3.of rfl (Kept.refl _ _) rfl HJ1.out
      · go_simp
        exact Gives3.of rfl (Kept.refl _ _) rfl HJ1.out
      · go_simp
        exact Gives3.of rfl (Kept.refl _ _) rfl HJ1.out
      · have f1 : (j : Int) < 8 := by omega
        go_simp
        exact Gives3.of rfl (Kept.refl _ _) rfl HJ1.out
    · intro a w5 hgw hs hf hJ _
      have h7 := hf 7 (by decide)
      have h10 := hf 10 (by decide)
      simp only [slotOf, BF, List.getD_cons_succ, List.getD_cons_zero] at h7 h10
      obtain ⟨fn2, rfl, hft⟩ := hs.put
      rw [hft] at h7 h10
      have HG5 := hid hgw
      have HB5 := hid hJ.1
      have q1 := hJ.1.cell (2 + j)
      rw [HC4.out] at q1
      have q2 := hJ.1.frozen (2 + j)
      have q3 := hJ.1.lt
      clear hf hft hs hgw hJ
      simp only [List.drop_succ_cons, List.drop_zero, putAll, List.foldl_cons, List.foldl_nil, Act.put, List.setIfInBounds_toArray, List.set_cons_succ, List.set_cons_zero, h7, h10]
      clear h7 h10
      go_wp2_with fail
      refine bodyPost_end (results_none rfl _ _ _) rfl ⟨rfl, ?_⟩
      have hks2 : Kept (· = sg) w5 (w5.setCell ⟨sg, 2 + j, none⟩ (.int .i64 ((cj : Int) + 1))) := (Kept.refl (· = sg) w5).setCell (p := ⟨sg, 2 + j, none⟩) (fun _ => rfl) _
      have hkk : Kept (· = sg) w3 (w5.setCell ⟨sg, 2 + j, none⟩ (.int .i64 ((cj : Int) + 1))) := (HKs.out.next HG5.out (fun _ _ h => h.elim)).trans hks2
      have hbl := HB5.out.put (2 + j) (.int .i64 ((cj : Int) + 1))
      rw [HBS4.out, EBS.out, EN.out] at hbl
      have e1 := st_add s A3 c3 ⟨cls, (j : Int), f, bt⟩ b j hj8 rfl
      rw [show ((Ob.cnt (objsI s.its) (j : Int) + 1 : Nat) : Int) = (cj : Int) + 1 by rw [← HCJ.out]; rfl] at e1
      rw [e1] at hbl
      have hrow := Hrow.out
      rw [EYS.out, EN.out, EM.out, HCJ.out] at hrow
      have hkA : Kept (AtRow s.A) w w3 := by rw [← EA.out]; exact (Kept.of_grew HG1.out).trans HGw.out
      have hto : RowTo w s.A A3 := by
        rw [← EA.out]
        rcases HTo.out with h1 | ⟨q, h1, h2⟩
        · exact .inl h1
        · exact .inr ⟨q, h1, Nat.le_trans HG1.out.below.size h2⟩
      rw [ESG.out] at hkk hbl ⊢
      exact add_in HSt.out HM.out (by rw [← EN.out]; exact HN.out) hkA ⟨Nat.le_trans HG1.out.below.size HNw.out.1, HNw.out.2⟩ hrow hto HAb.out hbl hkk
end Go.Proofs.YtidnaednldcdfaaDoor
namespace Go.Proofs.YtidnaednldcdfaaDoor
open Go.RowKit

/-- What Add answers, and leaves. -/
def AddPost (w : World) (B : Nat) (s : SV) (o : Ob.Obj) (e : Ending) (w' : World) : Prop := e = .returned (.tuple #[.int .i64 ((s.its.length : Nat) : Int), .nilIface]) ∧ AddIn w B s o w'
theorem AddIn.from {w w1 w2 : World} {B : Nat} {s : SV} {o : Ob.Obj} (h : AddIn w1 B s o w2) (hg : Grew w w1) : AddIn w B s o w2 := by
  obtain ⟨s', h1, h2, h3, h3b, h4, h5, h6⟩ := h
  refine ⟨s', h1, h2, h3, h3b, h4, (Kept.of_grew hg).trans h5, fun k hk => ?_⟩
  rcases h6 k hk with h7 | h7
  · exact .inl h7
  · exact .inr (Nat.le_trans hg.below.size h7)
theorem AddIn.then {w w1 w2 : World} {B : Nat} {s : SV} {o : Ob.Obj} (h : AddIn w B s o w1) (hg : Grew w1 w2) : AddIn w B s o w2 := by
  obtain ⟨s', h1, h2, h3, h3b, h4, h5, h6⟩ := h
  exact ⟨s', h1.grew hg, h2, h3, h3b, h4, h5.trans (Kept.of_grew hg), h6⟩
set_option maxRecDepth 100000 in
set_option maxHeartbeats 4000000 in
theorem addM_c (s : SV) (B : Nat) (v : OV) (w : World) (h : StoreAt w B s) (hv : OvOk w v) (hvA : 0 < v.o.f.length → ∀ ad, v.A = some ad → ¬ Owns s ad.block) (b : Bool) (hm : Ob.mayB s.up.length v.o = b) (hn : s.its.length < 65536) :
    Calls Tryd.prog 23 #[.pointer (some ⟨s.g, 0, none⟩), .int .i64 v.o.cls, .int .i64 v.o.lev, .slice v.A v.o.f.length v.c, .string v.o.b] w fun e w' => if b then AddPost w B s v.o e w' else e = .returned (.tuple #[.int .i64 0, errVal 1]) ∧ Grew w w' := by
  have HLv := hid (fun W (hW : Grew w W) => levels_c s B W (h.grew hW))
  have HMy := hid (fun W (hW : Grew w W) => may_c s.up.length v W (hv.grew hW))
  rw [hm] at HMy
  have HAd := hid (fun W (hW : Grew w W) (hb : b = true) => add_c s B v W (h.grew hW) (hv.grew hW) hvA (by rw [hm]; exact hb) hn)
  have HSt := hid h
  have hsc := fun W (hW : Grew w W) => st_cells h hW
  have HSC := hid hsc
  have HU := hid h.lens
  unfold AddPost
  obtain ⟨⟨cls, lev, f, bt⟩, A0, c0⟩ := v
  simp only at HAd HMy ⊢
  clear h hv hvA hm hsc
  obtain ⟨sg, esg⟩ : ∃ sg, sg = s.g := ⟨_, rfl⟩
  rw [← esg] at HAd HLv HSC ⊢
  have ESG := hid esg
  obtain ⟨n, en⟩ : ∃ n, n = s.its.length := ⟨_, rfl⟩
  rw [← en] at hn HSC ⊢
  have EN := hid en
  obtain ⟨un, eun⟩ : ∃ un, un = s.up.length := ⟨_, rfl⟩
  rw [← eun] at HLv HMy HU HSC
  generalize f.length = m at *
  clear esg en eun
  have G1 := (Grew.refl w).alloc (.cells #[.int .i64 cls, .int .i64 lev, .slice A0 m c0, .string bt] 42)
  have B1 := Blk.new w 42 #[.int .i64 cls, .int .i64 lev, .slice A0 m c0, .string bt]
  go_enter Tryd.func23, Tryd.ntmps23
  go_upto_region 2 with fail
  generalize w.alloc (.cells #[.int .i64 cls, .int .i64 lev, .slice A0 m c0, .string bt] 42) = w1 at *
  generalize w.heap.size = gx at *
  have HG1 := hid G1
  have HB1 := hid B1
  clear G1 B1
  have q0 := fun (y : After w1) => (HB1.out.grew y.grew).cell 0
  have q1 := fun (y : After w1) => (HB1.out.grew y.grew).cell 1
  have q2 := fun (y : After w1) => (HB1.out.grew y.grew).cell 2
  have q3 := fun (y : After w1) => (HB1.out.grew y.grew).cell 3
  have ql := fun (y : After w1) => (HB1.out.grew y.grew).lt
  simp only [List.getElem?_toArray, List.getElem?_cons_zero, List.getElem?_cons_succ] at q0 q1 q2 q3
  refine wp_region_grew_from (w0 := w1) (Grew.refl w1) (by kernel_rfl) (by kernel_rfl) ?_
  repeat (go_big_quiet_step (first | (go_at_call 54; exact Calls.grew (After.grew _) (HLv.out _ (HG1.out.trans (After.grew _)))) | (go_at_call 47; exact Calls.grew (After.grew _) (HMy.out _ (HG1.out.trans (After.grew _))))))
  refine wpQuiet_nil ?_
  rintro _ ⟨y, rfl⟩
  have HB2 := hid (HB1.out.grew y.grew)
  have HG2 := hid (HG1.out.trans y.grew)
  obtain ⟨_, p1, pl⟩ := HSC.out y.w HG2.out
  have hb0 := HB2.out.cell 0
  have hb1 := HB2.out.cell 1
  have hb2 := HB2.out.cell 2
  have hb3 := HB2.out.cell 3
  have hbl := HB2.out.lt
  simp only [List.getElem?_toArray, List.getElem?_cons_zero, List.getElem?_cons_succ] at hb0 hb1 hb2 hb3
  have f1 : ¬ (65536 : Int) ≤ (n : Int) := by omega
  clear q0 q1 q2 q3 ql HLv HMy HSC
  cases b
  · go_wp2_with fail
    go_ret2
    exact ⟨rfl, HG2.out⟩
  · have hadd := HAd.out y.w HG2.out rfl
    clear HAd
    go_wp2_with fail
    refine hadd.mono ?_
    rintro e w5 ⟨rfl, hin⟩
    obtain ⟨s', h1, h2, h3, h3b, h4, h5, h6⟩ := hin
    obtain ⟨_, r1, rl⟩ := st_cells h1 (Grew.refl w5)
    have HIn := hid (show AddIn y.w B s ⟨cls, lev, f, bt⟩ w5 from ⟨s', h1, h2, h3, h3b, h4, h5, h6⟩)
    have hlen : s'.its.length = n + 1 := by
      have h7 := congrArg List.length h4
      rw [objsI_len, List.length_append, objsI_len, ← EN.out] at h7
      exact h7
    rw [h2, ← ESG.out] at r1 rl
    rw [hlen] at r1
    generalize s'.A = sA at r1
    generalize s'.ca = sca at r1
    clear h1 h2 h3 h3b h4 h5 h6 hlen p1 pl hb0 hb1 hb2 hb3 hbl hadd
    have hw : IntKind.i64.wrap ((n : Int) + 1 - 1) = (n : Int) := by
      simp [IntKind.wrap, IntKind.bits, IntKind.signed]
      omega
    go_wp2_with fail
    go_ret2
    exact ⟨rfl, HIn.out.from HG2.out⟩
end Go.Proofs.YtidnaednldcdfaaDoor
namespace Go.Proofs.YtidnaednldcdfaaDoor
open Go.RowKit

/-- What Put answers, and leaves. -/
def PutPost (w : World) (B : Nat) (s : SV) (i k under : Int) (v : Ob.Val) (e : Ending) (w' : World) : Prop := ∃ s', e = .returned (errVal (Ob.putCode s.up (objsI s.its) i k under v)) ∧ StoreAt w' B s' ∧ s'.g = s.g ∧ s'.up = s.up ∧ s'.U = s.U ∧ objsI s'.its = Ob.put s.up (objsI s.its) i k under v ∧ Kept (Owns s) w w' ∧ ∀ k, Owns s' k → Owns s k ∨ w.heap.size ≤ k
theorem put_same {w w' : World} {B : Nat} {s : SV} (h : StoreAt w B s) (hg : Grew w w') {i k under : Int} {v : Ob.Val} (c : Nat) (h0 : c ≠ 0) (hc : Ob.putCode s.up (objsI s.its) i k under v = c) : PutPost w B s i k under v (.returned (errVal c)) w' :=
  ⟨s, by rw [hc], h.grew hg, rfl, rfl, rfl, (Ob.put_bad (by rw [hc]; exact h0)).symm, Kept.of_grew hg, fun _ hk => .inl hk⟩
def setI (x : IT) (b : Nat) (v : Ob.Val) : IT := { x with o := Ob.setF x.o b v }
theorem itF_set (x : IT) (b : Nat) (v : Ob.Val) : itF (setI x b v) = itF x := by simp [itF, setI, Ob.setF]
theorem flatMap_modify {α β : Type} (f : α → List β) (g : α → α) (hf : ∀ x, f (g x) = f x) : ∀ (l : List α) (i : Nat), (l.modify i g).flatMap f = l.flatMap f
  | [], i => by simp
  | x :: r, 0 => by simp [hf]
  | x :: r, i + 1 => by simp [flatMap_modify f g hf r i]
theorem modify_at {α : Type} {l : List α} {i j : Nat} {g : α → α} {y : α} (h : (l.modify i g)[j]? = some y) : ∃ x, l[j]? = some x ∧ y = if i = j then g x else x := by
  rw [List.getElem?_modify] at h
  cases hx : l[j]? with
  | none => rw [hx] at h; cases h
  | some x =>
    rw [hx] at h
    exact ⟨x, rfl, by simpa using h.symm⟩
theorem valueB_put {up : List Nat} (h256 : ∀ x ∈ up, x < 256) (hv : La.valid up = true) {v : Ob.Val} {under : Int} (h1 : Ob.valueB up.length v = true) (h2 : Ob.inB under up.length = true) : Ob.valueB up.length (Ob.putV up under v) = true := by
  have h1' := h1
  simp only [Ob.valueB, Bool.and_eq_true] at h1'
  have hl : La.isLevel up v.l = true := h1'.1
  have hu : La.isLevel up under = true := h2
  have hj := (La.joinOf_level h256 hv hl hu).1
  simp only [Ob.valueB, Ob.putV, Bool.and_eq_true]
  exact ⟨hj, h1'.2⟩
theorem mayB_set {n : Nat} {o : Ob.Obj} {b : Nat} {v : Ob.Val} (h : Ob.mayB n o = true) (hv : Ob.valueB n v = true) : Ob.mayB n (Ob.setF o b v) = true := by
  simp only [Ob.mayB, Bool.and_eq_true, List.all_eq_true] at h ⊢
  refine ⟨?_, fun x hx => ?_⟩
  · have e : Ob.headB n (Ob.setF o b v) = Ob.headB n o := by
      have hl : (Ob.setF o b v).f.length = o.f.length := by simp [Ob.setF]
      unfold Ob.headB
      rw [hl]
      rfl
    rw [e]
    exact h.1
  · rcases List.mem_or_eq_of_mem_set hx with hx | rfl
    · exact h.2 x hx
    · exact hv
theorem put_done {w w' : World} {B : Nat} {s : SV} (h : StoreAt w B s) {a b : Nat} {under : Int} {v : Ob.Val} {x : IT} (hx : s.its[a]? = some x) (hc : Ob.putCode s.up (objsI s.its) (a : Int) (b : Int) under v = 0)
    (hb : Blk w' x.b 48 ((x.o.f.set b (Ob.putV s.up under v)).flatMap valF).toArray) (hk : Kept (· = x.b) w w') : PutPost w B s (a : Int) (b : Int) under v (.returned .nilIface) w' := by
  have hm := List.mem_of_getElem? hx
  have hz := Ob.code_zero hc
  have hl : ∀ l : List IT, (l.map (·.o.lev)) = (objsI l).map (·.lev) := fun l => by rw [objsI, List.map_map]; rfl
  have hobj : objsI (s.its.modify a (fun y => setI y b (Ob.putV s.up under v))) = Ob.put s.up (objsI s.its) (a : Int) (b : Int) under v := by
    rw [Ob.put_at hc]
    apply List.ext_getElem?
    intro j
    simp only [objsI, List.getElem?_map, List.getElem?_modify]
    cases s.its[j]? with
    | none => rfl
    | some y =>
      by_cases e : a = j
      · simp [e, setI]
      · simp [e]
  have hlev : (objsI (s.its.modify a (fun y => setI y b (Ob.putV s.up under v)))).map (·.lev) = (objsI s.its).map (·.lev) := by rw [hobj, Ob.put_levs]
  have hcell : stCells { s with its := s.its.modify a (fun y => setI y b (Ob.putV s.up under v)) } = stCells s := by
    have e : ∀ j, cV { s with its := s.its.modify a (fun y => setI y b (Ob.putV s.up under v)) } j = cV s j := fun j => by
      unfold cV
      simp only [Ob.cnt_map, hlev]
    unfold stCells
    simp only [e, List.length_modify]
  have hown : ∀ k, Owns { s with its := s.its.modify a (fun y => setI y b (Ob.putV s.up under v)) } k → Owns s k := by
    intro k hk
    rcases hk with h1 | h1 | ⟨y, hy, h1⟩
    · exact .inl h1
    · exact .inr (.inl h1)
    · obtain ⟨j, hj⟩ := List.mem_iff_getElem?.1 hy
      obtain ⟨z, hz1, hz2⟩ := modify_at hj
      refine .inr (.inr ⟨z, List.mem_of_getElem? hz1, ?_⟩)
      rw [← h1, hz2]
      split <;> rfl
  have hkO : Kept (Owns s) w w' := hk.mono (fun k _ e => .inr (.inr ⟨x, hm, e.symm⟩))
  refine ⟨{ s with its := s.its.modify a (fun y => setI y b (Ob.putV s.up under v)) }, by rw [hc]; rfl, ⟨?_, h.low, ?_, ?_, h.valid, ?_, h.rowNe, ?_, ?_, ?_, ?_, ?_⟩, rfl, rfl, rfl, hobj, hkO, fun k hk => .inl (hown k hk)⟩
  · rw [hcell]
    exact h.blk.kept hk (fun e => (h.fb x hm).2.2.1 e.symm)
  · refine ⟨h.up.1, fun hl => ?_⟩
    obtain ⟨ad, h1, h2, h3⟩ := h.up.2 hl
    exact ⟨ad, h1, Nat.lt_of_lt_of_le h2 hk.size, fun j hj => (hkO.cell (by rw [block_add]; exact h2) (by rw [block_add]; exact h.upNe ad h1)).trans (h3 j hj)⟩
  · intro ad h1 h2
    exact h.upNe ad h1 (hown _ h2)
  · show Row w' B 112 5 s.A (s.its.modify a _).length s.ca ((s.its.modify a _).flatMap itF)
    rw [List.length_modify, flatMap_modify itF _ (fun y => itF_set y b _)]
    exact h.row.kept hk (fun g hA e => (h.fb x hm).2.2.2 ⟨_, hA, e⟩)
  · intro y hy
    obtain ⟨j, hj⟩ := List.mem_iff_getElem?.1 hy
    obtain ⟨z, hz1, hz2⟩ := modify_at hj
    by_cases e : a = j
    · rw [if_pos e] at hz2
      subst e
      rw [hx] at hz1
      obtain rfl := Option.some.inj hz1
      subst hz2
      have := h.fb x hm
      exact ⟨this.1, hb, this.2.2⟩
    · rw [if_neg e] at hz2
      subst hz2
      have h1 := h.fb y (List.mem_of_getElem? hz1)
      exact ⟨h1.1, h1.2.1.kept hk (fun e2 => e (h.dis a j x y hx hz1 e2.symm)), h1.2.2⟩
  · intro i j y z hy hz e
    obtain ⟨y', hy1, hy2⟩ := modify_at hy
    obtain ⟨z', hz1, hz2⟩ := modify_at hz
    have e1 : y.b = y'.b := by rw [hy2]; split <;> rfl
    have e2 : z.b = z'.b := by rw [hz2]; split <;> rfl
    exact h.dis i j y' z' hy1 hz1 (by rw [← e1, ← e2]; exact e)
  · intro i y hy
    obtain ⟨y', hy1, hy2⟩ := modify_at hy
    have e1 : y.h = y'.h := by rw [hy2]; split <;> rfl
    rw [e1, h.hs i y' hy1]
    exact (Ob.hash_map hlev i).symm
  · intro y hy
    obtain ⟨j, hj⟩ := List.mem_iff_getElem?.1 hy
    obtain ⟨z, hz1, hz2⟩ := modify_at hj
    have h1 := h.ok z (List.mem_of_getElem? hz1)
    show Ob.mayB s.up.length y.o = true
    rw [hz2]
    split
    · exact mayB_set h1 (valueB_put h.up.1 h.valid hz.1 hz.2.1)
    · exact h1
  · show (s.its.modify a _).length ≤ 65536
    rw [List.length_modify]
    exact h.len
end Go.Proofs.YtidnaednldcdfaaDoor
namespace Go.Proofs.YtidnaednldcdfaaDoor
open Go.RowKit

theorem st_up {w w' : World} {B : Nat} {s : SV} (h : StoreAt w B s) (hg : Grew w w') : BytesAt w' w'.heap.size s.U s.up := h.up.grew hg
theorem fld_get {w w' : World} {B : Nat} {s : SV} (h : StoreAt w B s) (hg : Grew w w') {x : IT} (hx : x ∈ s.its) {b : Nat} {y : Ob.Val} (hy : x.o.f[b]? = some y) : w'.cell? ⟨x.b, b * 3 + 2, none⟩ = some (.int .i64 y.l) ∧ x.b < w'.heap.size := by
  have h1 := (h.fb x hx).2.1.grew hg
  refine ⟨?_, h1.lt⟩
  rw [h1.cell, List.getElem?_toArray]
  exact flat_at valF 3 valF_len _ b y hy 2 _ rfl
theorem set3 (a b c : Value) : ∀ (i : Nat) (L : List Value), i + 3 ≤ L.length → ((L.set i a).set (i + 1) b).set (i + 2) c = Go.splice L i [a, b, c]
  | 0, x :: y :: z :: r, _ => by simp [Go.splice]
  | i + 1, x :: r, h => by
    have ih := set3 a b c i r (by simp at h; omega)
    simp only [List.set_cons_succ, show i + 1 + 1 = (i + 1) + 1 from rfl, show i + 1 + 2 = (i + 2) + 1 from rfl, ih]
    simp only [Go.splice, List.take_succ_cons, List.length_cons, List.length_nil, List.cons_append, show i + 1 + (0 + 1 + 1 + 1) = (i + (0 + 1 + 1 + 1)) + 1 by omega, List.drop_succ_cons]
  | 0, [], h => by simp at h
  | 0, [x], h => by simp at h
  | 0, [x, y], h => by simp at h
  | i + 1, [], h => by simp at h
/-- A value stored over another one. -/
theorem Blk.putVal {w : World} {g : Nat} {t : TypeId} {l : List Ob.Val} (h : Blk w g t (l.flatMap valF).toArray) {b : Nat} (hb : b < l.length) (v : Ob.Val) : Blk (((w.setCell ⟨g, b * 3, none⟩ (.int .u8 ((v.k : Nat) : Int))).setCell ⟨g, b * 3 + 1, none⟩ (.int .i64 v.n)).setCell ⟨g, b * 3 + 2, none⟩ (.int .i64 v.l)) g t ((l.set b v).flatMap valF).toArray := by
  have h1 := ((h.put (b * 3) (.int .u8 ((v.k : Nat) : Int))).put (b * 3 + 1) (.int .i64 v.n)).put (b * 3 + 2) (.int .i64 v.l)
  simp only [List.setIfInBounds_toArray] at h1
  rw [set3 _ _ _ (b * 3) _ (by rw [flatMap_length valF_len]; omega)] at h1
  rw [← splice_flat valF_len l b v hb]
  exact h1
theorem kept3 {F : Nat → Prop} {w w2 : World} {g o : Nat} (h : Kept F w w2) (hg : g < w.heap.size → F g) (c0 c1 c2 : Value) :
    Kept F w (((w2.setCell ⟨g, o, none⟩ c0).setCell ⟨g, o + 1, none⟩ c1).setCell ⟨g, o + 2, none⟩ c2) :=
  ((h.setCell (p := ⟨g, o, none⟩) hg c0).setCell (p := ⟨g, o + 1, none⟩) hg c1).setCell (p := ⟨g, o + 2, none⟩) hg c2
/-- What the operations before the level's store give. -/
def PF (sg gx : Nat) (U : Option Addr) (un cu : Nat) (vl under jl : Int) (k : Nat) (v : Value) (_ : World) : Prop := match k with
  | 2 => v = .pointer (some ⟨sg, 0, none⟩)
  | 3 => v = .agg #[.slice U un cu]
  | 4 => v = .pointer (some ⟨gx, 2, none⟩)
  | 5 => v = .int .i64 vl
  | 6 => v = .int .i64 under
  | 7 => v = .int .i64 jl
  | 8 => v = .pointer (some ⟨gx, 2, none⟩)
  | _ => v = .pointer (some ⟨sg, 0, none⟩)
set_option maxRecDepth 100000 in
set_option maxHeartbeats 8000000 in
theorem put_c (s : SV) (B : Nat) (i k under : Int) (v : Ob.Val) (w : World) (h : StoreAt w B s) :
    Calls Tryd.prog 25 #[.pointer (some ⟨s.g, 0, none⟩), .int .i64 i, .int .i64 k, .int .i64 under, .agg #[.int .u8 ((v.k : Nat) : Int), .int .i64 v.n, .int .i64 v.l]] w (PutPost w B s i k under v) := by
  have HSt := hid h
  have HLv := hid (fun W (hW : Grew w W) => levels_c s B W (h.grew hW))
  have HSC := hid (fun W (hW : Grew w W) => st_cells h hW)
  have HUp := hid (fun W (hW : Grew w W) => st_up h hW)
  have HLe := hid (fun W (hW : Grew w W) a b => leq_c s.U s.cu s.up a b W (by have := h.lens; omega) (h.up.grew hW))
  have HJo := hid (fun W (hW : Grew w W) a b => join_c s.U s.cu s.up a b W (by have := h.lens; omega) (h.up.grew hW))
  have HVal := hid (fun W => value_c s.up.length v W)
  have HI2 := hid (fun W => isIndex_c under ((s.up.length : Nat) : Int) W)
  obtain ⟨b1, e1⟩ : ∃ b1, b1 = Ob.valueB s.up.length v := ⟨_, rfl⟩
  obtain ⟨b2, e2⟩ : ∃ b2, b2 = Ob.inB under ((s.up.length : Nat) : Int) := ⟨_, rfl⟩
  rw [← e1] at HVal
  rw [← e2] at HI2
  have E1 := hid e1
  have E2 := hid e2
  clear h e1 e2
  obtain ⟨vk, vn, vl⟩ := v
  simp only at HVal ⊢
  obtain ⟨un, eun⟩ : ∃ un, un = s.up.length := ⟨_, rfl⟩
  rw [← eun] at HLv HVal HI2 HSC HLe HJo
  have EUN := hid eun
  obtain ⟨sg, esg⟩ : ∃ sg, sg = s.g := ⟨_, rfl⟩
  rw [← esg] at HLv HSC ⊢
  have ESG := hid esg
  clear eun esg
  have G1 := (Grew.refl w).alloc (.cells #[.int .u8 ((vk : Nat) : Int), .int .i64 vn, .int .i64 vl] 48)
  have B1 := Blk.new w 48 #[.int .u8 ((vk : Nat) : Int), .int .i64 vn, .int .i64 vl]
  go_enter Tryd.func25, Tryd.ntmps25
  go_upto_region 1 with fail
  obtain ⟨gx, egx⟩ : ∃ gx, gx = w.heap.size := ⟨_, rfl⟩
  generalize w.alloc (.cells #[.int .u8 ((vk : Nat) : Int), .int .i64 vn, .int .i64 vl] 48) = w1 at *
  rw [← egx] at B1 ⊢
  have EGX := hid egx
  have HG1 := hid G1
  have HB1 := hid B1
  clear G1 B1 egx
  have q0 := fun (y : After w1) => (HB1.out.grew y.grew).cell 0
  have q1 := fun (y : After w1) => (HB1.out.grew y.grew).cell 1
  have q2 := fun (y : After w1) => (HB1.out.grew y.grew).cell 2
  have ql := fun (y : After w1) => (HB1.out.grew y.grew).lt
  simp only [List.getElem?_toArray, List.getElem?_cons_zero, List.getElem?_cons_succ] at q0 q1 q2
  cases b1
  · refine wp_region_grew_from (w0 := w1) (Grew.refl w1) (by kernel_rfl) (by kernel_rfl) ?_
    repeat (go_big_quiet_step (first | (go_at_call 54; exact Calls.grew (After.grew _) (HLv.out _ (HG1.out.trans (After.grew _)))) | (go_at_call 55; exact Calls.grew (After.grew _) (HVal.out _))))
    refine wpQuiet_nil ?_
    rintro _ ⟨y, rfl⟩
    clear q0 q1 q2 ql
    go_wp2_with fail
    go_ret
    exact put_same HSt.out (HG1.out.trans y.grew) 1 (by decide) (Ob.code_arg (by rw [← E1.out]; rfl))
  · cases b2
    · refine wp_region_grew_from (w0 := w1) (Grew.refl w1) (by kernel_rfl) (by kernel_rfl) ?_
      repeat (go_big_quiet_step (first | (go_at_call 54; exact Calls.grew (After.grew _) (HLv.out _ (HG1.out.trans (After.grew _)))) | (go_at_call 55; exact Calls.grew (After.grew _) (HVal.out _)) | (go_at_call 59; exact Calls.grew (After.grew _) (HI2.out _))))
      refine wpQuiet_nil ?_
      rintro _ ⟨y, rfl⟩
      clear q0 q1 q2 ql
      go_wp2_with fail
      go_ret
      exact put_same HSt.out (HG1.out.trans y.grew) 1 (by decide) (Ob.code_arg (by rw [← E2.out, Bool.and_false]))
    · refine wp_region_grew_from (w0 := w1) (Grew.refl w1) (by kernel_rfl) (by kernel_rfl) ?_
      repeat (go_big_quiet_step (first | (go_at_call 54; exact Calls.grew (After.grew _) (HLv.out _ (HG1.out.trans (After.grew _)))) | (go_at_call 55; exact Calls.grew (After.grew _) (HVal.out _)) | (go_at_call 59; exact Calls.grew (After.grew _) (HI2.out _))))
      refine wpQuiet_nil ?_
      rintro _ ⟨y, rfl⟩
      clear q0 q1 q2 ql HLv HVal HI2
      have HA := hid (show (Ob.valueB s.up.length ⟨vk, vn, vl⟩ && Ob.inB under ((s.up.length : Nat) : Int)) = true by rw [← E1.out, ← E2.out]; rfl)
      have HB2 := hid (HB1.out.grew y.grew)
      have HG2 := hid (HG1.out.trans y.grew)
      clear E1 E2 HB1
      generalize y.w = w2 at *
      cases hb3 : Ob.inB i ((s.its.length : Nat) : Int)
      · have HFi : Hid (∀ W, Grew w W → Calls Tryd.prog 60 #[.pointer (some ⟨s.g, 0, none⟩), .int .i64 i] W fun e w' => e = .returned (.iface 94 (.int .i64 3)) ∧ Grew W w') := hid (fun W hW => find_c s B i W (HSt.out.grew hW) false hb3)
        rw [← ESG.out] at HFi
        have HC := hid (Ob.code_obj (k := k) HA.out (by rw [objsI_len]; exact hb3))
        clear hb3
        go_wp2_with (go_at_call 60; refine (HFi.out _ HG2.out).mono ?_; rintro e w3 ⟨rfl, hg3⟩)
        go_ret
        exact put_same HSt.out (HG2.out.trans hg3) 3 (by decide) HC.out
      · have HFi : Hid (∀ W, Grew w W → Calls Tryd.prog 60 #[.pointer (some ⟨s.g, 0, none⟩), .int .i64 i] W fun e w' => e = .returned .nilIface ∧ Grew W w') := hid (fun W hW => find_c s B i W (HSt.out.grew hW) true hb3)
        rw [← ESG.out] at HFi
        obtain ⟨a, rfl⟩ : ∃ a : Nat, i = a := ⟨i.toNat, by simp [Ob.inB] at hb3; omega⟩
        have ha : a < s.its.length := by simp [Ob.inB] at hb3; omega
        obtain ⟨x, hx⟩ : ∃ x, s.its[a]? = some x := ⟨_, List.getElem?_eq_getElem ha⟩
        have HIT := hid (fun W (hW : Grew w W) => it_get HSt.out hW hx)
        have HX := hid hx
        obtain ⟨n, en⟩ : ∃ n, n = s.its.length := ⟨_, rfl⟩
        rw [← en] at ha HSC
        have f1 : (a : Int) < (n : Int) := by omega
        have f2 : (n : Int) ≤ 65536 := by have := HSt.out.len; omega
        obtain ⟨sA, esA⟩ : ∃ sA, sA = s.A := ⟨_, rfl⟩
        rw [← esA] at HIT HSC
        clear hb3 hx ha en esA
        go_upto_region 6 with (go_at_call 60; refine (HFi.out _ HG2.out).mono ?_; rintro e w3 ⟨rfl, hg3⟩)
        have HG3 := hid (HG2.out.trans hg3)
        have HB3 := hid (HB2.out.grew hg3)
        obtain ⟨p0, p1, pl⟩ := HSC.out w3 HG3.out
        obtain ⟨ad, rfl, r0, r1, r2, r3, r4, rl⟩ := HIT.out w3 HG3.out
        clear hg3 HFi HB2 HG2 r0 r1 r3 r4 p0
        go_upto_region 7 with fail
        clear p1 pl r2 rl
        obtain ⟨m, em⟩ : ∃ m, m = x.o.f.length := ⟨_, rfl⟩
        rw [← em]
        have EM := hid em
        obtain ⟨xb, exb⟩ : ∃ xb, xb = x.b := ⟨_, rfl⟩
        rw [← exb]
        have EXB := hid exb
        have HIX := hid (fun W => isIndex_c k ((m : Nat) : Int) W)
        cases hb4 : Ob.inB k ((m : Nat) : Int)
        · rw [hb4] at HIX
          rw [em] at hb4
          have HC := hid (Ob.code_field HA.out (objsI_at HX.out) hb4)
          clear hb4 em exb
          go_wp2_with (go_at_call 59; refine (HIX.out _).mono ?_; rintro e w4 ⟨rfl, hg4⟩)
          go_ret
          exact put_same HSt.out (HG3.out.trans hg4) 3 (by decide) HC.out
        · rw [hb4] at HIX
          obtain ⟨b, rfl⟩ : ∃ b : Nat, k = b := ⟨k.toNat, by simp [Ob.inB] at hb4; omega⟩
          have hb : b < m := by simp [Ob.inB] at hb4; omega
          obtain ⟨y, hy⟩ : ∃ y, x.o.f[b]? = some y := ⟨_, List.getElem?_eq_getElem (by rw [← em]; exact hb)⟩
          have HY := hid hy
          have HC := hid (Ob.code_leq HA.out (objsI_at HX.out) hy)
          have g1 : (b : Int) < (m : Int) := by omega
          have g2 : (m : Int) ≤ 256 := by have := (head_spec (HSt.out.ok x (List.mem_of_getElem? HX.out))).2.2.2.2.1; omega
          have HFld := hid (fun W (hW : Grew w W) => fld_get HSt.out hW (List.mem_of_getElem? HX.out) hy)
          rw [← exb] at HFld
          clear hb4 em exb hb hy
          obtain ⟨yl, eyl⟩ : ∃ yl, yl = y.l := ⟨_, rfl⟩
          rw [← eyl] at HFld HC
          rw [← La.leq_rleq HSt.out.valid] at HC
          clear eyl
          go_upto_region 9 with (go_at_call 59; refine (HIX.out _).mono ?_; rintro e w4 ⟨rfl, hg4⟩)
          have HG4 := hid (HG3.out.trans hg4)
          have HB4 := hid (HB3.out.grew hg4)
          clear hg4 HIX HG3 HB3
          obtain ⟨r, er⟩ : ∃ r, r = La.leq s.up under yl := ⟨_, rfl⟩
          have HLr := hid (fun W (hW : Grew w W) => HLe.out W hW under yl)
          rw [← er] at HLr HC
          clear HLe er
          have q0 := fun (z : After w4) => (HSC.out z.w (HG4.out.trans z.grew)).1
          have q1 := fun (z : After w4) => (HSC.out z.w (HG4.out.trans z.grew)).2.2
          have q2 := fun (z : After w4) => (HFld.out z.w (HG4.out.trans z.grew)).1
          have q3 := fun (z : After w4) => (HFld.out z.w (HG4.out.trans z.grew)).2
          refine wp_region_grew_from (w0 := w4) (Grew.refl w4) (by kernel_rfl) (by kernel_rfl) ?_
          repeat (go_big_quiet_step (first | (go_at_call 57; exact Calls.grew (After.grew _) (HLr.out _ (HG4.out.trans (After.grew _))))))
          refine wpQuiet_nil ?_
          rintro _ ⟨z, rfl⟩
          clear q0 q1 q2 q3
          have HG5 := hid (HG4.out.trans z.grew)
          have HB5 := hid (HB4.out.grew z.grew)
          clear HB4 HLr
          generalize z.w = w5 at *
          cases r
          · go_wp2_with fail
            go_ret
            exact put_same HSt.out HG5.out 11 (by decide) HC.out
          · go_upto_region 11 with fail
            have HC0 := hid (show Ob.putCode s.up (objsI s.its) (a : Int) (b : Int) under ⟨vk, vn, vl⟩ = 0 from HC.out)
            obtain ⟨jl, ejl⟩ : ∃ jl, jl = La.joinOf s.up vl under := ⟨_, rfl⟩
            have HJr := hid (fun W (hW : Grew w W) => HJo.out W hW vl under)
            rw [← ejl] at HJr
            have EJL := hid ejl
            clear ejl HJo HC
            have hmx : Tryd.prog.follows .mixedOrders = true := by kernel_rfl
            refine wp_region_facts (w0 := w5) w5 9 [64, 65, 66, 67, 68, 69, 70, 71, 72] [] (PF sg gx s.U un s.cu vl under jl) hmx (by kernel_rfl) (Grew.refl _) (fun _ _ _ _ h _ => h) ?_ ?_
            · repeat' (first | exact trivial | apply And.intro)
              all_goals
                intro a w' hgw hs hA
                have t0 := hs.eval 0 (by decide) (v := .pointer (some ⟨sg, 0, none⟩)) rfl
                have t3 := hs.eval 3 (by decide) (v := .int .i64 under) rfl
                have t9 := hs.eval 9 (by decide) (v := .pointer (some ⟨gx, 0, none⟩)) rfl
                have HGW := hid (HG5.out.trans hgw)
                have HBe := hid (HB5.out.grew hgw)
                clear hs hgw
                simp only [Ahead, Region.binds, slotOf, PF, List.getD_cons_succ, List.getD_cons_zero, forall_const, and_true] at hA
                simp only [wantedD, if_true]
                unfold Oper.wp
                have ec : ∀ v, a.eval (.const v) = v := fun _ => rfl
                generalize hfe : a.eval = fe at *
                have ef : ∀ k, fe (.func k) = Act.eval ⟨#[], []⟩ (.func k) := fun k => by rw [← hfe]; rfl
                clear hfe
              · go_simp
                exact Gives.of' rfl (Grew.refl _) rfl
              · go_simp
                exact Gives.of' rfl (Grew.refl _) rfl
              · go_simp
                exact Gives.of' rfl (Grew.refl _) rfl
              · obtain ⟨p0, _, pl⟩ := HSC.out w' HGW.out
                go_simp
                exact Gives.of' rfl (Grew.refl _) rfl
              · go_simp
                exact Gives.of' rfl (Grew.refl _) rfl
              · have p2 := HBe.out.cell 2
                have pl := HBe.out.lt
                simp only [List.getElem?_toArray, List.getElem?_cons_zero, List.getElem?_cons_succ] at p2
                go_simp
                exact Gives.of' rfl (Grew.refl _) rfl
              · go_simp
                exact Gives.of' rfl (Grew.refl _) rfl
              · go_simp
                refine (HJr.out w' HGW.out).mono ?_
                rintro e w6 ⟨rfl, hg6⟩
                exact Gives.of' rfl hg6 rfl
              · go_simp
                exact Gives.of' rfl (Grew.refl _) rfl
            · intro a2 w6 hgw hs hf _ _
              have h7 := hf 7 (by decide)
              have h8 := hf 8 (by decide)
              simp only [slotOf, PF, List.getD_cons_succ, List.getD_cons_zero] at h7 h8
              obtain ⟨fn, rfl, hft⟩ := hs.put
              rw [hft] at h7 h8
              have HG6 := hid (HG5.out.trans hgw)
              have HB6 := hid (HB5.out.grew hgw)
              have p2 := HB6.out.cell 2
              have pf := HB6.out.frozen 2
              have pl := HB6.out.lt
              simp only [List.getElem?_toArray, List.getElem?_cons_zero, List.getElem?_cons_succ] at p2
              clear hf hft hs hgw HSC HJr HFld HB5
              simp only [List.drop_succ_cons, List.drop_zero, putAll, List.foldl_cons, List.foldl_nil, Act.put, List.setIfInBounds_toArray, List.set_cons_succ, List.set_cons_zero, h7, h8]
              clear h7 h8
              go_upto_region 12 with fail
              have hgx : ∀ z : IT, z ∈ s.its → z.b ≠ gx := fun z hz => by
                have h1 := (HSt.out.fb z hz).2.1.lt
                have h2 := EGX.out
                omega
              have hm := List.mem_of_getElem? HX.out
              have HW7 := hid (Kept.up ((Kept.of_grew (F := fun k => w.heap.size ≤ k) HG6.out).setCell (p := ⟨gx, 2, none⟩) (fun _ => Nat.le_of_eq EGX.out.symm) (.int .i64 jl)))
              have HB7 := hid (HB6.out.put 2 (.int .i64 jl))
              have HF7 : Hid (Blk (w6.setCell ⟨gx, 2, none⟩ (.int .i64 jl)) xb 48 (x.o.f.flatMap valF).toArray) := hid (by rw [EXB.out]; exact ((HSt.out.fb x hm).2.1.grew HG6.out).far (p := ⟨gx, 2, none⟩) (hgx x hm) _)
              generalize w6.setCell ⟨gx, 2, none⟩ (.int .i64 jl) = w7 at *
              simp only [List.setIfInBounds_toArray, List.set_cons_succ, List.set_cons_zero] at HB7
              have q0 := HB7.out.cell 0
              have q1 := HB7.out.cell 1
              have q2 := HB7.out.cell 2
              have ql := HB7.out.lt
              simp only [List.getElem?_toArray, List.getElem?_cons_zero, List.getElem?_cons_succ] at q0 q1 q2
              have hbm : b < m := by omega
              have hcl : ∀ j u, (valF y)[j]? = some u → w7.cell? ⟨xb, b * 3 + j, none⟩ = some u := fun j u hu => by
                rw [HF7.out.cell, List.getElem?_toArray]
                exact flat_at valF 3 valF_len _ b y HY.out j u hu
              have r0 := hcl 0 _ rfl
              have r1 := hcl 1 _ rfl
              have r2 := hcl 2 _ rfl
              rw [Nat.add_zero] at r0
              have rf := HF7.out.frozen
              have rl := HF7.out.lt
              have HBM := hid hbm
              clear hgx p2 pf pl HB6 hbm hm hcl
              go_wp2_with fail
              go_ret
              have hb8 := HF7.out.putVal (b := b) (by rw [← EM.out]; exact HBM.out) ⟨vk, vn, jl⟩
              have hk8 := kept3 (F := (· = x.b)) (g := xb) (o := b * 3) (Kept.of_grew (F := (· = x.b)) HW7.out) (fun _ => EXB.out) (.int .u8 ((vk : Nat) : Int)) (.int .i64 vn) (.int .i64 jl)
              simp only at hb8
              have hpv : (⟨vk, vn, jl⟩ : Ob.Val) = Ob.putV s.up under ⟨vk, vn, vl⟩ := by rw [EJL.out]; rfl
              rw [hpv] at hb8
              refine put_done HSt.out HX.out HC0.out ?_ ?_
              · rw [EXB.out] at hb8 ⊢
                exact hb8
              · exact hk8
end Go.Proofs.YtidnaednldcdfaaDoor
namespace Go.Proofs.YtidnaednldcdfaaDoor
open Go.RowKit

set_option maxHeartbeats 1000000 in
theorem idxObj_c (g : Nat) (lb : Array Value) (eg : ∀ args w, (callFunc g args).run Tryd.prog w = .ok (.enter g args) w) (p : OV → Bool) (A : Option Addr) (c : Nat) (l : List OV) (w : World) (h : ObjsAt w A l) (hl : l.length ≤ 1000000)
    (hp : ∀ x ∈ l, ∀ W, Grew w W → Calls Tryd.prog g (#[.agg #[.int .i64 x.o.cls, .int .i64 x.o.lev, .slice x.A x.o.f.length x.c, .string x.o.b]] ++ lb) W fun e w' => e = .returned (.bool (p x)) ∧ Grew W w') :
    Calls Tryd.prog 71 #[.slice A l.length c, .func (.func g) #[] lb] w fun e w' => (∃ r : Int, e = .returned (.int .i64 r) ∧ (0 ≤ r ↔ l.any p = true)) ∧ Grew w w' := by
  obtain ⟨n, en⟩ : ∃ n, n = l.length := ⟨_, rfl⟩
  have HA := hid h
  have HP := hid hp
  rw [← en] at hl ⊢
  have EN := hid en
  clear h hp en
  go_enter Tryd.func71, Tryd.ntmps71
  go_wp2_with fail
  go_loopw [5, 8] (fun _ s8 wr => ∃ i : Nat, s8 = .int .i64 ((i : Nat) : Int) ∧ i ≤ n ∧ Grew w wr ∧ Hid ((l.take i).any p = false)) (fun _ s8 _ => n - (intOf s8).toNat)
  case atStart => exact ⟨0, rfl, Nat.zero_le _, Grew.refl _, hid (by simp)⟩
  case round =>
    obtain ⟨i, rfl, hi, hg, HI⟩ := hrel
    have HG := hid hg
    clear hg
    by_cases hlt : i < n
    · have f1 : (i : Int) < n := by omega
      obtain ⟨ad, x, rfl, hx, q0, q1, q2, q3, hb, _⟩ := ov_get HA.out HG.out (i := i) (by rw [← EN.out]; exact hlt)
      have HT : Hid ((l.take (i + 1)).any p = p x) := hid (by
        rw [List.take_add_one, hx, List.any_append, HI.out]
        simp)
      have HX : Hid (p x = true → l.any p = true) := hid (fun hf => List.any_eq_true.2 ⟨x, List.mem_of_getElem? hx, hf⟩)
      have hcall := HP.out x (List.mem_of_getElem? hx) wr HG.out
      generalize p x = b at hcall HT HX
      clear hx
      obtain ⟨⟨cls, lev, f, bt⟩, fA, fc⟩ := x
      simp only at q0 q1 q2 q3 hcall
      generalize f.length = m at *
      cases b
      · go_wp2_with (go_at_fn g; refine hcall.mono ?_; rintro e w2 ⟨rfl, hg2⟩)
        go_round
        case rel => exact ⟨i + 1, by go_num, by omega, HG.out.trans hg2, HT⟩
        case measure => simp [intOf]; omega
      · go_wp2_with (go_at_fn g; refine hcall.mono ?_; rintro e w2 ⟨rfl, hg2⟩)
        go_ret
        exact ⟨⟨_, rfl, by rw [HX.out (by trivial)]; simp⟩, HG.out.trans hg2⟩
    · have hin : i = n := by omega
      subst hin
      go_wp2_with fail
      go_ret
      refine ⟨⟨_, rfl, ?_⟩, HG.out⟩
      have := HI.out
      rw [EN.out, List.take_length] at this
      rw [this]
      simp
theorem anyObj_c (g : Nat) (lb : Array Value) (eg : ∀ args w, (callFunc g args).run Tryd.prog w = .ok (.enter g args) w) (p : OV → Bool) (A : Option Addr) (c : Nat) (l : List OV) (w : World) (h : ObjsAt w A l) (hl : l.length ≤ 1000000)
    (hp : ∀ x ∈ l, ∀ W, Grew w W → Calls Tryd.prog g (#[.agg #[.int .i64 x.o.cls, .int .i64 x.o.lev, .slice x.A x.o.f.length x.c, .string x.o.b]] ++ lb) W fun e w' => e = .returned (.bool (p x)) ∧ Grew W w') :
    Calls Tryd.prog 48 #[.slice A l.length c, .func (.func g) #[] lb] w fun e w' => e = .returned (.bool (l.any p)) ∧ Grew w w' := by
  have HI := hid (idxObj_c g lb eg p A c l w h hl hp)
  clear h hp hl eg
  generalize l.any p = b at *
  generalize l.length = n at *
  go_enter Tryd.func48, Tryd.ntmps48
  go_wp2_with fail
  refine HI.out.mono ?_
  rintro e w1 ⟨⟨r, rfl, hr⟩, hg⟩
  have HD := hid (show decide ((0 : Int) ≤ r) = b by rw [Bool.eq_iff_iff, decide_eq_true_iff]; exact hr)
  clear hr
  go_wp2_with fail
  go_ret
  exact ⟨congrArg (fun z => Ending.returned (.bool z)) HD.out, hg⟩
/-- Levels in a box. -/
theorem new1_c (U : Option Addr) (un cu : Nat) (v : OV) (gb : Nat) (w : World) (h : Blk w gb 55 #[.slice U un cu]) (hv : OvOk w v) : Calls Tryd.prog 46 #[.agg #[.int .i64 v.o.cls, .int .i64 v.o.lev, .slice v.A v.o.f.length v.c, .string v.o.b], .pointer (some ⟨gb, 0, none⟩)] w fun e w' => e = .returned (.bool (!Ob.mayB un v.o)) ∧ Grew w w' := by
  have HV := hid (fun W (hW : Grew w W) => may_c un v W (hv.grew hW))
  clear hv
  generalize Ob.mayB un v.o = b at *
  obtain ⟨⟨cls, lev, f, bt⟩, A0, c0⟩ := v
  simp only at HV ⊢
  generalize f.length = m at *
  have G1 := (Grew.refl w).alloc (.cells #[.int .i64 cls, .int .i64 lev, .slice A0 m c0, .string bt] 42)
  have h1 := h.grew G1
  have q0 := h1.cell 0
  have ql := h1.lt
  have B1 := Blk.new w 42 #[.int .i64 cls, .int .i64 lev, .slice A0 m c0, .string bt]
  have p0 := B1.cell 0
  have p1 := B1.cell 1
  have p2 := B1.cell 2
  have p3 := B1.cell 3
  have pl := B1.lt
  simp only [List.getElem?_toArray, List.getElem?_cons_zero, List.getElem?_cons_succ] at q0 p0 p1 p2 p3
  have HG := hid G1
  clear h h1 B1 G1
  go_enter Tryd.func46, Tryd.ntmps46
  go_upto_region 1 with fail
  generalize w.alloc (.cells #[.int .i64 cls, .int .i64 lev, .slice A0 m c0, .string bt] 42) = w1 at *
  generalize w.heap.size = g at *
  go_wp2_with (go_at_call 47; refine (HV.out _ HG.out).mono ?_; rintro e w2 ⟨rfl, hg2⟩)
  go_ret
  exact ⟨rfl, HG.out.trans hg2⟩
/-- A new Store without objects. -/
def newS (g : Nat) (U : Option Addr) (cu : Nat) (up : List Nat) : SV := ⟨g, U, cu, none, 0, up, []⟩
theorem new_at {w : World} {B : Nat} {U : Option Addr} {cu : Nat} {up : List Nat} (hB : B ≤ w.heap.size) (h : BytesAt w w.heap.size U up) (hv : La.valid up = true) : StoreAt (w.alloc (.cells #[.slice U up.length cu, .slice none 0 0, .int .i64 0, .int .i64 0, .int .i64 0, .int .i64 0, .int .i64 0, .int .i64 0, .int .i64 0, .int .i64 0] 102)) B (newS w.heap.size U cu up) := by
  have hb := Blk.new w 102 #[.slice U up.length cu, .slice none 0 0, .int .i64 0, .int .i64 0, .int .i64 0, .int .i64 0, .int .i64 0, .int .i64 0, .int .i64 0, .int .i64 0]
  refine ⟨hb, hB, h.grew ((Grew.refl w).alloc _), ?_, hv, Row.nil _ _ _ _, ?_, ?_, ?_, ?_, ?_, by simp [newS]⟩
  · intro ad e hk
    obtain ⟨ad', h1, h2, _⟩ := h.2 (La.valid_spec hv).1
    have e' : U = some ad := e
    rw [e'] at h1
    cases h1
    rcases hk with h3 | ⟨a, h3, _⟩ | ⟨x, h3, _⟩
    · have h4 : ad.block = w.heap.size := h3
      omega
    · cases h3
    · cases h3
  · rintro ⟨a, h3, _⟩
    cases h3
  · intro x hx; cases hx
  · intro i j x y hx; simp [newS] at hx
  · intro i x hx; simp [newS] at hx
  · intro x hx; cases hx
end Go.Proofs.YtidnaednldcdfaaDoor
namespace Go.Proofs.YtidnaednldcdfaaDoor
open Go.RowKit

/-- 'append(out, x)': x of several cells. -/
theorem wpList_pushS {P : Program} {ops : Array Oper} {rest : List Oper} {o : Oper} {a : Act} {Q : Exit → Act → World → Prop} (z : Value) (sz b : Nat) (w : World) (hgd : o.guard = none) (s x : Operand) (t e : TypeId)
    (ho : o.op = .call { callee := .builtin .append, args := #[s, x], argTypes := #[t, t] })
    (ht : P.underlying t = some (.slice e)) (he : (P.info? e).map (fun i => (i.zero, i.size, i.bytes)) = some (some z, sz, b)) (hzs : z.cells.size = sz) (hsz : 0 < sz)
    (B : Nat) (hB : B ≤ w.heap.size) (A : Option Addr) (n c : Nat) (ys : List Value) (hs : a.eval s = .slice A n c) (hown : Row w B e sz A n c ys) (H : Nat) (hH : w.heap.size = H) (hxv : a.eval x = .slice (some ⟨H, 0, none⟩) 1 1) (cs : List Value) (hl : cs.length = sz) (h1 : ∀ u ∈ cs, u.oneCell' = true)
    (hlen : n + 1 ≤ 9223372036854775807) (hby : (n + 1) * b ≤ 140737488355328)
    (h : ∀ A' c' w', Row w' B e sz A' (n + 1) c' (ys ++ cs) → Kept (AtRow A) w w' → RowTo w A A' → wpList P ops Q rest (a.put o.dst (.slice A' (n + 1) c')) w') : wpList P ops Q (o :: rest) a (w.alloc (.cells cs.toArray e)) := by
  subst hH
  refine wpList_catR z sz b (w.alloc (.cells cs.toArray e)) hgd s x t e ho ht he hzs hsz B (by simp only [World.size_alloc]; omega) A n c ys hs (hown.grew ((Grew.refl w).alloc _)) _ 1 1 cs hxv (by omega) h1 (by intro h; cases h) (blk_row (Blk.new w e cs.toArray)) hlen hby (fun A' c' w' r1 r2 r3 => h A' c' w' r1 (r2.of_alloc) (r3.imp id (fun ⟨g, h1, h2⟩ => ⟨g, h1, by simp only [World.size_alloc] at h2; omega⟩)))
/-- What 'giveVals' answers. -/
def GiveV (w : World) (l : List Ob.Val) (e : Ending) (w' : World) : Prop := ∃ A' c', e = .returned (.slice A' l.length c') ∧ Row w' w.heap.size 48 3 A' l.length c' (l.flatMap valF) ∧ Grew w w'
set_option maxRecDepth 100000 in
set_option maxHeartbeats 2000000 in
theorem giveVals_c (A : Option Addr) (cap : Nat) (l : List Ob.Val) (w : World) (h : ValsAt w A l) (hl : l.length ≤ 1000) :
    Calls Tryd.prog 22 #[.slice A l.length cap] w (GiveV w l) := by
  obtain ⟨n, en⟩ : ∃ n, n = l.length := ⟨_, rfl⟩
  have HA := hid h
  unfold GiveV
  rw [← en] at hl ⊢
  have EN := hid en
  clear h en
  go_enter Tryd.func22, Tryd.ntmps22
  go_wp2_with fail
  go_loopw [3, 4] (fun s3 s4 wr => ∃ (i : Nat) (A' : Option Addr) (k' : Nat), s4 = .int .i64 ((i : Nat) : Int) ∧ i ≤ n ∧ s3 = .slice A' i k' ∧ Hid (Row wr w.heap.size 48 3 A' i k' ((l.take i).flatMap valF)) ∧ Hid (Grew w wr)) (fun _ s4 _ => n - (intOf s4).toNat)
  case atStart => exact ⟨0, none, 0, rfl, Nat.zero_le _, rfl, hid (Row.nil _ _ _ _), hid (Grew.refl _)⟩
  case round =>
    obtain ⟨i, A', k', rfl, hi, rfl, HR, HG⟩ := hrel
    by_cases hlt : i < n
    · have f1 : (i : Int) < n := by omega
      obtain ⟨ad, x, rfl, hx, q0, q1, q2, hb, _⟩ := val_at HA.out HG.out (i := i) (by rw [← EN.out]; exact hlt)
      have HTk := hid (show (l.take (i + 1)).flatMap valF = (l.take i).flatMap valF ++ valF x by rw [List.take_add_one, hx, List.flatMap_append]; simp)
      clear hx
      obtain ⟨k, z, t⟩ := x
      simp only at q0 q1 q2
      go_wp2_with (at_builtin; refine wpList_pushS (.agg #[.int .u8 0, .int .i64 0, .int .i64 0]) 3 24 wr rfl _ _ 40 48 rfl Tryd.underlying40 val_info rfl (by decide) w.heap.size HG.out.below.size A' i k' _ rfl HR.out _ rfl rfl [.int .u8 ((k : Nat) : Int), .int .i64 z, .int .i64 t] rfl (by intro u hu; simp only [List.mem_cons, List.not_mem_nil, or_false] at hu; rcases hu with rfl | rfl | rfl <;> rfl) (by omega) (by omega) ?_; rintro A8 k8 w8 hR8 hK8 hT8; have HR8 := hid hR8; have HG8 := hid (hK8.grew HG.out (Row.at_base HR.out)); clear hR8 hK8 hT8)
      go_round
      case rel => exact ⟨i + 1, A8, k8, by go_num, by omega, rfl, by rw [HTk.out]; exact HR8, HG8⟩
      case measure => simp [intOf]; omega
    · have hin : i = n := by omega
      subst hin
      have HLe := hid (show l.take i = l by rw [EN.out, List.take_length])
      go_wp2_with fail
      go_ret
      exact ⟨A', k', rfl, by have := HR.out; rwa [HLe.out] at this, HG.out⟩
/-- Is an object too great to be looked at? -/
def bigO (o : Ob.Obj) : Bool := (decide (60 < o.f.length) && decide (o.f.length ≤ 256)) || (decide (300 < o.f.length) || decide (1100 < o.b.size))
end Go.Proofs.YtidnaednldcdfaaDoor

/- LargeOrder: three numbers given on, whatever the order. -/
import Derived.Test.YtmcfciifjgdgoaaGreatDoorMg44
import Derived.Test.YtmcfciifjgdgoaaGreatDoorMg45
namespace Go.Proofs.YtmcfciifjgdgoaaGreatDoor
open Go.RowKit

/-- A number in a box, its words somewhere. -/
structure BoxIn (wx : World) (g : Nat) (ng : Bool) (A : Option Addr) (c : Nat) (xs : List Nat) : Prop where
  lt : g < wx.heap.size
  c0 : wx.cell? ⟨g, 0, none⟩ = some (.bool ng)
  c1 : wx.cell? ⟨g, 1, none⟩ = some (.slice A xs.length c)
  nums : NumsAt .u32 wx wx.heap.size A xs
theorem BoxIn.on {w w' : World} {g : Nat} {ng : Bool} {A : Option Addr} {c : Nat} {xs : List Nat} (h : BoxIn w g ng A c xs) (hg : Grew w w') : BoxIn w' g ng A c xs := by
  obtain ⟨y, rfl⟩ := hg
  exact ⟨Nat.lt_of_lt_of_le h.lt y.b.size, (y.cell _ h.lt).trans h.c0, (y.cell _ h.lt).trans h.c1, h.nums.grew y.grew⟩
theorem BoxIn.made {w : World} (ng : Bool) {A : Option Addr} {c : Nat} {xs : List Nat} (t : TypeId) (h : NumsAt .u32 w w.heap.size A xs) : BoxIn (w.alloc (.cells #[.bool ng, .slice A xs.length c] t)) w.heap.size ng A c xs :=
  ⟨by simp, by simp, by simp, h.grew ((Grew.refl _).alloc _)⟩
/-- A box that is stored into. -/
theorem BoxIn.put {w0 w : World} {g : Nat} {cs : Array Value} {ng : Bool} {A : Option Addr} {c : Nat} {xs : List Nat} (hb : Blk w g 27 cs) (hs : cs.size = 2) (ho : OwnNums .u32 w0 w 55 A c xs) :
    BoxIn ((w.setCell ⟨g, 0, none⟩ (.bool ng)).setCell ⟨g, 1, none⟩ (.slice A xs.length c)) g ng A c xs ∧ OwnNums .u32 w0 ((w.setCell ⟨g, 0, none⟩ (.bool ng)).setCell ⟨g, 1, none⟩ (.slice A xs.length c)) 55 A c xs := by
  have hf : ∀ q, A = some ⟨q, 0, none⟩ → q ≠ g := fun q hA hq => by
    subst hq hA
    rcases ho.2 with ⟨h1, _⟩ | ⟨a, cap, cur, hv, _, hh, _⟩
    · simp at h1
    · simp only [Value.slice.injEq, Option.some.injEq, Addr.mk.injEq] at hv
      obtain ⟨⟨rfl, _⟩, _⟩ := hv
      unfold Blk at hb
      rw [hb] at hh
      simp only [Option.some.injEq, Obj.cells.injEq] at hh
      exact absurd hh.2.1 (by decide)
  have ho' := (ho.far (p := ⟨g, 0, none⟩) (fun q hA => hf q hA) (.bool ng)).far (p := ⟨g, 1, none⟩) (fun q hA => hf q hA) (.slice A xs.length c)
  have hb2 := (hb.put 0 (.bool ng)).put 1 (.slice A xs.length c)
  refine ⟨⟨hb2.lt, ?_, ?_, ho'.at⟩, ho'⟩
  · rw [hb2.cell]; simp [hs]
  · rw [hb2.cell]; simp [hs]

theorem own_ne_blk {w0 w : World} {g : Nat} {cs : Array Value} {A : Option Addr} {c : Nat} {xs : List Nat} (hb : Blk w g 27 cs) (ho : OwnNums .u32 w0 w 55 A c xs) : ∀ q, A = some ⟨q, 0, none⟩ → q ≠ g := fun q hA hq => by
  subst hq hA
  rcases ho.2 with ⟨h1, _⟩ | ⟨a, cap, cur, hv, _, hh, _⟩
  · simp at h1
  · simp only [Value.slice.injEq, Option.some.injEq, Addr.mk.injEq] at hv
    obtain ⟨⟨rfl, _⟩, _⟩ := hv
    unfold Blk at hb
    rw [hb] at hh
    simp only [Option.some.injEq, Obj.cells.injEq] at hh
    exact absurd hh.2.1 (by decide)
theorem OwnNums.far2 {w0 w : World} {g : Nat} {cs : Array Value} {A : Option Addr} {c : Nat} {xs : List Nat} (hb : Blk w g 27 cs) (ho : OwnNums .u32 w0 w 55 A c xs) (u v : Value) : OwnNums .u32 w0 ((w.setCell ⟨g, 0, none⟩ u).setCell ⟨g, 1, none⟩ v) 55 A c xs :=
  (ho.far (p := ⟨g, 0, none⟩) (fun q hA => own_ne_blk hb ho q hA) u).far (p := ⟨g, 1, none⟩) (fun q hA => own_ne_blk hb ho q hA) v
theorem BoxAt.inn {w0 w : World} {g : Nat} {ng : Bool} {A : Option Addr} {c : Nat} {xs : List Nat} (h : BoxAt w0 w g ng A c xs) : BoxIn w g ng A c xs := ⟨h.lt, h.c0, h.c1, h.own.at⟩
theorem BoxAt.putB {w0 w : World} {g : Nat} {cs : Array Value} {A : Option Addr} {c : Nat} {xs : List Nat} (hg : Grew w0 w) (hge : w0.heap.size ≤ g) (hb : Blk w g 27 cs) (hs : cs.size = 2) (ho : OwnNums .u32 w0 w 55 A c xs) (ng : Bool) :
    BoxAt w0 ((w.setCell ⟨g, 0, none⟩ (.bool ng)).setCell ⟨g, 1, none⟩ (.slice A xs.length c)) g ng A c xs := by
  obtain ⟨h1, h2⟩ := BoxIn.put (ng := ng) hb hs ho
  exact ⟨(hg.setCell hge _).setCell hge _, h1.lt, h1.c0, h1.c1, h2⟩
theorem BoxAt.far2 {w0 w : World} {g g2 : Nat} {cs : Array Value} {ng : Bool} {A : Option Addr} {c : Nat} {xs : List Nat} (h : BoxAt w0 w g ng A c xs) (hne : g ≠ g2) (hge : w0.heap.size ≤ g2) (hb : Blk w g2 27 cs) (u v : Value) :
    BoxAt w0 ((w.setCell ⟨g2, 0, none⟩ u).setCell ⟨g2, 1, none⟩ v) g ng A c xs :=
  ⟨(h.grew.setCell hge _).setCell hge _, by simp; exact h.lt, by rw [cell_far2 hne]; exact h.c0, by rw [cell_far2 hne]; exact h.c1, OwnNums.far2 hb h.own u v⟩
theorem Blk.far2 {w : World} {g g2 : Nat} {t : TypeId} {cs : Array Value} (h : Blk w g t cs) (hne : g ≠ g2) (u v : Value) : Blk ((w.setCell ⟨g2, 0, none⟩ u).setCell ⟨g2, 1, none⟩ v) g t cs := (h.far (p := ⟨g2, 0, none⟩) hne u).far (p := ⟨g2, 1, none⟩) hne v
theorem big3_le {n : Nat} (h : big3 n = false) : n ≤ 100 := by
  simp [big3] at h; omega
/-- Three boxes stored into, one behind the other. -/
theorem three_boxes {w0 w : World} {g1 g2 g3 : Nat} {na nb nc : Bool} {A1 A2 A3 : Option Addr} {c1 c2 c3 : Nat} {xs ys zs : List Nat} {cs : Array Value} (hs : cs.size = 2) (hg : Grew w0 w) (hB1 : Blk w g1 27 cs) (hB2 : Blk w g2 27 cs) (hB3 : Blk w g3 27 cs)
    (hO1 : OwnNums .u32 w0 w 55 A1 c1 xs) (hO2 : OwnNums .u32 w0 w 55 A2 c2 ys) (hO3 : OwnNums .u32 w0 w 55 A3 c3 zs) (n12 : g1 ≠ g2) (n13 : g1 ≠ g3) (n23 : g2 ≠ g3) (l1 : w0.heap.size ≤ g1) (l2 : w0.heap.size ≤ g2) (l3 : w0.heap.size ≤ g3) (W : World)
    (hW : W = ((((((w.setCell ⟨g1, 0, none⟩ (.bool na)).setCell ⟨g1, 1, none⟩ (.slice A1 xs.length c1)).setCell ⟨g2, 0, none⟩ (.bool nb)).setCell ⟨g2, 1, none⟩ (.slice A2 ys.length c2)).setCell ⟨g3, 0, none⟩ (.bool nc)).setCell ⟨g3, 1, none⟩ (.slice A3 zs.length c3))) :
    BoxIn W g1 na A1 c1 xs ∧ BoxIn W g2 nb A2 c2 ys ∧ BoxIn W g3 nc A3 c3 zs ∧ Grew w0 W := by
  have b1 := BoxAt.putB hg l1 hB1 hs hO1 na
  have h2 := hB2.far2 (Ne.symm n12) (.bool na) (.slice A1 xs.length c1)
  have h3 := hB3.far2 (Ne.symm n13) (.bool na) (.slice A1 xs.length c1)
  have o2 := OwnNums.far2 hB1 hO2 (.bool na) (.slice A1 xs.length c1)
  have o3 := OwnNums.far2 hB1 hO3 (.bool na) (.slice A1 xs.length c1)
  have b2 := BoxAt.putB b1.grew l2 h2 hs o2 nb
  have b1' := b1.far2 n12 l2 h2 (.bool nb) (.slice A2 ys.length c2)
  have h3' := h3.far2 (Ne.symm n23) (.bool nb) (.slice A2 ys.length c2)
  have o3' := OwnNums.far2 h2 o3 (.bool nb) (.slice A2 ys.length c2)
  have b3 := BoxAt.putB b2.grew l3 h3' hs o3' nc
  have b1'' := b1'.far2 n13 l3 h3' (.bool nc) (.slice A3 zs.length c3)
  have b2' := b2.far2 n23 l3 h3' (.bool nc) (.slice A3 zs.length c3)
  rw [← hW] at b3 b1'' b2'
  exact ⟨b1''.inn, b2'.inn, b3.inn, b3.grew⟩

theorem errVal_four : errVal 4 = .iface 56 (.int .i64 4) := rfl
/-- What is known of a number that may be. -/
structure NumOk (ng : Bool) (xs : List Nat) (X : Int) : Prop where
  low : Dg.Low 4294967296 xs
  may : Lg.may ng xs = true
  num : Lg.num ng xs = X
  len : xs.length ≤ 100
theorem NumOk.of_rep {ng : Bool} {xs : List Nat} {X : Int} (h : Lg.Rep ng xs X) (hs : Lg.small X) : NumOk ng xs X := ⟨h.low, h.may hs, h.num, by have := h.len.2 hs; omega⟩
theorem ord_cmp {W V : World} {na nb : Bool} {A B : Option Addr} {c d : Nat} {xs ys : List Nat} {X Y p : Int} (hv : Grew W V) (ha : NumsAt .u32 V V.heap.size A xs) (hb : NumsAt .u32 V V.heap.size B ys) (hx : NumOk na xs X) (hy : NumOk nb ys Y) (hp : p = sgnOf (X - Y)) :
    Calls Tryz.prog 16 #[.agg #[.bool na, .slice A xs.length c], .agg #[.bool nb, .slice B ys.length d]] V fun e w' => e = .returned (.tuple #[.int .i64 p, .nilIface]) ∧ ∃ y : After W, w' = y.w := by
  have h := pcmp_c na A c xs nb B d ys V ha hb hx.low hy.low (by have := hx.len; omega) (by have := hy.len; omega)
  rw [hx.may, hy.may, hx.num, hy.num, flip, if_pos rfl, ← Int.sub_eq_add_neg] at h
  have h2 := Calls.after hv h
  rw [hp]
  exact h2
/-- A sum, or that it is too long. -/
def SumOut (z : Int) (ng : Bool) (L : List Nat) (k : Nat) : Prop := (k = 0 ∧ NumOk ng L z) ∨ k = 4
theorem ord_add {W V : World} {na nb : Bool} {A B : Option Addr} {c d : Nat} {xs ys : List Nat} {X Y : Int} (hv : Grew W V) (ha : NumsAt .u32 V V.heap.size A xs) (hb : NumsAt .u32 V V.heap.size B ys) (hx : NumOk na xs X) (hy : NumOk nb ys Y) :
    Calls Tryz.prog 7 #[.agg #[.bool na, .slice A xs.length c], .agg #[.bool nb, .slice B ys.length d]] V fun e w' => ∃ A' c' ng L k, e = .returned (.tuple #[.agg #[.bool ng, .slice A' (List.length L) c'], errVal k]) ∧ NumsAt .u32 w' w'.heap.size A' L ∧ SumOut (X + Y) ng L k ∧ Grew W w' := by
  refine (padd_c na A c xs nb B d ys V ha hb hx.low hy.low (by have := hx.len; omega) (by have := hy.len; omega)).mono ?_
  rintro e w' ⟨A', c', ng, L, k, he, hO, hP, hg⟩
  refine ⟨A', c', ng, L, k, he, hO.at, ?_, hv.trans hg⟩
  have h := hP.yes (by rw [hx.may, hy.may]; rfl)
  rw [hx.num, hy.num] at h
  by_cases hs : Lg.small (X + Y)
  · obtain ⟨h1, h2⟩ := h.yes hs
    exact .inl ⟨h1, NumOk.of_rep h2 hs⟩
  · exact .inr (h.no hs).1
theorem NumOk.same {na nb : Bool} {xs ys : List Nat} {X Y : Int} (hx : NumOk na xs X) (hy : NumOk nb ys Y) : (na = nb ∧ xs = ys) ↔ X = Y := by
  constructor
  · rintro ⟨rfl, rfl⟩
    rw [← hx.num, hy.num]
  · intro h
    have r1 := Lg.Rep.of_may hx.low hx.may
    have r2 := Lg.Rep.of_may hy.low hy.may
    rw [hx.num] at r1
    rw [hy.num, ← h] at r2
    exact r1.inj r2
theorem sgnOf_cases (z : Int) : (z < 0 ∧ sgnOf z = -1) ∨ (z = 0 ∧ sgnOf z = 0) ∨ (0 < z ∧ sgnOf z = 1) := by
  unfold sgnOf
  by_cases h1 : z < 0
  · rw [if_pos h1]; omega
  · rw [if_neg h1]
    by_cases h2 : z = 0
    · rw [if_pos h2]; omega
    · rw [if_neg h2]; omega

def OrdF (w0 : World) (na : Bool) (A : Option Addr) (c : Nat) (xs : List Nat) (nb : Bool) (B : Option Addr) (d : Nat) (ys : List Nat) (nc : Bool) (C : Option Addr) (e : Nat) (zs : List Nat) (i : Nat) (v : Value) (w : World) : Prop := match i with
  | 0 => v = .agg #[.bool na, .slice A xs.length c]
  | 1 => ∃ A' c', v = .agg #[.bool na, .slice A' xs.length c'] ∧ OwnNums .u32 w0 w 55 A' c' xs
  | 2 => v = .agg #[.bool nb, .slice B ys.length d]
  | 3 => ∃ A' c', v = .agg #[.bool nb, .slice A' ys.length c'] ∧ OwnNums .u32 w0 w 55 A' c' ys
  | 4 => v = .agg #[.bool nc, .slice C zs.length e]
  | 5 => ∃ A' c', v = .agg #[.bool nc, .slice A' zs.length c'] ∧ OwnNums .u32 w0 w 55 A' c' zs
  | _ => ∃ g, v = .pointer (some ⟨g, 0, none⟩) ∧ Blk w g 27 #[.bool false, .slice none 0 0]
theorem OrdF.mono {w0 : World} {na : Bool} {A : Option Addr} {c : Nat} {xs : List Nat} {nb : Bool} {B : Option Addr} {d : Nat} {ys : List Nat} {nc : Bool} {C : Option Addr} {e : Nat} {zs : List Nat} (i : Nat) (v : Value) (w w' : World) (h : OrdF w0 na A c xs nb B d ys nc C e zs i v w) (hg : Grew w w') : OrdF w0 na A c xs nb B d ys nc C e zs i v w' := by
  unfold OrdF at *
  split at h
  all_goals
    first
      | exact h
      | (obtain ⟨A', c', h1, h2⟩ := h; exact ⟨A', c', h1, h2.grew hg⟩)
      | (obtain ⟨g, h1, h2⟩ := h; exact ⟨g, h1, h2.grew hg⟩)

end Go.Proofs.YtmcfciifjgdgoaaGreatDoor

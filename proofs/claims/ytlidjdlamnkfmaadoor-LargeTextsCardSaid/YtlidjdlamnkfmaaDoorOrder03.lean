/- LargeOrder: three numbers given on, whatever the order. -/
import Derived.Test.YtlidjdlamnkfmaaDoorSure03
import Derived.Test.YtlidjdlamnkfmaaDoorLh3
import Derived.Test.YtlidjdlamnkfmaaDoorFacts2
namespace Go.Proofs.YtlidjdlamnkfmaaDoor
open Go.RowKit

/-- A number in a box, its words somewhere. -/
structure BoxIn (wx : World) (g : Nat) (ng : Bool) (A : Option Addr) (c : Nat) (xs : List Nat) : Prop where
  lt : g < wx.heap.size
  c0 : wx.cell? ⟨g, 0, none⟩ = some (.bool ng)
  c1 : wx.cell? ⟨g, 1, none⟩ = some (.slice A xs.length c)
  nums : NumsAt .u32 wx wx.heap.size A xs
theorem BoxIn.on {w w' : World} {g : Nat} {ng : Bool} {A : Option Addr} {c : Nat} {xs : List Nat} (h : BoxIn w g ng A c xs) (hg : Grew w w') : BoxIn w' g ng A c xs := by
  obtain ⟨y, rfl⟩ := hg
  exact ⟨Nat.lt_of_lt_of_le h.lt y.b.size, (y.cell _ h.lt).trans h.c0, (y.cell _ h.lt).trans h.c1, h.nums.grew y.grew⟩
theorem BoxIn.made {w : World} (ng : Bool) {A : Option Addr} {c : Nat} {xs : List Nat} (t : TypeId) (h : NumsAt .u32 w w.heap.size A xs) : BoxIn (w.alloc (.cells #[.bool ng, .slice A xs.length c] t)) w.heap.size ng A c xs :=
  ⟨by simp, by simp, by simp, h.grew ((Grew.refl _).alloc _)⟩
/-- A box that is stored into. -/
theorem BoxIn.put {w0 w : World} {g : Nat} {cs : Array Value} {ng : Bool} {A : Option Addr} {c : Nat} {xs : List Nat} (hb : Blk w g 31 cs) (hs : cs.size = 2) (ho : OwnNums .u32 w0 w 62 A c xs) :
    BoxIn ((w.setCell ⟨g, 0, none⟩ (.bool ng)).setCell ⟨g, 1, none⟩ (.slice A xs.length c)) g ng A c xs ∧ OwnNums .u32 w0 ((w.setCell ⟨g, 0, none⟩ (.bool ng)).setCell ⟨g, 1, none⟩ (.slice A xs.length c)) 62 A c xs := by
  have hf : ∀ q, A = some ⟨q, 0, none⟩ → q ≠ g := fun q hA hq => by
    subst hq hA
    rcases ho.2 with ⟨h1, _⟩ | ⟨a, cap, cur, hv, _, hh, _⟩
    · simp at h1
    · simp only [Value.slice.injEq, Option.some.injEq, Addr.mk.injEq] at hv
      obtain ⟨⟨rfl, _⟩, _⟩ := hv
      unfold Blk at hb
      rw [hb] at hh
      simp only [Option.some.injEq, Obj.cells.injEq] at hh
      exact absurd hh.2.1 (by decide)
  have ho' := (ho.far (p := ⟨g, 0, none⟩) (fun q hA => hf q hA) (.bool ng)).far (p := ⟨g, 1, none⟩) (fun q hA => hf q hA) (.slice A xs.length c)
  have hb2 := (hb.put 0 (.bool ng)).put 1 (.slice A xs.length c)
  refine ⟨⟨hb2.lt, ?_, ?_, ho'.at⟩, ho'⟩
  · rw [hb2.cell]; simp [hs]
  · rw [hb2.cell]; simp [hs]

theorem own_ne_blk {w0 w : World} {g : Nat} {cs : Array Value} {A : Option Addr} {c : Nat} {xs : List Nat} (hb : Blk w g 31 cs) (ho : OwnNums .u32 w0 w 62 A c xs) : ∀ q, A = some ⟨q, 0, none⟩ → q ≠ g := fun q hA hq => by
  subst hq hA
  rcases ho.2 with ⟨h1, _⟩ | ⟨a, cap, cur, hv, _, hh, _⟩
  · simp at h1
  · simp only [Value.slice.injEq, Option.some.injEq, Addr.mk.injEq] at hv
    obtain ⟨⟨rfl, _⟩, _⟩ := hv
    unfold Blk at hb
    rw [hb] at hh
    simp only [Option.some.injEq, Obj.cells.injEq] at hh
    exact absurd hh.2.1 (by decide)
theorem OwnNums.far2 {w0 w : World} {g : Nat} {cs : Array Value} {A : Option Addr} {c : Nat} {xs : List Nat} (hb : Blk w g 31 cs) (ho : OwnNums .u32 w0 w 62 A c xs) (u v : Value) : OwnNums .u32 w0 ((w.setCell ⟨g, 0, none⟩ u).setCell ⟨g, 1, none⟩ v) 62 A c xs :=
  (ho.far (p := ⟨g, 0, none⟩) (fun q hA => own_ne_blk hb ho q hA) u).far (p := ⟨g, 1, none⟩) (fun q hA => own_ne_blk hb ho q hA) v
theorem BoxAt.inn {w0 w : World} {g : Nat} {ng : Bool} {A : Option Addr} {c : Nat} {xs : List Nat} (h : BoxAt w0 w g ng A c xs) : BoxIn w g ng A c xs := ⟨h.lt, h.c0, h.c1, h.own.at⟩
theorem BoxAt.putB {w0 w : World} {g : Nat} {cs : Array Value} {A : Option Addr} {c : Nat} {xs : List Nat} (hg : Grew w0 w) (hge : w0.heap.size ≤ g) (hb : Blk w g 31 cs) (hs : cs.size = 2) (ho : OwnNums .u32 w0 w 62 A c xs) (ng : Bool) :
    BoxAt w0 ((w.setCell ⟨g, 0, none⟩ (.bool ng)).setCell ⟨g, 1, none⟩ (.slice A xs.length c)) g ng A c xs := by
  obtain ⟨h1, h2⟩ := BoxIn.put (ng := ng) hb hs ho
  exact ⟨(hg.setCell hge _).setCell hge _, h1.lt, h1.c0, h1.c1, h2⟩
theorem BoxAt.far2 {w0 w : World} {g g2 : Nat} {cs : Array Value} {ng : Bool} {A : Option Addr} {c : Nat} {xs : List Nat} (h : BoxAt w0 w g ng A c xs) (hne : g ≠ g2) (hge : w0.heap.size ≤ g2) (hb : Blk w g2 31 cs) (u v : Value) :
    BoxAt w0 ((w.setCell ⟨g2, 0, none⟩ u).setCell ⟨g2, 1, none⟩ v) g ng A c xs :=
  ⟨(h.grew.setCell hge _).setCell hge _, by simp; exact h.lt, by rw [cell_far2 hne]; exact h.c0, by rw [cell_far2 hne]; exact h.c1, OwnNums.far2 hb h.own u v⟩
theorem Blk.far2 {w : World} {g g2 : Nat} {t : TypeId} {cs : Array Value} (h : Blk w g t cs) (hne : g ≠ g2) (u v : Value) : Blk ((w.setCell ⟨g2, 0, none⟩ u).setCell ⟨g2, 1, none⟩ v) g t cs := (h.far (p := ⟨g2, 0, none⟩) hne u).far (p := ⟨g2, 1, none⟩) hne v
theorem big3_le {n : Nat} (h : big3 n = false) : n ≤ 100 := by
  simp [big3] at h; omega
/-- Three boxes stored into, one behind the other. -/
theorem three_boxes {w0 w : World} {g1 g2 g3 : Nat} {na nb nc : Bool} {A1 A2 A3 : Option Addr} {c1 c2 c3 : Nat} {xs ys zs : List Nat} {cs : Array Value} (hs : cs.size = 2) (hg : Grew w0 w) (hB1 : Blk w g1 31 cs) (hB2 : Blk w g2 31 cs) (hB3 : Blk w g3 31 cs)
    (hO1 : OwnNums .u32 w0 w 62 A1 c1 xs) (hO2 : OwnNums .u32 w0 w 62 A2 c2 ys) (hO3 : OwnNums .u32 w0 w 62 A3 c3 zs) (n12 : g1 ≠ g2) (n13 : g1 ≠ g3) (n23 : g2 ≠ g3) (l1 : w0.heap.size ≤ g1) (l2 : w0.heap.size ≤ g2) (l3 : w0.heap.size ≤ g3) (W : World)
    (hW : W = ((((((w.setCell ⟨g1, 0, none⟩ (.bool na)).setCell ⟨g1, 1, none⟩ (.slice A1 xs.length c1)).setCell ⟨g2, 0, none⟩ (.bool nb)).setCell ⟨g2, 1, none⟩ (.slice A2 ys.length c2)).setCell ⟨g3, 0, none⟩ (.bool nc)).setCell ⟨g3, 1, none⟩ (.slice A3 zs.length c3))) :
    BoxIn W g1 na A1 c1 xs ∧ BoxIn W g2 nb A2 c2 ys ∧ BoxIn W g3 nc A3 c3 zs ∧ Grew w0 W := by
  have b1 := BoxAt.putB hg l1 hB1 hs hO1 na
  have h2 := hB2.far2 (Ne.symm n12) (.bool na) (.slice A1 xs.length c1)
  have h3 := hB3.far2 (Ne.symm n13) (.bool na) (.slice A1 xs.length c1)
  have o2 := OwnNums.far2 hB1 hO2 (.bool na) (.slice A1 xs.length c1)
  have o3 := OwnNums.far2 hB1 hO3 (.bool na) (.slice A1 xs.length c1)
  have b2 := BoxAt.putB b1.grew l2 h2 hs o2 nb
  have b1' := b1.far2 n12 l2 h2 (.bool nb) (.slice A2 ys.length c2)
  have h3' := h3.far2 (Ne.symm n23) (.bool nb) (.slice A2 ys.length c2)
  have o3' := OwnNums.far2 h2 o3 (.bool nb) (.slice A2 ys.length c2)
  have b3 := BoxAt.putB b2.grew l3 h3' hs o3' nc
  have b1'' := b1'.far2 n13 l3 h3' (.bool nc) (.slice A3 zs.length c3)
  have b2' := b2.far2 n23 l3 h3' (.bool nc) (.slice A3 zs.length c3)
  rw [← hW] at b3 b1'' b2'
  exact ⟨b1''.inn, b2'.inn, b3.inn, b3.grew⟩

theorem errVal_four : errVal 4 = .iface 63 (.int .i64 4) := rfl
/-- What is known of a number that may be. -/
structure NumOk (ng : Bool) (xs : List Nat) (X : Int) : Prop where
  low : Dg.Low 4294967296 xs
  may : Lg.may ng xs = true
  num : Lg.num ng xs = X
  len : xs.length ≤ 100
theorem NumOk.of_rep {ng : Bool} {xs : List Nat} {X : Int} (h : Lg.Rep ng xs X) (hs : Lg.small X) : NumOk ng xs X := ⟨h.low, h.may hs, h.num, by have := h.len.2 hs; omega⟩
theorem ord_cmp {W V : World} {na nb : Bool} {A B : Option Addr} {c d : Nat} {xs ys : List Nat} {X Y p : Int} (hv : Grew W V) (ha : NumsAt .u32 V V.heap.size A xs) (hb : NumsAt .u32 V V.heap.size B ys) (hx : NumOk na xs X) (hy : NumOk nb ys Y) (hp : p = sgnOf (X - Y)) :
    Calls Tryd.prog 23 #[.agg #[.bool na, .slice A xs.length c], .agg #[.bool nb, .slice B ys.length d]] V fun e w' => e = .returned (.tuple #[.int .i64 p, .nilIface]) ∧ ∃ y : After W, w' = y.w := by
  have h := pcmp_c na A c xs nb B d ys V ha hb hx.low hy.low (by have := hx.len; omega) (by have := hy.len; omega)
  rw [hx.may, hy.may, hx.num, hy.num, flip, if_pos rfl, ← Int.sub_eq_add_neg] at h
  have h2 := Calls.after hv h
  rw [hp]
  exact h2
/-- A sum, or that it is too long. -/
def SumOut (z : Int) (ng : Bool) (L : List Nat) (k : Nat) : Prop := (k = 0 ∧ NumOk ng L z) ∨ k = 4
theorem ord_add {W V : World} {na nb : Bool} {A B : Option Addr} {c d : Nat} {xs ys : List Nat} {X Y : Int} (hv : Grew W V) (ha : NumsAt .u32 V V.heap.size A xs) (hb : NumsAt .u32 V V.heap.size B ys) (hx : NumOk na xs X) (hy : NumOk nb ys Y) :
    Calls Tryd.prog 20 #[.agg #[.bool na, .slice A xs.length c], .agg #[.bool nb, .slice B ys.length d]] V fun e w' => ∃ A' c' ng L k, e = .returned (.tuple #[.agg #[.bool ng, .slice A' (List.length L) c'], errVal k]) ∧ NumsAt .u32 w' w'.heap.size A' L ∧ SumOut (X + Y) ng L k ∧ Grew W w' := by
  refine (padd_c na A c xs nb B d ys V ha hb hx.low hy.low (by have := hx.len; omega) (by have := hy.len; omega)).mono ?_
  rintro e w' ⟨A', c', ng, L, k, he, hO, hP, hg⟩
  refine ⟨A', c', ng, L, k, he, hO.at, ?_, hv.trans hg⟩
  have h := hP.yes (by rw [hx.may, hy.may]; rfl)
  rw [hx.num, hy.num] at h
  by_cases hs : Lg.small (X + Y)
  · obtain ⟨h1, h2⟩ := h.yes hs
    exact .inl ⟨h1, NumOk.of_rep h2 hs⟩
  · exact .inr (h.no hs).1
theorem NumOk.same {na nb : Bool} {xs ys : List Nat} {X Y : Int} (hx : NumOk na xs X) (hy : NumOk nb ys Y) : (na = nb ∧ xs = ys) ↔ X = Y := by
  constructor
  · rintro ⟨rfl, rfl⟩
    rw [← hx.num, hy.num]
  · intro h
    have r1 := Lg.Rep.of_may hx.low hx.may
    have r2 := Lg.Rep.of_may hy.low hy.may
    rw [hx.num] at r1
    rw [hy.num, ← h] at r2
    exact r1.inj r2
theorem sgnOf_cases (z : Int) : (z < 0 ∧ sgnOf z = -1) ∨ (z = 0 ∧ sgnOf z = 0) ∨ (0 < z ∧ sgnOf z = 1) := by
  unfold sgnOf
  by_cases h1 : z < 0
  · rw [if_pos h1]; omega
  · rw [if_neg h1]
    by_cases h2 : z = 0
    · rw [if_pos h2]; omega
    · rw [if_neg h2]; omega

def OrdF (w0 : World) (na : Bool) (A : Option Addr) (c : Nat) (xs : List Nat) (nb : Bool) (B : Option Addr) (d : Nat) (ys : List Nat) (nc : Bool) (C : Option Addr) (e : Nat) (zs : List Nat) (i : Nat) (v : Value) (w : World) : Prop := match i with
  | 0 => v = .agg #[.bool na, .slice A xs.length c]
  | 1 => ∃ A' c', v = .agg #[.bool na, .slice A' xs.length c'] ∧ OwnNums .u32 w0 w 62 A' c' xs
  | 2 => v = .agg #[.bool nb, .slice B ys.length d]
  | 3 => ∃ A' c', v = .agg #[.bool nb, .slice A' ys.length c'] ∧ OwnNums .u32 w0 w 62 A' c' ys
  | 4 => v = .agg #[.bool nc, .slice C zs.length e]
  | 5 => ∃ A' c', v = .agg #[.bool nc, .slice A' zs.length c'] ∧ OwnNums .u32 w0 w 62 A' c' zs
  | _ => ∃ g, v = .pointer (some ⟨g, 0, none⟩) ∧ Blk w g 31 #[.bool false, .slice none 0 0]
theorem OrdF.mono {w0 : World} {na : Bool} {A : Option Addr} {c : Nat} {xs : List Nat} {nb : Bool} {B : Option Addr} {d : Nat} {ys : List Nat} {nc : Bool} {C : Option Addr} {e : Nat} {zs : List Nat} (i : Nat) (v : Value) (w w' : World) (h : OrdF w0 na A c xs nb B d ys nc C e zs i v w) (hg : Grew w w') : OrdF w0 na A c xs nb B d ys nc C e zs i v w' := by
  unfold OrdF at *
  split at h
  all_goals
    first
      | exact h
      | (obtain ⟨A', c', h1, h2⟩ := h; exact ⟨A', c', h1, h2.grew hg⟩)
      | (obtain ⟨g, h1, h2⟩ := h; exact ⟨g, h1, h2.grew hg⟩)

set_option maxRecDepth 100000 in
set_option maxHeartbeats 4000000 in
theorem order_walk (na : Bool) (A : Option Addr) (c : Nat) (xs : List Nat) (nb : Bool) (B : Option Addr) (d : Nat) (ys : List Nat) (nc : Bool) (C : Option Addr) (e : Nat) (zs : List Nat) (w : World)
    (ha : NumsAt .u32 w w.heap.size A xs) (hb : NumsAt .u32 w w.heap.size B ys) (hc : NumsAt .u32 w w.heap.size C zs) (lx : Dg.Low 4294967296 xs) (ly : Dg.Low 4294967296 ys) (lz : Dg.Low 4294967296 zs)
    (hx : xs.length ≤ 35184372088832) (hy : ys.length ≤ 35184372088832) (hz : zs.length ≤ 35184372088832) (hg : HandleAt w) :
    Calls Tryd.prog 5 #[.agg #[.bool na, .slice A xs.length c], .agg #[.bool nb, .slice B ys.length d], .agg #[.bool nc, .slice C zs.length e]] w fun e w' => e = .returned (.bool true) ∧ Grew w w' := by
  have Hg := hid hg
  have HA := hid ha
  have HB := hid hb
  have HC := hid hc
  clear hg ha hb hc
  go_enter Tryd.func5, Tryd.ntmps5
  go_wp2_with fail
  obtain ⟨wb, hw1⟩ : ∃ wb, wb = ((w.alloc (.cells #[.bool na, .slice A xs.length c] 24)).alloc (.cells #[.bool nb, .slice B ys.length d] 24)).alloc (.cells #[.bool nc, .slice C zs.length e] 24) := ⟨_, rfl⟩
  have HG0 : Hid (Grew w wb) := hid (by rw [hw1]; exact (((Grew.refl _).alloc _).alloc _).alloc _)
  have BA := hid (show BoxIn wb w.heap.size na A c xs by rw [hw1]; exact ((BoxIn.made na _ HA.out).on ((Grew.refl _).alloc _)).on ((Grew.refl _).alloc _))
  have BB := hid (show BoxIn wb (w.heap.size + 1) nb B d ys by
    have := BoxIn.made (c := d) nb 24 (HB.out.grew ((Grew.refl w).alloc (.cells #[.bool na, .slice A xs.length c] 24)))
    rw [World.size_alloc] at this
    rw [hw1]; exact this.on ((Grew.refl _).alloc _))
  have BC := hid (show BoxIn wb (w.heap.size + 1 + 1) nc C e zs by
    have := BoxIn.made (c := e) nc 24 (HC.out.grew (((Grew.refl w).alloc (.cells #[.bool na, .slice A xs.length c] 24)).alloc (.cells #[.bool nb, .slice B ys.length d] 24)))
    rw [World.size_alloc, World.size_alloc] at this
    rw [hw1]; exact this)
  rw [← hw1]
  clear hw1
  refine wp_region_facts (w0 := wb) _ 9 [24, 25, 26, 27, 28, 29, 7, 8, 9] [6, 7, 8] (OrdF wb na A c xs nb B d ys nc C e zs) (by kernel_rfl) (by kernel_rfl) (Grew.refl _) OrdF.mono ?_ ?_
  · have CX := hid (fun (W : World) (hgw : Grew wb W) => giveNum_c na A c xs W (BA.out.on hgw).nums hx)
    have CY := hid (fun (W : World) (hgw : Grew wb W) => giveNum_c nb B d ys W (BB.out.on hgw).nums hy)
    have CZ := hid (fun (W : World) (hgw : Grew wb W) => giveNum_c nc C e zs W (BC.out.on hgw).nums hz)
    repeat' (first | exact trivial | apply And.intro)
    all_goals
      intro a w' hgw hs hA
      have e3 := hs.eval 3 (by decide) (v := .pointer (some ⟨w.heap.size, 0, none⟩)) rfl
      have e4 := hs.eval 4 (by decide) (v := .pointer (some ⟨w.heap.size + 1, 0, none⟩)) rfl
      have e5 := hs.eval 5 (by decide) (v := .pointer (some ⟨w.heap.size + 1 + 1, 0, none⟩)) rfl
      have a0 := (BA.out.on hgw).c0
      have a1 := (BA.out.on hgw).c1
      have b0 := (BB.out.on hgw).c0
      have b1 := (BB.out.on hgw).c1
      have c0 := (BC.out.on hgw).c0
      have c1 := (BC.out.on hgw).c1
      have HGW := hid hgw
      clear hs hgw
      simp only [Ahead, Region.binds, slotOf, OrdF, List.getD_cons_succ, List.getD_cons_zero, forall_const, and_true] at hA
      simp only [wantedD, if_true]
      unfold Oper.wp
      have ec : ∀ v, a.eval (.const v) = v := fun _ => rfl
      generalize hf : a.eval = f at *
      have ef : ∀ k, f (.func k) = Act.eval ⟨#[], []⟩ (.func k) := fun k => by rw [← hf]; rfl
      clear hf
      go_simp
      first
        | (with_reducible refine Gives.al ((Grew.refl _).alloc _) ?_ ?_ ?_
           · exact Nat.le_refl _
           · simp
           · exact ⟨_, rfl, Blk.new _ _ _⟩)
        | (with_reducible refine Gives.of' ?_ (Grew.refl _) ?_
           · rfl
           · rfl)
        | ((with_reducible refine (CX.out _ HGW.out).mono ?_); rintro e w3 ⟨A3, c3, rfl, hO3, hg3⟩; exact Gives.of hg3 ⟨A3, c3, rfl, hO3.mono HGW.out⟩)
        | ((with_reducible refine (CY.out _ HGW.out).mono ?_); rintro e w3 ⟨A3, c3, rfl, hO3, hg3⟩; exact Gives.of hg3 ⟨A3, c3, rfl, hO3.mono HGW.out⟩)
        | ((with_reducible refine (CZ.out _ HGW.out).mono ?_); rintro e w3 ⟨A3, c3, rfl, hO3, hg3⟩; exact Gives.of hg3 ⟨A3, c3, rfl, hO3.mono HGW.out⟩)
  · intro a w' hgw hs hf hmade hpart
    have f1 := hf 1 (by decide)
    have f3 := hf 3 (by decide)
    have f5 := hf 5 (by decide)
    have f6 := hf 6 (by decide)
    have f7 := hf 7 (by decide)
    have f8 := hf 8 (by decide)
    have m6 := hmade 6 (by decide) rfl
    have m7 := hmade 7 (by decide) rfl
    have m8 := hmade 8 (by decide) rfl
    have p67 := hpart 6 7 (by decide) (by decide) (by decide) rfl rfl
    have p68 := hpart 6 8 (by decide) (by decide) (by decide) rfl rfl
    have p78 := hpart 7 8 (by decide) (by decide) (by decide) rfl rfl
    clear hf hmade hpart
    obtain ⟨f, rfl, hft⟩ := hs.put
    clear hs
    simp only [slotOf, OrdF, List.getD_cons_succ, List.getD_cons_zero, hft] at f1 f3 f5 f6 f7 f8 m6 m7 m8 p67 p68 p78
    clear hft
    obtain ⟨A1, c1, e1, hO1⟩ := f1
    obtain ⟨A2, c2, e2, hO2⟩ := f3
    obtain ⟨A3, c3, e3, hO3⟩ := f5
    obtain ⟨g1, e6, hB1⟩ := f6
    obtain ⟨g2, e7, hB2⟩ := f7
    obtain ⟨g3, e8, hB3⟩ := f8
    rw [e6, e7] at p67
    rw [e6, e8] at p68
    rw [e7, e8] at p78
    have n12 : g1 ≠ g2 := fun h => p67 (by rw [h])
    have n13 : g1 ≠ g3 := fun h => p68 (by rw [h])
    have n23 : g2 ≠ g3 := fun h => p78 (by rw [h])
    have l1 : wb.heap.size ≤ g1 := by
      obtain ⟨g, h1, h2, _⟩ := m6
      rw [e6] at h1
      simp only [Value.pointer.injEq, Option.some.injEq, Addr.mk.injEq] at h1
      omega
    have l2 : wb.heap.size ≤ g2 := by
      obtain ⟨g, h1, h2, _⟩ := m7
      rw [e7] at h1
      simp only [Value.pointer.injEq, Option.some.injEq, Addr.mk.injEq] at h1
      omega
    have l3 : wb.heap.size ≤ g3 := by
      obtain ⟨g, h1, h2, _⟩ := m8
      rw [e8] at h1
      simp only [Value.pointer.injEq, Option.some.injEq, Addr.mk.injEq] at h1
      omega
    clear m6 m7 m8 p67 p68 p78
    simp only [List.drop_succ_cons, List.drop_zero, putAll, List.foldl_cons, List.foldl_nil, Act.put, List.setIfInBounds_toArray, List.set_cons_succ, List.set_cons_zero, e1, e2, e3, e6, e7, e8]
    clear e1 e2 e3 e6 e7 e8
    have x0 : w'.cell? ⟨g1, 0, none⟩ = some (.bool false) := by rw [hB1.cell]; rfl
    have x1 : w'.cell? ⟨g1, 1, none⟩ = some (.slice none 0 0) := by rw [hB1.cell]; rfl
    have xf : ∀ i, w'.frozen? ⟨g1, i, none⟩ = false := hB1.frozen
    have y0 : w'.cell? ⟨g2, 0, none⟩ = some (.bool false) := by rw [hB2.cell]; rfl
    have y1 : w'.cell? ⟨g2, 1, none⟩ = some (.slice none 0 0) := by rw [hB2.cell]; rfl
    have yf : ∀ i, w'.frozen? ⟨g2, i, none⟩ = false := hB2.frozen
    have z0 : w'.cell? ⟨g3, 0, none⟩ = some (.bool false) := by rw [hB3.cell]; rfl
    have z1 : w'.cell? ⟨g3, 1, none⟩ = some (.slice none 0 0) := by rw [hB3.cell]; rfl
    have zf : ∀ i, w'.frozen? ⟨g3, i, none⟩ = false := hB3.frozen
    have n21 := Ne.symm n12
    have n31 := Ne.symm n13
    have n32 := Ne.symm n23
    go_upto_region 2 with (fail)
    clear x0 x1 xf y0 y1 yf z0 z1 zf
    obtain ⟨W, hW⟩ : ∃ W, W = ((((((w'.setCell ⟨g1, 0, none⟩ (.bool na)).setCell ⟨g1, 1, none⟩ (.slice A1 xs.length c1)).setCell ⟨g2, 0, none⟩ (.bool nb)).setCell ⟨g2, 1, none⟩ (.slice A2 ys.length c2)).setCell ⟨g3, 0, none⟩ (.bool nc)).setCell ⟨g3, 1, none⟩ (.slice A3 zs.length c3)) := ⟨_, rfl⟩
    obtain ⟨X1, X2, X3, hGW⟩ := three_boxes rfl hgw hB1 hB2 hB3 hO1 hO2 hO3 n12 n13 n23 l1 l2 l3 W hW
    rw [← hW]
    clear hW hB1 hB2 hB3 hO1 hO2 hO3 l1 l2 l3 n21 n31 n32 n12 n13 n23 hgw
    have Y1 := BA.out.on hGW
    have Y2 := BB.out.on hGW
    have Y3 := BC.out.on hGW
    have HGW := hid (HG0.out.trans hGW)
    clear HA HB HC hGW BA BB BC HG0
    have G1 := hid (fun (V : World) (hv : Grew W V) => Calls.after hv (great_c na A c xs.length V hx))
    have G2 := hid (fun (V : World) (hv : Grew W V) => Calls.after hv (great_c nb B d ys.length V hy))
    have G3 := hid (fun (V : World) (hv : Grew W V) => Calls.after hv (great_c nc C e zs.length V hz))
    have K1 := hid (fun (h : xs.length ≤ 1000000000000) (V : World) (hv : Grew W V) => Calls.after hv (pcheck_c na A1 c1 xs V (X1.on hv).nums h))
    have K2 := hid (fun (h : ys.length ≤ 1000000000000) (V : World) (hv : Grew W V) => Calls.after hv (pcheck_c nb A2 c2 ys V (X2.on hv).nums h))
    have K3 := hid (fun (h : zs.length ≤ 1000000000000) (V : World) (hv : Grew W V) => Calls.after hv (pcheck_c nc A3 c3 zs V (X3.on hv).nums h))
    have SU := hid (fun (V : World) (hv : Grew W V) => Calls.after hv (sure_c V (Hg.out.grew (HGW.out.trans hv))))
    have HX := hid (And.intro X1 (And.intro X2 X3))
    have HY := hid (And.intro Y1 (And.intro Y2 Y3))
    have t1 := X1.lt
    have t2 := X2.lt
    have t3 := X3.lt
    have u1 := Y1.lt
    have u2 := Y2.lt
    have u3 := Y3.lt
    have a0 := X1.c0
    have a1 := X1.c1
    have b0 := X2.c0
    have b1 := X2.c1
    have c0 := X3.c0
    have c1' := X3.c1
    have d0 := Y1.c0
    have d1 := Y1.c1
    have e0 := Y2.c0
    have e1 := Y2.c1
    have f0 := Y3.c0
    have f1 := Y3.c1
    clear X1 X2 X3 Y1 Y2 Y3
    have hgr : Grew W W := Grew.refl W
    obtain ⟨r1, hr1⟩ : ∃ r, r = big3 xs.length := ⟨_, rfl⟩
    obtain ⟨r2, hr2⟩ : ∃ r, r = big3 ys.length := ⟨_, rfl⟩
    obtain ⟨r3, hr3⟩ : ∃ r, r = big3 zs.length := ⟨_, rfl⟩
    rw [← hr1] at G1
    rw [← hr2] at G2
    rw [← hr3] at G3
    cases r1
    case true =>
      clear hr1 hr2 hr3
      go_wp2_with (first
        | (go_at_call 8; ((with_reducible refine (G1.out _ (by assumption)).mono ?_); rintro e w3 ⟨rfl, ⟨y, rfl⟩⟩); have hgr2 := y.grew)
        | (go_at_call 9; ((with_reducible refine (SU.out _ (by assumption)).mono ?_); rintro e w3 ⟨rfl, ⟨y, rfl⟩⟩); have hgr3 := y.grew))
      go_ret
      exact ⟨rfl, HGW.out.trans hgr3⟩
    case false =>
      cases r2
      case true =>
        clear hr1 hr2 hr3
        go_wp2_with (first
          | (go_at_call 8; ((with_reducible refine (G1.out _ (by assumption)).mono ?_); rintro e w3 ⟨rfl, ⟨y, rfl⟩⟩); have hgr2 := y.grew)
          | (go_at_call 8; ((with_reducible refine (G2.out _ (by assumption)).mono ?_); rintro e w3 ⟨rfl, ⟨y, rfl⟩⟩); have hgr2 := y.grew)
          | (go_at_call 9; ((with_reducible refine (SU.out _ (by assumption)).mono ?_); rintro e w3 ⟨rfl, ⟨y, rfl⟩⟩); have hgr3 := y.grew))
        go_ret
        exact ⟨rfl, HGW.out.trans hgr3⟩
      case false =>
        cases r3
        case true =>
          clear hr1 hr2 hr3
          go_wp2_with (first
            | (go_at_call 8; ((with_reducible refine (G1.out _ (by assumption)).mono ?_); rintro e w3 ⟨rfl, ⟨y, rfl⟩⟩); have hgr2 := y.grew)
            | (go_at_call 8; ((with_reducible refine (G2.out _ (by assumption)).mono ?_); rintro e w3 ⟨rfl, ⟨y, rfl⟩⟩); have hgr2 := y.grew)
            | (go_at_call 8; ((with_reducible refine (G3.out _ (by assumption)).mono ?_); rintro e w3 ⟨rfl, ⟨y, rfl⟩⟩); have hgr2 := y.grew)
            | (go_at_call 9; ((with_reducible refine (SU.out _ (by assumption)).mono ?_); rintro e w3 ⟨rfl, ⟨y, rfl⟩⟩); have hgr3 := y.grew))
          go_ret
          exact ⟨rfl, HGW.out.trans hgr3⟩
        case false =>
          have hb100 : xs.length ≤ 100 ∧ ys.length ≤ 100 ∧ zs.length ≤ 100 := ⟨big3_le hr1.symm, big3_le hr2.symm, big3_le hr3.symm⟩
          have Hb := hid hb100
          clear hb100
          clear hr1 hr2 hr3
          replace K1 := hid (K1.out (by have := Hb.out; omega))
          replace K2 := hid (K2.out (by have := Hb.out; omega))
          replace K3 := hid (K3.out (by have := Hb.out; omega))
          obtain ⟨m1, hm1⟩ : ∃ m, m = Lg.may na xs := ⟨_, rfl⟩
          rw [← hm1] at K1
          obtain ⟨m2, hm2⟩ : ∃ m, m = Lg.may nb ys := ⟨_, rfl⟩
          rw [← hm2] at K2
          obtain ⟨m3, hm3⟩ : ∃ m, m = Lg.may nc zs := ⟨_, rfl⟩
          rw [← hm3] at K3
          cases m1
          case false =>
            rw [show errVal (if (false = true) then 0 else 1) = .iface 63 (.int .i64 1) from rfl] at K1
            clear hm1 hm2 hm3
            go_wp2_with (first
              | (go_at_call 8; ((with_reducible refine (G1.out _ (by assumption)).mono ?_); rintro e w3 ⟨rfl, ⟨y, rfl⟩⟩); have hgr2 := y.grew)
              | (go_at_call 8; ((with_reducible refine (G2.out _ (by assumption)).mono ?_); rintro e w3 ⟨rfl, ⟨y, rfl⟩⟩); have hgr2 := y.grew)
              | (go_at_call 8; ((with_reducible refine (G3.out _ (by assumption)).mono ?_); rintro e w3 ⟨rfl, ⟨y, rfl⟩⟩); have hgr2 := y.grew)
              | (go_at_call 15; ((with_reducible refine (K1.out _ (by assumption)).mono ?_); rintro e w3 ⟨rfl, ⟨y, rfl⟩⟩); have hgr2 := y.grew)
              | (go_at_call 9; ((with_reducible refine (SU.out _ (by assumption)).mono ?_); rintro e w3 ⟨rfl, ⟨y, rfl⟩⟩); have hgr3 := y.grew))
            go_ret
            exact ⟨rfl, HGW.out.trans hgr3⟩
          case true =>
            rw [show errVal (if (true = true) then 0 else 1) = .nilIface from rfl] at K1
            cases m2
            case false =>
              rw [show errVal (if (false = true) then 0 else 1) = .iface 63 (.int .i64 1) from rfl] at K2
              clear hm1 hm2 hm3
              go_wp2_with (first
                | (go_at_call 8; ((with_reducible refine (G1.out _ (by assumption)).mono ?_); rintro e w3 ⟨rfl, ⟨y, rfl⟩⟩); have hgr2 := y.grew)
                | (go_at_call 8; ((with_reducible refine (G2.out _ (by assumption)).mono ?_); rintro e w3 ⟨rfl, ⟨y, rfl⟩⟩); have hgr2 := y.grew)
                | (go_at_call 8; ((with_reducible refine (G3.out _ (by assumption)).mono ?_); rintro e w3 ⟨rfl, ⟨y, rfl⟩⟩); have hgr2 := y.grew)
                | (go_at_call 15; ((with_reducible refine (K1.out _ (by assumption)).mono ?_); rintro e w3 ⟨rfl, ⟨y, rfl⟩⟩); have hgr2 := y.grew)
                | (go_at_call 15; ((with_reducible refine (K2.out _ (by assumption)).mono ?_); rintro e w3 ⟨rfl, ⟨y, rfl⟩⟩); have hgr2 := y.grew)
                | (go_at_call 9; ((with_reducible refine (SU.out _ (by assumption)).mono ?_); rintro e w3 ⟨rfl, ⟨y, rfl⟩⟩); have hgr3 := y.grew))
              go_ret
              exact ⟨rfl, HGW.out.trans hgr3⟩
            case true =>
              rw [show errVal (if (true = true) then 0 else 1) = .nilIface from rfl] at K2
              cases m3
              case false =>
                rw [show errVal (if (false = true) then 0 else 1) = .iface 63 (.int .i64 1) from rfl] at K3
                clear hm1 hm2 hm3
                go_wp2_with (first
                  | (go_at_call 8; ((with_reducible refine (G1.out _ (by assumption)).mono ?_); rintro e w3 ⟨rfl, ⟨y, rfl⟩⟩); have hgr2 := y.grew)
                  | (go_at_call 8; ((with_reducible refine (G2.out _ (by assumption)).mono ?_); rintro e w3 ⟨rfl, ⟨y, rfl⟩⟩); have hgr2 := y.grew)
                  | (go_at_call 8; ((with_reducible refine (G3.out _ (by assumption)).mono ?_); rintro e w3 ⟨rfl, ⟨y, rfl⟩⟩); have hgr2 := y.grew)
                  | (go_at_call 15; ((with_reducible refine (K1.out _ (by assumption)).mono ?_); rintro e w3 ⟨rfl, ⟨y, rfl⟩⟩); have hgr2 := y.grew)
                  | (go_at_call 15; ((with_reducible refine (K2.out _ (by assumption)).mono ?_); rintro e w3 ⟨rfl, ⟨y, rfl⟩⟩); have hgr2 := y.grew)
                  | (go_at_call 15; ((with_reducible refine (K3.out _ (by assumption)).mono ?_); rintro e w3 ⟨rfl, ⟨y, rfl⟩⟩); have hgr2 := y.grew)
                  | (go_at_call 9; ((with_reducible refine (SU.out _ (by assumption)).mono ?_); rintro e w3 ⟨rfl, ⟨y, rfl⟩⟩); have hgr3 := y.grew))
                go_ret
                exact ⟨rfl, HGW.out.trans hgr3⟩
              case true =>
                rw [show errVal (if (true = true) then 0 else 1) = .nilIface from rfl] at K3
                have NX : NumOk na xs (Lg.num na xs) := ⟨lx, hm1.symm, rfl, Hb.out.1⟩
                have NY : NumOk nb ys (Lg.num nb ys) := ⟨ly, hm2.symm, rfl, Hb.out.2.1⟩
                have NZ : NumOk nc zs (Lg.num nc zs) := ⟨lz, hm3.symm, rfl, Hb.out.2.2⟩
                clear hm1 hm2 hm3
                generalize Lg.num na xs = X at *
                generalize Lg.num nb ys = Y at *
                generalize Lg.num nc zs = Z at *
                obtain ⟨p, hp⟩ : ∃ p, p = sgnOf (X - Y) := ⟨_, rfl⟩
                obtain ⟨q, hq⟩ : ∃ q, q = sgnOf (Y - X) := ⟨_, rfl⟩
                obtain ⟨r, hr⟩ : ∃ r, r = sgnOf (Y - Z) := ⟨_, rfl⟩
                obtain ⟨t, ht⟩ : ∃ t, t = sgnOf (X - Z) := ⟨_, rfl⟩
                have CXY := hid (fun (V : World) (hv : Grew W V) => ord_cmp (c := c1) (d := c2) hv (HX.out.1.on hv).nums (HX.out.2.1.on hv).nums NX NY hp)
                have CYX := hid (fun (V : World) (hv : Grew W V) => ord_cmp (c := c2) (d := c1) hv (HX.out.2.1.on hv).nums (HX.out.1.on hv).nums NY NX hq)
                have CYZ := hid (fun (V : World) (hv : Grew W V) => ord_cmp (c := c2) (d := c3) hv (HX.out.2.1.on hv).nums (HX.out.2.2.on hv).nums NY NZ hr)
                have CXZ := hid (fun (V : World) (hv : Grew W V) => ord_cmp (c := c1) (d := c3) hv (HX.out.1.on hv).nums (HX.out.2.2.on hv).nums NX NZ ht)
                have IS := hid (fun (V : World) (hv : Grew W V) => Calls.after hv (isNum_c na A1 c1 xs nb B d ys V (HX.out.1.on hv).nums (HY.out.2.1.on hv).nums (by have := Hb.out; omega)))
                have SAME := hid (NX.same NY)
                have HN := hid (And.intro NX (And.intro NY NZ))
                have hq1 : -1 ≤ q := by rcases sgnOf_cases (Y - X) with h | h | h <;> omega
                have hq2 : q ≤ 1 := by rcases sgnOf_cases (Y - X) with h | h | h <;> omega
                have HPQ := hid (show p = -q ∧ ((X < Y ∧ p < 0) ∨ (X = Y ∧ p = 0) ∨ (Y < X ∧ 0 < p)) by
                  rcases sgnOf_cases (Y - X) with h | h | h <;> rcases sgnOf_cases (X - Y) with g | g | g <;> omega)
                have HT := hid (show p ≤ 0 → r ≤ 0 → t ≤ 0 by
                  rcases sgnOf_cases (Y - Z) with h | h | h <;> rcases sgnOf_cases (X - Y) with g | g | g <;> rcases sgnOf_cases (X - Z) with f | f | f <;> omega)
                have HPP := hid hp
                clear hp hq hr ht NX NY NZ
                go_upto_region 8 with (first
                  | (go_at_call 8; ((with_reducible refine (G1.out _ (by assumption)).mono ?_); rintro e w3 ⟨rfl, ⟨y, rfl⟩⟩); have hgr2 := y.grew)
                  | (go_at_call 8; ((with_reducible refine (G2.out _ (by assumption)).mono ?_); rintro e w3 ⟨rfl, ⟨y, rfl⟩⟩); have hgr2 := y.grew)
                  | (go_at_call 8; ((with_reducible refine (G3.out _ (by assumption)).mono ?_); rintro e w3 ⟨rfl, ⟨y, rfl⟩⟩); have hgr2 := y.grew)
                  | (go_at_call 15; ((with_reducible refine (K1.out _ (by assumption)).mono ?_); rintro e w3 ⟨rfl, ⟨y, rfl⟩⟩); have hgr2 := y.grew)
                  | (go_at_call 15; ((with_reducible refine (K2.out _ (by assumption)).mono ?_); rintro e w3 ⟨rfl, ⟨y, rfl⟩⟩); have hgr2 := y.grew)
                  | (go_at_call 15; ((with_reducible refine (K3.out _ (by assumption)).mono ?_); rintro e w3 ⟨rfl, ⟨y, rfl⟩⟩); have hgr2 := y.grew)
                  | (go_at_call 23; ((with_reducible refine (CXY.out _ (by assumption)).mono ?_); rintro e w3 ⟨rfl, ⟨y, rfl⟩⟩); have hgr2 := y.grew)
                  | (go_at_call 23; ((with_reducible refine (CYX.out _ (by assumption)).mono ?_); rintro e w3 ⟨rfl, ⟨y, rfl⟩⟩); have hgr2 := y.grew)
                  | (go_at_call 23; ((with_reducible refine (CYZ.out _ (by assumption)).mono ?_); rintro e w3 ⟨rfl, ⟨y, rfl⟩⟩); have hgr2 := y.grew)
                  | (go_at_call 23; ((with_reducible refine (CXZ.out _ (by assumption)).mono ?_); rintro e w3 ⟨rfl, ⟨y, rfl⟩⟩); have hgr2 := y.grew))
                clear G1 G2 G3 K1 K2 K3 CXY CYX CYZ CXZ
                go_cut [119] (fun s119 wx => s119 = .bool false ∧ ∃ y : After W, wx = y.w)
                case first =>
                  have k1 : (p != -q) = false := by rw [HPQ.out.1]; simp
                  rcases HPQ.out.2 with ⟨h, hp⟩ | ⟨h, hp⟩ | ⟨h, hp⟩
                  · have IS2 := hid (show ∀ (V : World), Grew W V → Calls Tryd.prog 16 #[.agg #[.bool na, .slice A1 xs.length c1], .agg #[.bool nb, .slice B ys.length d]] V fun e w'' => e = .returned (.bool false) ∧ ∃ y : After W, w'' = y.w by
                      have := IS.out
                      rwa [decide_eq_false (fun e => by have := SAME.out.1 e; omega)] at this)
                    have k2 : (p == 0) = false := by rw [beq_eq_false_iff_ne]; omega
                    have k3 : p ≤ 0 := by omega
                    clear h hp IS
                    by_cases k4 : r ≤ 0
                    · have k5 : ¬ 0 < t := by have := HT.out k3 k4; omega
                      go_wp2_with (go_at_call 16; ((with_reducible refine (IS2.out _ (by assumption)).mono ?_); rintro e w3 ⟨rfl, ⟨y, rfl⟩⟩); have hgr4 := y.grew)
                      go_meet
                      case rel => exact ⟨by rw [decide_eq_false (by omega : ¬ 0 < t)], y, rfl⟩
                    · go_wp2_with (go_at_call 16; ((with_reducible refine (IS2.out _ (by assumption)).mono ?_); rintro e w3 ⟨rfl, ⟨y, rfl⟩⟩); have hgr4 := y.grew)
                      go_meet
                      case rel => exact ⟨rfl, y, rfl⟩
                  · have IS2 := hid (show ∀ (V : World), Grew W V → Calls Tryd.prog 16 #[.agg #[.bool na, .slice A1 xs.length c1], .agg #[.bool nb, .slice B ys.length d]] V fun e w'' => e = .returned (.bool true) ∧ ∃ y : After W, w'' = y.w by
                      have := IS.out
                      rwa [decide_eq_true (SAME.out.2 h)] at this)
                    have k2 : (p == 0) = true := by rw [beq_iff_eq]; exact hp
                    have k3 : p ≤ 0 := by omega
                    clear h hp IS
                    by_cases k4 : r ≤ 0
                    · have k5 : ¬ 0 < t := by have := HT.out k3 k4; omega
                      go_wp2_with (go_at_call 16; ((with_reducible refine (IS2.out _ (by assumption)).mono ?_); rintro e w3 ⟨rfl, ⟨y, rfl⟩⟩); have hgr4 := y.grew)
                      go_meet
                      case rel => exact ⟨by rw [decide_eq_false (by omega : ¬ 0 < t)], y, rfl⟩
                    · go_wp2_with (go_at_call 16; ((with_reducible refine (IS2.out _ (by assumption)).mono ?_); rintro e w3 ⟨rfl, ⟨y, rfl⟩⟩); have hgr4 := y.grew)
                      go_meet
                      case rel => exact ⟨rfl, y, rfl⟩
                  · have IS2 := hid (show ∀ (V : World), Grew W V → Calls Tryd.prog 16 #[.agg #[.bool na, .slice A1 xs.length c1], .agg #[.bool nb, .slice B ys.length d]] V fun e w'' => e = .returned (.bool false) ∧ ∃ y : After W, w'' = y.w by
                      have := IS.out
                      rwa [decide_eq_false (fun e => by have := SAME.out.1 e; omega)] at this)
                    have k2 : (p == 0) = false := by rw [beq_eq_false_iff_ne]; omega
                    have k3 : ¬ p ≤ 0 := by omega
                    clear h hp IS
                    go_wp2_with (go_at_call 16; ((with_reducible refine (IS2.out _ (by assumption)).mono ?_); rintro e w3 ⟨rfl, ⟨y, rfl⟩⟩); have hgr4 := y.grew)
                    go_meet
                    case rel => exact ⟨rfl, y, rfl⟩
                case rest =>
                  obtain ⟨rfl, y, rfl⟩ := hcut
                  have HV := hid y.grew
                  clear a0 a1 b0 b1 c0 c1' d0 d1 e0 e1 f0 f1 t1 t2 t3 u1 u2 u3 IS SAME HT HPQ hq1 hq2 SU HY Hb hgr hgr2
                  generalize y.w = V at *
                  have Z1 := hid (HX.out.1.on HV.out)
                  have Z2 := hid (HX.out.2.1.on HV.out)
                  have Z3 := hid (HX.out.2.2.on HV.out)
                  have HGV := hid (HGW.out.trans HV.out)
                  clear HX HV HGW
                  have x0 := Z1.out.c0
                  have x1 := Z1.out.c1
                  have z0 := Z3.out.c0
                  have z1 := Z3.out.c1
                  go_wp2_with fail
                  refine (ord_add (Grew.refl V) Z1.out.nums Z3.out.nums HN.out.1 HN.out.2.2).mono ?_
                  rintro e w3 ⟨A5, c5, g5, L5, k5, rfl, hN5, hS5, hG5⟩
                  clear x0 x1 z0 z1
                  have R2 := hid (Z2.out.on hG5)
                  have R3 := hid (Z3.out.on hG5)
                  have y0 := R2.out.c0
                  have y1 := R2.out.c1
                  have yl := R2.out.lt
                  have z0 := R3.out.c0
                  have z1 := R3.out.c1
                  have zl := R3.out.lt
                  have BU := hid (BoxIn.made (c := c5) g5 31 hN5)
                  have HG5 := hid hG5
                  have HS5 := hid hS5
                  have T2 := hid (R2.out.on ((Grew.refl w3).alloc (.cells #[.bool g5, .slice A5 L5.length c5] 31)))
                  have T3 := hid (R3.out.on ((Grew.refl w3).alloc (.cells #[.bool g5, .slice A5 L5.length c5] 31)))
                  clear hN5 hS5 hG5 Z1 Z2 Z3
                  go_wp2_with fail
                  refine (ord_add (Grew.refl _) T2.out.nums T3.out.nums HN.out.2.1 HN.out.2.2).mono ?_
                  rintro e w4 ⟨A6, c6, g6, L6, k6, rfl, hN6, hS6, hG6⟩
                  clear y0 y1 yl z0 z1 zl R2 R3 T2 T3
                  have BU2 := hid (BU.out.on hG6)
                  have HG6 := hid ((HG5.out.alloc (.cells #[.bool g5, .slice A5 L5.length c5] 31)).trans hG6)
                  have BV := hid (BoxIn.made (c := c6) g6 31 hN6)
                  have HS6 := hid hS6
                  have BU3 := hid (BU2.out.on ((Grew.refl w4).alloc (.cells #[.bool g6, .slice A6 L6.length c6] 31)))
                  have HG7 := hid (HG6.out.alloc (.cells #[.bool g6, .slice A6 L6.length c6] 31))
                  have ul := BU2.out.lt
                  have u0 := BU2.out.c0
                  have u1 := BU2.out.c1
                  clear hN6 hS6 hG6 BU HG5 HG6
                  have SU := hid (fun (V2 : World) (hv : Grew V V2) => sure_c V2 (Hg.out.grew (HGV.out.trans hv)))
                  rcases HS5.out with ⟨rfl, N5⟩ | rfl
                  · rcases HS6.out with ⟨rfl, N6⟩ | rfl
                    · rw [errVal_nil]
                      go_wp2_with fail
                      refine (ord_cmp HG7.out BU3.out.nums BV.out.nums N5 N6 (show p = sgnOf (X + Z - (Y + Z)) by rw [HPP.out]; congr 1; omega)).mono ?_
                      rintro e w5 ⟨rfl, y5, rfl⟩
                      go_wp2_with fail
                      refine (SU.out _ y5.grew).mono ?_
                      rintro e w6 ⟨rfl, hg6⟩
                      go_wp2_with fail
                      go_ret
                      exact ⟨rfl, HGV.out.trans (y5.grew.trans hg6)⟩
                    · rw [errVal_nil, errVal_four]
                      go_wp2_with fail
                      refine (SU.out _ HG7.out).mono ?_
                      rintro e w6 ⟨rfl, hg6⟩
                      go_wp2_with fail
                      go_ret
                      exact ⟨rfl, HGV.out.trans (HG7.out.trans hg6)⟩
                  · rw [errVal_four]
                    go_wp2_with fail
                    refine (SU.out _ HG7.out).mono ?_
                    rintro e w6 ⟨rfl, hg6⟩
                    go_wp2_with fail
                    go_ret
                    exact ⟨rfl, HGV.out.trans (HG7.out.trans hg6)⟩
end Go.Proofs.YtlidjdlamnkfmaaDoor

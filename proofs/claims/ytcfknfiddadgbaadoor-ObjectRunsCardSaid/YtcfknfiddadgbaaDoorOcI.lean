/- Stage 11: isObj. -/
import Derived.Test.YtcfknfiddadgbaaDoorOcE
namespace Go.Proofs.YtcfknfiddadgbaaDoor
open Go.RowKit

set_option maxRecDepth 100000 in
set_option maxHeartbeats 4000000 in
theorem isObj_c (o : Ob.Obj) (A1 : Option Addr) (c1 : Nat) (A2 : Option Addr) (c2 : Nat) (w : World) (h1 : ValsAt w A1 o.f) (h2 : ValsAt w A2 o.f) (hl : o.f.length ≤ 1000) :
    Calls Tryd.prog 23 #[.agg #[.int .i64 o.cls, .int .i64 o.lev, .slice A1 o.f.length c1, .string o.b], .agg #[.int .i64 o.cls, .int .i64 o.lev, .slice A2 o.f.length c2, .string o.b]] w fun e w' => e = .returned (.bool true) ∧ Grew w w' := by
  obtain ⟨cls, lev, f, b⟩ := o
  have H1 := hid h1
  have H2 := hid h2
  simp only at H1 H2 hl ⊢
  obtain ⟨m, em⟩ : ∃ m, m = f.length := ⟨_, rfl⟩
  rw [← em] at hl ⊢
  have EM := hid em
  clear h1 h2 em
  have G1 := (Grew.refl w).alloc (.cells #[.int .i64 cls, .int .i64 lev, .slice A1 m c1, .string b] 28)
  have G2 := G1.alloc (.cells #[.int .i64 cls, .int .i64 lev, .slice A2 m c2, .string b] 52)
  have B1 := (Blk.new w 28 #[.int .i64 cls, .int .i64 lev, .slice A1 m c1, .string b]).grew ((Grew.refl _).alloc (.cells #[.int .i64 cls, .int .i64 lev, .slice A2 m c2, .string b] 52))
  have B2 := Blk.new (w.alloc (.cells #[.int .i64 cls, .int .i64 lev, .slice A1 m c1, .string b] 28)) 52 #[.int .i64 cls, .int .i64 lev, .slice A2 m c2, .string b]
  have e1 : (w.alloc (.cells #[.int .i64 cls, .int .i64 lev, .slice A1 m c1, .string b] 28)).heap.size = w.heap.size + 1 := World.size_alloc _ _
  rw [e1] at B2
  clear G1 e1
  go_enter Tryd.func23, Tryd.ntmps23
  go_upto_region 1 with fail
  generalize (w.alloc (.cells #[.int .i64 cls, .int .i64 lev, .slice A1 m c1, .string b] 28)).alloc (.cells #[.int .i64 cls, .int .i64 lev, .slice A2 m c2, .string b] 52) = w1 at *
  generalize w.heap.size = g at *
  have HG := hid G2
  have HB1 := hid B1
  have HB2 := hid B2
  have q0 := B1.cell 0
  have q1 := B1.cell 1
  have q2 := B1.cell 2
  have q3 := B1.cell 3
  have ql := B1.lt
  have p0 := B2.cell 0
  have p1 := B2.cell 1
  have p2 := B2.cell 2
  have p3 := B2.cell 3
  have pl := B2.lt
  simp only [List.getElem?_toArray, List.getElem?_cons_zero, List.getElem?_cons_succ] at q0 q1 q2 q3 p0 p1 p2 p3
  clear G2 B1 B2
  go_upto_region 4 with fail
  go_loopw [5] (fun s5 wr => ∃ i : Nat, s5 = .int .i64 ((i : Nat) : Int) ∧ i ≤ m ∧ Hid (Grew w1 wr)) (fun s5 _ => m - (intOf s5).toNat)
  case atStart => exact ⟨0, rfl, Nat.zero_le _, hid (Grew.refl _)⟩
  case round =>
    obtain ⟨i, rfl, hi, HW⟩ := hrel
    have HC1 := hid (HB1.out.grew HW.out)
    have HC2 := hid (HB2.out.grew HW.out)
    clear q0 q1 q2 q3 ql p0 p1 p2 p3 pl
    have r2 := HC2.out.cell 2
    have rl := HC2.out.lt
    simp only [List.getElem?_toArray, List.getElem?_cons_zero, List.getElem?_cons_succ] at r2
    by_cases hlt : i < m
    · have f1 : (i : Int) < m := by omega
      obtain ⟨ad, x, rfl, hx, u0, u1, u2, hb, _⟩ := val_at H1.out (HG.out.trans HW.out) (i := i) (by rw [← EM.out]; exact hlt)
      obtain ⟨ad2, x2, rfl, hx2, v0, v1, v2, hb2, _⟩ := val_at H2.out (HG.out.trans HW.out) (i := i) (by rw [← EM.out]; exact hlt)
      rw [hx] at hx2
      obtain rfl := Option.some.inj hx2
      clear hx hx2
      obtain ⟨k, z, l⟩ := x
      simp only at u0 u1 u2 v0 v1 v2
      go_upto_region 6 with fail
      have U0 := fun (y : After wr) => (y.cell (ad.add (i * 3)) (by rw [block_add]; exact hb)).trans u0
      have U1 := fun (y : After wr) => (y.cell ⟨ad.block, (ad.add (i * 3)).off + 1, none⟩ hb).trans u1
      have U2 := fun (y : After wr) => (y.cell ⟨ad.block, (ad.add (i * 3)).off + 2, none⟩ hb).trans u2
      have V0 := fun (y : After wr) => (y.cell (ad2.add (i * 3)) (by rw [block_add]; exact hb2)).trans v0
      have V1 := fun (y : After wr) => (y.cell ⟨ad2.block, (ad2.add (i * 3)).off + 1, none⟩ hb2).trans v1
      have V2 := fun (y : After wr) => (y.cell ⟨ad2.block, (ad2.add (i * 3)).off + 2, none⟩ hb2).trans v2
      have L1 := fun (y : After wr) => y.lt _ hb
      have L2 := fun (y : After wr) => y.lt _ hb2
      have M2 := fun (y : After wr) => (HC1.out.grew y.grew).cell 2
      have M3 := fun (y : After wr) => (HC1.out.grew y.grew).lt
      have N2 := fun (y : After wr) => (HC2.out.grew y.grew).cell 2
      have N3 := fun (y : After wr) => (HC2.out.grew y.grew).lt
      simp only [List.getElem?_toArray, List.getElem?_cons_zero, List.getElem?_cons_succ] at M2 N2
      refine wp_region_grew_from (w0 := wr) (Grew.refl wr) (by kernel_rfl) (by kernel_rfl) ?_
      repeat (go_big_quiet_step (fail))
      refine wpQuiet_nil ?_
      rintro _ ⟨y, rfl⟩
      clear U0 U1 U2 V0 V1 V2 L1 L2 M2 M3 N2 N3
      go_wp2_with fail
      go_round
      case rel => exact ⟨i + 1, by go_num, by omega, hid (HW.out.trans y.grew)⟩
      case measure => simp [intOf]; omega
    · have hin : i = m := by omega
      subst hin
      go_wp2_with fail
      go_ret
      exact ⟨rfl, HG.out.trans HW.out⟩
end Go.Proofs.YtcfknfiddadgbaaDoor

/- Stage 12: giveObj and giveItems. -/
import Derived.Test.YtidnaednldcdfaaGreatDoorGeB
namespace Go.Proofs.YtidnaednldcdfaaGreatDoor
open Go.RowKit

/-- What the operations of 'object.Obj{..}' give. -/
def GbF (w0 : World) (gx : Nat) (cls lev : Int) (A : Option Addr) (m c : Nat) (b : ByteArray) (cs : List Value) (j : Nat) (u : Value) (w : World) : Prop := match j with
  | 0 => u = .pointer (some ⟨gx, 0, none⟩)
  | 1 => u = .int .i64 cls
  | 2 => u = .pointer (some ⟨gx, 1, none⟩)
  | 3 => u = .int .i64 lev
  | 4 => u = .pointer (some ⟨gx, 2, none⟩)
  | 5 => u = .slice A m c
  | 6 => ∃ A2 c2, u = .slice A2 m c2 ∧ Row w w0.heap.size 41 3 A2 m c2 cs
  | 7 => u = .pointer (some ⟨gx, 3, none⟩)
  | 8 => u = .string b
  | 9 => ∃ A2 c2, u = .agg #[.int .i64 cls, .int .i64 lev, .slice A2 m c2, .string b] ∧ Row w w0.heap.size 41 3 A2 m c2 cs
  | _ => True
theorem GbF.grew {w0 : World} {gx : Nat} {cls lev : Int} {A : Option Addr} {m c : Nat} {b : ByteArray} {cs : List Value} (j : Nat) (u : Value) (w w' : World) (h : GbF w0 gx cls lev A m c b cs j u w) (hg : Grew w w') : GbF w0 gx cls lev A m c b cs j u w' := by
  unfold GbF at h ⊢
  split at h <;> first | exact h | skip
  all_goals
    obtain ⟨A2, c2, h1, h2⟩ := h
    exact ⟨A2, c2, h1, h2.grew hg⟩
/-- What giveObj answers. -/
def GiveB (w : World) (o : Ob.Obj) (e : Ending) (w' : World) : Prop := ∃ A' c', e = .returned (.agg #[.int .i64 o.cls, .int .i64 o.lev, .slice A' o.f.length c', .string o.b]) ∧ Row w' w.heap.size 41 3 A' o.f.length c' (o.f.flatMap valF) ∧ Grew w w'
set_option maxRecDepth 100000 in
set_option maxHeartbeats 8000000 in
theorem giveObj_c (v : OV) (w : World) (h : OvOk w v) (hl : v.o.f.length ≤ 1000) :
    Calls Tryz.prog 64 #[.agg #[.int .i64 v.o.cls, .int .i64 v.o.lev, .slice v.A v.o.f.length v.c, .string v.o.b]] w (GiveB w v.o) := by
  have HOk := hid h
  have HGv := hid (fun W (hW : Grew w W) => giveVals_c v.A v.c v.o.f W (h.f.grew hW) hl)
  unfold GiveV at HGv
  unfold GiveB
  obtain ⟨⟨cls, lev, f, b⟩, A, c⟩ := v
  simp only at HGv hl ⊢
  obtain ⟨m, em⟩ : ∃ m, m = f.length := ⟨_, rfl⟩
  obtain ⟨cs, ecs⟩ : ∃ cs, cs = f.flatMap valF := ⟨_, rfl⟩
  rw [← em, ← ecs] at HGv
  rw [← em, ← ecs]
  clear em ecs h hl HOk
  have B1 := (Blk.new w 58 #[.int .i64 cls, .int .i64 lev, .slice A m c, .string b]).grew ((Grew.refl _).alloc (.cells #[.int .i64 0, .int .i64 0, .slice none 0 0, .string ⟨#[]⟩] 30))
  have B2 := Blk.new (w.alloc (.cells #[.int .i64 cls, .int .i64 lev, .slice A m c, .string b] 58)) 30 #[.int .i64 0, .int .i64 0, .slice none 0 0, .string ⟨#[]⟩]
  have G1 := (Grew.refl w).alloc (.cells #[.int .i64 cls, .int .i64 lev, .slice A m c, .string b] 58)
  have G2 := G1.alloc (.cells #[.int .i64 0, .int .i64 0, .slice none 0 0, .string ⟨#[]⟩] 30)
  have e1 : (w.alloc (.cells #[.int .i64 cls, .int .i64 lev, .slice A m c, .string b] 58)).heap.size = w.heap.size + 1 := World.size_alloc _ _
  rw [e1] at B2
  clear G1 e1
  go_enter Tryz.func64, Tryz.ntmps64
  go_upto_region 1 with fail
  generalize (w.alloc (.cells #[.int .i64 cls, .int .i64 lev, .slice A m c, .string b] 58)).alloc (.cells #[.int .i64 0, .int .i64 0, .slice none 0 0, .string ⟨#[]⟩] 30) = w1 at *
  obtain ⟨g, eg⟩ : ∃ g, g = w.heap.size := ⟨_, rfl⟩
  rw [← eg] at B1 B2 ⊢
  have HB1 := hid B1
  have HB2 := hid B2
  have HG := hid G2
  have EG := hid eg
  clear B1 B2 G2 eg
  refine wp_region_facts4 (w0 := w1) w1 10 10 [3, 4, 5, 6, 7, 8, 9, 10, 11, 12] [] (GbF w1 g cls lev A m c b cs) (Kept (fun _ => False)) (fun _ => Kept (fun _ => False)) (fun _ _ => True) (May.kept _) (fun _ _ _ h => h) (fun _ w => Kept.refl _ w) (by kernel_rfl) (by kernel_rfl) (Kept.refl _ _).drew trivial (fun a _ v w w' _ _ _ _ h hr => GbF.grew a v w w' h (Kept.grew hr (Grew.refl _) (fun _ h => h.elim))) ?_ ?_
  · repeat' (first | exact trivial | apply And.intro)
    all_goals
      intro a w' fl hgk hJ hfi hdep hs hA
      have hgw : Grew w1 w' := Kept.grew hgk (Grew.refl _) (fun _ h => h.elim)
      clear hgk hJ hfi hdep
      have t1 := hs.eval 1 (by decide) (v := .pointer (some ⟨g, 0, none⟩)) rfl
      have HGW := hid hgw
      have HBw := hid (HB1.out.grew hgw)
      have hle := hgw.below.size
      have x0 := HBw.out.cell 0
      have x1 := HBw.out.cell 1
      have x2 := HBw.out.cell 2
      have x3 := HBw.out.cell 3
      have xl := HBw.out.lt
      simp only [List.getElem?_toArray, List.getElem?_cons_zero, List.getElem?_cons_succ] at x0 x1 x2 x3
      clear hs hgw
      simp only [Ahead, Region.binds, slotOf, GbF, List.getD_cons_succ, List.getD_cons_zero, forall_const, and_true] at hA
      simp only [wantedD, if_true]
      unfold Oper.wp
      have ec : ∀ v, a.eval (.const v) = v := fun _ => rfl
      generalize hfe : a.eval = fe at *
      have ef : ∀ k, fe (.func k) = Act.eval ⟨#[], []⟩ (.func k) := fun k => by rw [← hfe]; rfl
      clear hfe
    · go_simp
      exact Gives3.of rfl (Kept.refl _ _) rfl trivial
    · go_simp
      exact Gives3.of rfl (Kept.refl _ _) rfl trivial
    · go_simp
      exact Gives3.of rfl (Kept.refl _ _) rfl trivial
    · go_simp
      exact Gives3.of rfl (Kept.refl _ _) rfl trivial
    · go_simp
      exact Gives3.of rfl (Kept.refl _ _) rfl trivial
    · go_simp
      exact Gives3.of rfl (Kept.refl _ _) rfl trivial
    · go_simp
      refine (HGv.out w' (HG.out.trans HGW.out)).mono ?_
      rintro e w6 ⟨A2, c2, rfl, hr, hg6⟩
      exact Gives3.of rfl (Kept.of_grew hg6) ⟨A2, c2, rfl, hr.low hle⟩ trivial
    · go_simp
      exact Gives3.of rfl (Kept.refl _ _) rfl trivial
    · go_simp
      exact Gives3.of rfl (Kept.refl _ _) rfl trivial
    · obtain ⟨h1, h2, ⟨A2, c2, h3, h4⟩, h5⟩ := hA
      have HRw := hid h4
      clear h4
      go_simp
      exact Gives3.of rfl (Kept.refl _ _) ⟨A2, c2, rfl, HRw.out⟩ trivial
  · intro a w3 hgk hs hf _ _
    have hgw : Grew w1 w3 := Kept.grew hgk (Grew.refl _) (fun _ h => h.elim)
    have h9 := hf 9 (by decide)
    simp only [slotOf, GbF, List.getD_cons_succ, List.getD_cons_zero] at h9
    obtain ⟨A2, c2, ev, hrow⟩ := h9
    obtain ⟨fn, rfl, hft⟩ := hs.put
    rw [hft] at ev
    have HR3 := hid hrow
    have HG3 := hid (HG.out.trans hgw)
    have HB3 := hid (HB2.out.grew hgw)
    clear hf hft hs hgw hgk hrow
    simp only [List.drop_succ_cons, List.drop_zero, putAll, List.foldl_cons, List.foldl_nil, Act.put, List.setIfInBounds_toArray, List.set_cons_succ, List.set_cons_zero, ev]
    clear ev
    have t0 := HB3.out.cell 0
    have t1 := HB3.out.cell 1
    have t2 := HB3.out.cell 2
    have t3 := HB3.out.cell 3
    have tl := HB3.out.lt
    have tf := HB3.out.frozen
    simp only [List.getElem?_toArray, List.getElem?_cons_zero, List.getElem?_cons_succ] at t0 t1 t2 t3
    go_wp2_with fail
    refine bodyPost_ret (v := .agg #[.int .i64 cls, .int .i64 lev, .slice A2 m c2, .string b]) (res_obj1 rfl _ (g + 1) rfl _ _ _ _ _ (HB3.out.put4 _ _ _ _)) rfl ?_
    have hk : Kept (fun k => k = g + 1) w3 ((((w3.setCell ⟨g + 1, 0, none⟩ (.int .i64 cls)).setCell ⟨g + 1, 1, none⟩ (.int .i64 lev)).setCell ⟨g + 1, 2, none⟩ (.slice A2 m c2)).setCell ⟨g + 1, 3, none⟩ (.string b)) := kept4 (Kept.refl (fun k => k = g + 1) w3) (fun _ => rfl) _ _ _ _
    refine ⟨A2, c2, rfl, (HR3.out.kept hk (fun q hA e => ?_)).low HG.out.below.size, hk.grew HG3.out (fun k e => by rw [e, EG.out]; exact Nat.le_succ _)⟩
    obtain ⟨ds, hd⟩ := HR3.out.blkAt (k := q) ⟨_, hA, rfl⟩
    rw [e] at hd
    exact absurd (hd.ty HB3.out).1 (by decide)
theorem ItemsRow.app {w w' : World} {B : Nat} {A A' : Option Addr} {c c' : Nat} {vs : List IV} {y : IV} (h : ItemsRow w B A c vs) (hr : Row w' B 89 6 A' (vs.length + 1) c' (vs.flatMap ivF ++ ivF y)) (hk : Kept (AtRow A) w w') (hy : Row w B 41 3 y.A y.o.f.length y.c (y.o.f.flatMap valF)) : ItemsRow w' B A' c' (vs ++ [y]) := by
  have hne : ∀ (x : IV), Row w B 41 3 x.A x.o.f.length x.c (x.o.f.flatMap valF) → Row w' B 41 3 x.A x.o.f.length x.c (x.o.f.flatMap valF) := fun x hx => hx.kept hk (fun g hA hq => by
    obtain ⟨ds, hd⟩ := hx.blkAt (k := g) ⟨_, hA, rfl⟩
    obtain ⟨es, he⟩ := h.row.blkAt hq
    exact absurd (hd.ty he).1 (by decide))
  refine ⟨by rw [List.length_append, List.flatMap_append]; simpa using hr, fun x hx => ?_⟩
  rcases List.mem_append.1 hx with h1 | h1
  · exact hne x (h.fl x h1)
  · rw [List.mem_singleton.1 h1]
    exact hne y hy
theorem ItemsRow.nil (w : World) (B : Nat) : ItemsRow w B none 0 [] := ⟨Row.nil _ _ _ _, by simp⟩
/-- Items that were made, to be read. -/
theorem ItemsRow.read {w : World} {B : Nat} {A : Option Addr} {c : Nat} {l : List IV} (h : ItemsRow w B A c l) (hm : ∀ x ∈ l, (∀ v ∈ x.o.f, ValOk v) ∧ N64 x.o.cls ∧ N64 x.o.lev ∧ N64 x.i ∧ N64 x.h) : ItemsAt w A l := by
  refine ⟨fun x hx => ?_, fun hl => ?_⟩
  · obtain ⟨h1, h2, h3, h4, h5⟩ := hm x hx
    exact ⟨⟨row_vals (h.fl x hx) rfl h1, h2, h3, (h.fl x hx).cases.2.1⟩, h4, h5⟩
  · rcases h.row.cases with ⟨_, _, _, ⟨_, h2, _⟩ | ⟨g, h1, hb, hw, hc, _⟩⟩
    · omega
    · exact ⟨⟨g, 0, none⟩, h1, hw, CellsAt.of_row ivF_len (by have h2 := h.row; rw [h1] at h2; exact h2)⟩
end Go.Proofs.YtidnaednldcdfaaGreatDoor

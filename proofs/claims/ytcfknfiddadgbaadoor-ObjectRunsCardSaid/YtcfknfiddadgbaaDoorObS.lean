/- Stage 11: an object copied. -/
import Derived.Test.YtcfknfiddadgbaaDoorObB
import Derived.Test.YtcfknfiddadgbaaDoorObG
namespace Go.Proofs.YtcfknfiddadgbaaDoor
open Go.RowKit

theorem res_obj1 {fn : Func} {a : Tmp} (hr : fn.results = #[ResultVar.cell a 28]) (tmps : Array Value) (g : Nat) (ha : tmps.getD a undef = .pointer (some ⟨g, 0, none⟩)) (w : World) (c0 c1 c2 c3 : Value) (hb : Blk w g 28 #[c0, c1, c2, c3]) :
    (results fn tmps).run Tryd.prog w = .ok (.agg #[c0, c1, c2, c3]) w := by
  have y0 : w.cell? ⟨g, 0, none⟩ = some c0 := hb.cell 0
  have y1 : w.cell? ⟨g, 1, none⟩ = some c1 := hb.cell 1
  have y2 : w.cell? ⟨g, 2, none⟩ = some c2 := hb.cell 2
  have y3 : w.cell? ⟨g, 3, none⟩ = some c3 := hb.cell 3
  have ha' : tmps[a]?.getD undef = .pointer (some ⟨g, 0, none⟩) := by simpa using ha
  simp [results, go_sem, *]
theorem val_info : (Tryd.prog.info? 39).map (fun i => (i.zero, i.size, i.bytes)) = some (some (.agg #[.int .u8 0, .int .i64 0, .int .i64 0]), 3, 24) := by kernel_rfl
theorem obj_size : (Tryd.prog.info? 28).map (·.size) = some 4 := by kernel_rfl
theorem val_size : (Tryd.prog.info? 39).map (·.size) = some 3 := by kernel_rfl
theorem vals_one (l : List Ob.Val) : ∀ u ∈ l.flatMap valF, u.oneCell' = true := fun u hu => by
  obtain ⟨v, _, h⟩ := List.mem_flatMap.1 hu
  exact valF_one v u h
theorem flat_cell {α : Type} {f : α → List Value} {s : Nat} (hs : 0 < s) (hf : ∀ x, (f x).length = s) {w : World} {ad : Addr} {l : List α} (h : CellsAt s f w ad l) : ∀ j u, (l.flatMap f)[j]? = some u → w.cell? (ad.add j) = some u := fun j u hu => by
  have hj : j < l.length * s := by
    have := (List.getElem?_eq_some_iff.1 hu).1
    rwa [flatMap_length hf] at this
  have hq : j / s < l.length := Nat.div_lt_of_lt_mul (by rw [Nat.mul_comm]; exact hj)
  have hx := List.getElem?_eq_getElem hq
  have hr : j % s < (f l[j / s]).length := by rw [hf]; exact Nat.mod_lt _ hs
  have h2 := flat_at f s hf l (j / s) _ hx (j % s) _ (List.getElem?_eq_getElem hr)
  have e : j / s * s + j % s = j := by rw [Nat.mul_comm]; exact Nat.div_add_mod j s
  rw [e] at h2
  rw [hu] at h2
  have h3 := h _ _ hx (j % s) _ (List.getElem?_eq_getElem hr)
  rw [e] at h3
  rw [h3, h2]
/-- What 'copied' answers. -/
def CopyPost (w : World) (o : Ob.Obj) (e : Ending) (w' : World) : Prop := ∃ b, e = .returned (.agg #[.int .i64 o.cls, .int .i64 o.lev, .slice (some ⟨b, 0, none⟩) o.f.length o.f.length, .string o.b]) ∧ w.heap.size ≤ b ∧ Blk w' b 39 (o.f.flatMap valF).toArray ∧ Grew w w'
set_option maxRecDepth 100000 in
set_option maxHeartbeats 2000000 in
theorem copied_c (v : OV) (w : World) (h : OvOk w v) (hl : v.o.f.length ≤ 300) : Calls Tryd.prog 27 #[.agg #[.int .i64 v.o.cls, .int .i64 v.o.lev, .slice v.A v.o.f.length v.c, .string v.o.b]] w (CopyPost w v.o) := by
  obtain ⟨⟨cls, lev, f, b⟩, A, c⟩ := v
  have hf := h.f
  clear h
  simp only at hf hl ⊢
  unfold CopyPost
  simp only
  obtain ⟨m, hm⟩ : ∃ m, m = f.length := ⟨_, rfl⟩
  obtain ⟨cs, hcs⟩ : ∃ cs, cs = f.flatMap valF := ⟨_, rfl⟩
  have HL := hid (show cs.length = m * 3 by rw [hcs, hm, flatMap_length valF_len])
  have HO := hid (show ∀ u ∈ cs, u.oneCell' = true by rw [hcs]; exact vals_one f)
  have HF := hid (show 0 < m → ∃ ad, A = some ad ∧ ad.block < w.heap.size ∧ ∀ j u, cs[j]? = some u → w.cell? (ad.add j) = some u by
    intro h0
    obtain ⟨ad, h1, h2, h3⟩ := hf.2 (by rw [← hm]; exact h0)
    exact ⟨ad, h1, h2, fun j u hu => flat_cell (by decide) valF_len h3 j u (by rw [← hcs]; exact hu)⟩)
  rw [← hcs, ← hm]
  rw [← hm] at hl
  clear hf hcs hm
  have G1 := (Grew.refl w).alloc (.cells #[.int .i64 cls, .int .i64 lev, .slice A m c, .string b] 28)
  have B1 := Blk.new w 28 #[.int .i64 cls, .int .i64 lev, .slice A m c, .string b]
  have G2 := G1.alloc (.cells #[.int .i64 0, .int .i64 0, .slice none 0 0, .string ⟨#[]⟩] 28)
  have B1' := B1.grew ((Grew.refl _).alloc (.cells #[.int .i64 0, .int .i64 0, .slice none 0 0, .string ⟨#[]⟩] 28))
  have B2 := Blk.new (w.alloc (.cells #[.int .i64 cls, .int .i64 lev, .slice A m c, .string b] 28)) 28 #[.int .i64 0, .int .i64 0, .slice none 0 0, .string ⟨#[]⟩]
  have e1 : (w.alloc (.cells #[.int .i64 cls, .int .i64 lev, .slice A m c, .string b] 28)).heap.size = w.heap.size + 1 := World.size_alloc _ _
  rw [e1] at B2
  clear G1 B1
  go_enter Tryd.func27, Tryd.ntmps27
  go_upto_region 1 with fail
  generalize (w.alloc (.cells #[.int .i64 cls, .int .i64 lev, .slice A m c, .string b] 28)).alloc (.cells #[.int .i64 0, .int .i64 0, .slice none 0 0, .string ⟨#[]⟩] 28) = w1 at *
  have HG := hid G2
  have HW := hid G2.below.size
  obtain ⟨gb, egb⟩ : ∃ gb, gb = w.heap.size := ⟨_, rfl⟩
  rw [← egb] at B1' B2 ⊢
  have EGB := hid egb
  have HB1 := hid B1'
  have HB2 := hid B2
  have HG1B := hid B2.lt
  have q2 := B1'.cell 2
  have ql := B1'.lt
  simp only [List.getElem?_toArray, List.getElem?_cons_zero, List.getElem?_cons_succ] at q2
  clear G2 B1' B2 e1 egb
  obtain ⟨vs, w2, hvl, hrun, hbk, hg2, hsz⟩ := make_blk (P := Tryd.prog) Tryd.underlying26 val_info (by decide) m (by omega) w1
  obtain ⟨H, eH⟩ : ∃ H, H = w1.heap.size := ⟨_, rfl⟩
  rw [← eH] at hrun hbk
  have EH := hid eH
  have HK := hid hbk
  have HG2 := hid (HG.out.trans hg2)
  have HB1' := hid (HB1.out.grew hg2)
  have HB2' := hid (HB2.out.grew hg2)
  have p2 := HB1'.out.cell 2
  have pl := HB1'.out.lt
  simp only [List.getElem?_toArray, List.getElem?_cons_zero, List.getElem?_cons_succ] at p2
  have HLV := hid hvl
  have HQ := hid ql
  clear hbk hg2 hsz eH hvl HB1 HB2 HG
  go_upto_region 2 with fail
  clear hrun q2 ql
  obtain ⟨w3, hrun, hb3, hk3⟩ := run_copyA (P := Tryd.prog) 3 w2 26 26 3 39 H m c A vs cs 39 Tryd.underlying26 val_size HK.out HL.out HLV.out (fun h0 => by
    obtain ⟨ad, h1, h2, h3⟩ := HF.out h0
    exact ⟨ad, h1, fun j u hu => by rw [HG2.out.below.cell (by rw [block_add]; exact h2)]; exact h3 j u hu⟩) HO.out
  have HG3 := hid (hk3.grew HG2.out (fun k hk => by subst hk; rw [EH.out]; exact HW.out))
  have HC1 := hid (HB1'.out.kept hk3 (by have := EH.out; have := HQ.out; omega))
  have HC2 := hid (HB2'.out.kept hk3 (by have h1 := EH.out; have h2 := HG1B.out; omega))
  have r2 := HC1.out.cell 2
  have rf := HC1.out.frozen 2
  have rl := HC1.out.lt
  simp only [List.getElem?_toArray, List.getElem?_cons_zero, List.getElem?_cons_succ] at r2
  have HH := hid hb3
  clear hb3 hk3 HK HG2
  go_upto_region 4 with fail
  have HW1 : Hid (Grew w (w3.setCell ⟨gb, 2, none⟩ (.slice (some ⟨H, 0, none⟩) m m))) := hid (Kept.up ((Kept.of_grew HG3.out).setCell (p := ⟨gb, 2, none⟩) (fun _ => by have := EGB.out; simp only; omega) _))
  have hne : H ≠ gb := by have := EH.out; have := HQ.out; omega
  have HX1 := hid (show Blk (w3.setCell ⟨gb, 2, none⟩ (.slice (some ⟨H, 0, none⟩) m m)) gb 28 #[.int .i64 cls, .int .i64 lev, .slice (some ⟨H, 0, none⟩) m m, .string b] by
    have := HC1.out.put 2 (.slice (some ⟨H, 0, none⟩) m m)
    simpa using this)
  have HX2 := hid (HC2.out.far (p := ⟨gb, 2, none⟩) (by simp) (.slice (some ⟨H, 0, none⟩) m m))
  have HX3 := hid (HH.out.far (p := ⟨gb, 2, none⟩) hne (.slice (some ⟨H, 0, none⟩) m m))
  have hne2 := hid (show H ≠ gb + 1 by have h1 := EH.out; have h2 := HG1B.out; omega)
  generalize w3.setCell ⟨gb, 2, none⟩ (.slice (some ⟨H, 0, none⟩) m m) = w4 at *
  clear r2 rf rl HC1 HC2 HH HG3
  have s0 := HX1.out.cell 0
  have s1 := HX1.out.cell 1
  have s2 := HX1.out.cell 2
  have s3 := HX1.out.cell 3
  have sl := HX1.out.lt
  have t0 := HX2.out.cell 0
  have t1 := HX2.out.cell 1
  have t2 := HX2.out.cell 2
  have t3 := HX2.out.cell 3
  have tl := HX2.out.lt
  have tf := HX2.out.frozen
  simp only [List.getElem?_toArray, List.getElem?_cons_zero, List.getElem?_cons_succ] at s0 s1 s2 s3 t0 t1 t2 t3
  go_wp2_with fail
  refine bodyPost_ret (v := .agg #[.int .i64 cls, .int .i64 lev, .slice (some ⟨H, 0, none⟩) m m, .string b]) (res_obj1 rfl _ (gb + 1) rfl _ _ _ _ _ (HX2.out.put4 _ _ _ _)) rfl ?_
  exact ⟨H, rfl, by rw [EH.out]; exact HW.out, HX3.out.far4 hne2.out _ _ _ _, Kept.up (kept4 (Kept.of_grew HW1.out) (fun _ => by have h1 := EGB.out; show w.heap.size ≤ gb + 1; omega) _ _ _ _)⟩
end Go.Proofs.YtcfknfiddadgbaaDoor

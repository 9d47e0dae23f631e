/- Stage 11: Get, Hash. -/
import Derived.Test.YtcfknfiddadgbaaDoorObT
namespace Go.Proofs.YtcfknfiddadgbaaDoor
open Go.RowKit

set_option maxRecDepth 100000 in
theorem res_get (tmps : Array Value) (g : Nat) (ha : tmps.getD 4 undef = .pointer (some ⟨g, 0, none⟩)) (v : Value) (hv : tmps.getD 5 undef = v) (w : World) (c0 c1 c2 c3 : Value) (hb : Blk w g 28 #[c0, c1, c2, c3]) :
    (results Tryd.f6 tmps).run Tryd.prog w = .ok (.tuple #[.agg #[c0, c1, c2, c3], v]) w := by
  have y0 : w.cell? ⟨g, 0, none⟩ = some c0 := hb.cell 0
  have y1 : w.cell? ⟨g, 1, none⟩ = some c1 := hb.cell 1
  have y2 : w.cell? ⟨g, 2, none⟩ = some c2 := hb.cell 2
  have y3 : w.cell? ⟨g, 3, none⟩ = some c3 := hb.cell 3
  have ha' : tmps[4]?.getD undef = .pointer (some ⟨g, 0, none⟩) := by simpa using ha
  have hv' : tmps[5]?.getD undef = v := by simpa using hv
  simp [results, Tryd.results6, go_sem, *]
def zeroO : Array Value := #[.int .i64 0, .int .i64 0, .slice none 0 0, .string ⟨#[]⟩]
/-- What Get answers of an object that there is. -/
def GetPost (w : World) (o : Ob.Obj) (e : Ending) (w' : World) : Prop := ∃ b, e = .returned (.tuple #[.agg #[.int .i64 o.cls, .int .i64 o.lev, .slice (some ⟨b, 0, none⟩) o.f.length o.f.length, .string o.b], .nilIface]) ∧ w.heap.size ≤ b ∧ Blk w' b 39 (o.f.flatMap valF).toArray ∧ Grew w w'
set_option maxRecDepth 100000 in
set_option maxHeartbeats 2000000 in
theorem get_c (s : SV) (B : Nat) (i : Nat) (x : IT) (w : World) (h : StoreAt w B s) (hx : s.its[i]? = some x) : Calls Tryd.prog 6 #[.pointer (some ⟨s.g, 0, none⟩), .int .i64 ((i : Nat) : Int)] w (GetPost w x.o) := by
  have hi := (List.getElem?_eq_some_iff.1 hx).1
  have hb : Ob.inB (i : Int) ((s.its.length : Nat) : Int) = true := by simp [Ob.inB, hi]
  have hm := List.mem_of_getElem? hx
  have hsp := head_spec (h.ok x hm)
  have HCC := hid (fun W (hW : Grew w W) => copied_c ⟨x.o, some ⟨x.b, 0, none⟩, x.o.f.length⟩ W (it_ok (h.grew hW) hm) (by have := hsp.2.2.2.2.1; simp only; omega))
  have HFI := hid (fun W (hW : Grew w W) => find_c s B (i : Int) W (h.grew hW) true hb)
  have HIT := hid (fun W (hW : Grew w W) => it_get h hW hx)
  have HST := hid (fun W (hW : Grew w W) => st_cells h hW)
  have HL := hid h.len
  have f0 : (i : Int) < ((s.its.length : Nat) : Int) := by omega
  have f1 : ((s.its.length : Nat) : Int) ≤ 65536 := by have := h.len; omega
  unfold GetPost
  simp only at HCC
  clear h hsp hm hb
  obtain ⟨⟨cls, lev, f, b⟩, bb, hh⟩ := x
  simp only at HCC HIT ⊢
  unfold CopyPost at HCC
  simp only at HCC
  obtain ⟨m, em⟩ : ∃ m, m = f.length := ⟨_, rfl⟩
  obtain ⟨cs, ecs⟩ : ∃ cs, cs = (f.flatMap valF).toArray := ⟨_, rfl⟩
  rw [← em, ← ecs] at HCC
  rw [← em] at HIT
  rw [← em, ← ecs]
  clear hx em ecs
  generalize s.its.length = n at *
  generalize s.g = sg at *
  generalize s.A = sA at *
  have G1 := (Grew.refl w).alloc (.cells #[.int .i64 0, .int .i64 0, .slice none 0 0, .string ⟨#[]⟩] 28)
  have B1 := Blk.new w 28 #[.int .i64 0, .int .i64 0, .slice none 0 0, .string ⟨#[]⟩]
  go_enter Tryd.func6, Tryd.ntmps6
  go_upto_region 1 with fail
  obtain ⟨gb, egb⟩ : ∃ gb, gb = w.heap.size := ⟨_, rfl⟩
  generalize w.alloc (.cells #[.int .i64 0, .int .i64 0, .slice none 0 0, .string ⟨#[]⟩] 28) = w1 at *
  rw [← egb] at B1 ⊢
  have HG1 := hid G1
  have HB1 := hid B1
  have EGB := hid egb
  clear G1 B1 egb
  go_upto_region 4 with (go_at_call 26; refine (HFI.out _ HG1.out).mono ?_; rintro e w2 ⟨rfl, hg2⟩)
  have HG2 := hid (HG1.out.trans hg2)
  have HB2 := hid (HB1.out.grew hg2)
  clear hg2 HFI HB1
  obtain ⟨p0, p1, pl⟩ := HST.out w2 HG2.out
  obtain ⟨ad, rfl, q0, q1, q2, q3, q4, ql⟩ := HIT.out w2 HG2.out
  have hcall := HCC.out w2 HG2.out
  clear HIT HST HCC p0 q4
  go_wp2_with (go_at_call 27; refine hcall.mono ?_; rintro e w3 ⟨H, rfl, hH, hbk, hg3⟩; have HB3 := hid (HB2.out.grew hg3); have HG3 := hid (HG2.out.trans hg3); have HH := hid hH; have HK := hid hbk; have t0 := HB3.out.cell 0; have t1 := HB3.out.cell 1; have t2 := HB3.out.cell 2; have t3 := HB3.out.cell 3; have tl := HB3.out.lt; have tf := HB3.out.frozen; simp only [List.getElem?_toArray, List.getElem?_cons_zero, List.getElem?_cons_succ] at t0 t1 t2 t3; clear hH hbk hg3 q0 q1 q2 q3 ql p1 pl)
  refine bodyPost_ret (v := .tuple #[.agg #[.int .i64 cls, .int .i64 lev, .slice (some ⟨H, 0, none⟩) m m, .string b], .nilIface]) (res_get _ gb rfl _ rfl _ _ _ _ _ (HB3.out.put4 _ _ _ _)) rfl ?_
  have hne : H ≠ gb := by have h1 := HH.out; have h2 := HB2.out.lt; omega
  exact ⟨H, rfl, Nat.le_trans HG2.out.below.size HH.out, HK.out.far4 hne _ _ _ _, Kept.up (kept4 (Kept.of_grew HG3.out) (fun _ => by have h1 := EGB.out; show w.heap.size ≤ gb; omega) _ _ _ _)⟩
set_option maxRecDepth 100000 in
theorem get_no (s : SV) (B : Nat) (i : Int) (w : World) (h : StoreAt w B s) (hi : Ob.inB i ((s.its.length : Nat) : Int) = false) : Calls Tryd.prog 6 #[.pointer (some ⟨s.g, 0, none⟩), .int .i64 i] w fun e w' => e = .returned (.tuple #[.agg zeroO, errVal 3]) ∧ Grew w w' := by
  have HFI : Hid (∀ W, Grew w W → Calls Tryd.prog 26 #[.pointer (some ⟨s.g, 0, none⟩), .int .i64 i] W fun e w' => e = .returned (.iface 77 (.int .i64 3)) ∧ Grew W w') := hid (fun W hW => find_c s B i W (h.grew hW) false hi)
  clear h hi
  generalize s.its.length = n at *
  generalize s.g = sg at *
  have G1 := (Grew.refl w).alloc (.cells #[.int .i64 0, .int .i64 0, .slice none 0 0, .string ⟨#[]⟩] 28)
  have B1 := Blk.new w 28 #[.int .i64 0, .int .i64 0, .slice none 0 0, .string ⟨#[]⟩]
  go_enter Tryd.func6, Tryd.ntmps6
  go_upto_region 1 with fail
  obtain ⟨gb, egb⟩ : ∃ gb, gb = w.heap.size := ⟨_, rfl⟩
  generalize w.alloc (.cells #[.int .i64 0, .int .i64 0, .slice none 0 0, .string ⟨#[]⟩] 28) = w1 at *
  rw [← egb] at B1 ⊢
  have HG1 := hid G1
  have HB1 := hid B1
  have EGB := hid egb
  clear G1 B1 egb
  go_wp2_with (go_at_call 26; refine (HFI.out _ HG1.out).mono ?_; rintro e w2 ⟨rfl, hg2⟩; have HB3 := hid (HB1.out.grew hg2); have HG3 := hid (HG1.out.trans hg2); have t0 := HB3.out.cell 0; have t1 := HB3.out.cell 1; have t2 := HB3.out.cell 2; have t3 := HB3.out.cell 3; have tl := HB3.out.lt; have tf := HB3.out.frozen; simp only [List.getElem?_toArray, List.getElem?_cons_zero, List.getElem?_cons_succ] at t0 t1 t2 t3; clear hg2)
  refine bodyPost_ret (v := .tuple #[.agg zeroO, errVal 3]) (res_get _ gb rfl _ rfl _ _ _ _ _ (HB3.out.put4 _ _ _ _)) rfl ?_
  exact ⟨rfl, Kept.up (kept4 (Kept.of_grew HG3.out) (fun _ => by have h1 := EGB.out; show w.heap.size ≤ gb; omega) _ _ _ _)⟩
set_option maxRecDepth 100000 in
theorem hash_c (s : SV) (B : Nat) (i : Nat) (x : IT) (w : World) (h : StoreAt w B s) (hx : s.its[i]? = some x) : Calls Tryd.prog 7 #[.pointer (some ⟨s.g, 0, none⟩), .int .i64 ((i : Nat) : Int)] w fun e w' => e = .returned (.tuple #[.int .i64 ((x.h : Nat) : Int), .nilIface]) ∧ Grew w w' := by
  have hi := (List.getElem?_eq_some_iff.1 hx).1
  have hb : Ob.inB (i : Int) ((s.its.length : Nat) : Int) = true := by simp [Ob.inB, hi]
  have HFI := hid (fun W (hW : Grew w W) => find_c s B (i : Int) W (h.grew hW) true hb)
  have HIT := hid (fun W (hW : Grew w W) => it_get h hW hx)
  have HST := hid (fun W (hW : Grew w W) => st_cells h hW)
  have f0 : (i : Int) < ((s.its.length : Nat) : Int) := by omega
  have f1 : ((s.its.length : Nat) : Int) ≤ 65536 := by have := h.len; omega
  clear h hb
  obtain ⟨⟨cls, lev, f, b⟩, bb, hh⟩ := x
  simp only at HIT ⊢
  clear hx
  generalize s.its.length = n at *
  generalize s.g = sg at *
  generalize s.A = sA at *
  go_enter Tryd.func7, Tryd.ntmps7
  go_wp2_with (go_at_call 26; refine (HFI.out w (Grew.refl w)).mono ?_; rintro e w2 ⟨rfl, hg2⟩; obtain ⟨p0, p1, pl⟩ := HST.out w2 hg2; obtain ⟨ad, rfl, q0, q1, q2, q3, q4, ql⟩ := HIT.out w2 hg2; clear HIT HST p0)
  go_ret2
  exact ⟨rfl, hg2⟩
set_option maxRecDepth 100000 in
theorem hash_no (s : SV) (B : Nat) (i : Int) (w : World) (h : StoreAt w B s) (hi : Ob.inB i ((s.its.length : Nat) : Int) = false) : Calls Tryd.prog 7 #[.pointer (some ⟨s.g, 0, none⟩), .int .i64 i] w fun e w' => e = .returned (.tuple #[.int .i64 0, errVal 3]) ∧ Grew w w' := by
  have HFI : Hid (∀ W, Grew w W → Calls Tryd.prog 26 #[.pointer (some ⟨s.g, 0, none⟩), .int .i64 i] W fun e w' => e = .returned (.iface 77 (.int .i64 3)) ∧ Grew W w') := hid (fun W hW => find_c s B i W (h.grew hW) false hi)
  clear h hi
  generalize s.its.length = n at *
  generalize s.g = sg at *
  go_enter Tryd.func7, Tryd.ntmps7
  go_wp2_with (go_at_call 26; refine (HFI.out w (Grew.refl w)).mono ?_; rintro e w2 ⟨rfl, hg2⟩)
  go_ret2
  exact ⟨rfl, hg2⟩
end Go.Proofs.YtcfknfiddadgbaaDoor

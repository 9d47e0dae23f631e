/- Stage 11: Add. -/
import Derived.Test.YtcfknfiddadgbaaDoorObX
namespace Go.Proofs.YtcfknfiddadgbaaDoor
open Go.RowKit

/-- What Add answers, and leaves. -/
def AddPost (w : World) (B : Nat) (s : SV) (o : Ob.Obj) (e : Ending) (w' : World) : Prop := e = .returned (.tuple #[.int .i64 ((s.its.length : Nat) : Int), .nilIface]) ∧ AddIn w B s o w'
theorem AddIn.from {w w1 w2 : World} {B : Nat} {s : SV} {o : Ob.Obj} (h : AddIn w1 B s o w2) (hg : Grew w w1) : AddIn w B s o w2 := by
  obtain ⟨s', h1, h2, h3, h3b, h4, h5, h6⟩ := h
  refine ⟨s', h1, h2, h3, h3b, h4, (Kept.of_grew hg).trans h5, fun k hk => ?_⟩
  rcases h6 k hk with h7 | h7
  · exact .inl h7
  · exact .inr (Nat.le_trans hg.below.size h7)
theorem AddIn.then {w w1 w2 : World} {B : Nat} {s : SV} {o : Ob.Obj} (h : AddIn w B s o w1) (hg : Grew w1 w2) : AddIn w B s o w2 := by
  obtain ⟨s', h1, h2, h3, h3b, h4, h5, h6⟩ := h
  exact ⟨s', h1.grew hg, h2, h3, h3b, h4, h5.trans (Kept.of_grew hg), h6⟩
set_option maxRecDepth 100000 in
set_option maxHeartbeats 4000000 in
theorem addM_c (s : SV) (B : Nat) (v : OV) (w : World) (h : StoreAt w B s) (hv : OvOk w v) (hvA : 0 < v.o.f.length → ∀ ad, v.A = some ad → ¬ Owns s ad.block) (b : Bool) (hm : Ob.mayB s.up.length v.o = b) (hn : s.its.length < 65536) :
    Calls Tryd.prog 8 #[.pointer (some ⟨s.g, 0, none⟩), .int .i64 v.o.cls, .int .i64 v.o.lev, .slice v.A v.o.f.length v.c, .string v.o.b] w fun e w' => if b then AddPost w B s v.o e w' else e = .returned (.tuple #[.int .i64 0, errVal 1]) ∧ Grew w w' := by
  have HLv := hid (fun W (hW : Grew w W) => levels_c s B W (h.grew hW))
  have HMy := hid (fun W (hW : Grew w W) => may_c s.up.length v W (hv.grew hW))
  rw [hm] at HMy
  have HAd := hid (fun W (hW : Grew w W) (hb : b = true) => add_c s B v W (h.grew hW) (hv.grew hW) hvA (by rw [hm]; exact hb) hn)
  have HSt := hid h
  have hsc := fun W (hW : Grew w W) => st_cells h hW
  have HSC := hid hsc
  have HU := hid h.lens
  unfold AddPost
  obtain ⟨⟨cls, lev, f, bt⟩, A0, c0⟩ := v
  simp only at HAd HMy ⊢
  clear h hv hvA hm hsc
  obtain ⟨sg, esg⟩ : ∃ sg, sg = s.g := ⟨_, rfl⟩
  rw [← esg] at HAd HLv HSC ⊢
  have ESG := hid esg
  obtain ⟨n, en⟩ : ∃ n, n = s.its.length := ⟨_, rfl⟩
  rw [← en] at hn HSC ⊢
  have EN := hid en
  obtain ⟨un, eun⟩ : ∃ un, un = s.up.length := ⟨_, rfl⟩
  rw [← eun] at HLv HMy HU HSC
  generalize f.length = m at *
  clear esg en eun
  have G1 := (Grew.refl w).alloc (.cells #[.int .i64 cls, .int .i64 lev, .slice A0 m c0, .string bt] 28)
  have B1 := Blk.new w 28 #[.int .i64 cls, .int .i64 lev, .slice A0 m c0, .string bt]
  go_enter Tryd.func8, Tryd.ntmps8
  go_upto_region 2 with fail
  generalize w.alloc (.cells #[.int .i64 cls, .int .i64 lev, .slice A0 m c0, .string bt] 28) = w1 at *
  generalize w.heap.size = gx at *
  have HG1 := hid G1
  have HB1 := hid B1
  clear G1 B1
  have q0 := fun (y : After w1) => (HB1.out.grew y.grew).cell 0
  have q1 := fun (y : After w1) => (HB1.out.grew y.grew).cell 1
  have q2 := fun (y : After w1) => (HB1.out.grew y.grew).cell 2
  have q3 := fun (y : After w1) => (HB1.out.grew y.grew).cell 3
  have ql := fun (y : After w1) => (HB1.out.grew y.grew).lt
  simp only [List.getElem?_toArray, List.getElem?_cons_zero, List.getElem?_cons_succ] at q0 q1 q2 q3
  refine wp_region_grew_from (w0 := w1) (Grew.refl w1) (by kernel_rfl) (by kernel_rfl) ?_
  repeat (go_big_quiet_step (first | (go_at_call 28; exact Calls.grew (After.grew _) (HLv.out _ (HG1.out.trans (After.grew _)))) | (go_at_call 17; exact Calls.grew (After.grew _) (HMy.out _ (HG1.out.trans (After.grew _))))))
  refine wpQuiet_nil ?_
  rintro _ ⟨y, rfl⟩
  have HB2 := hid (HB1.out.grew y.grew)
  have HG2 := hid (HG1.out.trans y.grew)
  obtain ⟨_, p1, pl⟩ := HSC.out y.w HG2.out
  have hb0 := HB2.out.cell 0
  have hb1 := HB2.out.cell 1
  have hb2 := HB2.out.cell 2
  have hb3 := HB2.out.cell 3
  have hbl := HB2.out.lt
  simp only [List.getElem?_toArray, List.getElem?_cons_zero, List.getElem?_cons_succ] at hb0 hb1 hb2 hb3
  have f1 : ¬ (65536 : Int) ≤ (n : Int) := by omega
  clear q0 q1 q2 q3 ql HLv HMy HSC
  cases b
  · go_wp2_with fail
    go_ret2
    exact ⟨rfl, HG2.out⟩
  · have hadd := HAd.out y.w HG2.out rfl
    clear HAd
    go_wp2_with fail
    refine hadd.mono ?_
    rintro e w5 ⟨rfl, hin⟩
    obtain ⟨s', h1, h2, h3, h3b, h4, h5, h6⟩ := hin
    obtain ⟨_, r1, rl⟩ := st_cells h1 (Grew.refl w5)
    have HIn := hid (show AddIn y.w B s ⟨cls, lev, f, bt⟩ w5 from ⟨s', h1, h2, h3, h3b, h4, h5, h6⟩)
    have hlen : s'.its.length = n + 1 := by
      have h7 := congrArg List.length h4
      rw [objsI_len, List.length_append, objsI_len, ← EN.out] at h7
      exact h7
    rw [h2, ← ESG.out] at r1 rl
    rw [hlen] at r1
    generalize s'.A = sA at r1
    generalize s'.ca = sca at r1
    clear h1 h2 h3 h3b h4 h5 h6 hlen p1 pl hb0 hb1 hb2 hb3 hbl hadd
    have hw : IntKind.i64.wrap ((n : Int) + 1 - 1) = (n : Int) := by
      simp [IntKind.wrap, IntKind.bits, IntKind.signed]
      omega
    go_wp2_with fail
    go_ret2
    exact ⟨rfl, HIn.out.from HG2.out⟩
theorem find_nil (i : Int) (w : World) : Calls Tryd.prog 26 #[.pointer none, .int .i64 i] w fun e w' => e = .returned (.iface 77 (.int .i64 1)) ∧ Grew w w' := by
  go_enter Tryd.func26, Tryd.ntmps26
  go_wp2_with fail
  go_ret
  exact ⟨rfl, Grew.refl _⟩
theorem len_nil (w : World) : Calls Tryd.prog 11 #[.pointer none] w fun e w' => e = .returned (.int .i64 0) ∧ Grew w w' := by
  go_enter Tryd.func11, Tryd.ntmps11
  go_wp2_with fail
  go_ret
  exact ⟨rfl, Grew.refl _⟩
set_option maxRecDepth 100000 in
theorem hash_nil (i : Int) (w : World) : Calls Tryd.prog 7 #[.pointer none, .int .i64 i] w fun e w' => e = .returned (.tuple #[.int .i64 0, .iface 77 (.int .i64 1)]) ∧ Grew w w' := by
  go_enter Tryd.func7, Tryd.ntmps7
  go_wp2_with (go_at_call 26; refine (find_nil i w).mono ?_; rintro e w2 ⟨rfl, hg2⟩)
  go_ret2
  exact ⟨rfl, hg2⟩
set_option maxRecDepth 100000 in
theorem get_nil (i : Int) (w : World) : Calls Tryd.prog 6 #[.pointer none, .int .i64 i] w fun e w' => e = .returned (.tuple #[.agg zeroO, .iface 77 (.int .i64 1)]) ∧ Grew w w' := by
  have G1 := (Grew.refl w).alloc (.cells #[.int .i64 0, .int .i64 0, .slice none 0 0, .string ⟨#[]⟩] 28)
  have B1 := Blk.new w 28 #[.int .i64 0, .int .i64 0, .slice none 0 0, .string ⟨#[]⟩]
  go_enter Tryd.func6, Tryd.ntmps6
  go_upto_region 1 with fail
  obtain ⟨gb, egb⟩ : ∃ gb, gb = w.heap.size := ⟨_, rfl⟩
  generalize w.alloc (.cells #[.int .i64 0, .int .i64 0, .slice none 0 0, .string ⟨#[]⟩] 28) = w1 at *
  rw [← egb] at B1 ⊢
  have HG1 := hid G1
  have HB1 := hid B1
  have EGB := hid egb
  clear G1 B1 egb
  go_wp2_with (go_at_call 26; refine (find_nil i w1).mono ?_; rintro e w2 ⟨rfl, hg2⟩; have HB3 := hid (HB1.out.grew hg2); have HG3 := hid (HG1.out.trans hg2); have t0 := HB3.out.cell 0; have t1 := HB3.out.cell 1; have t2 := HB3.out.cell 2; have t3 := HB3.out.cell 3; have tl := HB3.out.lt; have tf := HB3.out.frozen; simp only [List.getElem?_toArray, List.getElem?_cons_zero, List.getElem?_cons_succ] at t0 t1 t2 t3; clear hg2)
  refine bodyPost_ret (v := .tuple #[.agg zeroO, .iface 77 (.int .i64 1)]) (res_get _ gb rfl _ rfl _ _ _ _ _ (HB3.out.put4 _ _ _ _)) rfl ?_
  exact ⟨rfl, Kept.up (kept4 (Kept.of_grew HG3.out) (fun _ => by have h1 := EGB.out; show w.heap.size ≤ gb; omega) _ _ _ _)⟩
set_option maxRecDepth 100000 in
theorem add_nil (w : World) : Calls Tryd.prog 8 #[.pointer none, .int .i64 0, .int .i64 0, .slice none 0 0, .string ⟨#[]⟩] w fun e w' => e = .returned (.tuple #[.int .i64 0, .iface 77 (.int .i64 1)]) ∧ Grew w w' := by
  have G1 := (Grew.refl w).alloc (.cells #[.int .i64 0, .int .i64 0, .slice none 0 0, .string ⟨#[]⟩] 28)
  go_enter Tryd.func8, Tryd.ntmps8
  go_upto_region 2 with fail
  generalize w.alloc (.cells #[.int .i64 0, .int .i64 0, .slice none 0 0, .string ⟨#[]⟩] 28) = w1 at *
  have HG1 := hid G1
  clear G1
  refine wp_region_grew_from (w0 := w1) (Grew.refl w1) (by kernel_rfl) (by kernel_rfl) ?_
  repeat (go_big_quiet_step (fail))
  refine wpQuiet_nil ?_
  rintro _ ⟨y, rfl⟩
  go_wp2_with fail
  go_ret2
  exact ⟨rfl, HG1.out.trans y.grew⟩
end Go.Proofs.YtcfknfiddadgbaaDoor

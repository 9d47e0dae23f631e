/- Parts of elder texts that this layer needs, joined: XHmF XHmG XHmH XHmI XHmJ XHmK. -/
import Derived.Test.YtidnaednldcdfaaGreatDoorGcA
import Derived.Test.YtidnaednldcdfaaGreatDoorZFa
import Derived.Test.YtidnaednldcdfaaGreatDoorGaA
namespace Go.Proofs.YtidnaednldcdfaaGreatDoor
open Go.RowKit

def setSl (v : HV) (S : Option Addr) (cs : Nat) (sl : List (Option SX)) : HV := { v with S := S, cs := cs, sl := sl }
def setUN (v : HV) (us : Nat → Int) (n : Int) : HV := { v with us := us, n := n }
def lnOf (g : Nat) (w : World) : Nat := match w.cell? ⟨g, 26, none⟩ with
  | some (.slice _ n _) => n
  | _ => 0
def PlF4 (sg gx s i : Nat) (n c : Nat) (k : Nat) (v : Value) (_ : World) : Prop := match k with
  | 0 => v = .pointer (some ⟨sg, 0, none⟩)
  | 1 => v = .pointer (some ⟨sg, 0, none⟩)
  | 2 => v = .pointer (some ⟨sg, 26, none⟩)
  | 3 => v = .slice (some ⟨s, 0, none⟩) n c
  | 4 => v = .pointer (some ⟨gx, 0, none⟩)
  | 5 => v = .int .i64 (i : Int)
  | _ => v = .pointer (some ⟨s, i, none⟩)
def PlF5 (sg gx j : Nat) (uj : Int) (ws : Nat) (cls : Int) (A2 : Option Addr) (m c2 : Nat) (b : ByteArray) (k : Nat) (v : Value) (_ : World) : Prop := match k with
  | 0 => v = .pointer (some ⟨sg, 0, none⟩)
  | 1 => v = .pointer (some ⟨gx, 2, none⟩)
  | 2 => v = .pointer (some ⟨gx, 3, none⟩)
  | 3 => v = .int .i64 (j : Int)
  | 4 => v = .pointer (some ⟨sg, 0, none⟩)
  | 5 => v = .pointer (some ⟨sg, 10, none⟩)
  | 6 => v = .pointer (some ⟨sg, 10 + j, none⟩)
  | 7 => v = .int .i64 uj
  | 8 => v = .pointer (some ⟨gx, 2, none⟩)
  | 9 => v = .agg #[.int .i64 cls, .int .i64 (j : Int), .slice A2 m c2, .string b]
  | 10 => v = .int .i64 (ws : Int)
  | 11 => v = .int .i64 (uj + (ws : Int))
  | 12 => v = .pointer (some ⟨sg, 0, none⟩)
  | 13 => v = .pointer (some ⟨sg, 10, none⟩)
  | _ => v = .pointer (some ⟨sg, 10 + j, none⟩)
theorem wrap64 {x : Int} (h1 : -9223372036854775808 ≤ x) (h2 : x ≤ 9223372036854775807) : IntKind.i64.wrap x = x := by
  simp [IntKind.wrap, IntKind.bits, IntKind.signed]
  omega
/-- What 'place' leaves. -/
def PlaceIn (w : World) (B : Nat) (v : HV) (i : Nat) (hh : Int) (o : Ob.Obj) (j : Nat) (w' : World) : Prop := ∃ (S' : Option Addr) (cs' r : Nat) (x : SX), x.h = hh ∧ x.o = o ∧ i < (v.sl ++ List.replicate r none).length ∧ (v.sl.length ≤ 65536 → (v.sl ++ List.replicate r none).length ≤ 65536) ∧
  Step w B v (setUN (setSl v S' cs' ((v.sl ++ List.replicate r none).set i (some x))) (upd v.us j (v.us j + (Hp.words o : Nat))) (v.n + 1)) w'
theorem ptr_info : (Tryz.prog.info? 84).map (fun i => (i.zero, i.size, i.bytes)) = some (some (.pointer none), 1, 8) := by kernel_rfl
set_option maxRecDepth 100000 in
set_option maxHeartbeats 8000000 in
theorem place_c (v : HV) (B : Nat) (i : Nat) (hh : Int) (y : OV) (o : Ob.Obj) (eo : o = y.o) (j : Nat) (w : World) (h : MemAt w B v) (hl : v.sl.length ≤ 65536) (hi : i < 65536) (hy : OvOk w y) (hf : y.o.f.length ≤ 300) (hb : y.o.b.size ≤ 2000) (hj : y.o.lev = (j : Int)) (hj8 : j < 8)
    (hus : 0 ≤ v.us j ∧ v.us j ≤ 2000000) (hn : 0 ≤ v.n ∧ v.n ≤ 2000000) :
    Calls Tryz.prog 38 #[.pointer (some ⟨v.g, 0, none⟩), .agg #[.int .i64 ((i : Nat) : Int), .int .i64 hh, .int .i64 y.o.cls, .int .i64 y.o.lev, .slice y.A y.o.f.length y.c, .string y.o.b]] w fun e w' => e = .returned (.tuple #[]) ∧ PlaceIn w B v i hh o j w' := by
  have HCC := hid (fun W (hW : Grew w W) => hcopied_c y W ⟨hy.f.grew hW, hy.cls, hy.lev, hy.cap⟩ hf)
  have HSz := hid (fun A c W => size_c y.o A c W hf hb)
  obtain ⟨ws, ews⟩ : ∃ ws, ws = Hp.words y.o := ⟨_, rfl⟩
  have hws : ws ≤ 2000 := by rw [ews]; unfold Hp.words; omega
  rw [← ews] at HSz
  have EWS := hid (show ws = Hp.words o by rw [eo]; exact ews)
  unfold CopyV at HCC
  have HB := hid (show B ≤ w.heap.size from Nat.le_trans h.low (Nat.le_of_lt h.blk.lt))
  have HMem := hid h
  have EO := hid eo
  clear ews hy hb
  obtain ⟨⟨cls, lev, f, b⟩, A0, c0⟩ := y
  simp only at hj HCC HSz hf EO ⊢
  subst hj
  obtain ⟨m, em⟩ : ∃ m, m = f.length := ⟨_, rfl⟩
  obtain ⟨cs, ecs⟩ : ∃ cs, cs = f.flatMap valF := ⟨_, rfl⟩
  rw [← em, ← ecs] at HCC
  rw [← em] at HSz hf ⊢
  have EM := hid (show o.f.length = m by rw [eo, em])
  have ECS := hid (show o.f.flatMap valF = cs by rw [eo, ecs])
  have ECL := hid (show o.cls = cls ∧ o.lev = (j : Int) ∧ o.b = b by rw [eo]; exact ⟨rfl, rfl, rfl⟩)
  clear em ecs eo EO
  obtain ⟨sg, esg⟩ : ∃ sg, sg = v.g := ⟨_, rfl⟩
  rw [← esg]
  have ESG := hid esg
  clear h
  have G1 := (Grew.refl w).alloc (.cells #[.int .i64 (i : Int), .int .i64 hh, .int .i64 cls, .int .i64 (j : Int), .slice A0 m c0, .string b] 89)
  have B1 := Blk.new w 89 #[.int .i64 (i : Int), .int .i64 hh, .int .i64 cls, .int .i64 (j : Int), .slice A0 m c0, .string b]
  go_enter Tryz.func38, Tryz.ntmps38
  go_upto_region 1 with fail
  obtain ⟨p, ep⟩ : ∃ p, p = w.heap.size := ⟨_, rfl⟩
  generalize w.alloc (.cells #[.int .i64 (i : Int), .int .i64 hh, .int .i64 cls, .int .i64 (j : Int), .slice A0 m c0, .string b] 89) = w1 at *
  rw [← ep] at B1 ⊢
  have HG1 := hid G1
  have HB1 := hid B1
  have EP := hid ep
  have q2 := B1.cell 2
  have q3 := B1.cell 3
  have q4 := B1.cell 4
  have q5 := B1.cell 5
  have ql := B1.lt
  simp only [List.getElem?_toArray, List.getElem?_cons_zero, List.getElem?_cons_succ] at q2 q3 q4 q5
  have hcall := HCC.out w1 HG1.out
  clear G1 B1 HCC esg ep
  go_upto_region 2 with (go_at_call 33; refine hcall.mono ?_; rintro e w2 ⟨A2, c2, rfl, hr2, hg2⟩; have HR2 := hid hr2; have HB2 := hid (HB1.out.grew hg2); have HG2 := hid (HG1.out.trans hg2); have r2 := HB2.out.cell 2; have r3 := HB2.out.cell 3; have r4 := HB2.out.cell 4; have r5 := HB2.out.cell 5; simp only [List.getElem?_toArray, List.getElem?_cons_zero, List.getElem?_cons_succ] at r2 r3 r4 r5; have rf := HB2.out.frozen; have rl := HB2.out.lt; clear hr2 hg2 q2 q3 q4 q5 ql hcall)
  have HB3 : Hid (Blk ((((w2.setCell ⟨p, 2, none⟩ (.int .i64 cls)).setCell ⟨p, 3, none⟩ (.int .i64 (j : Int))).setCell ⟨p, 4, none⟩ (.slice A2 m c2)).setCell ⟨p, 5, none⟩ (.string b)) p 89 #[.int .i64 (i : Int), .int .i64 hh, .int .i64 cls, .int .i64 (j : Int), .slice A2 m c2, .string b]) := hid (by
    have := (((HB2.out.put 2 (.int .i64 cls)).put 3 (.int .i64 (j : Int))).put 4 (.slice A2 m c2)).put 5 (.string b)
    simpa using this)
  have HK3 : Hid (Kept (fun k => k = p) w2 ((((w2.setCell ⟨p, 2, none⟩ (.int .i64 cls)).setCell ⟨p, 3, none⟩ (.int .i64 (j : Int))).setCell ⟨p, 4, none⟩ (.slice A2 m c2)).setCell ⟨p, 5, none⟩ (.string b))) := hid (((((Kept.refl (fun k => k = p) w2).setCell (p := ⟨p, 2, none⟩) (fun _ => rfl) _).setCell (p := ⟨p, 3, none⟩) (fun _ => rfl) _).setCell (p := ⟨p, 4, none⟩) (fun _ => rfl) _).setCell (p := ⟨p, 5, none⟩) (fun _ => rfl) _)
  generalize (((w2.setCell ⟨p, 2, none⟩ (.int .i64 cls)).setCell ⟨p, 3, none⟩ (.int .i64 (j : Int))).setCell ⟨p, 4, none⟩ (.slice A2 m c2)).setCell ⟨p, 5, none⟩ (.string b) = w3 at *
  have HR3 := hid (HR2.out.kept HK3.out (fun g hA e => by have h1 := Row.at_base HR2.out g ⟨_, hA, rfl⟩; have h2 := HB1.out.lt; omega))
  have HG3 := hid (HK3.out.grew HG2.out (fun k e => by subst e; exact Nat.le_of_eq EP.out.symm))
  have HRL := hid (HG1.out.below.size)
  clear r2 r3 r4 r5 rf rl HB2 HR2 HK3 HG2
  have HS3 := hid (Step.of_grew HMem.out HG3.out)
  have HM26 : Hid (∀ W S cs sl, MemAt W B (setSl v S cs sl) → ∀ W', Grew W W' → W'.cell? ⟨sg, 26, none⟩ = some (.slice S sl.length cs) ∧ sg < W'.heap.size) := hid (fun W S cs sl hW W' hg => by rw [ESG.out]; exact hm_cell hW hg 26 (u := .slice S sl.length cs) rfl)
  go_loopw [] (fun wr => ∃ (S1 : Option Addr) (c1 r : Nat), Hid (Step w B v (setSl v S1 c1 (v.sl ++ List.replicate r none)) wr) ∧ Hid (Blk wr p 89 #[.int .i64 (i : Int), .int .i64 hh, .int .i64 cls, .int .i64 (j : Int), .slice A2 m c2, .string b]) ∧ Hid (Row wr w1.heap.size 41 3 A2 m c2 cs) ∧ Hid ((v.sl ++ List.replicate r none).length ≤ 65536)) (fun wr => 65537 - lnOf sg wr)
  case atStart => exact ⟨v.S, v.cs, 0, by have := HS3; simpa [setSl] using this, HB3, HR3, hid (by simpa using hl)⟩
  case round =>
    obtain ⟨S1, c1, r, HSt, HBp, HRw, HLe⟩ := hrel
    obtain ⟨sl1, es1⟩ : ∃ sl1, sl1 = v.sl ++ List.replicate r none := ⟨_, rfl⟩
    rw [← es1] at HSt HLe
    have ES1 := hid es1
    clear es1
    have q0 := fun (y : After wr) => (HM26.out wr S1 c1 sl1 HSt.out.mem y.w y.grew).1
    have q1 := fun (y : After wr) => (HM26.out wr S1 c1 sl1 HSt.out.mem y.w y.grew).2
    have p0 := fun (y : After wr) => (HBp.out.grew y.grew).cell 0
    have pl := fun (y : After wr) => (HBp.out.grew y.grew).lt
    simp only [List.getElem?_toArray, List.getElem?_cons_zero] at p0
    obtain ⟨n, en⟩ : ∃ n, n = sl1.length := ⟨_, rfl⟩
    simp only [← en] at q0
    have EN := hid en
    have hn2 : (n : Int) ≤ 65536 := by have := HLe.out; rw [en]; omega
    clear en
    by_cases hc : n ≤ i
    · have f1 : (n : Int) ≤ (i : Int) := by omega
      go_upto_region 2 with fail
      refine wp_region_grew_from (w0 := wr) (Grew.refl wr) (by kernel_rfl) (by kernel_rfl) ?_
      repeat (go_big_quiet_step (fail))
      refine wpQuiet_nil ?_
      rintro _ ⟨y, rfl⟩
      clear q0 q1 p0 pl
      have HS4 := hid (HSt.out.grew y.grew)
      have HB4 := hid (HBp.out.grew y.grew)
      have HR4 := hid (HRw.out.grew y.grew)
      have HLn := hid (show lnOf sg wr = n by unfold lnOf; rw [(HM26.out wr S1 c1 sl1 HSt.out.mem wr (Grew.refl _)).1, EN.out])
      obtain ⟨q0, ql⟩ := HM26.out y.w S1 c1 sl1 HS4.out.mem y.w (Grew.refl _)
      rw [← EN.out] at q0
      have HRo := hid (show Row y.w B 84 1 S1 n c1 (sl1.map slotV) by rw [EN.out]; exact HS4.out.mem.row)
      have hBw : B ≤ y.w.heap.size := Nat.le_trans HB.out (Nat.le_trans HS4.out.kept.size (Nat.le_refl _))
      have HBw := hid hBw
      have hn3 : n ≤ 65536 := by omega
      generalize y.w = w4 at *
      clear HSt HBp HRw hBw
      go_wp2_with (at_builtin; refine wpList_pushR (.pointer none) 8 w4 rfl _ _ 93 84 rfl Tryz.underlying93 ptr_info rfl B HBw.out S1 n c1 _ rfl HRo.out _ rfl rfl (.pointer none) rfl (by omega) (by omega) ?_; rintro A8 k8 w8 hR8 hK8 hT8; have HR8 := hid hR8; have HK8 := hid hK8; have HT8 := hid hT8; have HBg := hid (HS4.out.mem.blk.kept hK8 HS4.out.mem.g_row); rw [show (setSl v S1 c1 sl1).g = sg from ESG.out.symm] at HBg; have x0 := HBg.out.cell 26; have xf := HBg.out.frozen 26; have xl := HBg.out.lt; rw [show (hvC (setSl v S1 c1 sl1))[26]? = some (.slice S1 sl1.length c1) from rfl] at x0; clear hR8 hK8 hT8 q0 ql)
      have hA : Step w4 B (setSl v S1 c1 sl1) (setSl v A8 k8 (sl1 ++ [none])) (w8.setCell ⟨v.g, 26, none⟩ (.slice A8 ((sl1.length + 1 : Nat) : Nat) k8)) := HS4.out.mem.app (S' := A8) (cs' := k8) (w1 := w8) (by have h1 := HR8.out; rw [EN.out] at h1; exact h1) HK8.out HT8.out
      rw [← ESG.out, ← EN.out] at hA
      have HS9 := hid (HS4.out.trans hA)
      go_round
      case rel =>
        have e : v.sl ++ List.replicate (r + 1) none = sl1 ++ [none] := by rw [ES1.out, List.replicate_succ', List.append_assoc]
        have hpS : ¬ AtRow S1 p := fun hk => by
          obtain ⟨ds, hd⟩ := HRo.out.blkAt hk
          exact absurd (hd.ty HB4.out).1 (by decide)
        have hpg : p ≠ sg := by have h1 := EP.out; have h2 := HMem.out.blk.lt; have h3 := ESG.out; omega
        refine ⟨A8, k8, r + 1, hid (by rw [e]; exact HS9.out), hid ((HB4.out.kept HK8.out hpS).far (p := ⟨sg, 26, none⟩) hpg _), hid ((HR4.out.kept HK8.out (fun g hA hk => ?_)).kept ((Kept.refl (fun k => k = sg) w8).setCell (p := ⟨sg, 26, none⟩) (fun _ => rfl) _) (fun g hA hk => ?_)), hid (by rw [e, List.length_append, ← EN.out]; simp; omega)⟩
        · obtain ⟨ds, hd⟩ := HRo.out.blkAt hk
          obtain ⟨es, he⟩ := HR4.out.blkAt (k := g) ⟨_, hA, rfl⟩
          exact absurd (hd.ty he).1 (by decide)
        · have h1 := Row.at_base HR4.out g ⟨_, hA, rfl⟩
          have h2 := HMem.out.blk.lt
          have h3 := ESG.out
          have h4 := HRL.out
          omega
      case measure =>
        have h9 := (HM26.out _ A8 k8 (sl1 ++ [none]) HS9.out.mem _ (Grew.refl _)).1
        rw [HLn.out]
        unfold lnOf
        rw [h9]
        simp only [List.length_append, List.length_singleton, ← EN.out]
        omega
    · have f1 : ¬ (n : Int) ≤ (i : Int) := by omega
      go_upto_region 2 with fail
      refine wp_region_grew_from (w0 := wr) (Grew.refl wr) (by kernel_rfl) (by kernel_rfl) ?_
      repeat (go_big_quiet_step (fail))
      refine wpQuiet_nil ?_
      rintro _ ⟨y, rfl⟩
      clear q0 q1 p0 pl
      have HS6 := hid (HSt.out.grew y.grew)
      have HB6 := hid (HBp.out.grew y.grew)
      have HR6 := hid (HRw.out.grew y.grew)
      have HM6 := hid (fun W (hg : Grew y.w W) => HM26.out y.w S1 c1 sl1 HS6.out.mem W hg)
      rw [← EN.out] at HM6
      generalize y.w = w6 at *
      clear HSt HBp HRw HM26
      go_upto_region 4 with fail
      have hil : i < sl1.length := by rw [← EN.out]; omega
      obtain ⟨s, rfl⟩ : ∃ s, S1 = some ⟨s, 0, none⟩ := by
        rcases HS6.out.mem.row.cases with ⟨_, _, _, ⟨_, h2, _⟩ | ⟨g, h1, _⟩⟩
        · have h3 : sl1.length = 0 := h2
          omega
        · exact ⟨g, h1⟩
      have hin : i < n := by omega
      have g1 : (i : Int) < (n : Int) := by omega
      have g2 : (n : Int) ≤ 65536 := hn2
      have hmx : Tryz.prog.follows .mixedOrders = true := by kernel_rfl
      refine wp_region_facts (w0 := w6) w6 7 [25, 26, 27, 28, 29, 30, 31] [] (PlF4 sg p s i n c1) hmx (by kernel_rfl) (Grew.refl _) (fun _ _ _ _ h _ => h) ?_ ?_
      · repeat' (first | exact trivial | apply And.intro)
        all_goals
          intro a w' hgw hs hA
          have t0 := hs.eval 0 (by decide) (v := .pointer (some ⟨sg, 0, none⟩)) rfl
          have t3 := hs.eval 3 (by decide) (v := .pointer (some ⟨p, 0, none⟩)) rfl
          have HGW := hid ((Grew.refl w6).trans hgw)
          clear hs hgw
          simp only [Ahead, Region.binds, slotOf, PlF4, List.getD_cons_succ, List.getD_cons_zero, forall_const, and_true] at hA
          simp only [wantedD, if_true]
          unfold Oper.wp
          have ec : ∀ v, a.eval (.const v) = v := fun _ => rfl
          generalize hfe : a.eval = fe at *
          have ef : ∀ k, fe (.func k) = Act.eval ⟨#[], []⟩ (.func k) := fun k => by rw [← hfe]; rfl
          clear hfe
        · go_simp
          exact Gives.of' rfl (Grew.refl _) rfl
        · go_simp
          exact Gives.of' rfl (Grew.refl _) rfl
        · go_simp
          exact Gives.of' rfl (Grew.refl _) rfl
        · obtain ⟨x0, xl⟩ := HM6.out w' HGW.out
          go_simp
          exact Gives.of' rfl (Grew.refl _) rfl
        · go_simp
          exact Gives.of' rfl (Grew.refl _) rfl
        · have x0 := (HB6.out.grew HGW.out).cell 0
          have xl := (HB6.out.grew HGW.out).lt
          simp only [List.getElem?_toArray, List.getElem?_cons_zero] at x0
          go_simp
          exact Gives.of' rfl (Grew.refl _) rfl
        · go_simp
          exact Gives.of' rfl (Grew.refl _) rfl
      · intro a2 wn hgw hs hf _ _
        have h6 := hf 6 (by decide)
        simp only [slotOf, PlF4, List.getD_cons_succ, List.getD_cons_zero] at h6
        obtain ⟨fn, rfl, hft⟩ := hs.put
        rw [hft] at h6
        have HGN := hid ((Grew.refl w6).trans hgw)
        clear hf hft hs
        simp only [List.drop_succ_cons, List.drop_zero, putAll, List.foldl_cons, List.foldl_nil, Act.put, List.setIfInBounds_toArray, List.set_cons_succ, List.set_cons_zero, h6]
        clear h6
        have HS7 := hid (HS6.out.grew hgw)
        have HB7 := hid (HB6.out.grew hgw)
        have HR7 := hid (HR6.out.grew hgw)
        obtain ⟨x0, xf, xl⟩ : wn.cell? ⟨s, i, none⟩ = some (slotV (sl1.getD i none)) ∧ wn.frozen? ⟨s, i, none⟩ = false ∧ s < wn.heap.size := by
          obtain ⟨s', h1, h2, h3, h4⟩ := slot_at HS7.out.mem (Grew.refl _) (i := i) (y := sl1.getD i none) (by
            show sl1[i]? = _
            rw [List.getD_eq_getElem?_getD, List.getElem?_eq_getElem hil]
            rfl)
          have h5 : (some (⟨s, 0, none⟩ : Addr)) = some ⟨s', 0, none⟩ := h1
          cases h5
          exact ⟨h2, h3, h4⟩
        generalize slotV (sl1.getD i none) = old at *
        clear hgw HS6 HB6 HR6 HM6 HGN
        go_upto_region 5 with fail
        have hsub : ∀ (k : Nat) (z : SX), sl1[k]? = some (some z) → v.sl[k]? = some (some z) := fun k z hz => by
          rw [ES1.out] at hz
          rcases Nat.lt_or_ge k v.sl.length with h1 | h1
          · rwa [List.getElem?_append_left h1] at hz
          · rw [List.getElem?_append_right h1, List.getElem?_replicate] at hz
            split at hz <;> cases hz
        have hA2 : ∀ k, AtRow A2 k → w.heap.size ≤ k := fun k hk => by
          have h1 := Row.at_base HR7.out k hk
          have h2 := HRL.out
          omega
        have HS8 := hid (HS7.out.fill HB.out (i := i) hil (s := s) rfl ⟨p, hh, o, A2, c2⟩ (by
            have h1 := HB7.out
            unfold sxC
            simp only
            rw [ECL.out.1, ECL.out.2.1, ECL.out.2.2, EM.out]
            exact h1) (by
            simp only
            rw [EM.out, ECS.out]
            exact HR7.out.low (Nat.le_trans HB.out HRL.out)) (Nat.le_of_eq EP.out.symm) hA2 (fun k z hz q hq hq2 => by
            have h1 := (at_row_lt (HMem.out.it k z (hsub k z hz)).2.2 q hq2).2
            have h2 := hA2 q hq
            omega) (fun ad e => HMem.out.upLt ad e))
        have HB8 := hid (HB7.out.far (p := ⟨s, i, none⟩) (show p ≠ s by
          intro e
          obtain ⟨ds, hd⟩ := HS7.out.mem.row.blkAt (k := s) ⟨_, rfl, rfl⟩
          rw [← e] at hd
          exact absurd (hd.ty HB7.out).1 (by decide)) (.pointer (some ⟨p, 0, none⟩)))
        clear x0 xf xl HS7 HB7 HR7 hsub hA2
        generalize wn.setCell ⟨s, i, none⟩ (.pointer (some ⟨p, 0, none⟩)) = w8 at *
        obtain ⟨x, ex⟩ : ∃ x : SX, x = ⟨p, hh, o, A2, c2⟩ := ⟨_, rfl⟩
        rw [← ex] at HS8
        have EX := hid ex
        clear ex
        have HS9 : Hid (Step w B v (setSl v (some ⟨s, 0, none⟩) c1 (sl1.set i (some x))) w8) := HS8
        clear HS8
        have HU8 : Hid (∀ W, Grew w8 W → W.cell? ⟨sg, 10 + j, none⟩ = some (.int .i64 (v.us j)) ∧ sg < W.heap.size) := hid (fun W hW => by rw [ESG.out]; exact hm_cell HS9.out.mem hW (10 + j) (hv_us _ j hj8))
        have g3 : (j : Int) < 8 := by omega
        obtain ⟨uj, euj⟩ : ∃ uj, uj = v.us j := ⟨_, rfl⟩
        rw [← euj] at HU8 hus
        have EUJ := hid euj
        clear euj
        obtain ⟨hu1, hu2⟩ := hus
        have hw1 : (ws : Int) ≤ 2000 := by omega
        have hwr := wrap64 (x := uj + (ws : Int)) (by omega) (by omega)
        have hmx : Tryz.prog.follows .mixedOrders = true := by kernel_rfl
        refine wp_region_facts (w0 := w8) w8 15 [32, 33, 34, 35, 36, 37, 38, 39, 40, 41, 42, 43, 44, 45, 46] [] (PlF5 sg p j uj ws cls A2 m c2 b) hmx (by kernel_rfl) (Grew.refl _) (fun _ _ _ _ h _ => h) ?_ ?_
        · repeat' (first | exact trivial | apply And.intro)
          all_goals
            intro a w' hgw hs hA
            have t0 := hs.eval 0 (by decide) (v := .pointer (some ⟨sg, 0, none⟩)) rfl
            have t3 := hs.eval 3 (by decide) (v := .pointer (some ⟨p, 0, none⟩)) rfl
            have HGW := hid ((Grew.refl w8).trans hgw)
            clear hs hgw
            simp only [Ahead, Region.binds, slotOf, PlF5, List.getD_cons_succ, List.getD_cons_zero, forall_const, and_true] at hA
            simp only [wantedD, if_true]
            unfold Oper.wp
            have ec : ∀ v, a.eval (.const v) = v := fun _ => rfl
            generalize hfe : a.eval = fe at *
            have ef : ∀ k, fe (.func k) = Act.eval ⟨#[], []⟩ (.func k) := fun k => by rw [← hfe]; rfl
            clear hfe
          · go_simp
            exact Gives.of' rfl (Grew.refl _) rfl
          · go_simp
            exact Gives.of' rfl (Grew.refl _) rfl
          · go_simp
            exact Gives.of' rfl (Grew.refl _) rfl
          · have x0 := (HB8.out.grew HGW.out).cell 3
            have xl := (HB8.out.grew HGW.out).lt
            simp only [List.getElem?_toArray, List.getElem?_cons_zero, List.getElem?_cons_succ] at x0
            go_simp
            exact Gives.of' rfl (Grew.refl _) rfl
          · go_simp
            exact Gives.of' rfl (Grew.refl _) rfl
          · go_simp
            exact Gives.of' rfl (Grew.refl _) rfl
          · go_simp
            exact Gives.of' rfl (Grew.refl _) rfl
          · obtain ⟨x0, xl⟩ := HU8.out w' HGW.out
            go_simp
            exact Gives.of' rfl (Grew.refl _) rfl
          · go_simp
            exact Gives.of' rfl (Grew.refl _) rfl
          · have x0 := (HB8.out.grew HGW.out).cell 2
            have x1 := (HB8.out.grew HGW.out).cell 3
            have x2 := (HB8.out.grew HGW.out).cell 4
            have x3 := (HB8.out.grew HGW.out).cell 5
            have xl := (HB8.out.grew HGW.out).lt
            simp only [List.getElem?_toArray, List.getElem?_cons_zero, List.getElem?_cons_succ] at x0 x1 x2 x3
            go_simp
            exact Gives.of' rfl (Grew.refl _) rfl
          · go_simp
            refine (HSz.out A2 c2 w').mono ?_
            rintro e wz ⟨rfl, hgz⟩
            exact Gives.of' rfl hgz rfl
          · go_simp
            exact Gives.of' rfl (Grew.refl _) rfl
          · go_simp
            exact Gives.of' rfl (Grew.refl _) rfl
          · go_simp
            exact Gives.of' rfl (Grew.refl _) rfl
          · go_simp
            exact Gives.of' rfl (Grew.refl _) rfl
        · intro a2 wn2 hgw hs hf _ _
          have h11 := hf 11 (by decide)
          have h14 := hf 14 (by decide)
          simp only [slotOf, PlF5, List.getD_cons_succ, List.getD_cons_zero] at h11 h14
          obtain ⟨fn, rfl, hft⟩ := hs.put
          rw [hft] at h11 h14
          have HGN := hid ((Grew.refl w8).trans hgw)
          clear hf hft hs
          simp only [List.drop_succ_cons, List.drop_zero, putAll, List.foldl_cons, List.foldl_nil, Act.put, List.setIfInBounds_toArray, List.set_cons_succ, List.set_cons_zero, h11, h14]
          clear h11 h14
          have HS10 := hid (HS9.out.grew hgw)
          obtain ⟨x0, xl⟩ := HU8.out wn2 hgw
          have xf := HS10.out.mem.blk.frozen (10 + j)
          rw [show (setSl v (some ⟨s, 0, none⟩) c1 (sl1.set i (some x))).g = sg from ESG.out.symm] at xf
          clear hgw HGN HU8 HB8 HS9
          have hz : 0 ≤ uj + (ws : Int) ∧ uj + (ws : Int) ≤ 3000000 := by omega
          go_upto_region 6 with fail
          have HS11 : Hid (Step w B v (setUN (setSl v (some ⟨s, 0, none⟩) c1 (sl1.set i (some x))) (upd v.us j (v.us j + (ws : Nat))) v.n) (wn2.setCell ⟨sg, 10 + j, none⟩ (.int .i64 (uj + (ws : Int))))) := hid (HS10.out.trans (by
            have h1 := MemAt.cell HS10.out.mem (10 + j) (.int .i64 (uj + (ws : Int))) (setUN (setSl v (some ⟨s, 0, none⟩) c1 (sl1.set i (some x))) (upd v.us j (v.us j + (ws : Nat))) v.n) (by rw [set_us _ j hj8, EUJ.out]; rfl) rfl rfl rfl rfl rfl rfl rfl rfl rfl
            rw [show (setSl v (some ⟨s, 0, none⟩) c1 (sl1.set i (some x))).g = sg from ESG.out.symm] at h1
            exact h1))
          clear x0 xf xl HS10
          generalize wn2.setCell ⟨sg, 10 + j, none⟩ (.int .i64 (uj + (ws : Int))) = w11 at *
          obtain ⟨y0, yl⟩ := hm_cell HS11.out.mem (Grew.refl _) 27 (u := .int .i64 v.n) rfl
          have yf := HS11.out.mem.blk.frozen 27
          rw [show (setUN (setSl v (some ⟨s, 0, none⟩) c1 (sl1.set i (some x))) (upd v.us j (v.us j + (ws : Nat))) v.n).g = sg from ESG.out.symm] at y0 yl yf
          obtain ⟨vn, evn⟩ : ∃ vn, vn = v.n := ⟨_, rfl⟩
          rw [← evn] at y0 hn
          obtain ⟨hn1, hn3⟩ := hn
          have EVN := hid evn
          clear evn
          have hwr2 := wrap64 (x := vn + 1) (by omega) (by omega)
          go_wp2_with fail
          refine bodyPost_end (results_none rfl _ _ _) rfl ?_
          refine ⟨rfl, some ⟨s, 0, none⟩, c1, r, x, ?_, ?_, ?_, ?_, ?_⟩
          · rw [EX.out]
          · rw [EX.out]
          · rw [← ES1.out]; exact hil
          · intro _; rw [← ES1.out]; exact HLe.out
          · rw [← ES1.out, ← EWS.out]
            refine HS11.out.trans ?_
            have h1 := MemAt.cell HS11.out.mem 27 (.int .i64 (vn + 1)) (setUN (setSl v (some ⟨s, 0, none⟩) c1 (sl1.set i (some x))) (upd v.us j (v.us j + (ws : Nat))) (v.n + 1)) (by rw [EVN.out]; rfl) rfl rfl rfl rfl rfl rfl rfl rfl rfl
            rw [show (setUN (setSl v (some ⟨s, 0, none⟩) c1 (sl1.set i (some x))) (upd v.us j (v.us j + (ws : Nat))) v.n).g = sg from ESG.out.symm] at h1
            exact h1
end Go.Proofs.YtidnaednldcdfaaGreatDoor
namespace Go.Proofs.YtidnaednldcdfaaGreatDoor
open Go.RowKit

def RmF2 (sg go j : Nat) (uj : Int) (ws : Nat) (cls : Int) (A : Option Addr) (m c : Nat) (b : ByteArray) (k : Nat) (v : Value) (_ : World) : Prop := match k with
  | 0 => v = .pointer (some ⟨sg, 0, none⟩)
  | 1 => v = .pointer (some ⟨go, 1, none⟩)
  | 2 => v = .int .i64 (j : Int)
  | 3 => v = .pointer (some ⟨sg, 0, none⟩)
  | 4 => v = .pointer (some ⟨sg, 10, none⟩)
  | 5 => v = .pointer (some ⟨sg, 10 + j, none⟩)
  | 6 => v = .int .i64 uj
  | 7 => v = .agg #[.int .i64 cls, .int .i64 (j : Int), .slice A m c, .string b]
  | 8 => v = .int .i64 (ws : Int)
  | 9 => v = .int .i64 (uj - (ws : Int))
  | 10 => v = .pointer (some ⟨sg, 0, none⟩)
  | 11 => v = .pointer (some ⟨sg, 10, none⟩)
  | _ => v = .pointer (some ⟨sg, 10 + j, none⟩)
set_option maxRecDepth 100000 in
set_option maxHeartbeats 8000000 in
theorem remove_c (v : HV) (B : Nat) (i : Nat) (x : SX) (j : Nat) (w : World) (h : MemAt w B v) (hl : v.sl.length ≤ 65536) (hx : v.sl[i]? = some (some x)) (hf : x.o.f.length ≤ 300) (hb : x.o.b.size ≤ 2000) (hj : x.o.lev = (j : Int)) (hj8 : j < 8)
    (hus : 0 ≤ v.us j ∧ v.us j ≤ 2000000) (hn : 0 ≤ v.n ∧ v.n ≤ 2000000) :
    Calls Tryz.prog 46 #[.pointer (some ⟨v.g, 0, none⟩), .int .i64 ((i : Nat) : Int)] w fun e w' => e = .returned (.tuple #[]) ∧
      Step w B v (setFr (setUN (setSl v v.S v.cs (v.sl.set i none)) (upd v.us j (v.us j - (Hp.words x.o : Nat))) (v.n - 1)) (min v.fr (i : Int))) w' := by
  have HSz := hid (fun A c W => size_c x.o A c W hf hb)
  have HMem := hid h
  have hil := (List.getElem?_eq_some_iff.1 hx).1
  obtain ⟨s, eS, -⟩ := slot_at h (Grew.refl w) hx
  have ES := hid eS
  have HM26 := hid (fun W (hW : Grew w W) => hm_cell h hW 26 (u := .slice v.S v.sl.length v.cs) rfl)
  have HSl : Hid (∀ W, Grew w W → W.cell? ⟨s, i, none⟩ = some (.pointer (some ⟨x.p, 0, none⟩)) ∧ W.frozen? ⟨s, i, none⟩ = false ∧ s < W.heap.size) := hid (fun W hW => by
    obtain ⟨s', h1, h2, h3, h4⟩ := slot_at h hW hx
    rw [eS] at h1
    cases h1
    exact ⟨h2, h3, h4⟩)
  rw [eS] at HM26
  have HIt := hid (h.it i x hx).2.1
  unfold sxC at HIt
  obtain ⟨ws, ews⟩ : ∃ ws, ws = Hp.words x.o := ⟨_, rfl⟩
  have hws : (ws : Int) ≤ 2000 := by rw [ews]; unfold Hp.words; omega
  rw [← ews] at HSz ⊢
  obtain ⟨sg, esg⟩ : ∃ sg, sg = v.g := ⟨_, rfl⟩
  rw [← esg] at HM26 ⊢
  have ESG := hid esg
  have HIL := hid hil
  obtain ⟨n, en⟩ : ∃ n, n = v.sl.length := ⟨_, rfl⟩
  rw [← en] at HM26 hil
  have g1 : (i : Int) < (n : Int) := by omega
  have g2 : (n : Int) ≤ 65536 := by omega
  have HXP := hid hx
  clear h ews esg en hx eS
  obtain ⟨p, hh, ⟨cls, lev, f, b⟩, A, c⟩ := x
  simp only at hj HSl HIt HSz
  subst hj
  clear hf hb
  generalize f.length = m at *
  have G1 := (Grew.refl w).alloc (.cells #[.int .i64 cls, .int .i64 (j : Int), .slice A m c, .string b] 30)
  have B1 := Blk.new w 30 #[.int .i64 cls, .int .i64 (j : Int), .slice A m c, .string b]
  have x26 := HM26.out w (Grew.refl w)
  obtain ⟨x26, x26l⟩ := x26
  obtain ⟨xs, -, xsl⟩ := HSl.out w (Grew.refl w)
  have q2 := HIt.out.cell 2
  have q3 := HIt.out.cell 3
  have q4 := HIt.out.cell 4
  have q5 := HIt.out.cell 5
  have ql := HIt.out.lt
  simp only [List.getElem?_toArray, List.getElem?_cons_zero, List.getElem?_cons_succ] at q2 q3 q4 q5
  go_enter Tryz.func46, Tryz.ntmps46
  go_upto_region 1 with fail
  obtain ⟨go, ego⟩ : ∃ go, go = w.heap.size := ⟨_, rfl⟩
  generalize w.alloc (.cells #[.int .i64 cls, .int .i64 (j : Int), .slice A m c, .string b] 30) = w1 at *
  rw [← ego] at B1 ⊢
  have HG1 := hid G1
  have HB1 := hid B1
  have EGO := hid ego
  clear x26 x26l xs xsl q2 q3 q4 q5 ql G1 B1 ego HIt
  obtain ⟨x26, x26l⟩ := HM26.out w1 HG1.out
  obtain ⟨xs, xf, xsl⟩ := HSl.out w1 HG1.out
  go_upto_region 2 with fail
  have HS2 : Hid (Step w B v (setSl v v.S v.cs (v.sl.set i none)) (w1.setCell ⟨s, i, none⟩ (.pointer none))) := hid ((Step.of_grew HMem.out HG1.out).trans ((HMem.out.grew HG1.out).drop HIL.out ES.out))
  have HB3 := hid (HB1.out.far (p := ⟨s, i, none⟩) (show go ≠ s by
    intro e
    have h1 := (at_row_lt HMem.out.row s ⟨_, ES.out, rfl⟩).2
    have h2 := EGO.out
    omega) (.pointer none))
  clear x26 x26l xs xf xsl HM26 HSl HB1
  generalize w1.setCell ⟨s, i, none⟩ (.pointer none) = w3 at *
  have HU3 : Hid (∀ W, Grew w3 W → W.cell? ⟨sg, 10 + j, none⟩ = some (.int .i64 (v.us j)) ∧ sg < W.heap.size) := hid (fun W hW => by rw [ESG.out]; exact hm_cell HS2.out.mem hW (10 + j) (hv_us _ j hj8))
  have g3 : (j : Int) < 8 := by omega
  obtain ⟨uj, euj⟩ : ∃ uj, uj = v.us j := ⟨_, rfl⟩
  rw [← euj] at HU3 hus
  have EUJ := hid euj
  clear euj
  obtain ⟨hu1, hu2⟩ := hus
  have hwr := wrap64 (x := uj - (ws : Int)) (by omega) (by omega)
  have hmx : Tryz.prog.follows .mixedOrders = true := by kernel_rfl
  refine wp_region_facts (w0 := w3) w3 13 [21, 22, 23, 24, 25, 26, 27, 28, 29, 30, 31, 32, 33] [] (RmF2 sg go j uj ws cls A m c b) hmx (by kernel_rfl) (Grew.refl _) (fun _ _ _ _ h _ => h) ?_ ?_
  · repeat' (first | exact trivial | apply And.intro)
    all_goals
      intro a w' hgw hs hA
      have t0 := hs.eval 0 (by decide) (v := .pointer (some ⟨sg, 0, none⟩)) rfl
      have t4 := hs.eval 4 (by decide) (v := .pointer (some ⟨go, 0, none⟩)) rfl
      have HGW := hid ((Grew.refl w3).trans hgw)
      clear hs hgw
      simp only [Ahead, Region.binds, slotOf, RmF2, List.getD_cons_succ, List.getD_cons_zero, forall_const, and_true] at hA
      simp only [wantedD, if_true]
      unfold Oper.wp
      have ec : ∀ v, a.eval (.const v) = v := fun _ => rfl
      generalize hfe : a.eval = fe at *
      have ef : ∀ k, fe (.func k) = Act.eval ⟨#[], []⟩ (.func k) := fun k => by rw [← hfe]; rfl
      clear hfe
    · go_simp
      exact Gives.of' rfl (Grew.refl _) rfl
    · go_simp
      exact Gives.of' rfl (Grew.refl _) rfl
    · have x0 := (HB3.out.grew HGW.out).cell 1
      have xl := (HB3.out.grew HGW.out).lt
      simp only [List.getElem?_toArray, List.getElem?_cons_zero, List.getElem?_cons_succ] at x0
      go_simp
      exact Gives.of' rfl (Grew.refl _) rfl
    · go_simp
      exact Gives.of' rfl (Grew.refl _) rfl
    · go_simp
      exact Gives.of' rfl (Grew.refl _) rfl
    · go_simp
      exact Gives.of' rfl (Grew.refl _) rfl
    · obtain ⟨x0, xl⟩ := HU3.out w' HGW.out
      go_simp
      exact Gives.of' rfl (Grew.refl _) rfl
    · have x0 := (HB3.out.grew HGW.out).cell 0
      have x1 := (HB3.out.grew HGW.out).cell 1
      have x2 := (HB3.out.grew HGW.out).cell 2
      have x3 := (HB3.out.grew HGW.out).cell 3
      have xl := (HB3.out.grew HGW.out).lt
      simp only [List.getElem?_toArray, List.getElem?_cons_zero, List.getElem?_cons_succ] at x0 x1 x2 x3
      go_simp
      exact Gives.of' rfl (Grew.refl _) rfl
    · go_simp
      refine (HSz.out A c w').mono ?_
      rintro e wz ⟨rfl, hgz⟩
      exact Gives.of' rfl hgz rfl
    · go_simp
      exact Gives.of' rfl (Grew.refl _) rfl
    · go_simp
      exact Gives.of' rfl (Grew.refl _) rfl
    · go_simp
      exact Gives.of' rfl (Grew.refl _) rfl
    · go_simp
      exact Gives.of' rfl (Grew.refl _) rfl
  · intro a2 wn hgw hs hf _ _
    have h9 := hf 9 (by decide)
    have h12 := hf 12 (by decide)
    simp only [slotOf, RmF2, List.getD_cons_succ, List.getD_cons_zero] at h9 h12
    obtain ⟨fn, rfl, hft⟩ := hs.put
    rw [hft] at h9 h12
    have HGN := hid ((Grew.refl w3).trans hgw)
    clear hf hft hs
    simp only [List.drop_succ_cons, List.drop_zero, putAll, List.foldl_cons, List.foldl_nil, Act.put, List.setIfInBounds_toArray, List.set_cons_succ, List.set_cons_zero, h9, h12]
    clear h9 h12
    have HS3 := hid (HS2.out.grew hgw)
    obtain ⟨x0, xl⟩ := HU3.out wn hgw
    have xf := HS3.out.mem.blk.frozen (10 + j)
    rw [show (setSl v v.S v.cs (v.sl.set i none)).g = sg from ESG.out.symm] at xf
    clear hgw HGN HU3 HB3 HS2
    go_upto_region 3 with fail
    have HS4 : Hid (Step w B v (setUN (setSl v v.S v.cs (v.sl.set i none)) (upd v.us j (v.us j - (ws : Nat))) v.n) (wn.setCell ⟨sg, 10 + j, none⟩ (.int .i64 (uj - (ws : Int))))) := hid (HS3.out.trans (by
      have h1 := MemAt.cell HS3.out.mem (10 + j) (.int .i64 (uj - (ws : Int))) (setUN (setSl v v.S v.cs (v.sl.set i none)) (upd v.us j (v.us j - (ws : Nat))) v.n) (by rw [set_us _ j hj8, EUJ.out]; rfl) rfl rfl rfl rfl rfl rfl rfl rfl rfl
      rw [show (setSl v v.S v.cs (v.sl.set i none)).g = sg from ESG.out.symm] at h1
      exact h1))
    clear x0 xf xl HS3
    generalize wn.setCell ⟨sg, 10 + j, none⟩ (.int .i64 (uj - (ws : Int))) = w4 at *
    obtain ⟨y0, yl⟩ := hm_cell HS4.out.mem (Grew.refl _) 27 (u := .int .i64 v.n) rfl
    have yf := HS4.out.mem.blk.frozen 27
    rw [show (setUN (setSl v v.S v.cs (v.sl.set i none)) (upd v.us j (v.us j - (ws : Nat))) v.n).g = sg from ESG.out.symm] at y0 yl yf
    obtain ⟨vn, evn⟩ : ∃ vn, vn = v.n := ⟨_, rfl⟩
    rw [← evn] at y0 hn
    obtain ⟨hn1, hn3⟩ := hn
    have EVN := hid evn
    clear evn
    have hwr2 := wrap64 (x := vn - 1) (by omega) (by omega)
    go_upto_region 4 with fail
    have HS5 : Hid (Step w B v (setUN (setSl v v.S v.cs (v.sl.set i none)) (upd v.us j (v.us j - (ws : Nat))) (v.n - 1)) (w4.setCell ⟨sg, 27, none⟩ (.int .i64 (vn - 1)))) := hid (HS4.out.trans (by
      have h1 := MemAt.cell HS4.out.mem 27 (.int .i64 (vn - 1)) (setUN (setSl v v.S v.cs (v.sl.set i none)) (upd v.us j (v.us j - (ws : Nat))) (v.n - 1)) (by rw [EVN.out]; rfl) rfl rfl rfl rfl rfl rfl rfl rfl rfl
      rw [show (setUN (setSl v v.S v.cs (v.sl.set i none)) (upd v.us j (v.us j - (ws : Nat))) v.n).g = sg from ESG.out.symm] at h1
      exact h1))
    clear y0 yf yl HS4
    generalize w4.setCell ⟨sg, 27, none⟩ (.int .i64 (vn - 1)) = w5 at *
    obtain ⟨y0, yl⟩ := hm_cell HS5.out.mem (Grew.refl _) 28 (u := .int .i64 v.fr) rfl
    have yf := HS5.out.mem.blk.frozen 28
    rw [show (setUN (setSl v v.S v.cs (v.sl.set i none)) (upd v.us j (v.us j - (ws : Nat))) (v.n - 1)).g = sg from ESG.out.symm] at y0 yl yf
    obtain ⟨fr, efr⟩ : ∃ fr, fr = v.fr := ⟨_, rfl⟩
    rw [← efr] at y0
    have EFR := hid efr
    clear efr
    have hfin : ∀ z : Int, z = min fr (i : Int) → Step w B v (setFr (setUN (setSl v v.S v.cs (v.sl.set i none)) (upd v.us j (v.us j - (ws : Nat))) (v.n - 1)) (min v.fr (i : Int))) (w5.setCell ⟨sg, 28, none⟩ (.int .i64 z)) := fun z hz => HS5.out.trans (by
      have h1 := MemAt.cell HS5.out.mem 28 (.int .i64 z) (setFr (setUN (setSl v v.S v.cs (v.sl.set i none)) (upd v.us j (v.us j - (ws : Nat))) (v.n - 1)) (min v.fr (i : Int))) (by rw [hz, EFR.out]; rfl) rfl rfl rfl rfl rfl rfl rfl rfl rfl
      rw [show (setUN (setSl v v.S v.cs (v.sl.set i none)) (upd v.us j (v.us j - (ws : Nat))) (v.n - 1)).g = sg from ESG.out.symm] at h1
      exact h1)
    have HFin := hid hfin
    clear hfin
    go_wp2_with fail
    all_goals
      refine bodyPost_end (results_none rfl _ _ _) rfl ?_
      exact ⟨rfl, HFin.out _ (by omega)⟩
end Go.Proofs.YtidnaednldcdfaaGreatDoor
namespace Go.Proofs.YtidnaednldcdfaaGreatDoor
open Go.RowKit

/-- What Add answers: an error's number; what it leaves. -/
def Hp.addCode (n : Nat) (L : List Hp.It) (room : Int) (q : Nat → Int) (o : Ob.Obj) : Nat := if Ob.mayB n o = false then 1 else if decide (65536 ≤ L.length) || !Hp.fits L room q o then 12 else 0
def Hp.newIt (L : List Hp.It) (cn : Nat → Int) (o : Ob.Obj) : Hp.It := ⟨(Hp.least L : Nat), cn o.lev.toNat, o⟩
theorem its_rep (l : List (Option SX)) : ∀ r : Nat, its (l ++ List.replicate r none) = its l
  | 0 => by simp
  | r + 1 => by rw [List.replicate_succ', ← List.append_assoc, its_app_none, its_rep l r]
theorem HvOk.mono {v : HV} {C C' : Nat} (h : HvOk v C) (hc : C ≤ C') (hc' : C' ≤ 1099511627776) : HvOk v C' :=
  ⟨h.valid, h.room, h.q, fun j => ⟨(h.cn j).1, by have := (h.cn j).2; omega⟩, h.us, h.n, h.ok, h.hs, h.fit, h.fitAll, h.len, h.fr, hc'⟩
theorem HvOk.small {v : HV} {C : Nat} (h : HvOk v C) : (its v.sl).length ≤ 65536 := Nat.le_trans (its_len _) h.len
theorem HvOk.usB {v : HV} {C : Nat} (h : HvOk v C) (j : Nat) : 0 ≤ v.us j ∧ v.us j ≤ 1048576 := by
  have h1 := h.us j
  have h2 := Hp.used_le (its v.sl) (j : Int)
  have h3 := h.fitAll
  have h4 := h.room
  omega
/-- The slots with one more object are those of the list with it. -/
theorem place_its {v : HV} {i r : Nat} (hi : i < (v.sl ++ List.replicate r none).length) (hno : hasB v.sl (i : Int) = false) (x : SX) : (v.sl ++ List.replicate r none)[i]? = some none ∧ its ((v.sl ++ List.replicate r none).set i (some x)) = Hp.ins (its v.sl) ⟨(i : Int), x.h, x.o⟩ := by
  have hs : (v.sl ++ List.replicate r none)[i]? = some none := by
    rcases Nat.lt_or_ge i v.sl.length with h1 | h1
    · rw [List.getElem?_append_left h1]
      rcases hasB_cases v.sl (i : Int) with h2 | ⟨k, e, h2⟩ | ⟨k, y, e, h2⟩
      · simp [Ob.inB, h1] at h2
      · obtain rfl : i = k := by omega
        exact h2
      · obtain rfl : i = k := by omega
        rw [hasB_at h2] at hno
        cases hno
    · rw [List.getElem?_append_right h1, List.getElem?_replicate, if_pos (by simp at hi; omega)]
  exact ⟨hs, by rw [its_ins hs, its_rep]⟩
theorem place_free {v : HV} {i : Nat} (hno : hasB v.sl (i : Int) = false) : ∀ y ∈ its v.sl, y.i ≠ (i : Int) := by
  intro y hy e
  obtain ⟨k, x, hk, rfl⟩ := mem_its.1 hy
  simp only at e
  obtain rfl : k = i := by omega
  rw [hasB_at hk] at hno
  cases hno
/-- One object more leaves a heap's numbers right. -/
theorem place_ok {v v' : HV} {C : Nat} (hv : HvOk v C) {i r j : Nat} {x : SX} (hi : i < (v.sl ++ List.replicate r none).length) (hno : hasB v.sl (i : Int) = false) (hlen : (v.sl ++ List.replicate r none).length ≤ 65536)
    (hm : Ob.mayB v.up.length x.o = true) (hj : x.o.lev = (j : Int)) (hx : N64 x.h) (hfit : Hp.fits (its v.sl) v.room v.q x.o = true)
    (e1 : v'.up = v.up) (e2 : v'.room = v.room) (e3 : v'.q = v.q) (e4 : ∀ k, 0 ≤ v'.cn k ∧ v'.cn k ≤ C) (e5 : v'.sl = (v.sl ++ List.replicate r none).set i (some x)) (e6 : v'.us = upd v.us j (v.us j + (Hp.words x.o : Nat))) (e7 : v'.n = v.n + 1)
    (e8 : 0 ≤ v'.fr ∧ v'.fr ≤ v.sl.length ∧ ∀ k : Nat, (k : Int) < v'.fr → ∃ x, v.sl[k]? = some (some x)) : HvOk v' C ∧ its v'.sl = Hp.ins (its v.sl) ⟨(i : Int), x.h, x.o⟩ := by
  obtain ⟨h1, h2⟩ := place_its hi hno x
  have h3 : its v'.sl = Hp.ins (its v.sl) ⟨(i : Int), x.h, x.o⟩ := by rw [e5]; exact h2
  have hfr := place_free hno
  have hsum : ∀ p, Hp.sumIf p (its v'.sl) = Hp.sumIf p (its v.sl) + if p ⟨(i : Int), x.h, x.o⟩ then Hp.words x.o else 0 := fun p => by rw [h3, Hp.sum_ins _ _ _ hfr]
  have hus : ∀ k : Nat, Hp.used (its v'.sl) (k : Int) = Hp.used (its v.sl) (k : Int) + if j = k then Hp.words x.o else 0 := fun k => by
    unfold Hp.used
    rw [hsum]
    by_cases hk : j = k
    · rw [if_pos hk, if_pos (by simp [Hp.lvl, hj, hk])]
    · rw [if_neg hk, if_neg (by simp [Hp.lvl, hj]; omega)]
  have hall : Hp.all (its v'.sl) = Hp.all (its v.sl) + Hp.words x.o := by
    unfold Hp.all
    rw [hsum]
    simp
  have hf2 := hfit
  simp only [Hp.fits, Bool.and_eq_true, decide_eq_true_eq, hj, Int.toNat_natCast] at hf2
  refine ⟨⟨by rw [e1]; exact hv.valid, by rw [e2]; exact hv.room, by rw [e3]; exact hv.q, e4, fun k => ?_, ?_, fun y hy => ?_, fun y hy => ?_, fun k hk => ?_, ?_, ?_, ⟨e8.1, ?_, fun k hk => ?_⟩, hv.C⟩, h3⟩
  · rw [e6, hus k]
    have := hv.us k
    unfold upd
    by_cases hk : j = k
    · subst hk
      rw [if_pos rfl, if_pos rfl]
      omega
    · rw [if_neg (by omega), if_neg hk]
      omega
  · rw [e7, h3, Hp.len_ins _ _ hfr, hv.n]
    omega
  · rw [h3, Hp.mem_ins _ _ _ hfr] at hy
    rw [e1]
    rcases hy with rfl | hy
    · exact hm
    · exact hv.ok y hy
  · rw [h3, Hp.mem_ins _ _ _ hfr] at hy
    rcases hy with rfl | hy
    · exact hx
    · exact hv.hs y hy
  · rw [e3, hus k]
    rw [e1] at hk
    have := hv.fit k hk
    by_cases hkj : j = k
    · subst hkj
      rw [if_pos rfl]
      exact hf2.2
    · rw [if_neg hkj]
      omega
  · rw [e2, hall]
    omega
  · rw [e5, List.length_set]
    exact hlen
  · rw [e5, List.length_set, List.length_append]
    have := e8.2.1
    omega
  · obtain ⟨z, hz⟩ := e8.2.2 k hk
    have hk2 := (List.getElem?_eq_some_iff.1 hz).1
    rw [e5]
    by_cases hik : i = k
    · subst hik
      exact ⟨x, by rw [List.getElem?_set, if_pos rfl, if_pos hi]⟩
    · exact ⟨z, by rw [List.getElem?_set, if_neg hik, List.getElem?_append_left hk2]; exact hz⟩
/-- What Add leaves. -/
def AddV (w : World) (B : Nat) (v : HV) (C : Nat) (o : Ob.Obj) (e : Ending) (w' : World) : Prop :=
  ∃ v', e = .returned (.tuple #[.int .i64 (if Hp.addCode v.up.length (its v.sl) v.room v.q o = 0 then (Hp.least (its v.sl) : Nat) else 0 : Int), errVal (Hp.addCode v.up.length (its v.sl) v.room v.q o)]) ∧ Step w B v v' w' ∧ HvOk v' (C + 1) ∧
    its v'.sl = (if Hp.addCode v.up.length (its v.sl) v.room v.q o = 0 then Hp.ins (its v.sl) (Hp.newIt (its v.sl) v.cn o) else its v.sl) ∧ v'.cn = (if Hp.addCode v.up.length (its v.sl) v.room v.q o = 0 then upd v.cn o.lev.toNat (v.cn o.lev.toNat + 1) else v.cn)
theorem addV_bad {w w' : World} {B : Nat} {v : HV} {C : Nat} {o : Ob.Obj} (h : MemAt w B v) (hv : HvOk v C) (hC : C < 1099511627776) (hg : Grew w w') (k : Nat) (hk : k ≠ 0) (he : Hp.addCode v.up.length (its v.sl) v.room v.q o = k) : AddV w B v C o (.returned (.tuple #[.int .i64 0, errVal k])) w' := by
  unfold AddV
  rw [he, if_neg hk, if_neg hk, if_neg hk]
  exact ⟨v, rfl, Step.of_grew h hg, hv.mono (by omega) (by omega), rfl, rfl⟩
end Go.Proofs.YtidnaednldcdfaaGreatDoor
namespace Go.Proofs.YtidnaednldcdfaaGreatDoor
open Go.RowKit

/-- Only the operation 'q' changes the blocks 'F'. -/
def GRo (q : Nat) (F : Nat → Prop) (j : Nat) : World → World → Prop := if j = q then Kept F else Kept (fun _ => False)
theorem GRo.zero {q : Nat} {F : Nat → Prop} (j : Nat) (w w' : World) (h : GRo q F j w w') : Kept F w w' := by
  unfold GRo at h
  split at h
  · exact h
  · exact h.mono (fun _ _ h => h.elim)
theorem GRo.refl {q : Nat} {F : Nat → Prop} (j : Nat) (w : World) : GRo q F j w w := by
  unfold GRo
  split <;> exact Kept.refl _ _
theorem GRo.grew {q : Nat} {F : Nat → Prop} {j : Nat} {w w' : World} (h : Grew w w') : GRo q F j w w' := by
  unfold GRo
  split <;> exact Kept.of_grew h
theorem GRo.at {q : Nat} {F : Nat → Prop} {w w' : World} (h : Kept F w w') : GRo q F q w w' := by
  unfold GRo
  rw [if_pos rfl]
  exact h
theorem GRo.off {q : Nat} {F : Nat → Prop} {j : Nat} {w w' : World} (h : GRo q F j w w') (hj : j ≠ q) : Grew w w' := by
  unfold GRo at h
  rw [if_neg hj] at h
  exact h.grew (Grew.refl _) (fun _ h => h.elim)
theorem PlaceIn.kept {w w' : World} {B : Nat} {v : HV} {i : Nat} {hh : Int} {o : Ob.Obj} {j : Nat} (h : PlaceIn w B v i hh o j w') : Kept (HOwns v) w w' := by
  obtain ⟨_, _, _, _, _, _, _, _, h⟩ := h
  exact h.kept
theorem PlaceIn.from {w0 w w' : World} {B : Nat} {v : HV} {i : Nat} {hh : Int} {o : Ob.Obj} {j : Nat} (h : PlaceIn w B v i hh o j w') (hg : MemAt w0 B v ∧ Grew w0 w) : PlaceIn w0 B v i hh o j w' := by
  obtain ⟨S', cs', r, x, h1, h2, h3, h4, h5⟩ := h
  exact ⟨S', cs', r, x, h1, h2, h3, h4, (Step.of_grew hg.1 hg.2).trans h5⟩
theorem PlaceIn.grew {w w1 w' : World} {B : Nat} {v : HV} {i : Nat} {hh : Int} {o : Ob.Obj} {j : Nat} (h : PlaceIn w B v i hh o j w1) (hg : Grew w1 w') : PlaceIn w B v i hh o j w' := by
  obtain ⟨S', cs', r, x, h1, h2, h3, h4, h5⟩ := h
  exact ⟨S', cs', r, x, h1, h2, h3, h4, h5.grew hg⟩
/-- What holds in the region of the call of 'place'. -/
def AdJ (w0 : World) (B : Nat) (v1 : HV) (sg gx j : Nat) (cj cls : Int) (A0 : Option Addr) (m c0 : Nat) (bt : ByteArray) (f : Nat → Bool) (w : World) : Prop :=
  (w.cell? ⟨sg, 18 + j, none⟩ = some (.int .i64 cj) ∧ sg < w.heap.size) ∧ Blk w gx 30 #[.int .i64 cls, .int .i64 (j : Int), .slice A0 m c0, .string bt] ∧ (f 10 = false → MemAt w B v1 ∧ (MemAt w0 B v1 ∧ Grew w0 w))
theorem AdJ.grew {w0 w w' : World} {B : Nat} {v1 : HV} {sg gx j : Nat} {cj cls : Int} {A0 : Option Addr} {m c0 : Nat} {bt : ByteArray} {f : Nat → Bool} (h : AdJ w0 B v1 sg gx j cj cls A0 m c0 bt f w) (hg : Grew w w') : AdJ w0 B v1 sg gx j cj cls A0 m c0 bt f w' :=
  ⟨⟨(hg.below.cell (p := ⟨sg, 18 + j, none⟩) h.1.2).trans h.1.1, Nat.lt_of_lt_of_le h.1.2 hg.below.size⟩, h.2.1.grew hg, fun hf => ⟨(h.2.2 hf).1.grew hg, (h.2.2 hf).2.1, (h.2.2 hf).2.2.trans hg⟩⟩
theorem AdJ.pure {w0 w : World} {B : Nat} {v1 : HV} {sg gx j : Nat} {cj cls : Int} {A0 : Option Addr} {m c0 : Nat} {bt : ByteArray} {f : Nat → Bool} (h : AdJ w0 B v1 sg gx j cj cls A0 m c0 bt f w) (k : Nat) (hk : 10 ≠ k) : AdJ w0 B v1 sg gx j cj cls A0 m c0 bt (updF f k) w :=
  ⟨h.1, h.2.1, fun hf => h.2.2 (by unfold updF at hf; rw [if_neg hk] at hf; exact hf)⟩
theorem AdJ.place {w0 w w' : World} {B : Nat} {v1 : HV} {sg gx j l : Nat} {cj cls : Int} {A0 : Option Addr} {m c0 : Nat} {bt : ByteArray} {f : Nat → Bool} {o : Ob.Obj} (h : AdJ w0 B v1 sg gx j cj cls A0 m c0 bt f w) (hp : PlaceIn w B v1 l cj o j w') (hgx : sg = v1.g ∧ v1.cn j = cj ∧ j < 8 ∧ ¬ HOwns v1 gx) : AdJ w0 B v1 sg gx j cj cls A0 m c0 bt (updF f 10) w' := by
  obtain ⟨S', cs', r, x, h1, h2, h3, h4, h5⟩ := hp
  refine ⟨?_, h.2.1.kept h5.kept hgx.2.2.2, fun hf => ?_⟩
  · have h6 := hm_cell h5.mem (Grew.refl _) (18 + j) (hv_cn _ j hgx.2.2.1)
    rw [← hgx.2.1, hgx.1]
    exact h6
  · unfold updF at hf
    rw [if_pos rfl] at hf
    cases hf
def AdF7 (w0 : World) (B : Nat) (v1 : HV) (o : Ob.Obj) (sg j l : Nat) (cj : Int) (cls : Int) (A0 : Option Addr) (m c0 : Nat) (bt : ByteArray) (k : Nat) (v : Value) (w : World) : Prop := match k with
  | 0 => v = .pointer (some ⟨sg, 0, none⟩)
  | 1 => v = .int .i64 (l : Int)
  | 2 => v = .pointer (some ⟨sg, 0, none⟩)
  | 3 => v = .int .i64 (j : Int)
  | 4 => v = .pointer (some ⟨sg, 0, none⟩)
  | 5 => v = .pointer (some ⟨sg, 18, none⟩)
  | 6 => v = .pointer (some ⟨sg, 18 + j, none⟩)
  | 7 => v = .int .i64 cj
  | 8 => v = .agg #[.int .i64 cls, .int .i64 (j : Int), .slice A0 m c0, .string bt]
  | 9 => v = .agg #[.int .i64 (l : Int), .int .i64 cj, .int .i64 cls, .int .i64 (j : Int), .slice A0 m c0, .string bt]
  | 10 => PlaceIn w0 B v1 l cj o j w
  | _ => True
def AdF8 (sg j : Nat) (cj : Int) (k : Nat) (v : Value) (_ : World) : Prop := match k with
  | 0 => v = .pointer (some ⟨sg, 0, none⟩)
  | 1 => v = .int .i64 (j : Int)
  | 2 => v = .pointer (some ⟨sg, 0, none⟩)
  | 3 => v = .pointer (some ⟨sg, 18, none⟩)
  | 4 => v = .pointer (some ⟨sg, 18 + j, none⟩)
  | 5 => v = .int .i64 cj
  | 6 => v = .int .i64 (cj + 1)
  | 7 => v = .pointer (some ⟨sg, 0, none⟩)
  | 8 => v = .pointer (some ⟨sg, 18, none⟩)
  | _ => v = .pointer (some ⟨sg, 18 + j, none⟩)
theorem AdF7.stable {w0 : World} {B : Nat} {v1 : HV} {o : Ob.Obj} {sg j l : Nat} {cj cls : Int} {A0 : Option Addr} {m c0 : Nat} {bt : ByteArray} (a b : Nat) (v : Value) (w w' : World) (hab : a ≠ b) (h : AdF7 w0 B v1 o sg j l cj cls A0 m c0 bt a v w) (hr : GRo 10 (HOwns v1) b w w') : AdF7 w0 B v1 o sg j l cj cls A0 m c0 bt a v w' := by
  by_cases hb : b = 10
  · unfold AdF7 at h ⊢
    split at h <;> first | exact h | exact absurd hb.symm hab
  · have hg := hr.off hb
    unfold AdF7 at h ⊢
    split at h <;> first | exact h | exact h.grew hg
theorem fr_ok {v : HV} {C l : Nat} (hv : HvOk v C) (hf : Full v.sl l) : HvOk (setFr v (l : Int)) C :=
  ⟨hv.valid, hv.room, hv.q, hv.cn, hv.us, hv.n, hv.ok, hv.hs, hv.fit, hv.fitAll, hv.len, ⟨by show (0 : Int) ≤ (l : Int); omega, by have := hf.le; show (l : Int) ≤ (v.sl.length : Int); omega, fun k hk => hf k (by have h1 : (k : Int) < (l : Int) := hk; omega)⟩, hv.C⟩
def setCn (v : HV) (cn : Nat → Int) : HV := { v with cn := cn }
set_option maxRecDepth 100000 in
set_option maxHeartbeats 8000000 in
theorem hAdd_c (v : HV) (B C : Nat) (y : OV) (w : World) (h : MemAt w B v) (hv : HvOk v C) (hC : C < 1099511627776) (hy : OvOk w y) (hyA : 0 < y.o.f.length → ∀ ad, y.A = some ad → ¬ HOwns v ad.block) :
    Calls Tryz.prog 7 #[.pointer (some ⟨v.g, 0, none⟩), .int .i64 y.o.cls, .int .i64 y.o.lev, .slice y.A y.o.f.length y.c, .string y.o.b] w (AddV w B v C y.o) := by
  obtain ⟨o, eo⟩ : ∃ o, o = y.o := ⟨_, rfl⟩
  rw [show AddV w B v C y.o = AddV w B v C o by rw [eo]]
  have HMem := hid h
  have HV1 := hid hv
  have HLv := hid (fun W (hW : Grew w W) => hLevels_c v B W (h.grew hW))
  have HMy := hid (fun W (hW : Grew w W) => may_c v.up.length y W (hy.grew hW))
  have HRm := hid (fun W (hW : Grew w W) (hm : Ob.mayB v.up.length y.o = true) => hasRoom_c v B C y.o y.A y.c W (h.grew hW) hv hm)
  have HLf := hid (fun W (hW : Grew w W) => leastFree_c v B C W (h.grew hW) hv)
  have HN := hid (fun W (hW : Grew w W) => hm_cell h hW 27 (u := .int .i64 v.n) rfl)
  have HPl := hid (fun (v1 : HV) (i : Nat) (hh : Int) (j : Nat) W (h1 : MemAt W B v1) (h2 : v1.sl.length ≤ 65536) (h3 : i < 65536) (h4 : OvOk W y) (h5 : y.o.f.length ≤ 300) (h6 : y.o.b.size ≤ 2000) (h7 : y.o.lev = (j : Int)) (h8 : j < 8) h9 h10 => place_c v1 B i hh y o eo j W h1 h2 h3 h4 h5 h6 h7 h8 h9 h10)
  have HBad := hid (fun W (hW : Grew w W) k hk he => addV_bad (o := o) h hv hC hW k hk he)
  have HCC := hid hC
  have hnn := hv.n
  have hsm := hv.small
  have HYk := hid (fun (v1 : HV) (W : World) (hs : Step w B v v1 W) => hy.kept hs.kept (fun hl ad e => hyA hl ad e))
  cases hm : Ob.mayB v.up.length y.o
  · have HE := hid (show Hp.addCode v.up.length (its v.sl) v.room v.q o = 1 by unfold Hp.addCode; rw [eo, hm, if_pos rfl])
    rw [hm] at HMy
    obtain ⟨⟨cls, lev, f, bt⟩, A0, c0⟩ := y
    simp only at HMy ⊢
    clear h hv hy hyA hm HRm HLf HN HPl hnn hsm HYk eo
    generalize v.g = sg at *
    generalize f.length = m at *
    have G1 := (Grew.refl w).alloc (.cells #[.int .i64 cls, .int .i64 lev, .slice A0 m c0, .string bt] 30)
    have B1 := Blk.new w 30 #[.int .i64 cls, .int .i64 lev, .slice A0 m c0, .string bt]
    go_enter Tryz.func7, Tryz.ntmps7
    go_upto_region 2 with fail
    generalize w.alloc (.cells #[.int .i64 cls, .int .i64 lev, .slice A0 m c0, .string bt] 30) = w1 at *
    generalize w.heap.size = gx at *
    have HG1 := hid G1
    have HB1 := hid B1
    clear G1 B1
    have q0 := fun (y : After w1) => (HB1.out.grew y.grew).cell 0
    have q1 := fun (y : After w1) => (HB1.out.grew y.grew).cell 1
    have q2 := fun (y : After w1) => (HB1.out.grew y.grew).cell 2
    have q3 := fun (y : After w1) => (HB1.out.grew y.grew).cell 3
    have ql := fun (y : After w1) => (HB1.out.grew y.grew).lt
    simp only [List.getElem?_toArray, List.getElem?_cons_zero, List.getElem?_cons_succ] at q0 q1 q2 q3
    refine wp_region_grew_from (w0 := w1) (Grew.refl w1) (by kernel_rfl) (by kernel_rfl) ?_
    repeat (go_big_quiet_step (first | (go_at_call 35; exact Calls.grew (After.grew _) (HLv.out _ (HG1.out.trans (After.grew _)))) | (go_at_call 34; exact Calls.grew (After.grew _) (HMy.out _ (HG1.out.trans (After.grew _))))))
    refine wpQuiet_nil ?_
    rintro _ ⟨z, rfl⟩
    clear q0 q1 q2 q3 ql
    go_wp2_with fail
    go_ret2
    exact HBad.out _ (HG1.out.trans z.grew) 1 (by decide) HE.out
  · have hh := hp_head hm
    have hl := hv.lens
    have HF3 := hid (show y.o.f.length ≤ 300 by omega)
    have HB3 := hid (show y.o.b.size ≤ 2000 by omega)
    have HRm2 := hid (fun W (hW : Grew w W) => HRm.out W hW hm)
    have HM2 := hid (show Ob.mayB v.up.length o = true by rw [eo]; exact hm)
    have HE := hid (show Hp.addCode v.up.length (its v.sl) v.room v.q o = if decide (65536 ≤ (its v.sl).length) || !Hp.fits (its v.sl) v.room v.q o then 12 else 0 by unfold Hp.addCode; rw [HM2.out, if_neg (by decide)])
    rw [hm] at HMy
    obtain ⟨j, ej⟩ : ∃ j : Nat, y.o.lev = (j : Int) := ⟨y.o.lev.toNat, by omega⟩
    have hj8 : j < 8 := by omega
    have HJ := hid (show o.lev = (j : Int) by rw [eo]; exact ej)
    rw [← eo] at HRm2
    have EO := hid eo
    clear eo hm hh hl HRm
    obtain ⟨⟨cls, lev, f, bt⟩, A0, c0⟩ := y
    simp only at ej HMy HRm2 HF3 HB3 HPl HYk EO ⊢
    have EO2 := hid (show o.cls = cls ∧ o.lev = (j : Int) ∧ o.f = f ∧ o.b = bt by rw [EO.out]; exact ⟨rfl, ej, rfl, rfl⟩)
    subst ej
    clear h hv hy hyA
    rw [EO2.out.1, EO2.out.2.1, EO2.out.2.2.1, EO2.out.2.2.2] at HRm2
    obtain ⟨bf, ebf⟩ : ∃ bf, bf = Hp.fits (its v.sl) v.room v.q o := ⟨_, rfl⟩
    rw [← ebf] at HRm2 HE
    have EBF := hid ebf
    obtain ⟨sg, esg⟩ : ∃ sg, sg = v.g := ⟨_, rfl⟩
    rw [← esg] at HLv HRm2 HLf HN ⊢
    have ESG := hid esg
    obtain ⟨ll, ell⟩ : ∃ ll, ll = (its v.sl).length := ⟨_, rfl⟩
    rw [← ell] at HE hnn hsm
    rw [hnn] at HN
    have ELL := hid ell
    obtain ⟨m, em⟩ : ∃ m, m = f.length := ⟨_, rfl⟩
    rw [← em] at HMy HRm2 HF3 HPl ⊢
    clear ebf esg ell em EO
    have G1 := (Grew.refl w).alloc (.cells #[.int .i64 cls, .int .i64 (j : Int), .slice A0 m c0, .string bt] 30)
    have B1 := Blk.new w 30 #[.int .i64 cls, .int .i64 (j : Int), .slice A0 m c0, .string bt]
    go_enter Tryz.func7, Tryz.ntmps7
    go_upto_region 2 with fail
    obtain ⟨gx, egx⟩ : ∃ gx, gx = w.heap.size := ⟨_, rfl⟩
    generalize w.alloc (.cells #[.int .i64 cls, .int .i64 (j : Int), .slice A0 m c0, .string bt] 30) = w1 at *
    rw [← egx] at B1 ⊢
    have EGX := hid egx
    have HG1 := hid G1
    have HB1 := hid B1
    clear G1 B1 egx
    have q0 := fun (y : After w1) => (HB1.out.grew y.grew).cell 0
    have q1 := fun (y : After w1) => (HB1.out.grew y.grew).cell 1
    have q2 := fun (y : After w1) => (HB1.out.grew y.grew).cell 2
    have q3 := fun (y : After w1) => (HB1.out.grew y.grew).cell 3
    have ql := fun (y : After w1) => (HB1.out.grew y.grew).lt
    simp only [List.getElem?_toArray, List.getElem?_cons_zero, List.getElem?_cons_succ] at q0 q1 q2 q3
    refine wp_region_grew_from (w0 := w1) (Grew.refl w1) (by kernel_rfl) (by kernel_rfl) ?_
    repeat (go_big_quiet_step (first | (go_at_call 35; exact Calls.grew (After.grew _) (HLv.out _ (HG1.out.trans (After.grew _)))) | (go_at_call 34; exact Calls.grew (After.grew _) (HMy.out _ (HG1.out.trans (After.grew _))))))
    refine wpQuiet_nil ?_
    rintro _ ⟨z, rfl⟩
    have HG2 := hid (HG1.out.trans z.grew)
    have HB2 := hid (HB1.out.grew z.grew)
    clear q0 q1 q2 q3 ql HLv HMy HB1
    generalize z.w = w2 at *
    obtain ⟨n0, nl⟩ := HN.out w2 HG2.out
    have q0 := HB2.out.cell 0
    have q1 := HB2.out.cell 1
    have q2 := HB2.out.cell 2
    have q3 := HB2.out.cell 3
    have ql := HB2.out.lt
    simp only [List.getElem?_toArray, List.getElem?_cons_zero, List.getElem?_cons_succ] at q0 q1 q2 q3
    by_cases hfull : 65536 ≤ ll
    · have g1 : (65536 : Int) ≤ (ll : Int) := by omega
      have HE12 := hid (show Hp.addCode v.up.length (its v.sl) v.room v.q o = 12 by rw [HE.out, decide_eq_true hfull, Bool.true_or, if_pos rfl])
      clear HE
      go_wp2_with fail
      go_ret2
      exact HBad.out _ HG2.out 12 (by decide) HE12.out
    · have g1 : ¬ (65536 : Int) ≤ (ll : Int) := by omega
      rw [decide_eq_false hfull, Bool.false_or] at HE
      have hcall := HRm2.out w2 HG2.out
      cases bf
      · have HE12 := hid (show Hp.addCode v.up.length (its v.sl) v.room v.q o = 12 by rw [HE.out]; rfl)
        clear HE
        go_wp2_with (go_at_call 36; refine hcall.mono ?_; rintro e w3 ⟨rfl, hg3⟩)
        go_ret2
        exact HBad.out _ (HG2.out.trans hg3) 12 (by decide) HE12.out
      · have HE0 := hid (show Hp.addCode v.up.length (its v.sl) v.room v.q o = 0 by rw [HE.out]; rfl)
        clear HE
        go_upto_region 6 with (go_at_call 36; refine hcall.mono ?_; rintro e w3 ⟨rfl, hg3⟩)
        have HG3 := hid (HG2.out.trans hg3)
        have HB4 := hid (HB2.out.grew hg3)
        clear n0 nl q0 q1 q2 q3 ql hcall hg3 HG2 HB2 HRm2
        have hcall := HLf.out w3 HG3.out
        go_upto_region 7 with (go_at_call 37; refine hcall.mono ?_; rintro e w4 ⟨rfl, hs4, hfu, hno⟩)
        have HS4 := hid ((Step.of_grew HMem.out HG3.out).trans hs4)
        have HB5 := hid (HB4.out.kept hs4.kept (fun ho => by have h1 := (HMem.out.owns ho).2; have h2 := EGX.out; omega))
        have HFu := hid hfu
        have HNo := hid hno
        obtain ⟨l, el⟩ : ∃ l, l = Hp.least (its v.sl) := ⟨_, rfl⟩
        rw [← el] at HS4 HFu HNo ⊢
        have EL := hid el
        clear hcall hs4 hfu hno HB4 el HLf
        have hll : l ≤ 65535 := by
          have h1 := Hp.least_le (its_sorted v.sl) (fun x hx => (its_nonneg x hx).1)
          rw [← EL.out, ← ELL.out] at h1
          omega
        obtain ⟨cj, ecj⟩ : ∃ cj, cj = v.cn j := ⟨_, rfl⟩
        have hcj : 0 ≤ cj ∧ cj ≤ 1099511627776 := by
          have h1 := HV1.out.cn j
          have h2 := HCC.out
          rw [ecj]
          omega
        have ECJ := hid ecj
        have HC4 : Hid (∀ W, Grew w4 W → W.cell? ⟨sg, 18 + j, none⟩ = some (.int .i64 cj) ∧ sg < W.heap.size) := hid (fun W hW => by rw [ESG.out, ECJ.out]; exact hm_cell HS4.out.mem hW (18 + j) (hv_cn _ j hj8))
        clear ecj
        have g3 : (j : Int) < 8 := by omega
        obtain ⟨v1, ev1⟩ : ∃ v1, v1 = setFr v (l : Int) := ⟨_, rfl⟩
        rw [← ev1] at HS4
        have EV1 := hid ev1
        have HPl2 : Hid (∀ W, MemAt W B v1 → (MemAt w4 B v1 ∧ Grew w4 W) → Calls Tryz.prog 38 #[.pointer (some ⟨sg, 0, none⟩), .agg #[.int .i64 (l : Int), .int .i64 cj, .int .i64 cls, .int .i64 (j : Int), .slice A0 m c0, .string bt]] W fun e w' => e = .returned (.tuple #[]) ∧ PlaceIn W B v1 l cj o j w') := hid (fun W h1 h2 => by
          have h3 := HPl.out v1 l cj j W h1 (by rw [EV1.out]; exact HV1.out.len) (by omega) (HYk.out v1 W (HS4.out.grew h2.2)) HF3.out HB3.out rfl hj8 (by rw [EV1.out]; have := HV1.out.usB j; exact ⟨this.1, by have := this.2; show v.us j ≤ 2000000; omega⟩) (by rw [EV1.out]; have h5 := HV1.out.n; have h6 := HV1.out.small; exact ⟨by show 0 ≤ v.n; omega, by show v.n ≤ 2000000; omega⟩)
          rw [show v1.g = sg by rw [EV1.out, ESG.out]; rfl] at h3
          exact h3)
        have HGX : Hid (sg = v1.g ∧ v1.cn j = cj ∧ j < 8 ∧ ¬ HOwns v1 gx) := hid ⟨by rw [EV1.out, ESG.out]; rfl, by rw [EV1.out, ECJ.out]; rfl, hj8, fun ho => by
          have h1 : HOwns v gx := by rw [EV1.out] at ho; exact ho
          have h2 := (HMem.out.owns h1).2
          have h3 := EGX.out
          omega⟩
        have HJ0 := hid (show AdJ w4 B v1 sg gx j cj cls A0 m c0 bt (fun _ => false) w4 from ⟨HC4.out w4 (Grew.refl _), HB5.out, fun _ => ⟨HS4.out.mem, HS4.out.mem, Grew.refl _⟩⟩)
        clear ev1 HPl HYk HC4 HB5 HN
        refine wp_region_facts4 (w0 := w4) w4 11 11 [43, 44, 45, 46, 47, 48, 49, 50, 51, 52, 53] [] (AdF7 w4 B v1 o sg j l cj cls A0 m c0 bt) (Kept (HOwns v1)) (GRo 10 (HOwns v1)) (AdJ w4 B v1 sg gx j cj cls A0 m c0 bt) (May.kept _) GRo.zero GRo.refl (by kernel_rfl) (by kernel_rfl) (Kept.refl _ _).drew (HJ0.out.grew (Grew.refl _).drew) (fun a b v w w' _ _ hab _ h hr => AdF7.stable a b v w w' hab h hr) ?_ ?_
        · repeat' (first | exact trivial | apply And.intro)
          all_goals
            intro a w' fl hgw hJ hfi hdep hs hA
            have t0 := hs.eval 0 (by decide) (v := .pointer (some ⟨sg, 0, none⟩)) rfl
            have t2 := hs.eval 2 (by decide) (v := .int .i64 (j : Int)) rfl
            have t12 := hs.eval 12 (by decide) (v := .pointer (some ⟨gx, 0, none⟩)) rfl
            have t13 := hs.eval 13 (by decide) (v := .int .i64 (l : Int)) rfl
            have HJ1 := hid hJ
            have HFi := hid hfi
            have HGW := hid hgw
            clear hs hgw hJ hfi hdep
            simp only [Ahead, Region.binds, slotOf, AdF7, List.getD_cons_succ, List.getD_cons_zero, forall_const, and_true] at hA
            simp only [wantedD, if_true]
            unfold Oper.wp
            have ec : ∀ v, a.eval (.const v) = v := fun _ => rfl
            generalize hfe : a.eval = fe at *
            have ef : ∀ k, fe (.func k) = Act.eval ⟨#[], []⟩ (.func k) := fun k => by rw [← hfe]; rfl
            clear hfe
          · go_simp
            exact Gives3.of rfl (GRo.refl 0 _) rfl (HJ1.out.pure 0 (by decide))
          · go_simp
            exact Gives3.of rfl (GRo.refl 1 _) rfl (HJ1.out.pure 1 (by decide))
          · go_simp
            exact Gives3.of rfl (GRo.refl 2 _) rfl (HJ1.out.pure 2 (by decide))
          · go_simp
            exact Gives3.of rfl (GRo.refl 3 _) rfl (HJ1.out.pure 3 (by decide))
          · go_simp
            exact Gives3.of rfl (GRo.refl 4 _) rfl (HJ1.out.pure 4 (by decide))
          · go_simp
            exact Gives3.of rfl (GRo.refl 5 _) rfl (HJ1.out.pure 5 (by decide))
          · go_simp
            exact Gives3.of rfl (GRo.refl 6 _) rfl (HJ1.out.pure 6 (by decide))
          · obtain ⟨x0, xl⟩ := HJ1.out.1
            go_simp
            exact Gives3.of rfl (GRo.refl 7 _) rfl (HJ1.out.pure 7 (by decide))
          · have x0 := HJ1.out.2.1.cell 0
            have x1 := HJ1.out.2.1.cell 1
            have x2 := HJ1.out.2.1.cell 2
            have x3 := HJ1.out.2.1.cell 3
            have xl := HJ1.out.2.1.lt
            simp only [List.getElem?_toArray, List.getElem?_cons_zero, List.getElem?_cons_succ] at x0 x1 x2 x3
            go_simp
            exact Gives3.of rfl (GRo.refl 8 _) rfl (HJ1.out.pure 8 (by decide))
          · go_simp
            exact Gives3.of rfl (GRo.refl 9 _) rfl (HJ1.out.pure 9 (by decide))
          · go_simp
            obtain ⟨hm1, hg1⟩ := HJ1.out.2.2 HFi.out
            refine (HPl2.out w' hm1 hg1).mono ?_
            rintro e wz ⟨rfl, hpl⟩
            exact Gives3.of rfl (GRo.at hpl.kept) (hpl.from hg1) (HJ1.out.place hpl HGX.out)
        · intro a2 w5 hgw hs hf hJ _
          have h10 := hf 10 (by decide)
          simp only [AdF7] at h10
          obtain ⟨fn, rfl, hft⟩ := hs.put
          have HP := hid h10
          have HJ5 := hid hJ.1
          clear hf hft hs hgw hJ h10
          simp only [List.drop_succ_cons, List.drop_zero, putAll, List.foldl_cons, List.foldl_nil, Act.put, List.setIfInBounds_toArray, List.set_cons_succ, List.set_cons_zero]
          obtain ⟨S', cs', r, x, hxh, hxo, hil, hle, hst⟩ := HP.out
          have HX1 := hid (show x.h = cj from hxh)
          have HX2 := hid (show x.o = o from hxo)
          have HIL := hid hil
          have HLE := hid hle
          obtain ⟨v2, ev2⟩ : ∃ v2, v2 = setUN (setSl v1 S' cs' ((v1.sl ++ List.replicate r none).set l (some x))) (upd v1.us j (v1.us j + (Hp.words o : Nat))) (v1.n + 1) := ⟨_, rfl⟩
          rw [← ev2] at hst
          have EV2 := hid ev2
          have HS5 := hid (HS4.out.trans hst)
          have EG2 := hid (show v2.g = sg by rw [ev2, HGX.out.1]; rfl)
          have HC6 : Hid (∀ W, Grew w5 W → W.cell? ⟨sg, 18 + j, none⟩ = some (.int .i64 cj) ∧ sg < W.heap.size) := hid (fun W hW => ⟨(hW.below.cell (p := ⟨sg, 18 + j, none⟩) HJ5.out.2).trans HJ5.out.1, Nat.lt_of_lt_of_le HJ5.out.2 hW.below.size⟩)
          have hwr := wrap64 (x := cj + 1) (by omega) (by omega)
          clear hxh hxo hil hle ev2 hst HP HJ5 HJ0 HPl2
          go_upto_region 8 with fail
          have hmx : Tryz.prog.follows .mixedOrders = true := by kernel_rfl
          refine wp_region_facts (w0 := w5) w5 10 [54, 55, 56, 57, 58, 59, 60, 61, 62, 63] [] (AdF8 sg j cj) hmx (by kernel_rfl) (Grew.refl _) (fun _ _ _ _ h _ => h) ?_ ?_
          · repeat' (first | exact trivial | apply And.intro)
            all_goals
              intro a w' hgw hs hA
              have t0 := hs.eval 0 (by decide) (v := .pointer (some ⟨sg, 0, none⟩)) rfl
              have t2 := hs.eval 2 (by decide) (v := .int .i64 (j : Int)) rfl
              have HGW := hid ((Grew.refl w5).trans hgw)
              clear hs hgw
              simp only [Ahead, Region.binds, slotOf, AdF8, List.getD_cons_succ, List.getD_cons_zero, forall_const, and_true] at hA
              simp only [wantedD, if_true]
              unfold Oper.wp
              have ec : ∀ v, a.eval (.const v) = v := fun _ => rfl
              generalize hfe : a.eval = fe at *
              have ef : ∀ k, fe (.func k) = Act.eval ⟨#[], []⟩ (.func k) := fun k => by rw [← hfe]; rfl
              clear hfe
            · go_simp
              exact Gives.of' rfl (Grew.refl _) rfl
            · go_simp
              exact Gives.of' rfl (Grew.refl _) rfl
            · go_simp
              exact Gives.of' rfl (Grew.refl _) rfl
            · go_simp
              exact Gives.of' rfl (Grew.refl _) rfl
            · go_simp
              exact Gives.of' rfl (Grew.refl _) rfl
            · obtain ⟨x0, xl⟩ := HC6.out w' HGW.out
              go_simp
              exact Gives.of' rfl (Grew.refl _) rfl
            · go_simp
              exact Gives.of' rfl (Grew.refl _) rfl
            · go_simp
              exact Gives.of' rfl (Grew.refl _) rfl
            · go_simp
              exact Gives.of' rfl (Grew.refl _) rfl
            · go_simp
              exact Gives.of' rfl (Grew.refl _) rfl
          · intro a2 wn2 hgw hs hf _ _
            have h6 := hf 6 (by decide)
            have h9 := hf 9 (by decide)
            simp only [slotOf, AdF8, List.getD_cons_succ, List.getD_cons_zero] at h6 h9
            obtain ⟨fn, rfl, hft⟩ := hs.put
            rw [hft] at h6 h9
            have HGN := hid ((Grew.refl w5).trans hgw)
            clear hf hft hs
            simp only [List.drop_succ_cons, List.drop_zero, putAll, List.foldl_cons, List.foldl_nil, Act.put, List.setIfInBounds_toArray, List.set_cons_succ, List.set_cons_zero, h6, h9]
            clear h6 h9
            have HS6 := hid (HS5.out.grew hgw)
            obtain ⟨x0, xl⟩ := HC6.out wn2 hgw
            have xf := HS6.out.mem.blk.frozen (18 + j)
            rw [EG2.out] at xf
            clear hgw HGN HC6 HS5
            go_wp2_with fail
            go_ret2
            have h1 := MemAt.cell HS6.out.mem (18 + j) (.int .i64 (cj + 1)) (setCn v2 (upd v.cn j (cj + 1))) (by rw [set_cn _ j hj8, EV2.out, EV1.out]; rfl) rfl rfl rfl rfl rfl rfl rfl rfl rfl
            rw [EG2.out] at h1
            have hst := HS6.out.trans h1
            have hv1 : HvOk v1 (C + 1) := (EV1.out ▸ fr_ok HV1.out HFu.out).mono (by omega) (by have := HCC.out; omega)
            have hno1 : hasB v1.sl (l : Int) = false := by rw [EV1.out]; exact HNo.out
            have hfits : Hp.fits (its v.sl) v.room v.q o = true := EBF.out.symm
            have hok := place_ok (v' := setCn v2 (upd v.cn j (cj + 1))) hv1 (i := l) (r := r) (j := j) (x := x) HIL.out hno1 (HLE.out (by rw [EV1.out]; exact HV1.out.len)) (by rw [HX2.out, EV1.out]; exact HM2.out) (by rw [HX2.out]; exact HJ.out) (by rw [HX1.out]; exact ⟨by omega, by omega⟩) (by rw [HX2.out, EV1.out]; exact hfits) (by rw [EV2.out, EV1.out]; rfl) (by rw [EV2.out, EV1.out]; rfl) (by rw [EV2.out, EV1.out]; rfl) (fun k => by
              show 0 ≤ upd v.cn j (cj + 1) k ∧ upd v.cn j (cj + 1) k ≤ _
              have h5 := HV1.out.cn k
              have h6 := HV1.out.cn j
              rw [← ECJ.out] at h6
              unfold upd
              split <;> omega) (by rw [EV2.out]; rfl) (by rw [EV2.out, HX2.out]; rfl) (by rw [EV2.out]; rfl) (by
              rw [EV2.out, EV1.out]
              exact (fr_ok HV1.out HFu.out).fr)
            have hits : its v1.sl = its v.sl := by rw [EV1.out]; rfl
            have hoj : o.lev.toNat = j := by rw [HJ.out, Int.toNat_natCast]
            unfold AddV
            rw [HE0.out, if_pos rfl, if_pos rfl, if_pos rfl, ← EL.out]
            refine ⟨setCn v2 (upd v.cn j (cj + 1)), rfl, hst, hok.1, ?_, ?_⟩
            · rw [hok.2, hits, HX1.out, HX2.out]
              unfold Hp.newIt
              rw [← EL.out, hoj, ← ECJ.out]
            · rw [hoj, ← ECJ.out]
              rfl
end Go.Proofs.YtidnaednldcdfaaGreatDoor
namespace Go.Proofs.YtidnaednldcdfaaGreatDoor
open Go.RowKit

/-- A field of an object stored. -/
theorem MemAt.putF {w : World} {B : Nat} {v : HV} (h : MemAt w B v) {a b : Nat} {x : SX} (hx : v.sl[a]? = some (some x)) (hb : b < x.o.f.length) {xb : Nat} (hA : x.A = some ⟨xb, 0, none⟩) (u : Ob.Val) :
    Step w B v (setSl v v.S v.cs (v.sl.set a (some { x with o := Ob.setF x.o b u }))) (((w.setCell ⟨xb, b * 3, none⟩ (.int .u8 ((u.k : Nat) : Int))).setCell ⟨xb, b * 3 + 1, none⟩ (.int .i64 u.n)).setCell ⟨xb, b * 3 + 2, none⟩ (.int .i64 u.l)) := by
  have hal := (List.getElem?_eq_some_iff.1 hx).1
  have hk : Kept (fun k => k = xb) w (((w.setCell ⟨xb, b * 3, none⟩ (.int .u8 ((u.k : Nat) : Int))).setCell ⟨xb, b * 3 + 1, none⟩ (.int .i64 u.n)).setCell ⟨xb, b * 3 + 2, none⟩ (.int .i64 u.l)) := kept3 (Kept.refl (fun k => k = xb) w) (fun _ => rfl) _ _ _
  have hat : AtRow x.A xb := ⟨_, hA, rfl⟩
  have hr0 := (h.it a x hx).2.2
  rw [hA] at hr0
  have hr := ((hr0.set1 (b * 3) (.int .u8 ((u.k : Nat) : Int))).set1 (b * 3 + 1) (.int .i64 u.n)).set1 (b * 3 + 2) (.int .i64 u.l)
  rw [set3 _ _ _ (b * 3) _ (by rw [flatMap_length valF_len]; omega), show [Value.int .u8 ((u.k : Nat) : Int), .int .i64 u.n, .int .i64 u.l] = valF u from rfl, splice_flat valF_len _ b u hb] at hr
  generalize (((w.setCell ⟨xb, b * 3, none⟩ (.int .u8 ((u.k : Nat) : Int))).setCell ⟨xb, b * 3 + 1, none⟩ (.int .i64 u.n)).setCell ⟨xb, b * 3 + 2, none⟩ (.int .i64 u.l)) = w' at *
  have hsub : ∀ (k : Nat) (y : SX), (v.sl.set a (some { x with o := Ob.setF x.o b u }))[k]? = some (some y) → (k = a ∧ y = { x with o := Ob.setF x.o b u }) ∨ (k ≠ a ∧ v.sl[k]? = some (some y)) := fun k y hy => by
    rw [List.getElem?_set] at hy
    by_cases e : a = k
    · rw [if_pos e, if_pos hal] at hy
      exact .inl ⟨e.symm, (Option.some.inj (Option.some.inj hy)).symm⟩
    · rw [if_neg e] at hy
      exact .inr ⟨fun h => e h.symm, hy⟩
  have ho : ∀ k, HOwns (setSl v v.S v.cs (v.sl.set a (some { x with o := Ob.setF x.o b u }))) k → HOwns v k := fun k hk => by
    rcases hk with h7 | h7 | ⟨j, y, hy, h7⟩
    · exact .inl h7
    · exact .inr (.inl h7)
    · rcases hsub j y hy with ⟨_, e7⟩ | ⟨_, hy⟩
      · rw [e7] at h7
        exact .inr (.inr ⟨a, x, hx, h7⟩)
      · exact .inr (.inr ⟨j, y, hy, h7⟩)
  have hmap : (v.sl.set a (some { x with o := Ob.setF x.o b u })).map slotV = v.sl.map slotV := by
    apply List.ext_getElem?
    intro k
    rw [List.getElem?_map, List.getElem?_map, List.getElem?_set]
    by_cases e : a = k
    · subst e
      rw [if_pos rfl, if_pos hal, hx]
      rfl
    · rw [if_neg e]
  have hlen : (v.sl.set a (some { x with o := Ob.setF x.o b u })).length = v.sl.length := List.length_set
  have hfl : (Ob.setF x.o b u).f.length = x.o.f.length := by simp [Ob.setF]
  have hown : HOwns v xb := .inr (.inr ⟨a, x, hx, .inr hat⟩)
  refine ⟨⟨?_, h.low, ⟨h.up.1, fun hl => ?_⟩, fun ad e hh => h.upNe ad e (ho _ hh), fun ad e => Nat.lt_of_lt_of_le (h.upLt ad e) hk.size, h.upLow, ?_, fun j y hy => ?_, fun j k y z hy hz q hq hr => ?_⟩, rfl, rfl, rfl, rfl, rfl, rfl, hk.mono (fun k _ e => by subst e; exact hown), fun k hk => .inl (ho k hk)⟩
  · have e : hvC (setSl v v.S v.cs (v.sl.set a (some { x with o := Ob.setF x.o b u }))) = hvC v := by unfold hvC setSl; simp only [List.length_set]
    rw [e]
    exact h.blk.kept hk (fun e => (h.g_it hx).2 (by rw [show v.g = xb from e]; exact hat))
  · obtain ⟨ad, h1, h2, h3⟩ := h.up.2 hl
    exact ⟨ad, h1, Nat.lt_of_lt_of_le h2 hk.size, fun j hj => (hk.cell (by rw [block_add]; exact h2) (by rw [block_add]; exact fun e => h.upNe ad h1 (by rw [e]; exact hown))).trans (h3 j hj)⟩
  · show Row _ B _ 1 v.S (v.sl.set a _).length v.cs ((v.sl.set a _).map slotV)
    rw [hlen, hmap]
    exact h.row.kept hk (fun g hA e => (h.s_it hx).2 xb hat ⟨_, hA, e⟩)
  · rcases hsub j y hy with ⟨rfl, rfl⟩ | ⟨hne, hy'⟩
    · refine ⟨(h.it j x hx).1, ?_, ?_⟩
      · have h1 := (h.it j x hx).2.1.kept hk (fun e => h.p_f hx hx (by rw [e]; exact hat))
        rw [show sxC j { x with o := Ob.setF x.o b u } = sxC j x by unfold sxC; simp only [hfl]; rfl]
        exact h1
      · show Row _ B _ 3 x.A (Ob.setF x.o b u).f.length x.c ((Ob.setF x.o b u).f.flatMap valF)
        rw [hfl, hA]
        exact hr
    · refine ⟨(h.it j y hy').1, (h.it j y hy').2.1.kept hk (fun e => h.p_f hy' hx (by rw [e]; exact hat)), (h.it j y hy').2.2.kept hk (fun g hA e => hne ?_)⟩
      exact h.dis j a y x hy' hx xb ⟨_, hA, e⟩ hat
  · have red : ∀ (k : Nat) (y : SX), (v.sl.set a (some { x with o := Ob.setF x.o b u }))[k]? = some (some y) → ∃ y', v.sl[k]? = some (some y') ∧ y'.A = y.A := fun k y hy => by
      rcases hsub k y hy with ⟨rfl, rfl⟩ | ⟨_, hy'⟩
      · exact ⟨x, hx, rfl⟩
      · exact ⟨y, hy', rfl⟩
    obtain ⟨y', h1, h2⟩ := red j y hy
    obtain ⟨z', h3, h4⟩ := red k z hz
    exact h.dis j k y' z' h1 h3 q (by rw [h2]; exact hq) (by rw [h4]; exact hr)
/-- A field more leaves a heap's numbers right. -/
theorem put_ok {v : HV} {C : Nat} (hv : HvOk v C) (h256 : ∀ x ∈ v.up, x < 256) {a : Nat} {k under : Int} {u : Ob.Val} {x : SX} (hx : v.sl[a]? = some (some x)) (hc : Hp.putCode v.up (its v.sl) (a : Int) k under u = 0) :
    HvOk (setSl v v.S v.cs (v.sl.set a (some { x with o := Ob.setF x.o k.toNat (Ob.putV v.up under u) }))) C ∧ its (v.sl.set a (some { x with o := Ob.setF x.o k.toNat (Ob.putV v.up under u) })) = Hp.put v.up (its v.sl) (a : Int) k under u := by
  have hal := (List.getElem?_eq_some_iff.1 hx).1
  have e : its (v.sl.set a (some { x with o := Ob.setF x.o k.toNat (Ob.putV v.up under u) })) = (its v.sl).map (Hp.putIt v.up (a : Int) k under u) := its_put hx v.up k under u
  obtain ⟨hvu, hun, _⟩ := Hp.code_zero hc
  have hval := valueB_put h256 hv.valid hvu hun
  refine ⟨⟨hv.valid, hv.room, hv.q, hv.cn, fun j => ?_, ?_, fun z hz => ?_, fun z hz => ?_, fun j hj => ?_, ?_, by show (v.sl.set a _).length ≤ _; rw [List.length_set]; exact hv.len, ⟨hv.fr.1, by show v.fr ≤ ((v.sl.set a _).length : Nat); rw [List.length_set]; exact hv.fr.2.1, fun j hj => ?_⟩, hv.C⟩, by rw [e, Hp.put_good hc]⟩
  · show v.us j = (Hp.used (its (v.sl.set a _)) (j : Int) : Nat)
    rw [e, hv.us j]
    unfold Hp.used
    rw [Hp.sum_map (Hp.putIt_words _ _ _ _ _) (fun z => by unfold Hp.lvl; rw [Hp.putIt_lev])]
  · show v.n = ((its (v.sl.set a _)).length : Nat)
    rw [e, List.length_map]
    exact hv.n
  · have hz' : z ∈ its (v.sl.set a (some { x with o := Ob.setF x.o k.toNat (Ob.putV v.up under u) })) := hz
    rw [e] at hz'
    obtain ⟨z0, h0, rfl⟩ := List.mem_map.1 hz'
    have hm := hv.ok z0 h0
    show Ob.mayB v.up.length (Hp.putIt v.up (a : Int) k under u z0).o = true
    unfold Hp.putIt
    split
    · exact mayB_set hm hval
    · exact hm
  · have hz' : z ∈ its (v.sl.set a (some { x with o := Ob.setF x.o k.toNat (Ob.putV v.up under u) })) := hz
    rw [e] at hz'
    obtain ⟨z0, h0, rfl⟩ := List.mem_map.1 hz'
    rw [Hp.putIt_h]
    exact hv.hs z0 h0
  · show (Hp.used (its (v.sl.set a _)) (j : Int) : Int) ≤ v.q j
    have h1 := hv.fit j hj
    rw [e]
    unfold Hp.used at h1 ⊢
    rw [Hp.sum_map (Hp.putIt_words _ _ _ _ _) (fun z => by unfold Hp.lvl; rw [Hp.putIt_lev])]
    exact h1
  · show (Hp.all (its (v.sl.set a _)) : Int) ≤ v.room
    have h1 := hv.fitAll
    rw [e]
    unfold Hp.all at h1 ⊢
    rw [Hp.sum_map (Hp.putIt_words _ _ _ _ _) (fun z => rfl)]
    exact h1
  · obtain ⟨z, hz⟩ := hv.fr.2.2 j hj
    show ∃ z, (v.sl.set a _)[j]? = some (some z)
    by_cases hja : a = j
    · exact ⟨_, by rw [List.getElem?_set, if_pos hja, if_pos hal]⟩
    · exact ⟨z, by rw [List.getElem?_set, if_neg hja]; exact hz⟩
/-- What Put leaves. -/
def PutV (w : World) (B : Nat) (v : HV) (C : Nat) (i k under : Int) (u : Ob.Val) (e : Ending) (w' : World) : Prop :=
  ∃ v', e = .returned (errVal (Hp.putCode v.up (its v.sl) i k under u)) ∧ Step w B v v' w' ∧ HvOk v' C ∧ its v'.sl = Hp.put v.up (its v.sl) i k under u ∧ v'.cn = v.cn
theorem putV_bad {w w' : World} {B : Nat} {v : HV} {C : Nat} {i k under : Int} {u : Ob.Val} (h : MemAt w B v) (hv : HvOk v C) (hg : Grew w w') (c : Nat) (h0 : c ≠ 0) (hc : Hp.putCode v.up (its v.sl) i k under u = c) : PutV w B v C i k under u (.returned (errVal c)) w' :=
  ⟨v, by rw [hc], Step.of_grew h hg, hv, (Hp.put_bad (by rw [hc]; exact h0)).symm, rfl⟩
theorem fld_at {w w' : World} {B : Nat} {v : HV} (h : MemAt w B v) (hg : Grew w w') {a : Nat} {x : SX} (hx : v.sl[a]? = some (some x)) {b : Nat} {y : Ob.Val} (hy : x.o.f[b]? = some y) : ∃ xb, x.A = some ⟨xb, 0, none⟩ ∧ (∀ j u, (valF y)[j]? = some u → w'.cell? ⟨xb, b * 3 + j, none⟩ = some u) ∧ (∀ j, w'.frozen? ⟨xb, j, none⟩ = false) ∧ xb < w'.heap.size := by
  have hb := (List.getElem?_eq_some_iff.1 hy).1
  rcases ((h.it a x hx).2.2.grew hg).cases with ⟨_, _, _, ⟨_, h2, _⟩ | ⟨g, h1, _, hw, hc, hf⟩⟩
  · omega
  · exact ⟨g, h1, fun j u hu => hc _ _ (flat_at valF 3 valF_len _ b y hy j u hu), hf, hw⟩
end Go.Proofs.YtidnaednldcdfaaGreatDoor
namespace Go.Proofs.YtidnaednldcdfaaGreatDoor
open Go.RowKit

def HpF11 (sg gx : Nat) (U : Option Addr) (un cu : Nat) (vl under jl : Int) (k : Nat) (v : Value) (_ : World) : Prop := match k with
  | 0 => v = .pointer (some ⟨sg, 0, none⟩)
  | 1 => v = .pointer (some ⟨sg, 0, none⟩)
  | 2 => v = .pointer (some ⟨sg, 0, none⟩)
  | 3 => v = .agg #[.slice U un cu]
  | 4 => v = .pointer (some ⟨gx, 2, none⟩)
  | 5 => v = .int .i64 vl
  | 6 => v = .int .i64 under
  | 7 => v = .int .i64 jl
  | _ => v = .pointer (some ⟨gx, 2, none⟩)
theorem find_its {l : List (Option SX)} {i : Nat} {x : SX} (h : l[i]? = some (some x)) : Hp.find (its l) (i : Int) = some ⟨(i : Int), x.h, x.o⟩ := its_find h
set_option maxRecDepth 100000 in
set_option maxHeartbeats 8000000 in
theorem hPut_c (v : HV) (B C : Nat) (i k under : Int) (u : Ob.Val) (w : World) (h : MemAt w B v) (hv : HvOk v C) :
    Calls Tryz.prog 9 #[.pointer (some ⟨v.g, 0, none⟩), .int .i64 i, .int .i64 k, .int .i64 under, .agg #[.int .u8 ((u.k : Nat) : Int), .int .i64 u.n, .int .i64 u.l]] w (PutV w B v C i k under u) := by
  have HMem := hid h
  have HV1 := hid hv
  have HBad := hid (fun W (hW : Grew w W) c h0 hc => putV_bad (i := i) (k := k) (under := under) (u := u) h hv hW c h0 hc)
  have HLv := hid (fun W (hW : Grew w W) => hLevels_c v B W (h.grew hW))
  have HLe := hid (fun W (hW : Grew w W) a b => leq_c v.U v.cu v.up a b W (by have := hv.lens; omega) (h.up.grew hW))
  have HJo := hid (fun W (hW : Grew w W) a b => join_c v.U v.cu v.up a b W (by have := hv.lens; omega) (h.up.grew hW))
  have HM0 := hid (fun W (hW : Grew w W) => hm_cell h hW 0 (u := .slice v.U v.up.length v.cu) rfl)
  have HVal := hid (fun W => value_c v.up.length u W)
  have HI2 := hid (fun W => hIndex_c under ((v.up.length : Nat) : Int) W)
  obtain ⟨b1, e1⟩ : ∃ b1, b1 = Ob.valueB v.up.length u := ⟨_, rfl⟩
  obtain ⟨b2, e2⟩ : ∃ b2, b2 = Ob.inB under ((v.up.length : Nat) : Int) := ⟨_, rfl⟩
  rw [← e1] at HVal
  rw [← e2] at HI2
  have E1 := hid e1
  have E2 := hid e2
  clear h hv e1 e2
  obtain ⟨vk, vn, vl⟩ := u
  simp only at HVal ⊢
  obtain ⟨un, eun⟩ : ∃ un, un = v.up.length := ⟨_, rfl⟩
  rw [← eun] at HLv HVal HI2 HM0 HLe HJo
  have EUN := hid eun
  obtain ⟨sg, esg⟩ : ∃ sg, sg = v.g := ⟨_, rfl⟩
  rw [← esg] at HLv HM0 ⊢
  have ESG := hid esg
  clear eun esg
  have G1 := (Grew.refl w).alloc (.cells #[.int .u8 ((vk : Nat) : Int), .int .i64 vn, .int .i64 vl] 41)
  have B1 := Blk.new w 41 #[.int .u8 ((vk : Nat) : Int), .int .i64 vn, .int .i64 vl]
  go_enter Tryz.func9, Tryz.ntmps9
  go_upto_region 1 with fail
  obtain ⟨gx, egx⟩ : ∃ gx, gx = w.heap.size := ⟨_, rfl⟩
  generalize w.alloc (.cells #[.int .u8 ((vk : Nat) : Int), .int .i64 vn, .int .i64 vl] 41) = w1 at *
  rw [← egx] at B1 ⊢
  have EGX := hid egx
  have HG1 := hid G1
  have HB1 := hid B1
  clear G1 B1 egx
  have q0 := fun (y : After w1) => (HB1.out.grew y.grew).cell 0
  have q1 := fun (y : After w1) => (HB1.out.grew y.grew).cell 1
  have q2 := fun (y : After w1) => (HB1.out.grew y.grew).cell 2
  have ql := fun (y : After w1) => (HB1.out.grew y.grew).lt
  simp only [List.getElem?_toArray, List.getElem?_cons_zero, List.getElem?_cons_succ] at q0 q1 q2
  cases b1
  · refine wp_region_grew_from (w0 := w1) (Grew.refl w1) (by kernel_rfl) (by kernel_rfl) ?_
    repeat (go_big_quiet_step (first | (go_at_call 35; exact Calls.grew (After.grew _) (HLv.out _ (HG1.out.trans (After.grew _)))) | (go_at_call 40; exact Calls.grew (After.grew _) (HVal.out _))))
    refine wpQuiet_nil ?_
    rintro _ ⟨y, rfl⟩
    clear q0 q1 q2 ql
    go_wp2_with fail
    go_ret
    exact HBad.out _ (HG1.out.trans y.grew) 1 (by decide) (Hp.code_arg (by rw [← E1.out]; rfl))
  · cases b2
    · refine wp_region_grew_from (w0 := w1) (Grew.refl w1) (by kernel_rfl) (by kernel_rfl) ?_
      repeat (go_big_quiet_step (first | (go_at_call 35; exact Calls.grew (After.grew _) (HLv.out _ (HG1.out.trans (After.grew _)))) | (go_at_call 40; exact Calls.grew (After.grew _) (HVal.out _)) | (go_at_call 41; exact Calls.grew (After.grew _) (HI2.out _))))
      refine wpQuiet_nil ?_
      rintro _ ⟨y, rfl⟩
      clear q0 q1 q2 ql
      go_wp2_with fail
      go_ret
      exact HBad.out _ (HG1.out.trans y.grew) 1 (by decide) (Hp.code_arg (by rw [← E2.out, Bool.and_false]))
    · refine wp_region_grew_from (w0 := w1) (Grew.refl w1) (by kernel_rfl) (by kernel_rfl) ?_
      repeat (go_big_quiet_step (first | (go_at_call 35; exact Calls.grew (After.grew _) (HLv.out _ (HG1.out.trans (After.grew _)))) | (go_at_call 40; exact Calls.grew (After.grew _) (HVal.out _)) | (go_at_call 41; exact Calls.grew (After.grew _) (HI2.out _))))
      refine wpQuiet_nil ?_
      rintro _ ⟨y, rfl⟩
      clear q0 q1 q2 ql HLv HVal HI2
      have HA := hid (show (Ob.valueB v.up.length ⟨vk, vn, vl⟩ && Ob.inB under ((v.up.length : Nat) : Int)) = true by rw [← E1.out, ← E2.out]; rfl)
      have HB2 := hid (HB1.out.grew y.grew)
      have HG2 := hid (HG1.out.trans y.grew)
      clear E1 E2 HB1
      generalize y.w = w2 at *
      cases hb3 : hasB v.sl i
      · have HFi : Hid (∀ W, Grew w W → Calls Tryz.prog 32 #[.pointer (some ⟨v.g, 0, none⟩), .int .i64 i] W fun e w' => e = .returned (.tuple #[.pointer none, .iface 91 (.int .i64 3)]) ∧ Grew W w') := hid (fun W hW => hfind_no v B i W (HMem.out.grew hW) HV1.out.len hb3)
        rw [← ESG.out] at HFi
        have HC := hid (Hp.code_obj (k := k) HA.out (i := i) (L := its v.sl) (by rw [hasB_find] at hb3; simpa using hb3))
        clear hb3
        go_wp2_with (go_at_call 32; refine (HFi.out _ HG2.out).mono ?_; rintro e w3 ⟨rfl, hg3⟩)
        go_ret
        exact HBad.out _ (HG2.out.trans hg3) 3 (by decide) HC.out
      · obtain ⟨a, x, rfl, hx⟩ : ∃ (a : Nat) (x : SX), i = a ∧ v.sl[a]? = some (some x) := by
          rcases hasB_cases v.sl i with h2 | ⟨j, e, h2⟩ | h2
          · rw [hasB_out h2] at hb3; cases hb3
          · rw [e, hasB_no h2] at hb3; cases hb3
          · exact h2
        have HFi : Hid (∀ W, Grew w W → Calls Tryz.prog 32 #[.pointer (some ⟨v.g, 0, none⟩), .int .i64 ((a : Nat) : Int)] W fun e w' => e = .returned (.tuple #[.pointer (some ⟨x.p, 0, none⟩), .nilIface]) ∧ Grew W w') := hid (fun W hW => hfind_yes v B a x W (HMem.out.grew hW) HV1.out.len hx)
        rw [← ESG.out] at HFi
        have HX := hid hx
        have HIt := hid (HMem.out.it a x hx).2.1
        unfold sxC at HIt
        obtain ⟨p, ep⟩ : ∃ p, p = x.p := ⟨_, rfl⟩
        rw [← ep] at HFi HIt
        obtain ⟨m, em⟩ : ∃ m, m = x.o.f.length := ⟨_, rfl⟩
        rw [← em] at HIt
        have EM := hid em
        obtain ⟨xA, exA⟩ : ∃ xA, xA = x.A := ⟨_, rfl⟩
        rw [← exA] at HIt
        have EXA := hid exA
        have HFd := hid (find_its HX.out)
        clear hb3 hx ep em exA
        go_upto_region 6 with (go_at_call 32; refine (HFi.out _ HG2.out).mono ?_; rintro e w3 ⟨rfl, hg3⟩)
        have HG3 := hid (HG2.out.trans hg3)
        have HB3 := hid (HB2.out.grew hg3)
        have HI3 := hid (HIt.out.grew HG3.out)
        have r4 := HI3.out.cell 4
        have rl := HI3.out.lt
        simp only [List.getElem?_toArray, List.getElem?_cons_zero, List.getElem?_cons_succ] at r4
        clear hg3 HFi HB2 HG2
        go_upto_region 7 with fail
        clear r4 rl HI3 HIt
        have HIX := hid (fun W => hIndex_c k ((m : Nat) : Int) W)
        cases hb4 : Ob.inB k ((m : Nat) : Int)
        · rw [hb4] at HIX
          rw [EM.out] at hb4
          have HC := hid (Hp.code_field (k := k) HA.out HFd.out hb4)
          clear hb4
          go_wp2_with (go_at_call 41; refine (HIX.out _).mono ?_; rintro e w4 ⟨rfl, hg4⟩)
          go_ret
          exact HBad.out _ (HG3.out.trans hg4) 3 (by decide) HC.out
        · rw [hb4] at HIX
          obtain ⟨b, rfl⟩ : ∃ b : Nat, k = b := ⟨k.toNat, by simp [Ob.inB] at hb4; omega⟩
          have hb : b < m := by simp [Ob.inB] at hb4; omega
          obtain ⟨y, hy⟩ : ∃ y, x.o.f[b]? = some y := ⟨_, List.getElem?_eq_getElem (by rw [← EM.out]; exact hb)⟩
          have HC := hid (Hp.code_leq HA.out HFd.out hy)
          have g1 : (b : Int) < (m : Int) := by omega
          have g2 : (m : Int) ≤ 256 := by have := (hp_head (HV1.out.at HX.out).1).2.2.2.2.1; rw [EM.out]; omega
          obtain ⟨xb, exb, hfl, hfz, hxl⟩ := fld_at HMem.out (Grew.refl w) HX.out hy
          have HFld : Hid (∀ W, Grew w W → ∀ j q, (valF y)[j]? = some q → W.cell? ⟨xb, b * 3 + j, none⟩ = some q ∧ W.frozen? ⟨xb, b * 3 + j, none⟩ = false ∧ xb < W.heap.size) := hid (fun W hW j q hq => by
            obtain ⟨xb', h1, h2, h3, h4⟩ := fld_at HMem.out hW HX.out hy
            rw [exb] at h1
            cases h1
            exact ⟨h2 j q hq, h3 _, h4⟩)
          have EXB := hid exb
          rw [exb] at EXA
          obtain rfl : xA = some ⟨xb, 0, none⟩ := EXA.out
          have HBM := hid hb
          clear hb4 hb hy exb hfl hfz hxl
          obtain ⟨yl, eyl⟩ : ∃ yl, yl = y.l := ⟨_, rfl⟩
          have HFl2 : Hid (∀ W, Grew w W → W.cell? ⟨xb, b * 3 + 2, none⟩ = some (.int .i64 yl) ∧ xb < W.heap.size) := hid (fun W hW => by have h1 := HFld.out W hW 2 _ rfl; exact ⟨by rw [eyl]; exact h1.1, h1.2.2⟩)
          rw [← eyl] at HC
          rw [← La.leq_rleq HV1.out.valid] at HC
          clear eyl
          go_upto_region 9 with (go_at_call 41; refine (HIX.out _).mono ?_; rintro e w4 ⟨rfl, hg4⟩)
          have HG4 := hid (HG3.out.trans hg4)
          have HB4 := hid (HB3.out.grew hg4)
          clear hg4 HIX HG3 HB3
          obtain ⟨r, er⟩ : ∃ r, r = La.leq v.up under yl := ⟨_, rfl⟩
          have HLr := hid (fun W (hW : Grew w W) => HLe.out W hW under yl)
          rw [← er] at HLr HC
          clear HLe er
          have q0 := fun (z : After w4) => (HM0.out z.w (HG4.out.trans z.grew)).1
          have q1 := fun (z : After w4) => (HM0.out z.w (HG4.out.trans z.grew)).2
          have q2 := fun (z : After w4) => (HFl2.out z.w (HG4.out.trans z.grew)).1
          have q3 := fun (z : After w4) => (HFl2.out z.w (HG4.out.trans z.grew)).2
          refine wp_region_grew_from (w0 := w4) (Grew.refl w4) (by kernel_rfl) (by kernel_rfl) ?_
          repeat (go_big_quiet_step (first | (go_at_call 42; exact Calls.grew (After.grew _) (HLr.out _ (HG4.out.trans (After.grew _))))))
          refine wpQuiet_nil ?_
          rintro _ ⟨z, rfl⟩
          clear q0 q1 q2 q3
          have HG5 := hid (HG4.out.trans z.grew)
          have HB5 := hid (HB4.out.grew z.grew)
          clear HB4 HLr
          generalize z.w = w5 at *
          cases r
          · go_wp2_with fail
            go_ret
            exact HBad.out _ HG5.out 11 (by decide) HC.out
          · go_upto_region 11 with fail
            have HC0 := hid (show Hp.putCode v.up (its v.sl) (a : Int) (b : Int) under ⟨vk, vn, vl⟩ = 0 from HC.out)
            obtain ⟨jl, ejl⟩ : ∃ jl, jl = La.joinOf v.up vl under := ⟨_, rfl⟩
            have HJr := hid (fun W (hW : Grew w W) => HJo.out W hW vl under)
            rw [← ejl] at HJr
            have EJL := hid ejl
            clear ejl HJo HC
            have hmx : Tryz.prog.follows .mixedOrders = true := by kernel_rfl
            refine wp_region_facts (w0 := w5) w5 9 [64, 65, 66, 67, 68, 69, 70, 71, 72] [] (HpF11 sg gx v.U un v.cu vl under jl) hmx (by kernel_rfl) (Grew.refl _) (fun _ _ _ _ h _ => h) ?_ ?_
            · repeat' (first | exact trivial | apply And.intro)
              all_goals
                intro a w' hgw hs hA
                have t0 := hs.eval 0 (by decide) (v := .pointer (some ⟨sg, 0, none⟩)) rfl
                have t3 := hs.eval 3 (by decide) (v := .int .i64 under) rfl
                have t9 := hs.eval 9 (by decide) (v := .pointer (some ⟨gx, 0, none⟩)) rfl
                have HGW := hid ((Grew.refl w5).trans hgw)
                clear hs hgw
                simp only [Ahead, Region.binds, slotOf, HpF11, List.getD_cons_succ, List.getD_cons_zero, forall_const, and_true] at hA
                simp only [wantedD, if_true]
                unfold Oper.wp
                have ec : ∀ v, a.eval (.const v) = v := fun _ => rfl
                generalize hfe : a.eval = fe at *
                have ef : ∀ k, fe (.func k) = Act.eval ⟨#[], []⟩ (.func k) := fun k => by rw [← hfe]; rfl
                clear hfe
              · go_simp
                exact Gives.of' rfl (Grew.refl _) rfl
              · go_simp
                exact Gives.of' rfl (Grew.refl _) rfl
              · go_simp
                exact Gives.of' rfl (Grew.refl _) rfl
              · obtain ⟨x0, xl⟩ := HM0.out w' (HG5.out.trans HGW.out)
                go_simp
                exact Gives.of' rfl (Grew.refl _) rfl
              · go_simp
                exact Gives.of' rfl (Grew.refl _) rfl
              · have p2 := (HB5.out.grew HGW.out).cell 2
                have pl := (HB5.out.grew HGW.out).lt
                simp only [List.getElem?_toArray, List.getElem?_cons_zero, List.getElem?_cons_succ] at p2
                go_simp
                exact Gives.of' rfl (Grew.refl _) rfl
              · go_simp
                exact Gives.of' rfl (Grew.refl _) rfl
              · go_simp
                refine (HJr.out w' (HG5.out.trans HGW.out)).mono ?_
                rintro e wz ⟨rfl, hgz⟩
                exact Gives.of' rfl hgz rfl
              · go_simp
                exact Gives.of' rfl (Grew.refl _) rfl
            · intro a2 wn hgw hs hf _ _
              have h7 := hf 7 (by decide)
              have h8 := hf 8 (by decide)
              simp only [slotOf, HpF11, List.getD_cons_succ, List.getD_cons_zero] at h7 h8
              obtain ⟨fn, rfl, hft⟩ := hs.put
              rw [hft] at h7 h8
              have HGN := hid ((Grew.refl w5).trans hgw)
              clear hf hft hs
              simp only [List.drop_succ_cons, List.drop_zero, putAll, List.foldl_cons, List.foldl_nil, Act.put, List.setIfInBounds_toArray, List.set_cons_succ, List.set_cons_zero, h7, h8]
              clear h7 h8
              have HG6 := hid (HG5.out.trans hgw)
              have HB6 := hid (HB5.out.grew hgw)
              have p2 := HB6.out.cell 2
              have pf := HB6.out.frozen 2
              have pl := HB6.out.lt
              simp only [List.getElem?_toArray, List.getElem?_cons_zero, List.getElem?_cons_succ] at p2
              clear hgw HM0 HJr HFl2 HB5 HGN
              go_upto_region 12 with fail
              have HW7 := hid (Kept.up ((Kept.of_grew (F := fun k => w.heap.size ≤ k) HG6.out).setCell (p := ⟨gx, 2, none⟩) (fun _ => Nat.le_of_eq EGX.out.symm) (.int .i64 jl)))
              have HB7 := hid (HB6.out.put 2 (.int .i64 jl))
              generalize wn.setCell ⟨gx, 2, none⟩ (.int .i64 jl) = w7 at *
              simp only [List.setIfInBounds_toArray, List.set_cons_succ, List.set_cons_zero] at HB7
              have q0 := HB7.out.cell 0
              have q1 := HB7.out.cell 1
              have q2 := HB7.out.cell 2
              have ql := HB7.out.lt
              simp only [List.getElem?_toArray, List.getElem?_cons_zero, List.getElem?_cons_succ] at q0 q1 q2
              obtain ⟨r0, rf0, rl⟩ := HFld.out w7 HW7.out 0 _ rfl
              obtain ⟨r1, rf1, _⟩ := HFld.out w7 HW7.out 1 _ rfl
              obtain ⟨r2, rf2, _⟩ := HFld.out w7 HW7.out 2 _ rfl
              rw [Nat.add_zero] at r0 rf0
              clear p2 pf pl HB6 HFld
              go_wp2_with fail
              go_ret
              have hb8 := (HMem.out.grew HW7.out).putF HX.out (b := b) (by rw [← EM.out]; exact HBM.out) EXB.out ⟨vk, vn, jl⟩
              have hpv : (⟨vk, vn, jl⟩ : Ob.Val) = Ob.putV v.up under ⟨vk, vn, vl⟩ := by rw [EJL.out]; rfl
              have hst := (Step.of_grew HMem.out HW7.out).trans hb8
              have hok := put_ok HV1.out HMem.out.up.1 HX.out HC0.out
              rw [Int.toNat_natCast, ← hpv] at hok
              exact ⟨_, by rw [HC0.out]; rfl, hst, hok.1, hok.2, rfl⟩
end Go.Proofs.YtidnaednldcdfaaGreatDoor

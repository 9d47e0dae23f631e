/- Stage 11: Put. -/
import Derived.Test.YtcfknfiddadgbaaDoorObZ
import Derived.Test.YtcfknfiddadgbaaDoorBLat
namespace Go.Proofs.YtcfknfiddadgbaaDoor
open Go.RowKit

theorem st_up {w w' : World} {B : Nat} {s : SV} (h : StoreAt w B s) (hg : Grew w w') : BytesAt w' w'.heap.size s.U s.up := h.up.grew hg
theorem fld_get {w w' : World} {B : Nat} {s : SV} (h : StoreAt w B s) (hg : Grew w w') {x : IT} (hx : x ∈ s.its) {b : Nat} {y : Ob.Val} (hy : x.o.f[b]? = some y) : w'.cell? ⟨x.b, b * 3 + 2, none⟩ = some (.int .i64 y.l) ∧ x.b < w'.heap.size := by
  have h1 := (h.fb x hx).2.1.grew hg
  refine ⟨?_, h1.lt⟩
  rw [h1.cell, List.getElem?_toArray]
  exact flat_at valF 3 valF_len _ b y hy 2 _ rfl
theorem set3 (a b c : Value) : ∀ (i : Nat) (L : List Value), i + 3 ≤ L.length → ((L.set i a).set (i + 1) b).set (i + 2) c = Go.splice L i [a, b, c]
  | 0, x :: y :: z :: r, _ => by simp [Go.splice]
  | i + 1, x :: r, h => by
    have ih := set3 a b c i r (by simp at h; omega)
    simp only [List.set_cons_succ, show i + 1 + 1 = (i + 1) + 1 from rfl, show i + 1 + 2 = (i + 2) + 1 from rfl, ih]
    simp only [Go.splice, List.take_succ_cons, List.length_cons, List.length_nil, List.cons_append, show i + 1 + (0 + 1 + 1 + 1) = (i + (0 + 1 + 1 + 1)) + 1 by omega, List.drop_succ_cons]
  | 0, [], h => by simp at h
  | 0, [x], h => by simp at h
  | 0, [x, y], h => by simp at h
  | i + 1, [], h => by simp at h
/-- A value stored over another one. -/
theorem Blk.putVal {w : World} {g : Nat} {t : TypeId} {l : List Ob.Val} (h : Blk w g t (l.flatMap valF).toArray) {b : Nat} (hb : b < l.length) (v : Ob.Val) : Blk (((w.setCell ⟨g, b * 3, none⟩ (.int .u8 ((v.k : Nat) : Int))).setCell ⟨g, b * 3 + 1, none⟩ (.int .i64 v.n)).setCell ⟨g, b * 3 + 2, none⟩ (.int .i64 v.l)) g t ((l.set b v).flatMap valF).toArray := by
  have h1 := ((h.put (b * 3) (.int .u8 ((v.k : Nat) : Int))).put (b * 3 + 1) (.int .i64 v.n)).put (b * 3 + 2) (.int .i64 v.l)
  simp only [List.setIfInBounds_toArray] at h1
  rw [set3 _ _ _ (b * 3) _ (by rw [flatMap_length valF_len]; omega)] at h1
  rw [← splice_flat valF_len l b v hb]
  exact h1
theorem kept3 {F : Nat → Prop} {w w2 : World} {g o : Nat} (h : Kept F w w2) (hg : g < w.heap.size → F g) (c0 c1 c2 : Value) :
    Kept F w (((w2.setCell ⟨g, o, none⟩ c0).setCell ⟨g, o + 1, none⟩ c1).setCell ⟨g, o + 2, none⟩ c2) :=
  ((h.setCell (p := ⟨g, o, none⟩) hg c0).setCell (p := ⟨g, o + 1, none⟩) hg c1).setCell (p := ⟨g, o + 2, none⟩) hg c2
/-- What the operations before the level's store give. -/
def PF (sg gx : Nat) (U : Option Addr) (un cu : Nat) (vl under jl : Int) (k : Nat) (v : Value) (_ : World) : Prop := match k with
  | 2 => v = .pointer (some ⟨sg, 0, none⟩)
  | 3 => v = .agg #[.slice U un cu]
  | 4 => v = .pointer (some ⟨gx, 2, none⟩)
  | 5 => v = .int .i64 vl
  | 6 => v = .int .i64 under
  | 7 => v = .int .i64 jl
  | 8 => v = .pointer (some ⟨gx, 2, none⟩)
  | _ => v = .pointer (some ⟨sg, 0, none⟩)
set_option maxRecDepth 100000 in
set_option maxHeartbeats 8000000 in
theorem put_c (s : SV) (B : Nat) (i k under : Int) (v : Ob.Val) (w : World) (h : StoreAt w B s) :
    Calls Tryd.prog 10 #[.pointer (some ⟨s.g, 0, none⟩), .int .i64 i, .int .i64 k, .int .i64 under, .agg #[.int .u8 ((v.k : Nat) : Int), .int .i64 v.n, .int .i64 v.l]] w (PutPost w B s i k under v) := by
  have HSt := hid h
  have HLv := hid (fun W (hW : Grew w W) => levels_c s B W (h.grew hW))
  have HSC := hid (fun W (hW : Grew w W) => st_cells h hW)
  have HUp := hid (fun W (hW : Grew w W) => st_up h hW)
  have HLe := hid (fun W (hW : Grew w W) a b => leq_c s.U s.cu s.up a b W (by have := h.lens; omega) (h.up.grew hW))
  have HJo := hid (fun W (hW : Grew w W) a b => join_c s.U s.cu s.up a b W (by have := h.lens; omega) (h.up.grew hW))
  have HVal := hid (fun W => value_c s.up.length v W)
  have HI2 := hid (fun W => isIndex_c under ((s.up.length : Nat) : Int) W)
  obtain ⟨b1, e1⟩ : ∃ b1, b1 = Ob.valueB s.up.length v := ⟨_, rfl⟩
  obtain ⟨b2, e2⟩ : ∃ b2, b2 = Ob.inB under ((s.up.length : Nat) : Int) := ⟨_, rfl⟩
  rw [← e1] at HVal
  rw [← e2] at HI2
  have E1 := hid e1
  have E2 := hid e2
  clear h e1 e2
  obtain ⟨vk, vn, vl⟩ := v
  simp only at HVal ⊢
  obtain ⟨un, eun⟩ : ∃ un, un = s.up.length := ⟨_, rfl⟩
  rw [← eun] at HLv HVal HI2 HSC HLe HJo
  have EUN := hid eun
  obtain ⟨sg, esg⟩ : ∃ sg, sg = s.g := ⟨_, rfl⟩
  rw [← esg] at HLv HSC ⊢
  have ESG := hid esg
  clear eun esg
  have G1 := (Grew.refl w).alloc (.cells #[.int .u8 ((vk : Nat) : Int), .int .i64 vn, .int .i64 vl] 39)
  have B1 := Blk.new w 39 #[.int .u8 ((vk : Nat) : Int), .int .i64 vn, .int .i64 vl]
  go_enter Tryd.func10, Tryd.ntmps10
  go_upto_region 1 with fail
  obtain ⟨gx, egx⟩ : ∃ gx, gx = w.heap.size := ⟨_, rfl⟩
  generalize w.alloc (.cells #[.int .u8 ((vk : Nat) : Int), .int .i64 vn, .int .i64 vl] 39) = w1 at *
  rw [← egx] at B1 ⊢
  have EGX := hid egx
  have HG1 := hid G1
  have HB1 := hid B1
  clear G1 B1 egx
  have q0 := fun (y : After w1) => (HB1.out.grew y.grew).cell 0
  have q1 := fun (y : After w1) => (HB1.out.grew y.grew).cell 1
  have q2 := fun (y : After w1) => (HB1.out.grew y.grew).cell 2
  have ql := fun (y : After w1) => (HB1.out.grew y.grew).lt
  simp only [List.getElem?_toArray, List.getElem?_cons_zero, List.getElem?_cons_succ] at q0 q1 q2
  cases b1
  · refine wp_region_grew_from (w0 := w1) (Grew.refl w1) (by kernel_rfl) (by kernel_rfl) ?_
    repeat (go_big_quiet_step (first | (go_at_call 28; exact Calls.grew (After.grew _) (HLv.out _ (HG1.out.trans (After.grew _)))) | (go_at_call 19; exact Calls.grew (After.grew _) (HVal.out _))))
    refine wpQuiet_nil ?_
    rintro _ ⟨y, rfl⟩
    clear q0 q1 q2 ql
    go_wp2_with fail
    go_ret
    exact put_same HSt.out (HG1.out.trans y.grew) 1 (by decide) (Ob.code_arg (by rw [← E1.out]; rfl))
  · cases b2
    · refine wp_region_grew_from (w0 := w1) (Grew.refl w1) (by kernel_rfl) (by kernel_rfl) ?_
      repeat (go_big_quiet_step (first | (go_at_call 28; exact Calls.grew (After.grew _) (HLv.out _ (HG1.out.trans (After.grew _)))) | (go_at_call 19; exact Calls.grew (After.grew _) (HVal.out _)) | (go_at_call 31; exact Calls.grew (After.grew _) (HI2.out _))))
      refine wpQuiet_nil ?_
      rintro _ ⟨y, rfl⟩
      clear q0 q1 q2 ql
      go_wp2_with fail
      go_ret
      exact put_same HSt.out (HG1.out.trans y.grew) 1 (by decide) (Ob.code_arg (by rw [← E2.out, Bool.and_false]))
    · refine wp_region_grew_from (w0 := w1) (Grew.refl w1) (by kernel_rfl) (by kernel_rfl) ?_
      repeat (go_big_quiet_step (first | (go_at_call 28; exact Calls.grew (After.grew _) (HLv.out _ (HG1.out.trans (After.grew _)))) | (go_at_call 19; exact Calls.grew (After.grew _) (HVal.out _)) | (go_at_call 31; exact Calls.grew (After.grew _) (HI2.out _))))
      refine wpQuiet_nil ?_
      rintro _ ⟨y, rfl⟩
      clear q0 q1 q2 ql HLv HVal HI2
      have HA := hid (show (Ob.valueB s.up.length ⟨vk, vn, vl⟩ && Ob.inB under ((s.up.length : Nat) : Int)) = true by rw [← E1.out, ← E2.out]; rfl)
      have HB2 := hid (HB1.out.grew y.grew)
      have HG2 := hid (HG1.out.trans y.grew)
      clear E1 E2 HB1
      generalize y.w = w2 at *
      cases hb3 : Ob.inB i ((s.its.length : Nat) : Int)
      · have HFi : Hid (∀ W, Grew w W → Calls Tryd.prog 26 #[.pointer (some ⟨s.g, 0, none⟩), .int .i64 i] W fun e w' => e = .returned (.iface 77 (.int .i64 3)) ∧ Grew W w') := hid (fun W hW => find_c s B i W (HSt.out.grew hW) false hb3)
        rw [← ESG.out] at HFi
        have HC := hid (Ob.code_obj (k := k) HA.out (by rw [objsI_len]; exact hb3))
        clear hb3
        go_wp2_with (go_at_call 26; refine (HFi.out _ HG2.out).mono ?_; rintro e w3 ⟨rfl, hg3⟩)
        go_ret
        exact put_same HSt.out (HG2.out.trans hg3) 3 (by decide) HC.out
      · have HFi : Hid (∀ W, Grew w W → Calls Tryd.prog 26 #[.pointer (some ⟨s.g, 0, none⟩), .int .i64 i] W fun e w' => e = .returned .nilIface ∧ Grew W w') := hid (fun W hW => find_c s B i W (HSt.out.grew hW) true hb3)
        rw [← ESG.out] at HFi
        obtain ⟨a, rfl⟩ : ∃ a : Nat, i = a := ⟨i.toNat, by simp [Ob.inB] at hb3; omega⟩
        have ha : a < s.its.length := by simp [Ob.inB] at hb3; omega
        obtain ⟨x, hx⟩ : ∃ x, s.its[a]? = some x := ⟨_, List.getElem?_eq_getElem ha⟩
        have HIT := hid (fun W (hW : Grew w W) => it_get HSt.out hW hx)
        have HX := hid hx
        obtain ⟨n, en⟩ : ∃ n, n = s.its.length := ⟨_, rfl⟩
        rw [← en] at ha HSC
        have f1 : (a : Int) < (n : Int) := by omega
        have f2 : (n : Int) ≤ 65536 := by have := HSt.out.len; omega
        obtain ⟨sA, esA⟩ : ∃ sA, sA = s.A := ⟨_, rfl⟩
        rw [← esA] at HIT HSC
        clear hb3 hx ha en esA
        go_upto_region 6 with (go_at_call 26; refine (HFi.out _ HG2.out).mono ?_; rintro e w3 ⟨rfl, hg3⟩)
        have HG3 := hid (HG2.out.trans hg3)
        have HB3 := hid (HB2.out.grew hg3)
        obtain ⟨p0, p1, pl⟩ := HSC.out w3 HG3.out
        obtain ⟨ad, rfl, r0, r1, r2, r3, r4, rl⟩ := HIT.out w3 HG3.out
        clear hg3 HFi HB2 HG2 r0 r1 r3 r4 p0
        go_upto_region 7 with fail
        clear p1 pl r2 rl
        obtain ⟨m, em⟩ : ∃ m, m = x.o.f.length := ⟨_, rfl⟩
        rw [← em]
        have EM := hid em
        obtain ⟨xb, exb⟩ : ∃ xb, xb = x.b := ⟨_, rfl⟩
        rw [← exb]
        have EXB := hid exb
        have HIX := hid (fun W => isIndex_c k ((m : Nat) : Int) W)
        cases hb4 : Ob.inB k ((m : Nat) : Int)
        · rw [hb4] at HIX
          rw [em] at hb4
          have HC := hid (Ob.code_field HA.out (objsI_at HX.out) hb4)
          clear hb4 em exb
          go_wp2_with (go_at_call 31; refine (HIX.out _).mono ?_; rintro e w4 ⟨rfl, hg4⟩)
          go_ret
          exact put_same HSt.out (HG3.out.trans hg4) 3 (by decide) HC.out
        · rw [hb4] at HIX
          obtain ⟨b, rfl⟩ : ∃ b : Nat, k = b := ⟨k.toNat, by simp [Ob.inB] at hb4; omega⟩
          have hb : b < m := by simp [Ob.inB] at hb4; omega
          obtain ⟨y, hy⟩ : ∃ y, x.o.f[b]? = some y := ⟨_, List.getElem?_eq_getElem (by rw [← em]; exact hb)⟩
          have HY := hid hy
          have HC := hid (Ob.code_leq HA.out (objsI_at HX.out) hy)
          have g1 : (b : Int) < (m : Int) := by omega
          have g2 : (m : Int) ≤ 256 := by have := (head_spec (HSt.out.ok x (List.mem_of_getElem? HX.out))).2.2.2.2.1; omega
          have HFld := hid (fun W (hW : Grew w W) => fld_get HSt.out hW (List.mem_of_getElem? HX.out) hy)
          rw [← exb] at HFld
          clear hb4 em exb hb hy
          obtain ⟨yl, eyl⟩ : ∃ yl, yl = y.l := ⟨_, rfl⟩
          rw [← eyl] at HFld HC
          rw [← La.leq_rleq HSt.out.valid] at HC
          clear eyl
          go_upto_region 9 with (go_at_call 31; refine (HIX.out _).mono ?_; rintro e w4 ⟨rfl, hg4⟩)
          have HG4 := hid (HG3.out.trans hg4)
          have HB4 := hid (HB3.out.grew hg4)
          clear hg4 HIX HG3 HB3
          obtain ⟨r, er⟩ : ∃ r, r = La.leq s.up under yl := ⟨_, rfl⟩
          have HLr := hid (fun W (hW : Grew w W) => HLe.out W hW under yl)
          rw [← er] at HLr HC
          clear HLe er
          have q0 := fun (z : After w4) => (HSC.out z.w (HG4.out.trans z.grew)).1
          have q1 := fun (z : After w4) => (HSC.out z.w (HG4.out.trans z.grew)).2.2
          have q2 := fun (z : After w4) => (HFld.out z.w (HG4.out.trans z.grew)).1
          have q3 := fun (z : After w4) => (HFld.out z.w (HG4.out.trans z.grew)).2
          refine wp_region_grew_from (w0 := w4) (Grew.refl w4) (by kernel_rfl) (by kernel_rfl) ?_
          repeat (go_big_quiet_step (first | (go_at_call 25; exact Calls.grew (After.grew _) (HLr.out _ (HG4.out.trans (After.grew _))))))
          refine wpQuiet_nil ?_
          rintro _ ⟨z, rfl⟩
          clear q0 q1 q2 q3
          have HG5 := hid (HG4.out.trans z.grew)
          have HB5 := hid (HB4.out.grew z.grew)
          clear HB4 HLr
          generalize z.w = w5 at *
          cases r
          · go_wp2_with fail
            go_ret
            exact put_same HSt.out HG5.out 11 (by decide) HC.out
          · go_upto_region 11 with fail
            have HC0 := hid (show Ob.putCode s.up (objsI s.its) (a : Int) (b : Int) under ⟨vk, vn, vl⟩ = 0 from HC.out)
            obtain ⟨jl, ejl⟩ : ∃ jl, jl = La.joinOf s.up vl under := ⟨_, rfl⟩
            have HJr := hid (fun W (hW : Grew w W) => HJo.out W hW vl under)
            rw [← ejl] at HJr
            have EJL := hid ejl
            clear ejl HJo HC
            have hmx : Tryd.prog.follows .mixedOrders = true := by kernel_rfl
            refine wp_region_facts (w0 := w5) w5 9 [64, 65, 66, 67, 68, 69, 70, 71, 72] [] (PF sg gx s.U un s.cu vl under jl) hmx (by kernel_rfl) (Grew.refl _) (fun _ _ _ _ h _ => h) ?_ ?_
            · repeat' (first | exact trivial | apply And.intro)
              all_goals
                intro a w' hgw hs hA
                have t0 := hs.eval 0 (by decide) (v := .pointer (some ⟨sg, 0, none⟩)) rfl
                have t3 := hs.eval 3 (by decide) (v := .int .i64 under) rfl
                have t9 := hs.eval 9 (by decide) (v := .pointer (some ⟨gx, 0, none⟩)) rfl
                have HGW := hid (HG5.out.trans hgw)
                have HBe := hid (HB5.out.grew hgw)
                clear hs hgw
                simp only [Ahead, Region.binds, slotOf, PF, List.getD_cons_succ, List.getD_cons_zero, forall_const, and_true] at hA
                simp only [wantedD, if_true]
                unfold Oper.wp
                have ec : ∀ v, a.eval (.const v) = v := fun _ => rfl
                generalize hfe : a.eval = fe at *
                have ef : ∀ k, fe (.func k) = Act.eval ⟨#[], []⟩ (.func k) := fun k => by rw [← hfe]; rfl
                clear hfe
              · go_simp
                exact Gives.of' rfl (Grew.refl _) rfl
              · go_simp
                exact Gives.of' rfl (Grew.refl _) rfl
              · go_simp
                exact Gives.of' rfl (Grew.refl _) rfl
              · obtain ⟨p0, _, pl⟩ := HSC.out w' HGW.out
                go_simp
                exact Gives.of' rfl (Grew.refl _) rfl
              · go_simp
                exact Gives.of' rfl (Grew.refl _) rfl
              · have p2 := HBe.out.cell 2
                have pl := HBe.out.lt
                simp only [List.getElem?_toArray, List.getElem?_cons_zero, List.getElem?_cons_succ] at p2
                go_simp
                exact Gives.of' rfl (Grew.refl _) rfl
              · go_simp
                exact Gives.of' rfl (Grew.refl _) rfl
              · go_simp
                refine (HJr.out w' HGW.out).mono ?_
                rintro e w6 ⟨rfl, hg6⟩
                exact Gives.of' rfl hg6 rfl
              · go_simp
                exact Gives.of' rfl (Grew.refl _) rfl
            · intro a2 w6 hgw hs hf _ _
              have h7 := hf 7 (by decide)
              have h8 := hf 8 (by decide)
              simp only [slotOf, PF, List.getD_cons_succ, List.getD_cons_zero] at h7 h8
              obtain ⟨fn, rfl, hft⟩ := hs.put
              rw [hft] at h7 h8
              have HG6 := hid (HG5.out.trans hgw)
              have HB6 := hid (HB5.out.grew hgw)
              have p2 := HB6.out.cell 2
              have pf := HB6.out.frozen 2
              have pl := HB6.out.lt
              simp only [List.getElem?_toArray, List.getElem?_cons_zero, List.getElem?_cons_succ] at p2
              clear hf hft hs hgw HSC HJr HFld HB5
              simp only [List.drop_succ_cons, List.drop_zero, putAll, List.foldl_cons, List.foldl_nil, Act.put, List.setIfInBounds_toArray, List.set_cons_succ, List.set_cons_zero, h7, h8]
              clear h7 h8
              go_upto_region 12 with fail
              have hgx : ∀ z : IT, z ∈ s.its → z.b ≠ gx := fun z hz => by
                have h1 := (HSt.out.fb z hz).2.1.lt
                have h2 := EGX.out
                omega
              have hm := List.mem_of_getElem? HX.out
              have HW7 := hid (Kept.up ((Kept.of_grew (F := fun k => w.heap.size ≤ k) HG6.out).setCell (p := ⟨gx, 2, none⟩) (fun _ => Nat.le_of_eq EGX.out.symm) (.int .i64 jl)))
              have HB7 := hid (HB6.out.put 2 (.int .i64 jl))
              have HF7 : Hid (Blk (w6.setCell ⟨gx, 2, none⟩ (.int .i64 jl)) xb 39 (x.o.f.flatMap valF).toArray) := hid (by rw [EXB.out]; exact ((HSt.out.fb x hm).2.1.grew HG6.out).far (p := ⟨gx, 2, none⟩) (hgx x hm) _)
              generalize w6.setCell ⟨gx, 2, none⟩ (.int .i64 jl) = w7 at *
              simp only [List.setIfInBounds_toArray, List.set_cons_succ, List.set_cons_zero] at HB7
              have q0 := HB7.out.cell 0
              have q1 := HB7.out.cell 1
              have q2 := HB7.out.cell 2
              have ql := HB7.out.lt
              simp only [List.getElem?_toArray, List.getElem?_cons_zero, List.getElem?_cons_succ] at q0 q1 q2
              have hbm : b < m := by omega
              have hcl : ∀ j u, (valF y)[j]? = some u → w7.cell? ⟨xb, b * 3 + j, none⟩ = some u := fun j u hu => by
                rw [HF7.out.cell, List.getElem?_toArray]
                exact flat_at valF 3 valF_len _ b y HY.out j u hu
              have r0 := hcl 0 _ rfl
              have r1 := hcl 1 _ rfl
              have r2 := hcl 2 _ rfl
              rw [Nat.add_zero] at r0
              have rf := HF7.out.frozen
              have rl := HF7.out.lt
              have HBM := hid hbm
              clear hgx p2 pf pl HB6 hbm hm hcl
              go_wp2_with fail
              go_ret
              have hb8 := HF7.out.putVal (b := b) (by rw [← EM.out]; exact HBM.out) ⟨vk, vn, jl⟩
              have hk8 := kept3 (F := (· = x.b)) (g := xb) (o := b * 3) (Kept.of_grew (F := (· = x.b)) HW7.out) (fun _ => EXB.out) (.int .u8 ((vk : Nat) : Int)) (.int .i64 vn) (.int .i64 jl)
              simp only at hb8
              have hpv : (⟨vk, vn, jl⟩ : Ob.Val) = Ob.putV s.up under ⟨vk, vn, vl⟩ := by rw [EJL.out]; rfl
              rw [hpv] at hb8
              refine put_done HSt.out HX.out HC0.out ?_ ?_
              · rw [EXB.out] at hb8 ⊢
                exact hb8
              · exact hk8
end Go.Proofs.YtcfknfiddadgbaaDoor

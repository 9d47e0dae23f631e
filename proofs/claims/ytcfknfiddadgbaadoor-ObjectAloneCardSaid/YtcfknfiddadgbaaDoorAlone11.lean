/- ObjectAlone: the walk of the law. -/
import Derived.Test.YtcfknfiddadgbaaDoorOcK
namespace Go.Proofs.YtcfknfiddadgbaaDoor
open Go.RowKit

set_option maxRecDepth 100000 in
set_option maxHeartbeats 16000000 in
theorem alone11_walk (A0 : Option Addr) (c0 : Nat) (up : List Nat) (A1 : Option Addr) (c1 : Nat) (l : List OV) (x : AV) (w : World) (hE : HandleAt w) (hU : BytesAt w w.heap.size A0 up) (hL : ObjsAt w A1 l) (hX : AvOk w x) :
    Calls Tryd.prog 4 #[.slice A0 up.length c0, .slice A1 l.length c1, .agg #[.bool x.put, .int .i64 x.o.o.cls, .int .i64 x.o.o.lev, .slice x.o.A x.o.o.f.length x.o.c, .string x.o.o.b, .int .i64 x.i, .int .i64 x.k, .int .i64 x.u, .int .u8 ((x.v.k : Nat) : Int), .int .i64 x.v.n, .int .i64 x.v.l]] w fun e w' => e = .returned (.bool true) ∧ Grew w w' := by
  have HE := hid hE
  have HU := hid hU
  have HA := hid hL
  have HXv := hid hX.v
  clear hE hU hL hX
  obtain ⟨pb, ⟨⟨ocls, olev, of, ob⟩, oA, oc⟩, xi, xk, xu, ⟨vk, vn, vl⟩⟩ := x
  simp only at HXv ⊢
  generalize of.length = om at *
  have B1 := Blk.new w 57 #[.bool pb, .int .i64 ocls, .int .i64 olev, .slice oA om oc, .string ob, .int .i64 xi, .int .i64 xk, .int .i64 xu, .int .u8 ((vk : Nat) : Int), .int .i64 vn, .int .i64 vl]
  have G1 := (Grew.refl w).alloc (.cells #[.bool pb, .int .i64 ocls, .int .i64 olev, .slice oA om oc, .string ob, .int .i64 xi, .int .i64 xk, .int .i64 xu, .int .u8 ((vk : Nat) : Int), .int .i64 vn, .int .i64 vl] 57)
  go_enter Tryd.func4, Tryd.ntmps4
  go_upto_region 1 with fail
  generalize w.alloc (.cells #[.bool pb, .int .i64 ocls, .int .i64 olev, .slice oA om oc, .string ob, .int .i64 xi, .int .i64 xk, .int .i64 xu, .int .u8 ((vk : Nat) : Int), .int .i64 vn, .int .i64 vl] 57) = w1 at *
  obtain ⟨gx, egx⟩ : ∃ gx, gx = w.heap.size := ⟨_, rfl⟩
  rw [← egx] at B1 ⊢
  clear egx
  have HG1 := hid G1
  have HB1 := hid B1
  have HBig := hid (bigObjs_c A1 c1 l w1 (HA.out.grew G1))
  clear B1 G1
  by_cases h20 : up.length ≤ 20
  · have g20 : ¬ (20 : Int) < (up.length : Int) := by omega
    cases hb : bigB (objs l)
    · rw [hb] at HBig
      have HFit := hid (fit_of hb)
      clear hb
      go_upto_region 3 with (go_at_call 12; refine HBig.out.mono ?_; rintro e w2 ⟨rfl, hg2⟩)
      have HG2 := hid (HG1.out.trans hg2)
      have HB2 := hid (HB1.out.grew hg2)
      clear hg2 HBig HB1 HG1
      go_upto_region 4 with fail
      have BL := Blk.new w2 46 #[.slice A0 up.length c0]
      have GL := (Grew.refl w2).alloc (.cells #[.slice A0 up.length c0] 46)
      have HB3 := hid (HB2.out.grew GL)
      have HG3 := hid (HG2.out.trans GL)
      generalize w2.alloc (.cells #[.slice A0 up.length c0] 46) = w3 at *
      generalize w2.heap.size = gl at *
      have HBL := hid BL
      clear BL GL HB2 HG2
      obtain ⟨ok, eok⟩ : ∃ ok, ok = (La.valid up && (objs l).all (Ob.mayB up.length)) := ⟨_, rfl⟩
      have EOK := hid eok
      clear eok
      refine wp_region_facts4 (w0 := w3) w3 9 9 [27, 28, 29, 30, 26, 31, 32, 8, 9] [] (NF w3 A0 up.length c0 A1 l.length c1 up (objs l) ok) (Kept (fun _ => False)) (fun _ => Kept (fun _ => False)) (fun _ _ => True) (May.kept _) (fun _ _ _ h => h) (fun _ w => Kept.refl _ w) (by kernel_rfl) (by kernel_rfl) (Kept.refl _ _).drew trivial (fun a _ v w w' _ _ _ _ h hr => NF.grew a v w w' h (Kept.grew hr (Grew.refl _) (fun _ h => h.elim))) ?_ ?_
      · repeat' (first | exact trivial | apply And.intro)
        all_goals
          intro a w' fl hgk hJ hfi hdep hs hA
          have hgw : Grew w3 w' := Kept.grew hgk (Grew.refl _) (fun _ h => h.elim)
          have e1 := hs.eval 1 (by decide) (v := .slice A1 l.length c1) rfl
          have e7 := hs.eval 7 (by decide) (v := .pointer (some ⟨gl, 0, none⟩)) rfl
          have p0 := (HBL.out.grew hgw).cell 0
          have pl := (HBL.out.grew hgw).lt
          simp only [List.getElem?_toArray, List.getElem?_cons_zero] at p0
          have HGw := hid (HG3.out.trans hgw)
          have hle := hgw.below.size
          clear hs hgk hJ hfi hdep hgw
          simp only [Ahead, Region.binds, slotOf, NF, List.getD_cons_succ, List.getD_cons_zero, forall_const, and_true] at hA
          simp only [wantedD, if_true]
          unfold Oper.wp
          have ec : ∀ v, a.eval (.const v) = v := fun _ => rfl
          generalize hfe : a.eval = fe at *
          have ef : ∀ k, fe (.func k) = Act.eval ⟨#[], []⟩ (.func k) := fun k => by rw [← hfe]; rfl
          clear hfe
        · go_simp
          exact Gives3.of rfl (Kept.refl _ _) rfl trivial
        · go_simp
          exact Gives3.of rfl (Kept.refl _ _) rfl trivial
        · go_simp
          refine (giveObjs_c A1 c1 l w' (HA.out.grew HGw.out) (fun v hv => by have := HFit.out.2.f _ (objs_mem hv); omega) (by have := HFit.out.1; rw [objs_len] at this; omega)).mono ?_
          rintro e w6 ⟨vs, A3, c3, rfl, hvo, hv3, hg6⟩
          exact Gives3.of rfl (Kept.of_grew hg6) ⟨vs, A3, c3, rfl, hvo, hv3⟩ trivial
        · obtain ⟨h1, ⟨vs, A3, c3, h2, h3, h4⟩, _⟩ := hA
          have HVa := hid h4
          have hlv : vs.length ≤ 1000 := by have h5 := HFit.out.1; have h6 := congrArg List.length h3; rw [objs_len] at h6; omega
          have hcall := new_c A0 c0 up A3 c3 vs w' h20 (HU.out.grew HGw.out) HVa.out hlv
          rw [h3] at hcall
          clear h4 hlv h3
          go_simp
          refine hcall.mono ?_
          intro e w6 hpost
          have hif := new_if hpost
          rw [← EOK.out] at hif
          cases ok
          · rw [if_neg (by decide)] at hif
            obtain ⟨k, rfl, hg6⟩ := hif
            exact Gives3.of rfl (Kept.of_grew hg6) ⟨k, rfl⟩ trivial
          · rw [if_pos rfl] at hif
            obtain ⟨s, rfl, hs, hu, hl, hg6⟩ := hif
            exact Gives3.of rfl (Kept.of_grew hg6) ⟨s, rfl, hs.base hle, hu, hl⟩ trivial
        · cases ok
          · obtain ⟨k, hv⟩ := hA
            go_simp
            exact Gives3.of rfl (Kept.refl _ _) ⟨k, rfl⟩ trivial
          · obtain ⟨s, hv, hs⟩ := hA
            have HSs := hid hs
            clear hs
            go_simp
            exact Gives3.of rfl (Kept.refl _ _) ⟨s, rfl, HSs.out⟩ trivial
        · cases ok
          · obtain ⟨k, hv⟩ := hA
            go_simp
            exact Gives3.of rfl (Kept.refl _ _) rfl trivial
          · obtain ⟨s, hv, hs⟩ := hA
            have HSs := hid hs
            clear hs
            go_simp
            exact Gives3.of rfl (Kept.refl _ _) ⟨s, rfl, HSs.out⟩ trivial
        · cases ok
          · obtain ⟨k, hv⟩ := hA.1
            go_simp
            exact Gives3.of rfl (Kept.refl _ _) ⟨k, rfl⟩ trivial
          · obtain ⟨s, hv, hs⟩ := hA.1
            clear hs
            go_simp
            exact Gives3.of rfl (Kept.refl _ _) rfl trivial
        · cases ok
          · have hv : fe (.tmp 31) = .pointer none := hA.1
            go_simp
            exact Gives3.of rfl (Kept.refl _ _) rfl trivial
          · obtain ⟨s, hv, hs⟩ := hA.1
            have HSs := hid hs
            clear hs
            go_simp
            exact Gives3.of rfl (Kept.refl _ _) ⟨s, rfl, HSs.out⟩ trivial
        · cases ok
          · obtain ⟨k, hv⟩ := hA.1
            go_simp
            exact Gives3.of rfl (Kept.refl _ _) ⟨k, rfl⟩ trivial
          · have hv : fe (.tmp 32) = .nilIface := hA.1
            go_simp
            exact Gives3.of rfl (Kept.refl _ _) rfl trivial
      · intro a w4 hgk hs hf _ _
        have hgw : Grew w3 w4 := Kept.grew hgk (Grew.refl _) (fun _ h => h.elim)
        have h7 := hf 7 (by decide)
        have h8 := hf 8 (by decide)
        simp only [slotOf, NF, List.getD_cons_succ, List.getD_cons_zero] at h7 h8
        obtain ⟨fn, rfl, hft⟩ := hs.put
        rw [hft] at h7 h8
        have HG4 := hid (HG3.out.trans hgw)
        have HB4 := hid (HB3.out.grew hgw)
        have HBL4 := hid (HBL.out.grew hgw)
        have HW3 := hid (show w.heap.size ≤ w3.heap.size from HG3.out.below.size)
        have HGX := hid HB3.out.lt
        have HGL := hid HBL.out.lt
        clear hf hft hs hgw hgk HB3 HBL HG3
        cases ok
        · rw [if_neg (by decide)] at h7 h8
          obtain ⟨k, h8⟩ := h8
          simp only [List.drop_succ_cons, List.drop_zero, putAll, List.foldl_cons, List.foldl_nil, Act.put, List.setIfInBounds_toArray, List.set_cons_succ, List.set_cons_zero, h7, h8]
          clear h7 h8
          go_wp2_with (go_at_call 13; refine (sure_c w4 (HE.out.grew HG4.out)).mono ?_; rintro e w9 ⟨rfl, hg9⟩)
          go_ret
          exact ⟨rfl, HG4.out.trans hg9⟩
        · rw [if_pos rfl] at h7 h8
          obtain ⟨s, h7, hs, hsu, hsl⟩ := h7
          have HS := hid hs
          have HSu := hid hsu
          have HSl := hid hsl
          have HBx := HB4.out.cell
          have HBxl := HB4.out.lt
          have b5 := HBx 5
          have b6 := HBx 6
          have b7 := HBx 7
          have b8 := HBx 8
          have b9 := HBx 9
          have b10 := HBx 10
          simp only [List.getElem?_toArray, List.getElem?_cons_zero, List.getElem?_cons_succ] at b5 b6 b7 b8 b9 b10
          simp only [List.drop_succ_cons, List.drop_zero, putAll, List.foldl_cons, List.foldl_nil, Act.put, List.setIfInBounds_toArray, List.set_cons_succ, List.set_cons_zero, h7, h8]
          clear h7 h8 hs hsu hsl HBx
          go_wp2_with fail
          refine (put_c s w3.heap.size xi xk xu ⟨vk, vn, vl⟩ w4 HS.out).mono ?_
          intro e w5 hpost
          obtain ⟨s2, rfl, h1, h2, h3, h3b, h4, h5, h6⟩ := hpost
          rw [HSu.out, HSl.out] at h4 ⊢
          have HS2 := hid h1
          have HP := hid h4
          have HG5 := hid (own_grew HS.out HW3.out HG4.out h5)
          have HB5 := hid (HB4.out.kept h5 (fun ho => by have h7 := (HS.out.owns ho).1; have h8 := HGX.out; omega))
          have HBL5 := hid (HBL4.out.kept h5 (fun ho => by have h7 := (HS.out.owns ho).1; have h8 := HGL.out; omega))
          have HVal := hid (show La.valid up = true by rw [← HSu.out]; exact HS.out.valid)
          rw [← h2]
          obtain ⟨sg, esg⟩ : ∃ sg, sg = s2.g := ⟨_, rfl⟩
          have HGe := hid (fun W (hW : Grew w5 W) i x (hx : s2.its[i]? = some x) => get_c s2 w3.heap.size i x W (HS2.out.grew hW) hx)
          rw [← esg] at HGe ⊢
          obtain ⟨pc, epc⟩ : ∃ pc, pc = Ob.putCode up (objs l) xi xk xu ⟨vk, vn, vl⟩ := ⟨_, rfl⟩
          have hev := err_neq pc
          have hgd := err_guard pc
          have EPC := hid epc
          rw [← epc]
          clear h1 h2 h3 h3b h4 h5 h6 esg epc b5 b6 b7 b8 b9 b10 HBxl HB4 HBL4 HG4 HS HSl HSu
          have hnl : l.length ≤ 60 := by have h1 := HFit.out.1; rw [objs_len] at h1; exact h1
          obtain ⟨ev, eev⟩ : ∃ ev, ev = errVal pc := ⟨_, rfl⟩
          rw [← eev] at hev hgd ⊢
          clear eev
          obtain ⟨n, en⟩ : ∃ n, n = l.length := ⟨_, rfl⟩
          rw [← en] at hnl ⊢
          have EN := hid en
          clear en
          go_upto_region 9 with fail
          go_loopw [11, 12, 13, 14, 15] (fun s11 _ _ _ _ wr => ∃ j : Nat, s11 = .int .i64 ((j : Nat) : Int) ∧ j ≤ n ∧ Hid (Grew w5 wr)) (fun s11 _ _ _ _ _ => n - (intOf s11).toNat)
          case atStart => exact ⟨0, rfl, Nat.zero_le _, hid (Grew.refl _)⟩
          case round =>
            obtain ⟨j, rfl, hj, HR⟩ := hrel
            by_cases hlt : j < n
            · have f1 : (j : Int) < n := by omega
              obtain ⟨ad, z, rfl, hz, p0, p1, p2, p3, pl, hzo⟩ := ov_get HA.out (HG5.out.trans HR.out) (i := j) (by rw [← EN.out]; exact hlt)
              obtain ⟨it, hit⟩ : ∃ it, s2.its[j]? = some it := ⟨_, List.getElem?_eq_getElem (by have h1 := congrArg List.length HP.out; rw [objsI_len, Ob.put_len, objs_len, ← EN.out] at h1; rw [h1]; exact hlt)⟩
              have hio : (Ob.put up (objs l) xi xk xu ⟨vk, vn, vl⟩)[j]? = some it.o := by rw [← HP.out]; exact objsI_at hit
              have hhd := put_head (objs_at hz) hio
              have hget := HGe.out wr HR.out j it hit
              unfold GetPost at hget
              rw [hhd.1, hhd.2.1, hhd.2.2.1, hhd.2.2.2] at hget
              have HIo := hid hio
              have HZ := hid (objs_at hz)
              have HZw := hid (HA.out.ok z (List.mem_of_getElem? hz))
              have HFl := hid hhd.2.2.2
              clear hz hio hhd hit hzo
              have hzl : z.o.f.length ≤ 1000 := by have h1 := HFit.out.2.f z.o (List.mem_of_getElem? HZ.out); omega
              go_wp2_with fail
              refine hget.mono ?_
              rintro e w6 ⟨bf, rfl, hbf, hbk, hg6⟩
              have HR6 := hid (HR.out.trans hg6)
              have P := hid (And.intro ((hg6.below.cell (p := ad.add (j * 4)) (by rw [block_add]; exact pl)).trans p0) (And.intro ((hg6.below.cell (p := ⟨ad.block, (ad.add (j * 4)).off + 1, none⟩) pl).trans p1) (And.intro ((hg6.below.cell (p := ⟨ad.block, (ad.add (j * 4)).off + 2, none⟩) pl).trans p2) (And.intro ((hg6.below.cell (p := ⟨ad.block, (ad.add (j * 4)).off + 3, none⟩) pl).trans p3) (Nat.lt_of_lt_of_le pl hg6.below.size)))))
              clear p0 p1 p2 p3 pl hget hbf hg6
              obtain ⟨⟨zc, zl, zf, zb⟩, zA, zcap⟩ := z
              simp only at P hzl HFl HZ HZw ⊢
              obtain ⟨m, em⟩ : ∃ m, m = zf.length := ⟨_, rfl⟩
              rw [← em] at P hzl HFl ⊢
              have EM := hid em
              clear em
              go_upto_region 12 with fail
              have hgn := (Grew.refl w6).alloc (.cells #[.int .i64 zc, .int .i64 zl, .slice (some ⟨bf, 0, none⟩) m m, .string zb] 28)
              have hbn := Blk.new w6 28 #[.int .i64 zc, .int .i64 zl, .slice (some ⟨bf, 0, none⟩) m m, .string zb]
              have HR7 := hid (HR6.out.trans hgn)
              have HF7 := hid (hbk.grew hgn)
              have P7 := hid (And.intro ((hgn.below.cell (p := ad.add (j * 4)) (by rw [block_add]; exact P.out.2.2.2.2)).trans P.out.1) (And.intro ((hgn.below.cell (p := ⟨ad.block, (ad.add (j * 4)).off + 1, none⟩) P.out.2.2.2.2).trans P.out.2.1) (And.intro ((hgn.below.cell (p := ⟨ad.block, (ad.add (j * 4)).off + 2, none⟩) P.out.2.2.2.2).trans P.out.2.2.1) (And.intro ((hgn.below.cell (p := ⟨ad.block, (ad.add (j * 4)).off + 3, none⟩) P.out.2.2.2.2).trans P.out.2.2.2.1) (Nat.lt_of_lt_of_le P.out.2.2.2.2 hgn.below.size)))))
              generalize w6.alloc (.cells #[.int .i64 zc, .int .i64 zl, .slice (some ⟨bf, 0, none⟩) m m, .string zb] 28) = w7 at *
              generalize w6.heap.size = go at *
              have HB7 := hid hbn
              clear hgn hbn hbk P HR6
              have a0 := fun (y : After w7) => (HB7.out.grew y.grew).cell 0
              have a1 := fun (y : After w7) => (HB7.out.grew y.grew).cell 1
              have a2 := fun (y : After w7) => (HB7.out.grew y.grew).cell 2
              have a3 := fun (y : After w7) => (HB7.out.grew y.grew).cell 3
              have al := fun (y : After w7) => (HB7.out.grew y.grew).lt
              simp only [List.getElem?_toArray, List.getElem?_cons_zero, List.getElem?_cons_succ] at a0 a1 a2 a3
              have p0 := fun (y : After w7) => (y.cell (ad.add (j * 4)) (by rw [block_add]; exact P7.out.2.2.2.2)).trans P7.out.1
              have p1 := fun (y : After w7) => (y.cell ⟨ad.block, (ad.add (j * 4)).off + 1, none⟩ P7.out.2.2.2.2).trans P7.out.2.1
              have p2 := fun (y : After w7) => (y.cell ⟨ad.block, (ad.add (j * 4)).off + 2, none⟩ P7.out.2.2.2.2).trans P7.out.2.2.1
              have p3 := fun (y : After w7) => (y.cell ⟨ad.block, (ad.add (j * 4)).off + 3, none⟩ P7.out.2.2.2.2).trans P7.out.2.2.2.1
              have pl := fun (y : After w7) => y.lt _ P7.out.2.2.2.2
              refine wp_region_grew_from (w0 := w7) (Grew.refl w7) (by kernel_rfl) (by kernel_rfl) ?_
              repeat (go_big_quiet_step (fail))
              refine wpQuiet_nil ?_
              rintro _ ⟨y, rfl⟩
              clear a0 a1 a2 a3 al p0 p1 p2 p3 pl
              have HR8 := hid (HR7.out.trans y.grew)
              have HB8 := hid (HB7.out.grew y.grew)
              have HF8 := hid (HF7.out.grew y.grew)
              have HP2 := hid ((y.cell ⟨ad.block, (ad.add (j * 4)).off + 2, none⟩ P7.out.2.2.2.2).trans P7.out.2.2.1)
              have HPl := hid (y.lt _ P7.out.2.2.2.2)
              generalize y.w = w8 at *
              clear HB7 HF7 P7 HR7
              go_upto_region 15 with fail
              go_loopw [14, 15] (fun s14 _ wr => ∃ b : Nat, s14 = .int .i64 ((b : Nat) : Int) ∧ b ≤ m ∧ Hid (Grew w8 wr)) (fun s14 _ _ => m - (intOf s14).toNat)
              case atStart => exact ⟨0, rfl, Nat.zero_le _, hid (Grew.refl _)⟩
              case round =>
                obtain ⟨b, rfl, hbm, HQ⟩ := hrel
                have HB9 := hid (HB8.out.grew HQ.out)
                have o2 := HB9.out.cell 2
                have ol := HB9.out.lt
                simp only [List.getElem?_toArray, List.getElem?_cons_zero, List.getElem?_cons_succ] at o2
                by_cases hlb : b < m
                · have f2 : (b : Int) < m := by omega
                  obtain ⟨v9, hv9⟩ : ∃ v9, it.o.f[b]? = some v9 := ⟨_, List.getElem?_eq_getElem (by rw [HFl.out]; exact hlb)⟩
                  obtain ⟨x9, hx9⟩ : ∃ x9, zf[b]? = some x9 := ⟨_, List.getElem?_eq_getElem (by rw [← EM.out]; exact hlb)⟩
                  have HF9 := hid (HF8.out.grew HQ.out)
                  have hcl : ∀ q u, (valF v9)[q]? = some u → wr.cell? ⟨bf, b * 3 + q, none⟩ = some u := fun q u hu => by
                    rw [HF9.out.cell, List.getElem?_toArray]
                    exact flat_at valF 3 valF_len _ b v9 hv9 q u hu
                  have r0 := hcl 0 _ rfl
                  have r1 := hcl 1 _ rfl
                  have r2 := hcl 2 _ rfl
                  rw [Nat.add_zero] at r0
                  have rl := HF9.out.lt
                  have HFd := hid (fun hq => put_field HZ.out HIo.out hx9 hv9 hq)
                  have HTh := hid (fun (hj2 : xi = (j : Int)) (hb2 : xk = (b : Int)) (hc2 : pc = 0) => put_there (under := xu) (v := ⟨vk, vn, vl⟩) HU.out.1 HVal.out HZ.out (by rw [← hj2, ← hb2]; exact HIo.out) hx9 hv9 (by rw [← hj2, ← hb2, ← EPC.out]; exact hc2))
                  obtain ⟨ad3, x10, eA, hx10, s0, s1, s2, sl, _⟩ := val_at HZw.out.f ((HG5.out.trans HR8.out).trans HQ.out) (i := b) (by rw [← EM.out]; exact hlb)
                  rw [hx9] at hx10
                  obtain rfl := Option.some.inj hx10
                  clear hx10 hv9 hx9 hcl
                  obtain ⟨k9, n9, l9⟩ := v9
                  obtain ⟨kx, nx, lx⟩ := x9
                  simp only at r0 r1 r2 s0 s1 s2
                  have HZ2 := hid ((HQ.out.below.cell (p := ⟨ad.block, (ad.add (j * 4)).off + 2, none⟩) HPl.out).trans HP2.out)
                  have HZl := hid (Nat.lt_of_lt_of_le HPl.out HQ.out.below.size)
                  go_upto_region 18 with fail
                  have hgn := (Grew.refl wr).alloc (.cells #[.int .u8 ((k9 : Nat) : Int), .int .i64 n9, .int .i64 l9] 39)
                  have hbn := Blk.new wr 39 #[.int .u8 ((k9 : Nat) : Int), .int .i64 n9, .int .i64 l9]
                  have HQ2 := hid (HQ.out.trans hgn)
                  have S := hid (And.intro ((hgn.below.cell (p := ad3.add (b * 3)) (by rw [block_add]; exact sl)).trans s0) (And.intro ((hgn.below.cell (p := ⟨ad3.block, (ad3.add (b * 3)).off + 1, none⟩) sl).trans s1) (And.intro ((hgn.below.cell (p := ⟨ad3.block, (ad3.add (b * 3)).off + 2, none⟩) sl).trans s2) (And.intro (Nat.lt_of_lt_of_le sl hgn.below.size) (And.intro ((hgn.below.cell (p := ⟨ad.block, (ad.add (j * 4)).off + 2, none⟩) HZl.out).trans HZ2.out) (Nat.lt_of_lt_of_le HZl.out hgn.below.size))))))
                  have HX2 := hid (HB5.out.grew (HR8.out.trans HQ2.out))
                  have HL2 := hid (HBL5.out.grew (HR8.out.trans HQ2.out))
                  generalize wr.alloc (.cells #[.int .u8 ((k9 : Nat) : Int), .int .i64 n9, .int .i64 l9] 39) = wv at *
                  generalize wr.heap.size = gv at *
                  have HV2 := hid hbn
                  clear r0 r1 r2 rl s0 s1 s2 sl hgn hbn o2 ol HB9 HF9 HZ2 HZl
                  have x5 := HX2.out.cell 5
                  have x6 := HX2.out.cell 6
                  have xl := HX2.out.lt
                  simp only [List.getElem?_toArray, List.getElem?_cons_zero, List.getElem?_cons_succ] at x5 x6
                  have hq : (pc ≠ 0) ∨ (pc = 0 ∧ (j : Int) ≠ xi) ∨ (pc = 0 ∧ (j : Int) = xi ∧ (b : Int) ≠ xk) ∨ (pc = 0 ∧ (j : Int) = xi ∧ (b : Int) = xk) := by
                    by_cases c1 : pc = 0
                    · by_cases c2 : (j : Int) = xi
                      · by_cases c3 : (b : Int) = xk
                        · exact .inr (.inr (.inr ⟨c1, c2, c3⟩))
                        · exact .inr (.inr (.inl ⟨c1, c2, c3⟩))
                      · exact .inr (.inl ⟨c1, c2⟩)
                    · exact .inl c1
                  rcases hq with hq | hq | hq | hq
                  · have hy := HFd.out (.inl (by rw [← EPC.out]; exact hq))
                    obtain ⟨rfl, rfl, rfl⟩ : k9 = kx ∧ n9 = nx ∧ l9 = lx := by simpa using hy
                    have hev1 : ∀ w, (binOp .neq 30 ev .nilIface).run Tryd.prog w = .ok (.bool true) w := fun w => by rw [hev, decide_eq_true hq]
                    clear hq hev hy HFd HTh
                    subst eA
                    go_upto_region 19 with fail
                    have a0 := fun (y : After wv) => (HV2.out.grew y.grew).cell 0
                    have a1 := fun (y : After wv) => (HV2.out.grew y.grew).cell 1
                    have a2 := fun (y : After wv) => (HV2.out.grew y.grew).cell 2
                    have al := fun (y : After wv) => (HV2.out.grew y.grew).lt
                    simp only [List.getElem?_toArray, List.getElem?_cons_zero, List.getElem?_cons_succ] at a0 a1 a2
                    have t0 := fun (y : After wv) => (y.cell (ad3.add (b * 3)) (by rw [block_add]; exact S.out.2.2.2.1)).trans S.out.1
                    have t1 := fun (y : After wv) => (y.cell ⟨ad3.block, (ad3.add (b * 3)).off + 1, none⟩ S.out.2.2.2.1).trans S.out.2.1
                    have t2 := fun (y : After wv) => (y.cell ⟨ad3.block, (ad3.add (b * 3)).off + 2, none⟩ S.out.2.2.2.1).trans S.out.2.2.1
                    have tl := fun (y : After wv) => y.lt _ S.out.2.2.2.1
                    have c2 := fun (y : After wv) => (y.cell ⟨ad.block, (ad.add (j * 4)).off + 2, none⟩ S.out.2.2.2.2.2).trans S.out.2.2.2.2.1
                    have cl := fun (y : After wv) => y.lt _ S.out.2.2.2.2.2
                    refine wp_region_grew_from (w0 := wv) (Grew.refl wv) (by kernel_rfl) (by kernel_rfl) ?_
                    repeat (go_big_quiet_step (fail))
                    refine wpQuiet_nil ?_
                    rintro _ ⟨y, rfl⟩
                    have HQ3 := hid (HQ2.out.trans y.grew)
                    clear a0 a1 a2 al t0 t1 t2 tl c2 cl
                    go_wp2_with fail
                    go_round
                    case rel => exact ⟨b + 1, by go_num, by omega, HQ3⟩
                    case measure => simp [intOf]; omega
                  · have hy := HFd.out (.inr (.inl hq.2))
                    obtain ⟨rfl, rfl, rfl⟩ : k9 = kx ∧ n9 = nx ∧ l9 = lx := by simpa using hy
                    have hev1 : ∀ w, (binOp .neq 30 ev .nilIface).run Tryd.prog w = .ok (.bool false) w := fun w => by rw [hev, hq.1]; rfl
                    have hji : ((j : Int) != xi) = true := by simpa using hq.2
                    clear hq hev hy HFd HTh
                    subst eA
                    go_upto_region 19 with fail
                    have a0 := fun (y : After wv) => (HV2.out.grew y.grew).cell 0
                    have a1 := fun (y : After wv) => (HV2.out.grew y.grew).cell 1
                    have a2 := fun (y : After wv) => (HV2.out.grew y.grew).cell 2
                    have al := fun (y : After wv) => (HV2.out.grew y.grew).lt
                    simp only [List.getElem?_toArray, List.getElem?_cons_zero, List.getElem?_cons_succ] at a0 a1 a2
                    have t0 := fun (y : After wv) => (y.cell (ad3.add (b * 3)) (by rw [block_add]; exact S.out.2.2.2.1)).trans S.out.1
                    have t1 := fun (y : After wv) => (y.cell ⟨ad3.block, (ad3.add (b * 3)).off + 1, none⟩ S.out.2.2.2.1).trans S.out.2.1
                    have t2 := fun (y : After wv) => (y.cell ⟨ad3.block, (ad3.add (b * 3)).off + 2, none⟩ S.out.2.2.2.1).trans S.out.2.2.1
                    have tl := fun (y : After wv) => y.lt _ S.out.2.2.2.1
                    have c2 := fun (y : After wv) => (y.cell ⟨ad.block, (ad.add (j * 4)).off + 2, none⟩ S.out.2.2.2.2.2).trans S.out.2.2.2.2.1
                    have cl := fun (y : After wv) => y.lt _ S.out.2.2.2.2.2
                    refine wp_region_grew_from (w0 := wv) (Grew.refl wv) (by kernel_rfl) (by kernel_rfl) ?_
                    repeat (go_big_quiet_step (fail))
                    refine wpQuiet_nil ?_
                    rintro _ ⟨y, rfl⟩
                    have HQ3 := hid (HQ2.out.trans y.grew)
                    clear a0 a1 a2 al t0 t1 t2 tl c2 cl
                    go_wp2_with fail
                    go_round
                    case rel => exact ⟨b + 1, by go_num, by omega, HQ3⟩
                    case measure => simp [intOf]; omega
                  · have hy := HFd.out (.inr (.inr hq.2.2))
                    obtain ⟨rfl, rfl, rfl⟩ : k9 = kx ∧ n9 = nx ∧ l9 = lx := by simpa using hy
                    have hev1 : ∀ w, (binOp .neq 30 ev .nilIface).run Tryd.prog w = .ok (.bool false) w := fun w => by rw [hev, hq.1]; rfl
                    have hji : ((j : Int) != xi) = false := by simpa using hq.2.1
                    have hbk : ((b : Int) != xk) = true := by simpa using hq.2.2
                    clear hq hev hy HFd HTh
                    subst eA
                    go_upto_region 19 with fail
                    have a0 := fun (y : After wv) => (HV2.out.grew y.grew).cell 0
                    have a1 := fun (y : After wv) => (HV2.out.grew y.grew).cell 1
                    have a2 := fun (y : After wv) => (HV2.out.grew y.grew).cell 2
                    have al := fun (y : After wv) => (HV2.out.grew y.grew).lt
                    simp only [List.getElem?_toArray, List.getElem?_cons_zero, List.getElem?_cons_succ] at a0 a1 a2
                    have t0 := fun (y : After wv) => (y.cell (ad3.add (b * 3)) (by rw [block_add]; exact S.out.2.2.2.1)).trans S.out.1
                    have t1 := fun (y : After wv) => (y.cell ⟨ad3.block, (ad3.add (b * 3)).off + 1, none⟩ S.out.2.2.2.1).trans S.out.2.1
                    have t2 := fun (y : After wv) => (y.cell ⟨ad3.block, (ad3.add (b * 3)).off + 2, none⟩ S.out.2.2.2.1).trans S.out.2.2.1
                    have tl := fun (y : After wv) => y.lt _ S.out.2.2.2.1
                    have c2 := fun (y : After wv) => (y.cell ⟨ad.block, (ad.add (j * 4)).off + 2, none⟩ S.out.2.2.2.2.2).trans S.out.2.2.2.2.1
                    have cl := fun (y : After wv) => y.lt _ S.out.2.2.2.2.2
                    refine wp_region_grew_from (w0 := wv) (Grew.refl wv) (by kernel_rfl) (by kernel_rfl) ?_
                    repeat (go_big_quiet_step (fail))
                    refine wpQuiet_nil ?_
                    rintro _ ⟨y, rfl⟩
                    have HQ3 := hid (HQ2.out.trans y.grew)
                    clear a0 a1 a2 al t0 t1 t2 tl c2 cl
                    go_wp2_with fail
                    go_round
                    case rel => exact ⟨b + 1, by go_num, by omega, HQ3⟩
                    case measure => simp [intOf]; omega
                  · have hth := HTh.out hq.2.1.symm hq.2.2.symm hq.1
                    simp only at hth
                    obtain ⟨rfl, rfl, g3, g4, g5⟩ := hth
                    have hev1 : ∀ w, (binOp .neq 30 ev .nilIface).run Tryd.prog w = .ok (.bool false) w := fun w => by rw [hev, hq.1]; rfl
                    have hji : ((j : Int) != xi) = false := by simpa using hq.2.1
                    have hbk : ((b : Int) != xk) = false := by simpa using hq.2.2
                    have HLq := hid (fun W (hW : Grew wv W) a b => leq_c A0 c0 up a b W h20 (HU.out.grew (((HG5.out.trans HR8.out).trans HQ2.out).trans hW)))
                    have HL3 : Hid (∀ W, Grew wv W → Calls Tryd.prog 25 #[.agg #[.slice A0 up.length c0], .int .i64 xu, .int .i64 l9] W fun e w' => e = .returned (.bool true) ∧ Grew W w') := hid (fun W hW => by have h1 := HLq.out W hW xu l9; rwa [g3] at h1)
                    have HL4 : Hid (∀ W, Grew wv W → Calls Tryd.prog 25 #[.agg #[.slice A0 up.length c0], .int .i64 vl, .int .i64 l9] W fun e w' => e = .returned (.bool true) ∧ Grew W w') := hid (fun W hW => by have h1 := HLq.out W hW vl l9; rwa [g4] at h1)
                    have HL5 : Hid (∀ W, Grew wv W → Calls Tryd.prog 25 #[.agg #[.slice A0 up.length c0], .int .i64 xu, .int .i64 lx] W fun e w' => e = .returned (.bool true) ∧ Grew W w') := hid (fun W hW => by have h1 := HLq.out W hW xu lx; rwa [g5] at h1)
                    clear hq hev HFd HTh HLq g3 g4 g5
                    subst eA
                    go_upto_region 21 with fail
                    have a0 := fun (y : After wv) => (HV2.out.grew y.grew).cell 0
                    have a1 := fun (y : After wv) => (HV2.out.grew y.grew).cell 1
                    have a2 := fun (y : After wv) => (HV2.out.grew y.grew).cell 2
                    have al := fun (y : After wv) => (HV2.out.grew y.grew).lt
                    simp only [List.getElem?_toArray, List.getElem?_cons_zero, List.getElem?_cons_succ] at a0 a1 a2
                    have t0 := fun (y : After wv) => (y.cell (ad3.add (b * 3)) (by rw [block_add]; exact S.out.2.2.2.1)).trans S.out.1
                    have t1 := fun (y : After wv) => (y.cell ⟨ad3.block, (ad3.add (b * 3)).off + 1, none⟩ S.out.2.2.2.1).trans S.out.2.1
                    have t2 := fun (y : After wv) => (y.cell ⟨ad3.block, (ad3.add (b * 3)).off + 2, none⟩ S.out.2.2.2.1).trans S.out.2.2.1
                    have tl := fun (y : After wv) => y.lt _ S.out.2.2.2.1
                    have c2 := fun (y : After wv) => (y.cell ⟨ad.block, (ad.add (j * 4)).off + 2, none⟩ S.out.2.2.2.2.2).trans S.out.2.2.2.2.1
                    have cl := fun (y : After wv) => y.lt _ S.out.2.2.2.2.2
                    clear x5 x6 xl
                    have d7 := fun (y : After wv) => (HX2.out.grew y.grew).cell 7
                    have d8 := fun (y : After wv) => (HX2.out.grew y.grew).cell 8
                    have d9 := fun (y : After wv) => (HX2.out.grew y.grew).cell 9
                    have d10 := fun (y : After wv) => (HX2.out.grew y.grew).cell 10
                    have dl := fun (y : After wv) => (HX2.out.grew y.grew).lt
                    have n0 := fun (y : After wv) => (HL2.out.grew y.grew).cell 0
                    have nl := fun (y : After wv) => (HL2.out.grew y.grew).lt
                    simp only [List.getElem?_toArray, List.getElem?_cons_zero, List.getElem?_cons_succ] at d7 d8 d9 d10 n0
                    refine wp_region_grew_from (w0 := wv) (Grew.refl wv) (by kernel_rfl) (by kernel_rfl) ?_
                    repeat (go_big_quiet_step (fail))
                    go_big_quiet_step ((go_at_call 25; exact Calls.grew (After.grew _) (HL3.out _ (After.grew _))))
                    repeat (go_big_quiet_step (fail))
                    go_big_quiet_step ((go_at_call 25; exact Calls.grew (After.grew _) (HL4.out _ (After.grew _))))
                    repeat (go_big_quiet_step (fail))
                    go_big_quiet_step ((go_at_call 25; exact Calls.grew (After.grew _) (HL5.out _ (After.grew _))))
                    repeat (go_big_quiet_step (fail))
                    refine wpQuiet_nil ?_
                    rintro _ ⟨y, rfl⟩
                    have HQ3 := hid (HQ2.out.trans y.grew)
                    clear a0 a1 a2 al t0 t1 t2 tl c2 cl d7 d8 d9 d10 dl n0 nl
                    go_wp2_with fail
                    go_round
                    case rel => exact ⟨b + 1, by go_num, by omega, HQ3⟩
                    case measure => simp [intOf]; omega
                · have hbm2 : b = m := by omega
                  subst hbm2
                  go_wp2_with fail
                  go_round
                  case rel => exact ⟨j + 1, by go_num, by omega, hid (HR8.out.trans HQ.out)⟩
                  case measure => simp [intOf]; omega
            · have hjn : j = n := by omega
              subst hjn
              go_wp2_with (go_at_call 13; refine (sure_c _ (HE.out.grew (HG5.out.trans HR.out))).mono ?_; rintro e w9 ⟨rfl, hg9⟩)
              go_ret
              exact ⟨rfl, (HG5.out.trans HR.out).trans hg9⟩
    · rw [hb] at HBig
      go_wp2_with (first | (go_at_call 12; refine HBig.out.mono ?_; rintro e w2 ⟨rfl, hg2⟩) | (go_at_call 13; refine (sure_c w2 (HE.out.grew (HG1.out.trans hg2))).mono ?_; rintro e w9 ⟨rfl, hg9⟩))
      go_ret
      exact ⟨rfl, (HG1.out.trans hg2).trans hg9⟩
  · have g20 : (20 : Int) < (up.length : Int) := by omega
    go_wp2_with (go_at_call 13; refine (sure_c w1 (HE.out.grew HG1.out)).mono ?_; rintro e w9 ⟨rfl, hg9⟩)
    go_ret
    exact ⟨rfl, HG1.out.trans hg9⟩
end Go.Proofs.YtcfknfiddadgbaaDoor

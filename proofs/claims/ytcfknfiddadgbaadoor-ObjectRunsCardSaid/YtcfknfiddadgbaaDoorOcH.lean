/- Stage 11: the reference's Put. -/
import Derived.Test.YtcfknfiddadgbaaDoorOcE
import Derived.Test.YtcfknfiddadgbaaDoorOcG
namespace Go.Proofs.YtcfknfiddadgbaaDoor
open Go.RowKit

theorem rval_info : (Tryd.prog.info? 55).map (fun i => (i.zero, i.size, i.bytes)) = some (some (.agg #[.int .u8 0, .int .i64 0, .int .i64 0]), 3, 24) := by kernel_rfl
theorem robj_info : (Tryd.prog.info? 52).map (fun i => (i.zero, i.size, i.bytes)) = some (some (.agg #[.int .i64 0, .int .i64 0, .slice none 0 0, .string ⟨#[]⟩]), 4, 56) := by kernel_rfl
/-- What the reference's Put answers: the same objects, and an error's number; or other ones. -/
def RPut (w : World) (up : List Nat) (A : Option Addr) (c : Nat) (l : List OV) (i k under : Int) (v : Ob.Val) (e : Ending) (w' : World) : Prop :=
  (Ob.putCode up (objs l) i k under v ≠ 0 ∧ e = .returned (.tuple #[.slice A l.length c, .int .i64 ((Ob.putCode up (objs l) i k under v : Nat) : Int)]) ∧ Grew w w') ∨
  (Ob.putCode up (objs l) i k under v = 0 ∧ ∃ (l' : List OV) (A' : Option Addr) (c' : Nat), e = .returned (.tuple #[.slice A' l'.length c', .int .i64 0]) ∧ OwnO 52 w' w.heap.size A' c' l' ∧ objs l' = Ob.put up (objs l) i k under v ∧ Grew w w' ∧ (∀ v ∈ l', 0 < v.o.f.length → ∀ ad, v.A = some ad → w.heap.size ≤ ad.block ∨ ∃ u ∈ l, 0 < u.o.f.length ∧ u.A = some ad))
theorem rput_same {w w' : World} {up : List Nat} {A : Option Addr} {c : Nat} {l : List OV} {i k under : Int} {v : Ob.Val} (n : Nat) (hn : n = l.length) (x : Nat) (h0 : x ≠ 0) (hc : Ob.putCode up (objs l) i k under v = x) (hg : Grew w w') : RPut w up A c l i k under v (.returned (.tuple #[.slice A n c, .int .i64 ((x : Nat) : Int)])) w' :=
  .inl ⟨by rw [hc]; exact h0, by rw [hc, hn], hg⟩
/-- The fields so far. -/
def fTo (f : List Ob.Val) (b : Nat) (x : Ob.Val) (j : Nat) : List Ob.Val := (f.set b x).take j
theorem fTo_next {f : List Ob.Val} {b j : Nat} {x y : Ob.Val} (hy : f[j]? = some y) : fTo f b x (j + 1) = fTo f b x j ++ [if j = b then x else y] := by
  unfold fTo
  rw [List.take_add_one, List.getElem?_set]
  by_cases h : b = j
  · subst h
    have hl := (List.getElem?_eq_some_iff.1 hy).1
    simp [hl]
  · have h2 : ¬ j = b := fun e => h e.symm
    rw [if_neg h, hy, if_neg h2]
    rfl
/-- The objects so far. -/
def lTo (l : List Ob.Obj) (a b : Nat) (x : Ob.Val) (j : Nat) : List Ob.Obj := (l.modify a (fun o => Ob.setF o b x)).take j
theorem lTo_next {l : List Ob.Obj} {a b j : Nat} {x : Ob.Val} {o : Ob.Obj} (ho : l[j]? = some o) : lTo l a b x (j + 1) = lTo l a b x j ++ [if j = a then Ob.setF o b x else o] := by
  unfold lTo
  rw [List.take_add_one, List.getElem?_modify, ho]
  by_cases h : a = j
  · simp [h]
  · have h2 : ¬ j = a := fun e => h e.symm
    simp [h, h2]
/-- What the operations that make the new value give. -/
def RF (gx : Nat) (U : Option Addr) (un cu vk : Nat) (vn vl under jl : Int) (k : Nat) (v : Value) (_ : World) : Prop := match k with
  | 0 => v = .pointer (some ⟨gx, 0, none⟩)
  | 1 => v = .int .u8 ((vk : Nat) : Int)
  | 2 => v = .pointer (some ⟨gx, 1, none⟩)
  | 3 => v = .int .i64 vn
  | 4 => v = .slice U un cu
  | 5 => v = .pointer (some ⟨gx, 2, none⟩)
  | 6 => v = .int .i64 vl
  | 7 => v = .int .i64 under
  | 8 => v = .int .i64 jl
  | _ => v = .agg #[.int .u8 ((vk : Nat) : Int), .int .i64 vn, .int .i64 jl]
set_option maxRecDepth 100000 in
set_option maxHeartbeats 16000000 in
theorem rput_c (U : Option Addr) (cu : Nat) (up : List Nat) (A : Option Addr) (c : Nat) (l : List OV) (i k under : Int) (v : Ob.Val) (w : World) (hn : up.length ≤ 20) (hU : BytesAt w w.heap.size U up) (h : ObjsAt w A l) (hl : l.length ≤ 1000) (hf : ∀ v ∈ l, v.o.f.length ≤ 1000) (hv : ValOk v) :
    Calls Tryd.prog 21 #[.slice U up.length cu, .slice A l.length c, .int .i64 i, .int .i64 k, .int .i64 under, .agg #[.int .u8 ((v.k : Nat) : Int), .int .i64 v.n, .int .i64 v.l]] w (RPut w up A c l i k under v) := by
  have HU := hid hU
  have HN := hid hn
  have HA := hid h
  have HF := hid hf
  have HV := hid (fun W => rvalue_c up.length v W)
  obtain ⟨b1, e1⟩ : ∃ b1, b1 = Ob.valueB up.length v := ⟨_, rfl⟩
  rw [← e1] at HV
  have E1 := hid e1
  have HVo := hid hv
  obtain ⟨un, eun⟩ : ∃ un, un = up.length := ⟨_, rfl⟩
  obtain ⟨n, en⟩ : ∃ n, n = l.length := ⟨_, rfl⟩
  rw [← eun] at HV hn ⊢
  rw [← en] at hl ⊢
  have EUN := hid eun
  have EN := hid en
  clear hU h hf e1 eun en hv
  obtain ⟨vk, vn, vl⟩ := v
  simp only at HV ⊢
  have G1 := (Grew.refl w).alloc (.cells #[.int .u8 ((vk : Nat) : Int), .int .i64 vn, .int .i64 vl] 55)
  have B1 := Blk.new w 55 #[.int .u8 ((vk : Nat) : Int), .int .i64 vn, .int .i64 vl]
  go_enter Tryd.func21, Tryd.ntmps21
  go_upto_region 1 with fail
  obtain ⟨gx, egx⟩ : ∃ gx, gx = w.heap.size := ⟨_, rfl⟩
  generalize w.alloc (.cells #[.int .u8 ((vk : Nat) : Int), .int .i64 vn, .int .i64 vl] 55) = w1 at *
  rw [← egx] at B1 ⊢
  have EGX := hid egx
  have HG1 := hid G1
  have HB1 := hid B1
  have q0 := B1.cell 0
  have q1 := B1.cell 1
  have q2 := B1.cell 2
  have ql := B1.lt
  simp only [List.getElem?_toArray, List.getElem?_cons_zero, List.getElem?_cons_succ] at q0 q1 q2
  clear G1 B1 egx
  cases b1
  · have HC := hid (Ob.code_arg (up := up) (l := objs l) (i := i) (k := k) (under := under) (v := ⟨vk, vn, vl⟩) (by rw [← E1.out]; rfl))
    go_wp2_with (go_at_call 20; refine (HV.out w1).mono ?_; rintro e w2 ⟨rfl, hg2⟩)
    go_ret2
    exact rput_same n EN.out 1 (by decide) HC.out (HG1.out.trans hg2)
  · by_cases u1 : 0 ≤ under
    · have d1 : ¬ under < 0 := by omega
      by_cases u2 : under < un
      · have d2 : ¬ (un : Int) ≤ under := by omega
        have HAg := hid (show (Ob.valueB up.length ⟨vk, vn, vl⟩ && Ob.inB under ((up.length : Nat) : Int)) = true by rw [← E1.out, Ob.inB, decide_eq_true u1, decide_eq_true (by rw [← EUN.out]; exact u2)]; rfl)
        go_upto_region 3 with (go_at_call 20; refine (HV.out w1).mono ?_; rintro e w2 ⟨rfl, hg2⟩)
        have HG2 := hid (HG1.out.trans hg2)
        have HB2 := hid (HB1.out.grew hg2)
        clear q0 q1 q2 ql hg2 HB1 HG1 HV u1 u2 E1
        by_cases a1 : 0 ≤ i
        · have d3 : ¬ i < 0 := by omega
          by_cases a2 : i < n
          · have d4 : ¬ (n : Int) ≤ i := by omega
            obtain ⟨a, rfl⟩ : ∃ a : Nat, i = a := ⟨i.toNat, by omega⟩
            obtain ⟨ad, x, rfl, hx, p0, p1, p2, p3, pl, hxo⟩ := ov_get HA.out HG2.out (i := a) (by rw [← EN.out]; omega)
            have hm : x.o.f.length ≤ 1000 := HF.out x (List.mem_of_getElem? hx)
            have HXo := hid hxo
            have HX := hid hx
            clear hx hxo p0 p1 p3
            obtain ⟨m, em⟩ : ∃ m, m = x.o.f.length := ⟨_, rfl⟩
            rw [← em] at p2 hm
            have EM := hid em
            clear em
            by_cases a3 : 0 ≤ k
            · have d5 : ¬ k < 0 := by omega
              by_cases a4 : k < m
              · have d6 : ¬ (m : Int) ≤ k := by omega
                obtain ⟨b, rfl⟩ : ∃ b : Nat, k = b := ⟨k.toNat, by omega⟩
                obtain ⟨xA, exA⟩ : ∃ xA, xA = x.A := ⟨_, rfl⟩
                have HFx := hid (show ValsAt w2 xA x.o.f by rw [exA]; exact HXo.out.f)
                rw [← exA] at p2
                clear exA
                obtain ⟨ad2, y, rfl, hy, r0, r1, r2, rl, _⟩ := val_at HFx.out (Grew.refl w2) (i := b) (by rw [← EM.out]; omega)
                have HC := hid (Ob.code_leq HAg.out (objs_at HX.out) hy)
                obtain ⟨yl, eyl⟩ : ∃ yl, yl = y.l := ⟨_, rfl⟩
                rw [← eyl] at r2 HC
                have HLq := hid (rleq_c U cu up under yl w2 HN.out (HU.out.grew HG2.out))
                obtain ⟨r, er⟩ : ∃ r, r = La.rleq up under yl := ⟨_, rfl⟩
                rw [← er] at HLq HC
                rw [← EUN.out] at HLq
                clear eyl er hy r0 r1
                cases r
                · go_wp2_with (go_at_call 40; with_reducible refine HLq.out.mono ?_; rintro e w3 ⟨rfl, hw2⟩; have hw3 := hw2.symm; subst hw3)
                  go_ret2
                  exact rput_same n EN.out 11 (by decide) HC.out HG2.out
                · have HC0 := hid (show Ob.putCode up (objs l) (a : Int) (b : Int) under ⟨vk, vn, vl⟩ = 0 from HC.out)
                  go_upto_region 9 with (go_at_call 40; with_reducible refine HLq.out.mono ?_; rintro e w3 ⟨rfl, hw2⟩; have hw3 := hw2.symm; subst hw3)
                  clear p2 pl r2 rl HC HLq
                  have HB0 := hid (show w.heap.size ≤ w2.heap.size from HG2.out.below.size)
                  clear d1 d2 d3 d4 d5 d6
                  go_loopw [14, 15, 16, 17, 18, 19] (fun s14 s15 _ _ _ _ wr => ∃ (j : Nat) (A' : Option Addr) (k' : Nat) (vs : List OV), s15 = .int .i64 ((j : Nat) : Int) ∧ j ≤ n ∧ s14 = .slice A' j k' ∧ Hid (OwnO 52 wr w2.heap.size A' k' vs ∧ vs.length = j) ∧ Hid (objs vs = lTo (objs l) a b (Ob.putV up under ⟨vk, vn, vl⟩) j) ∧ Hid (Grew w2 wr) ∧ Hid (∀ v ∈ vs, 0 < v.o.f.length → ∀ ad, v.A = some ad → w.heap.size ≤ ad.block ∨ ∃ u ∈ l, 0 < u.o.f.length ∧ u.A = some ad)) (fun _ s15 _ _ _ _ _ => n - (intOf s15).toNat)
                  case atStart => exact ⟨0, none, 0, [], rfl, Nat.zero_le _, rfl, hid ⟨OwnO.nil _ _ _, rfl⟩, hid rfl, hid (Grew.refl _), hid (fun v hv => by cases hv)⟩
                  case round =>
                    obtain ⟨j, A', k', vs, rfl, hj, rfl, HR, HO, HG, HW⟩ := hrel
                    by_cases hlt : j < n
                    · have f1 : (j : Int) < n := by omega
                      obtain ⟨ad', z, e', hz, p0, p1, p2, p3, pl, hzo⟩ := ov_get HA.out (HG2.out.trans HG.out) (i := j) (by rw [← EN.out]; exact hlt)
                      cases e'
                      have HZ := hid hz
                      have HZo := hid hzo
                      have HLn := hid (lTo_next (a := a) (b := b) (x := Ob.putV up under ⟨vk, vn, vl⟩) (objs_at hz))
                      have HZl := hid (HF.out z (List.mem_of_getElem? hz))
                      clear hz hzo
                      have HBn := hid (Blk.new wr 52 #[.int .i64 z.o.cls, .int .i64 z.o.lev, .slice z.A z.o.f.length z.c, .string z.o.b])
                      have HGn := hid ((Grew.refl wr).alloc (.cells #[.int .i64 z.o.cls, .int .i64 z.o.lev, .slice z.A z.o.f.length z.c, .string z.o.b] 52))
                      obtain ⟨zb, ezb⟩ : ∃ zb, zb = z.o.b := ⟨_, rfl⟩
                      obtain ⟨zA, ezA⟩ : ∃ zA, zA = z.A := ⟨_, rfl⟩
                      obtain ⟨zc, ezc⟩ : ∃ zc, zc = z.c := ⟨_, rfl⟩
                      obtain ⟨zm, ezm⟩ : ∃ zm, zm = z.o.f.length := ⟨_, rfl⟩
                      obtain ⟨z1, ez1⟩ : ∃ z1, z1 = z.o.cls := ⟨_, rfl⟩
                      obtain ⟨z2, ez2⟩ : ∃ z2, z2 = z.o.lev := ⟨_, rfl⟩
                      rw [← ezb, ← ezA, ← ezc, ← ezm, ← ez1, ← ez2] at HBn HGn
                      rw [← ez1] at p0
                      rw [← ez2] at p1
                      rw [← ezA, ← ezm, ← ezc] at p2
                      rw [← ezb] at p3
                      have EZ := hid (And.intro ezb (And.intro ezA (And.intro ezc (And.intro ezm (And.intro ez1 ez2)))))
                      clear ezb ezA ezc ezm ez1 ez2
                      go_upto_region 12 with fail
                      clear p0 p1 p2 p3 pl
                      obtain ⟨gb, egb⟩ : ∃ gb, gb = wr.heap.size := ⟨_, rfl⟩
                      generalize wr.alloc (.cells #[.int .i64 z1, .int .i64 z2, .slice zA zm zc, .string zb] 52) = wb at *
                      rw [← egb] at HBn ⊢
                      have EGB := hid egb
                      clear egb
                      have t0 := HBn.out.cell 0
                      have t1 := HBn.out.cell 1
                      have t2 := HBn.out.cell 2
                      have t3 := HBn.out.cell 3
                      have tl := HBn.out.lt
                      simp only [List.getElem?_toArray, List.getElem?_cons_zero, List.getElem?_cons_succ] at t0 t1 t2 t3
                      have HRb := hid (HR.out.1.grew HGn.out)
                      have HLv := hid HR.out.2
                      have HGb := hid (HG.out.trans HGn.out)
                      have HGo := hid HG.out.below.size
                      have HRl := hid (fun k hk => (at_row_lt HR.out.1.row k hk).2)
                      have HRf := hid (fun v hv h0 ad e => (HR.out.1.ok v hv).blk h0 ad e)
                      rw [← EGB.out] at HRl HRf
                      clear HR HG
                      by_cases hja : j = a
                      · subst hja
                        have hb0 : ((j : Int) == (j : Int)) = true := by simp
                        obtain rfl : z = x := Option.some.inj (HZ.out.symm.trans HX.out)
                        have HLn2 := hid (show lTo (objs l) j b (Ob.putV up under ⟨vk, vn, vl⟩) (j + 1) = lTo (objs l) j b (Ob.putV up under ⟨vk, vn, vl⟩) j ++ [Ob.setF z.o b (Ob.putV up under ⟨vk, vn, vl⟩)] by rw [HLn.out, if_pos rfl])
                        obtain ⟨jl, ejl⟩ : ∃ jl, jl = La.joinOf up vl under := ⟨_, rfl⟩
                        have HXv := hid (show Ob.putV up under ⟨vk, vn, vl⟩ = ⟨vk, vn, jl⟩ by rw [ejl]; rfl)
                        have HJo := hid (fun W (hW : Grew w W) => rJoin_c U cu up vl under W HN.out (HU.out.grew hW))
                        rw [← ejl, ← EUN.out] at HJo
                        clear ejl HLn
                        rw [HXv.out] at HLn2 HO
                        have HXok : Hid (ValOk ⟨vk, vn, jl⟩) := hid (by
                          rw [← HXv.out]
                          have h1 := Bool.and_eq_true _ _ ▸ HAg.out
                          refine ⟨HVo.out.k, HVo.out.n, ?_⟩
                          show N64 (La.joinOf up vl under)
                          unfold La.joinOf
                          split
                          · unfold La.join La.find
                            rcases La.find_spec (fun x => x == (up.getD vl.toNat 0 &&& up.getD under.toNat 0)) up with ⟨h, _⟩ | ⟨q, h1, h2, _⟩
                            · unfold La.find at h; rw [h]; exact ⟨by decide, by decide⟩
                            · unfold La.find at h2; rw [h2]; have h3 := HN.out; exact ⟨by omega, by omega⟩
                          · exact ⟨by decide, by decide⟩)
                        have hzm : zm ≤ 1000 := by rw [EZ.out.2.2.2.1]; exact HZl.out
                        go_upto_region 15 with fail
                        go_loopw [17, 18, 19] (fun s17 s18 _ wq => ∃ (q : Nat) (Fa : Option Addr) (fk : Nat), s18 = .int .i64 ((q : Nat) : Int) ∧ q ≤ zm ∧ s17 = .slice Fa q fk ∧ Hid (Row wq wb.heap.size 55 3 Fa q fk ((fTo z.o.f b ⟨vk, vn, jl⟩ q).flatMap valF)) ∧ Hid (Grew wb wq)) (fun _ s18 _ _ => zm - (intOf s18).toNat)
                        case atStart => exact ⟨0, none, 0, rfl, Nat.zero_le _, rfl, hid (Row.nil _ _ _ _), hid (Grew.refl _)⟩
                        case round =>
                          obtain ⟨q, Fa, fk, rfl, hq, rfl, HFr, HQ⟩ := hrel
                          clear t0 t1 t2 t3 tl
                          have HBq := hid (HBn.out.grew HQ.out)
                          have s0 := HBq.out.cell 0
                          have s1 := HBq.out.cell 1
                          have s2 := HBq.out.cell 2
                          have s3 := HBq.out.cell 3
                          have sl := HBq.out.lt
                          have sf := HBq.out.frozen 2
                          simp only [List.getElem?_toArray, List.getElem?_cons_zero, List.getElem?_cons_succ] at s0 s1 s2 s3
                          have HGq := hid ((HG2.out.trans HGb.out).trans HQ.out)
                          by_cases hqz : q < zm
                          · have f2 : (q : Int) < zm := by omega
                            obtain ⟨ad3, y3, e3, hy3, r0, r1, r2, rl, hyok⟩ := val_at (HZo.out.f.grew (HGn.out.trans HQ.out)) (Grew.refl wr) (i := q) (by rw [← EZ.out.2.2.2.1]; exact hqz)
                            rw [← EZ.out.2.1] at e3
                            subst e3
                            have HFn := hid (fTo_next (b := b) (x := ⟨vk, vn, jl⟩) hy3)
                            clear hy3
                            obtain ⟨yk, yn, yl3⟩ := y3
                            simp only at r0 r1 r2
                            have HYn := hid (Blk.new wr 55 #[.int .u8 ((yk : Nat) : Int), .int .i64 yn, .int .i64 yl3])
                            have HYg := hid ((Grew.refl wr).alloc (.cells #[.int .u8 ((yk : Nat) : Int), .int .i64 yn, .int .i64 yl3] 55))
                            go_upto_region 18 with fail
                            clear r0 r1 r2 rl s0 s1 s2 s3 sl sf
                            obtain ⟨gy, egy⟩ : ∃ gy, gy = wr.heap.size := ⟨_, rfl⟩
                            generalize wr.alloc (.cells #[.int .u8 ((yk : Nat) : Int), .int .i64 yn, .int .i64 yl3] 55) = wy at *
                            rw [← egy] at HYn ⊢
                            have EGY := hid egy
                            clear egy
                            have y0 := HYn.out.cell 0
                            have y1 := HYn.out.cell 1
                            have y2 := HYn.out.cell 2
                            have yl := HYn.out.lt
                            have yf := HYn.out.frozen
                            simp only [List.getElem?_toArray, List.getElem?_cons_zero, List.getElem?_cons_succ] at y0 y1 y2
                            have HFy := hid (HFr.out.grew HYg.out)
                            have HQy := hid (HQ.out.trans HYg.out)
                            have HGy := hid (HGq.out.trans HYg.out)
                            have HFl := hid (fun k hk => (at_row_lt HFr.out k hk).2)
                            have HQs := hid HQ.out.below.size
                            rw [← EGY.out] at HFl HQs
                            clear HFr
                            by_cases hqb : q = b
                            · subst hqb
                              have hc0 : ((q : Int) == (q : Int)) = true := by simp
                              rw [if_pos rfl] at HFn
                              go_upto_region 19 with fail
                              refine wp_region_facts4 (w0 := wy) wy 10 10 [101, 102, 103, 104, 105, 106, 107, 108, 109, 110] [] (RF gx U un cu vk vn vl under jl) (Kept (fun _ => False)) (fun _ => Kept (fun _ => False)) (fun _ _ => True) (May.kept _) (fun _ _ _ h => h) (fun _ w => Kept.refl _ w) (by kernel_rfl) (by kernel_rfl) (Kept.refl _ _).drew trivial (fun _ _ _ _ _ _ _ _ _ h _ => h) ?_ ?_
                              · have HBx := hid (HB2.out.grew (HGb.out.trans HQy.out))
                                repeat' (first | exact trivial | apply And.intro)
                                all_goals
                                  intro a w' fl hgk hJ hfi hdep hs hA
                                  have hgw : Grew wy w' := Kept.grew hgk (Grew.refl _) (fun _ h => h.elim)
                                  have e0 := hs.eval 0 (by decide) (v := .slice U un cu) rfl
                                  have e4 := hs.eval 4 (by decide) (v := .int .i64 under) rfl
                                  have e11 := hs.eval 11 (by decide) (v := .pointer (some ⟨gx, 0, none⟩)) rfl
                                  have HGw := hid (HGy.out.trans hgw)
                                  have x0 := (HBx.out.grew hgw).cell 0
                                  have x1 := (HBx.out.grew hgw).cell 1
                                  have x2 := (HBx.out.grew hgw).cell 2
                                  have xl := (HBx.out.grew hgw).lt
                                  simp only [List.getElem?_toArray, List.getElem?_cons_zero, List.getElem?_cons_succ] at x0 x1 x2
                                  clear hs hgk hJ hfi hdep hgw
                                  simp only [Ahead, Region.binds, slotOf, RF, List.getD_cons_succ, List.getD_cons_zero, forall_const, and_true] at hA
                                  simp only [wantedD, if_true]
                                  unfold Oper.wp
                                  have ec : ∀ v, a.eval (.const v) = v := fun _ => rfl
                                  generalize hfe : a.eval = fe at *
                                  have ef : ∀ k, fe (.func k) = Act.eval ⟨#[], []⟩ (.func k) := fun k => by rw [← hfe]; rfl
                                  clear hfe
                                  first
                                    | (go_simp; exact Gives3.of rfl (Kept.refl _ _) rfl trivial)
                                    | (go_simp
                                       refine (HJo.out w' HGw.out).mono ?_
                                       rintro e w6 ⟨rfl, hw6⟩
                                       have hw7 := hw6.symm
                                       subst hw7
                                       exact Gives3.of rfl (Kept.refl _ _) rfl trivial)
                              · intro a3 w3 hgk hs hf _ _
                                have hgw : Grew wy w3 := Kept.grew hgk (Grew.refl _) (fun _ h => h.elim)
                                have h9 := hf 9 (by decide)
                                simp only [slotOf, RF, List.getD_cons_succ, List.getD_cons_zero] at h9
                                obtain ⟨fn, rfl, hft⟩ := hs.put
                                rw [hft] at h9
                                clear y0 y1 y2 yl yf
                                have HY3 := hid (HYn.out.grew hgw)
                                have y0 := HY3.out.cell 0
                                have y1 := HY3.out.cell 1
                                have y2 := HY3.out.cell 2
                                have yl := HY3.out.lt
                                have yf := HY3.out.frozen
                                simp only [List.getElem?_toArray, List.getElem?_cons_zero, List.getElem?_cons_succ] at y0 y1 y2
                                have HF3 := hid (HFy.out.grew hgw)
                                have HQ3 := hid (HQy.out.trans hgw)
                                clear hf hft hs hgw hgk HFy
                                simp only [List.drop_succ_cons, List.drop_zero, putAll, List.foldl_cons, List.foldl_nil, Act.put, List.setIfInBounds_toArray, List.set_cons_succ, List.set_cons_zero, h9]
                                clear h9
                                go_upto_region 20 with fail
                                have hw3 := kept3 (F := (· = gy)) (g := gy) (o := 0) (Kept.refl (· = gy) w3) (fun _ => rfl) (.int .u8 ((vk : Nat) : Int)) (.int .i64 vn) (.int .i64 jl)
                                have hb3 := ((HY3.out.put 0 (.int .u8 ((vk : Nat) : Int))).put 1 (.int .i64 vn)).put 2 (.int .i64 jl)
                                simp only [List.setIfInBounds_toArray, List.set_cons_succ, List.set_cons_zero] at hb3
                                simp only [Nat.zero_add] at hw3
                                have HK3 := hid hw3
                                have HB3 := hid hb3
                                clear hw3 hb3 y0 y1 y2 yl yf HY3
                                generalize ((w3.setCell ⟨gy, 0, none⟩ (.int .u8 ((vk : Nat) : Int))).setCell ⟨gy, 1, none⟩ (.int .i64 vn)).setCell ⟨gy, 2, none⟩ (.int .i64 jl) = w4 at *
                                have HF4 := hid (HF3.out.kept HK3.out (fun g hg e => by have h1 := HFl.out g ⟨_, hg, rfl⟩; omega))
                                have HQ4 := hid (HK3.out.grew HQ3.out (fun k hk => by subst hk; exact HQs.out))
                                have y0 := HB3.out.cell 0
                                have y1 := HB3.out.cell 1
                                have y2 := HB3.out.cell 2
                                have yl := HB3.out.lt
                                simp only [List.getElem?_toArray, List.getElem?_cons_zero, List.getElem?_cons_succ] at y0 y1 y2
                                clear HF3 HQ3
                                go_wp2_with (at_builtin; refine wpList_pushS (.agg #[.int .u8 0, .int .i64 0, .int .i64 0]) 3 24 w4 rfl _ _ 50 55 rfl Tryd.underlying50 rval_info rfl (by decide) wb.heap.size HQ4.out.below.size Fa q fk _ rfl HF4.out _ rfl rfl [.int .u8 ((vk : Nat) : Int), .int .i64 vn, .int .i64 jl] rfl (by intro u hu; simp only [List.mem_cons, List.not_mem_nil, or_false] at hu; rcases hu with rfl | rfl | rfl <;> rfl) (by omega) (by omega) ?_; intro F8 f8 w8 hR8 hK8 hT8; have HR8 := hid hR8; have HK8 := hid (hK8.grew HQ4.out (Row.at_base HF4.out)); clear hR8 hK8 hT8)
                                have e8 : [(⟨vk, vn, jl⟩ : Ob.Val)].flatMap valF = [.int .u8 ((vk : Nat) : Int), .int .i64 vn, .int .i64 jl] := rfl
                                refine ⟨⟨q + 1, F8, f8, by go_num, by omega, rfl, hid ?_, HK8⟩, by simp [intOf]; omega⟩
                                rw [HFn.out, List.flatMap_append, e8]
                                exact HR8.out
                            · have hc0 : ((q : Int) == (b : Int)) = false := by rw [beq_eq_false_iff_ne]; omega
                              rw [if_neg hqb] at HFn
                              clear hqb
                              go_wp2_with (at_builtin; refine wpList_pushS (.agg #[.int .u8 0, .int .i64 0, .int .i64 0]) 3 24 wy rfl _ _ 50 55 rfl Tryd.underlying50 rval_info rfl (by decide) wb.heap.size HQy.out.below.size Fa q fk _ rfl HFy.out _ rfl rfl [.int .u8 ((yk : Nat) : Int), .int .i64 yn, .int .i64 yl3] rfl (by intro u hu; simp only [List.mem_cons, List.not_mem_nil, or_false] at hu; rcases hu with rfl | rfl | rfl <;> rfl) (by omega) (by omega) ?_; intro F8 f8 w8 hR8 hK8 hT8; have HR8 := hid hR8; have HK8 := hid (hK8.grew HQy.out (Row.at_base HFy.out)); clear hR8 hK8 hT8)
                              have e8 : [(⟨yk, yn, yl3⟩ : Ob.Val)].flatMap valF = [.int .u8 ((yk : Nat) : Int), .int .i64 yn, .int .i64 yl3] := rfl
                              refine ⟨⟨q + 1, F8, f8, by go_num, by omega, rfl, hid ?_, HK8⟩, by simp [intOf]; omega⟩
                              rw [HFn.out, List.flatMap_append, e8]
                              exact HR8.out
                          · have hqm : q = zm := by omega
                            subst hqm
                            have HFe := hid (show fTo z.o.f b ⟨vk, vn, jl⟩ q = z.o.f.set b ⟨vk, vn, jl⟩ by rw [fTo, EZ.out.2.2.2.1, List.take_of_length_le (by rw [List.length_set]; exact Nat.le_refl _)])
                            rw [HFe.out] at HFr
                            go_upto_region 22 with fail
                            clear s0 s1 s2 s3 sl sf
                            have HK9 := hid ((Kept.refl (· = gb) wr).setCell (p := ⟨gb, 2, none⟩) (fun _ => rfl) (.slice Fa q fk))
                            have HB9 := hid (HBq.out.put 2 (.slice Fa q fk))
                            generalize wr.setCell ⟨gb, 2, none⟩ (.slice Fa q fk) = w9 at *
                            simp only [List.setIfInBounds_toArray, List.set_cons_succ, List.set_cons_zero] at HB9
                            have s0 := HB9.out.cell 0
                            have s1 := HB9.out.cell 1
                            have s2 := HB9.out.cell 2
                            have s3 := HB9.out.cell 3
                            have sl := HB9.out.lt
                            simp only [List.getElem?_toArray, List.getElem?_cons_zero, List.getElem?_cons_succ] at s0 s1 s2 s3
                            have HGs := hid HBn.out.lt
                            have HR9 := hid ((HRb.out.grew HQ.out).kept HK9.out (fun k hk e => by have h1 := HRl.out k hk; omega) (fun v hv h0 ad e e2 => by have h1 := HRf.out v hv h0 ad e; omega))
                            have HFr9 := hid (HFr.out.kept HK9.out (fun g hg e => by have h1 := Row.at_base HFr.out g ⟨_, hg, rfl⟩; have h2 := HGs.out; omega))
                            have HQ9 := hid (HK9.out.grew (HGb.out.trans HQ.out) (fun k hk => by subst hk; rw [EGB.out]; exact HGo.out))
                            have HSl := hid (show (z.o.f.set b ⟨vk, vn, jl⟩).length = q by rw [List.length_set, EZ.out.2.2.2.1])
                            have HY : Hid (OvOk w9 ⟨Ob.setF z.o b ⟨vk, vn, jl⟩, Fa, fk⟩) := hid ⟨row_vals HFr9.out HSl.out.symm (fun x hx => by
                              rcases List.mem_or_eq_of_mem_set hx with hx | rfl
                              · exact HZo.out.f.1 x hx
                              · exact HXok.out), HZo.out.cls, HZo.out.lev, by
                              show (z.o.f.set b ⟨vk, vn, jl⟩).length ≤ fk
                              rw [HSl.out]
                              exact HFr9.out.cases.2.1⟩
                            have HAp : Hid (0 < (Ob.setF z.o b ⟨vk, vn, jl⟩).f.length → ∀ a, Fa = some a → ¬ AtRow A' a.block) := hid (fun _ a ea hk => by
                              have h1 := Row.at_base HFr.out a.block ⟨a, ea, rfl⟩
                              have h2 := HRl.out _ hk
                              have h3 := HGs.out
                              omega)
                            have HEq := hid (show ovF ⟨Ob.setF z.o b ⟨vk, vn, jl⟩, Fa, fk⟩ = [.int .i64 z1, .int .i64 z2, .slice Fa q fk, .string zb] by
                              rw [EZ.out.1, EZ.out.2.2.2.2.1, EZ.out.2.2.2.2.2, ← HSl.out]; rfl)
                            clear HFr HBq HK9
                            go_wp2_with (at_builtin; refine wpList_pushS (.agg #[.int .i64 0, .int .i64 0, .slice none 0 0, .string ⟨#[]⟩]) 4 56 w9 rfl _ _ 23 52 rfl Tryd.underlying23 robj_info rfl (by decide) w2.heap.size HQ9.out.below.size A' j k' _ rfl (by have h1 := HR9.out.row; rw [HLv.out] at h1; exact h1) _ rfl rfl [.int .i64 z1, .int .i64 z2, .slice Fa q fk, .string zb] rfl (by intro u hu; simp only [List.mem_cons, List.not_mem_nil, or_false] at hu; rcases hu with rfl | rfl | rfl | rfl <;> rfl) (by omega) (by omega) ?_; intro A8 k8 w8 hR8 hK8 hT8; have HR8 := hid hR8; have HK8 := hid hK8; have HT8 := hid hT8; clear hR8 hK8 hT8)
                            refine ⟨⟨j + 1, A8, k8, vs ++ [⟨Ob.setF z.o b ⟨vk, vn, jl⟩, Fa, fk⟩], by go_num, by omega, rfl, hid ⟨?_, ?_⟩, hid ?_, hid ?_, hid ?_⟩, by simp [intOf]; omega⟩
                            · exact HR9.out.app (by rw [HEq.out, HLv.out]; exact HR8.out) HK8.out HT8.out HY.out HAp.out
                            · rw [List.length_append, HLv.out]; rfl
                            · rw [HXv.out, objs_snoc, HO.out, HLn2.out]
                            · exact HK8.out.grew HQ9.out (Row.at_base HR9.out.row)
                            · intro v hv h0 ad e
                              rcases List.mem_append.1 hv with hv | hv
                              · exact HW.out v hv h0 ad e
                              · obtain rfl := List.mem_singleton.1 hv
                                have h1 := Row.at_base HFr9.out ad.block ⟨ad, e, rfl⟩
                                have h2 := HGb.out.below.size
                                have h3 := HB0.out
                                exact .inl (by omega)
                      · have hb0 : ((j : Int) == (a : Int)) = false := by rw [beq_eq_false_iff_ne]; omega
                        have HLn2 := hid (show lTo (objs l) a b (Ob.putV up under ⟨vk, vn, vl⟩) (j + 1) = lTo (objs l) a b (Ob.putV up under ⟨vk, vn, vl⟩) j ++ [z.o] by rw [HLn.out, if_neg hja])
                        have HY : Hid (OvOk wb z) := hid (HZo.out.grew HGn.out)
                        have HAp : Hid (0 < z.o.f.length → ∀ q, z.A = some q → ¬ AtRow A' q.block) := hid (fun h0 q eq hk => by
                          have h1 := (HA.out.ok z (List.mem_of_getElem? HZ.out)).blk h0 q eq
                          have h2 := (at_row_lt HRb.out.row _ hk).1
                          have h3 := HB0.out
                          omega)
                        clear hja
                        go_wp2_with (at_builtin; refine wpList_pushS (.agg #[.int .i64 0, .int .i64 0, .slice none 0 0, .string ⟨#[]⟩]) 4 56 wb rfl _ _ 23 52 rfl Tryd.underlying23 robj_info rfl (by decide) w2.heap.size HGb.out.below.size A' j k' _ rfl (by have h1 := HRb.out.row; rw [HLv.out] at h1; exact h1) _ rfl rfl [.int .i64 z1, .int .i64 z2, .slice zA zm zc, .string zb] rfl (by intro u hu; simp only [List.mem_cons, List.not_mem_nil, or_false] at hu; rcases hu with rfl | rfl | rfl | rfl <;> rfl) (by omega) (by omega) ?_; intro A8 k8 w8 hR8 hK8 hT8; have HR8 := hid hR8; have HK8 := hid hK8; have HT8 := hid hT8; clear hR8 hK8 hT8)
                        have HEq := hid (show ovF z = [.int .i64 z1, .int .i64 z2, .slice zA zm zc, .string zb] by rw [EZ.out.1, EZ.out.2.1, EZ.out.2.2.1, EZ.out.2.2.2.1, EZ.out.2.2.2.2.1, EZ.out.2.2.2.2.2]; rfl)
                        refine ⟨⟨j + 1, A8, k8, vs ++ [z], by go_num, by omega, rfl, hid ⟨?_, ?_⟩, hid ?_, hid ?_, hid ?_⟩, by simp [intOf]; omega⟩
                        · exact HRb.out.app (by rw [HEq.out, HLv.out]; exact HR8.out) HK8.out HT8.out HY.out HAp.out
                        · rw [List.length_append, HLv.out]; rfl
                        · rw [objs_snoc, HO.out, HLn2.out]
                        · exact HK8.out.grew HGb.out (Row.at_base HRb.out.row)
                        · intro v hv h0 ad e
                          rcases List.mem_append.1 hv with hv | hv
                          · exact HW.out v hv h0 ad e
                          · obtain rfl := List.mem_singleton.1 hv
                            exact .inr ⟨v, List.mem_of_getElem? HZ.out, h0, e⟩
                    · have hjn : j = n := by omega
                      subst hjn
                      have HE := hid (show objs vs = Ob.put up (objs l) (a : Int) (b : Int) under ⟨vk, vn, vl⟩ by
                        rw [HO.out, Ob.put_at HC0.out, lTo, List.take_of_length_le (by rw [List.length_modify, objs_len, ← EN.out]; exact Nat.le_refl _)])
                      go_wp2_with fail
                      go_ret2
                      exact .inr ⟨HC0.out, vs, A', k', by rw [HR.out.2]; rfl, HR.out.1.low HB0.out, HE.out, HG2.out.trans HG.out, HW.out⟩
              · have d6 : (m : Int) ≤ k := by omega
                have HC := hid (Ob.code_field HAg.out (objs_at HX.out) (k := k) (by rw [← EM.out, Ob.inB, decide_eq_false a4, Bool.and_false]))
                go_wp2_with fail
                go_ret2
                exact rput_same n EN.out 3 (by decide) HC.out HG2.out
            · have d5 : k < 0 := by omega
              have HC := hid (Ob.code_field HAg.out (objs_at HX.out) (k := k) (by rw [Ob.inB, decide_eq_false a3, Bool.false_and]))
              go_wp2_with fail
              go_ret2
              exact rput_same n EN.out 3 (by decide) HC.out HG2.out
          · have d4 : (n : Int) ≤ i := by omega
            have HC := hid (Ob.code_obj (l := objs l) (i := i) (k := k) HAg.out (by rw [objs_len, ← EN.out, Ob.inB, decide_eq_false a2, Bool.and_false]))
            go_wp2_with fail
            go_ret2
            exact rput_same n EN.out 3 (by decide) HC.out HG2.out
        · have d3 : i < 0 := by omega
          have HC := hid (Ob.code_obj (l := objs l) (i := i) (k := k) HAg.out (by rw [Ob.inB, decide_eq_false a1, Bool.false_and]))
          go_wp2_with fail
          go_ret2
          exact rput_same n EN.out 3 (by decide) HC.out HG2.out
      · have d2 : (un : Int) ≤ under := by omega
        have HC := hid (Ob.code_arg (up := up) (l := objs l) (i := i) (k := k) (under := under) (v := ⟨vk, vn, vl⟩) (by rw [Ob.inB, ← EUN.out, decide_eq_false u2, Bool.and_false, Bool.and_false]))
        go_wp2_with (go_at_call 20; refine (HV.out w1).mono ?_; rintro e w2 ⟨rfl, hg2⟩)
        go_ret2
        exact rput_same n EN.out 1 (by decide) HC.out (HG1.out.trans hg2)
    · have d1 : under < 0 := by omega
      have HC := hid (Ob.code_arg (up := up) (l := objs l) (i := i) (k := k) (under := under) (v := ⟨vk, vn, vl⟩) (by rw [Ob.inB, decide_eq_false u1, Bool.false_and, Bool.and_false]))
      go_wp2_with (go_at_call 20; refine (HV.out w1).mono ?_; rintro e w2 ⟨rfl, hg2⟩)
      go_ret2
      exact rput_same n EN.out 1 (by decide) HC.out (HG1.out.trans hg2)
end Go.Proofs.YtcfknfiddadgbaaDoor

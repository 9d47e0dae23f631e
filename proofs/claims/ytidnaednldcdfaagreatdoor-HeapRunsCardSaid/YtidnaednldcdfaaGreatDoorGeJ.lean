/- Stage 12: the reference's Add. -/
import Derived.Test.YtidnaednldcdfaaGreatDoorGeR
namespace Go.Proofs.YtidnaednldcdfaaGreatDoor
open Go.RowKit

theorem res_rAdd (tmps : Array Value) (g : Nat) (ha : tmps.getD 4 undef = .pointer (some ⟨g, 0, none⟩)) (v : Value) (hv : tmps.getD 5 undef = v) (u : Value) (hu : tmps.getD 6 undef = u) (w : World) (c0 c1 c2 c3 c4 : Value) (hb : Blk w g 53 #[c0, c1, c2, c3, c4]) :
    (results Tryz.f20 tmps).run Tryz.prog w = .ok (.tuple #[.agg #[c0, c1, c2, c3, c4], v, u]) w := by
  have y0 : w.cell? ⟨g, 0, none⟩ = some c0 := hb.cell 0
  have y1 : w.cell? ⟨g, 1, none⟩ = some c1 := hb.cell 1
  have y2 : w.cell? ⟨g, 2, none⟩ = some c2 := hb.cell 2
  have y3 : w.cell? ⟨g, 3, none⟩ = some c3 := hb.cell 3
  have y4 : w.cell? ⟨g, 4, none⟩ = some c4 := hb.cell 4
  have ha' : tmps[4]?.getD undef = .pointer (some ⟨g, 0, none⟩) := by simpa using ha
  have hv' : tmps[5]?.getD undef = v := by simpa using hv
  have hu' : tmps[6]?.getD undef = u := by simpa using hu
  simp [results, Tryz.results20, go_sem, *]
/-- What the reference's Add answers. -/
def RAddV (w : World) (r : RV) (vA : Option Addr) (up : List Nat) (room : Int) (q : Nat → Int) (L : List Hp.It) (cn : Nat → Int) (o : Ob.Obj) (e : Ending) (w' : World) : Prop :=
  ∃ r' : RV, e = .returned (.tuple #[.agg (rvC r'), .int .i64 (if Hp.addCode up.length L room q o = 0 then ((Hp.least L : Nat) : Int) else 0), .int .i64 ((Hp.addCode up.length L room q o : Nat) : Int)]) ∧ RHAt w' r' up room q (addL up.length L room q cn o) (addN up.length L room q cn o) ∧ r'.U = r.U ∧ (∀ k, RFp r' k → RFp r k ∨ w.heap.size ≤ k ∨ (0 < o.f.length ∧ ∃ ad, vA = some ad ∧ ad.block = k)) ∧ Grew w w'
theorem rAddV_bad {w w' : World} {up : List Nat} {room : Int} {q : Nat → Int} {L : List Hp.It} {cn : Nat → Int} {o : Ob.Obj} {r : RV} {vA : Option Addr} (h : RHAt w' r up room q L cn) (hg : Grew w w') (k : Nat) (hk : k ≠ 0) (he : Hp.addCode up.length L room q o = k) : RAddV w r vA up room q L cn o (.returned (.tuple #[.agg (rvC r), .int .i64 0, .int .i64 ((k : Nat) : Int)])) w' :=
  ⟨r, by rw [he, if_neg hk], by unfold addL addN; rw [he, if_neg hk, if_neg hk]; exact h, rfl, fun _ h => .inl h, hg⟩
theorem rAddV_ok {w w' : World} {up : List Nat} {room : Int} {q : Nat → Int} {L : List Hp.It} {cn : Nat → Int} {o : Ob.Obj} {r r0 : RV} {vA : Option Addr} (hUe : r.U = r0.U) (hfp : ∀ k, RFp r k → RFp r0 k ∨ w.heap.size ≤ k ∨ (0 < o.f.length ∧ ∃ ad, vA = some ad ∧ ad.block = k)) (h : RHAt w' r up room q (Hp.ins L (Hp.newIt L cn o)) (upd cn o.lev.toNat (cn o.lev.toNat + 1))) (hg : Grew w w') (he : Hp.addCode up.length L room q o = 0) : RAddV w r0 vA up room q L cn o (.returned (.tuple #[.agg (rvC r), .int .i64 ((Hp.least L : Nat) : Int), .int .i64 0])) w' :=
  ⟨r, by rw [he, if_pos rfl]; rfl, by unfold addL addN; rw [he, if_pos rfl, if_pos rfl]; exact h, hUe, hfp, hg⟩
theorem rAdd_fin {w wf : World} {U : Option Addr} {cu : Nat} {up : List Nat} {room : Int} {Q : Option Addr} {cq : Nat} {qs : List Int} {I : Option Addr} {ci : Nat} {its : List IV} {C : Option Addr} {cc : Nat} {cs : List Int} {A : Option Addr} {c : Nat} {its2 : List IV} {C2 : Option Addr} {k2 : Nat} {cs2 : List Int} {q cn : Nat → Int} {L : List Hp.It} {o : Ob.Obj} {vA : Option Addr} (hA : ∀ ad, A = some ad → w.heap.size ≤ ad.block) (hC2 : ∀ ad, C2 = some ad → w.heap.size ≤ ad.block) (hmem : ∀ x ∈ its2, x ∈ its ∨ (x.o = o ∧ x.A = vA)) (hgf : Grew w wf) (hat : RvAt w ⟨U, cu, up, room, Q, cq, qs, I, ci, its, C, cc, cs⟩) (hits : ItemsAt wf A its2) (hcs : IntsAt wf C2 cs2) (hcl : cs2.length = up.length) (hq : qs = cntL up.length q) (hI : ivI its2 = Hp.ins L (Hp.newIt L cn o)) (hcn : cs2 = cntL up.length (upd cn o.lev.toNat (cn o.lev.toNat + 1))) (hc1 : its2.length ≤ c) (hc2 : c ≤ 9223372036854775807) (h0 : Hp.addCode up.length L room q o = 0) :
    RAddV w ⟨U, cu, up, room, Q, cq, qs, I, ci, its, C, cc, cs⟩ vA up room q L cn o (.returned (.tuple #[.agg (rvC ⟨U, cu, up, room, Q, cq, qs, A, c, its2, C2, k2, cs2⟩), .int .i64 ((Hp.least L : Nat) : Int), .int .i64 0])) wf :=
  rAddV_ok rfl (fun k hk => (by rcases hk with hk | ⟨_, ad, e, rfl⟩ | ⟨_, ad, e, rfl⟩ | ⟨x, hx, hl, ad, e, rfl⟩; exact .inl (.inl hk); exact .inr (.inl (hC2 ad e)); exact .inr (.inl (hA ad e)); rcases hmem x hx with h1 | ⟨h1, h2⟩; exact .inl (.inr (.inr (.inr ⟨x, h1, hl, ad, e, rfl⟩))); exact .inr (.inr ⟨by rw [← h1]; exact hl, ad, by rw [← h2]; exact e, rfl⟩))) ⟨⟨hat.up.grew hgf, hat.q.grew hgf, hits, hcs, hat.ql, hcl, hat.len⟩, rfl, rfl, hq, hI, hcn, hc1, hc2⟩ hgf h0
set_option maxRecDepth 100000 in
set_option maxHeartbeats 16000000 in
theorem rAdd_c (r : RV) (v : OV) (up : List Nat) (room : Int) (q : Nat → Int) (L : List Hp.It) (cn : Nat → Int) (K : Nat) (w : World) (h : RHAt w r up room q L cn) (hk : LOk up.length L room q cn K) (hv : OvOk w v) (hl : v.o.f.length ≤ 300) (hb : v.o.b.size ≤ 1100) :
    Calls Tryz.prog 20 #[.agg (rvC r), .agg #[.int .i64 v.o.cls, .int .i64 v.o.lev, .slice v.A v.o.f.length v.c, .string v.o.b]] w (RAddV w r v.A up room q L cn v.o) := by
  have HLk := hid hk
  have HMy := hid (fun W (hW : Grew w W) => rmayO_c up.length v W (hv.grew hW) (by omega))
  obtain ⟨hat, eup, eroom, eq, eits, ecn, ecap⟩ := h
  have HAt := hid hat
  have HV := hid hv
  obtain ⟨U, cu, up', room', Q, cq, qs, I, ci, its, C, cc, cs⟩ := r
  simp only at eup eroom eq eits ecn ecap HAt ⊢
  subst eup eroom
  obtain ⟨un, eun⟩ : ∃ un, un = up'.length := ⟨_, rfl⟩
  obtain ⟨m, em⟩ : ∃ m, m = its.length := ⟨_, rfl⟩
  have hql : qs.length = un := by rw [eq, cntL_len, eun]
  have hcl : cs.length = un := by rw [ecn, cntL_len, eun]
  have ERV := hid (show rvC ⟨U, cu, up', room', Q, cq, qs, I, ci, its, C, cc, cs⟩ = #[.slice U un cu, .int .i64 room', .slice Q un cq, .slice I m ci, .slice C un cc] by unfold rvC; simp only; rw [hql, hcl, ← em, ← eun])
  rw [ERV.out]
  rw [← eun] at HLk HMy eq ecn
  rw [← em] at ecap
  have EUN := hid eun
  have EM := hid em
  have EI := hid eits
  have EQ := hid eq
  have EC := hid ecn
  have HCp := hid ecap
  have hm6 : m ≤ 65536 := by have := HLk.out.len; rw [← eits, ivI_len, ← em] at this; exact this
  clear hat eq eits ecn ecap hk hv eun em hql hcl
  obtain ⟨⟨cls, lev, f, bt⟩, oA, oc⟩ := v
  simp only at HMy HV hl hb ⊢
  obtain ⟨o, eo⟩ : ∃ o : Ob.Obj, o = ⟨cls, lev, f, bt⟩ := ⟨_, rfl⟩
  rw [← eo] at HMy HV ⊢
  have EO := hid eo
  obtain ⟨fm, ef⟩ : ∃ fm, fm = f.length := ⟨_, rfl⟩
  rw [← ef] at HMy hl ⊢
  have EF := hid ef
  clear eo ef
  obtain ⟨kc, ekc⟩ : ∃ kc, kc = Hp.addCode un L room' q o := ⟨_, rfl⟩
  have EKC := hid (show Hp.addCode up'.length L room' q o = kc by rw [← EUN.out]; exact ekc.symm)
  rw [EUN.out] at ekc
  have HRH := hid (fun W (hW : Grew w W) => show RHAt W ⟨U, cu, up', room', Q, cq, qs, I, ci, its, C, cc, cs⟩ up' room' q L cn from ⟨HAt.out.grew hW, rfl, rfl, by simp only; rw [← EUN.out]; exact EQ.out, EI.out, by simp only; rw [← EUN.out]; exact EC.out, by simp only; rw [← EM.out]; exact HCp.out⟩)
  clear ekc
  have B1 := ((Blk.new w 53 #[.slice U un cu, .int .i64 room', .slice Q un cq, .slice I m ci, .slice C un cc]).grew ((Grew.refl _).alloc (.cells #[.int .i64 cls, .int .i64 lev, .slice oA fm oc, .string bt] 58))).grew ((Grew.refl _).alloc (.cells #[.slice none 0 0, .int .i64 0, .slice none 0 0, .slice none 0 0, .slice none 0 0] 53))
  have B2 := (Blk.new (w.alloc (.cells #[.slice U un cu, .int .i64 room', .slice Q un cq, .slice I m ci, .slice C un cc] 53)) 58 #[.int .i64 cls, .int .i64 lev, .slice oA fm oc, .string bt]).grew ((Grew.refl _).alloc (.cells #[.slice none 0 0, .int .i64 0, .slice none 0 0, .slice none 0 0, .slice none 0 0] 53))
  have B3 := Blk.new ((w.alloc (.cells #[.slice U un cu, .int .i64 room', .slice Q un cq, .slice I m ci, .slice C un cc] 53)).alloc (.cells #[.int .i64 cls, .int .i64 lev, .slice oA fm oc, .string bt] 58)) 53 #[.slice none 0 0, .int .i64 0, .slice none 0 0, .slice none 0 0, .slice none 0 0]
  have e1 : (w.alloc (.cells #[.slice U un cu, .int .i64 room', .slice Q un cq, .slice I m ci, .slice C un cc] 53)).heap.size = w.heap.size + 1 := World.size_alloc _ _
  have e2 : ((w.alloc (.cells #[.slice U un cu, .int .i64 room', .slice Q un cq, .slice I m ci, .slice C un cc] 53)).alloc (.cells #[.int .i64 cls, .int .i64 lev, .slice oA fm oc, .string bt] 58)).heap.size = w.heap.size + 2 := by rw [World.size_alloc, e1]
  rw [e1] at B2
  rw [e2] at B3
  have G1 := (((Grew.refl w).alloc (.cells #[.slice U un cu, .int .i64 room', .slice Q un cq, .slice I m ci, .slice C un cc] 53)).alloc (.cells #[.int .i64 cls, .int .i64 lev, .slice oA fm oc, .string bt] 58)).alloc (.cells #[.slice none 0 0, .int .i64 0, .slice none 0 0, .slice none 0 0, .slice none 0 0] 53)
  clear e1 e2
  go_enter Tryz.func20, Tryz.ntmps20
  go_upto_region 1 with fail
  generalize (((w.alloc (.cells #[.slice U un cu, .int .i64 room', .slice Q un cq, .slice I m ci, .slice C un cc] 53)).alloc (.cells #[.int .i64 cls, .int .i64 lev, .slice oA fm oc, .string bt] 58)).alloc (.cells #[.slice none 0 0, .int .i64 0, .slice none 0 0, .slice none 0 0, .slice none 0 0] 53)) = w1 at *
  obtain ⟨gx, egx⟩ : ∃ gx, gx = w.heap.size := ⟨_, rfl⟩
  rw [← egx] at B1 B2 B3 ⊢
  have HB1 := hid B1
  have HB2 := hid B2
  have HB3 := hid B3
  have HG1 := hid G1
  have EGX := hid egx
  clear B1 B2 B3 G1 egx
  have p0 := HB1.out.cell 0
  have p1 := HB1.out.cell 1
  have p2 := HB1.out.cell 2
  have p3 := HB1.out.cell 3
  have p4 := HB1.out.cell 4
  have pl := HB1.out.lt
  have pf := HB1.out.frozen
  simp only [List.getElem?_toArray, List.getElem?_cons_zero, List.getElem?_cons_succ] at p0 p1 p2 p3 p4
  have q0 := HB2.out.cell 0
  have q1 := HB2.out.cell 1
  have q2 := HB2.out.cell 2
  have q3 := HB2.out.cell 3
  have ql := HB2.out.lt
  have qf := HB2.out.frozen
  simp only [List.getElem?_toArray, List.getElem?_cons_zero, List.getElem?_cons_succ] at q0 q1 q2 q3
  obtain ⟨bm, ebm⟩ : ∃ bm, bm = Ob.mayB un o := ⟨_, rfl⟩
  rw [← ebm] at HMy
  have EBM := hid ebm
  clear ebm
  cases bm
  · have HK1 := hid (show Hp.addCode up'.length L room' q o = 1 by unfold Hp.addCode; rw [← EUN.out, ← EBM.out, if_pos rfl])
    go_upto_region 2 with (go_at_call 54; refine (HMy.out w1 HG1.out).mono ?_; rintro e w2 ⟨rfl, hg2⟩)
    have HB12 := hid (HB1.out.grew hg2)
    have HB32 := hid (HB3.out.grew hg2)
    have HG2 := hid (HG1.out.trans hg2)
    clear p0 p1 p2 p3 p4 pl pf q0 q1 q2 q3 ql qf hg2
    have p0 := HB12.out.cell 0
    have p1 := HB12.out.cell 1
    have p2 := HB12.out.cell 2
    have p3 := HB12.out.cell 3
    have p4 := HB12.out.cell 4
    have pl := HB12.out.lt
    have pf := HB12.out.frozen
    simp only [List.getElem?_toArray, List.getElem?_cons_zero, List.getElem?_cons_succ] at p0 p1 p2 p3 p4
    have t0 := HB32.out.cell 0
    have t1 := HB32.out.cell 1
    have t2 := HB32.out.cell 2
    have t3 := HB32.out.cell 3
    have t4 := HB32.out.cell 4
    have tl := HB32.out.lt
    have tf := HB32.out.frozen
    simp only [List.getElem?_toArray, List.getElem?_cons_zero, List.getElem?_cons_succ] at t0 t1 t2 t3 t4
    go_wp2_with fail
    refine bodyPost_ret (v := .tuple #[.agg #[.slice U un cu, .int .i64 room', .slice Q un cq, .slice I m ci, .slice C un cc], .int .i64 0, .int .i64 1]) (res_rAdd _ (gx + 2) rfl _ rfl _ rfl _ _ _ _ _ _ (HB32.out.put5 _ _ _ _ _)) rfl ?_
    have hgf := (kept5 (Kept.refl (fun k => k = gx + 2) w2) (fun _ => rfl) (.slice U un cu) (.int .i64 room') (.slice Q un cq) (.slice I m ci) (.slice C un cc)).grew HG2.out (fun k e => by rw [e, EGX.out]; omega)
    rw [← ERV.out]
    exact rAddV_bad (HRH.out _ hgf) hgf 1 (by decide) HK1.out
  · go_upto_region 3 with (go_at_call 54; refine (HMy.out w1 HG1.out).mono ?_; rintro e w2 ⟨rfl, hg2⟩)
    have HB12 := hid (HB1.out.grew hg2)
    have HB22 := hid (HB2.out.grew hg2)
    have HB32 := hid (HB3.out.grew hg2)
    have HG2 := hid (HG1.out.trans hg2)
    clear p0 p1 p2 p3 p4 pl pf q0 q1 q2 q3 ql qf hg2 HB1 HB2 HB3 HG1
    go_upto_region 4 with fail
    go_loopw [7] (fun s7 wr => ∃ n : Nat, s7 = .int .i64 ((n : Nat) : Int) ∧ n ≤ m ∧ Hid (∀ k, k < n → ∃ x : Hp.It, L[k]? = some x ∧ x.i = (k : Int)) ∧ wr = w2) (fun s7 _ => m - (intOf s7).toNat)
    case atStart => exact ⟨0, rfl, Nat.zero_le _, hid (fun k hk => absurd hk (Nat.not_lt_zero _)), rfl⟩
    case round =>
      obtain ⟨n, rfl, hn, HLs, rfl⟩ := hrel
      have p3 := HB12.out.cell 3
      have pl := HB12.out.lt
      simp only [List.getElem?_toArray, List.getElem?_cons_zero, List.getElem?_cons_succ] at p3
      by_cases hlt : n < m
      · have f1 : (n : Int) < (m : Int) := by omega
        obtain ⟨ad, x, rfl, hx, hcl, hbx, -, -, -⟩ := iv_at HAt.out.its HG2.out (i := n) (by rw [← EM.out]; exact hlt)
        have q0 := hcl 0 _ rfl
        rw [add_zero] at q0
        have hxL : L[n]? = some ⟨x.i, x.h, x.o⟩ := by rw [← EI.out]; exact ivI_at hx
        have HXL := hid hxL
        obtain ⟨xi, xh, xo, xA, xc⟩ := x
        simp only at q0 HXL
        clear hx hxL hcl
        by_cases c1 : xi = (n : Int)
        · have c2 : (xi == (n : Int)) = true := by rw [beq_iff_eq]; exact c1
          have HLn := hid (show ∀ k, k < n + 1 → ∃ x : Hp.It, L[k]? = some x ∧ x.i = (k : Int) from fun k hk => by
            rcases Nat.lt_or_ge k n with h1 | h1
            · exact HLs.out k h1
            · obtain rfl : k = n := by omega
              exact ⟨_, HXL.out, c1⟩)
          clear c1
          go_wp2_with fail
          go_round
          case rel => exact ⟨n + 1, by go_num, by omega, HLn, trivial⟩
          case measure => simp [intOf]; omega
        · have c2 : (xi == (n : Int)) = false := by rw [beq_eq_false_iff_ne]; exact c1
          have HLe := hid (least_loop HLs.out (.inr ⟨_, HXL.out, c1⟩))
          clear c1 HLs HXL
          go_upto_region 6 with fail
          clear p3 pl q0 hbx c2 f1
          obtain ⟨I, eI⟩ : ∃ I, I = some ad := ⟨_, rfl⟩
          rw [← eI] at HAt ERV HRH HB12 ⊢
          have EI2 := hid eI
          clear eI
          obtain ⟨j, ej⟩ : ∃ j : Nat, lev = (j : Int) := ⟨lev.toNat, by have := hp_head EBM.out.symm; rw [EO.out] at this; simp only at this; omega⟩
          have hju : j < un := by have := hp_head EBM.out.symm; rw [EO.out] at this; simp only at this; omega
          have g1 : (j : Int) < (un : Int) := by omega
          subst ej
          obtain ⟨a2, cj, eC, hcj, -, -⟩ := int_at HAt.out.cn HG2.out (i := j) (by simp only; rw [EC.out, cntL_len]; exact hju)
          simp only at eC hcj
          subst eC
          have ECj := hid (show cj = cn j by rw [EC.out, cntL_at hju] at hcj; exact (Option.some.inj hcj).symm)
          have HCt : Hid (∀ W, Grew wr W → W.cell? (a2.add j) = some (.int .i64 cj) ∧ a2.block < W.heap.size) := hid (fun W hW => by
            obtain ⟨a3, c3, h1, h2, h3, h4⟩ := int_at HAt.out.cn (HG2.out.trans hW) (i := j) (by simp only; rw [EC.out, cntL_len]; exact hju)
            simp only [Option.some.injEq] at h1
            subst h1
            have h5 : cs[j]? = some c3 := h2
            rw [hcj] at h5
            cases h5
            exact ⟨h3, h4⟩)
          clear hcj
          have p0 := HB12.out.cell 0
          have p1 := HB12.out.cell 1
          have p2 := HB12.out.cell 2
          have p3 := HB12.out.cell 3
          have p4 := HB12.out.cell 4
          have pl := HB12.out.lt
          have pf := HB12.out.frozen
          simp only [List.getElem?_toArray, List.getElem?_cons_zero, List.getElem?_cons_succ] at p0 p1 p2 p3 p4
          have B4 := Blk.new wr 53 #[.slice U un cu, .int .i64 room', .slice Q un cq, .slice I m ci, .slice (some a2) un cc]
          have G4 := (Grew.refl wr).alloc (.cells #[.slice U un cu, .int .i64 room', .slice Q un cq, .slice I m ci, .slice (some a2) un cc] 53)
          go_upto_region 7 with fail
          generalize wr.alloc (.cells #[.slice U un cu, .int .i64 room', .slice Q un cq, .slice I m ci, .slice (some a2) un cc] 53) = w3 at *
          obtain ⟨gt, egt⟩ : ∃ gt, gt = wr.heap.size := ⟨_, rfl⟩
          rw [← egt] at B4 ⊢
          have HBt := hid B4
          have HB13 := hid (HB12.out.grew G4)
          have HB23 := hid (HB22.out.grew G4)
          have HB33 := hid (HB32.out.grew G4)
          have HG3 := hid (HG2.out.trans G4)
          have HCt3 : Hid (∀ W, Grew w3 W → W.cell? (a2.add j) = some (.int .i64 cj) ∧ a2.block < W.heap.size) := hid (fun W hW => HCt.out W (G4.trans hW))
          have HGt := hid (show gx + 2 < gt by rw [egt]; exact HB32.out.lt)
          clear p0 p1 p2 p3 p4 pl pf B4 G4 egt HB12 HB22 HB32 HCt
          have HCt := HCt3
          clear HCt3
          have hnm : (n : Int) ≤ (m : Int) := by omega
          obtain ⟨hci1, hci2⟩ := HCp.out
          have hnc : n ≤ ci := by omega
          obtain ⟨xs, exs⟩ : ∃ xs, xs = (its.take n).flatMap ivF := ⟨_, rfl⟩
          obtain ⟨ys, eys⟩ : ∃ ys, ys = (its.drop n).flatMap ivF := ⟨_, rfl⟩
          obtain ⟨nw, enw⟩ : ∃ nw : List Value, nw = [.int .i64 ((n : Nat) : Int), .int .i64 cj, .int .i64 cls, .int .i64 ((j : Nat) : Int), .slice oA fm oc, .string bt] := ⟨_, rfl⟩
          have HXl := hid (show xs.length = n * 6 by rw [exs, flatMap_length ivF_len, List.length_take, ← EM.out, Nat.min_eq_left (by omega)])
          have HYl := hid (show ys.length = (m - n) * 6 by rw [eys, flatMap_length ivF_len, List.length_drop, ← EM.out])
          have HX1 := hid (show ∀ u ∈ xs, u.oneCell' = true by rw [exs]; intro u hu; obtain ⟨x, _, hx⟩ := List.mem_flatMap.1 hu; exact ivF_one x u hx)
          have HY1 := hid (show ∀ u ∈ ys, u.oneCell' = true by rw [eys]; intro u hu; obtain ⟨x, _, hx⟩ := List.mem_flatMap.1 hu; exact ivF_one x u hx)
          have HNl := hid (show nw.length = 1 * 6 by rw [enw]; rfl)
          have HN1 := hid (show ∀ u ∈ nw, u.oneCell' = true by rw [enw]; intro u hu; simp only [List.mem_cons, List.not_mem_nil, or_false] at hu; rcases hu with rfl | rfl | rfl | rfl | rfl | rfl <;> rfl)
          have HNw := hid (show nw ≠ [] by rw [enw]; simp)
          have ENw := hid enw
          have EXs := hid exs
          have EYs := hid eys
          have HXs : Hid (∀ W, Grew w3 W → ∀ ad, I = some ad → ∀ k u, xs[k]? = some u → W.cell? (ad.add k) = some u) := hid (fun W hW ad e k u hu => items_cell (HAt.out.its.grew (HG3.out.trans hW)) e k (by rw [EXs.out] at hu; exact flat_take hu))
          have HIn := hid (show I = none → n = 0 from fun e => by have := items_none HAt.out.its e; simp only at this; rw [← EM.out] at this; omega)
          have HYs : Hid (∀ W, Grew w3 W → ∀ ad, (if ci = n then I else Option.map (fun x => x.add (n * 6)) I) = some ad → ∀ k u, ys[k]? = some u → W.cell? (ad.add k) = some u) := hid (fun W hW ad e k u hu => by
            by_cases hc : ci = n
            · have h1 := (List.getElem?_eq_some_iff.1 hu).1
              rw [HYl.out] at h1
              omega
            · rw [if_neg hc] at e
              obtain ⟨ad0, e0, e1⟩ := Option.map_eq_some_iff.1 e
              rw [← e1, add_add]
              exact items_cell (HAt.out.its.grew (HG3.out.trans hW)) e0 _ (by rw [EYs.out] at hu; exact flat_drop (by rw [← EM.out]; omega) hu))
          have HYn := hid (show (if ci = n then I else Option.map (fun x => x.add (n * 6)) I) = none → m - n = 0 from fun e => by
            by_cases hc : ci = n
            · omega
            · rw [if_neg hc, Option.map_eq_none_iff] at e
              have := items_none HAt.out.its e
              simp only at this
              rw [← EM.out] at this
              omega)
          clear exs eys enw
          refine wp_region_facts6 (w0 := w3) w3 23 23 [34, 35, 36, 37, 38, 39, 40, 41, 42, 43, 44, 45, 46, 47, 48, 49, 50, 51, 52, 53, 54, 55, 56] [] (RdF gx gt I m ci n (some a2) un cc ((j : Nat) : Int) cj (.pointer (some (a2.add j))) (.agg #[.int .i64 cls, .int .i64 ((j : Nat) : Int), .slice oA fm oc, .string bt]) (.agg #[.int .i64 ((n : Nat) : Int), .int .i64 cj, .int .i64 cls, .int .i64 ((j : Nat) : Int), .slice oA fm oc, .string bt]) (.slice (if ci = n then I else Option.map (fun x => x.add (n * 6)) I) (m - n) (ci - n))) (Kept (fun k => w3.heap.size ≤ k)) (fun _ => Kept (fun k => w3.heap.size ≤ k)) (RdJ w3 n m xs nw ys) (fun f s s' w hs h => h.same rfl rfl rfl rfl rfl (hs 0 (by decide)).symm (hs 5 (by decide)).symm (hs 15 (by decide)).symm (hs 16 (by decide)).symm (hs 21 (by decide)).symm) (May.kept _) (fun _ _ _ h => h) (fun _ w => Kept.refl _ w) (by kernel_rfl) (by kernel_rfl) (Kept.refl _ _).drew (RdJ.start _ _ _ _ _ _ _ (Kept.refl _ _).drew) (fun a _ v w w' _ _ _ _ h hr => h) ?_ ?_
          · repeat' (first | exact trivial | apply And.intro)
            all_goals
              intro a w' fl hgk hJ hfi hdep hs hA
              have t2 := hs.eval 2 (by decide) (v := .pointer (some ⟨gx, 0, none⟩)) rfl
              have t3 := hs.eval 3 (by decide) (v := .pointer (some ⟨gx + 1, 0, none⟩)) rfl
              have t7 := hs.eval 7 (by decide) (v := .int .i64 ((n : Nat) : Int)) rfl
              have t8 := hs.eval 8 (by decide) (v := .pointer (some ⟨gt, 0, none⟩)) rfl
              have HJ1 := hid hJ
              have HFi := hid hfi
              have HDp := hid hdep
              have hgw : Grew w3 w' := Kept.up hgk
              have HGW := hid hgw
              have HBx := hid (HB13.out.grew hgw)
              have HBo := hid (HB23.out.grew hgw)
              have x3 := HBx.out.cell 3
              have x4 := HBx.out.cell 4
              have xl := HBx.out.lt
              have o0 := HBo.out.cell 0
              have o1 := HBo.out.cell 1
              have o2 := HBo.out.cell 2
              have o3 := HBo.out.cell 3
              have ol := HBo.out.lt
              simp only [List.getElem?_toArray, List.getElem?_cons_zero, List.getElem?_cons_succ] at x3 x4 o0 o1 o2 o3
              have c0 := (HCt.out w' hgw).1
              have c1 := (HCt.out w' hgw).2
              clear hs hgk hJ hfi hdep hgw
              simp only [Ahead, Region.binds, slotOf, RdF, List.getD_cons_succ, List.getD_cons_zero, forall_const, and_true] at hA
              simp only [wantedD, if_true]
              unfold Oper.wp
              have ec : ∀ v, a.eval (.const v) = v := fun _ => rfl
              generalize hfe : a.eval = fe at *
              have ef : ∀ k, fe (.func k) = Act.eval ⟨#[], []⟩ (.func k) := fun k => by rw [← hfe]; rfl
              have S0 := hid (show slotOf [34, 35, 36, 37, 38, 39, 40, 41, 42, 43, 44, 45, 46, 47, 48, 49, 50, 51, 52, 53, 54, 55, 56] 0 a = fe (.tmp 34) by rw [← hfe]; rfl)
              have S5 := hid (show slotOf [34, 35, 36, 37, 38, 39, 40, 41, 42, 43, 44, 45, 46, 47, 48, 49, 50, 51, 52, 53, 54, 55, 56] 5 a = fe (.tmp 39) by rw [← hfe]; rfl)
              have S15 := hid (show slotOf [34, 35, 36, 37, 38, 39, 40, 41, 42, 43, 44, 45, 46, 47, 48, 49, 50, 51, 52, 53, 54, 55, 56] 15 a = fe (.tmp 49) by rw [← hfe]; rfl)
              have S16 := hid (show slotOf [34, 35, 36, 37, 38, 39, 40, 41, 42, 43, 44, 45, 46, 47, 48, 49, 50, 51, 52, 53, 54, 55, 56] 16 a = fe (.tmp 50) by rw [← hfe]; rfl)
              clear hfe
            · have hbn := Blk.new w' 75 #[]
              have hgn := (Grew.refl w').alloc (.cells #[] 75)
              have HBn := hid hbn
              have HGn := hid hgn
              clear hbn hgn
              go_simp
              exact Gives3.of rfl (Kept.of_grew HGn.out) ⟨⟨w'.heap.size, rfl⟩, (HJ1.out.grew HGn.out).set0 HGW.out.below.size HBn.out⟩ trivial
            · go_simp
              exact Gives3.of rfl (Kept.refl _ _) ⟨rfl, HJ1.out.pure 1 _ (by decide) (by decide) (by decide) (by decide) (by decide)⟩ trivial
            · have hv := hA
              go_simp
              exact Gives3.of rfl (Kept.refl _ _) ⟨rfl, HJ1.out.pure 2 _ (by decide) (by decide) (by decide) (by decide) (by decide)⟩ trivial
            · go_simp
              exact Gives3.of rfl (Kept.refl _ _) ⟨rfl, HJ1.out.pure 3 _ (by decide) (by decide) (by decide) (by decide) (by decide)⟩ trivial
            · have hv := hA
              go_simp
              exact Gives3.of rfl (Kept.refl _ _) ⟨rfl, HJ1.out.pure 4 _ (by decide) (by decide) (by decide) (by decide) (by decide)⟩ trivial
            · obtain ⟨-, hv2⟩ := hA
              obtain ⟨H, hs0, hB, hbn⟩ := HJ1.out.j0 (HDp.out ⟨0, .data⟩ (by simp) rfl) HFi.out
              have hv1 : fe (.tmp 34) = .slice (some ⟨H, 0, none⟩) 0 0 := S0.out.symm.trans hs0
              have hown : Row w' w3.heap.size 75 6 (some ⟨H, 0, none⟩) 0 0 [] := Row.of_blk (n := 0) hbn hB rfl (by decide)
              obtain ⟨A3, c3, w2', hrun, r1, r2, r3⟩ := run_catR (P := Tryz.prog) 51 51 75 (.agg #[.int .i64 0, .int .i64 0, .int .i64 0, .int .i64 0, .slice none 0 0, .string ⟨#[]⟩]) 6 72 Tryz.underlying51 ritem_info rfl (by decide) w' w3.heap.size HGW.out.below.size (some ⟨H, 0, none⟩) 0 0 [] hown I n ci xs HXl.out HX1.out HIn.out (HXs.out w' HGW.out) (by omega) (by omega)
              rw [Nat.zero_add] at hrun r1
              rw [List.nil_append] at r1
              simp only [execOp, resolve, invoke, builtin, Sem.run_bind, Sem.run_pure, Result.andThen_ok, List.map_toArray, List.map_cons, List.map_nil, hv1, hv2, hrun, Oper.upon]
              exact Gives3.of rfl (r2.mono (fun k _ hq => Row.at_base hown k hq)) ⟨⟨A3, c3, rfl⟩, HJ1.out.set5 HFi.out HNw.out hB hbn r2 r1⟩ trivial
            · go_simp
              exact Gives3.of rfl (Kept.refl _ _) ⟨rfl, HJ1.out.pure 6 _ (by decide) (by decide) (by decide) (by decide) (by decide)⟩ trivial
            · go_simp
              exact Gives3.of rfl (Kept.refl _ _) ⟨rfl, HJ1.out.pure 7 _ (by decide) (by decide) (by decide) (by decide) (by decide)⟩ trivial
            · have hv := hA
              go_simp
              exact Gives3.of rfl (Kept.refl _ _) ⟨rfl, HJ1.out.pure 8 _ (by decide) (by decide) (by decide) (by decide) (by decide)⟩ trivial
            · go_simp
              exact Gives3.of rfl (Kept.refl _ _) ⟨rfl, HJ1.out.pure 9 _ (by decide) (by decide) (by decide) (by decide) (by decide)⟩ trivial
            · have hv := hA
              go_simp
              exact Gives3.of rfl (Kept.refl _ _) ⟨rfl, HJ1.out.pure 10 _ (by decide) (by decide) (by decide) (by decide) (by decide)⟩ trivial
            · have hv := hA
              go_simp
              exact Gives3.of rfl (Kept.refl _ _) ⟨rfl, HJ1.out.pure 11 _ (by decide) (by decide) (by decide) (by decide) (by decide)⟩ trivial
            · have hv := hA
              go_simp
              exact Gives3.of rfl (Kept.refl _ _) ⟨rfl, HJ1.out.pure 12 _ (by decide) (by decide) (by decide) (by decide) (by decide)⟩ trivial
            · go_simp
              exact Gives3.of rfl (Kept.refl _ _) ⟨rfl, HJ1.out.pure 13 _ (by decide) (by decide) (by decide) (by decide) (by decide)⟩ trivial
            · have hv := hA
              go_simp
              exact Gives3.of rfl (Kept.refl _ _) ⟨rfl, HJ1.out.pure 14 _ (by decide) (by decide) (by decide) (by decide) (by decide)⟩ trivial
            · have hbn := Blk.new w' 75 nw.toArray
              have hgn := (Grew.refl w').alloc (.cells nw.toArray 75)
              rw [ENw.out] at hbn hgn
              have HBn := hid hbn
              have HGn := hid hgn
              clear hbn hgn
              have hv := hA
              go_simp
              exact Gives3.of rfl (Kept.of_grew HGn.out) ⟨⟨w'.heap.size, rfl⟩, (HJ1.out.grew HGn.out).set15 HGW.out.below.size (by rw [ENw.out]; exact HBn.out)⟩ trivial
            · have h5 := HDp.out ⟨5, .data⟩ (by simp) rfl
              obtain ⟨A5, c5, hs5, hr5⟩ := HJ1.out.j5 h5 HFi.out
              obtain ⟨H, hs15, hB, hbn⟩ := HJ1.out.j15 (HDp.out ⟨15, .data⟩ (by simp) rfl) HFi.out
              have hv1 : fe (.tmp 39) = .slice A5 n c5 := S5.out.symm.trans hs5
              have hv2 : fe (.tmp 49) = .slice (some ⟨H, 0, none⟩) 1 1 := S15.out.symm.trans hs15
              obtain ⟨A3, c3, w2', hrun, r1, r2, r3⟩ := run_catR (P := Tryz.prog) 51 51 75 (.agg #[.int .i64 0, .int .i64 0, .int .i64 0, .int .i64 0, .slice none 0 0, .string ⟨#[]⟩]) 6 72 Tryz.underlying51 ritem_info rfl (by decide) w' w3.heap.size HGW.out.below.size A5 n c5 xs hr5 (some ⟨H, 0, none⟩) 1 1 nw HNl.out HN1.out (by intro h; cases h) (blk_row hbn) (by omega) (by omega)
              simp only [execOp, resolve, invoke, builtin, Sem.run_bind, Sem.run_pure, Result.andThen_ok, List.map_toArray, List.map_cons, List.map_nil, hv1, hv2, hrun, Oper.upon]
              exact Gives3.of rfl (r2.mono (fun k _ hq => Row.at_base hr5 k hq)) ⟨⟨A3, c3, rfl⟩, HJ1.out.set16 h5 HFi.out hr5 r2 r1⟩ trivial
            · go_simp
              exact Gives3.of rfl (Kept.refl _ _) ⟨rfl, HJ1.out.pure 17 _ (by decide) (by decide) (by decide) (by decide) (by decide)⟩ trivial
            · have hv := hA
              go_simp
              exact Gives3.of rfl (Kept.refl _ _) ⟨rfl, HJ1.out.pure 18 _ (by decide) (by decide) (by decide) (by decide) (by decide)⟩ trivial
            · go_simp
              exact Gives3.of rfl (Kept.refl _ _) ⟨rfl, HJ1.out.pure 19 _ (by decide) (by decide) (by decide) (by decide) (by decide)⟩ trivial
            · have hv := hA
              go_simp
              exact Gives3.of rfl (Kept.refl _ _) ⟨rfl, HJ1.out.pure 20 _ (by decide) (by decide) (by decide) (by decide) (by decide)⟩ trivial
            · have h16 := HDp.out ⟨16, .data⟩ (by simp) rfl
              obtain ⟨A5, c5, hs5, hr5⟩ := HJ1.out.j16 h16 HFi.out
              have hv2 := hA.2
              have hv1 : fe (.tmp 50) = .slice A5 (n + 1) c5 := S16.out.symm.trans hs5
              obtain ⟨A3, c3, w2', hrun, r1, r2, r3⟩ := run_catR (P := Tryz.prog) 51 51 75 (.agg #[.int .i64 0, .int .i64 0, .int .i64 0, .int .i64 0, .slice none 0 0, .string ⟨#[]⟩]) 6 72 Tryz.underlying51 ritem_info rfl (by decide) w' w3.heap.size HGW.out.below.size A5 (n + 1) c5 (xs ++ nw) hr5 (if ci = n then I else Option.map (fun x => x.add (n * 6)) I) (m - n) (ci - n) ys HYl.out HY1.out HYn.out (HYs.out w' HGW.out) (by omega) (by omega)
              rw [show n + 1 + (m - n) = m + 1 by omega] at hrun r1
              simp only [execOp, resolve, invoke, builtin, Sem.run_bind, Sem.run_pure, Result.andThen_ok, List.map_toArray, List.map_cons, List.map_nil, hv1, hv2, hrun, Oper.upon]
              exact Gives3.of rfl (r2.mono (fun k _ hq => Row.at_base hr5 k hq)) ⟨⟨A3, c3, rfl⟩, HJ1.out.set21 h16 hr5 r2 r1⟩ trivial
            · go_simp
              exact Gives3.of rfl (Kept.refl _ _) ⟨rfl, HJ1.out.pure 22 _ (by decide) (by decide) (by decide) (by decide) (by decide)⟩ trivial
          · intro a2' wn hgk hs hf hJ _
            have hgw : Grew w3 wn := Kept.up hgk
            obtain ⟨A, c, ev, hrow⟩ := hJ.j21 rfl
            have h22 := hf 22 (by decide)
            simp only [slotOf, RdF, List.getD_cons_succ, List.getD_cons_zero] at ev h22
            obtain ⟨fn, rfl, hft⟩ := hs.put
            rw [hft] at ev h22
            have HRw := hid hrow
            have HGn := hid (HG3.out.trans hgw)
            have HG3w := hid HG3.out.below.size
            have HBtn := hid (HBt.out.grew hgw)
            have HB14 := hid (HB13.out.grew hgw)
            have HB24 := hid (HB23.out.grew hgw)
            have HB34 := hid (HB33.out.grew hgw)
            have HCtn : Hid (∀ W, Grew wn W → W.cell? (a2.add j) = some (.int .i64 cj) ∧ a2.block < W.heap.size) := hid (fun W hW => HCt.out W (hgw.trans hW))
            have HLow := hid hgw.below.size
            clear hf hft hs hgk hJ hrow HBt HB13 HB23 HB33 HCt hgw HXl HYl HX1 HY1 HNl HN1 HNw HXs HIn HYs HYn
            simp only [List.drop_succ_cons, List.drop_zero, putAll, List.foldl_cons, List.foldl_nil, Act.put, List.setIfInBounds_toArray, List.set_cons_succ, List.set_cons_zero, ev, h22]
            clear ev h22
            have p0 := HBtn.out.cell 0
            have p1 := HBtn.out.cell 1
            have p2 := HBtn.out.cell 2
            have p3 := HBtn.out.cell 3
            have p4 := HBtn.out.cell 4
            have pl := HBtn.out.lt
            have pf := HBtn.out.frozen
            simp only [List.getElem?_toArray, List.getElem?_cons_zero, List.getElem?_cons_succ] at p0 p1 p2 p3 p4
            go_upto_region 8 with fail
            clear p0 p1 p2 p3 p4 pl pf
            have HT4 : Hid (Blk (wn.setCell ⟨gt, 3, none⟩ (.slice A (m + 1) c)) gt 53 #[.slice U un cu, .int .i64 room', .slice Q un cq, .slice A (m + 1) c, .slice (some a2) un cc]) := hid (by have h1 := HBtn.out.put 3 (.slice A (m + 1) c); simpa using h1)
            have HK4 : Hid (Kept (fun k => k = gt) wn (wn.setCell ⟨gt, 3, none⟩ (.slice A (m + 1) c))) := hid ((Kept.refl (fun k => k = gt) wn).setCell (p := ⟨gt, 3, none⟩) (fun _ => rfl) _)
            have HB15 := hid (HB14.out.kept HK4.out (by have := HGt.out; omega))
            have HB25 := hid (HB24.out.kept HK4.out (by have := HGt.out; omega))
            have HB35 := hid (HB34.out.kept HK4.out (by have := HGt.out; omega))
            have hgt0 : w.heap.size ≤ gt := by have h1 := HGt.out; have h2 := EGX.out; omega
            have HG4 := hid (HK4.out.grew HGn.out (fun k e => by rw [e]; exact hgt0))
            have HR4 := hid (HRw.out.kept HK4.out (fun g hA e => by obtain ⟨ds, hd⟩ := HRw.out.blkAt (k := g) ⟨_, hA, rfl⟩; rw [e] at hd; exact absurd (hd.ty HBtn.out).1 (by decide)))
            clear HBtn HB14 HB24 HB34 HRw
            generalize wn.setCell ⟨gt, 3, none⟩ (.slice A (m + 1) c) = w4 at *
            have EITS := hid (show (xs ++ nw) ++ ys = (its.take n ++ ⟨(n : Int), cj, o, oA, oc⟩ :: its.drop n).flatMap ivF by rw [EXs.out, EYs.out, ENw.out, List.flatMap_append, List.flatMap_cons, List.append_assoc, EO.out, EF.out]; rfl)
            rw [EITS.out] at HR4
            obtain ⟨its2, eits2⟩ : ∃ its2, its2 = its.take n ++ ⟨(n : Int), cj, o, oA, oc⟩ :: its.drop n := ⟨_, rfl⟩
            rw [← eits2] at HR4
            have EM2 := hid (show its2.length = m + 1 by rw [eits2, List.length_append, List.length_cons, List.length_take, List.length_drop, ← EM.out]; omega)
            have HIn2 := hid (show ivI its2 = Hp.ins L (Hp.newIt L cn o) by
              rw [Hp.ins_least HLk.out.sorted (fun x hx => (HLk.out.range x hx).1) _ rfl, HLe.out, eits2, ivI_app, ← EI.out, ivI_take]
              have e1 : (ivI its).drop n = ivI (its.drop n) := by unfold ivI; rw [List.map_drop]
              rw [e1]
              show ivI (its.take n) ++ ⟨(n : Int), cj, o⟩ :: ivI (its.drop n) = ivI (its.take n) ++ Hp.newIt (ivI its) cn o :: ivI (its.drop n)
              have e2 : Hp.newIt (ivI its) cn o = ⟨(n : Int), cj, o⟩ := by
                unfold Hp.newIt
                rw [EI.out, HLe.out, ECj.out, EO.out]
                simp only [Int.toNat_natCast]
              rw [e2])
            have HOkI := hid (show ∀ x ∈ its2, OvOk w ⟨x.o, x.A, x.c⟩ ∧ N64 x.i ∧ N64 x.h by
              intro x hx
              rw [eits2, List.mem_append, List.mem_cons] at hx
              rcases hx with hx | rfl | hx
              · exact HAt.out.its.ok x (List.mem_of_mem_take hx)
              · have h1 := HLk.out.cn j
                have h2 := HLk.out.C
                rw [← ECj.out] at h1
                exact ⟨HV.out, ⟨by simp only; omega, by simp only; omega⟩, ⟨by simp only; omega, by simp only; omega⟩⟩
              · exact HAt.out.its.ok x (List.mem_of_mem_drop hx))
            have HIt : Hid (∀ W, Grew w W → Row W w3.heap.size 75 6 A its2.length c (its2.flatMap ivF) → ItemsAt W A its2) := hid (fun W hW hr => ⟨fun x hx => ⟨(HOkI.out x hx).1.grew hW, (HOkI.out x hx).2⟩, fun hl => by
              rcases hr.cases with ⟨_, _, _, ⟨_, h2, _⟩ | ⟨g, h1, hb, hw, hc, _⟩⟩
              · omega
              · exact ⟨⟨g, 0, none⟩, h1, hw, CellsAt.of_row ivF_len (by rw [h1] at hr; exact hr)⟩⟩)
            have HSm := hid (show Small (ivI its2) by
              refine ⟨by rw [ivI_len, EM2.out]; omega, fun x hx => ?_⟩
              obtain ⟨y, hy, rfl⟩ := List.mem_map.1 hx
              rw [eits2, List.mem_append, List.mem_cons] at hy
              rcases hy with hy | rfl | hy
              · exact HLk.out.small.2 _ (by rw [← EI.out]; exact List.mem_map.2 ⟨y, List.mem_of_mem_take hy, rfl⟩)
              · simp only
                rw [EO.out]
                exact ⟨by simp only; rw [← EF.out]; exact hl, by simp only; exact hb⟩
              · exact HLk.out.small.2 _ (by rw [← EI.out]; exact List.mem_map.2 ⟨y, List.mem_of_mem_drop hy, rfl⟩))
            have HCc := hid (show c ≤ 9223372036854775807 ∧ m + 1 ≤ c by have h1 := HR4.out.cases; exact ⟨h1.2.2.1, h1.2.1⟩)
            rw [← EM2.out] at HR4
            have HMem := hid (show ∀ x ∈ its2, x ∈ its ∨ (x.o = o ∧ x.A = oA) from fun x hx => by rw [eits2, List.mem_append, List.mem_cons] at hx; rcases hx with hx | rfl | hx; exact .inl (List.mem_of_mem_take hx); exact .inr ⟨rfl, rfl⟩; exact .inl (List.mem_of_mem_drop hx))
            clear eits2 EITS HOkI
            have HOv : Hid (∀ W, Grew w4 W → Calls Tryz.prog 55 #[.agg #[.slice U un cu, .int .i64 room', .slice Q un cq, .slice A (m + 1) c, .slice (some a2) un cc]] W fun e w' => e = .returned (.bool (!fitsAll un (Hp.ins L (Hp.newIt L cn o)) room' q)) ∧ Grew W w') := hid (fun W hW => by
              have h1 := rOver_c ⟨U, cu, up', room', Q, cq, qs, A, c, its2, some a2, cc, cs⟩ W ⟨HAt.out.up.grew (HG4.out.trans hW), HAt.out.q.grew (HG4.out.trans hW), HIt.out W (HG4.out.trans hW) (HR4.out.grew hW), HAt.out.cn.grew (HG4.out.trans hW), HAt.out.ql, HAt.out.cl, HAt.out.len⟩ HSm.out q (by simp only; rw [← EUN.out]; exact EQ.out)
              simp only [rvC] at h1
              rw [← EUN.out, show qs.length = un by rw [EQ.out, cntL_len], show cs.length = un by rw [EC.out, cntL_len], EM2.out, HIn2.out] at h1
              exact h1)
            have HAo := hid (add_over (cn := cn) HLk.out (o := o) EBM.out.symm)
            rw [HLe.out] at HAo
            obtain ⟨bf, ebf⟩ : ∃ bf, bf = fitsAll un (Hp.ins L (Hp.newIt L cn o)) room' q := ⟨_, rfl⟩
            rw [← ebf] at HOv HAo
            clear ebf
            have HCode := hid (show Hp.addCode up'.length L room' q o = if (!bf || decide (65535 < n)) then 12 else 0 by unfold Hp.addCode; rw [← EUN.out, ← EBM.out, if_neg (by decide), ← HAo.out])
            have p0 := HT4.out.cell 0
            have p1 := HT4.out.cell 1
            have p2 := HT4.out.cell 2
            have p3 := HT4.out.cell 3
            have p4 := HT4.out.cell 4
            have pl := HT4.out.lt
            have pf := HT4.out.frozen
            simp only [List.getElem?_toArray, List.getElem?_cons_zero, List.getElem?_cons_succ] at p0 p1 p2 p3 p4
            by_cases hfull : bf = false ∨ 65535 < n
            · have H12 := hid (show Hp.addCode up'.length L room' q o = 12 by
                rw [HCode.out]
                rcases hfull with h | h
                · rw [h]; rfl
                · rw [decide_eq_true h, Bool.or_true, if_pos rfl])
              have hbf : bf = false ∨ (bf = true ∧ (65535 : Int) < (n : Int)) := by
                cases bf
                · exact .inl rfl
                · exact .inr ⟨rfl, by rcases hfull with h | h; cases h; omega⟩
              clear hfull
              rcases hbf with rfl | ⟨rfl, hn6⟩
              · go_upto_region 9 with (go_at_call 55; refine (HOv.out w4 (Grew.refl _)).mono ?_; rintro e w5 ⟨rfl, hg5⟩)
                have HB16 := hid (HB15.out.grew hg5)
                have HB36 := hid (HB35.out.grew hg5)
                have HG5 := hid (HG4.out.trans hg5)
                clear p0 p1 p2 p3 p4 pl pf hg5 HOv
                have p0 := HB16.out.cell 0
                have p1 := HB16.out.cell 1
                have p2 := HB16.out.cell 2
                have p3 := HB16.out.cell 3
                have p4 := HB16.out.cell 4
                have pl := HB16.out.lt
                have pf := HB16.out.frozen
                simp only [List.getElem?_toArray, List.getElem?_cons_zero, List.getElem?_cons_succ] at p0 p1 p2 p3 p4
                have t0 := HB36.out.cell 0
                have t1 := HB36.out.cell 1
                have t2 := HB36.out.cell 2
                have t3 := HB36.out.cell 3
                have t4 := HB36.out.cell 4
                have tl := HB36.out.lt
                have tf := HB36.out.frozen
                simp only [List.getElem?_toArray, List.getElem?_cons_zero, List.getElem?_cons_succ] at t0 t1 t2 t3 t4
                go_wp2_with fail
                refine bodyPost_ret (v := .tuple #[.agg #[.slice U un cu, .int .i64 room', .slice Q un cq, .slice I m ci, .slice (some a2) un cc], .int .i64 0, .int .i64 12]) (res_rAdd _ (gx + 2) rfl _ rfl _ rfl _ _ _ _ _ _ (HB36.out.put5 _ _ _ _ _)) rfl ?_
                have hgf := (kept5 (Kept.refl (fun k => k = gx + 2) w5) (fun _ => rfl) (.slice U un cu) (.int .i64 room') (.slice Q un cq) (.slice I m ci) (.slice (some a2) un cc)).grew HG5.out (fun k e => by rw [e, EGX.out]; omega)
                rw [← ERV.out]
                rw [← EI2.out]; exact rAddV_bad (HRH.out _ hgf) hgf 12 (by decide) H12.out
              · exfalso
                omega
            · have hbf : bf = true := by cases bf <;> simp_all
              subst hbf
              have hn5 : n ≤ 65535 := by omega
              have hn6 : ¬ (65535 : Int) < (n : Int) := by omega
              have H0 := hid (show Hp.addCode up'.length L room' q o = 0 by rw [HCode.out, decide_eq_false (by omega)]; rfl)
              clear hfull HAo HCode
              go_upto_region 10 with (go_at_call 55; refine (HOv.out w4 (Grew.refl _)).mono ?_; rintro e w5 ⟨rfl, hg5⟩)
              have HB16 := hid (HB15.out.grew hg5)
              have HB26 := hid (HB25.out.grew hg5)
              have HB36 := hid (HB35.out.grew hg5)
              have HT5 := hid (HT4.out.grew hg5)
              have HG5 := hid (HG4.out.trans hg5)
              have HR5 := hid (HR4.out.grew hg5)
              clear p0 p1 p2 p3 p4 pl pf hg5 HOv HT4 HR4 HB15 HB25 HB35
              have x4 := HB16.out.cell 4
              have xl := HB16.out.lt
              simp only [List.getElem?_toArray, List.getElem?_cons_zero, List.getElem?_cons_succ] at x4
              have B6 := Blk.new w5 3 #[]
              have G6 := (Grew.refl w5).alloc (.cells #[] 3)
              have HN6 := hid (Row.of_blk (n := 0) (s := 1) B6 (Nat.le_refl _) rfl (by decide))
              have HG6 := hid G6
              have HCl1 := hid (show (cs.flatMap intF).length = un * 1 by rw [flatMap_length intF_len, EC.out, cntL_len])
              have HCx := hid (ints_cells (HAt.out.cn.grew (HG5.out.trans HG6.out)))
              clear B6 G6
              have hun : un ≤ 8 := HLk.out.n8
              go_upto_region 11 with (at_builtin; refine wpList_catR (.int .i64 0) 1 8 _ rfl _ _ 23 3 rfl Tryz.underlying23 i64_info rfl (by decide) w5.heap.size HG6.out.below.size (some ⟨w5.heap.size, 0, none⟩) 0 0 [] rfl HN6.out (some a2) un cc (cs.flatMap intF) rfl HCl1.out (ints_one cs) (by intro e; cases e) HCx.out (by omega) (by omega) ?_; rintro A8 k8 w8 hR8 hK8 hT8; rw [Nat.zero_add, List.nil_append] at hR8; rw [Nat.zero_add]; obtain ⟨g8, rfl, hg8⟩ : ∃ g8, A8 = some ⟨g8, 0, none⟩ ∧ w5.heap.size ≤ g8 := (by rcases hR8.cases with ⟨_, _, _, ⟨_, h2, _⟩ | ⟨g, h1, hb, _⟩⟩; omega; exact ⟨g, h1, hb⟩); have HR8 := hid hR8; have HG58 := hid (hK8.grew HG6.out (Row.at_base HN6.out)); have HT8 := hid (HT5.out.grew HG58.out); clear hR8 hK8 hT8 x4 xl; have z4 := HT8.out.cell 4; have zl := HT8.out.lt; have zf := HT8.out.frozen)
              clear z4 zl zf
              have HT9 : Hid (Blk (w8.setCell ⟨gt, 4, none⟩ (.slice (some ⟨g8, 0, none⟩) un k8)) gt 53 #[.slice U un cu, .int .i64 room', .slice Q un cq, .slice A (m + 1) c, .slice (some ⟨g8, 0, none⟩) un k8]) := hid (by have h1 := HT8.out.put 4 (.slice (some ⟨g8, 0, none⟩) un k8); simpa using h1)
              have HK9 : Hid (Kept (fun k => k = gt) w8 (w8.setCell ⟨gt, 4, none⟩ (.slice (some ⟨g8, 0, none⟩) un k8))) := hid ((Kept.refl (fun k => k = gt) w8).setCell (p := ⟨gt, 4, none⟩) (fun _ => rfl) _)
              have HB29 := hid ((HB26.out.grew HG58.out).kept HK9.out (by have := HGt.out; omega))
              have HB39 := hid ((HB36.out.grew HG58.out).kept HK9.out (by have := HGt.out; omega))
              have HG9 := hid (HK9.out.grew (HG5.out.trans HG58.out) (fun k e => by rw [e]; exact hgt0))
              have HR59 := hid ((HR5.out.grew HG58.out).kept HK9.out (fun g hA e => by obtain ⟨ds, hd⟩ := (HR5.out.grew HG58.out).blkAt (k := g) ⟨_, hA, rfl⟩; rw [e] at hd; exact absurd (hd.ty HT8.out).1 (by decide)))
              have HR9 := hid (HR8.out.kept HK9.out (fun g hA e => by obtain ⟨ds, hd⟩ := HR8.out.blkAt (k := g) ⟨_, hA, rfl⟩; rw [e] at hd; exact absurd (hd.ty HT8.out).1 (by decide)))
              have HLo8 := hid (show w.heap.size ≤ g8 from Nat.le_trans HG5.out.below.size hg8)
              clear HB16 HB26 HB36 HT5 HR5 HN6 HG6 HCl1 HCx HG58 HT8 HR8 hg8
              generalize w8.setCell ⟨gt, 4, none⟩ (.slice (some ⟨g8, 0, none⟩) un k8) = w9 at *
              have q4 := HT9.out.cell 4
              have ql := HT9.out.lt
              have o1 := HB29.out.cell 1
              have ol := HB29.out.lt
              simp only [List.getElem?_toArray, List.getElem?_cons_zero, List.getElem?_cons_succ] at q4 o1
              have hcs : cs[j]? = some cj := by rw [EC.out, cntL_at hju, ECj.out]
              have c8 : w9.cell? ⟨g8, j, none⟩ = some (.int .i64 cj) ∧ w9.frozen? ⟨g8, j, none⟩ = false ∧ g8 < w9.heap.size := by
                rcases HR9.out.cases with ⟨_, _, _, ⟨h1, _⟩ | ⟨g, h1, hb, hw, hc, hf⟩⟩
                · cases h1
                · cases h1
                  exact ⟨hc j _ (by rw [ints_map, List.getElem?_map, hcs]; rfl), hf j, hw⟩
              obtain ⟨c80, c81, c82⟩ := c8
              have hcb := HLk.out.cn j
              have hcC := HLk.out.C
              rw [← ECj.out] at hcb
              have hwr := wrap64 (x := cj + 1) (by omega) (by omega)
              go_upto_region 12 with fail
              clear q4 ql o1 ol c80 c81 c82
              have HKa : Hid (Kept (fun k => k = g8) w9 (w9.setCell ⟨g8, j, none⟩ (.int .i64 (cj + 1)))) := hid ((Kept.refl (fun k => k = g8) w9).setCell (p := ⟨g8, j, none⟩) (fun _ => rfl) _)
              have HRa := hid (HR9.out.set1 j (.int .i64 (cj + 1)))
              obtain ⟨d8, hd8⟩ := HR9.out.blkAt (k := g8) ⟨_, rfl, rfl⟩
              have HTa := hid (HT9.out.kept HKa.out (fun e => by have h1 := HT9.out; rw [e] at h1; exact absurd (h1.ty hd8).1 (by decide)))
              have HB3a := hid (HB39.out.kept HKa.out (fun e => by have h1 := HB39.out; rw [e] at h1; exact absurd (h1.ty hd8).1 (by decide)))
              have HGa := hid (HKa.out.grew HG9.out (fun k e => by rw [e]; exact HLo8.out))
              have HR5a := hid (HR59.out.kept HKa.out (fun g hA e => by obtain ⟨ds, hd⟩ := HR59.out.blkAt (k := g) ⟨_, hA, rfl⟩; rw [e] at hd; exact absurd (hd.ty hd8).1 (by decide)))
              rw [ints_set] at HRa
              clear HT9 HB39 HG9 HR59 HR9 hd8 HKa HB29 HK9
              generalize w9.setCell ⟨g8, j, none⟩ (.int .i64 (cj + 1)) = wa at *
              have p0 := HTa.out.cell 0
              have p1 := HTa.out.cell 1
              have p2 := HTa.out.cell 2
              have p3 := HTa.out.cell 3
              have p4 := HTa.out.cell 4
              have pl := HTa.out.lt
              have pf := HTa.out.frozen
              simp only [List.getElem?_toArray, List.getElem?_cons_zero, List.getElem?_cons_succ] at p0 p1 p2 p3 p4
              have t0 := HB3a.out.cell 0
              have t1 := HB3a.out.cell 1
              have t2 := HB3a.out.cell 2
              have t3 := HB3a.out.cell 3
              have t4 := HB3a.out.cell 4
              have tl := HB3a.out.lt
              have tf := HB3a.out.frozen
              simp only [List.getElem?_toArray, List.getElem?_cons_zero, List.getElem?_cons_succ] at t0 t1 t2 t3 t4
              go_wp2_with fail
              refine bodyPost_ret (v := .tuple #[.agg #[.slice U un cu, .int .i64 room', .slice Q un cq, .slice A (m + 1) c, .slice (some ⟨g8, 0, none⟩) un k8], .int .i64 ((n : Nat) : Int), .int .i64 0]) (res_rAdd _ (gx + 2) rfl _ rfl _ rfl _ _ _ _ _ _ (HB3a.out.put5 _ _ _ _ _)) rfl ?_
              have hk := kept5 (Kept.refl (fun k => k = gx + 2) wa) (fun _ => rfl) (.slice U un cu) (.int .i64 room') (.slice Q un cq) (.slice A (m + 1) c) (.slice (some ⟨g8, 0, none⟩) un k8)
              have hgf := hk.grew HGa.out (fun k e => by rw [e, EGX.out]; omega)
              have er : rvC ⟨U, cu, up', room', Q, cq, qs, A, c, its2, some ⟨g8, 0, none⟩, k8, cs.set j (cj + 1)⟩ = #[.slice U un cu, .int .i64 room', .slice Q un cq, .slice A (m + 1) c, .slice (some ⟨g8, 0, none⟩) un k8] := by
                unfold rvC
                simp only [List.length_set]
                rw [← EUN.out, EM2.out, show qs.length = un by rw [EQ.out, cntL_len], show cs.length = un by rw [EC.out, cntL_len]]
              rw [← er, ← HLe.out]
              have hr5 := HR5a.out.kept hk (fun g hA e => by obtain ⟨ds, hd⟩ := HR5a.out.blkAt (k := g) ⟨_, hA, rfl⟩; rw [e] at hd; exact absurd (hd.ty HB3a.out).1 (by decide))
              have hra := HRa.out.kept hk (fun g hA e => by obtain ⟨ds, hd⟩ := HRa.out.blkAt (k := g) ⟨_, hA, rfl⟩; rw [e] at hd; exact absurd (hd.ty HB3a.out).1 (by decide))
              have hcl : (cs.set j (cj + 1)).length = un := by rw [List.length_set, EC.out, cntL_len]
              have hcn : cs.set j (cj + 1) = cntL up'.length (upd cn o.lev.toNat (cn o.lev.toNat + 1)) := by
                rw [EC.out, cntL_upd, ← EUN.out, EO.out, ECj.out]
                rfl
              have hq3 : qs = cntL up'.length q := by rw [← EUN.out]; exact EQ.out
              have hcl3 : (cs.set j (cj + 1)).length = up'.length := by rw [hcl, EUN.out]
              have hcap : its2.length ≤ c := by rw [EM2.out]; exact HCc.out.2
              rw [← EI2.out]
              exact rAdd_fin (fun ad e => Nat.le_trans HG3w.out (Row.at_base HR5a.out ad.block ⟨ad, e, rfl⟩)) (fun ad e => by cases e; exact HLo8.out) HMem.out hgf HAt.out (HIt.out _ hgf hr5) (ints_row2 hra hcl) hcl3 hq3 HIn2.out hcn hcap HCc.out.1 H0.out
      · have hin : n = m := by omega
        have f1 : ¬ (n : Int) < (m : Int) := by omega
        have HLe := hid (least_loop HLs.out (.inl (by rw [← EI.out, ivI_len, ← EM.out]; exact hin)))
        clear hin
        clear HLs
        go_upto_region 6 with fail
        clear p3 pl
        obtain ⟨j, ej⟩ : ∃ j : Nat, lev = (j : Int) := ⟨lev.toNat, by have := hp_head EBM.out.symm; rw [EO.out] at this; simp only at this; omega⟩
        have hju : j < un := by have := hp_head EBM.out.symm; rw [EO.out] at this; simp only at this; omega
        have g1 : (j : Int) < (un : Int) := by omega
        subst ej
        obtain ⟨a2, cj, eC, hcj, -, -⟩ := int_at HAt.out.cn HG2.out (i := j) (by simp only; rw [EC.out, cntL_len]; exact hju)
        simp only at eC hcj
        subst eC
        have ECj := hid (show cj = cn j by rw [EC.out, cntL_at hju] at hcj; exact (Option.some.inj hcj).symm)
        have HCt : Hid (∀ W, Grew wr W → W.cell? (a2.add j) = some (.int .i64 cj) ∧ a2.block < W.heap.size) := hid (fun W hW => by
          obtain ⟨a3, c3, h1, h2, h3, h4⟩ := int_at HAt.out.cn (HG2.out.trans hW) (i := j) (by simp only; rw [EC.out, cntL_len]; exact hju)
          simp only [Option.some.injEq] at h1
          subst h1
          have h5 : cs[j]? = some c3 := h2
          rw [hcj] at h5
          cases h5
          exact ⟨h3, h4⟩)
        clear hcj
        have p0 := HB12.out.cell 0
        have p1 := HB12.out.cell 1
        have p2 := HB12.out.cell 2
        have p3 := HB12.out.cell 3
        have p4 := HB12.out.cell 4
        have pl := HB12.out.lt
        have pf := HB12.out.frozen
        simp only [List.getElem?_toArray, List.getElem?_cons_zero, List.getElem?_cons_succ] at p0 p1 p2 p3 p4
        have B4 := Blk.new wr 53 #[.slice U un cu, .int .i64 room', .slice Q un cq, .slice I m ci, .slice (some a2) un cc]
        have G4 := (Grew.refl wr).alloc (.cells #[.slice U un cu, .int .i64 room', .slice Q un cq, .slice I m ci, .slice (some a2) un cc] 53)
        go_upto_region 7 with fail
        generalize wr.alloc (.cells #[.slice U un cu, .int .i64 room', .slice Q un cq, .slice I m ci, .slice (some a2) un cc] 53) = w3 at *
        obtain ⟨gt, egt⟩ : ∃ gt, gt = wr.heap.size := ⟨_, rfl⟩
        rw [← egt] at B4 ⊢
        have HBt := hid B4
        have HB13 := hid (HB12.out.grew G4)
        have HB23 := hid (HB22.out.grew G4)
        have HB33 := hid (HB32.out.grew G4)
        have HG3 := hid (HG2.out.trans G4)
        have HCt3 : Hid (∀ W, Grew w3 W → W.cell? (a2.add j) = some (.int .i64 cj) ∧ a2.block < W.heap.size) := hid (fun W hW => HCt.out W (G4.trans hW))
        have HGt := hid (show gx + 2 < gt by rw [egt]; exact HB32.out.lt)
        clear p0 p1 p2 p3 p4 pl pf B4 G4 egt HB12 HB22 HB32 HCt
        have HCt := HCt3
        clear HCt3
        have hnm : (n : Int) ≤ (m : Int) := by omega
        obtain ⟨hci1, hci2⟩ := HCp.out
        have hnc : n ≤ ci := by omega
        obtain ⟨xs, exs⟩ : ∃ xs, xs = (its.take n).flatMap ivF := ⟨_, rfl⟩
        obtain ⟨ys, eys⟩ : ∃ ys, ys = (its.drop n).flatMap ivF := ⟨_, rfl⟩
        obtain ⟨nw, enw⟩ : ∃ nw : List Value, nw = [.int .i64 ((n : Nat) : Int), .int .i64 cj, .int .i64 cls, .int .i64 ((j : Nat) : Int), .slice oA fm oc, .string bt] := ⟨_, rfl⟩
        have HXl := hid (show xs.length = n * 6 by rw [exs, flatMap_length ivF_len, List.length_take, ← EM.out, Nat.min_eq_left (by omega)])
        have HYl := hid (show ys.length = (m - n) * 6 by rw [eys, flatMap_length ivF_len, List.length_drop, ← EM.out])
        have HX1 := hid (show ∀ u ∈ xs, u.oneCell' = true by rw [exs]; intro u hu; obtain ⟨x, _, hx⟩ := List.mem_flatMap.1 hu; exact ivF_one x u hx)
        have HY1 := hid (show ∀ u ∈ ys, u.oneCell' = true by rw [eys]; intro u hu; obtain ⟨x, _, hx⟩ := List.mem_flatMap.1 hu; exact ivF_one x u hx)
        have HNl := hid (show nw.length = 1 * 6 by rw [enw]; rfl)
        have HN1 := hid (show ∀ u ∈ nw, u.oneCell' = true by rw [enw]; intro u hu; simp only [List.mem_cons, List.not_mem_nil, or_false] at hu; rcases hu with rfl | rfl | rfl | rfl | rfl | rfl <;> rfl)
        have HNw := hid (show nw ≠ [] by rw [enw]; simp)
        have ENw := hid enw
        have EXs := hid exs
        have EYs := hid eys
        have HXs : Hid (∀ W, Grew w3 W → ∀ ad, I = some ad → ∀ k u, xs[k]? = some u → W.cell? (ad.add k) = some u) := hid (fun W hW ad e k u hu => items_cell (HAt.out.its.grew (HG3.out.trans hW)) e k (by rw [EXs.out] at hu; exact flat_take hu))
        have HIn := hid (show I = none → n = 0 from fun e => by have := items_none HAt.out.its e; simp only at this; rw [← EM.out] at this; omega)
        have HYs : Hid (∀ W, Grew w3 W → ∀ ad, (if ci = n then I else Option.map (fun x => x.add (n * 6)) I) = some ad → ∀ k u, ys[k]? = some u → W.cell? (ad.add k) = some u) := hid (fun W hW ad e k u hu => by
          by_cases hc : ci = n
          · have h1 := (List.getElem?_eq_some_iff.1 hu).1
            rw [HYl.out] at h1
            omega
          · rw [if_neg hc] at e
            obtain ⟨ad0, e0, e1⟩ := Option.map_eq_some_iff.1 e
            rw [← e1, add_add]
            exact items_cell (HAt.out.its.grew (HG3.out.trans hW)) e0 _ (by rw [EYs.out] at hu; exact flat_drop (by rw [← EM.out]; omega) hu))
        have HYn := hid (show (if ci = n then I else Option.map (fun x => x.add (n * 6)) I) = none → m - n = 0 from fun e => by
          by_cases hc : ci = n
          · omega
          · rw [if_neg hc, Option.map_eq_none_iff] at e
            have := items_none HAt.out.its e
            simp only at this
            rw [← EM.out] at this
            omega)
        clear exs eys enw
        refine wp_region_facts6 (w0 := w3) w3 23 23 [34, 35, 36, 37, 38, 39, 40, 41, 42, 43, 44, 45, 46, 47, 48, 49, 50, 51, 52, 53, 54, 55, 56] [] (RdF gx gt I m ci n (some a2) un cc ((j : Nat) : Int) cj (.pointer (some (a2.add j))) (.agg #[.int .i64 cls, .int .i64 ((j : Nat) : Int), .slice oA fm oc, .string bt]) (.agg #[.int .i64 ((n : Nat) : Int), .int .i64 cj, .int .i64 cls, .int .i64 ((j : Nat) : Int), .slice oA fm oc, .string bt]) (.slice (if ci = n then I else Option.map (fun x => x.add (n * 6)) I) (m - n) (ci - n))) (Kept (fun k => w3.heap.size ≤ k)) (fun _ => Kept (fun k => w3.heap.size ≤ k)) (RdJ w3 n m xs nw ys) (fun f s s' w hs h => h.same rfl rfl rfl rfl rfl (hs 0 (by decide)).symm (hs 5 (by decide)).symm (hs 15 (by decide)).symm (hs 16 (by decide)).symm (hs 21 (by decide)).symm) (May.kept _) (fun _ _ _ h => h) (fun _ w => Kept.refl _ w) (by kernel_rfl) (by kernel_rfl) (Kept.refl _ _).drew (RdJ.start _ _ _ _ _ _ _ (Kept.refl _ _).drew) (fun a _ v w w' _ _ _ _ h hr => h) ?_ ?_
        · repeat' (first | exact trivial | apply And.intro)
          all_goals
            intro a w' fl hgk hJ hfi hdep hs hA
            have t2 := hs.eval 2 (by decide) (v := .pointer (some ⟨gx, 0, none⟩)) rfl
            have t3 := hs.eval 3 (by decide) (v := .pointer (some ⟨gx + 1, 0, none⟩)) rfl
            have t7 := hs.eval 7 (by decide) (v := .int .i64 ((n : Nat) : Int)) rfl
            have t8 := hs.eval 8 (by decide) (v := .pointer (some ⟨gt, 0, none⟩)) rfl
            have HJ1 := hid hJ
            have HFi := hid hfi
            have HDp := hid hdep
            have hgw : Grew w3 w' := Kept.up hgk
            have HGW := hid hgw
            have HBx := hid (HB13.out.grew hgw)
            have HBo := hid (HB23.out.grew hgw)
            have x3 := HBx.out.cell 3
            have x4 := HBx.out.cell 4
            have xl := HBx.out.lt
            have o0 := HBo.out.cell 0
            have o1 := HBo.out.cell 1
            have o2 := HBo.out.cell 2
            have o3 := HBo.out.cell 3
            have ol := HBo.out.lt
            simp only [List.getElem?_toArray, List.getElem?_cons_zero, List.getElem?_cons_succ] at x3 x4 o0 o1 o2 o3
            have c0 := (HCt.out w' hgw).1
            have c1 := (HCt.out w' hgw).2
            clear hs hgk hJ hfi hdep hgw
            simp only [Ahead, Region.binds, slotOf, RdF, List.getD_cons_succ, List.getD_cons_zero, forall_const, and_true] at hA
            simp only [wantedD, if_true]
            unfold Oper.wp
            have ec : ∀ v, a.eval (.const v) = v := fun _ => rfl
            generalize hfe : a.eval = fe at *
            have ef : ∀ k, fe (.func k) = Act.eval ⟨#[], []⟩ (.func k) := fun k => by rw [← hfe]; rfl
            have S0 := hid (show slotOf [34, 35, 36, 37, 38, 39, 40, 41, 42, 43, 44, 45, 46, 47, 48, 49, 50, 51, 52, 53, 54, 55, 56] 0 a = fe (.tmp 34) by rw [← hfe]; rfl)
            have S5 := hid (show slotOf [34, 35, 36, 37, 38, 39, 40, 41, 42, 43, 44, 45, 46, 47, 48, 49, 50, 51, 52, 53, 54, 55, 56] 5 a = fe (.tmp 39) by rw [← hfe]; rfl)
            have S15 := hid (show slotOf [34, 35, 36, 37, 38, 39, 40, 41, 42, 43, 44, 45, 46, 47, 48, 49, 50, 51, 52, 53, 54, 55, 56] 15 a = fe (.tmp 49) by rw [← hfe]; rfl)
            have S16 := hid (show slotOf [34, 35, 36, 37, 38, 39, 40, 41, 42, 43, 44, 45, 46, 47, 48, 49, 50, 51, 52, 53, 54, 55, 56] 16 a = fe (.tmp 50) by rw [← hfe]; rfl)
            clear hfe
          · have hbn := Blk.new w' 75 #[]
            have hgn := (Grew.refl w').alloc (.cells #[] 75)
            have HBn := hid hbn
            have HGn := hid hgn
            clear hbn hgn
            go_simp
            exact Gives3.of rfl (Kept.of_grew HGn.out) ⟨⟨w'.heap.size, rfl⟩, (HJ1.out.grew HGn.out).set0 HGW.out.below.size HBn.out⟩ trivial
          · go_simp
            exact Gives3.of rfl (Kept.refl _ _) ⟨rfl, HJ1.out.pure 1 _ (by decide) (by decide) (by decide) (by decide) (by decide)⟩ trivial
          · have hv := hA
            go_simp
            exact Gives3.of rfl (Kept.refl _ _) ⟨rfl, HJ1.out.pure 2 _ (by decide) (by decide) (by decide) (by decide) (by decide)⟩ trivial
          · go_simp
            exact Gives3.of rfl (Kept.refl _ _) ⟨rfl, HJ1.out.pure 3 _ (by decide) (by decide) (by decide) (by decide) (by decide)⟩ trivial
          · have hv := hA
            go_simp
            exact Gives3.of rfl (Kept.refl _ _) ⟨rfl, HJ1.out.pure 4 _ (by decide) (by decide) (by decide) (by decide) (by decide)⟩ trivial
          · obtain ⟨-, hv2⟩ := hA
            obtain ⟨H, hs0, hB, hbn⟩ := HJ1.out.j0 (HDp.out ⟨0, .data⟩ (by simp) rfl) HFi.out
            have hv1 : fe (.tmp 34) = .slice (some ⟨H, 0, none⟩) 0 0 := S0.out.symm.trans hs0
            have hown : Row w' w3.heap.size 75 6 (some ⟨H, 0, none⟩) 0 0 [] := Row.of_blk (n := 0) hbn hB rfl (by decide)
            obtain ⟨A3, c3, w2', hrun, r1, r2, r3⟩ := run_catR (P := Tryz.prog) 51 51 75 (.agg #[.int .i64 0, .int .i64 0, .int .i64 0, .int .i64 0, .slice none 0 0, .string ⟨#[]⟩]) 6 72 Tryz.underlying51 ritem_info rfl (by decide) w' w3.heap.size HGW.out.below.size (some ⟨H, 0, none⟩) 0 0 [] hown I n ci xs HXl.out HX1.out HIn.out (HXs.out w' HGW.out) (by omega) (by omega)
            rw [Nat.zero_add] at hrun r1
            rw [List.nil_append] at r1
            simp only [execOp, resolve, invoke, builtin, Sem.run_bind, Sem.run_pure, Result.andThen_ok, List.map_toArray, List.map_cons, List.map_nil, hv1, hv2, hrun, Oper.upon]
            exact Gives3.of rfl (r2.mono (fun k _ hq => Row.at_base hown k hq)) ⟨⟨A3, c3, rfl⟩, HJ1.out.set5 HFi.out HNw.out hB hbn r2 r1⟩ trivial
          · go_simp
            exact Gives3.of rfl (Kept.refl _ _) ⟨rfl, HJ1.out.pure 6 _ (by decide) (by decide) (by decide) (by decide) (by decide)⟩ trivial
          · go_simp
            exact Gives3.of rfl (Kept.refl _ _) ⟨rfl, HJ1.out.pure 7 _ (by decide) (by decide) (by decide) (by decide) (by decide)⟩ trivial
          · have hv := hA
            go_simp
            exact Gives3.of rfl (Kept.refl _ _) ⟨rfl, HJ1.out.pure 8 _ (by decide) (by decide) (by decide) (by decide) (by decide)⟩ trivial
          · go_simp
            exact Gives3.of rfl (Kept.refl _ _) ⟨rfl, HJ1.out.pure 9 _ (by decide) (by decide) (by decide) (by decide) (by decide)⟩ trivial
          · have hv := hA
            go_simp
            exact Gives3.of rfl (Kept.refl _ _) ⟨rfl, HJ1.out.pure 10 _ (by decide) (by decide) (by decide) (by decide) (by decide)⟩ trivial
          · have hv := hA
            go_simp
            exact Gives3.of rfl (Kept.refl _ _) ⟨rfl, HJ1.out.pure 11 _ (by decide) (by decide) (by decide) (by decide) (by decide)⟩ trivial
          · have hv := hA
            go_simp
            exact Gives3.of rfl (Kept.refl _ _) ⟨rfl, HJ1.out.pure 12 _ (by decide) (by decide) (by decide) (by decide) (by decide)⟩ trivial
          · go_simp
            exact Gives3.of rfl (Kept.refl _ _) ⟨rfl, HJ1.out.pure 13 _ (by decide) (by decide) (by decide) (by decide) (by decide)⟩ trivial
          · have hv := hA
            go_simp
            exact Gives3.of rfl (Kept.refl _ _) ⟨rfl, HJ1.out.pure 14 _ (by decide) (by decide) (by decide) (by decide) (by decide)⟩ trivial
          · have hbn := Blk.new w' 75 nw.toArray
            have hgn := (Grew.refl w').alloc (.cells nw.toArray 75)
            rw [ENw.out] at hbn hgn
            have HBn := hid hbn
            have HGn := hid hgn
            clear hbn hgn
            have hv := hA
            go_simp
            exact Gives3.of rfl (Kept.of_grew HGn.out) ⟨⟨w'.heap.size, rfl⟩, (HJ1.out.grew HGn.out).set15 HGW.out.below.size (by rw [ENw.out]; exact HBn.out)⟩ trivial
          · have h5 := HDp.out ⟨5, .data⟩ (by simp) rfl
            obtain ⟨A5, c5, hs5, hr5⟩ := HJ1.out.j5 h5 HFi.out
            obtain ⟨H, hs15, hB, hbn⟩ := HJ1.out.j15 (HDp.out ⟨15, .data⟩ (by simp) rfl) HFi.out
            have hv1 : fe (.tmp 39) = .slice A5 n c5 := S5.out.symm.trans hs5
            have hv2 : fe (.tmp 49) = .slice (some ⟨H, 0, none⟩) 1 1 := S15.out.symm.trans hs15
            obtain ⟨A3, c3, w2', hrun, r1, r2, r3⟩ := run_catR (P := Tryz.prog) 51 51 75 (.agg #[.int .i64 0, .int .i64 0, .int .i64 0, .int .i64 0, .slice none 0 0, .string ⟨#[]⟩]) 6 72 Tryz.underlying51 ritem_info rfl (by decide) w' w3.heap.size HGW.out.below.size A5 n c5 xs hr5 (some ⟨H, 0, none⟩) 1 1 nw HNl.out HN1.out (by intro h; cases h) (blk_row hbn) (by omega) (by omega)
            simp only [execOp, resolve, invoke, builtin, Sem.run_bind, Sem.run_pure, Result.andThen_ok, List.map_toArray, List.map_cons, List.map_nil, hv1, hv2, hrun, Oper.upon]
            exact Gives3.of rfl (r2.mono (fun k _ hq => Row.at_base hr5 k hq)) ⟨⟨A3, c3, rfl⟩, HJ1.out.set16 h5 HFi.out hr5 r2 r1⟩ trivial
          · go_simp
            exact Gives3.of rfl (Kept.refl _ _) ⟨rfl, HJ1.out.pure 17 _ (by decide) (by decide) (by decide) (by decide) (by decide)⟩ trivial
          · have hv := hA
            go_simp
            exact Gives3.of rfl (Kept.refl _ _) ⟨rfl, HJ1.out.pure 18 _ (by decide) (by decide) (by decide) (by decide) (by decide)⟩ trivial
          · go_simp
            exact Gives3.of rfl (Kept.refl _ _) ⟨rfl, HJ1.out.pure 19 _ (by decide) (by decide) (by decide) (by decide) (by decide)⟩ trivial
          · have hv := hA
            go_simp
            exact Gives3.of rfl (Kept.refl _ _) ⟨rfl, HJ1.out.pure 20 _ (by decide) (by decide) (by decide) (by decide) (by decide)⟩ trivial
          · have h16 := HDp.out ⟨16, .data⟩ (by simp) rfl
            obtain ⟨A5, c5, hs5, hr5⟩ := HJ1.out.j16 h16 HFi.out
            have hv2 := hA.2
            have hv1 : fe (.tmp 50) = .slice A5 (n + 1) c5 := S16.out.symm.trans hs5
            obtain ⟨A3, c3, w2', hrun, r1, r2, r3⟩ := run_catR (P := Tryz.prog) 51 51 75 (.agg #[.int .i64 0, .int .i64 0, .int .i64 0, .int .i64 0, .slice none 0 0, .string ⟨#[]⟩]) 6 72 Tryz.underlying51 ritem_info rfl (by decide) w' w3.heap.size HGW.out.below.size A5 (n + 1) c5 (xs ++ nw) hr5 (if ci = n then I else Option.map (fun x => x.add (n * 6)) I) (m - n) (ci - n) ys HYl.out HY1.out HYn.out (HYs.out w' HGW.out) (by omega) (by omega)
            rw [show n + 1 + (m - n) = m + 1 by omega] at hrun r1
            simp only [execOp, resolve, invoke, builtin, Sem.run_bind, Sem.run_pure, Result.andThen_ok, List.map_toArray, List.map_cons, List.map_nil, hv1, hv2, hrun, Oper.upon]
            exact Gives3.of rfl (r2.mono (fun k _ hq => Row.at_base hr5 k hq)) ⟨⟨A3, c3, rfl⟩, HJ1.out.set21 h16 hr5 r2 r1⟩ trivial
          · go_simp
            exact Gives3.of rfl (Kept.refl _ _) ⟨rfl, HJ1.out.pure 22 _ (by decide) (by decide) (by decide) (by decide) (by decide)⟩ trivial
        · intro a2' wn hgk hs hf hJ _
          have hgw : Grew w3 wn := Kept.up hgk
          obtain ⟨A, c, ev, hrow⟩ := hJ.j21 rfl
          have h22 := hf 22 (by decide)
          simp only [slotOf, RdF, List.getD_cons_succ, List.getD_cons_zero] at ev h22
          obtain ⟨fn, rfl, hft⟩ := hs.put
          rw [hft] at ev h22
          have HRw := hid hrow
          have HGn := hid (HG3.out.trans hgw)
          have HG3w := hid HG3.out.below.size
          have HBtn := hid (HBt.out.grew hgw)
          have HB14 := hid (HB13.out.grew hgw)
          have HB24 := hid (HB23.out.grew hgw)
          have HB34 := hid (HB33.out.grew hgw)
          have HCtn : Hid (∀ W, Grew wn W → W.cell? (a2.add j) = some (.int .i64 cj) ∧ a2.block < W.heap.size) := hid (fun W hW => HCt.out W (hgw.trans hW))
          have HLow := hid hgw.below.size
          clear hf hft hs hgk hJ hrow HBt HB13 HB23 HB33 HCt hgw HXl HYl HX1 HY1 HNl HN1 HNw HXs HIn HYs HYn
          simp only [List.drop_succ_cons, List.drop_zero, putAll, List.foldl_cons, List.foldl_nil, Act.put, List.setIfInBounds_toArray, List.set_cons_succ, List.set_cons_zero, ev, h22]
          clear ev h22
          have p0 := HBtn.out.cell 0
          have p1 := HBtn.out.cell 1
          have p2 := HBtn.out.cell 2
          have p3 := HBtn.out.cell 3
          have p4 := HBtn.out.cell 4
          have pl := HBtn.out.lt
          have pf := HBtn.out.frozen
          simp only [List.getElem?_toArray, List.getElem?_cons_zero, List.getElem?_cons_succ] at p0 p1 p2 p3 p4
          go_upto_region 8 with fail
          clear p0 p1 p2 p3 p4 pl pf
          have HT4 : Hid (Blk (wn.setCell ⟨gt, 3, none⟩ (.slice A (m + 1) c)) gt 53 #[.slice U un cu, .int .i64 room', .slice Q un cq, .slice A (m + 1) c, .slice (some a2) un cc]) := hid (by have h1 := HBtn.out.put 3 (.slice A (m + 1) c); simpa using h1)
          have HK4 : Hid (Kept (fun k => k = gt) wn (wn.setCell ⟨gt, 3, none⟩ (.slice A (m + 1) c))) := hid ((Kept.refl (fun k => k = gt) wn).setCell (p := ⟨gt, 3, none⟩) (fun _ => rfl) _)
          have HB15 := hid (HB14.out.kept HK4.out (by have := HGt.out; omega))
          have HB25 := hid (HB24.out.kept HK4.out (by have := HGt.out; omega))
          have HB35 := hid (HB34.out.kept HK4.out (by have := HGt.out; omega))
          have hgt0 : w.heap.size ≤ gt := by have h1 := HGt.out; have h2 := EGX.out; omega
          have HG4 := hid (HK4.out.grew HGn.out (fun k e => by rw [e]; exact hgt0))
          have HR4 := hid (HRw.out.kept HK4.out (fun g hA e => by obtain ⟨ds, hd⟩ := HRw.out.blkAt (k := g) ⟨_, hA, rfl⟩; rw [e] at hd; exact absurd (hd.ty HBtn.out).1 (by decide)))
          clear HBtn HB14 HB24 HB34 HRw
          generalize wn.setCell ⟨gt, 3, none⟩ (.slice A (m + 1) c) = w4 at *
          have EITS := hid (show (xs ++ nw) ++ ys = (its.take n ++ ⟨(n : Int), cj, o, oA, oc⟩ :: its.drop n).flatMap ivF by rw [EXs.out, EYs.out, ENw.out, List.flatMap_append, List.flatMap_cons, List.append_assoc, EO.out, EF.out]; rfl)
          rw [EITS.out] at HR4
          obtain ⟨its2, eits2⟩ : ∃ its2, its2 = its.take n ++ ⟨(n : Int), cj, o, oA, oc⟩ :: its.drop n := ⟨_, rfl⟩
          rw [← eits2] at HR4
          have EM2 := hid (show its2.length = m + 1 by rw [eits2, List.length_append, List.length_cons, List.length_take, List.length_drop, ← EM.out]; omega)
          have HIn2 := hid (show ivI its2 = Hp.ins L (Hp.newIt L cn o) by
            rw [Hp.ins_least HLk.out.sorted (fun x hx => (HLk.out.range x hx).1) _ rfl, HLe.out, eits2, ivI_app, ← EI.out, ivI_take]
            have e1 : (ivI its).drop n = ivI (its.drop n) := by unfold ivI; rw [List.map_drop]
            rw [e1]
            show ivI (its.take n) ++ ⟨(n : Int), cj, o⟩ :: ivI (its.drop n) = ivI (its.take n) ++ Hp.newIt (ivI its) cn o :: ivI (its.drop n)
            have e2 : Hp.newIt (ivI its) cn o = ⟨(n : Int), cj, o⟩ := by
              unfold Hp.newIt
              rw [EI.out, HLe.out, ECj.out, EO.out]
              simp only [Int.toNat_natCast]
            rw [e2])
          have HOkI := hid (show ∀ x ∈ its2, OvOk w ⟨x.o, x.A, x.c⟩ ∧ N64 x.i ∧ N64 x.h by
            intro x hx
            rw [eits2, List.mem_append, List.mem_cons] at hx
            rcases hx with hx | rfl | hx
            · exact HAt.out.its.ok x (List.mem_of_mem_take hx)
            · have h1 := HLk.out.cn j
              have h2 := HLk.out.C
              rw [← ECj.out] at h1
              exact ⟨HV.out, ⟨by simp only; omega, by simp only; omega⟩, ⟨by simp only; omega, by simp only; omega⟩⟩
            · exact HAt.out.its.ok x (List.mem_of_mem_drop hx))
          have HIt : Hid (∀ W, Grew w W → Row W w3.heap.size 75 6 A its2.length c (its2.flatMap ivF) → ItemsAt W A its2) := hid (fun W hW hr => ⟨fun x hx => ⟨(HOkI.out x hx).1.grew hW, (HOkI.out x hx).2⟩, fun hl => by
            rcases hr.cases with ⟨_, _, _, ⟨_, h2, _⟩ | ⟨g, h1, hb, hw, hc, _⟩⟩
            · omega
            · exact ⟨⟨g, 0, none⟩, h1, hw, CellsAt.of_row ivF_len (by rw [h1] at hr; exact hr)⟩⟩)
          have HSm := hid (show Small (ivI its2) by
            refine ⟨by rw [ivI_len, EM2.out]; omega, fun x hx => ?_⟩
            obtain ⟨y, hy, rfl⟩ := List.mem_map.1 hx
            rw [eits2, List.mem_append, List.mem_cons] at hy
            rcases hy with hy | rfl | hy
            · exact HLk.out.small.2 _ (by rw [← EI.out]; exact List.mem_map.2 ⟨y, List.mem_of_mem_take hy, rfl⟩)
            · simp only
              rw [EO.out]
              exact ⟨by simp only; rw [← EF.out]; exact hl, by simp only; exact hb⟩
            · exact HLk.out.small.2 _ (by rw [← EI.out]; exact List.mem_map.2 ⟨y, List.mem_of_mem_drop hy, rfl⟩))
          have HCc := hid (show c ≤ 9223372036854775807 ∧ m + 1 ≤ c by have h1 := HR4.out.cases; exact ⟨h1.2.2.1, h1.2.1⟩)
          rw [← EM2.out] at HR4
          have HMem := hid (show ∀ x ∈ its2, x ∈ its ∨ (x.o = o ∧ x.A = oA) from fun x hx => by rw [eits2, List.mem_append, List.mem_cons] at hx; rcases hx with hx | rfl | hx; exact .inl (List.mem_of_mem_take hx); exact .inr ⟨rfl, rfl⟩; exact .inl (List.mem_of_mem_drop hx))
          clear eits2 EITS HOkI
          have HOv : Hid (∀ W, Grew w4 W → Calls Tryz.prog 55 #[.agg #[.slice U un cu, .int .i64 room', .slice Q un cq, .slice A (m + 1) c, .slice (some a2) un cc]] W fun e w' => e = .returned (.bool (!fitsAll un (Hp.ins L (Hp.newIt L cn o)) room' q)) ∧ Grew W w') := hid (fun W hW => by
            have h1 := rOver_c ⟨U, cu, up', room', Q, cq, qs, A, c, its2, some a2, cc, cs⟩ W ⟨HAt.out.up.grew (HG4.out.trans hW), HAt.out.q.grew (HG4.out.trans hW), HIt.out W (HG4.out.trans hW) (HR4.out.grew hW), HAt.out.cn.grew (HG4.out.trans hW), HAt.out.ql, HAt.out.cl, HAt.out.len⟩ HSm.out q (by simp only; rw [← EUN.out]; exact EQ.out)
            simp only [rvC] at h1
            rw [← EUN.out, show qs.length = un by rw [EQ.out, cntL_len], show cs.length = un by rw [EC.out, cntL_len], EM2.out, HIn2.out] at h1
            exact h1)
          have HAo := hid (add_over (cn := cn) HLk.out (o := o) EBM.out.symm)
          rw [HLe.out] at HAo
          obtain ⟨bf, ebf⟩ : ∃ bf, bf = fitsAll un (Hp.ins L (Hp.newIt L cn o)) room' q := ⟨_, rfl⟩
          rw [← ebf] at HOv HAo
          clear ebf
          have HCode := hid (show Hp.addCode up'.length L room' q o = if (!bf || decide (65535 < n)) then 12 else 0 by unfold Hp.addCode; rw [← EUN.out, ← EBM.out, if_neg (by decide), ← HAo.out])
          have p0 := HT4.out.cell 0
          have p1 := HT4.out.cell 1
          have p2 := HT4.out.cell 2
          have p3 := HT4.out.cell 3
          have p4 := HT4.out.cell 4
          have pl := HT4.out.lt
          have pf := HT4.out.frozen
          simp only [List.getElem?_toArray, List.getElem?_cons_zero, List.getElem?_cons_succ] at p0 p1 p2 p3 p4
          by_cases hfull : bf = false ∨ 65535 < n
          · have H12 := hid (show Hp.addCode up'.length L room' q o = 12 by
              rw [HCode.out]
              rcases hfull with h | h
              · rw [h]; rfl
              · rw [decide_eq_true h, Bool.or_true, if_pos rfl])
            have hbf : bf = false ∨ (bf = true ∧ (65535 : Int) < (n : Int)) := by
              cases bf
              · exact .inl rfl
              · exact .inr ⟨rfl, by rcases hfull with h | h; cases h; omega⟩
            clear hfull
            rcases hbf with rfl | ⟨rfl, hn6⟩
            · go_upto_region 9 with (go_at_call 55; refine (HOv.out w4 (Grew.refl _)).mono ?_; rintro e w5 ⟨rfl, hg5⟩)
              have HB16 := hid (HB15.out.grew hg5)
              have HB36 := hid (HB35.out.grew hg5)
              have HG5 := hid (HG4.out.trans hg5)
              clear p0 p1 p2 p3 p4 pl pf hg5 HOv
              have p0 := HB16.out.cell 0
              have p1 := HB16.out.cell 1
              have p2 := HB16.out.cell 2
              have p3 := HB16.out.cell 3
              have p4 := HB16.out.cell 4
              have pl := HB16.out.lt
              have pf := HB16.out.frozen
              simp only [List.getElem?_toArray, List.getElem?_cons_zero, List.getElem?_cons_succ] at p0 p1 p2 p3 p4
              have t0 := HB36.out.cell 0
              have t1 := HB36.out.cell 1
              have t2 := HB36.out.cell 2
              have t3 := HB36.out.cell 3
              have t4 := HB36.out.cell 4
              have tl := HB36.out.lt
              have tf := HB36.out.frozen
              simp only [List.getElem?_toArray, List.getElem?_cons_zero, List.getElem?_cons_succ] at t0 t1 t2 t3 t4
              go_wp2_with fail
              refine bodyPost_ret (v := .tuple #[.agg #[.slice U un cu, .int .i64 room', .slice Q un cq, .slice I m ci, .slice (some a2) un cc], .int .i64 0, .int .i64 12]) (res_rAdd _ (gx + 2) rfl _ rfl _ rfl _ _ _ _ _ _ (HB36.out.put5 _ _ _ _ _)) rfl ?_
              have hgf := (kept5 (Kept.refl (fun k => k = gx + 2) w5) (fun _ => rfl) (.slice U un cu) (.int .i64 room') (.slice Q un cq) (.slice I m ci) (.slice (some a2) un cc)).grew HG5.out (fun k e => by rw [e, EGX.out]; omega)
              rw [← ERV.out]
              exact rAddV_bad (HRH.out _ hgf) hgf 12 (by decide) H12.out
            · go_upto_region 9 with (go_at_call 55; refine (HOv.out w4 (Grew.refl _)).mono ?_; rintro e w5 ⟨rfl, hg5⟩)
              have HB16 := hid (HB15.out.grew hg5)
              have HB36 := hid (HB35.out.grew hg5)
              have HG5 := hid (HG4.out.trans hg5)
              clear p0 p1 p2 p3 p4 pl pf hg5 HOv
              have p0 := HB16.out.cell 0
              have p1 := HB16.out.cell 1
              have p2 := HB16.out.cell 2
              have p3 := HB16.out.cell 3
              have p4 := HB16.out.cell 4
              have pl := HB16.out.lt
              have pf := HB16.out.frozen
              simp only [List.getElem?_toArray, List.getElem?_cons_zero, List.getElem?_cons_succ] at p0 p1 p2 p3 p4
              have t0 := HB36.out.cell 0
              have t1 := HB36.out.cell 1
              have t2 := HB36.out.cell 2
              have t3 := HB36.out.cell 3
              have t4 := HB36.out.cell 4
              have tl := HB36.out.lt
              have tf := HB36.out.frozen
              simp only [List.getElem?_toArray, List.getElem?_cons_zero, List.getElem?_cons_succ] at t0 t1 t2 t3 t4
              go_wp2_with fail
              refine bodyPost_ret (v := .tuple #[.agg #[.slice U un cu, .int .i64 room', .slice Q un cq, .slice I m ci, .slice (some a2) un cc], .int .i64 0, .int .i64 12]) (res_rAdd _ (gx + 2) rfl _ rfl _ rfl _ _ _ _ _ _ (HB36.out.put5 _ _ _ _ _)) rfl ?_
              have hgf := (kept5 (Kept.refl (fun k => k = gx + 2) w5) (fun _ => rfl) (.slice U un cu) (.int .i64 room') (.slice Q un cq) (.slice I m ci) (.slice (some a2) un cc)).grew HG5.out (fun k e => by rw [e, EGX.out]; omega)
              rw [← ERV.out]
              exact rAddV_bad (HRH.out _ hgf) hgf 12 (by decide) H12.out
          · have hbf : bf = true := by cases bf <;> simp_all
            subst hbf
            have hn5 : n ≤ 65535 := by omega
            have hn6 : ¬ (65535 : Int) < (n : Int) := by omega
            have H0 := hid (show Hp.addCode up'.length L room' q o = 0 by rw [HCode.out, decide_eq_false (by omega)]; rfl)
            clear hfull HAo HCode
            go_upto_region 10 with (go_at_call 55; refine (HOv.out w4 (Grew.refl _)).mono ?_; rintro e w5 ⟨rfl, hg5⟩)
            have HB16 := hid (HB15.out.grew hg5)
            have HB26 := hid (HB25.out.grew hg5)
            have HB36 := hid (HB35.out.grew hg5)
            have HT5 := hid (HT4.out.grew hg5)
            have HG5 := hid (HG4.out.trans hg5)
            have HR5 := hid (HR4.out.grew hg5)
            clear p0 p1 p2 p3 p4 pl pf hg5 HOv HT4 HR4 HB15 HB25 HB35
            have x4 := HB16.out.cell 4
            have xl := HB16.out.lt
            simp only [List.getElem?_toArray, List.getElem?_cons_zero, List.getElem?_cons_succ] at x4
            have B6 := Blk.new w5 3 #[]
            have G6 := (Grew.refl w5).alloc (.cells #[] 3)
            have HN6 := hid (Row.of_blk (n := 0) (s := 1) B6 (Nat.le_refl _) rfl (by decide))
            have HG6 := hid G6
            have HCl1 := hid (show (cs.flatMap intF).length = un * 1 by rw [flatMap_length intF_len, EC.out, cntL_len])
            have HCx := hid (ints_cells (HAt.out.cn.grew (HG5.out.trans HG6.out)))
            clear B6 G6
            have hun : un ≤ 8 := HLk.out.n8
            go_upto_region 11 with (at_builtin; refine wpList_catR (.int .i64 0) 1 8 _ rfl _ _ 23 3 rfl Tryz.underlying23 i64_info rfl (by decide) w5.heap.size HG6.out.below.size (some ⟨w5.heap.size, 0, none⟩) 0 0 [] rfl HN6.out (some a2) un cc (cs.flatMap intF) rfl HCl1.out (ints_one cs) (by intro e; cases e) HCx.out (by omega) (by omega) ?_; rintro A8 k8 w8 hR8 hK8 hT8; rw [Nat.zero_add, List.nil_append] at hR8; rw [Nat.zero_add]; obtain ⟨g8, rfl, hg8⟩ : ∃ g8, A8 = some ⟨g8, 0, none⟩ ∧ w5.heap.size ≤ g8 := (by rcases hR8.cases with ⟨_, _, _, ⟨_, h2, _⟩ | ⟨g, h1, hb, _⟩⟩; omega; exact ⟨g, h1, hb⟩); have HR8 := hid hR8; have HG58 := hid (hK8.grew HG6.out (Row.at_base HN6.out)); have HT8 := hid (HT5.out.grew HG58.out); clear hR8 hK8 hT8 x4 xl; have z4 := HT8.out.cell 4; have zl := HT8.out.lt; have zf := HT8.out.frozen)
            clear z4 zl zf
            have HT9 : Hid (Blk (w8.setCell ⟨gt, 4, none⟩ (.slice (some ⟨g8, 0, none⟩) un k8)) gt 53 #[.slice U un cu, .int .i64 room', .slice Q un cq, .slice A (m + 1) c, .slice (some ⟨g8, 0, none⟩) un k8]) := hid (by have h1 := HT8.out.put 4 (.slice (some ⟨g8, 0, none⟩) un k8); simpa using h1)
            have HK9 : Hid (Kept (fun k => k = gt) w8 (w8.setCell ⟨gt, 4, none⟩ (.slice (some ⟨g8, 0, none⟩) un k8))) := hid ((Kept.refl (fun k => k = gt) w8).setCell (p := ⟨gt, 4, none⟩) (fun _ => rfl) _)
            have HB29 := hid ((HB26.out.grew HG58.out).kept HK9.out (by have := HGt.out; omega))
            have HB39 := hid ((HB36.out.grew HG58.out).kept HK9.out (by have := HGt.out; omega))
            have HG9 := hid (HK9.out.grew (HG5.out.trans HG58.out) (fun k e => by rw [e]; exact hgt0))
            have HR59 := hid ((HR5.out.grew HG58.out).kept HK9.out (fun g hA e => by obtain ⟨ds, hd⟩ := (HR5.out.grew HG58.out).blkAt (k := g) ⟨_, hA, rfl⟩; rw [e] at hd; exact absurd (hd.ty HT8.out).1 (by decide)))
            have HR9 := hid (HR8.out.kept HK9.out (fun g hA e => by obtain ⟨ds, hd⟩ := HR8.out.blkAt (k := g) ⟨_, hA, rfl⟩; rw [e] at hd; exact absurd (hd.ty HT8.out).1 (by decide)))
            have HLo8 := hid (show w.heap.size ≤ g8 from Nat.le_trans HG5.out.below.size hg8)
            clear HB16 HB26 HB36 HT5 HR5 HN6 HG6 HCl1 HCx HG58 HT8 HR8 hg8
            generalize w8.setCell ⟨gt, 4, none⟩ (.slice (some ⟨g8, 0, none⟩) un k8) = w9 at *
            have q4 := HT9.out.cell 4
            have ql := HT9.out.lt
            have o1 := HB29.out.cell 1
            have ol := HB29.out.lt
            simp only [List.getElem?_toArray, List.getElem?_cons_zero, List.getElem?_cons_succ] at q4 o1
            have hcs : cs[j]? = some cj := by rw [EC.out, cntL_at hju, ECj.out]
            have c8 : w9.cell? ⟨g8, j, none⟩ = some (.int .i64 cj) ∧ w9.frozen? ⟨g8, j, none⟩ = false ∧ g8 < w9.heap.size := by
              rcases HR9.out.cases with ⟨_, _, _, ⟨h1, _⟩ | ⟨g, h1, hb, hw, hc, hf⟩⟩
              · cases h1
              · cases h1
                exact ⟨hc j _ (by rw [ints_map, List.getElem?_map, hcs]; rfl), hf j, hw⟩
            obtain ⟨c80, c81, c82⟩ := c8
            have hcb := HLk.out.cn j
            have hcC := HLk.out.C
            rw [← ECj.out] at hcb
            have hwr := wrap64 (x := cj + 1) (by omega) (by omega)
            go_upto_region 12 with fail
            clear q4 ql o1 ol c80 c81 c82
            have HKa : Hid (Kept (fun k => k = g8) w9 (w9.setCell ⟨g8, j, none⟩ (.int .i64 (cj + 1)))) := hid ((Kept.refl (fun k => k = g8) w9).setCell (p := ⟨g8, j, none⟩) (fun _ => rfl) _)
            have HRa := hid (HR9.out.set1 j (.int .i64 (cj + 1)))
            obtain ⟨d8, hd8⟩ := HR9.out.blkAt (k := g8) ⟨_, rfl, rfl⟩
            have HTa := hid (HT9.out.kept HKa.out (fun e => by have h1 := HT9.out; rw [e] at h1; exact absurd (h1.ty hd8).1 (by decide)))
            have HB3a := hid (HB39.out.kept HKa.out (fun e => by have h1 := HB39.out; rw [e] at h1; exact absurd (h1.ty hd8).1 (by decide)))
            have HGa := hid (HKa.out.grew HG9.out (fun k e => by rw [e]; exact HLo8.out))
            have HR5a := hid (HR59.out.kept HKa.out (fun g hA e => by obtain ⟨ds, hd⟩ := HR59.out.blkAt (k := g) ⟨_, hA, rfl⟩; rw [e] at hd; exact absurd (hd.ty hd8).1 (by decide)))
            rw [ints_set] at HRa
            clear HT9 HB39 HG9 HR59 HR9 hd8 HKa HB29 HK9
            generalize w9.setCell ⟨g8, j, none⟩ (.int .i64 (cj + 1)) = wa at *
            have p0 := HTa.out.cell 0
            have p1 := HTa.out.cell 1
            have p2 := HTa.out.cell 2
            have p3 := HTa.out.cell 3
            have p4 := HTa.out.cell 4
            have pl := HTa.out.lt
            have pf := HTa.out.frozen
            simp only [List.getElem?_toArray, List.getElem?_cons_zero, List.getElem?_cons_succ] at p0 p1 p2 p3 p4
            have t0 := HB3a.out.cell 0
            have t1 := HB3a.out.cell 1
            have t2 := HB3a.out.cell 2
            have t3 := HB3a.out.cell 3
            have t4 := HB3a.out.cell 4
            have tl := HB3a.out.lt
            have tf := HB3a.out.frozen
            simp only [List.getElem?_toArray, List.getElem?_cons_zero, List.getElem?_cons_succ] at t0 t1 t2 t3 t4
            go_wp2_with fail
            refine bodyPost_ret (v := .tuple #[.agg #[.slice U un cu, .int .i64 room', .slice Q un cq, .slice A (m + 1) c, .slice (some ⟨g8, 0, none⟩) un k8], .int .i64 ((n : Nat) : Int), .int .i64 0]) (res_rAdd _ (gx + 2) rfl _ rfl _ rfl _ _ _ _ _ _ (HB3a.out.put5 _ _ _ _ _)) rfl ?_
            have hk := kept5 (Kept.refl (fun k => k = gx + 2) wa) (fun _ => rfl) (.slice U un cu) (.int .i64 room') (.slice Q un cq) (.slice A (m + 1) c) (.slice (some ⟨g8, 0, none⟩) un k8)
            have hgf := hk.grew HGa.out (fun k e => by rw [e, EGX.out]; omega)
            have er : rvC ⟨U, cu, up', room', Q, cq, qs, A, c, its2, some ⟨g8, 0, none⟩, k8, cs.set j (cj + 1)⟩ = #[.slice U un cu, .int .i64 room', .slice Q un cq, .slice A (m + 1) c, .slice (some ⟨g8, 0, none⟩) un k8] := by
              unfold rvC
              simp only [List.length_set]
              rw [← EUN.out, EM2.out, show qs.length = un by rw [EQ.out, cntL_len], show cs.length = un by rw [EC.out, cntL_len]]
            rw [← er, ← HLe.out]
            have hr5 := HR5a.out.kept hk (fun g hA e => by obtain ⟨ds, hd⟩ := HR5a.out.blkAt (k := g) ⟨_, hA, rfl⟩; rw [e] at hd; exact absurd (hd.ty HB3a.out).1 (by decide))
            have hra := HRa.out.kept hk (fun g hA e => by obtain ⟨ds, hd⟩ := HRa.out.blkAt (k := g) ⟨_, hA, rfl⟩; rw [e] at hd; exact absurd (hd.ty HB3a.out).1 (by decide))
            have hcl : (cs.set j (cj + 1)).length = un := by rw [List.length_set, EC.out, cntL_len]
            have hcn : cs.set j (cj + 1) = cntL up'.length (upd cn o.lev.toNat (cn o.lev.toNat + 1)) := by
              rw [EC.out, cntL_upd, ← EUN.out, EO.out, ECj.out]
              rfl
            have hq3 : qs = cntL up'.length q := by rw [← EUN.out]; exact EQ.out
            have hcl3 : (cs.set j (cj + 1)).length = up'.length := by rw [hcl, EUN.out]
            have hcap : its2.length ≤ c := by rw [EM2.out]; exact HCc.out.2
            skip
            exact rAdd_fin (fun ad e => Nat.le_trans HG3w.out (Row.at_base HR5a.out ad.block ⟨ad, e, rfl⟩)) (fun ad e => by cases e; exact HLo8.out) HMem.out hgf HAt.out (HIt.out _ hgf hr5) (ints_row2 hra hcl) hcl3 hq3 HIn2.out hcn hcap HCc.out.1 H0.out
end Go.Proofs.YtidnaednldcdfaaGreatDoor

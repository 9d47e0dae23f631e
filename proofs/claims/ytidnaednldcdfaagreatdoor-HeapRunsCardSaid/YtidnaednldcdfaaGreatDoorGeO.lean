/- Stage 12: the reference's Collect. -/
import Derived.Test.YtidnaednldcdfaaGreatDoorGeN
import Derived.Test.YtidnaednldcdfaaGreatDoorGeL
import Derived.BigRegion
namespace Go.Proofs.YtidnaednldcdfaaGreatDoor
open Go.RowKit

theorem res_rCol (tmps : Array Value) (g : Nat) (ha : tmps.getD 4 undef = .pointer (some ⟨g, 0, none⟩)) (v : Value) (hv : tmps.getD 5 undef = v) (w : World) (c0 c1 c2 c3 c4 : Value) (hb : Blk w g 53 #[c0, c1, c2, c3, c4]) :
    (results Tryz.f23 tmps).run Tryz.prog w = .ok (.tuple #[.agg #[c0, c1, c2, c3, c4], v]) w := by
  have y0 : w.cell? ⟨g, 0, none⟩ = some c0 := hb.cell 0
  have y1 : w.cell? ⟨g, 1, none⟩ = some c1 := hb.cell 1
  have y2 : w.cell? ⟨g, 2, none⟩ = some c2 := hb.cell 2
  have y3 : w.cell? ⟨g, 3, none⟩ = some c3 := hb.cell 3
  have y4 : w.cell? ⟨g, 4, none⟩ = some c4 := hb.cell 4
  have ha' : tmps[4]?.getD undef = .pointer (some ⟨g, 0, none⟩) := by simpa using ha
  have hv' : tmps[5]?.getD undef = v := by simpa using hv
  simp [results, Tryz.results23, go_sem, *]
/-- What the reference's Collect answers. -/
def RColV (w : World) (r : RV) (up : List Nat) (room : Int) (q : Nat → Int) (L : List Hp.It) (cn : Nat → Int) (rs : List Ob.Val) (e : Ending) (w' : World) : Prop :=
  ∃ r' : RV, e = .returned (.tuple #[.agg (rvC r'), .int .i64 ((L.length : Int) - ((Hp.kept L rs).length : Int))]) ∧ RHAt w' r' up room q (Hp.kept L rs) cn ∧ r'.U = r.U ∧ (∀ k, RFp r' k → RFp r k ∨ w.heap.size ≤ k) ∧ Grew w w'
/-- Those that are marked. -/
def keepI (Mk : List Int) (l : List IV) : List IV := l.filter (fun x => decide (x.i ∈ Mk))
theorem keepI_iv (Mk : List Int) (l : List IV) : ivI (keepI Mk l) = (ivI l).filter (fun x => decide (x.i ∈ Mk)) := by
  unfold keepI ivI
  rw [List.filter_map]
  rfl
theorem keepI_kept {L : List Hp.It} {rs : List Ob.Val} {Mk : List Int} (h : ∀ i, i ∈ Mk ↔ Hp.Reach L rs i) {l : List IV} (hl : ivI l = L) : ivI (keepI Mk l) = Hp.kept L rs := by
  rw [keepI_iv, hl]
  unfold Hp.kept
  refine List.filter_congr (fun x _ => ?_)
  rw [decide_eq_decide]
  exact h x.i
theorem keepI_yes {Mk : List Int} {l : List IV} {i : Nat} {x : IV} (hx : l[i]? = some x) (h : x.i ∈ Mk) : keepI Mk (l.take (i + 1)) = keepI Mk (l.take i) ++ [x] := by
  unfold keepI
  rw [List.take_add_one, hx, List.filter_append]
  simp [h]
theorem keepI_no {Mk : List Int} {l : List IV} {i : Nat} {x : IV} (hx : l[i]? = some x) (h : x.i ∉ Mk) : keepI Mk (l.take (i + 1)) = keepI Mk (l.take i) := by
  unfold keepI
  rw [List.take_add_one, hx, List.filter_append]
  simp [h]
theorem PtI.app2 {w0 wr w1 : World} {gx gr gt : Nat} {hc : Array Value} {U : Option Addr} {un cu : Nat} {room : Int} {Q : Option Addr} {cq : Nat} {C : Option Addr} {cc a : Nat} {A : Option Addr} {c : Nat} {xs : List Value} (h : PtI w0 wr gx gr gt hc U un cu room Q cq C cc a A c xs) (hk : Kept (fun k => AtRow A k ∨ wr.heap.size ≤ k) wr w1) {A' : Option Addr} {c' : Nat} {ys : List Value} (hr : Row w1 w0.heap.size 75 6 A' (a + 1) c' ys) :
    PtI w0 (w1.setCell ⟨gt, 3, none⟩ (.slice A' (a + 1) c')) gx gr gt hc U un cu room Q cq C cc (a + 1) A' c' ys := by
  have hn : ∀ (g : Nat) (cs : Array Value), Blk wr g 53 cs → ¬ (AtRow A g ∨ wr.heap.size ≤ g) := fun g cs hb hk' => by
    rcases hk' with hk' | hk'
    · obtain ⟨ds, hd⟩ := h.row.blkAt hk'
      exact absurd (hd.ty hb).1 (by decide)
    · have := hb.lt
      omega
  have k2 : Kept (fun k => k = gt) w1 (w1.setCell ⟨gt, 3, none⟩ (.slice A' (a + 1) c')) := (Kept.refl (fun k => k = gt) w1).setCell (p := ⟨gt, 3, none⟩) (fun _ => rfl) _
  refine ⟨(h.bx.kept hk (hn _ _ h.bx)).kept k2 h.nx, (h.br.kept hk (hn _ _ h.br)).kept k2 h.nr, ?_, hr.kept k2 (fun g hA e => ?_), h.nx, h.nr, h.lt, k2.grew (hk.grew h.gr0 (fun k hq => hq.elim (Row.at_base h.row k) (fun h2 => Nat.le_trans h.gr0.below.size h2))) (fun k e => by rw [e]; exact h.lt)⟩
  · have h1 := (h.bt.kept hk (hn _ _ h.bt)).put 3 (.slice A' (a + 1) c')
    simpa using h1
  · obtain ⟨ds, hd⟩ := hr.blkAt (k := g) ⟨_, hA, rfl⟩
    rw [e] at hd
    exact absurd (hd.ty (h.bt.kept hk (hn _ _ h.bt))).1 (by decide)
/-- What the operations of 't.Items = append(t.Items, h.Items[i])' give. -/
def RcF (gx gt : Nat) (A : Option Addr) (a c : Nat) (I : Option Addr) (m ci i : Nat) (pI it : Value) (j : Nat) (v : Value) (_ : World) : Prop := match j with
  | 0 => v = .pointer (some ⟨gt, 3, none⟩)
  | 1 => v = .slice A a c
  | 2 => v = .pointer (some ⟨gx, 3, none⟩)
  | 3 => v = .slice I m ci
  | 4 => v = .int .i64 ((i : Nat) : Int)
  | 5 => v = pI
  | 6 => v = it
  | 7 => ∃ H, v = .slice (some ⟨H, 0, none⟩) 1 1
  | 8 => ∃ A' c', v = .slice A' (a + 1) c'
  | 9 => v = .pointer (some ⟨gt, 3, none⟩)
  | _ => True
structure RcJ (B : Nat) (w0 : World) (A : Option Addr) (a c : Nat) (ys nw : List Value) (f : Nat → Bool) (s : Nat → Value) (w : World) : Prop where
  old : f 8 = false → Row w B 75 6 A a c ys
  j7 : f 7 = true → f 8 = false → ∃ H, s 7 = .slice (some ⟨H, 0, none⟩) 1 1 ∧ w0.heap.size ≤ H ∧ Blk w H 75 nw.toArray
  j8 : f 8 = true → ∃ A' c', s 8 = .slice A' (a + 1) c' ∧ Row w B 75 6 A' (a + 1) c' (ys ++ nw)
theorem RcJ.pure {B : Nat} {w0 w : World} {A : Option Addr} {a c : Nat} {ys nw : List Value} {f : Nat → Bool} {s : Nat → Value} (h : RcJ B w0 A a c ys nw f s w) (i : Nat) (v : Value) (h7 : 7 ≠ i) (h8 : 8 ≠ i) : RcJ B w0 A a c ys nw (updF f i) (updV s i v) w :=
  ⟨by rw [updF_ne h8]; exact h.old, by rw [updF_ne h7, updF_ne h8, updV_ne h7]; exact h.j7, by rw [updF_ne h8, updV_ne h8]; exact h.j8⟩
theorem RcJ.set7 {B : Nat} {w0 w w' : World} {A : Option Addr} {a c : Nat} {ys nw : List Value} {f : Nat → Bool} {s : Nat → Value} (h : RcJ B w0 A a c ys nw f s w) (hg : Grew w w') {H : Nat} (hB : w0.heap.size ≤ H) (hb : Blk w' H 75 nw.toArray) : RcJ B w0 A a c ys nw (updF f 7) (updV s 7 (.slice (some ⟨H, 0, none⟩) 1 1)) w' :=
  ⟨by rw [updF_ne (by decide)]; exact fun e => (h.old e).grew hg, fun _ _ => ⟨H, updV_at, hB, hb⟩, by rw [updF_ne (by decide), updV_ne (by decide)]; exact fun e => by obtain ⟨A', c', h1, h2⟩ := h.j8 e; exact ⟨A', c', h1, h2.grew hg⟩⟩
theorem RcJ.set8 {B : Nat} {w0 w' : World} {A : Option Addr} {a c : Nat} {ys nw : List Value} {f : Nat → Bool} {s : Nat → Value} {A' : Option Addr} {c' : Nat} (hr : Row w' B 75 6 A' (a + 1) c' (ys ++ nw)) : RcJ B w0 A a c ys nw (updF f 8) (updV s 8 (.slice A' (a + 1) c')) w' :=
  ⟨fun e => (by rw [updF_at] at e; cases e), fun _ e => (by rw [updF_at] at e; cases e), fun _ => ⟨A', c', updV_at, hr⟩⟩
set_option maxRecDepth 100000 in
set_option maxHeartbeats 16000000 in
theorem rCollect_c (r : RV) (Ar : Option Addr) (cr : Nat) (rs : List Ob.Val) (up : List Nat) (room : Int) (q : Nat → Int) (L : List Hp.It) (cn : Nat → Int) (K : Nat) (w : World) (h : RHAt w r up room q L cn) (hk : LOk up.length L room q cn K) (hL : L.length ≤ 1000) (hr : ValsAt w Ar rs) (hrl : rs.length ≤ 300000) :
    Calls Tryz.prog 23 #[.agg (rvC r), .slice Ar rs.length cr] w (RColV w r up room q L cn rs) := by
  obtain ⟨hat, eup, eroom, eq, eits, ecn, ecap⟩ := h
  have HLk := hid hk
  have HAt := hid hat
  have hmL : r.its.length ≤ 1000 := by rw [← eits, ivI_len] at hL; exact hL
  have HRc := hid (fun W (hW : Grew w W) => rReached_c r Ar cr rs up.length W (hat.its.grew hW) (by rw [eits]; exact hk.sorted) (by rw [eits]; exact hk.may) (by have := hk.n8; omega) hmL (hr.grew hW) hrl)
  rw [eits] at HRc
  obtain ⟨U, cu, up', room', Q, cq, qs, I, ci, its, C, cc, cs⟩ := r
  simp only at eup eroom eq eits ecn ecap HAt hmL HRc
  subst eup eroom
  obtain ⟨un, eun⟩ : ∃ un, un = up'.length := ⟨_, rfl⟩
  obtain ⟨m, em⟩ : ∃ m, m = its.length := ⟨_, rfl⟩
  have hql : qs.length = un := by rw [eq, cntL_len, eun]
  have hcl : cs.length = un := by rw [ecn, cntL_len, eun]
  have ERV := hid (show rvC ⟨U, cu, up', room', Q, cq, qs, I, ci, its, C, cc, cs⟩ = #[.slice U un cu, .int .i64 room', .slice Q un cq, .slice I m ci, .slice C un cc] by unfold rvC; simp only; rw [hql, hcl, ← em, ← eun])
  rw [ERV.out] at HRc ⊢
  rw [← em] at HRc hmL
  rw [← eun] at HLk eq ecn
  have EUN := hid eun
  have EM := hid em
  have EI := hid eits
  have EQ := hid eq
  have EC := hid ecn
  obtain ⟨rn, ern⟩ : ∃ rn, rn = rs.length := ⟨_, rfl⟩
  rw [← ern] at HRc ⊢
  clear hat eq eits ecn ecap hk eun em hql hcl hL hr hrl ern
  have B1 := (Blk.new w 53 #[.slice U un cu, .int .i64 room', .slice Q un cq, .slice I m ci, .slice C un cc]).grew ((Grew.refl _).alloc (.cells #[.slice none 0 0, .int .i64 0, .slice none 0 0, .slice none 0 0, .slice none 0 0] 53))
  have B3 := Blk.new (w.alloc (.cells #[.slice U un cu, .int .i64 room', .slice Q un cq, .slice I m ci, .slice C un cc] 53)) 53 #[.slice none 0 0, .int .i64 0, .slice none 0 0, .slice none 0 0, .slice none 0 0]
  have e1 : (w.alloc (.cells #[.slice U un cu, .int .i64 room', .slice Q un cq, .slice I m ci, .slice C un cc] 53)).heap.size = w.heap.size + 1 := World.size_alloc _ _
  rw [e1] at B3
  have G1 := ((Grew.refl w).alloc (.cells #[.slice U un cu, .int .i64 room', .slice Q un cq, .slice I m ci, .slice C un cc] 53)).alloc (.cells #[.slice none 0 0, .int .i64 0, .slice none 0 0, .slice none 0 0, .slice none 0 0] 53)
  clear e1
  go_enter Tryz.func23, Tryz.ntmps23
  go_upto_region 1 with fail
  generalize ((w.alloc (.cells #[.slice U un cu, .int .i64 room', .slice Q un cq, .slice I m ci, .slice C un cc] 53)).alloc (.cells #[.slice none 0 0, .int .i64 0, .slice none 0 0, .slice none 0 0, .slice none 0 0] 53)) = w1 at *
  obtain ⟨gx, egx⟩ : ∃ gx, gx = w.heap.size := ⟨_, rfl⟩
  rw [← egx] at B1 B3 ⊢
  have HB1 := hid B1
  have HB3 := hid B3
  have HG1 := hid G1
  have EGX := hid egx
  clear B1 B3 G1 egx
  have p0 := HB1.out.cell 0
  have p1 := HB1.out.cell 1
  have p2 := HB1.out.cell 2
  have p3 := HB1.out.cell 3
  have p4 := HB1.out.cell 4
  have pl := HB1.out.lt
  have pf := HB1.out.frozen
  simp only [List.getElem?_toArray, List.getElem?_cons_zero, List.getElem?_cons_succ] at p0 p1 p2 p3 p4
  have hcall := HRc.out w1 HG1.out
  clear HRc
  go_upto_region 2 with (go_at_call 58; refine hcall.mono ?_; rintro e wn ⟨gi, Mk, rfl, hbi, hmk, hgi, hgn⟩)
  have HBi := hid hbi
  have HMk := hid hmk
  have HGn := hid (HG1.out.trans hgn)
  have HB12 := hid (HB1.out.grew hgn)
  have HB32 := hid (HB3.out.grew hgn)
  clear hcall hbi hmk hgi hgn p0 p1 p2 p3 p4 pl pf HB1 HB3 HG1
  have p0 := HB12.out.cell 0
  have p1 := HB12.out.cell 1
  have p2 := HB12.out.cell 2
  have p3 := HB12.out.cell 3
  have p4 := HB12.out.cell 4
  have pl := HB12.out.lt
  have pf := HB12.out.frozen
  simp only [List.getElem?_toArray, List.getElem?_cons_zero, List.getElem?_cons_succ] at p0 p1 p2 p3 p4
  have B4 := Blk.new wn 53 #[.slice U un cu, .int .i64 room', .slice Q un cq, .slice I m ci, .slice C un cc]
  have G4 := (Grew.refl wn).alloc (.cells #[.slice U un cu, .int .i64 room', .slice Q un cq, .slice I m ci, .slice C un cc] 53)
  go_upto_region 3 with fail
  generalize wn.alloc (.cells #[.slice U un cu, .int .i64 room', .slice Q un cq, .slice I m ci, .slice C un cc] 53) = w3 at *
  obtain ⟨gt, egt⟩ : ∃ gt, gt = wn.heap.size := ⟨_, rfl⟩
  rw [← egt] at B4 ⊢
  have HBt := hid B4
  have HB13 := hid (HB12.out.grew G4)
  have HB33 := hid (HB32.out.grew G4)
  have HBi3 := hid (HBi.out.grew G4)
  have HGt := hid (show gx + 1 < gt ∧ gi < gt by rw [egt]; exact ⟨HB32.out.lt, HBi.out.lt⟩)
  have hgtn := hid (show wn.heap.size ≤ gt by rw [egt]; exact Nat.le_refl _)
  have HG34 := hid G4
  clear p0 p1 p2 p3 p4 pl pf B4 G4 egt HB12 HB32 HBi
  have p0 := HBt.out.cell 0
  have p1 := HBt.out.cell 1
  have p2 := HBt.out.cell 2
  have p3 := HBt.out.cell 3
  have p4 := HBt.out.cell 4
  have pl := HBt.out.lt
  have pf := HBt.out.frozen
  simp only [List.getElem?_toArray, List.getElem?_cons_zero, List.getElem?_cons_succ] at p0 p1 p2 p3 p4
  go_upto_region 5 with fail
  clear p0 p1 p2 p3 p4 pl pf
  have HK4 : Kept (fun k => k = gt) w3 (w3.setCell ⟨gt, 3, none⟩ (.slice none 0 0)) := (Kept.refl (fun k => k = gt) w3).setCell (p := ⟨gt, 3, none⟩) (fun _ => rfl) _
  have HI4 := hid (show PtI wn (w3.setCell ⟨gt, 3, none⟩ (.slice none 0 0)) gx (gx + 1) gt #[.slice U un cu, .int .i64 room', .slice Q un cq, .slice I m ci, .slice C un cc] U un cu room' Q cq C cc 0 none 0 ((keepI Mk (its.take 0)).flatMap ivF) from ⟨HB13.out.kept HK4 (by have := HGt.out; omega), HB33.out.kept HK4 (by have := HGt.out; omega), by have h1 := HBt.out.put 3 (.slice none 0 0); simpa using h1, Row.nil _ _ _ _, by have := HGt.out; omega, by have := HGt.out; omega, hgtn.out, HK4.grew HG34.out (fun k e => by rw [e]; exact hgtn.out)⟩)
  have HBi4 := hid (HBi3.out.kept HK4 (by have := HGt.out; omega))
  clear HK4 HBt HB13 HB33 HG34 hgtn HBi3
  generalize w3.setCell ⟨gt, 3, none⟩ (.slice none 0 0) = w4 at *
  go_loopw [8] (fun s8 wr => ∃ (i a : Nat) (A' : Option Addr) (c' : Nat), s8 = .int .i64 ((i : Nat) : Int) ∧ i ≤ m ∧ a ≤ i ∧ Hid (a = (keepI Mk (its.take i)).length) ∧ Hid (PtI wn wr gx (gx + 1) gt #[.slice U un cu, .int .i64 room', .slice Q un cq, .slice I m ci, .slice C un cc] U un cu room' Q cq C cc a A' c' ((keepI Mk (its.take i)).flatMap ivF)) ∧ Hid (Blk wr gi 4 (bL L Mk).toArray)) (fun s8 _ => m - (intOf s8).toNat)
  case atStart => exact ⟨0, 0, none, 0, rfl, Nat.zero_le _, Nat.zero_le _, hid rfl, HI4, HBi4⟩
  case round =>
    obtain ⟨i, a, A', c', rfl, hi, hai, HAn, HP, HB⟩ := hrel
    by_cases hlt : i < m
    · have f1 : (i : Int) < (m : Int) := by omega
      obtain ⟨ad, x, rfl, hx, hcx, hbx, -, -, -⟩ := iv_at HAt.out.its (HGn.out.trans HP.out.gr0) (i := i) (by rw [← EM.out]; exact hlt)
      have hxL : L[i]? = some ⟨x.i, x.h, x.o⟩ := by rw [← EI.out]; exact ivI_at hx
      obtain ⟨bk, ebk⟩ : ∃ bk, bk = decide (x.i ∈ Mk) := ⟨_, rfl⟩
      have i0 : wr.cell? ⟨gi, i, none⟩ = some (.bool bk) := by rw [HB.out.cell i, List.getElem?_toArray, bL_at hxL, ebk]
      have i1 := HB.out.lt
      cases bk
      · have HNo := hid (show keepI Mk (its.take (i + 1)) = keepI Mk (its.take i) from keepI_no hx (of_decide_eq_false ebk.symm))
        clear hx hcx hbx hxL ebk
        go_wp2_with fail
        go_round
        case rel => exact ⟨i + 1, a, A', c', by go_num, by omega, by omega, hid (by rw [HNo.out]; exact HAn.out), hid (by rw [HNo.out]; exact HP.out), HB⟩
        case measure => simp [intOf]; omega
      · have HYs := hid (show keepI Mk (its.take (i + 1)) = keepI Mk (its.take i) ++ [x] from keepI_yes hx (of_decide_eq_true ebk.symm))
        have u0 := hcx 0 _ rfl
        have u1 := hcx 1 _ rfl
        have u2 := hcx 2 _ rfl
        have u3 := hcx 3 _ rfl
        have u4 := hcx 4 _ rfl
        have u5 := hcx 5 _ rfl
        rw [add_zero] at u0
        rw [add_pos (by decide), block_add] at u1 u2 u3 u4 u5
        have HAd := hid (show ad.block < w.heap.size by
          obtain ⟨ad', h2, h3, _⟩ := HAt.out.its.cells (by simp only; rw [← EM.out]; omega)
          simp only [Option.some.injEq] at h2
          rw [h2]
          exact h3)
        obtain ⟨xi, xh, ⟨cls, lev, f, bt⟩, xA, xc⟩ := x
        simp only at u0 u1 u2 u3 u4 u5 HYs
        have HLf : Hid (ivF ⟨xi, xh, ⟨cls, lev, f, bt⟩, xA, xc⟩ = [.int .i64 xi, .int .i64 xh, .int .i64 cls, .int .i64 lev, .slice xA f.length xc, .string bt]) := hid rfl
        generalize f.length = fm at *
        clear hx hcx hxL ebk
        go_upto_region 8 with fail
        clear i0 i1
        obtain ⟨ys, eys⟩ : ∃ ys, ys = (keepI Mk (its.take i)).flatMap ivF := ⟨_, rfl⟩
        obtain ⟨nw, enw⟩ : ∃ nw : List Value, nw = [.int .i64 xi, .int .i64 xh, .int .i64 cls, .int .i64 lev, .slice xA fm xc, .string bt] := ⟨_, rfl⟩
        have HP2 := HP.out
        rw [← eys] at HP2
        have HPy := hid HP2
        have ENw := hid enw
        have EYs := hid eys
        have HNl := hid (show nw.length = 1 * 6 by rw [enw]; rfl)
        have HN1 := hid (show ∀ u ∈ nw, u.oneCell' = true by rw [enw]; intro u hu; simp only [List.mem_cons, List.not_mem_nil, or_false] at hu; rcases hu with rfl | rfl | rfl | rfl | rfl | rfl <;> rfl)
        have HUs : Hid (∀ W, Kept (fun k => AtRow A' k ∨ wr.heap.size ≤ k) wr W → (∀ (j : Nat) (u : Value), nw[j]? = some u → W.cell? ((ad.add (i * 6)).add j) = some u) ∧ ad.block < W.heap.size) := hid (fun W hW => by
          have hnb : ¬ (AtRow A' ad.block ∨ wr.heap.size ≤ ad.block) := fun hq => by
            have h1 := HAd.out
            have h2 := HGn.out.below.size
            rcases hq with hq | hq
            · have := Row.at_base HPy.out.row _ hq
              omega
            · omega
          refine ⟨fun j u hu => ?_, Nat.lt_of_lt_of_le hbx hW.size⟩
          rw [hW.cell (by rw [block_add, block_add]; exact hbx) (by rw [block_add, block_add]; exact hnb)]
          rw [enw] at hu
          match j, hu with
          | 0, hu => rw [add_zero]; simp only [List.getElem?_cons_zero] at hu; rw [u0]; exact hu
          | 1, hu => rw [add_pos (by decide), block_add, u1]; exact hu
          | 2, hu => rw [add_pos (by decide), block_add, u2]; exact hu
          | 3, hu => rw [add_pos (by decide), block_add, u3]; exact hu
          | 4, hu => rw [add_pos (by decide), block_add, u4]; exact hu
          | 5, hu => rw [add_pos (by decide), block_add, u5]; exact hu
          | j + 6, hu => simp at hu)
        clear HP2 enw eys u0 u1 u2 u3 u4 u5 hbx HP
        refine wp_region_facts6 (w0 := wr) wr 10 10 [24, 25, 26, 27, 28, 29, 30, 31, 32, 33] [] (RcF gx gt A' a c' (some ad) m ci i (.pointer (some (ad.add (i * 6)))) (.agg #[.int .i64 xi, .int .i64 xh, .int .i64 cls, .int .i64 lev, .slice xA fm xc, .string bt])) (Kept (fun k => AtRow A' k ∨ wr.heap.size ≤ k)) (fun _ => Kept (fun k => AtRow A' k ∨ wr.heap.size ≤ k)) (RcJ wn.heap.size wr A' a c' ys nw) (fun f s s' w hs h => ⟨h.old, by rw [← hs 7 (by decide)]; exact h.j7, by rw [← hs 8 (by decide)]; exact h.j8⟩) (May.kept _) (fun _ _ _ h => h) (fun _ w => Kept.refl _ w) (by kernel_rfl) (by kernel_rfl) (Kept.refl _ _).drew ⟨fun _ => HPy.out.row.grew (Grew.refl _).drew, fun h => (by cases h), fun h => (by cases h)⟩ (fun a _ v w w' _ _ _ _ h hr => h) ?_ ?_
        · repeat' (first | exact trivial | apply And.intro)
          all_goals
            intro b w' fl hgk hJ hfi hdep hs hA
            have t2 := hs.eval 2 (by decide) (v := .pointer (some ⟨gx, 0, none⟩)) rfl
            have t7 := hs.eval 7 (by decide) (v := .pointer (some ⟨gt, 0, none⟩)) rfl
            have t8 := hs.eval 8 (by decide) (v := .int .i64 ((i : Nat) : Int)) rfl
            have HJ1 := hid hJ
            have HFi := hid hfi
            have HDp := hid hdep
            have HGK := hid hgk
            have hnx : ∀ (g : Nat) (cs : Array Value), Blk wr g 53 cs → ¬ (AtRow A' g ∨ wr.heap.size ≤ g) := fun g cs hb hk' => by
              rcases hk' with hk' | hk'
              · obtain ⟨ds, hd⟩ := HPy.out.row.blkAt hk'
                exact absurd (hd.ty hb).1 (by decide)
              · have := hb.lt
                omega
            have HBx := hid (HPy.out.bx.kept hgk (hnx _ _ HPy.out.bx))
            have HBt := hid (HPy.out.bt.kept hgk (hnx _ _ HPy.out.bt))
            have x3 := HBx.out.cell 3
            have xl := HBx.out.lt
            have y3 := HBt.out.cell 3
            have yl := HBt.out.lt
            simp only [List.getElem?_toArray, List.getElem?_cons_zero, List.getElem?_cons_succ] at x3 y3
            obtain ⟨hcu, hcl⟩ := HUs.out w' hgk
            have z0 := hcu 0 (.int .i64 xi) (by rw [ENw.out]; rfl)
            have z1 := hcu 1 (.int .i64 xh) (by rw [ENw.out]; rfl)
            have z2 := hcu 2 (.int .i64 cls) (by rw [ENw.out]; rfl)
            have z3 := hcu 3 (.int .i64 lev) (by rw [ENw.out]; rfl)
            have z4 := hcu 4 (.slice xA fm xc) (by rw [ENw.out]; rfl)
            have z5 := hcu 5 (.string bt) (by rw [ENw.out]; rfl)
            rw [add_zero] at z0
            rw [add_pos (by decide), block_add] at z1 z2 z3 z4 z5
            clear hs hgk hJ hfi hdep hnx hcu
            simp only [Ahead, Region.binds, slotOf, RcF, List.getD_cons_succ, List.getD_cons_zero, forall_const, and_true] at hA
            simp only [wantedD, if_true]
            unfold Oper.wp
            have ec : ∀ v, b.eval (.const v) = v := fun _ => rfl
            generalize hfe : b.eval = fe at *
            have ef : ∀ k, fe (.func k) = Act.eval ⟨#[], []⟩ (.func k) := fun k => by rw [← hfe]; rfl
            have S7 := hid (show slotOf [24, 25, 26, 27, 28, 29, 30, 31, 32, 33] 7 b = fe (.tmp 31) by rw [← hfe]; rfl)
            clear hfe
          · go_simp
            exact Gives3.of rfl (Kept.refl _ _) ⟨rfl, HJ1.out.pure 0 _ (by decide) (by decide)⟩ trivial
          · have hv := hA
            go_simp
            exact Gives3.of rfl (Kept.refl _ _) ⟨rfl, HJ1.out.pure 1 _ (by decide) (by decide)⟩ trivial
          · go_simp
            exact Gives3.of rfl (Kept.refl _ _) ⟨rfl, HJ1.out.pure 2 _ (by decide) (by decide)⟩ trivial
          · have hv := hA
            go_simp
            exact Gives3.of rfl (Kept.refl _ _) ⟨rfl, HJ1.out.pure 3 _ (by decide) (by decide)⟩ trivial
          · go_simp
            exact Gives3.of rfl (Kept.refl _ _) ⟨rfl, HJ1.out.pure 4 _ (by decide) (by decide)⟩ trivial
          · have hv := hA
            go_simp
            exact Gives3.of rfl (Kept.refl _ _) ⟨rfl, HJ1.out.pure 5 _ (by decide) (by decide)⟩ trivial
          · have hv := hA
            go_simp
            exact Gives3.of rfl (Kept.refl _ _) ⟨rfl, HJ1.out.pure 6 _ (by decide) (by decide)⟩ trivial
          · have hbn := Blk.new w' 75 nw.toArray
            have hgn := (Grew.refl w').alloc (.cells nw.toArray 75)
            rw [ENw.out] at hbn hgn
            have HBn := hid hbn
            have HGn2 := hid hgn
            clear hbn hgn
            have hv := hA
            go_simp
            exact Gives3.of rfl (Kept.of_grew HGn2.out) ⟨⟨w'.heap.size, rfl⟩, HJ1.out.set7 HGn2.out HGK.out.size (by rw [ENw.out]; exact HBn.out)⟩ trivial
          · have hv1 := hA.1
            obtain ⟨H, hs7, hB, hbn⟩ := HJ1.out.j7 (HDp.out ⟨7, .data⟩ (by simp) rfl) HFi.out
            have hold := HJ1.out.old HFi.out
            have hv2 : fe (.tmp 31) = .slice (some ⟨H, 0, none⟩) 1 1 := S7.out.symm.trans hs7
            obtain ⟨A3, c3, w2', hrun, r1, r2, r3⟩ := run_catR (P := Tryz.prog) 51 51 75 (.agg #[.int .i64 0, .int .i64 0, .int .i64 0, .int .i64 0, .slice none 0 0, .string ⟨#[]⟩]) 6 72 Tryz.underlying51 ritem_info rfl (by decide) w' wn.heap.size (Nat.le_trans HPy.out.gr0.below.size HGK.out.size) A' a c' ys hold (some ⟨H, 0, none⟩) 1 1 nw HNl.out HN1.out (by intro h; cases h) (blk_row hbn) (by omega) (by omega)
            simp only [execOp, resolve, invoke, builtin, Sem.run_bind, Sem.run_pure, Result.andThen_ok, List.map_toArray, List.map_cons, List.map_nil, hv1, hv2, hrun, Oper.upon]
            exact Gives3.of rfl (r2.mono (fun k _ hq => .inl hq)) ⟨⟨A3, c3, rfl⟩, RcJ.set8 r1⟩ trivial
          · go_simp
            exact Gives3.of rfl (Kept.refl _ _) ⟨rfl, HJ1.out.pure 9 _ (by decide) (by decide)⟩ trivial
        · intro b wz hgk hs hf hJ _
          obtain ⟨A8, k8, ev, hrow⟩ := hJ.j8 rfl
          have h9 := hf 9 (by decide)
          simp only [slotOf, RcF, List.getD_cons_succ, List.getD_cons_zero] at ev h9
          obtain ⟨fn, rfl, hft⟩ := hs.put
          rw [hft] at ev h9
          have HPz := hid (HPy.out.app2 hgk hrow)
          have HBtz := hid (HPy.out.bt.kept hgk (fun hk' => by rcases hk' with hk' | hk'; obtain ⟨ds, hd⟩ := HPy.out.row.blkAt hk'; exact absurd (hd.ty HPy.out.bt).1 (by decide); have := HPy.out.bt.lt; omega))
          have k2 : Kept (fun k => k = gt) wz (wz.setCell ⟨gt, 3, none⟩ (.slice A8 (a + 1) k8)) := (Kept.refl (fun k => k = gt) wz).setCell (p := ⟨gt, 3, none⟩) (fun _ => rfl) _
          have HBz := hid ((HB.out.kept hgk (fun hk' => by rcases hk' with hk' | hk'; obtain ⟨ds, hd⟩ := HPy.out.row.blkAt hk'; exact absurd (hd.ty HB.out).1 (by decide); have := HB.out.lt; omega)).kept k2 (by have := HGt.out; omega))
          clear hf hft hs hgk hJ hrow k2
          simp only [List.drop_succ_cons, List.drop_zero, putAll, List.foldl_cons, List.foldl_nil, Act.put, List.setIfInBounds_toArray, List.set_cons_succ, List.set_cons_zero, ev, h9]
          clear ev h9
          have y3 := HBtz.out.cell 3
          have yl := HBtz.out.lt
          have yf := HBtz.out.frozen
          simp only [List.getElem?_toArray, List.getElem?_cons_zero, List.getElem?_cons_succ] at y3
          go_wp2_with fail
          go_round
          case rel => exact ⟨i + 1, a + 1, A8, k8, by go_num, by omega, by omega, hid (by rw [HYs.out, List.length_append, ← HAn.out]; rfl), hid (by rw [HYs.out, List.flatMap_append, List.flatMap_cons, List.flatMap_nil, List.append_nil, HLf.out, ← ENw.out, ← EYs.out]; exact HPz.out), HBz⟩
          case measure => simp [intOf]; omega
    · obtain rfl : m = i := by omega
      have HTk := hid (show its.take m = its by rw [EM.out, List.take_length])
      rw [HTk.out] at HAn HP
      have HKp := hid (keepI_kept HMk.out EI.out)
      have HPt := hid HP.out.bt
      have HPx := hid HP.out.bx
      have HPr := hid HP.out.br
      have HGw := hid (HGn.out.trans HP.out.gr0)
      have p0 := HPt.out.cell 0
      have p1 := HPt.out.cell 1
      have p2 := HPt.out.cell 2
      have p3 := HPt.out.cell 3
      have p4 := HPt.out.cell 4
      have pl := HPt.out.lt
      have pf := HPt.out.frozen
      simp only [List.getElem?_toArray, List.getElem?_cons_zero, List.getElem?_cons_succ] at p0 p1 p2 p3 p4
      have t0 := HPr.out.cell 0
      have t1 := HPr.out.cell 1
      have t2 := HPr.out.cell 2
      have t3 := HPr.out.cell 3
      have t4 := HPr.out.cell 4
      have tl := HPr.out.lt
      have tf := HPr.out.frozen
      simp only [List.getElem?_toArray, List.getElem?_cons_zero, List.getElem?_cons_succ] at t0 t1 t2 t3 t4
      have x3 := HPx.out.cell 3
      have xl := HPx.out.lt
      simp only [List.getElem?_toArray, List.getElem?_cons_zero, List.getElem?_cons_succ] at x3
      have n1 : gt ≠ gx + 1 := by have := HGt.out; omega
      have n2 : gx + 1 ≠ gt := by have := HGt.out; omega
      go_upto_region 9 with fail
      go_region
      go_wp2_with fail
      refine bodyPost_ret (v := .tuple #[.agg #[.slice U un cu, .int .i64 room', .slice Q un cq, .slice A' a c', .slice C un cc], .int .i64 ((m : Int) - (a : Int))]) (res_rCol _ (gx + 1) rfl _ rfl _ _ _ _ _ _ ((HPr.out.put5 _ _ _ _ _).grew (Grew.refl _).drew)) rfl ?_
      have hk0 := kept5 (Kept.refl (fun k => k = gx + 1) wr) (fun _ => rfl) (.slice U un cu) (.int .i64 room') (.slice Q un cq) (.slice A' a c') (.slice C un cc)
      have hk := hk0.next (Kept.of_grew (Grew.refl _).drew : Kept (fun k => k = gx + 1) _ _) (fun k _ e => e)
      have hgf := hk.grew HGw.out (fun k e => by rw [e, EGX.out]; omega)
      have HRw := hid HP.out.row
      have hr3 := HRw.out.kept hk (fun g hA e => by obtain ⟨ds, hd⟩ := HRw.out.blkAt (k := g) ⟨_, hA, rfl⟩; rw [e] at hd; exact absurd (hd.ty HPr.out).1 (by decide))
      have hzl := HAn.out.symm
      have er : rvC ⟨U, cu, up', room', Q, cq, qs, A', c', keepI Mk its, C, cc, cs⟩ = #[.slice U un cu, .int .i64 room', .slice Q un cq, .slice A' a c', .slice C un cc] := by
        unfold rvC
        simp only
        rw [← EUN.out, hzl, show qs.length = un by rw [EQ.out, cntL_len], show cs.length = un by rw [EC.out, cntL_len]]
      rw [← er]
      have hit := items_of_row hr3 hzl (fun x hx => ⟨(HAt.out.its.ok x (List.mem_filter.1 hx |>.1)).1.grew hgf, (HAt.out.its.ok x (List.mem_filter.1 hx |>.1)).2⟩)
      have hq3 : qs = cntL up'.length q := by rw [← EUN.out]; exact EQ.out
      have hcn3 : cs = cntL up'.length cn := by rw [← EUN.out]; exact EC.out
      have hcap := HRw.out.cases
      have hn3 : ((m : Nat) : Int) - ((a : Nat) : Int) = (L.length : Int) - ((Hp.kept L rs).length : Int) := by
        rw [← HKp.out, ivI_len, hzl, ← EI.out, ivI_len, ← EM.out]
      rw [hn3]
      exact ⟨_, rfl, rPut_fin hgf HAt.out hit hq3 HKp.out hcn3 (by rw [hzl]; exact hcap.2.1) hcap.2.2.1, rfl, rPut_fp (fun ad e => Nat.le_trans HGn.out.below.size (Row.at_base HRw.out ad.block ⟨ad, e, rfl⟩)) (fun x hx hp ad e => .inl ⟨x, (List.mem_filter.1 hx).1, hp, ad, e, rfl⟩), hgf⟩
end Go.Proofs.YtidnaednldcdfaaGreatDoor

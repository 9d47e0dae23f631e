/- Stage 12: the reference's Put. -/
import Derived.Test.YtidnaednldcdfaaGreatDoorGeK
namespace Go.Proofs.YtidnaednldcdfaaGreatDoor
open Go.RowKit

theorem res_rPut (tmps : Array Value) (g : Nat) (ha : tmps.getD 10 undef = .pointer (some ⟨g, 0, none⟩)) (v : Value) (hv : tmps.getD 11 undef = v) (w : World) (c0 c1 c2 c3 c4 : Value) (hb : Blk w g 53 #[c0, c1, c2, c3, c4]) :
    (results Tryz.f21 tmps).run Tryz.prog w = .ok (.tuple #[.agg #[c0, c1, c2, c3, c4], v]) w := by
  have y0 : w.cell? ⟨g, 0, none⟩ = some c0 := hb.cell 0
  have y1 : w.cell? ⟨g, 1, none⟩ = some c1 := hb.cell 1
  have y2 : w.cell? ⟨g, 2, none⟩ = some c2 := hb.cell 2
  have y3 : w.cell? ⟨g, 3, none⟩ = some c3 := hb.cell 3
  have y4 : w.cell? ⟨g, 4, none⟩ = some c4 := hb.cell 4
  have ha' : tmps[10]?.getD undef = .pointer (some ⟨g, 0, none⟩) := by simpa using ha
  have hv' : tmps[11]?.getD undef = v := by simpa using hv
  simp [results, Tryz.results21, go_sem, *]
/-- What the reference's Put answers. -/
def RPutV (w : World) (r : RV) (up : List Nat) (room : Int) (q : Nat → Int) (L : List Hp.It) (cn : Nat → Int) (i k under : Int) (v : Ob.Val) (e : Ending) (w' : World) : Prop :=
  ∃ r' : RV, e = .returned (.tuple #[.agg (rvC r'), .int .i64 ((Hp.putCode up L i k under v : Nat) : Int)]) ∧ RHAt w' r' up room q (Hp.put up L i k under v) cn ∧ r'.U = r.U ∧ (∀ k, RFp r' k → RFp r k ∨ w.heap.size ≤ k) ∧ Grew w w'
/-- Objects as Put gives them. -/
def PoV (b : Nat → Prop) (m : Nat) (os : List Ob.Obj) (t : Value → Value) (v : Value) (w : World) : Prop := ∃ (l : List OV) (A : Option Addr) (c : Nat), v = t (.slice A m c) ∧ l.length = m ∧ objs l = os ∧ ObjsAt w A l ∧ (∀ z ∈ l, 0 < z.o.f.length → ∀ ad, z.A = some ad → b ad.block)
theorem PoV.grew {b : Nat → Prop} {m : Nat} {os : List Ob.Obj} {t : Value → Value} {v : Value} {w w' : World} (h : PoV b m os t v w) (hg : Grew w w') : PoV b m os t v w' := by
  obtain ⟨l, A, c, h1, h2, h3, h4, h5⟩ := h
  exact ⟨l, A, c, h1, h2, h3, h4.grew hg, h5⟩
/-- What the operations of 'O.Put(h.Up, objs(h), Place(h, i), k, under, v)' give. -/
def RtF (gP : Nat → Prop) (gx : Nat) (hc vc : Value) (U : Option Addr) (un cu m : Nat) (i k under pl cd : Int) (os1 os2 : List Ob.Obj) (j : Nat) (v : Value) (w : World) : Prop := match j with
  | 0 => v = .pointer (some ⟨gx, 0, none⟩)
  | 1 => v = .slice U un cu
  | 2 => v = hc
  | 3 => PoV gP m os1 id v w
  | 4 => v = hc
  | 5 => v = .int .i64 i
  | 6 => v = .int .i64 pl
  | 7 => v = .int .i64 k
  | 8 => v = .int .i64 under
  | 9 => v = vc
  | 10 => PoV gP m os2 (fun s => .tuple #[s, .int .i64 cd]) v w
  | 11 => PoV gP m os2 (fun s => .tuple #[s, .int .i64 cd]) v w
  | 12 => PoV gP m os2 id v w
  | 13 => v = .int .i64 cd
  | 14 => PoV gP m os2 id v w
  | 15 => v = .int .i64 cd
  | _ => True
theorem RtF.grew {gP : Nat → Prop} {gx : Nat} {hc vc : Value} {U : Option Addr} {un cu m : Nat} {i k under pl cd : Int} {os1 os2 : List Ob.Obj} (j : Nat) (v : Value) (w w' : World) (h : RtF gP gx hc vc U un cu m i k under pl cd os1 os2 j v w) (hg : Grew w w') : RtF gP gx hc vc U un cu m i k under pl cd os1 os2 j v w' := by
  unfold RtF at h ⊢
  split at h <;> first | exact h | exact h.grew hg
/-- The memory that is being made: its objects grow. -/
structure PtI (w0 wr : World) (gx gr gt : Nat) (hc : Array Value) (U : Option Addr) (un cu : Nat) (room : Int) (Q : Option Addr) (cq : Nat) (C : Option Addr) (cc : Nat) (a : Nat) (A : Option Addr) (c : Nat) (xs : List Value) : Prop where
  bx : Blk wr gx 53 hc
  br : Blk wr gr 53 #[.slice none 0 0, .int .i64 0, .slice none 0 0, .slice none 0 0, .slice none 0 0]
  bt : Blk wr gt 53 #[.slice U un cu, .int .i64 room, .slice Q un cq, .slice A a c, .slice C un cc]
  row : Row wr w0.heap.size 75 6 A a c xs
  nx : gx ≠ gt
  nr : gr ≠ gt
  lt : w0.heap.size ≤ gt
  gr0 : Grew w0 wr
theorem PtI.grew {w0 wr w' : World} {gx gr gt : Nat} {hc : Array Value} {U : Option Addr} {un cu : Nat} {room : Int} {Q : Option Addr} {cq : Nat} {C : Option Addr} {cc a : Nat} {A : Option Addr} {c : Nat} {xs : List Value} (h : PtI w0 wr gx gr gt hc U un cu room Q cq C cc a A c xs) (hg : Grew wr w') : PtI w0 w' gx gr gt hc U un cu room Q cq C cc a A c xs :=
  ⟨h.bx.grew hg, h.br.grew hg, h.bt.grew hg, h.row.grew hg, h.nx, h.nr, h.lt, h.gr0.trans hg⟩
theorem PtI.b {w0 wr w1 : World} {gx gr gt : Nat} {hc : Array Value} {U : Option Addr} {un cu : Nat} {room : Int} {Q : Option Addr} {cq : Nat} {C : Option Addr} {cc a : Nat} {A : Option Addr} {c : Nat} {xs : List Value} (h : PtI w0 wr gx gr gt hc U un cu room Q cq C cc a A c xs) (hk : Kept (AtRow A) wr w1) : Blk w1 gt 53 #[.slice U un cu, .int .i64 room, .slice Q un cq, .slice A a c, .slice C un cc] := h.bt.kept hk (fun hk' => by
  obtain ⟨ds, hd⟩ := h.row.blkAt hk'
  exact absurd (hd.ty h.bt).1 (by decide))
theorem PtI.app {w0 wr w1 : World} {gx gr gt : Nat} {hc : Array Value} {U : Option Addr} {un cu : Nat} {room : Int} {Q : Option Addr} {cq : Nat} {C : Option Addr} {cc a : Nat} {A : Option Addr} {c : Nat} {xs : List Value} (h : PtI w0 wr gx gr gt hc U un cu room Q cq C cc a A c xs) (hk : Kept (AtRow A) wr w1) {A' : Option Addr} {c' : Nat} {ys : List Value} (hr : Row w1 w0.heap.size 75 6 A' (a + 1) c' ys) :
    PtI w0 (w1.setCell ⟨gt, 3, none⟩ (.slice A' (a + 1) c')) gx gr gt hc U un cu room Q cq C cc (a + 1) A' c' ys := by
  have hn : ∀ (g : Nat) (cs : Array Value), Blk wr g 53 cs → ¬ AtRow A g := fun g cs hb hk' => by
    obtain ⟨ds, hd⟩ := h.row.blkAt hk'
    exact absurd (hd.ty hb).1 (by decide)
  have k2 : Kept (fun k => k = gt) w1 (w1.setCell ⟨gt, 3, none⟩ (.slice A' (a + 1) c')) := (Kept.refl (fun k => k = gt) w1).setCell (p := ⟨gt, 3, none⟩) (fun _ => rfl) _
  refine ⟨(h.bx.kept hk (hn _ _ h.bx)).kept k2 h.nx, (h.br.kept hk (hn _ _ h.br)).kept k2 h.nr, ?_, hr.kept k2 (fun g hA e => ?_), h.nx, h.nr, h.lt, k2.grew (hk.grew h.gr0 (Row.at_base h.row)) (fun k e => by rw [e]; exact h.lt)⟩
  · have h1 := (h.bt.kept hk (hn _ _ h.bt)).put 3 (.slice A' (a + 1) c')
    simpa using h1
  · obtain ⟨ds, hd⟩ := hr.blkAt (k := g) ⟨_, hA, rfl⟩
    rw [e] at hd
    exact absurd (hd.ty (h.bt.kept hk (hn _ _ h.bt))).1 (by decide)
theorem rPut_fp {w : World} {U : Option Addr} {cu : Nat} {up : List Nat} {room : Int} {Q : Option Addr} {cq : Nat} {qs : List Int} {I : Option Addr} {ci : Nat} {its : List IV} {C : Option Addr} {cc : Nat} {cs : List Int} {A : Option Addr} {c : Nat} {its2 : List IV} (hA : ∀ ad, A = some ad → w.heap.size ≤ ad.block) (hmem : ∀ x ∈ its2, 0 < x.o.f.length → ∀ ad, x.A = some ad → (∃ y ∈ its, 0 < y.o.f.length ∧ ∃ ad2, y.A = some ad2 ∧ ad2.block = ad.block) ∨ w.heap.size ≤ ad.block) (k : Nat) (hk : RFp ⟨U, cu, up, room, Q, cq, qs, A, c, its2, C, cc, cs⟩ k) : RFp ⟨U, cu, up, room, Q, cq, qs, I, ci, its, C, cc, cs⟩ k ∨ w.heap.size ≤ k := by
  rcases hk with hk | hk | ⟨_, ad, e, rfl⟩ | ⟨x, hx, hl, ad, e, rfl⟩
  · exact .inl (.inl hk)
  · exact .inl (.inr (.inl hk))
  · exact .inr (hA ad e)
  · rcases hmem x hx hl ad e with ⟨y, hy, hp, ad2, e2, e3⟩ | h1
    · exact .inl (.inr (.inr (.inr ⟨y, hy, hp, ad2, e2, e3⟩)))
    · exact .inr h1
theorem rPut_fin {w wf : World} {U : Option Addr} {cu : Nat} {up : List Nat} {room : Int} {Q : Option Addr} {cq : Nat} {qs : List Int} {I : Option Addr} {ci : Nat} {its : List IV} {C : Option Addr} {cc : Nat} {cs : List Int} {A : Option Addr} {c : Nat} {its2 : List IV} {q cn : Nat → Int} {M : List Hp.It} (hgf : Grew w wf) (hat : RvAt w ⟨U, cu, up, room, Q, cq, qs, I, ci, its, C, cc, cs⟩) (hits : ItemsAt wf A its2) (hq : qs = cntL up.length q) (hI : ivI its2 = M) (hcn : cs = cntL up.length cn) (hc1 : its2.length ≤ c) (hc2 : c ≤ 9223372036854775807) :
    RHAt wf ⟨U, cu, up, room, Q, cq, qs, A, c, its2, C, cc, cs⟩ up room q M cn :=
  ⟨⟨hat.up.grew hgf, hat.q.grew hgf, hits, hat.cn.grew hgf, hat.ql, hat.cl, hat.len⟩, rfl, rfl, hq, hI, hcn, hc1, hc2⟩
theorem zipI_mem {a : List IV} {l : List OV} (h : l.length = a.length) {z : IV} (hz : z ∈ zipI a l) : ∃ x ∈ a, ∃ y ∈ l, z = ⟨x.i, x.h, y.o, y.A, y.c⟩ := by
  obtain ⟨k, hk⟩ := List.mem_iff_getElem?.1 hz
  have hl := (List.getElem?_eq_some_iff.1 hk).1
  rw [zipI_len h] at hl
  have hx := List.getElem?_eq_getElem hl
  have hy := List.getElem?_eq_getElem (show k < l.length by omega)
  rw [zipI_at hx hy] at hk
  exact ⟨_, List.getElem_mem hl, _, List.getElem_mem _, (Option.some.inj hk).symm⟩
theorem items_of_row {w : World} {B : Nat} {t : TypeId} {A : Option Addr} {n c : Nat} {l : List IV} (hr : Row w B t 6 A n c (l.flatMap ivF)) (hn : l.length = n) (hok : ∀ x ∈ l, OvOk w ⟨x.o, x.A, x.c⟩ ∧ N64 x.i ∧ N64 x.h) : ItemsAt w A l := by
  refine ⟨hok, fun hl => ?_⟩
  rcases hr.cases with ⟨_, _, _, ⟨_, h2, _⟩ | ⟨g, h1, hb, hw, hc, _⟩⟩
  · omega
  · exact ⟨⟨g, 0, none⟩, h1, hw, CellsAt.of_row ivF_len (by rw [h1] at hr; exact hr)⟩
set_option maxRecDepth 100000 in
set_option maxHeartbeats 16000000 in
theorem rPut_c (r : RV) (i k under : Int) (v : Ob.Val) (up : List Nat) (room : Int) (q : Nat → Int) (L : List Hp.It) (cn : Nat → Int) (K : Nat) (w : World) (h : RHAt w r up room q L cn) (hk : LOk up.length L room q cn K) (hL : L.length ≤ 1000) (hv : ValOk v) :
    Calls Tryz.prog 21 #[.agg (rvC r), .int .i64 i, .int .i64 k, .int .i64 under, .agg #[.int .u8 ((v.k : Nat) : Int), .int .i64 v.n, .int .i64 v.l]] w (RPutV w r up room q L cn i k under v) := by
  obtain ⟨hat, eup, eroom, eq, eits, ecn, ecap⟩ := h
  have HLk := hid hk
  have HAt := hid hat
  have hmL : r.its.length ≤ 1000 := by rw [← eits, ivI_len] at hL; exact hL
  have HOb := hid (fun W (hW : Grew w W) => robjs_c r W (hat.its.grew hW) hmL)
  have HPl := hid (fun W (hW : Grew w W) => rPlace_c r i W (hat.its.grew hW) (by omega))
  rw [eits] at HPl
  obtain ⟨U, cu, up', room', Q, cq, qs, I, ci, its, C, cc, cs⟩ := r
  simp only at eup eroom eq eits ecn ecap HAt hmL HOb
  subst eup eroom
  have HRp := hid (fun A c l x W (hW : Grew w W) h1 h2 h3 => rput_c U cu up' A c l x k under v W (by have := hk.n8; omega) (hat.up.grew hW) h1 h2 h3 hv)
  have HPc := hid (put_place (up := up') hk.sorted i k under v)
  obtain ⟨un, eun⟩ : ∃ un, un = up'.length := ⟨_, rfl⟩
  obtain ⟨m, em⟩ : ∃ m, m = its.length := ⟨_, rfl⟩
  have hql : qs.length = un := by rw [eq, cntL_len, eun]
  have hcl : cs.length = un := by rw [ecn, cntL_len, eun]
  have ERV := hid (show rvC ⟨U, cu, up', room', Q, cq, qs, I, ci, its, C, cc, cs⟩ = #[.slice U un cu, .int .i64 room', .slice Q un cq, .slice I m ci, .slice C un cc] by unfold rvC; simp only; rw [hql, hcl, ← em, ← eun])
  rw [ERV.out] at HOb HPl ⊢
  rw [← em] at HOb hmL
  rw [← eun] at HLk eq ecn HRp
  have EUN := hid eun
  have EM := hid em
  have EI := hid eits
  have EQ := hid eq
  have EC := hid ecn
  obtain ⟨kc, ekc⟩ : ∃ kc, kc = Hp.putCode up' L i k under v := ⟨_, rfl⟩
  obtain ⟨M, eM⟩ : ∃ M, M = Hp.put up' L i k under v := ⟨_, rfl⟩
  rw [← ekc, ← eM] at HPc
  have HZm := hid (show M.length = its.length by rw [eM, Hp.put_len, ← eits, ivI_len])
  have HZs := hid (fun (a : Nat) (x : IV) (z : Hp.It) (hx : its[a]? = some x) (hz : M[a]? = some z) => show z.i = x.i ∧ z.h = x.h from (by
    rw [eM] at hz
    have h1 := put_same hz (x := ⟨x.i, x.h, x.o⟩) (by rw [← eits]; exact ivI_at hx)
    exact h1))
  have HFin : Hid (∀ (r' : RV) (w' : World), RHAt w' r' up' room' q M cn → r'.U = U → (∀ k, RFp r' k → RFp ⟨U, cu, up', room', Q, cq, qs, I, ci, its, C, cc, cs⟩ k ∨ w.heap.size ≤ k) → Grew w w' → RPutV w ⟨U, cu, up', room', Q, cq, qs, I, ci, its, C, cc, cs⟩ up' room' q L cn i k under v (.returned (.tuple #[.agg (rvC r'), .int .i64 ((kc : Nat) : Int)])) w') := hid (fun r' w' h1 hu hf h2 => ⟨r', by rw [← ekc], by rw [← eM]; exact h1, hu, hf, h2⟩)
  obtain ⟨pl, epl⟩ : ∃ pl, pl = placeAt L i := ⟨_, rfl⟩
  rw [← epl] at HPl HPc
  have HF3 := hid (show ∀ x ∈ ovs its, x.o.f.length ≤ 1000 from fun x hx => by
    obtain ⟨y, hy, rfl⟩ := List.mem_map.1 hx
    have := HLk.out.small.2 ⟨y.i, y.h, y.o⟩ (by rw [← eits]; exact List.mem_map.2 ⟨y, hy, rfl⟩)
    simp only at this ⊢
    omega)
  have HNo := hid (fun (W1 : World) z (hz : z ∈ ovs its) (hp : 0 < z.o.f.length) ad (e : z.A = some ad) => show (∃ y ∈ its, 0 < y.o.f.length ∧ ∃ ad2, y.A = some ad2 ∧ ad2.block = ad.block) ∨ W1.heap.size ≤ ad.block from (by
    obtain ⟨y, hy, rfl⟩ := List.mem_map.1 hz
    exact .inl ⟨y, hy, hp, ad, e, rfl⟩))
  have HNs := hid (show ∀ y ∈ its, 0 < y.o.f.length → ∀ ad, y.A = some ad → ad.block < w.heap.size from fun y hy hp ad e => (hat.its.ok y hy).1.blk hp ad e)
  clear hat eq eits ecn ecap hk eun em hql hcl ekc eM epl hv hL
  obtain ⟨vk, vn, vl⟩ := v
  simp only at HRp ⊢
  have B1 := ((Blk.new w 53 #[.slice U un cu, .int .i64 room', .slice Q un cq, .slice I m ci, .slice C un cc]).grew ((Grew.refl _).alloc (.cells #[.int .u8 ((vk : Nat) : Int), .int .i64 vn, .int .i64 vl] 59))).grew ((Grew.refl _).alloc (.cells #[.slice none 0 0, .int .i64 0, .slice none 0 0, .slice none 0 0, .slice none 0 0] 53))
  have B2 := (Blk.new (w.alloc (.cells #[.slice U un cu, .int .i64 room', .slice Q un cq, .slice I m ci, .slice C un cc] 53)) 59 #[.int .u8 ((vk : Nat) : Int), .int .i64 vn, .int .i64 vl]).grew ((Grew.refl _).alloc (.cells #[.slice none 0 0, .int .i64 0, .slice none 0 0, .slice none 0 0, .slice none 0 0] 53))
  have B3 := Blk.new ((w.alloc (.cells #[.slice U un cu, .int .i64 room', .slice Q un cq, .slice I m ci, .slice C un cc] 53)).alloc (.cells #[.int .u8 ((vk : Nat) : Int), .int .i64 vn, .int .i64 vl] 59)) 53 #[.slice none 0 0, .int .i64 0, .slice none 0 0, .slice none 0 0, .slice none 0 0]
  have e1 : (w.alloc (.cells #[.slice U un cu, .int .i64 room', .slice Q un cq, .slice I m ci, .slice C un cc] 53)).heap.size = w.heap.size + 1 := World.size_alloc _ _
  have e2 : ((w.alloc (.cells #[.slice U un cu, .int .i64 room', .slice Q un cq, .slice I m ci, .slice C un cc] 53)).alloc (.cells #[.int .u8 ((vk : Nat) : Int), .int .i64 vn, .int .i64 vl] 59)).heap.size = w.heap.size + 2 := by rw [World.size_alloc, e1]
  rw [e1] at B2
  rw [e2] at B3
  have G1 := (((Grew.refl w).alloc (.cells #[.slice U un cu, .int .i64 room', .slice Q un cq, .slice I m ci, .slice C un cc] 53)).alloc (.cells #[.int .u8 ((vk : Nat) : Int), .int .i64 vn, .int .i64 vl] 59)).alloc (.cells #[.slice none 0 0, .int .i64 0, .slice none 0 0, .slice none 0 0, .slice none 0 0] 53)
  clear e1 e2
  go_enter Tryz.func21, Tryz.ntmps21
  go_upto_region 1 with fail
  generalize (((w.alloc (.cells #[.slice U un cu, .int .i64 room', .slice Q un cq, .slice I m ci, .slice C un cc] 53)).alloc (.cells #[.int .u8 ((vk : Nat) : Int), .int .i64 vn, .int .i64 vl] 59)).alloc (.cells #[.slice none 0 0, .int .i64 0, .slice none 0 0, .slice none 0 0, .slice none 0 0] 53)) = w1 at *
  obtain ⟨gx, egx⟩ : ∃ gx, gx = w.heap.size := ⟨_, rfl⟩
  rw [← egx] at B1 B2 B3 HNs ⊢
  have HB1 := hid B1
  have HB2 := hid B2
  have HB3 := hid B3
  have HG1 := hid G1
  have EGX := hid egx
  clear B1 B2 B3 G1 egx
  refine wp_region_facts4 (w0 := w1) w1 16 16 [18, 19, 20, 21, 22, 23, 24, 25, 26, 27, 28, 17, 29, 30, 12, 13] [] (RtF (fun b => (∃ y ∈ its, 0 < y.o.f.length ∧ ∃ ad, y.A = some ad ∧ ad.block = b) ∨ w1.heap.size ≤ b) gx (.agg #[.slice U un cu, .int .i64 room', .slice Q un cq, .slice I m ci, .slice C un cc]) (.agg #[.int .u8 ((vk : Nat) : Int), .int .i64 vn, .int .i64 vl]) U un cu m i k under pl ((kc : Nat) : Int) (L.map (fun y : Hp.It => y.o)) (M.map (fun y : Hp.It => y.o))) (Kept (fun _ => False)) (fun _ => Kept (fun _ => False)) (fun _ _ => True) (May.kept _) (fun _ _ _ h => h) (fun _ w => Kept.refl _ w) (by kernel_rfl) (by kernel_rfl) (Kept.refl _ _).drew trivial (fun a _ v w w' _ _ _ _ h hr => RtF.grew a v w w' h (Kept.grew hr (Grew.refl _) (fun _ h => h.elim))) ?_ ?_
  · repeat' (first | exact trivial | apply And.intro)
    all_goals
      intro a w' fl hgk hJ hfi hdep hs hA
      have t5 := hs.eval 5 (by decide) (v := .pointer (some ⟨gx, 0, none⟩)) rfl
      have t9 := hs.eval 9 (by decide) (v := .pointer (some ⟨gx + 1, 0, none⟩)) rfl
      have t1 := hs.eval 1 (by decide) (v := .int .i64 i) rfl
      have t2 := hs.eval 2 (by decide) (v := .int .i64 k) rfl
      have t3 := hs.eval 3 (by decide) (v := .int .i64 under) rfl
      have hgw : Grew w1 w' := Kept.grew hgk (Grew.refl _) (fun _ h => h.elim)
      have HGW := hid (HG1.out.trans hgw)
      have HGB := hid hgw.below.size
      have HBx := hid (HB1.out.grew hgw)
      have HBv := hid (HB2.out.grew hgw)
      have x0 := HBx.out.cell 0
      have x1 := HBx.out.cell 1
      have x2 := HBx.out.cell 2
      have x3 := HBx.out.cell 3
      have x4 := HBx.out.cell 4
      have xl := HBx.out.lt
      simp only [List.getElem?_toArray, List.getElem?_cons_zero, List.getElem?_cons_succ] at x0 x1 x2 x3 x4
      have y0 := HBv.out.cell 0
      have y1 := HBv.out.cell 1
      have y2 := HBv.out.cell 2
      have yl := HBv.out.lt
      simp only [List.getElem?_toArray, List.getElem?_cons_zero, List.getElem?_cons_succ] at y0 y1 y2
      clear hs hgk hJ hfi hdep hgw
      simp only [Ahead, Region.binds, slotOf, RtF, List.getD_cons_succ, List.getD_cons_zero, forall_const, and_true] at hA
      simp only [wantedD, if_true]
      unfold Oper.wp
      have ec : ∀ v, a.eval (.const v) = v := fun _ => rfl
      generalize hfe : a.eval = fe at *
      have ef : ∀ k, fe (.func k) = Act.eval ⟨#[], []⟩ (.func k) := fun k => by rw [← hfe]; rfl
      clear hfe
    · go_simp
      exact Gives3.of rfl (Kept.refl _ _) rfl trivial
    · have hv := hA
      go_simp
      exact Gives3.of rfl (Kept.refl _ _) rfl trivial
    · go_simp
      exact Gives3.of rfl (Kept.refl _ _) rfl trivial
    · have hv := hA
      go_simp
      refine (HOb.out w' HGW.out).mono ?_
      rintro e wz ⟨A', c', rfl, hat, hgz⟩
      exact Gives3.of rfl (Kept.of_grew hgz) ⟨ovs its, A', c', rfl, by rw [ovs_len, ← EM.out], by rw [ovs_objs, EI.out], hat, fun z hz hp ad e => (by obtain ⟨y, hy, rfl⟩ := List.mem_map.1 hz; exact .inl ⟨y, hy, hp, ad, e, rfl⟩)⟩ trivial
    · go_simp
      exact Gives3.of rfl (Kept.refl _ _) rfl trivial
    · go_simp
      exact Gives3.of rfl (Kept.refl _ _) rfl trivial
    · have hv := hA
      go_simp
      refine (HPl.out w' HGW.out).mono ?_
      rintro e wz ⟨rfl, hgz⟩
      exact Gives3.of rfl (Kept.of_grew hgz) rfl trivial
    · go_simp
      exact Gives3.of rfl (Kept.refl _ _) rfl trivial
    · go_simp
      exact Gives3.of rfl (Kept.refl _ _) rfl trivial
    · go_simp
      exact Gives3.of rfl (Kept.refl _ _) rfl trivial
    · obtain ⟨hv1, ⟨lo, A', c', hv2, hlo, hob, hoa, hnb⟩, hv3, hv4, hv5, hv6⟩ := hA
      have HLo := hid (And.intro hlo (And.intro hob hoa))
      have HNb := hid hnb
      simp only [id_eq] at hv2
      clear hlo hob hoa hnb
      go_simp
      have hcall := HRp.out A' c' lo pl w' HGW.out HLo.out.2.2 (by rw [HLo.out.1]; exact hmL) (fun x hx => by obtain ⟨y, hy, e⟩ := (show ∃ y ∈ ovs its, y.o = x.o from (by have h1 : x.o ∈ objs lo := List.mem_map.2 ⟨x, hx, rfl⟩; rw [HLo.out.2.1, ← EI.out, ← ovs_objs] at h1; obtain ⟨y, hy, e⟩ := List.mem_map.1 h1; exact ⟨y, hy, e⟩)); rw [← e]; exact HF3.out y hy)
      rw [HLo.out.1] at hcall
      refine hcall.mono ?_
      intro e wz hp
      unfold RPut at hp
      rw [HLo.out.2.1, HPc.out.1, HPc.out.2] at hp
      rcases hp with ⟨h1, rfl, hgz⟩ | ⟨h1, l', A2, c2, rfl, hown, hob, hgz, hfr⟩
      · exact Gives3.of rfl (Kept.of_grew hgz) ⟨lo, A', c', by rw [HLo.out.1], HLo.out.1, by rw [HLo.out.2.1]; have h2 := HPc.out.2; rw [Ob.put_bad (by rw [HPc.out.1]; exact h1)] at h2; exact h2, HLo.out.2.2.grew hgz, HNb.out⟩ trivial
      · have hl2 : l'.length = m := by have h2 := congrArg List.length hob; rw [objs_len, List.length_map, HZm.out, ← EM.out] at h2; exact h2
        rw [hl2]
        rw [h1]
        exact Gives3.of rfl (Kept.of_grew hgz) ⟨l', A2, c2, rfl, hl2, hob, hown.at, fun z hz hp ad e => by rcases hfr z hz hp ad e with h5 | ⟨u, hu, hup, hua⟩; exact .inr (Nat.le_trans HGB.out h5); exact HNb.out u hu hup ad hua⟩ trivial
    · obtain ⟨lo, A', c', hv, hlo, hob, hoa, hnb⟩ := hA
      have HLo := hid (And.intro hlo (And.intro hob hoa))
      have HNb := hid hnb
      clear hlo hob hoa hnb
      go_simp
      exact Gives3.of rfl (Kept.refl _ _) ⟨lo, A', c', rfl, HLo.out.1, HLo.out.2.1, HLo.out.2.2, HNb.out⟩ trivial
    · obtain ⟨lo, A', c', hv, hlo, hob, hoa, hnb⟩ := hA
      have HLo := hid (And.intro hlo (And.intro hob hoa))
      have HNb := hid hnb
      clear hlo hob hoa hnb
      go_simp
      exact Gives3.of rfl (Kept.refl _ _) ⟨lo, A', c', rfl, HLo.out.1, HLo.out.2.1, HLo.out.2.2, HNb.out⟩ trivial
    · obtain ⟨lo, A', c', hv, hlo, hob, hoa, hnb⟩ := hA.1
      clear hlo hob hoa hnb
      go_simp
      exact Gives3.of rfl (Kept.refl _ _) rfl trivial
    · obtain ⟨lo, A', c', hv, hlo, hob, hoa, hnb⟩ := hA.1
      have HLo := hid (And.intro hlo (And.intro hob hoa))
      have HNb := hid hnb
      clear hlo hob hoa hnb
      try simp only [id_eq] at hv
      go_simp
      exact Gives3.of rfl (Kept.refl _ _) ⟨lo, A', c', rfl, HLo.out.1, HLo.out.2.1, HLo.out.2.2, HNb.out⟩ trivial
    · have hv := hA.1
      go_simp
      exact Gives3.of rfl (Kept.refl _ _) rfl trivial
  · intro a2 wn hgk hs hf _ _
    have hgw : Grew w1 wn := Kept.grew hgk (Grew.refl _) (fun _ h => h.elim)
    have h14 := hf 14 (by decide)
    have h15 := hf 15 (by decide)
    simp only [slotOf, RtF, List.getD_cons_succ, List.getD_cons_zero] at h14 h15
    obtain ⟨fn, rfl, hft⟩ := hs.put
    rw [hft] at h14 h15
    obtain ⟨lo, Ao, co, ev, hlo, hob, hoa, hnb⟩ := h14
    simp only [id_eq] at ev
    have HLo := hid hlo
    have HOo := hid hob
    have HOa := hid hoa
    have HNb := hid hnb
    have HGn := hid (HG1.out.trans hgw)
    have HB12 := hid (HB1.out.grew hgw)
    have HB32 := hid (HB3.out.grew hgw)
    have HW1 := hid (show w.heap.size ≤ w1.heap.size ∧ gx + 2 < w1.heap.size ∧ w.heap.size = gx from ⟨HG1.out.below.size, HB3.out.lt, EGX.out.symm⟩)
    clear hf hft hs hgk hgw hlo hob hoa hnb HB1 HB2 HB3 HG1 HOb HPl HRp HPc
    simp only [List.drop_succ_cons, List.drop_zero, putAll, List.foldl_cons, List.foldl_nil, Act.put, List.setIfInBounds_toArray, List.set_cons_succ, List.set_cons_zero, ev, h15]
    clear ev h15
    have p0 := HB12.out.cell 0
    have p1 := HB12.out.cell 1
    have p2 := HB12.out.cell 2
    have p3 := HB12.out.cell 3
    have p4 := HB12.out.cell 4
    have pl := HB12.out.lt
    have pf := HB12.out.frozen
    simp only [List.getElem?_toArray, List.getElem?_cons_zero, List.getElem?_cons_succ] at p0 p1 p2 p3 p4
    have B4 := Blk.new wn 53 #[.slice U un cu, .int .i64 room', .slice Q un cq, .slice I m ci, .slice C un cc]
    have G4 := (Grew.refl wn).alloc (.cells #[.slice U un cu, .int .i64 room', .slice Q un cq, .slice I m ci, .slice C un cc] 53)
    go_upto_region 3 with fail
    generalize wn.alloc (.cells #[.slice U un cu, .int .i64 room', .slice Q un cq, .slice I m ci, .slice C un cc] 53) = w3 at *
    obtain ⟨gt, egt⟩ : ∃ gt, gt = wn.heap.size := ⟨_, rfl⟩
    rw [← egt] at B4 ⊢
    have HBt := hid B4
    have HB13 := hid (HB12.out.grew G4)
    have HB33 := hid (HB32.out.grew G4)
    have HG3 := hid (HGn.out.trans G4)
    have HG34 := hid G4
    have HGt := hid (show gx + 2 < gt by rw [egt]; exact HB32.out.lt)
    have hgtn := hid (show wn.heap.size ≤ gt by rw [egt]; exact Nat.le_refl _)
    clear p0 p1 p2 p3 p4 pl pf B4 G4 egt HB12 HB32
    have p0 := HBt.out.cell 0
    have p1 := HBt.out.cell 1
    have p2 := HBt.out.cell 2
    have p3 := HBt.out.cell 3
    have p4 := HBt.out.cell 4
    have pl := HBt.out.lt
    have pf := HBt.out.frozen
    simp only [List.getElem?_toArray, List.getElem?_cons_zero, List.getElem?_cons_succ] at p0 p1 p2 p3 p4
    go_upto_region 5 with fail
    clear p0 p1 p2 p3 p4 pl pf
    have HK4 : Kept (fun k => k = gt) w3 (w3.setCell ⟨gt, 3, none⟩ (.slice none 0 0)) := (Kept.refl (fun k => k = gt) w3).setCell (p := ⟨gt, 3, none⟩) (fun _ => rfl) _
    have hgt0 : w.heap.size ≤ gt := by have h1 := HGt.out; have h2 := EGX.out; omega
    have HI4 := hid (show PtI wn (w3.setCell ⟨gt, 3, none⟩ (.slice none 0 0)) gx (gx + 2) gt #[.slice U un cu, .int .i64 room', .slice Q un cq, .slice I m ci, .slice C un cc] U un cu room' Q cq C cc 0 none 0 (((zipI its lo).take 0).flatMap ivF) from ⟨HB13.out.kept HK4 (by have := HGt.out; omega), HB33.out.kept HK4 (by have := HGt.out; omega), by have h1 := HBt.out.put 3 (.slice none 0 0); simpa using h1, Row.nil _ _ _ _, by have := HGt.out; omega, by have := HGt.out; omega, hgtn, HK4.grew HG34.out (fun k e => by rw [e]; exact hgtn)⟩)
    clear HK4 HBt HB13 HB33 HG3 HG34 hgtn
    generalize w3.setCell ⟨gt, 3, none⟩ (.slice none 0 0) = w4 at *
    go_loopw [15, 16] (fun s15 _ wr => ∃ (a : Nat) (A' : Option Addr) (c' : Nat), s15 = .int .i64 ((a : Nat) : Int) ∧ a ≤ m ∧ Hid (PtI wn wr gx (gx + 2) gt #[.slice U un cu, .int .i64 room', .slice Q un cq, .slice I m ci, .slice C un cc] U un cu room' Q cq C cc a A' c' (((zipI its lo).take a).flatMap ivF))) (fun s15 _ _ => m - (intOf s15).toNat)
    case atStart => exact ⟨0, none, 0, rfl, Nat.zero_le _, HI4⟩
    case round =>
      obtain ⟨a, A', c', rfl, ha, HP⟩ := hrel
      by_cases hlt : a < m
      · have f1 : (a : Int) < (m : Int) := by omega
        have HPx := hid HP.out.bx
        have x3 := HPx.out.cell 3
        have xl := HPx.out.lt
        simp only [List.getElem?_toArray, List.getElem?_cons_zero, List.getElem?_cons_succ] at x3
        obtain ⟨ad, x, rfl, hx, hcx, hbx, -, -, -⟩ := iv_at HAt.out.its (HGn.out.trans HP.out.gr0) (i := a) (by rw [← EM.out]; exact hlt)
        have u0 := hcx 0 _ rfl
        have u1 := hcx 1 _ rfl
        have u2 := hcx 2 _ rfl
        have u3 := hcx 3 _ rfl
        have u4 := hcx 4 _ rfl
        have u5 := hcx 5 _ rfl
        rw [add_zero] at u0
        rw [add_pos (by decide), block_add] at u1 u2 u3 u4 u5
        obtain ⟨ao, y, rfl, hy, v0, v1, v2, v3, hby, hoky⟩ := ov_get HOa.out HP.out.gr0 (i := a) (by rw [HLo.out]; exact hlt)
        have HNx := hid (show (zipI its lo).take (a + 1) = (zipI its lo).take a ++ [⟨x.i, x.h, y.o, y.A, y.c⟩] by rw [List.take_add_one, zipI_at hx hy]; rfl)
        clear hx hy hcx hoky
        obtain ⟨xi, xh, ⟨cls, lev, f, bt⟩, xA, xc⟩ := x
        obtain ⟨⟨ycls, ylev, yf, ybt⟩, yA, yc⟩ := y
        simp only at u0 u1 u2 u3 u4 u5 v0 v1 v2 v3 HNx
        have HLf : Hid (ivF ⟨xi, xh, ⟨ycls, ylev, yf, ybt⟩, yA, yc⟩ = [.int .i64 xi, .int .i64 xh, .int .i64 ycls, .int .i64 ylev, .slice yA yf.length yc, .string ybt]) := hid rfl
        generalize f.length = fm at *
        generalize yf.length = ym at *
        have B5 := Blk.new wr 75 #[.int .i64 xi, .int .i64 xh, .int .i64 cls, .int .i64 lev, .slice xA fm xc, .string bt]
        have G5 := (Grew.refl wr).alloc (.cells #[.int .i64 xi, .int .i64 xh, .int .i64 cls, .int .i64 lev, .slice xA fm xc, .string bt] 75)
        go_upto_region 8 with fail
        generalize wr.alloc (.cells #[.int .i64 xi, .int .i64 xh, .int .i64 cls, .int .i64 lev, .slice xA fm xc, .string bt] 75) = w5 at *
        obtain ⟨gi, egi⟩ : ∃ gi, gi = wr.heap.size := ⟨_, rfl⟩
        rw [← egi] at B5 ⊢
        have HB5 := hid B5
        have V0 := (G5.below.cell (p := ao.add (a * 4)) (by rw [block_add]; exact hby)).trans v0
        have V1 := (G5.below.cell (p := ⟨ao.block, (ao.add (a * 4)).off + 1, none⟩) hby).trans v1
        have V2 := (G5.below.cell (p := ⟨ao.block, (ao.add (a * 4)).off + 2, none⟩) hby).trans v2
        have V3 := (G5.below.cell (p := ⟨ao.block, (ao.add (a * 4)).off + 3, none⟩) hby).trans v3
        have VL := Nat.lt_of_lt_of_le hby G5.below.size
        have HG5 := hid G5
        have EGi := hid egi
        clear B5 egi x3 xl u0 u1 u2 u3 u4 u5 v0 v1 v2 v3 hbx HPx G5
        have z0 := HB5.out.cell 2
        have z1 := HB5.out.cell 3
        have z2 := HB5.out.cell 4
        have z3 := HB5.out.cell 5
        have zl := HB5.out.lt
        have zf := HB5.out.frozen
        simp only [List.getElem?_toArray, List.getElem?_cons_zero, List.getElem?_cons_succ] at z0 z1 z2 z3
        go_upto_region 9 with fail
        clear z0 z1 z2 z3 zl zf V0 V1 V2 V3 VL hby
        have HB6 : Hid (Blk ((((w5.setCell ⟨gi, 2, none⟩ (.int .i64 ycls)).setCell ⟨gi, 3, none⟩ (.int .i64 ylev)).setCell ⟨gi, 4, none⟩ (.slice yA ym yc)).setCell ⟨gi, 5, none⟩ (.string ybt)) gi 75 #[.int .i64 xi, .int .i64 xh, .int .i64 ycls, .int .i64 ylev, .slice yA ym yc, .string ybt]) := hid (by have h1 := (((HB5.out.put 2 (.int .i64 ycls)).put 3 (.int .i64 ylev)).put 4 (.slice yA ym yc)).put 5 (.string ybt); simpa using h1)
        have HK6 : Kept (fun k => k = gi) w5 ((((w5.setCell ⟨gi, 2, none⟩ (.int .i64 ycls)).setCell ⟨gi, 3, none⟩ (.int .i64 ylev)).setCell ⟨gi, 4, none⟩ (.slice yA ym yc)).setCell ⟨gi, 5, none⟩ (.string ybt)) := ((((Kept.refl (fun k => k = gi) w5).setCell (p := ⟨gi, 2, none⟩) (fun _ => rfl) _).setCell (p := ⟨gi, 3, none⟩) (fun _ => rfl) _).setCell (p := ⟨gi, 4, none⟩) (fun _ => rfl) _).setCell (p := ⟨gi, 5, none⟩) (fun _ => rfl) _
        have HP6 := hid (HP.out.grew (HK6.grew HG5.out (fun k e => by rw [e, EGi.out]; exact Nat.le_refl _)))
        clear HK6 HB5 HP HG5 EGi
        generalize ((((w5.setCell ⟨gi, 2, none⟩ (.int .i64 ycls)).setCell ⟨gi, 3, none⟩ (.int .i64 ylev)).setCell ⟨gi, 4, none⟩ (.slice yA ym yc)).setCell ⟨gi, 5, none⟩ (.string ybt)) = w6 at *
        have HPt := hid HP6.out.bt
        have p3 := HPt.out.cell 3
        have pl := HPt.out.lt
        have z0 := HB6.out.cell 0
        have z1 := HB6.out.cell 1
        have z2 := HB6.out.cell 2
        have z3 := HB6.out.cell 3
        have z4 := HB6.out.cell 4
        have z5 := HB6.out.cell 5
        have zl := HB6.out.lt
        simp only [List.getElem?_toArray, List.getElem?_cons_zero, List.getElem?_cons_succ] at p3 z0 z1 z2 z3 z4 z5
        go_wp2_with (at_builtin; refine wpList_pushS (.agg #[.int .i64 0, .int .i64 0, .int .i64 0, .int .i64 0, .slice none 0 0, .string ⟨#[]⟩]) 6 72 w6 rfl _ _ 51 75 rfl Tryz.underlying51 ritem_info rfl (by decide) wn.heap.size HP6.out.gr0.below.size A' a c' _ rfl HP6.out.row w6.heap.size rfl rfl [.int .i64 xi, .int .i64 xh, .int .i64 ycls, .int .i64 ylev, .slice yA ym yc, .string ybt] rfl (by intro u hu; simp only [List.mem_cons, List.not_mem_nil, or_false] at hu; rcases hu with rfl | rfl | rfl | rfl | rfl | rfl <;> rfl) (by omega) (by omega) ?_; rintro A8 k8 w8 hR8 hK8 hT8; have HP8 := hid (HP6.out.app hK8 hR8); have HBt8 := hid (HP6.out.b hK8); clear hR8 hK8 hT8 p3 pl z0 z1 z2 z3 z4 z5 zl; have y3 := HBt8.out.cell 3; have yl := HBt8.out.lt; have yf2 := HBt8.out.frozen)
        go_round
        case rel => exact ⟨a + 1, A8, k8, by go_num, by omega, hid (by rw [HNx.out, List.flatMap_append, List.flatMap_cons, List.flatMap_nil, List.append_nil, HLf.out]; exact HP8.out)⟩
        case measure => simp [intOf]; omega
      · obtain rfl : m = a := by omega
        have HZl := hid (show lo.length = its.length by rw [HLo.out, EM.out])
        have HTk := hid (show (zipI its lo).take m = zipI its lo from List.take_of_length_le (by rw [zipI_len HZl.out, ← EM.out]; exact Nat.le_refl _))
        have HRw := hid HP.out.row
        rw [HTk.out] at HRw
        have HBt7 := hid HP.out.bt
        have HBr7 := hid HP.out.br
        have HGw := hid (HGn.out.trans HP.out.gr0)
        have HGw0 := hid HP.out.gr0
        have p0 := HBt7.out.cell 0
        have p1 := HBt7.out.cell 1
        have p2 := HBt7.out.cell 2
        have p3 := HBt7.out.cell 3
        have p4 := HBt7.out.cell 4
        have pl := HBt7.out.lt
        have pf := HBt7.out.frozen
        simp only [List.getElem?_toArray, List.getElem?_cons_zero, List.getElem?_cons_succ] at p0 p1 p2 p3 p4
        have t0 := HBr7.out.cell 0
        have t1 := HBr7.out.cell 1
        have t2 := HBr7.out.cell 2
        have t3 := HBr7.out.cell 3
        have t4 := HBr7.out.cell 4
        have tl := HBr7.out.lt
        have tf := HBr7.out.frozen
        simp only [List.getElem?_toArray, List.getElem?_cons_zero, List.getElem?_cons_succ] at t0 t1 t2 t3 t4
        go_wp2_with fail
        refine bodyPost_ret (v := .tuple #[.agg #[.slice U un cu, .int .i64 room', .slice Q un cq, .slice A' m c', .slice C un cc], .int .i64 ((kc : Nat) : Int)]) (res_rPut _ (gx + 2) rfl _ rfl _ _ _ _ _ _ (HBr7.out.put5 _ _ _ _ _)) rfl ?_
        have hk := kept5 (Kept.refl (fun k => k = gx + 2) wr) (fun _ => rfl) (.slice U un cu) (.int .i64 room') (.slice Q un cq) (.slice A' m c') (.slice C un cc)
        have hgf := hk.grew HGw.out (fun k e => by rw [e, EGX.out]; omega)
        have hr3 := HRw.out.kept hk (fun g hA e => by obtain ⟨ds, hd⟩ := HRw.out.blkAt (k := g) ⟨_, hA, rfl⟩; rw [e] at hd; exact absurd (hd.ty HBr7.out).1 (by decide))
        have hzl : (zipI its lo).length = m := by rw [zipI_len HZl.out, ← EM.out]
        have er : rvC ⟨U, cu, up', room', Q, cq, qs, A', c', zipI its lo, C, cc, cs⟩ = #[.slice U un cu, .int .i64 room', .slice Q un cq, .slice A' m c', .slice C un cc] := by
          unfold rvC
          simp only
          rw [← EUN.out, hzl, show qs.length = un by rw [EQ.out, cntL_len], show cs.length = un by rw [EC.out, cntL_len]]
        rw [← er]
        have hit : ItemsAt _ A' (zipI its lo) := items_of_row hr3 hzl (fun x hx => by
          obtain ⟨y, hy, z, hz, e⟩ := zipI_mem HZl.out hx
          subst e
          have h1 := (HOa.out.ok z hz).grew HGw0.out
          exact ⟨h1.kept hk (fun hp ad e hq => by rcases HNb.out z hz hp ad e with ⟨y2, hy2, hp2, ad2, e2, e3⟩ | h5; have h6 := HNs.out y2 hy2 hp2 ad2 e2; omega; have h7 := HW1.out; omega), (HAt.out.its.ok y hy).2⟩)
        have hq3 : qs = cntL up'.length q := by rw [← EUN.out]; exact EQ.out
        have hcn3 : cs = cntL up'.length cn := by rw [← EUN.out]; exact EC.out
        have hcap := HRw.out.cases
        exact HFin.out _ _ (rPut_fin hgf HAt.out hit hq3 (zipI_iv HZl.out HZm.out HZs.out HOo.out) hcn3 (by rw [hzl]; exact hcap.2.1) hcap.2.2.1) rfl (rPut_fp (fun ad e => Nat.le_trans HGn.out.below.size (Row.at_base HRw.out ad.block ⟨ad, e, rfl⟩)) (fun x hx hp ad e => by obtain ⟨y, hy, z, hz, e1⟩ := zipI_mem HZl.out hx; subst e1; rcases HNb.out z hz hp ad e with h5 | h5; exact .inl h5; have h7 := HW1.out; exact .inr (by omega))) hgf
end Go.Proofs.YtidnaednldcdfaaGreatDoor

/- Parts of elder texts that this layer needs, joined: XHsE XHsF. -/
import Derived.Test.YtidnaednldcdfaaDoorKsC
namespace Go.Proofs.YtidnaednldcdfaaDoor
open Go.RowKit

theorem objsI_get {l : List IT} {i : Nat} {o : Ob.Obj} (h : (objsI l)[i]? = some o) : ∃ x, l[i]? = some x ∧ x.o = o := by
  rw [objsI, List.getElem?_map] at h
  cases hx : l[i]? with
  | none => rw [hx] at h; cases h
  | some x => rw [hx] at h; exact ⟨x, rfl, Option.some.inj h⟩
def gObj (l : List Ob.Obj) (i : Int) : Ob.Obj := if Ob.inB i ((l.length : Nat) : Int) then l[i.toNat]?.getD ⟨0, 0, [], ⟨#[]⟩⟩ else ⟨0, 0, [], ⟨#[]⟩⟩
def gCode (l : List Ob.Obj) (i : Int) : Nat := if Ob.inB i ((l.length : Nat) : Int) then 0 else 3
def gHash (l : List Ob.Obj) (i : Int) : Int := if Ob.inB i ((l.length : Nat) : Int) then ((Ob.hash l i.toNat : Nat) : Int) else 0
theorem g_yes {l : List Ob.Obj} {i : Int} (h : Ob.inB i ((l.length : Nat) : Int) = true) : ∃ (k : Nat) (o : Ob.Obj), i = (k : Int) ∧ l[k]? = some o ∧ gObj l i = o ∧ gCode l i = 0 ∧ gHash l i = ((Ob.hash l k : Nat) : Int) := by
  have h0 := h
  simp only [Ob.inB, Bool.and_eq_true, decide_eq_true_eq] at h
  have hk : i.toNat < l.length := by omega
  refine ⟨i.toNat, l[i.toNat], by omega, List.getElem?_eq_getElem hk, ?_, ?_, ?_⟩
  · rw [gObj, if_pos h0, List.getElem?_eq_getElem hk]
    rfl
  · rw [gCode, if_pos h0]
  · rw [gHash, if_pos h0]
theorem g_no {l : List Ob.Obj} {i : Int} (h : Ob.inB i ((l.length : Nat) : Int) = false) : gObj l i = ⟨0, 0, [], ⟨#[]⟩⟩ ∧ gCode l i = 3 ∧ gHash l i = 0 := by
  have h1 : ¬ (Ob.inB i ((l.length : Nat) : Int) = true) := by rw [h]; decide
  exact ⟨by rw [gObj, if_neg h1], by rw [gCode, if_neg h1], by rw [gHash, if_neg h1]⟩
def GetB (l : List Ob.Obj) (i : Int) (w : World) (e : Ending) (w' : World) : Prop := (∃ A' c', e = .returned (.tuple #[.agg #[.int .i64 (gObj l i).cls, .int .i64 (gObj l i).lev, .slice A' (gObj l i).f.length c', .string (gObj l i).b], errVal (gCode l i)]) ∧ ValsAt w' A' (gObj l i).f) ∧ Grew w w'
theorem BothAt.getH {w0 w : World} {B C : Nat} {v : HV} {up : List Nat} {s : SV} {l ls : List Ob.Obj} (h : BothAt w0 w B C v up s l ls) (hl : ∀ o ∈ l, Ob.mayB up.length o = true) (i : Int) : Calls Tryd.prog 16 #[.pointer (some ⟨v.g, 0, none⟩), .int .i64 i] w (GetB l i w) := by
  cases hi : Ob.inB i ((l.length : Nat) : Int)
  · obtain ⟨e1, e2, e3⟩ := g_no hi
    refine (hGet_no v B i w h.h.mem h.h.ok.len (h.h.find_no (Hp.as_find_no hi))).mono ?_
    rintro e w' ⟨rfl, hg⟩
    refine ⟨⟨none, 0, ?_, ?_⟩, hg⟩
    · rw [e1, e2]; rfl
    · rw [e1]; exact ValsAt.nil _ _
  · obtain ⟨k, o, rfl, ho, e1, e2, e3⟩ := g_yes hi
    obtain ⟨y, hy, -, hyo⟩ := h.h.find_at (Hp.as_in ho) (i := k) rfl
    have hG := hGet_yes v B C k y w h.h.mem h.h.ok hy
    rw [hyo] at hG
    refine hG.mono ?_
    rintro e w' ⟨A', c', rfl, hr, hg⟩
    refine ⟨⟨A', c', ?_, ?_⟩, hg⟩
    · rw [e1, e2]; rfl
    · rw [e1]
      have hm := hp_head (hl o (List.mem_of_getElem? ho))
      exact row_vals hr rfl (fun u hu => hp_value (hm.2.2.2.2.2.2 u hu) (by have := h.h.ok.lens.2; rw [h.h.up] at this; omega))
theorem BothAt.getS {w0 w : World} {B C : Nat} {v : HV} {up : List Nat} {s : SV} {lh l : List Ob.Obj} (h : BothAt w0 w B C v up s lh l) (i : Int) : Calls Tryd.prog 26 #[.pointer (some ⟨s.g, 0, none⟩), .int .i64 i] w (GetB l i w) := by
  have hlen := h.len
  cases hi : Ob.inB i ((l.length : Nat) : Int)
  · obtain ⟨e1, e2, e3⟩ := g_no hi
    refine (get_no s B i w h.st (by rw [hlen]; exact hi)).mono ?_
    rintro e w' ⟨rfl, hg⟩
    refine ⟨⟨none, 0, ?_, ?_⟩, hg⟩
    · rw [e1, e2]; rfl
    · rw [e1]; exact ValsAt.nil _ _
  · obtain ⟨k, o, rfl, ho, e1, e2, e3⟩ := g_yes hi
    rw [← h.eq] at ho
    obtain ⟨x, hx, rfl⟩ := objsI_get ho
    refine (get_c s B k x w h.st hx).mono ?_
    rintro e w' ⟨b, rfl, -, hb, hg⟩
    refine ⟨⟨some ⟨b, 0, none⟩, x.o.f.length, ?_, ?_⟩, hg⟩
    · rw [e1, e2]; rfl
    · rw [e1]
      have hm := hp_head (h.st.ok x (List.mem_of_getElem? hx))
      exact vals_blk hb (fun u hu => hp_value (hm.2.2.2.2.2.2 u hu) (by have := h.st.lens; omega))
theorem BothAt.hashH {w0 w : World} {B C : Nat} {v : HV} {up : List Nat} {s : SV} {l ls : List Ob.Obj} (h : BothAt w0 w B C v up s l ls) (i : Int) : Calls Tryd.prog 27 #[.pointer (some ⟨v.g, 0, none⟩), .int .i64 i] w fun e w' => e = .returned (.tuple #[.int .i64 (gHash l i), errVal (gCode l i)]) ∧ Grew w w' := by
  cases hi : Ob.inB i ((l.length : Nat) : Int)
  · obtain ⟨e1, e2, e3⟩ := g_no hi
    rw [e2, e3]
    exact hHash_no v B i w h.h.mem h.h.ok.len (h.h.find_no (Hp.as_find_no hi))
  · obtain ⟨k, o, rfl, ho, e1, e2, e3⟩ := g_yes hi
    obtain ⟨y, hy, hyh, -⟩ := h.h.find_at (Hp.as_in ho) (i := k) rfl
    have hG := hHash_yes v B k y w h.h.mem h.h.ok.len hy
    rw [hyh] at hG
    rw [e2, e3]
    exact hG
theorem BothAt.hashS {w0 w : World} {B C : Nat} {v : HV} {up : List Nat} {s : SV} {lh l : List Ob.Obj} (h : BothAt w0 w B C v up s lh l) (i : Int) : Calls Tryd.prog 28 #[.pointer (some ⟨s.g, 0, none⟩), .int .i64 i] w fun e w' => e = .returned (.tuple #[.int .i64 (gHash l i), errVal (gCode l i)]) ∧ Grew w w' := by
  have hlen := h.len
  cases hi : Ob.inB i ((l.length : Nat) : Int)
  · obtain ⟨e1, e2, e3⟩ := g_no hi
    rw [e2, e3]
    exact hash_no s B i w h.st (by rw [hlen]; exact hi)
  · obtain ⟨k, o, rfl, ho, e1, e2, e3⟩ := g_yes hi
    rw [← h.eq] at ho
    obtain ⟨x, hx, rfl⟩ := objsI_get ho
    have hG := hash_c s B k x w h.st hx
    rw [h.st.hs k x hx, h.eq] at hG
    rw [e2, e3]
    exact hG
theorem BothAt.lenH {w0 w : World} {B C : Nat} {v : HV} {up : List Nat} {s : SV} {l ls : List Ob.Obj} (h : BothAt w0 w B C v up s l ls) : Calls Tryd.prog 13 #[.pointer (some ⟨v.g, 0, none⟩)] w fun e w' => e = .returned (.int .i64 ((l.length : Nat) : Int)) ∧ Grew w w' := by
  have h1 := hLen_c v B w h.h.mem
  rwa [h.h.ok.n, h.h.its, Hp.as_len] at h1
theorem BothAt.lenS {w0 w : World} {B C : Nat} {v : HV} {up : List Nat} {s : SV} {lh l : List Ob.Obj} (h : BothAt w0 w B C v up s lh l) : Calls Tryd.prog 29 #[.pointer (some ⟨s.g, 0, none⟩)] w fun e w' => e = .returned (.int .i64 ((l.length : Nat) : Int)) ∧ Grew w w' := by
  have h1 := len_c s B w h.st
  rwa [h.len] at h1
/-- What New of no objects answers: its levels lie in a block of their own. -/
def New0 (w : World) (up : List Nat) (e : Ending) (w' : World) : Prop :=
  if La.valid up = true then ∃ s, e = .returned (.tuple #[.pointer (some ⟨s.g, 0, none⟩), .nilIface]) ∧ StoreAt w' w.heap.size s ∧ s.up = up ∧ objsI s.its = [] ∧ (∀ ad, s.U = some ad → w.heap.size ≤ ad.block) ∧ Grew w w'
  else e = .returned (.tuple #[.pointer none, .iface 94 (.int .i64 7)]) ∧ Grew w w'
theorem ObjsAt.empty (w : World) : ObjsAt w none [] := ⟨by simp, fun h => absurd h (by simp)⟩
set_option maxRecDepth 100000 in
set_option maxHeartbeats 8000000 in
theorem new0_c (U0 : Option Addr) (cu : Nat) (up : List Nat) (w : World) (hn : up.length ≤ 20) (hU : BytesAt w w.heap.size U0 up) :
    Calls Tryd.prog 18 #[.agg #[.slice U0 up.length cu], .slice none 0 0] w (New0 w up) := by
  obtain ⟨un, eun⟩ : ∃ un, un = up.length := ⟨_, rfl⟩
  have HU := hid hU
  have HA := hid (ObjsAt.empty w)
  have HN := hid hn
  have HCk := hid (fun W (hW : Grew w W) => check_c U0 cu up W hn (hU.grew hW))
  rw [← eun] at HCk hn ⊢
  have EUN := hid eun
  clear hU eun
  have G1 := (Grew.refl w).alloc (.cells #[.slice U0 un cu] 55)
  have B1 := Blk.new w 55 #[.slice U0 un cu]
  go_enter Tryd.func18, Tryd.ntmps18
  go_upto_region 1 with fail
  obtain ⟨gl, egl⟩ : ∃ gl, gl = w.heap.size := ⟨_, rfl⟩
  generalize w.alloc (.cells #[.slice U0 un cu] 55) = w1 at *
  rw [← egl] at B1 ⊢
  have EGL := hid egl
  have HG1 := hid G1
  have HB1 := hid B1
  have q0 := B1.cell 0
  have ql := B1.lt
  simp only [List.getElem?_toArray, List.getElem?_cons_zero] at q0
  clear G1 B1 egl
  cases hv : La.valid up
  · have HV := hid hv
    rw [hv] at HCk
    have HC : Hid (∀ W, Grew w W → Calls Tryd.prog 41 #[.agg #[.slice U0 un cu]] W fun e w' => e = .returned (.iface 94 (.int .i64 7)) ∧ Grew W w') := hid (fun W hW => HCk.out W hW)
    clear hv HCk
    go_wp2_with (go_at_call 41; refine (HC.out _ HG1.out).mono ?_; rintro e w2 ⟨rfl, hg2⟩)
    go_ret2
    unfold New0
    rw [HV.out, if_neg (by decide)]
    exact ⟨rfl, HG1.out.trans hg2⟩
  · have HV := hid hv
    rw [hv] at HCk
    have HC : Hid (∀ W, Grew w W → Calls Tryd.prog 41 #[.agg #[.slice U0 un cu]] W fun e w' => e = .returned .nilIface ∧ Grew W w') := hid (fun W hW => HCk.out W hW)
    clear hv HCk
    go_upto_region 5 with (go_at_call 41; refine (HC.out _ HG1.out).mono ?_; rintro e w2 ⟨rfl, hg2⟩)
    have HG2 := hid (HG1.out.trans hg2)
    have HB2 := hid (HB1.out.grew hg2)
    clear q0 ql hg2 HC HB1
    have HAny := hid (anyObj_c 46 #[.pointer (some ⟨gl, 0, none⟩)] (fun _ _ => rfl) (fun v => !Ob.mayB un v.o) none 0 [] w2 (HA.out.grew HG2.out) (by simp) (fun x hx W' hW' => new1_c U0 un cu x gl W' (HB2.out.grew hW') ((HA.out.ok x hx).grew (HG2.out.trans hW'))))
    have HAny2 : Hid (Calls Tryd.prog 48 #[.slice none 0 0, .func (.func 46) #[] #[.pointer (some ⟨gl, 0, none⟩)]] w2 fun e w' => e = .returned (.bool false) ∧ Grew w2 w') := hid HAny.out
    clear HAny
    · go_upto_region 7 with (go_at_call 48; refine HAny2.out.mono ?_; rintro e w3 ⟨rfl, hg3⟩)
      have HG3 := hid (HG2.out.trans hg3)
      have HB3 := hid (HB2.out.grew hg3)
      have p0 := HB3.out.cell 0
      have pl := HB3.out.lt
      simp only [List.getElem?_toArray, List.getElem?_cons_zero] at p0
      clear hg3 HB2 HAny2
      obtain ⟨ad, rfl, _⟩ := HU.out.2 (La.valid_spec HV.out).1
      have HCl := hid (clone2_c ad cu up w3 HN.out (HU.out.grew HG3.out))
      rw [← EUN.out] at HCl
      go_upto_region 8 with (go_at_call 45; refine HCl.out.mono ?_; rintro e w4 ⟨U1, c1, rfl, hU1, hfr, hg4⟩; have HFr := hid hfr)
      have HG4 := hid (HG3.out.trans hg4)
      have hnew := new_at (B := w.heap.size) (cu := c1) HG4.out.below.size hU1 HV.out
      have hg5 := HG4.out.alloc (.cells #[.slice U1 un c1, .slice none 0 0, .int .i64 0, .int .i64 0, .int .i64 0, .int .i64 0, .int .i64 0, .int .i64 0, .int .i64 0, .int .i64 0] 102)
      rw [← EUN.out] at hnew
      obtain ⟨g, eg⟩ : ∃ g, g = w4.heap.size := ⟨_, rfl⟩
      generalize w4.alloc (.cells #[.slice U1 un c1, .slice none 0 0, .int .i64 0, .int .i64 0, .int .i64 0, .int .i64 0, .int .i64 0, .int .i64 0, .int .i64 0, .int .i64 0] 102) = w5 at *
      rw [← eg] at hnew ⊢
      have HNew := hid hnew
      have HG5 := hid hg5
      clear hnew hg5 hg4 hU1 hfr p0 pl HG4 HB3 HCl eg
      go_upto_region 9 with fail
      go_loopw [34] (fun s34 wr => s34 = .int .i64 0 ∧ Hid (StoreAt wr w.heap.size (newS g U1 c1 up)) ∧ Hid (Grew w wr)) (fun _ _ => 0)
      case atStart => exact ⟨rfl, HNew, HG5⟩
      case round =>
        obtain ⟨rfl, HS, HG⟩ := hrel
        go_wp2_with fail
        go_ret2
        unfold New0
        rw [HV.out, if_pos rfl]
        exact ⟨newS g U1 c1 up, rfl, HS.out, rfl, rfl, fun ad e => Nat.le_trans HG3.out.below.size (HFr.out ad e), HG.out⟩
/-- Both new, or neither. -/
theorem both_new {w w1 w2 : World} {up : List Nat} {e e2 : Ending} (h1 : NewV w up 1048576 [] e w1) (hv : La.valid up = true) (h2 : New0 w1 up e2 w2) : ∃ (v : HV) (s : SV), e = .returned (.tuple #[.pointer (some ⟨v.g, 0, none⟩), .nilIface]) ∧ e2 = .returned (.tuple #[.pointer (some ⟨s.g, 0, none⟩), .nilIface]) ∧ BothAt w w2 w.heap.size 0 v up s [] [] := by
  have hc : newCode up 1048576 [] = 0 := by unfold newCode; rw [hv]; rfl
  obtain ⟨v, he, hh⟩ := hat_new h1 hc
  unfold New0 at h2
  rw [if_pos hv] at h2
  obtain ⟨s, he2, hs, hsu, hse, hfr, hg⟩ := h2
  refine ⟨v, s, he, he2, hh.more hg, ⟨hs.blk, Nat.le_trans hh.gr.below.size hs.low, hs.up, hs.upNe, hs.valid, hs.row.low hh.gr.below.size, hs.rowNe, fun x hx => ⟨Nat.le_trans hh.gr.below.size (hs.fb x hx).1, (hs.fb x hx).2⟩, hs.dis, hs.hs, hs.ok, hs.len⟩, hsu, hse, fun k h3 h4 => ?_, fun ad e h3 => ?_, fun ad e h3 => ?_⟩
  · have h5 := (hh.mem.owns h3).2
    have h6 := (hs.owns h4).1
    omega
  · have h5 := (hh.mem.owns h3).2
    have h6 := hfr ad e
    omega
  · have h5 := hh.mem.upLt ad e
    have h6 := (hs.owns h3).1
    omega
end Go.Proofs.YtidnaednldcdfaaDoor
namespace Go.Proofs.YtidnaednldcdfaaDoor
open Go.RowKit

theorem newV_grew {w w' : World} {up : List Nat} {room : Int} {quota : List Int} {e : Ending} (h : NewV w up room quota e w') : Grew w w' := by
  unfold NewV at h
  split at h
  · obtain ⟨v, _, _, _, _, _, _, _, _, hg⟩ := h
    exact hg
  · exact h.2
theorem newV_lat {w w' : World} {up : List Nat} {e : Ending} (h : NewV w up 1048576 [] e w') (hv : La.valid up = false) : e = .returned (.tuple #[.pointer none, .iface 94 (.int .i64 7)]) ∧ Grew w w' := by
  have hc : newCode up 1048576 [] = 7 := by unfold newCode; rw [if_pos hv]
  have h1 := hat_bad h (by rw [hc]; decide)
  rw [hc] at h1
  exact h1
theorem new0_lat {w w' : World} {up : List Nat} {e : Ending} (h : New0 w up e w') (hv : La.valid up = false) : e = .returned (.tuple #[.pointer none, .iface 94 (.int .i64 7)]) ∧ Grew w w' := by
  unfold New0 at h
  rwa [if_neg (by rw [hv]; decide)] at h
theorem both_new2 {w w1 w2 : World} {up : List Nat} {v : HV} {e2 : Ending} (hh : HAt w w1 w.heap.size 0 v up 1048576 (qf 1048576 []) [] (fun _ => 0)) (hv : La.valid up = true) (h2 : New0 w1 up e2 w2) : ∃ (s : SV), e2 = .returned (.tuple #[.pointer (some ⟨s.g, 0, none⟩), .nilIface]) ∧ BothAt w w2 w.heap.size 0 v up s [] [] := by
  unfold New0 at h2
  rw [if_pos hv] at h2
  obtain ⟨s, he2, hs, hsu, hse, hfr, hg⟩ := h2
  refine ⟨s, he2, hh.more hg, ⟨hs.blk, Nat.le_trans hh.gr.below.size hs.low, hs.up, hs.upNe, hs.valid, hs.row.low hh.gr.below.size, hs.rowNe, fun x hx => ⟨Nat.le_trans hh.gr.below.size (hs.fb x hx).1, (hs.fb x hx).2⟩, hs.dis, hs.hs, hs.ok, hs.len⟩, hsu, hse, fun k h3 h4 => ?_, fun ad e h3 => ?_, fun ad e h3 => ?_⟩
  · have h5 := (hh.mem.owns h3).2
    have h6 := (hs.owns h4).1
    omega
  · have h5 := (hh.mem.owns h3).2
    have h6 := hfr ad e
    omega
  · have h5 := hh.mem.upLt ad e
    have h6 := (hs.owns h3).1
    omega
theorem g_small {n : Nat} {l : List Ob.Obj} (h : ∀ o ∈ l, Ob.mayB n o = true) (i : Int) : (gObj l i).f.length ≤ 1000 := by
  cases hi : Ob.inB i ((l.length : Nat) : Int)
  · rw [(g_no hi).1]
    simp
  · obtain ⟨k, o, _, ho, e1, _⟩ := g_yes hi
    rw [e1]
    have := hp_head (h o (List.mem_of_getElem? ho))
    omega
set_option maxRecDepth 100000 in
set_option maxHeartbeats 32000000 in
theorem asStore12_walk (U : Option Addr) (cu : Nat) (up : List Nat) (A : Option Addr) (ca : Nat) (acts : List A12) (w : World) (hE : HandleAt w) (hU : BytesAt w w.heap.size U up) (hA : Acts12 w A acts) :
    Calls Tryd.prog 4 #[.slice U up.length cu, .slice A acts.length ca] w fun e w' => e = .returned (.bool true) ∧ Grew w w' := by
  have HE := hid hE
  have HU := hid hU
  have HA := hid hA
  obtain ⟨n, en⟩ : ∃ n, n = acts.length := ⟨_, rfl⟩
  rw [← en]
  have EN := hid en
  have HSu := hid (fun W (hW : Grew w W) => sure_c W (hE.grew hW))
  have HNum := hid (fun (k : Nat) W (hW : Grew w W) => num_c k W (hE.grew hW))
  clear hE hU hA en
  by_cases h20 : up.length ≤ 20
  · have g20 : ¬ (20 : Int) < (up.length : Int) := by omega
    go_enter Tryd.func4, Tryd.ntmps4
    go_upto_region 3 with fail
    go_upto_region 4 with (at_builtin; refine wpList_copy_bytes w rfl _ _ 22 5 rfl Tryd.underlying22 u8_info U cu up _ rfl (by rfl) (by rfl) HU.out (by omega) ?_; rintro U1 c1 w1 hU1 hg1; have HU1 := hid hU1; have HG1 := hid hg1; clear hU1 hg1)
    have BL := Blk.new w1 55 #[.slice U1 up.length c1]
    have GL := (Grew.refl w1).alloc (.cells #[.slice U1 up.length c1] 55)
    obtain ⟨gl, egl⟩ : ∃ gl, gl = w1.heap.size := ⟨_, rfl⟩
    rw [← egl] at BL ⊢
    generalize w1.alloc (.cells #[.slice U1 up.length c1] 55) = w2 at *
    have HBL := hid BL
    have HG2 := hid (HG1.out.trans GL)
    have HU2 := hid (HU1.out.grew GL)
    have q0 := BL.cell 0
    have ql := BL.lt
    simp only [List.getElem?_toArray, List.getElem?_cons_zero] at q0
    clear BL GL egl HU1 HG1
    have hnew := hNew_c U1 c1 up 1048576 none 0 [] w2 h20 HU2.out (fun h => absurd h (by simp)) (by simp)
    go_wp2_with fail
    refine hnew.mono ?_
    intro e w3 hp1
    have hg3 : Grew w2 w3 := newV_grew hp1
    have HP1 := hid hp1
    have HBL3 := hid (HBL.out.grew hg3)
    have HU3 := hid (HU2.out.grew hg3)
    have HG3 := hid (HG2.out.trans hg3)
    have p0 := HBL3.out.cell 0
    have pl := HBL3.out.lt
    simp only [List.getElem?_toArray, List.getElem?_cons_zero] at p0
    clear hp1 hg3 q0 ql HBL HU2
    have HNew0 := hid (new0_c U1 c1 up w3 h20 HU3.out)
    obtain ⟨vb, evb⟩ : ∃ vb, vb = La.valid up := ⟨_, rfl⟩
    have EVB := hid evb
    clear evb hnew
    cases vb
    · obtain ⟨rfl, -⟩ := newV_lat HP1.out EVB.out.symm
      go_wp2_with (go_at_call 18; refine HNew0.out.mono ?_; intro e w4 hp2; obtain ⟨rfl, hg4⟩ := new0_lat hp2 EVB.out.symm; have HG4 := hid (HG3.out.trans hg4); clear hp2 hg4 p0 pl HNew0)
      have HN7 : Hid (∀ W, Grew w W → Calls Tryd.prog 19 #[.iface 94 (.int .i64 7)] W fun e w' => e = .returned (.int .i64 7) ∧ Grew W w') := hid (fun W hW => HNum.out 7 W hW)
      refine (HN7.out w4 HG4.out).mono ?_
      rintro e w5 ⟨rfl, hg5⟩
      have HG5 := hid (HG4.out.trans hg5)
      clear hg5
      go_wp2_with fail
      refine (HN7.out w5 HG5.out).mono ?_
      rintro e w6 ⟨rfl, hg6⟩
      have HG6 := hid (HG5.out.trans hg6)
      clear hg6
      go_wp2_with (go_at_call 8; refine (HSu.out _ HG6.out).mono ?_; rintro e w7 ⟨rfl, hg7⟩; have HG7 := hid (HG6.out.trans hg7); clear hg7)
      go_ret
      exact ⟨rfl, HG7.out⟩
    · obtain ⟨v0, rfl, hh0⟩ := hat_new HP1.out (show newCode up 1048576 [] = 0 by unfold newCode; rw [← EVB.out]; rfl)
      have HH0 := hid hh0
      clear hh0
      go_wp2_with (go_at_call 18; refine HNew0.out.mono ?_; intro e w4 hp2; obtain ⟨s0, rfl, hb0⟩ := both_new2 HH0.out EVB.out.symm hp2; have HB4 := hid hb0; clear hp2 hb0 p0 pl HNew0 HH0 HP1)
      have HN0 : Hid (∀ W, Grew w W → Calls Tryd.prog 19 #[.nilIface] W fun e w' => e = .returned (.int .i64 0) ∧ Grew W w') := hid (fun W hW => HNum.out 0 W hW)
      refine (HN0.out w4 (HG2.out.trans HB4.out.h.gr)).mono ?_
      rintro e w5 ⟨rfl, hg5⟩
      have HG5 := hid hg5
      clear hg5
      go_wp2_with fail
      refine (HN0.out w5 ((HG2.out.trans HB4.out.h.gr).trans HG5.out)).mono ?_
      rintro e w6 ⟨rfl, hg6⟩
      have HB6 := hid (HB4.out.more (HG5.out.trans hg6))
      obtain ⟨sg, esg⟩ : ∃ sg, sg = v0.g := ⟨_, rfl⟩
      obtain ⟨ss, ess⟩ : ∃ ss, ss = s0.g := ⟨_, rfl⟩
      rw [← esg, ← ess]
      have ESG := hid esg
      have ESS := hid ess
      obtain ⟨B, eB⟩ : ∃ B, B = w2.heap.size := ⟨_, rfl⟩
      rw [← eB] at HB6
      have HB0 := hid (Nat.le_of_eq eB.symm)
      clear hg6 esg ess eB HB4 HG5 HN0
      go_upto_region 11 with fail
      go_loopw [10] (fun s10 wr => ∃ (i : Nat) (v1 : HV) (s1 : SV) (C1 : Nat) (l : List Ob.Obj), s10 = .int .i64 ((i : Nat) : Int) ∧ i ≤ n ∧ i ≤ 60 ∧ Hid (BothAt w2 wr B C1 v1 up s1 l l) ∧ Hid (C1 ≤ i) ∧ Hid (l.length ≤ i) ∧ Hid (v1.g = sg) ∧ Hid (s1.g = ss)) (fun s10 _ => 60 - (intOf s10).toNat)
      case atStart => exact ⟨0, v0, s0, 0, [], rfl, Nat.zero_le _, Nat.zero_le _, HB6, hid (Nat.le_refl _), hid (Nat.le_refl _), hid ESG.out.symm, hid ESS.out.symm⟩
      case round =>
        obtain ⟨i, v1, s1, C1, l, rfl, hi, hi60, HH, HC1, HLn, HV1, HS1⟩ := hrel
        by_cases hlt : i < n
        · by_cases h60 : i < 60
          · have f1 : (i : Int) < (n : Int) := by omega
            have f2 : (i : Int) < 60 := by omega
            have HGw := hid (HG2.out.trans HH.out.h.gr)
            obtain ⟨ad, x, rfl, hx, hcl, hb, hxok⟩ := act12_at HA.out HGw.out (i := i) (by rw [← EN.out]; exact hlt)
            have HX0 := hid hxok
            have q0 := hcl 0 _ rfl
            have q1 := hcl 1 _ rfl
            have q2 := hcl 2 _ rfl
            have q3 := hcl 3 _ rfl
            have q4 := hcl 4 _ rfl
            have q5 := hcl 5 _ rfl
            have q6 := hcl 6 _ rfl
            have q7 := hcl 7 _ rfl
            have q8 := hcl 8 _ rfl
            have q9 := hcl 9 _ rfl
            have q10 := hcl 10 _ rfl
            have q11 := hcl 11 _ rfl
            rw [add_zero] at q0
            rw [add_pos (by decide), block_add] at q1 q2 q3 q4 q5 q6 q7 q8 q9 q10 q11
            clear hx hcl hxok
            obtain ⟨kd, ⟨o, oA, oc⟩, xi, xk, xu, xv, rA, rc, rl'⟩ := x
            simp only at q0 q1 q2 q3 q4 q5 q6 q7 q8 q9 q10 q11 HX0
            have HBo := hid (fun W => bigObj_c o oA oc W)
            obtain ⟨cls, ecls⟩ : ∃ cls, cls = o.cls := ⟨_, rfl⟩
            obtain ⟨lev, elev⟩ : ∃ lev, lev = o.lev := ⟨_, rfl⟩
            obtain ⟨m, em⟩ : ∃ m, m = o.f.length := ⟨_, rfl⟩
            obtain ⟨b, eb⟩ : ∃ b, b = o.b := ⟨_, rfl⟩
            obtain ⟨rn, ern⟩ : ∃ rn, rn = rl'.length := ⟨_, rfl⟩
            rw [← ecls] at q1
            rw [← elev] at q2
            rw [← em] at q3
            rw [← eb] at q4
            rw [← ern] at q11
            rw [← ecls, ← elev, ← em, ← eb] at HBo
            have EO := hid (show o.cls = cls ∧ o.lev = lev ∧ o.f.length = m ∧ o.b = b from ⟨ecls.symm, elev.symm, em.symm, eb.symm⟩)
            obtain ⟨vk, vn, vl⟩ := xv
            simp only at q8 q9 q10
            clear ecls elev em eb ern
            obtain ⟨xc, exc⟩ : ∃ xc : Array Value, xc = #[.int .u8 ((kd : Nat) : Int), .int .i64 cls, .int .i64 lev, .slice oA m oc, .string b, .int .i64 xi, .int .i64 xk, .int .i64 xu, .int .u8 ((vk : Nat) : Int), .int .i64 vn, .int .i64 vl, .slice rA rn rc] := ⟨_, rfl⟩
            have B1 := Blk.new wr 67 #[.int .u8 ((kd : Nat) : Int), .int .i64 cls, .int .i64 lev, .slice oA m oc, .string b, .int .i64 xi, .int .i64 xk, .int .i64 xu, .int .u8 ((vk : Nat) : Int), .int .i64 vn, .int .i64 vl, .slice rA rn rc]
            have G1 := (Grew.refl wr).alloc (.cells #[.int .u8 ((kd : Nat) : Int), .int .i64 cls, .int .i64 lev, .slice oA m oc, .string b, .int .i64 xi, .int .i64 xk, .int .i64 xu, .int .u8 ((vk : Nat) : Int), .int .i64 vn, .int .i64 vl, .slice rA rn rc] 67)
            have XC := hid exc
            clear exc
            go_upto_region 14 with fail
            generalize wr.alloc (.cells #[.int .u8 ((kd : Nat) : Int), .int .i64 cls, .int .i64 lev, .slice oA m oc, .string b, .int .i64 xi, .int .i64 xk, .int .i64 xu, .int .u8 ((vk : Nat) : Int), .int .i64 vn, .int .i64 vl, .slice rA rn rc] 67) = w4' at *
            obtain ⟨gx, egx⟩ : ∃ gx, gx = wr.heap.size := ⟨_, rfl⟩
            rw [← egx] at B1 ⊢
            have HB4 := hid (show Blk w4' gx 67 xc by rw [XC.out]; exact B1)
            have HG4 := hid G1
            have p1 := B1.cell 1
            have p2 := B1.cell 2
            have p3 := B1.cell 3
            have p4 := B1.cell 4
            have pl := B1.lt
            simp only [List.getElem?_toArray, List.getElem?_cons_zero, List.getElem?_cons_succ] at p1 p2 p3 p4
            clear q0 q1 q2 q3 q4 q5 q6 q7 q8 q9 q10 q11 hb B1 G1 egx
            have HCell : Hid (∀ W, Blk W gx 67 xc → ∀ j u, (#[.int .u8 ((kd : Nat) : Int), .int .i64 cls, .int .i64 lev, .slice oA m oc, .string b, .int .i64 xi, .int .i64 xk, .int .i64 xu, .int .u8 ((vk : Nat) : Int), .int .i64 vn, .int .i64 vl, .slice rA rn rc] : Array Value)[j]? = some u → W.cell? ⟨gx, j, none⟩ = some u) := hid (fun W hW j u hu => by rw [XC.out] at hW; exact (hW.cell j).trans hu)
            obtain ⟨bo, ebo⟩ : ∃ bo, bo = bigO o := ⟨_, rfl⟩
            rw [← ebo] at HBo
            have EBO := hid ebo
            clear ebo
            cases bo
            · go_upto_region 15 with (go_at_call 20; refine (HBo.out _).mono ?_; rintro e w5 ⟨rfl, hg5⟩; have HB5 := hid (HB4.out.grew hg5); clear p1 p2 p3 p4 pl; have p0 := HCell.out w5 HB5.out 0 _ rfl; have pl := HB5.out.lt)
              have HH5 := hid (HH.out.more (HG4.out.trans hg5))
              have HGf := hid (HGw.out.trans (HG4.out.trans hg5))
              have HFit := hid (bigO_fit EBO.out.symm)
              clear hg5 HBo HB4 HG4 HH HGw
              by_cases k0 : kd = 0
              · subst k0
                go_upto_region 16 with fail
                clear p0 pl
                have HOv := hid (HX0.out.o.f.1)
                have HCl := hid (show N64 cls ∧ N64 lev from ⟨by rw [← EO.out.1]; exact HX0.out.o.cls, by rw [← EO.out.2.1]; exact HX0.out.o.lev⟩)
                obtain ⟨cs, ecs⟩ : ∃ cs, cs = o.f.flatMap valF := ⟨_, rfl⟩
                have ECS := hid ecs
                have HGr := HGf
                have HBw := hid (show w.heap.size ≤ B from Nat.le_trans HG2.out.below.size HB0.out)
                have HLow := hid (show ∀ k, HOwns v1 k → w.heap.size ≤ k from fun k hk => Nat.le_trans HBw.out (HH5.out.h.mem.owns hk).1)
                have hOl : ∀ k, HOwns v1 k → k < w5.heap.size := fun k hk => (HH5.out.h.mem.owns hk).2
                have HJ0 := hid (show GgJ w5 (fun W => MemAt W B v1) gx xc (fun _ => false) w5 from ⟨HB5.out, fun _ => ⟨HH5.out.h.mem, Grew.refl _⟩⟩)
                have hl60 : l.length < 60 := by have := HLn.out; omega
                have HL60 := hid hl60
                obtain ⟨mb, emb⟩ : ∃ mb, mb = Ob.mayB up.length o := ⟨_, rfl⟩
                obtain ⟨r, er1⟩ : ∃ r : Int, r = if mb then ((l.length : Nat) : Int) else 0 := ⟨_, rfl⟩
                obtain ⟨kc, ekc⟩ : ∃ kc : Nat, kc = if mb then 0 else 1 := ⟨_, rfl⟩
                obtain ⟨er, eer⟩ : ∃ er, er = errVal kc := ⟨_, rfl⟩
                have EMB := hid emb
                have ER1 := hid er1
                have EER := hid (show er = errVal (if mb then 0 else 1) by rw [eer, ekc])
                have HNk := hid (fun W (hW : Grew w W) => HNum.out kc W hW)
                rw [← eer] at HNk
                have HOa := hid (show OvOk w ⟨o, oA, oc⟩ from HX0.out.o)
                have HGive : Hid (∀ W, Grew w W → Calls Tryd.prog 22 #[.slice oA m oc] W fun e w' => ∃ A' c', e = .returned (.slice A' m c') ∧ Row w' W.heap.size 48 3 A' m c' cs ∧ Grew W w') := hid (fun W hW => by
                  have h1 := giveVals_c oA oc o.f W (HOa.out.f.grew hW) (by have := HFit.out.1; omega)
                  unfold GiveV at h1
                  rw [EO.out.2.2.1, ← ECS.out] at h1
                  exact h1)
                have HAdd : Hid (∀ A' c' W, MemAt W B v1 → Grew w5 W → Row W w5.heap.size 48 3 A' m c' cs → Calls Tryd.prog 21 #[.pointer (some ⟨sg, 0, none⟩), .int .i64 cls, .int .i64 lev, .slice A' m c', .string b] W fun e w' => e = .returned (.tuple #[.int .i64 r, er]) ∧ AddV w5 B v1 C1 o (.returned (.tuple #[.int .i64 r, er])) w' ∧ Kept (HOwns v1) W w') := hid (fun A' c' W hm hg hr => by
                  have h1 := hAdd_c v1 B C1 ⟨o, A', c'⟩ W hm HH5.out.h.ok (by have h5 := HC1.out; omega) ⟨row_vals (by rw [ECS.out, ← EO.out.2.2.1] at hr; exact hr) rfl HOv.out, HX0.out.o.cls, HX0.out.o.lev, by simp only [EO.out.2.2.1]; exact hr.cases.2.1⟩ (fun _ ad e hk => by
                    have h2 := Row.at_base hr ad.block ⟨ad, e, rfl⟩
                    have h3 := hOl _ hk
                    omega)
                  simp only at h1
                  rw [EO.out.1, EO.out.2.1, EO.out.2.2.1, EO.out.2.2.2, HV1.out] at h1
                  refine h1.mono ?_
                  intro e w' hp
                  obtain ⟨v', he, _⟩ := (HH5.out.more hg).addH hp HL60.out
                  have he2 : e = .returned (.tuple #[.int .i64 r, er]) := by rw [he, EER.out, ER1.out, EMB.out]
                  subst he2
                  exact ⟨rfl, hp.from ⟨HH5.out.h.mem, hg⟩, hp.kept⟩)
                have hPA : ∀ W W', AddV w5 B v1 C1 o (.returned (.tuple #[.int .i64 r, er])) W → Grew W W' → AddV w5 B v1 C1 o (.returned (.tuple #[.int .i64 r, er])) W' := fun _ _ h hg => h.grew hg
                have hMM : ∀ W W', MemAt W B v1 → Grew W W' → MemAt W' B v1 := fun _ _ h hg => h.grew hg
                have HNg := hid (HH5.out.h.mem.alien HB5.out (by decide) (by decide) (by decide) (by decide))
                clear ecs er1 ekc eer emb hl60
                refine wp_region_facts4 (w0 := w5) w5 20 20 [71, 72, 73, 74, 75, 76, 77, 78, 79, 80, 81, 82, 83, 84, 85, 70, 86, 87, 12, 13] [] (GgF w5 (fun W => AddV w5 B v1 C1 o (.returned (.tuple #[.int .i64 r, er])) W) sg gx cls lev oA m oc b cs r er) (Kept (HOwns v1)) (GRo 14 (HOwns v1)) (GgJ w5 (fun W => MemAt W B v1) gx xc) (May.kept _) GRo.zero GRo.refl (by kernel_rfl) (by kernel_rfl) (Kept.refl _ _).drew (HJ0.out.grew hMM (Grew.refl _).drew) (fun a b v w w' _ _ hab _ h hr => GgF.stable hOl hPA a b v w w' hab h hr) ?_ ?_
                · repeat' (first | exact trivial | apply And.intro)
                  all_goals
                    intro a w' fl hgk hJ hfi hdep hs hA
                    have t6 := hs.eval 6 (by decide) (v := .pointer (some ⟨sg, 0, none⟩)) rfl
                    have t11 := hs.eval 11 (by decide) (v := .pointer (some ⟨gx, 0, none⟩)) rfl
                    have HJ1 := hid hJ
                    have HFi := hid hfi
                    have HGK := hid hgk
                    clear hs hgk hJ hfi hdep
                    simp only [Ahead, Region.binds, slotOf, GgF, List.getD_cons_succ, List.getD_cons_zero, forall_const, and_true] at hA
                    simp only [wantedD, if_true]
                    unfold Oper.wp
                    have ec : ∀ v, a.eval (.const v) = v := fun _ => rfl
                    generalize hfe : a.eval = fe at *
                    have ef : ∀ k, fe (.func k) = Act.eval ⟨#[], []⟩ (.func k) := fun k => by rw [← hfe]; rfl
                    clear hfe
                  · go_simp
                    exact Gives3.of rfl (GRo.refl 0 _) rfl (HJ1.out.pure 0 (by decide))
                  · go_simp
                    exact Gives3.of rfl (GRo.refl 1 _) rfl (HJ1.out.pure 1 (by decide))
                  · go_simp
                    exact Gives3.of rfl (GRo.refl 2 _) rfl (HJ1.out.pure 2 (by decide))
                  · have x0 := HJ1.out.1.cell 1
                    rw [XC.out] at x0
                    have xl := HJ1.out.1.lt
                    simp only [List.getElem?_toArray, List.getElem?_cons_zero, List.getElem?_cons_succ] at x0
                    go_simp
                    exact Gives3.of rfl (GRo.refl 3 _) rfl (HJ1.out.pure 3 (by decide))
                  · go_simp
                    exact Gives3.of rfl (GRo.refl 4 _) rfl (HJ1.out.pure 4 (by decide))
                  · go_simp
                    exact Gives3.of rfl (GRo.refl 5 _) rfl (HJ1.out.pure 5 (by decide))
                  · have x0 := HJ1.out.1.cell 2
                    rw [XC.out] at x0
                    have xl := HJ1.out.1.lt
                    simp only [List.getElem?_toArray, List.getElem?_cons_zero, List.getElem?_cons_succ] at x0
                    go_simp
                    exact Gives3.of rfl (GRo.refl 6 _) rfl (HJ1.out.pure 6 (by decide))
                  · go_simp
                    exact Gives3.of rfl (GRo.refl 7 _) rfl (HJ1.out.pure 7 (by decide))
                  · go_simp
                    exact Gives3.of rfl (GRo.refl 8 _) rfl (HJ1.out.pure 8 (by decide))
                  · have x0 := HJ1.out.1.cell 3
                    rw [XC.out] at x0
                    have xl := HJ1.out.1.lt
                    simp only [List.getElem?_toArray, List.getElem?_cons_zero, List.getElem?_cons_succ] at x0
                    go_simp
                    exact Gives3.of rfl (GRo.refl 9 _) rfl (HJ1.out.pure 9 (by decide))
                  · go_simp
                    refine (HGive.out w' (HGK.out.grew HGr.out HLow.out)).mono ?_
                    rintro e wz ⟨A', c', rfl, hrz, hgz⟩
                    exact Gives3.of rfl (GRo.grew (j := 10) hgz) ⟨A', c', rfl, hrz.low HGK.out.size⟩ ((HJ1.out.grew hMM hgz).pure 10 (by decide))
                  · go_simp
                    exact Gives3.of rfl (GRo.refl 11 _) rfl (HJ1.out.pure 11 (by decide))
                  · go_simp
                    exact Gives3.of rfl (GRo.refl 12 _) rfl (HJ1.out.pure 12 (by decide))
                  · have x0 := HJ1.out.1.cell 4
                    rw [XC.out] at x0
                    have xl := HJ1.out.1.lt
                    simp only [List.getElem?_toArray, List.getElem?_cons_zero, List.getElem?_cons_succ] at x0
                    go_simp
                    exact Gives3.of rfl (GRo.refl 13 _) rfl (HJ1.out.pure 13 (by decide))
                  · obtain ⟨hv0, hv1, hv2, ⟨A', c', hv3, hrz⟩, hv4⟩ := hA
                    have HRz := hid hrz
                    clear hrz
                    go_simp
                    obtain ⟨hm1, hg1⟩ := HJ1.out.2 HFi.out
                    refine (HAdd.out A' c' w' hm1 hg1 HRz.out).mono ?_
                    rintro e wz ⟨rfl, hpa, hkp⟩
                    exact Gives3.of rfl (GRo.at hkp) ⟨rfl, hpa⟩ (HJ1.out.add hkp HNg.out)
                  · have hv := hA.1
                    go_simp
                    exact Gives3.of rfl (GRo.refl 15 _) rfl (HJ1.out.pure 15 (by decide))
                  · go_simp
                    exact Gives3.of rfl (GRo.refl 16 _) rfl (HJ1.out.pure 16 (by decide))
                  · go_simp
                    exact Gives3.of rfl (GRo.refl 17 _) rfl (HJ1.out.pure 17 (by decide))
                  · have hv := hA.1
                    go_simp
                    exact Gives3.of rfl (GRo.refl 18 _) rfl (HJ1.out.pure 18 (by decide))
                  · have hv := hA.1
                    go_simp
                    exact Gives3.of rfl (GRo.refl 19 _) rfl (HJ1.out.pure 19 (by decide))
                · intro a2 wn hgk hs hf hJ _
                  have h14 := hf 14 (by decide)
                  have h18 := hf 18 (by decide)
                  have h19 := hf 19 (by decide)
                  simp only [slotOf, GgF, List.getD_cons_succ, List.getD_cons_zero] at h14 h18 h19
                  obtain ⟨-, hadd⟩ := h14
                  obtain ⟨fn, rfl, hft⟩ := hs.put
                  rw [hft] at h18 h19
                  obtain ⟨w6, ew6⟩ : ∃ w6, w6 = wn := ⟨_, rfl⟩
                  subst ew6
                  obtain ⟨v2, -, hg2, hh2⟩ := HH5.out.addH hadd HL60.out
                  have HH6 := hid hh2
                  have HV2 := hid hg2
                  have HB6 := hid (HB5.out.kept hgk HNg.out)
                  clear hf hft hs hgk hJ hadd hh2 hg2
                  simp only [List.drop_succ_cons, List.drop_zero, putAll, List.foldl_cons, List.foldl_nil, Act.put, List.setIfInBounds_toArray, List.set_cons_succ, List.set_cons_zero, h18, h19]
                  clear h18 h19 hOl hPA hMM HAdd HJ0 HLow HGr HH5 HB5
                  go_upto_region 17 with fail
                  have HGr2 := hid (HG2.out.trans HH6.out.h.gr)
                  have HLow2 := hid (show ∀ k, Owns s1 k → w.heap.size ≤ k from fun k hk => Nat.le_trans HBw.out (HH6.out.st.owns hk).1)
                  have hOs : ∀ k, Owns s1 k → k < w6.heap.size := fun k hk => (HH6.out.st.owns hk).2
                  have HJ2 := hid (show GgJ w6 (fun W => StoreAt W B s1) gx xc (fun _ => false) w6 from ⟨HB6.out, fun _ => ⟨HH6.out.st, Grew.refl _⟩⟩)
                  have HAds : Hid (∀ A' c' W, StoreAt W B s1 → Grew w6 W → Row W w6.heap.size 48 3 A' m c' cs → Calls Tryd.prog 23 #[.pointer (some ⟨ss, 0, none⟩), .int .i64 cls, .int .i64 lev, .slice A' m c', .string b] W fun e w' => e = .returned (.tuple #[.int .i64 r, er]) ∧ AddSV w6 B s1 o w' ∧ Kept (Owns s1) W w') := hid (fun A' c' W hm hg hr => by
                    have h1 := addM_c s1 B ⟨o, A', c'⟩ W hm ⟨row_vals (by rw [ECS.out, ← EO.out.2.2.1] at hr; exact hr) rfl HOv.out, HX0.out.o.cls, HX0.out.o.lev, by simp only [EO.out.2.2.1]; exact hr.cases.2.1⟩ (fun _ ad e hk => by
                      have h2 := Row.at_base hr ad.block ⟨ad, e, rfl⟩
                      have h3 := hOs _ hk
                      omega) mb (by rw [HH6.out.su]; exact EMB.out.symm) (by rw [HH6.out.len]; have := HL60.out; omega)
                    simp only at h1
                    rw [EO.out.1, EO.out.2.1, EO.out.2.2.1, EO.out.2.2.2, HS1.out] at h1
                    refine h1.mono ?_
                    intro e w' hp
                    have hsv : e = .returned (.tuple #[.int .i64 r, er]) ∧ AddSV W B s1 o w' := by
                      unfold AddSV
                      rw [HH6.out.su, ← EMB.out]
                      rw [EER.out, ER1.out]
                      cases mb
                      · exact ⟨hp.1, hp.2⟩
                      · obtain ⟨he, hi⟩ := hp
                        rw [HH6.out.len] at he
                        exact ⟨he, hi⟩
                    exact ⟨hsv.1, hsv.2.from hg, hsv.2.kept⟩)
                  have hPs : ∀ W W', AddSV w6 B s1 o W → Grew W W' → AddSV w6 B s1 o W' := fun _ _ h hg => h.grew hg
                  have hMs : ∀ W W', StoreAt W B s1 → Grew W W' → StoreAt W' B s1 := fun _ _ h hg => h.grew hg
                  have HNs := hid (HH6.out.st.alien HB6.out (by decide) (by decide) (by decide))
                  refine wp_region_facts4 (w0 := w6) w6 20 20 [89, 90, 91, 92, 93, 94, 95, 96, 97, 98, 99, 100, 101, 102, 103, 88, 104, 105, 14, 15] [] (GgF w6 (fun W => AddSV w6 B s1 o W) ss gx cls lev oA m oc b cs r er) (Kept (Owns s1)) (GRo 14 (Owns s1)) (GgJ w6 (fun W => StoreAt W B s1) gx xc) (May.kept _) GRo.zero GRo.refl (by kernel_rfl) (by kernel_rfl) (Kept.refl _ _).drew (HJ2.out.grew hMs (Grew.refl _).drew) (fun a b v w w' _ _ hab _ h hr => GgF.stable hOs hPs a b v w w' hab h hr) ?_ ?_
                  · repeat' (first | exact trivial | apply And.intro)
                    all_goals
                      intro a w' fl hgk hJ hfi hdep hs hA
                      have t8 := hs.eval 8 (by decide) (v := .pointer (some ⟨ss, 0, none⟩)) rfl
                      have t11 := hs.eval 11 (by decide) (v := .pointer (some ⟨gx, 0, none⟩)) rfl
                      have HJ1 := hid hJ
                      have HFi := hid hfi
                      have HGK := hid hgk
                      clear hs hgk hJ hfi hdep
                      simp only [Ahead, Region.binds, slotOf, GgF, List.getD_cons_succ, List.getD_cons_zero, forall_const, and_true] at hA
                      simp only [wantedD, if_true]
                      unfold Oper.wp
                      have ec : ∀ v, a.eval (.const v) = v := fun _ => rfl
                      generalize hfe : a.eval = fe at *
                      have ef : ∀ k, fe (.func k) = Act.eval ⟨#[], []⟩ (.func k) := fun k => by rw [← hfe]; rfl
                      clear hfe
                    · go_simp
                      exact Gives3.of rfl (GRo.refl 0 _) rfl (HJ1.out.pure 0 (by decide))
                    · go_simp
                      exact Gives3.of rfl (GRo.refl 1 _) rfl (HJ1.out.pure 1 (by decide))
                    · go_simp
                      exact Gives3.of rfl (GRo.refl 2 _) rfl (HJ1.out.pure 2 (by decide))
                    · have x0 := HJ1.out.1.cell 1
                      rw [XC.out] at x0
                      have xl := HJ1.out.1.lt
                      simp only [List.getElem?_toArray, List.getElem?_cons_zero, List.getElem?_cons_succ] at x0
                      go_simp
                      exact Gives3.of rfl (GRo.refl 3 _) rfl (HJ1.out.pure 3 (by decide))
                    · go_simp
                      exact Gives3.of rfl (GRo.refl 4 _) rfl (HJ1.out.pure 4 (by decide))
                    · go_simp
                      exact Gives3.of rfl (GRo.refl 5 _) rfl (HJ1.out.pure 5 (by decide))
                    · have x0 := HJ1.out.1.cell 2
                      rw [XC.out] at x0
                      have xl := HJ1.out.1.lt
                      simp only [List.getElem?_toArray, List.getElem?_cons_zero, List.getElem?_cons_succ] at x0
                      go_simp
                      exact Gives3.of rfl (GRo.refl 6 _) rfl (HJ1.out.pure 6 (by decide))
                    · go_simp
                      exact Gives3.of rfl (GRo.refl 7 _) rfl (HJ1.out.pure 7 (by decide))
                    · go_simp
                      exact Gives3.of rfl (GRo.refl 8 _) rfl (HJ1.out.pure 8 (by decide))
                    · have x0 := HJ1.out.1.cell 3
                      rw [XC.out] at x0
                      have xl := HJ1.out.1.lt
                      simp only [List.getElem?_toArray, List.getElem?_cons_zero, List.getElem?_cons_succ] at x0
                      go_simp
                      exact Gives3.of rfl (GRo.refl 9 _) rfl (HJ1.out.pure 9 (by decide))
                    · go_simp
                      refine (HGive.out w' (HGK.out.grew HGr2.out HLow2.out)).mono ?_
                      rintro e wz ⟨A', c', rfl, hrz, hgz⟩
                      exact Gives3.of rfl (GRo.grew (j := 10) hgz) ⟨A', c', rfl, hrz.low HGK.out.size⟩ ((HJ1.out.grew hMs hgz).pure 10 (by decide))
                    · go_simp
                      exact Gives3.of rfl (GRo.refl 11 _) rfl (HJ1.out.pure 11 (by decide))
                    · go_simp
                      exact Gives3.of rfl (GRo.refl 12 _) rfl (HJ1.out.pure 12 (by decide))
                    · have x0 := HJ1.out.1.cell 4
                      rw [XC.out] at x0
                      have xl := HJ1.out.1.lt
                      simp only [List.getElem?_toArray, List.getElem?_cons_zero, List.getElem?_cons_succ] at x0
                      go_simp
                      exact Gives3.of rfl (GRo.refl 13 _) rfl (HJ1.out.pure 13 (by decide))
                    · obtain ⟨hv0, hv1, hv2, ⟨A', c', hv3, hrz⟩, hv4⟩ := hA
                      have HRz := hid hrz
                      clear hrz
                      go_simp
                      obtain ⟨hm1, hg1⟩ := HJ1.out.2 HFi.out
                      refine (HAds.out A' c' w' hm1 hg1 HRz.out).mono ?_
                      rintro e wz ⟨rfl, hpa, hkp⟩
                      exact Gives3.of rfl (GRo.at hkp) ⟨rfl, hpa⟩ (HJ1.out.add hkp HNs.out)
                    · have hv := hA.1
                      go_simp
                      exact Gives3.of rfl (GRo.refl 15 _) rfl (HJ1.out.pure 15 (by decide))
                    · go_simp
                      exact Gives3.of rfl (GRo.refl 16 _) rfl (HJ1.out.pure 16 (by decide))
                    · go_simp
                      exact Gives3.of rfl (GRo.refl 17 _) rfl (HJ1.out.pure 17 (by decide))
                    · have hv := hA.1
                      go_simp
                      exact Gives3.of rfl (GRo.refl 18 _) rfl (HJ1.out.pure 18 (by decide))
                    · have hv := hA.1
                      go_simp
                      exact Gives3.of rfl (GRo.refl 19 _) rfl (HJ1.out.pure 19 (by decide))
                  · intro a2 wn hgk hs hf hJ _
                    have h14 := hf 14 (by decide)
                    have h18 := hf 18 (by decide)
                    have h19 := hf 19 (by decide)
                    simp only [slotOf, GgF, List.getD_cons_succ, List.getD_cons_zero] at h14 h18 h19
                    obtain ⟨-, hadd⟩ := h14
                    obtain ⟨fn2, rfl, hft⟩ := hs.put
                    rw [hft] at h18 h19
                    obtain ⟨s2, hg2, hh2⟩ := HH6.out.addS hadd
                    have HH7 := hid hh2
                    have HS2 := hid hg2
                    have HB7' := hid (HB6.out.kept hgk HNs.out)
                    clear hf hft hs hgk hJ hadd hh2 hg2
                    simp only [List.drop_succ_cons, List.drop_zero, putAll, List.foldl_cons, List.foldl_nil, Act.put, List.setIfInBounds_toArray, List.set_cons_succ, List.set_cons_zero, h18, h19]
                    clear h18 h19 hOs hPs hMs HAds HJ2 HLow2 HGr2 HH6 HB6 HGive
                    go_wp2_with fail
                    refine (HNk.out wn (HG2.out.trans HH7.out.h.gr)).mono ?_
                    rintro e w7a ⟨rfl, hg7⟩
                    have HG7 := hid hg7
                    clear hg7
                    go_wp2_with fail
                    refine (HNk.out w7a ((HG2.out.trans HH7.out.h.gr).trans HG7.out)).mono ?_
                    rintro e w7 ⟨rfl, hg7⟩
                    have HB7 := hid (HH7.out.more (HG7.out.trans hg7))
                    have HX7 := hid (HB7'.out.grew (HG7.out.trans hg7))
                    obtain ⟨l2, el2⟩ : ∃ l2, l2 = addO up.length l o := ⟨_, rfl⟩
                    rw [← el2] at HB7
                    have HLn7 := hid (show l2.length ≤ i + 1 by rw [el2]; have := HLn.out; unfold addO; split <;> simp <;> omega)
                    obtain ⟨C2, eC2⟩ : ∃ C2, C2 = C1 + 1 := ⟨_, rfl⟩
                    rw [← eC2] at HB7
                    have HC7 := hid (show C2 ≤ i + 1 by rw [eC2]; exact Nat.succ_le_succ HC1.out)
                    have HV7 := hid (show v2.g = sg by rw [HV2.out, HV1.out])
                    have HS7 := hid (show s2.g = ss by rw [HS2.out, HS1.out])
                    clear hg7 HG7 HH7 HB7' el2 eC2 HNk
                    go_upto_region 22 with fail
                    have HL7 := hid HB7.out.may
                    have HGe := hid (fun W (hW : Grew w7 W) => (HB7.out.more hW).getH HL7.out xi)
                    have HGs := hid (fun W (hW : Grew w7 W) => (HB7.out.more hW).getS xi)
                    have HHe := hid (fun W (hW : Grew w7 W) => (HB7.out.more hW).hashH xi)
                    have HHs := hid (fun W (hW : Grew w7 W) => (HB7.out.more hW).hashS xi)
                    have HLe := hid (fun W (hW : Grew w7 W) => (HB7.out.more hW).lenH)
                    have HLs := hid (fun W (hW : Grew w7 W) => (HB7.out.more hW).lenS)
                    unfold GetB at HGe HGs
                    have HSm := hid (fun A1 c1 A2 c2 W h1 h2 => same_c (gObj l2 xi) A1 c1 A2 c2 W h1 h2 (g_small HL7.out xi))
                    obtain ⟨ec, eec⟩ : ∃ ec, ec = gCode l2 xi := ⟨_, rfl⟩
                    rw [← eec] at HGe HGs HHe HHs
                    have HNm := hid (fun W (hW : Grew w7 W) => HNum.out ec W ((HG2.out.trans HB7.out.h.gr).trans hW))
                    obtain ⟨ev, eev⟩ : ∃ ev, ev = errVal ec := ⟨_, rfl⟩
                    rw [← eev] at HGe HGs HHe HHs HNm
                    rw [HV7.out] at HGe HHe HLe
                    rw [HS7.out] at HGs HHs HLs
                    obtain ⟨gm, egm⟩ : ∃ gm, gm = (gObj l2 xi).f.length := ⟨_, rfl⟩
                    rw [← egm] at HGe HGs HSm
                    obtain ⟨g1, eg1⟩ : ∃ g1, g1 = (gObj l2 xi).cls := ⟨_, rfl⟩
                    obtain ⟨g2, eg2⟩ : ∃ g2, g2 = (gObj l2 xi).lev := ⟨_, rfl⟩
                    obtain ⟨g4, eg4⟩ : ∃ g4, g4 = (gObj l2 xi).b := ⟨_, rfl⟩
                    rw [← eg1, ← eg2, ← eg4] at HGe HGs HSm
                    clear eec eev egm eg1 eg2 eg4
                    have r5 := HCell.out w7 HX7.out 5 _ rfl
                    have rl := HX7.out.lt
                    go_wp2_with fail
                    refine (HGe.out w7 (Grew.refl w7)).mono ?_
                    rintro e w8 ⟨⟨A8, c8, rfl, hv8⟩, hg8⟩
                    have HV8 := hid hv8
                    have HG8 := hid hg8
                    clear hv8 hg8 r5 rl
                    go_upto_region 23 with fail
                    have B8 := Blk.new w8 42 #[.int .i64 g1, .int .i64 g2, .slice A8 gm c8, .string g4]
                    have G8 := (Grew.refl w8).alloc (.cells #[.int .i64 g1, .int .i64 g2, .slice A8 gm c8, .string g4] 42)
                    obtain ⟨b8, eb8⟩ : ∃ b8, b8 = w8.heap.size := ⟨_, rfl⟩
                    rw [← eb8] at B8 ⊢
                    generalize w8.alloc (.cells #[.int .i64 g1, .int .i64 g2, .slice A8 gm c8, .string g4] 42) = w9 at *
                    have HB8 := hid B8
                    have HG9 := hid (HG8.out.trans G8)
                    have HV9 := hid (HV8.out.grew G8)
                    clear B8 G8 eb8 HV8 HG8
                    have r5 := HCell.out w9 (HX7.out.grew HG9.out) 5 _ rfl
                    have rl := (HX7.out.grew HG9.out).lt
                    go_wp2_with fail
                    refine (HGs.out w9 HG9.out).mono ?_
                    rintro e w10 ⟨⟨A10, c10, rfl, hv10⟩, hg10⟩
                    have HV10 := hid hv10
                    have HG10 := hid hg10
                    clear hv10 hg10 r5 rl
                    go_upto_region 24 with fail
                    have B10 := Blk.new w10 42 #[.int .i64 g1, .int .i64 g2, .slice A10 gm c10, .string g4]
                    have G10 := (Grew.refl w10).alloc (.cells #[.int .i64 g1, .int .i64 g2, .slice A10 gm c10, .string g4] 42)
                    obtain ⟨b10, eb10⟩ : ∃ b10, b10 = w10.heap.size := ⟨_, rfl⟩
                    rw [← eb10] at B10 ⊢
                    generalize w10.alloc (.cells #[.int .i64 g1, .int .i64 g2, .slice A10 gm c10, .string g4] 42) = w11 at *
                    have HB10 := hid B10
                    have HG11 := hid (HG9.out.trans (HG10.out.trans G10))
                    have HV11 := hid (HV10.out.grew G10)
                    have HV12 := hid (HV9.out.grew (HG10.out.trans G10))
                    have HB9 := hid (HB8.out.grew (HG10.out.trans G10))
                    clear B10 G10 eb10 HV10 HV9 HG10 HB8 HG9
                    have r5 := HCell.out w11 (HX7.out.grew HG11.out) 5 _ rfl
                    have rl := (HX7.out.grew HG11.out).lt
                    go_wp2_with fail
                    refine (HHe.out w11 HG11.out).mono ?_
                    rintro e w12 ⟨rfl, hg12⟩
                    have HG12 := hid hg12
                    clear hg12 r5 rl
                    have r5 := HCell.out w12 (HX7.out.grew (HG11.out.trans HG12.out)) 5 _ rfl
                    have rl := (HX7.out.grew (HG11.out.trans HG12.out)).lt
                    go_wp2_with fail
                    refine (HHs.out w12 (HG11.out.trans HG12.out)).mono ?_
                    rintro e w13 ⟨rfl, hg13⟩
                    have HG13 := hid (HG12.out.trans hg13)
                    clear hg13 r5 rl HG12
                    go_wp2_with fail
                    refine (HNm.out w13 (HG11.out.trans HG13.out)).mono ?_
                    rintro e w14 ⟨rfl, hg14⟩
                    have HG14 := hid (HG13.out.trans hg14)
                    clear hg14 HG13
                    go_wp2_with fail
                    refine (HNm.out w14 (HG11.out.trans HG14.out)).mono ?_
                    rintro e w15 ⟨rfl, hg15⟩
                    have HG15 := hid (HG14.out.trans hg15)
                    clear hg15 HG14
                    go_wp2_with fail
                    refine (HNm.out w15 (HG11.out.trans HG15.out)).mono ?_
                    rintro e w16 ⟨rfl, hg16⟩
                    have HG16 := hid (HG15.out.trans hg16)
                    clear hg16 HG15
                    go_wp2_with fail
                    refine (HNm.out w16 (HG11.out.trans HG16.out)).mono ?_
                    rintro e w17 ⟨rfl, hg17⟩
                    have HG17 := hid (HG16.out.trans hg17)
                    clear hg17 HG16
                    have s0 := (HB9.out.grew HG17.out).cell 0
                    have s1 := (HB9.out.grew HG17.out).cell 1
                    have s2 := (HB9.out.grew HG17.out).cell 2
                    have s3 := (HB9.out.grew HG17.out).cell 3
                    have sl := (HB9.out.grew HG17.out).lt
                    have u0 := (HB10.out.grew HG17.out).cell 0
                    have u1 := (HB10.out.grew HG17.out).cell 1
                    have u2 := (HB10.out.grew HG17.out).cell 2
                    have u3 := (HB10.out.grew HG17.out).cell 3
                    have ul := (HB10.out.grew HG17.out).lt
                    simp only [List.getElem?_toArray, List.getElem?_cons_zero, List.getElem?_cons_succ] at s0 s1 s2 s3 u0 u1 u2 u3
                    go_wp2_with fail
                    refine (HSm.out A8 c8 A10 c10 w17 (HV12.out.grew HG17.out) (HV11.out.grew HG17.out)).mono ?_
                    rintro e w18 ⟨rfl, hg18⟩
                    have HG18 := hid (HG11.out.trans (HG17.out.trans hg18))
                    clear hg18 s0 s1 s2 s3 sl u0 u1 u2 u3 ul
                    go_wp2_with fail
                    refine (HLe.out w18 HG18.out).mono ?_
                    rintro e w19 ⟨rfl, hg19⟩
                    have HG19 := hid (HG18.out.trans hg19)
                    clear hg19 HG18
                    go_wp2_with fail
                    refine (HLs.out w19 HG19.out).mono ?_
                    rintro e w20 ⟨rfl, hg20⟩
                    have HG20 := hid (HG19.out.trans hg20)
                    clear hg20 HG19
                    go_wp2_with fail
                    go_round
                    case rel => exact ⟨i + 1, v2, s2, C2, l2, by go_num, by omega, by omega, HB7.out.more HG20.out |> hid, HC7, HLn7, HV7, HS7⟩
                    case measure => simp [intOf]; omega
              · have k0' : (((kd : Nat) : Int) == 0) = false := by rw [beq_eq_false_iff_ne]; omega
                go_upto_region 20 with fail
                clear p0 pl
                have HBw := hid (show w.heap.size ≤ B from Nat.le_trans HG2.out.below.size HB0.out)
                have HGw := HGf
                obtain ⟨pc, epc⟩ : ∃ pc, pc = Ob.putCode up l xi xk xu ⟨vk, vn, vl⟩ := ⟨_, rfl⟩
                have PC := hid epc
                have HJ0 := hid (show PpJ w2 B C1 up l xi xk xu ⟨vk, vn, vl⟩ sg ss gx xc (fun _ => false) w5 from ⟨HB5.out, v1, s1, HV1.out, HS1.out, HH5.out⟩)
                clear epc
                refine wp_region_facts4 (w0 := w5) w5 23 23 [116, 117, 118, 119, 120, 121, 122, 123, 124, 125, 126, 127, 128, 129, 130, 131, 132, 133, 134, 135, 136, 137, 138] [] (PpF sg ss gx xi xk xu ⟨vk, vn, vl⟩ pc) (Kept (fun k => B ≤ k)) (fun _ => Kept (fun k => B ≤ k)) (PpJ w2 B C1 up l xi xk xu ⟨vk, vn, vl⟩ sg ss gx xc) (May.kept _) (fun _ _ _ h => h) (fun _ w => Kept.refl _ w) (by kernel_rfl) (by kernel_rfl) (Kept.refl _ _).drew (HJ0.out.grew (Grew.refl _).drew) (fun a b v w w' _ _ hab _ h hr => h) ?_ ?_
                · repeat' (first | exact trivial | apply And.intro)
                  all_goals
                    intro a w' fl hgk hJ hfi hdep hs hA
                    have t6 := hs.eval 6 (by decide) (v := .pointer (some ⟨sg, 0, none⟩)) rfl
                    have t8 := hs.eval 8 (by decide) (v := .pointer (some ⟨ss, 0, none⟩)) rfl
                    have t11 := hs.eval 11 (by decide) (v := .pointer (some ⟨gx, 0, none⟩)) rfl
                    have HJ1 := hid hJ
                    have HFi := hid hfi
                    have HGK := hid hgk
                    clear hs hgk hJ hfi hdep
                    simp only [Ahead, Region.binds, slotOf, PpF, List.getD_cons_succ, List.getD_cons_zero, forall_const, and_true] at hA
                    simp only [wantedD, if_true]
                    unfold Oper.wp
                    have ec : ∀ v, a.eval (.const v) = v := fun _ => rfl
                    generalize hfe : a.eval = fe at *
                    have ef : ∀ k, fe (.func k) = Act.eval ⟨#[], []⟩ (.func k) := fun k => by rw [← hfe]; rfl
                    clear hfe
                  · go_simp
                    exact Gives3.of rfl (Kept.refl _ _) rfl (HJ1.out.pure 0 (by decide) (by decide))
                  · go_simp
                    exact Gives3.of rfl (Kept.refl _ _) rfl (HJ1.out.pure 1 (by decide) (by decide))
                  · have x5 := HJ1.out.1.cell 5
                    rw [XC.out] at x5
                    have xl := HJ1.out.1.lt
                    simp only [List.getElem?_toArray, List.getElem?_cons_zero, List.getElem?_cons_succ] at x5
                    go_simp
                    exact Gives3.of rfl (Kept.refl _ _) rfl (HJ1.out.pure 2 (by decide) (by decide))
                  · go_simp
                    exact Gives3.of rfl (Kept.refl _ _) rfl (HJ1.out.pure 3 (by decide) (by decide))
                  · have x6 := HJ1.out.1.cell 6
                    rw [XC.out] at x6
                    have xl := HJ1.out.1.lt
                    simp only [List.getElem?_toArray, List.getElem?_cons_zero, List.getElem?_cons_succ] at x6
                    go_simp
                    exact Gives3.of rfl (Kept.refl _ _) rfl (HJ1.out.pure 4 (by decide) (by decide))
                  · go_simp
                    exact Gives3.of rfl (Kept.refl _ _) rfl (HJ1.out.pure 5 (by decide) (by decide))
                  · have x7 := HJ1.out.1.cell 7
                    rw [XC.out] at x7
                    have xl := HJ1.out.1.lt
                    simp only [List.getElem?_toArray, List.getElem?_cons_zero, List.getElem?_cons_succ] at x7
                    go_simp
                    exact Gives3.of rfl (Kept.refl _ _) rfl (HJ1.out.pure 6 (by decide) (by decide))
                  · go_simp
                    exact Gives3.of rfl (Kept.refl _ _) rfl (HJ1.out.pure 7 (by decide) (by decide))
                  · have x8 := HJ1.out.1.cell 8
                    rw [XC.out] at x8
                    have x9 := HJ1.out.1.cell 9
                    rw [XC.out] at x9
                    have x10 := HJ1.out.1.cell 10
                    rw [XC.out] at x10
                    have xl := HJ1.out.1.lt
                    simp only [List.getElem?_toArray, List.getElem?_cons_zero, List.getElem?_cons_succ] at x8 x9 x10
                    go_simp
                    exact Gives3.of rfl (Kept.refl _ _) rfl (HJ1.out.pure 8 (by decide) (by decide))
                  · obtain ⟨hv0, hv2, hv4, hv6, hv8⟩ := hA
                    go_simp
                    obtain ⟨hbx, v2, s2, e1, e2, hbo⟩ := HJ1.out
                    have hp := hPut_c v2 B C1 xi xk xu ⟨vk, vn, vl⟩ w' hbo.h.mem hbo.h.ok
                    rw [e1] at hp
                    refine hp.mono ?_
                    intro e wz hpz
                    obtain ⟨rfl, hj, hkk⟩ := PpJ.put9 hbx e1 e2 hbo HFi.out hpz
                    rw [← PC.out]
                    exact Gives3.of rfl hkk rfl hj
                  · go_simp
                    refine (HNum.out pc w' (HGK.out.grew HGw.out (fun _ h => Nat.le_trans HBw.out h))).mono ?_
                    rintro e wz ⟨rfl, hgz⟩
                    exact Gives3.of rfl (Kept.of_grew hgz) rfl ((HJ1.out.grew hgz).pure 10 (by decide) (by decide))
                  · go_simp
                    exact Gives3.of rfl (Kept.refl _ _) rfl (HJ1.out.pure 11 (by decide) (by decide))
                  · go_simp
                    exact Gives3.of rfl (Kept.refl _ _) rfl (HJ1.out.pure 12 (by decide) (by decide))
                  · have x5 := HJ1.out.1.cell 5
                    rw [XC.out] at x5
                    have xl := HJ1.out.1.lt
                    simp only [List.getElem?_toArray, List.getElem?_cons_zero, List.getElem?_cons_succ] at x5
                    go_simp
                    exact Gives3.of rfl (Kept.refl _ _) rfl (HJ1.out.pure 13 (by decide) (by decide))
                  · go_simp
                    exact Gives3.of rfl (Kept.refl _ _) rfl (HJ1.out.pure 14 (by decide) (by decide))
                  · have x6 := HJ1.out.1.cell 6
                    rw [XC.out] at x6
                    have xl := HJ1.out.1.lt
                    simp only [List.getElem?_toArray, List.getElem?_cons_zero, List.getElem?_cons_succ] at x6
                    go_simp
                    exact Gives3.of rfl (Kept.refl _ _) rfl (HJ1.out.pure 15 (by decide) (by decide))
                  · go_simp
                    exact Gives3.of rfl (Kept.refl _ _) rfl (HJ1.out.pure 16 (by decide) (by decide))
                  · have x7 := HJ1.out.1.cell 7
                    rw [XC.out] at x7
                    have xl := HJ1.out.1.lt
                    simp only [List.getElem?_toArray, List.getElem?_cons_zero, List.getElem?_cons_succ] at x7
                    go_simp
                    exact Gives3.of rfl (Kept.refl _ _) rfl (HJ1.out.pure 17 (by decide) (by decide))
                  · go_simp
                    exact Gives3.of rfl (Kept.refl _ _) rfl (HJ1.out.pure 18 (by decide) (by decide))
                  · have x8 := HJ1.out.1.cell 8
                    rw [XC.out] at x8
                    have x9 := HJ1.out.1.cell 9
                    rw [XC.out] at x9
                    have x10 := HJ1.out.1.cell 10
                    rw [XC.out] at x10
                    have xl := HJ1.out.1.lt
                    simp only [List.getElem?_toArray, List.getElem?_cons_zero, List.getElem?_cons_succ] at x8 x9 x10
                    go_simp
                    exact Gives3.of rfl (Kept.refl _ _) rfl (HJ1.out.pure 19 (by decide) (by decide))
                  · obtain ⟨hv0, hv2, hv4, hv6, hv8⟩ := hA
                    go_simp
                    obtain ⟨hbx, v2, s2, e1, e2, hbo⟩ := HJ1.out
                    have hp := put_c s2 B xi xk xu ⟨vk, vn, vl⟩ w' hbo.st
                    rw [e2] at hp
                    refine hp.mono ?_
                    intro e wz hpz
                    obtain ⟨rfl, hj, hkk⟩ := PpJ.put20 hbx e1 e2 hbo HFi.out hpz
                    rw [← PC.out]
                    exact Gives3.of rfl hkk rfl hj
                  · go_simp
                    refine (HNum.out pc w' (HGK.out.grew HGw.out (fun _ h => Nat.le_trans HBw.out h))).mono ?_
                    rintro e wz ⟨rfl, hgz⟩
                    exact Gives3.of rfl (Kept.of_grew hgz) rfl ((HJ1.out.grew hgz).pure 21 (by decide) (by decide))
                  · go_simp
                    exact Gives3.of rfl (Kept.refl _ _) rfl (HJ1.out.pure 22 (by decide) (by decide))
                · intro a2 wn hgk hs hf hJ _
                  have h22 := hf 22 (by decide)
                  simp only [slotOf, PpF, List.getD_cons_succ, List.getD_cons_zero] at h22
                  obtain ⟨fn, rfl, hft⟩ := hs.put
                  rw [hft] at h22
                  obtain ⟨hb7, v2, s2, e1, e2, hh2⟩ := hJ
                  obtain ⟨w7, ew7⟩ : ∃ w7, w7 = wn := ⟨_, rfl⟩
                  subst ew7
                  have HX7 := hid hb7
                  obtain ⟨l2, el2⟩ : ∃ l2, l2 = Ob.put up l xi xk xu ⟨vk, vn, vl⟩ := ⟨_, rfl⟩
                  obtain ⟨C2, eC2⟩ : ∃ C2, C2 = C1 := ⟨_, rfl⟩
                  have HB7 := hid (show BothAt w2 w7 B C2 v2 up s2 l2 l2 by rw [el2, eC2]; exact hh2)
                  have HLn7 := hid (show l2.length ≤ i + 1 by rw [el2, Ob.put_len]; have := HLn.out; omega)
                  have HC7 := hid (show C2 ≤ i + 1 by rw [eC2]; exact Nat.le_succ_of_le HC1.out)
                  have HV7 := hid e1
                  have HS7 := hid e2
                  clear hf hft hs hgk hb7 e1 e2 hh2 el2 eC2 HJ0
                  simp only [List.drop_succ_cons, List.drop_zero, putAll, List.foldl_cons, List.foldl_nil, Act.put, List.setIfInBounds_toArray, List.set_cons_succ, List.set_cons_zero, h22]
                  clear h22 HH5 HB5
                  go_upto_region 22 with fail
                  have HL7 := hid HB7.out.may
                  have HGe := hid (fun W (hW : Grew w7 W) => (HB7.out.more hW).getH HL7.out xi)
                  have HGs := hid (fun W (hW : Grew w7 W) => (HB7.out.more hW).getS xi)
                  have HHe := hid (fun W (hW : Grew w7 W) => (HB7.out.more hW).hashH xi)
                  have HHs := hid (fun W (hW : Grew w7 W) => (HB7.out.more hW).hashS xi)
                  have HLe := hid (fun W (hW : Grew w7 W) => (HB7.out.more hW).lenH)
                  have HLs := hid (fun W (hW : Grew w7 W) => (HB7.out.more hW).lenS)
                  unfold GetB at HGe HGs
                  have HSm := hid (fun A1 c1 A2 c2 W h1 h2 => same_c (gObj l2 xi) A1 c1 A2 c2 W h1 h2 (g_small HL7.out xi))
                  obtain ⟨ec, eec⟩ : ∃ ec, ec = gCode l2 xi := ⟨_, rfl⟩
                  rw [← eec] at HGe HGs HHe HHs
                  have HNm := hid (fun W (hW : Grew w7 W) => HNum.out ec W ((HG2.out.trans HB7.out.h.gr).trans hW))
                  obtain ⟨ev, eev⟩ : ∃ ev, ev = errVal ec := ⟨_, rfl⟩
                  rw [← eev] at HGe HGs HHe HHs HNm
                  rw [HV7.out] at HGe HHe HLe
                  rw [HS7.out] at HGs HHs HLs
                  obtain ⟨gm, egm⟩ : ∃ gm, gm = (gObj l2 xi).f.length := ⟨_, rfl⟩
                  rw [← egm] at HGe HGs HSm
                  obtain ⟨g1, eg1⟩ : ∃ g1, g1 = (gObj l2 xi).cls := ⟨_, rfl⟩
                  obtain ⟨g2, eg2⟩ : ∃ g2, g2 = (gObj l2 xi).lev := ⟨_, rfl⟩
                  obtain ⟨g4, eg4⟩ : ∃ g4, g4 = (gObj l2 xi).b := ⟨_, rfl⟩
                  rw [← eg1, ← eg2, ← eg4] at HGe HGs HSm
                  clear eec eev egm eg1 eg2 eg4
                  have r5 := HCell.out w7 HX7.out 5 _ rfl
                  have rl := HX7.out.lt
                  go_wp2_with fail
                  refine (HGe.out w7 (Grew.refl w7)).mono ?_
                  rintro e w8 ⟨⟨A8, c8, rfl, hv8⟩, hg8⟩
                  have HV8 := hid hv8
                  have HG8 := hid hg8
                  clear hv8 hg8 r5 rl
                  go_upto_region 23 with fail
                  have B8 := Blk.new w8 42 #[.int .i64 g1, .int .i64 g2, .slice A8 gm c8, .string g4]
                  have G8 := (Grew.refl w8).alloc (.cells #[.int .i64 g1, .int .i64 g2, .slice A8 gm c8, .string g4] 42)
                  obtain ⟨b8, eb8⟩ : ∃ b8, b8 = w8.heap.size := ⟨_, rfl⟩
                  rw [← eb8] at B8 ⊢
                  generalize w8.alloc (.cells #[.int .i64 g1, .int .i64 g2, .slice A8 gm c8, .string g4] 42) = w9 at *
                  have HB8 := hid B8
                  have HG9 := hid (HG8.out.trans G8)
                  have HV9 := hid (HV8.out.grew G8)
                  clear B8 G8 eb8 HV8 HG8
                  have r5 := HCell.out w9 (HX7.out.grew HG9.out) 5 _ rfl
                  have rl := (HX7.out.grew HG9.out).lt
                  go_wp2_with fail
                  refine (HGs.out w9 HG9.out).mono ?_
                  rintro e w10 ⟨⟨A10, c10, rfl, hv10⟩, hg10⟩
                  have HV10 := hid hv10
                  have HG10 := hid hg10
                  clear hv10 hg10 r5 rl
                  go_upto_region 24 with fail
                  have B10 := Blk.new w10 42 #[.int .i64 g1, .int .i64 g2, .slice A10 gm c10, .string g4]
                  have G10 := (Grew.refl w10).alloc (.cells #[.int .i64 g1, .int .i64 g2, .slice A10 gm c10, .string g4] 42)
                  obtain ⟨b10, eb10⟩ : ∃ b10, b10 = w10.heap.size := ⟨_, rfl⟩
                  rw [← eb10] at B10 ⊢
                  generalize w10.alloc (.cells #[.int .i64 g1, .int .i64 g2, .slice A10 gm c10, .string g4] 42) = w11 at *
                  have HB10 := hid B10
                  have HG11 := hid (HG9.out.trans (HG10.out.trans G10))
                  have HV11 := hid (HV10.out.grew G10)
                  have HV12 := hid (HV9.out.grew (HG10.out.trans G10))
                  have HB9 := hid (HB8.out.grew (HG10.out.trans G10))
                  clear B10 G10 eb10 HV10 HV9 HG10 HB8 HG9
                  have r5 := HCell.out w11 (HX7.out.grew HG11.out) 5 _ rfl
                  have rl := (HX7.out.grew HG11.out).lt
                  go_wp2_with fail
                  refine (HHe.out w11 HG11.out).mono ?_
                  rintro e w12 ⟨rfl, hg12⟩
                  have HG12 := hid hg12
                  clear hg12 r5 rl
                  have r5 := HCell.out w12 (HX7.out.grew (HG11.out.trans HG12.out)) 5 _ rfl
                  have rl := (HX7.out.grew (HG11.out.trans HG12.out)).lt
                  go_wp2_with fail
                  refine (HHs.out w12 (HG11.out.trans HG12.out)).mono ?_
                  rintro e w13 ⟨rfl, hg13⟩
                  have HG13 := hid (HG12.out.trans hg13)
                  clear hg13 r5 rl HG12
                  go_wp2_with fail
                  refine (HNm.out w13 (HG11.out.trans HG13.out)).mono ?_
                  rintro e w14 ⟨rfl, hg14⟩
                  have HG14 := hid (HG13.out.trans hg14)
                  clear hg14 HG13
                  go_wp2_with fail
                  refine (HNm.out w14 (HG11.out.trans HG14.out)).mono ?_
                  rintro e w15 ⟨rfl, hg15⟩
                  have HG15 := hid (HG14.out.trans hg15)
                  clear hg15 HG14
                  go_wp2_with fail
                  refine (HNm.out w15 (HG11.out.trans HG15.out)).mono ?_
                  rintro e w16 ⟨rfl, hg16⟩
                  have HG16 := hid (HG15.out.trans hg16)
                  clear hg16 HG15
                  go_wp2_with fail
                  refine (HNm.out w16 (HG11.out.trans HG16.out)).mono ?_
                  rintro e w17 ⟨rfl, hg17⟩
                  have HG17 := hid (HG16.out.trans hg17)
                  clear hg17 HG16
                  have s0 := (HB9.out.grew HG17.out).cell 0
                  have s1 := (HB9.out.grew HG17.out).cell 1
                  have s2 := (HB9.out.grew HG17.out).cell 2
                  have s3 := (HB9.out.grew HG17.out).cell 3
                  have sl := (HB9.out.grew HG17.out).lt
                  have u0 := (HB10.out.grew HG17.out).cell 0
                  have u1 := (HB10.out.grew HG17.out).cell 1
                  have u2 := (HB10.out.grew HG17.out).cell 2
                  have u3 := (HB10.out.grew HG17.out).cell 3
                  have ul := (HB10.out.grew HG17.out).lt
                  simp only [List.getElem?_toArray, List.getElem?_cons_zero, List.getElem?_cons_succ] at s0 s1 s2 s3 u0 u1 u2 u3
                  go_wp2_with fail
                  refine (HSm.out A8 c8 A10 c10 w17 (HV12.out.grew HG17.out) (HV11.out.grew HG17.out)).mono ?_
                  rintro e w18 ⟨rfl, hg18⟩
                  have HG18 := hid (HG11.out.trans (HG17.out.trans hg18))
                  clear hg18 s0 s1 s2 s3 sl u0 u1 u2 u3 ul
                  go_wp2_with fail
                  refine (HLe.out w18 HG18.out).mono ?_
                  rintro e w19 ⟨rfl, hg19⟩
                  have HG19 := hid (HG18.out.trans hg19)
                  clear hg19 HG18
                  go_wp2_with fail
                  refine (HLs.out w19 HG19.out).mono ?_
                  rintro e w20 ⟨rfl, hg20⟩
                  have HG20 := hid (HG19.out.trans hg20)
                  clear hg20 HG19
                  go_wp2_with fail
                  go_round
                  case rel => exact ⟨i + 1, v2, s2, C2, l2, by go_num, by omega, by omega, HB7.out.more HG20.out |> hid, HC7, HLn7, HV7, HS7⟩
                  case measure => simp [intOf]; omega
            · go_wp2_with (go_at_call 20; refine (HBo.out _).mono ?_; rintro e w5 ⟨rfl, hg5⟩; have HG5 := hid (HG4.out.trans hg5); clear p1 p2 p3 p4 pl hg5)
              go_round
              case rel => exact ⟨i + 1, v1, s1, C1, l, by go_num, by omega, by omega, hid (HH.out.more HG5.out), hid (Nat.le_succ_of_le HC1.out), hid (Nat.le_succ_of_le HLn.out), HV1, HS1⟩
              case measure => simp [intOf]; omega
          · have f1 : (i : Int) < (n : Int) := by omega
            have f2 : ¬ (i : Int) < 60 := by omega
            go_wp2_with (go_at_call 8; refine (HSu.out _ (HG2.out.trans HH.out.h.gr)).mono ?_; rintro e w7 ⟨rfl, hg7⟩; have HG7 := hid hg7; clear hg7)
            go_ret
            exact ⟨rfl, (HG2.out.trans HH.out.h.gr).trans HG7.out⟩
        · have f1 : ¬ (i : Int) < (n : Int) := by omega
          go_wp2_with (go_at_call 8; refine (HSu.out _ (HG2.out.trans HH.out.h.gr)).mono ?_; rintro e w7 ⟨rfl, hg7⟩; have HG7 := hid hg7; clear hg7)
          go_ret
          exact ⟨rfl, (HG2.out.trans HH.out.h.gr).trans HG7.out⟩
  · have g20 : (20 : Int) < (up.length : Int) := by omega
    go_enter Tryd.func4, Tryd.ntmps4
    go_wp2_with (go_at_call 8; refine (HSu.out _ (Grew.refl w)).mono ?_; rintro e w2 ⟨rfl, hg2⟩)
    go_ret
    exact ⟨rfl, hg2⟩
end Go.Proofs.YtidnaednldcdfaaDoor

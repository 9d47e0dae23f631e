/- Stage 11: New. -/
import Derived.Test.YtcfknfiddadgbaaDoorOcB
namespace Go.Proofs.YtcfknfiddadgbaaDoor
open Go.RowKit

/-- What New answers, and leaves. -/
def NewPost (w : World) (up : List Nat) (l : List Ob.Obj) (e : Ending) (w' : World) : Prop :=
  if La.valid up = true then
    if l.all (Ob.mayB up.length) = true then ∃ s, e = .returned (.tuple #[.pointer (some ⟨s.g, 0, none⟩), .nilIface]) ∧ StoreAt w' w.heap.size s ∧ s.up = up ∧ objsI s.its = l ∧ Grew w w'
    else e = .returned (.tuple #[.pointer none, .iface 77 (.int .i64 1)]) ∧ Grew w w'
  else e = .returned (.tuple #[.pointer none, .iface 77 (.int .i64 7)]) ∧ Grew w w'
theorem any_not (l : List OV) (n : Nat) : (!l.any (fun v => !Ob.mayB n v.o)) = (objs l).all (Ob.mayB n) := by
  induction l with
  | nil => rfl
  | cons x r ih => rw [List.any_cons, objs, List.map_cons, List.all_cons, Bool.not_or, ih, Bool.not_not]; rfl
theorem objs_take (l : List OV) (i : Nat) {v : OV} (h : l[i]? = some v) : objs (l.take (i + 1)) = objs (l.take i) ++ [v.o] := by
  rw [List.take_add_one, h]; exact objs_snoc _ _
set_option maxRecDepth 100000 in
set_option maxHeartbeats 8000000 in
theorem new_c (U0 : Option Addr) (cu : Nat) (up : List Nat) (A : Option Addr) (c : Nat) (l : List OV) (w : World) (hn : up.length ≤ 20) (hU : BytesAt w w.heap.size U0 up) (h : ObjsAt w A l) (hl : l.length ≤ 1000) :
    Calls Tryd.prog 14 #[.agg #[.slice U0 up.length cu], .slice A l.length c] w (NewPost w up (objs l)) := by
  obtain ⟨un, eun⟩ : ∃ un, un = up.length := ⟨_, rfl⟩
  obtain ⟨n, en⟩ : ∃ n, n = l.length := ⟨_, rfl⟩
  have HU := hid hU
  have HA := hid h
  have HN := hid hn
  have HCk := hid (fun W (hW : Grew w W) => check_c U0 cu up W hn (hU.grew hW))
  rw [← eun] at HCk hn ⊢
  rw [← en] at hl ⊢
  have EUN := hid eun
  have EN := hid en
  clear hU h eun en
  have G1 := (Grew.refl w).alloc (.cells #[.slice U0 un cu] 46)
  have B1 := Blk.new w 46 #[.slice U0 un cu]
  go_enter Tryd.func14, Tryd.ntmps14
  go_upto_region 1 with fail
  obtain ⟨gl, egl⟩ : ∃ gl, gl = w.heap.size := ⟨_, rfl⟩
  generalize w.alloc (.cells #[.slice U0 un cu] 46) = w1 at *
  rw [← egl] at B1 ⊢
  have EGL := hid egl
  have HG1 := hid G1
  have HB1 := hid B1
  have q0 := B1.cell 0
  have ql := B1.lt
  simp only [List.getElem?_toArray, List.getElem?_cons_zero] at q0
  clear G1 B1 egl
  cases hv : La.valid up
  · have HV := hid hv
    rw [hv] at HCk
    have HC : Hid (∀ W, Grew w W → Calls Tryd.prog 34 #[.agg #[.slice U0 un cu]] W fun e w' => e = .returned (.iface 77 (.int .i64 7)) ∧ Grew W w') := hid (fun W hW => HCk.out W hW)
    clear hv HCk
    go_wp2_with (go_at_call 34; refine (HC.out _ HG1.out).mono ?_; rintro e w2 ⟨rfl, hg2⟩)
    go_ret2
    unfold NewPost
    rw [HV.out, if_neg (by decide)]
    exact ⟨rfl, HG1.out.trans hg2⟩
  · have HV := hid hv
    rw [hv] at HCk
    have HC : Hid (∀ W, Grew w W → Calls Tryd.prog 34 #[.agg #[.slice U0 un cu]] W fun e w' => e = .returned .nilIface ∧ Grew W w') := hid (fun W hW => HCk.out W hW)
    clear hv HCk
    go_upto_region 5 with (go_at_call 34; refine (HC.out _ HG1.out).mono ?_; rintro e w2 ⟨rfl, hg2⟩)
    have HG2 := hid (HG1.out.trans hg2)
    have HB2 := hid (HB1.out.grew hg2)
    clear q0 ql hg2 HC HB1
    have HAny := hid (anyObj_c 35 #[.pointer (some ⟨gl, 0, none⟩)] (fun _ _ => rfl) (fun v => !Ob.mayB un v.o) A c l w2 (HA.out.grew HG2.out) (by rw [← EN.out]; omega) (fun x hx W' hW' => new1_c U0 un cu x gl W' (HB2.out.grew hW') ((HA.out.ok x hx).grew (HG2.out.trans hW'))))
    have EA := hid (any_not l un)
    rw [← EN.out] at HAny
    obtain ⟨an, ean⟩ : ∃ an, an = l.any (fun v => !Ob.mayB un v.o) := ⟨_, rfl⟩
    rw [← ean] at HAny EA
    clear ean
    have f1 : ¬ (65536 : Int) < (n : Int) := by omega
    cases an
    · go_upto_region 7 with (go_at_call 36; refine HAny.out.mono ?_; rintro e w3 ⟨rfl, hg3⟩)
      have HG3 := hid (HG2.out.trans hg3)
      have HB3 := hid (HB2.out.grew hg3)
      have p0 := HB3.out.cell 0
      have pl := HB3.out.lt
      simp only [List.getElem?_toArray, List.getElem?_cons_zero] at p0
      clear hg3 HB2 HAny
      obtain ⟨ad, rfl, _⟩ := HU.out.2 (La.valid_spec HV.out).1
      have HCl := hid (clone_c ad cu up w3 HN.out (HU.out.grew HG3.out))
      rw [← EUN.out] at HCl
      go_upto_region 8 with (go_at_call 37; refine HCl.out.mono ?_; rintro e w4 ⟨U1, c1, rfl, hU1, hg4⟩)
      have HG4 := hid (HG3.out.trans hg4)
      have hnew := new_at (B := w.heap.size) (cu := c1) HG4.out.below.size hU1 HV.out
      have hg5 := HG4.out.alloc (.cells #[.slice U1 un c1, .slice none 0 0, .int .i64 0, .int .i64 0, .int .i64 0, .int .i64 0, .int .i64 0, .int .i64 0, .int .i64 0, .int .i64 0] 75)
      rw [← EUN.out] at hnew
      obtain ⟨g, eg⟩ : ∃ g, g = w4.heap.size := ⟨_, rfl⟩
      generalize w4.alloc (.cells #[.slice U1 un c1, .slice none 0 0, .int .i64 0, .int .i64 0, .int .i64 0, .int .i64 0, .int .i64 0, .int .i64 0, .int .i64 0, .int .i64 0] 75) = w5 at *
      rw [← eg] at hnew ⊢
      have HNew := hid hnew
      have HG5 := hid hg5
      have HAll := hid (show (objs l).all (Ob.mayB un) = true by rw [← EA.out]; rfl)
      clear hnew hg5 hg4 hU1 p0 pl HG4 HG3 HB3 HCl EA eg
      go_upto_region 9 with fail
      go_loopw [10, 34] (fun _ s34 wr => ∃ (i : Nat) (s : SV), s34 = .int .i64 ((i : Nat) : Int) ∧ i ≤ n ∧ Hid (StoreAt wr w.heap.size s) ∧ Hid (s.g = g ∧ s.up = up ∧ objsI s.its = objs (l.take i)) ∧ Hid (Grew w wr)) (fun _ s34 _ => n - (intOf s34).toNat)
      case atStart => exact ⟨0, newS g U1 c1 up, rfl, Nat.zero_le _, HNew, hid ⟨rfl, rfl, rfl⟩, HG5⟩
      case round =>
        obtain ⟨i, s, rfl, hi, HS, HE, HG⟩ := hrel
        by_cases hlt : i < n
        · have f2 : (i : Int) < (n : Int) := by omega
          obtain ⟨ad2, v, rfl, hv, q0, q1, q2, q3, hb, hok⟩ := ov_get HA.out HG.out (i := i) (by rw [← EN.out]; exact hlt)
          have HTk := hid (objs_take l i hv)
          have hmem := List.mem_of_getElem? hv
          have hmay : Ob.mayB s.up.length v.o = true := by
            rw [HE.out.2.1, ← EUN.out]
            exact List.all_eq_true.1 HAll.out _ (objs_mem hmem)
          have hlen : s.its.length < 65536 := by
            have h1 := congrArg List.length HE.out.2.2
            rw [objsI_len, objs_len, List.length_take] at h1
            omega
          have hvA : 0 < v.o.f.length → ∀ a, v.A = some a → ¬ Owns s a.block := fun h0 a ea hk => by
            obtain ⟨a', h1, h2, _⟩ := (HA.out.ok v hmem).f.2 h0
            rw [ea] at h1
            cases h1
            have := (HS.out.owns hk).1
            omega
          have HAd := hid (fun W (hW : Grew wr W) => add_c s w.heap.size v W (HS.out.grew hW) (hok.grew hW) hvA hmay hlen)
          rw [HE.out.1] at HAd
          clear hmay hlen hvA hmem hv hok
          obtain ⟨⟨cls, lev, fl, bt⟩, fA, fc⟩ := v
          simp only at HAd q0 q1 q2 q3 HTk
          obtain ⟨o, eo⟩ : ∃ o : Ob.Obj, o = ⟨cls, lev, fl, bt⟩ := ⟨_, rfl⟩
          rw [← eo] at HAd HTk
          clear eo
          generalize fl.length = m at *
          have hgb := (Grew.refl wr).alloc (.cells #[.int .i64 cls, .int .i64 lev, .slice fA m fc, .string bt] 28)
          have hbb := Blk.new wr 28 #[.int .i64 cls, .int .i64 lev, .slice fA m fc, .string bt]
          have HGb := hid hgb
          have HBb := hid hbb
          clear hgb hbb
          go_upto_region 11 with fail
          generalize wr.alloc (.cells #[.int .i64 cls, .int .i64 lev, .slice fA m fc, .string bt] 28) = wb at *
          generalize wr.heap.size = gb at *
          have r0 := HBb.out.cell 0
          have r1 := HBb.out.cell 1
          have r2 := HBb.out.cell 2
          have r3 := HBb.out.cell 3
          have rl := HBb.out.lt
          simp only [List.getElem?_toArray, List.getElem?_cons_zero, List.getElem?_cons_succ] at r0 r1 r2 r3
          clear q0 q1 q2 q3 hb
          have hcall := HAd.out wb HGb.out
          go_wp2_with (go_at_call 29; refine hcall.mono ?_; rintro e w7 ⟨rfl, s', h1, h2, h3, h3b, h4, h5, h6⟩)
          go_round
          case rel =>
            refine ⟨i + 1, s', by go_num, by omega, hid h1, hid ⟨by rw [h2]; exact HE.out.1, by rw [h3]; exact HE.out.2.1, by rw [h4, HE.out.2.2, HTk.out]⟩, hid ?_⟩
            exact h5.grew (HG.out.trans HGb.out) (fun k hk => (HS.out.owns hk).1)
          case measure => simp [intOf]; omega
        · have hin : i = n := by omega
          subst hin
          have HLe := hid (show objs (l.take i) = objs l by rw [EN.out, List.take_length])
          go_wp2_with fail
          go_ret2
          unfold NewPost
          rw [HV.out, if_pos rfl, ← EUN.out, HAll.out, if_pos rfl]
          exact ⟨s, by rw [HE.out.1]; rfl, HS.out, HE.out.2.1, by rw [HE.out.2.2, HLe.out], HG.out⟩
    · go_wp2_with (go_at_call 36; refine HAny.out.mono ?_; rintro e w3 ⟨rfl, hg3⟩)
      go_ret2
      unfold NewPost
      rw [HV.out, if_pos rfl, ← EUN.out, ← EA.out, if_neg (by decide)]
      exact ⟨rfl, HG2.out.trans hg3⟩
end Go.Proofs.YtcfknfiddadgbaaDoor

/- Stage 12: the reference's Load. -/
import Derived.Test.YtidnaednldcdfaaGreatDoorGeC
namespace Go.Proofs.YtidnaednldcdfaaGreatDoor
open Go.RowKit

theorem res_rLoad (tmps : Array Value) (g : Nat) (ha : tmps.getD 10 undef = .pointer (some ⟨g, 0, none⟩)) (v : Value) (hv : tmps.getD 11 undef = v) (w : World) (c0 c1 c2 c3 c4 : Value) (hb : Blk w g 53 #[c0, c1, c2, c3, c4]) :
    (results Tryz.f31 tmps).run Tryz.prog w = .ok (.tuple #[.agg #[c0, c1, c2, c3, c4], v]) w := by
  have y0 : w.cell? ⟨g, 0, none⟩ = some c0 := hb.cell 0
  have y1 : w.cell? ⟨g, 1, none⟩ = some c1 := hb.cell 1
  have y2 : w.cell? ⟨g, 2, none⟩ = some c2 := hb.cell 2
  have y3 : w.cell? ⟨g, 3, none⟩ = some c3 := hb.cell 3
  have y4 : w.cell? ⟨g, 4, none⟩ = some c4 := hb.cell 4
  have ha' : tmps[10]?.getD undef = .pointer (some ⟨g, 0, none⟩) := by simpa using ha
  have hv' : tmps[11]?.getD undef = v := by simpa using hv
  simp [results, Tryz.results31, go_sem, *]
/-- What the reference's Load answers. -/
def RLoadV (w : World) (up : List Nat) (room : Int) (quota : List Int) (l : List IV) (cs : List Int) (e : Ending) (w' : World) : Prop :=
  if loadCode up room quota (ivI l) cs = 0 then ∃ r : RV, e = .returned (.tuple #[.agg (rvC r), .int .i64 0]) ∧ RvAt w' r ∧ r.up = up ∧ r.room = room ∧ r.q = cntL up.length (qf room quota) ∧ r.its = l ∧ r.cn = cs ∧ Grew w w'
  else e = .returned (.tuple #[.agg (rvC rv0), .int .i64 ((loadCode up room quota (ivI l) cs : Nat) : Int)]) ∧ Grew w w'
theorem rLoadV_bad {w w' : World} {up : List Nat} {room : Int} {quota : List Int} {l : List IV} {cs : List Int} (hg : Grew w w') (k : Nat) (hk : k ≠ 0) (h : loadCode up room quota (ivI l) cs = k) : RLoadV w up room quota l cs (.returned (.tuple #[.agg #[.slice none 0 0, .int .i64 0, .slice none 0 0, .slice none 0 0, .slice none 0 0], .int .i64 ((k : Nat) : Int)])) w' := by
  unfold RLoadV
  rw [h, if_neg hk]
  exact ⟨rfl, hg⟩
theorem loadCode_ok {up : List Nat} {room : Int} {quota : List Int} {L : List Hp.It} {cs : List Int} (h : newCode up room quota = 0) (b : Bool) (hb : (cntsB up.length cs && itemsB up.length cs 0 L) = b) : loadCode up room quota L cs = if b then (if fitsAll up.length L room (qf room quota) then 0 else 12) else 1 := by
  unfold loadCode
  rw [if_pos h, hb]
set_option maxRecDepth 100000 in
set_option maxHeartbeats 16000000 in
theorem rLoad_c (U : Option Addr) (cu : Nat) (up : List Nat) (room : Int) (A : Option Addr) (c : Nat) (quota : List Int) (Ai : Option Addr) (ci : Nat) (l : List IV) (A2 : Option Addr) (c2 : Nat) (cs : List Int) (w : World) (hn : up.length ≤ 20) (hU : BytesAt w w.heap.size U up) (h : IntsAt w A quota) (hl : quota.length ≤ 1000)
    (hi : ItemsAt w Ai l) (hS : Small (ivI l)) (h2 : IntsAt w A2 cs) (hcl : cs.length ≤ 1000) :
    Calls Tryz.prog 31 #[.slice U up.length cu, .int .i64 room, .slice A quota.length c, .slice Ai l.length ci, .slice A2 cs.length c2] w (RLoadV w up room quota l cs) := by
  have HI := hid hi
  have HC := hid h2
  have HS := hid hS
  have HU := hid hU
  have HBad := hid (fun W (hW : Grew w W) k hk he => rLoadV_bad (up := up) (room := room) (quota := quota) (l := l) (cs := cs) hW k hk he)
  have HNw := hid (fun W (hW : Grew w W) => rNew_c U cu up room A c quota W hn (hU.grew hW) (h.grew hW) hl)
  unfold RNewV at HNw
  obtain ⟨un, eun⟩ : ∃ un, un = up.length := ⟨_, rfl⟩
  rw [← eun] at HNw hn ⊢
  have EUN := hid eun
  generalize quota.length = qn at *
  obtain ⟨m, em⟩ : ∃ m, m = l.length := ⟨_, rfl⟩
  obtain ⟨kn, ekn⟩ : ∃ kn, kn = cs.length := ⟨_, rfl⟩
  rw [← em, ← ekn]
  rw [← ekn] at hcl
  have hm : m ≤ 100000 := by have := hS.1; rw [ivI_len, ← em] at this; exact this
  have EM := hid em
  have EKN := hid ekn
  clear hU h hi h2 eun em ekn hS
  have G1 := (Grew.refl w).alloc (.cells #[.slice none 0 0, .int .i64 0, .slice none 0 0, .slice none 0 0, .slice none 0 0] 53)
  have B1 := Blk.new w 53 #[.slice none 0 0, .int .i64 0, .slice none 0 0, .slice none 0 0, .slice none 0 0]
  go_enter Tryz.func31, Tryz.ntmps31
  go_upto_region 1 with fail
  obtain ⟨gb, egb⟩ : ∃ gb, gb = w.heap.size := ⟨_, rfl⟩
  generalize w.alloc (.cells #[.slice none 0 0, .int .i64 0, .slice none 0 0, .slice none 0 0, .slice none 0 0] 53) = w1 at *
  rw [← egb] at B1 ⊢
  have HG1 := hid G1
  have HB1 := hid B1
  have EGB := hid egb
  clear G1 B1 egb
  have HDone := hid (fun W (hb : Blk W gb 53 #[.slice none 0 0, .int .i64 0, .slice none 0 0, .slice none 0 0, .slice none 0 0]) (hg : Grew w W) => show Grew w (((((W.setCell ⟨gb, 0, none⟩ (.slice none 0 0)).setCell ⟨gb, 1, none⟩ (.int .i64 0)).setCell ⟨gb, 2, none⟩ (.slice none 0 0)).setCell ⟨gb, 3, none⟩ (.slice none 0 0)).setCell ⟨gb, 4, none⟩ (.slice none 0 0)) from Kept.up (kept5 (Kept.of_grew hg) (fun _ => by have h1 := EGB.out; show w.heap.size ≤ gb; omega) _ _ _ _ _))
  by_cases hnc : newCode up room quota = 0
  · have HLC := hid (fun b hb => loadCode_ok (L := ivI l) (cs := cs) hnc b hb)
    rw [← EUN.out] at HLC
    simp only [hnc, if_true] at HNw
    have hcall := HNw.out w1 HG1.out
    clear HNw hnc
    go_upto_region 2 with (go_at_call 16; refine hcall.mono ?_; rintro e w2 ⟨r, rfl, hr⟩; obtain ⟨U, cu, up, room, Q, cQ, q, I', ci', its', C, cC, cn'⟩ := r; simp only at hr; obtain ⟨hrv, rfl, rfl, rfl, rfl, rfl, rfl, rfl, rfl, rfl, hqf, hg2⟩ := hr; have HRv := hid hrv; have HQf := hid hqf; clear hrv hqf; simp only [rvC, List.length_nil, cntL_len])
    clear hcall
    rw [← EUN.out]
    have B2 := Blk.new w2 53 #[.slice U un cu, .int .i64 room, .slice Q un cQ, .slice none 0 0, .slice C un cC]
    have G2 := hg2.alloc (.cells #[.slice U un cu, .int .i64 room, .slice Q un cQ, .slice none 0 0, .slice C un cC] 53)
    have G3 := (Grew.refl w2).alloc (.cells #[.slice U un cu, .int .i64 room, .slice Q un cQ, .slice none 0 0, .slice C un cC] 53)
    generalize w2.alloc (.cells #[.slice U un cu, .int .i64 room, .slice Q un cQ, .slice none 0 0, .slice C un cC] 53) = w3 at *
    obtain ⟨gh, egh⟩ : ∃ gh, gh = w2.heap.size := ⟨_, rfl⟩
    rw [← egh] at B2 ⊢
    have HQb := hid (show ∀ ad, Q = some ad → 0 < un → ad.block < w2.heap.size from fun ad e hp => (by obtain ⟨a, e1, h1, _⟩ := HRv.out.q (by simp only [cntL_len]; exact hp); simp only at e1; rw [e] at e1; cases e1; exact h1))
    have HBh := hid B2
    have HBq := hid (HB1.out.grew G2)
    have HG3 := hid (HG1.out.trans G2)
    have HG23 := hid G3
    have HLh := hid (show w.heap.size ≤ gh ∧ gb ≠ gh ∧ gb < w1.heap.size ∧ gh = w2.heap.size by have h1 := HB1.out.lt; have h2 := hg2.below.size; have h3 := HG1.out.below.size; exact ⟨by omega, by omega, h1, egh⟩)
    clear B2 G2 G3 egh hg2 HB1 HG1
    by_cases hk : kn = un
    · subst hk
      have HLC1 := hid (fun (h : cntsB kn cs = false) => show loadCode up room quota (ivI l) cs = 1 by rw [HLC.out false (by rw [h]; rfl)]; rfl)
      have HCt := hid (show cntsB kn cs = cs.all cntB by unfold cntsB; rw [← EKN.out, decide_eq_true rfl, Bool.true_and])
      go_upto_region 7 with fail
      go_loopw [14] (fun s14 wr => ∃ i : Nat, s14 = .int .i64 ((i : Nat) : Int) ∧ i ≤ kn ∧ Hid ((cs.take i).all cntB = true) ∧ Hid (Grew w3 wr)) (fun s14 _ => kn - (intOf s14).toNat)
      case atStart => exact ⟨0, rfl, Nat.zero_le _, hid (by simp), hid (Grew.refl _)⟩
      case round =>
        obtain ⟨i, rfl, hi, HT, HW⟩ := hrel
        by_cases hlt : i < kn
        · have f1 : (i : Int) < (kn : Int) := by omega
          obtain ⟨ad, x, rfl, hx, q0, hb⟩ := int_at HC.out (HG3.out.trans HW.out) (i := i) (by rw [← EKN.out]; exact hlt)
          have HT1 := hid (show (cs.take (i + 1)).all cntB = cntB x by rw [List.take_add_one, hx, List.all_append, HT.out]; simp)
          have HF := hid (fun (hf : cntB x = false) => show cntsB kn cs = false by
            rw [HCt.out]
            cases hall : cs.all cntB
            · rfl
            · have h1 := List.all_eq_true.1 hall x (List.mem_of_getElem? hx)
              rw [hf] at h1
              cases h1)
          have HX : Hid (cntB x = (decide (0 ≤ x) && decide (x ≤ 2147483647))) := hid rfl
          clear hx
          by_cases m1 : x < 0
          · have HC1 := hid (HLC1.out (HF.out (by rw [HX.out, decide_eq_false (by omega : ¬ 0 ≤ x), Bool.false_and])))
            have HBz := hid (HBq.out.grew HW.out)
            have t0 := HBz.out.cell 0
            have t1 := HBz.out.cell 1
            have t2 := HBz.out.cell 2
            have t3 := HBz.out.cell 3
            have t4 := HBz.out.cell 4
            have tl := HBz.out.lt
            have tf := HBz.out.frozen
            simp only [List.getElem?_toArray, List.getElem?_cons_zero, List.getElem?_cons_succ] at t0 t1 t2 t3 t4
            go_wp2_with fail
            refine bodyPost_ret (v := .tuple #[.agg #[.slice none 0 0, .int .i64 0, .slice none 0 0, .slice none 0 0, .slice none 0 0], .int .i64 1]) (res_rLoad _ gb rfl _ rfl _ _ _ _ _ _ (HBz.out.put5 _ _ _ _ _)) rfl ?_
            exact HBad.out _ (HDone.out _ HBz.out (HG3.out.trans HW.out)) 1 (by decide) HC1.out
          · by_cases m2 : (2147483647 : Int) < x
            · have HC1 := hid (HLC1.out (HF.out (by rw [HX.out, decide_eq_false (by omega : ¬ x ≤ 2147483647), Bool.and_false])))
              have HBz := hid (HBq.out.grew HW.out)
              have t0 := HBz.out.cell 0
              have t1 := HBz.out.cell 1
              have t2 := HBz.out.cell 2
              have t3 := HBz.out.cell 3
              have t4 := HBz.out.cell 4
              have tl := HBz.out.lt
              have tf := HBz.out.frozen
              simp only [List.getElem?_toArray, List.getElem?_cons_zero, List.getElem?_cons_succ] at t0 t1 t2 t3 t4
              go_wp2_with fail
              refine bodyPost_ret (v := .tuple #[.agg #[.slice none 0 0, .int .i64 0, .slice none 0 0, .slice none 0 0, .slice none 0 0], .int .i64 1]) (res_rLoad _ gb rfl _ rfl _ _ _ _ _ _ (HBz.out.put5 _ _ _ _ _)) rfl ?_
              exact HBad.out _ (HDone.out _ HBz.out (HG3.out.trans HW.out)) 1 (by decide) HC1.out
            · have HT2 := hid (show (cs.take (i + 1)).all cntB = true by rw [HT1.out, HX.out, decide_eq_true (by omega : 0 ≤ x), decide_eq_true (by omega : x ≤ 2147483647)]; rfl)
              go_wp2_with fail
              go_round
              case rel => exact ⟨i + 1, by go_num, by omega, HT2, HW⟩
              case measure => simp [intOf]; omega
        · obtain rfl : kn = i := by omega
          have HAll := hid (show cntsB kn cs = true by
            have h1 := HT.out
            rw [List.take_of_length_le (by rw [← EKN.out]; exact Nat.le_refl _)] at h1
            rw [HCt.out, h1])
          have HLC2 := hid (fun (h : itemsB kn cs 0 (ivI l) = false) => show loadCode up room quota (ivI l) cs = 1 by rw [HLC.out false (by rw [h, Bool.and_false])]; rfl)
          have HLC3 := hid (fun (h : itemsB kn cs 0 (ivI l) = true) => show loadCode up room quota (ivI l) cs = if fitsAll kn (ivI l) room (qf room quota) then 0 else 12 by rw [HLC.out true (by rw [HAll.out, h]; rfl)]; rfl)
          have HG4 := hid (HG3.out.trans HW.out)
          have HBq4 := hid (HBq.out.grew HW.out)
          have HBh4 := hid (HBh.out.grew HW.out)
          have HG24 := hid (HG23.out.trans HW.out)
          clear HT HLC1 HCt HLC HBq HBh HG23 HG3 HW
          have HBq := HBq4
          have HG3 := HG4
          clear HBq4 HG4
          obtain ⟨wo, ewo⟩ : ∃ wo, wo = wr := ⟨_, rfl⟩
          subst ewo
          go_upto_region 12 with fail
          go_loopw [15, 16] (fun s15 _ wr => ∃ i : Nat, s15 = .int .i64 ((i : Nat) : Int) ∧ i ≤ m ∧ Hid (itemsB kn cs 0 ((ivI l).take i) = true) ∧ Hid (Grew wo wr)) (fun s15 _ _ => m - (intOf s15).toNat)
          case atStart => exact ⟨0, rfl, Nat.zero_le _, hid rfl, hid (Grew.refl _)⟩
          case round =>
            obtain ⟨i, rfl, hi, HIs, HW⟩ := hrel
            by_cases hlt : i < m
            · have f1 : (i : Int) < (m : Int) := by omega
              obtain ⟨ad, x, rfl, hx, hcl0, hb, hok, hxi, hxh⟩ := iv_at HI.out (HG3.out.trans HW.out) (i := i) (by rw [← EM.out]; exact hlt)
              have HTk := hid (show (ivI l).take (i + 1) = (ivI l).take i ++ [⟨x.i, x.h, x.o⟩] by rw [List.take_add_one, ivI_at hx]; rfl)
              obtain ⟨le, ele⟩ : ∃ le, le = nextI ((ivI l).take i) := ⟨_, rfl⟩
              have HSn := hid (show itemsB kn cs 0 ((ivI l).take (i + 1)) = itemB kn cs le ⟨x.i, x.h, x.o⟩ by
                rw [HTk.out, itemsB_snoc, HIs.out, Bool.true_and, ele]
                rfl)
              have HAl := hid (show itemsB kn cs 0 ((ivI l).take (i + 1)) = false → itemsB kn cs 0 (ivI l) = false from fun hf => by
                cases hb : itemsB kn cs 0 (ivI l)
                · rfl
                · rw [← List.take_append_drop (i + 1) (ivI l)] at hb
                  rw [itemsB_app kn cs _ _ 0 hb] at hf
                  cases hf)
              have q0 := hcl0 0 _ rfl
              have q1 := hcl0 1 _ rfl
              have q2 := hcl0 2 _ rfl
              have q3 := hcl0 3 _ rfl
              have q4 := hcl0 4 _ rfl
              have q5 := hcl0 5 _ rfl
              rw [add_zero] at q0
              rw [add_pos (by decide), block_add] at q1 q2 q3 q4 q5
              have HMy := hid (fun W (hW : Grew wr W) => rmayO_c kn ⟨x.o, x.A, x.c⟩ W (hok.grew hW) (by have := (HS.out.2 ⟨x.i, x.h, x.o⟩ (List.mem_of_getElem? (ivI_at hx))).1; simp only at this ⊢; omega))
              have HPv : Hid ((i = 0 ∧ le = 0) ∨ ∃ (k : Nat) (pv : Int), i = k + 1 ∧ le = pv + 1 ∧ 0 ≤ pv ∧ ∀ W, Grew wr W → W.cell? (ad.add (k * 6)) = some (.int .i64 pv)) := hid (by
                cases i with
                | zero => exact .inl ⟨rfl, ele⟩
                | succ k =>
                  right
                  obtain ⟨ad', y, e', hy, hcy, hby, -, -, -⟩ := iv_at HI.out (HG3.out.trans HW.out) (i := k) (by rw [← EM.out]; omega)
                  cases e'
                  have c0 := hcy 0 _ rfl
                  rw [add_zero] at c0
                  have ht : (ivI l).take (k + 1) = (ivI l).take k ++ [⟨y.i, y.h, y.o⟩] := by rw [List.take_add_one, ivI_at hy]; rfl
                  have hp := (itemsB_spec kn cs _ 0 HIs.out).1 ⟨y.i, y.h, y.o⟩ (by rw [ht]; simp)
                  exact ⟨k, y.i, rfl, by rw [ele, ht, nextI_snoc], hp.1, fun W hW => (hW.below.cell (by rw [block_add]; exact hby)).trans c0⟩)
              have HSz := hid (show ad.block < wr.heap.size from hb)
              clear hx hcl0 hok ele
              obtain ⟨xi, xh, o, xA, xc⟩ := x
              simp only at q0 q1 q2 q3 q4 q5 HMy HSn HTk hxi hxh
              have HXi := hid (And.intro hxi hxh)
              clear hxi hxh
              have HIt := hid (show itemB kn cs le ⟨xi, xh, o⟩ = (decide (le ≤ xi) && (decide (xi < 65536) && (Ob.mayB kn o && Ob.inB xh (cs.getD o.lev.toNat 0)))) from rfl)
              have HHd := hid (fun (hm : Ob.mayB kn o = true) => hp_head hm)
              obtain ⟨bm, ebm⟩ : ∃ bm, bm = Ob.mayB kn o := ⟨_, rfl⟩
              rw [← ebm] at HIt HMy HHd
              clear ebm
              have HFail := hid (fun (h : itemB kn cs le ⟨xi, xh, o⟩ = false) => HLC2.out (HAl.out (by rw [HSn.out, h])))
              have HOk := hid (fun (h : itemB kn cs le ⟨xi, xh, o⟩ = true) => show itemsB kn cs 0 ((ivI l).take (i + 1)) = true by rw [HSn.out, h])
              obtain ⟨cls, lev, f, bt⟩ := o
              simp only at q2 q3 q4 q5 HMy HIt HHd
              generalize f.length = fm at *
              have B1 := Blk.new wr 75 #[.int .i64 xi, .int .i64 xh, .int .i64 cls, .int .i64 lev, .slice xA fm xc, .string bt]
              have G1 := (Grew.refl wr).alloc (.cells #[.int .i64 xi, .int .i64 xh, .int .i64 cls, .int .i64 lev, .slice xA fm xc, .string bt] 75)
              go_upto_region 15 with fail
              generalize wr.alloc (.cells #[.int .i64 xi, .int .i64 xh, .int .i64 cls, .int .i64 lev, .slice xA fm xc, .string bt] 75) = w1 at *
              obtain ⟨gx, egx⟩ : ∃ gx, gx = wr.heap.size := ⟨_, rfl⟩
              rw [← egx] at B1 ⊢
              have HB1 := hid B1
              have HG1 := hid G1
              clear B1 G1 q0 q1 q2 q3 q4 q5 hb egx
              have p0 := fun (y : After w1) => (HB1.out.grew y.grew).cell 0
              have p1 := fun (y : After w1) => (HB1.out.grew y.grew).cell 1
              have p2 := fun (y : After w1) => (HB1.out.grew y.grew).cell 2
              have p3 := fun (y : After w1) => (HB1.out.grew y.grew).cell 3
              have p4 := fun (y : After w1) => (HB1.out.grew y.grew).cell 4
              have p5 := fun (y : After w1) => (HB1.out.grew y.grew).cell 5
              have pl := fun (y : After w1) => (HB1.out.grew y.grew).lt
              have z1 := fun (y : After w1) => Nat.lt_of_lt_of_le HSz.out (HG1.out.trans y.grew).below.size
              simp only [List.getElem?_toArray, List.getElem?_cons_zero, List.getElem?_cons_succ] at p0 p1 p2 p3 p4 p5
              rcases HPv.out with ⟨hi0, hle⟩ | ⟨k, pv, hik, hle, hpv, hcell⟩
              · subst hi0 hle
                have z0 := z1
                have g0 : ¬ (0 : Int) < ((0 : Nat) : Int) := by decide
                by_cases c1 : xi < 0
                · have HF := hid (HFail.out (by rw [HIt.out, decide_eq_false (by omega : ¬ (0 : Int) ≤ xi), Bool.false_and]))
                  refine wp_region_grew_from (w0 := w1) (Grew.refl w1) (by kernel_rfl) (by kernel_rfl) ?_
                  repeat (go_big_quiet_step (fail))
                  refine wpQuiet_nil ?_
                  rintro _ ⟨y, rfl⟩
                  clear p0 p1 p2 p3 p4 p5 pl z0 z1
                  have HBz := hid (HBq.out.grew ((HW.out.trans HG1.out).trans y.grew))
                  have t0 := HBz.out.cell 0
                  have t1 := HBz.out.cell 1
                  have t2 := HBz.out.cell 2
                  have t3 := HBz.out.cell 3
                  have t4 := HBz.out.cell 4
                  have tl := HBz.out.lt
                  have tf := HBz.out.frozen
                  simp only [List.getElem?_toArray, List.getElem?_cons_zero, List.getElem?_cons_succ] at t0 t1 t2 t3 t4
                  go_wp2_with fail
                  refine bodyPost_ret (v := .tuple #[.agg #[.slice none 0 0, .int .i64 0, .slice none 0 0, .slice none 0 0, .slice none 0 0], .int .i64 1]) (res_rLoad _ gb rfl _ rfl _ _ _ _ _ _ (HBz.out.put5 _ _ _ _ _)) rfl ?_
                  exact HBad.out _ (HDone.out _ HBz.out (((HG3.out.trans HW.out).trans HG1.out).trans y.grew)) 1 (by decide) HF.out
                · rw [decide_eq_true (by omega : (0 : Int) ≤ xi), Bool.true_and] at HIt
                  by_cases c2 : (65535 : Int) < xi
                  · have HF := hid (HFail.out (by rw [HIt.out, decide_eq_false (by omega : ¬ xi < 65536), Bool.false_and]))
                    refine wp_region_grew_from (w0 := w1) (Grew.refl w1) (by kernel_rfl) (by kernel_rfl) ?_
                    repeat (go_big_quiet_step (fail))
                    refine wpQuiet_nil ?_
                    rintro _ ⟨y, rfl⟩
                    clear p0 p1 p2 p3 p4 p5 pl z0 z1
                    have HBz := hid (HBq.out.grew ((HW.out.trans HG1.out).trans y.grew))
                    have t0 := HBz.out.cell 0
                    have t1 := HBz.out.cell 1
                    have t2 := HBz.out.cell 2
                    have t3 := HBz.out.cell 3
                    have t4 := HBz.out.cell 4
                    have tl := HBz.out.lt
                    have tf := HBz.out.frozen
                    simp only [List.getElem?_toArray, List.getElem?_cons_zero, List.getElem?_cons_succ] at t0 t1 t2 t3 t4
                    go_wp2_with fail
                    refine bodyPost_ret (v := .tuple #[.agg #[.slice none 0 0, .int .i64 0, .slice none 0 0, .slice none 0 0, .slice none 0 0], .int .i64 1]) (res_rLoad _ gb rfl _ rfl _ _ _ _ _ _ (HBz.out.put5 _ _ _ _ _)) rfl ?_
                    exact HBad.out _ (HDone.out _ HBz.out (((HG3.out.trans HW.out).trans HG1.out).trans y.grew)) 1 (by decide) HF.out
                  · rw [decide_eq_true (by omega : xi < 65536), Bool.true_and] at HIt
                    cases bm
                    · have HF := hid (HFail.out (by rw [HIt.out, Bool.false_and]))
                      refine wp_region_grew_from (w0 := w1) (Grew.refl w1) (by kernel_rfl) (by kernel_rfl) ?_
                      repeat (go_big_quiet_step ((go_at_call 54; exact Calls.grew (After.grew _) (HMy.out _ (HG1.out.trans (After.grew _))))))
                      refine wpQuiet_nil ?_
                      rintro _ ⟨y, rfl⟩
                      clear p0 p1 p2 p3 p4 p5 pl z0 z1
                      have HBz := hid (HBq.out.grew ((HW.out.trans HG1.out).trans y.grew))
                      have t0 := HBz.out.cell 0
                      have t1 := HBz.out.cell 1
                      have t2 := HBz.out.cell 2
                      have t3 := HBz.out.cell 3
                      have t4 := HBz.out.cell 4
                      have tl := HBz.out.lt
                      have tf := HBz.out.frozen
                      simp only [List.getElem?_toArray, List.getElem?_cons_zero, List.getElem?_cons_succ] at t0 t1 t2 t3 t4
                      go_wp2_with fail
                      refine bodyPost_ret (v := .tuple #[.agg #[.slice none 0 0, .int .i64 0, .slice none 0 0, .slice none 0 0, .slice none 0 0], .int .i64 1]) (res_rLoad _ gb rfl _ rfl _ _ _ _ _ _ (HBz.out.put5 _ _ _ _ _)) rfl ?_
                      exact HBad.out _ (HDone.out _ HBz.out (((HG3.out.trans HW.out).trans HG1.out).trans y.grew)) 1 (by decide) HF.out
                    · rw [Bool.true_and] at HIt
                      have hh := HHd.out rfl
                      obtain ⟨j, rfl⟩ : ∃ j : Nat, lev = (j : Int) := ⟨lev.toNat, by omega⟩
                      have hjn : j < cs.length := by rw [← EKN.out]; omega
                      obtain ⟨a2, cj, ea2, hcj, -, -⟩ := int_at HC.out ((HG3.out.trans HW.out).trans HG1.out) hjn
                      subst ea2
                      have HInt : Hid (∀ W, Grew w1 W → W.cell? (a2.add j) = some (.int .i64 cj) ∧ a2.block < W.heap.size) := hid (fun W hW => by
                        obtain ⟨a3, c3, h1, h2, h3, h4⟩ := int_at HC.out (((HG3.out.trans HW.out).trans HG1.out).trans hW) hjn
                        cases h1
                        rw [hcj] at h2
                        cases h2
                        exact ⟨h3, h4⟩)
                      rw [Int.toNat_natCast, List.getD_eq_getElem?_getD, hcj, Option.getD_some] at HIt
                      have g3 : (j : Int) < (kn : Int) := by omega
                      clear hh hjn hcj HHd
                      have y0 := fun (y : After w1) => (HInt.out y.w y.grew).1
                      have y1 := fun (y : After w1) => (HInt.out y.w y.grew).2
                      have HIb : Hid (Ob.inB xh cj = (decide (0 ≤ xh) && decide (xh < cj))) := hid rfl
                      rw [HIb.out] at HIt
                      by_cases c5 : xh < 0
                      · have HF := hid (HFail.out (by rw [HIt.out, decide_eq_false (by omega), Bool.false_and]))
                        refine wp_region_grew_from (w0 := w1) (Grew.refl w1) (by kernel_rfl) (by kernel_rfl) ?_
                        repeat (go_big_quiet_step ((go_at_call 54; exact Calls.grew (After.grew _) (HMy.out _ (HG1.out.trans (After.grew _))))))
                        refine wpQuiet_nil ?_
                        rintro _ ⟨y, rfl⟩
                        clear p0 p1 p2 p3 p4 p5 pl z0 z1 y0 y1
                        have HBz := hid (HBq.out.grew ((HW.out.trans HG1.out).trans y.grew))
                        have t0 := HBz.out.cell 0
                        have t1 := HBz.out.cell 1
                        have t2 := HBz.out.cell 2
                        have t3 := HBz.out.cell 3
                        have t4 := HBz.out.cell 4
                        have tl := HBz.out.lt
                        have tf := HBz.out.frozen
                        simp only [List.getElem?_toArray, List.getElem?_cons_zero, List.getElem?_cons_succ] at t0 t1 t2 t3 t4
                        go_wp2_with fail
                        refine bodyPost_ret (v := .tuple #[.agg #[.slice none 0 0, .int .i64 0, .slice none 0 0, .slice none 0 0, .slice none 0 0], .int .i64 1]) (res_rLoad _ gb rfl _ rfl _ _ _ _ _ _ (HBz.out.put5 _ _ _ _ _)) rfl ?_
                        exact HBad.out _ (HDone.out _ HBz.out (((HG3.out.trans HW.out).trans HG1.out).trans y.grew)) 1 (by decide) HF.out
                      · by_cases c6 : cj ≤ xh
                        · have HF := hid (HFail.out (by rw [HIt.out, decide_eq_false (by omega : ¬ xh < cj), Bool.and_false]))
                          refine wp_region_grew_from (w0 := w1) (Grew.refl w1) (by kernel_rfl) (by kernel_rfl) ?_
                          repeat (go_big_quiet_step ((go_at_call 54; exact Calls.grew (After.grew _) (HMy.out _ (HG1.out.trans (After.grew _))))))
                          refine wpQuiet_nil ?_
                          rintro _ ⟨y, rfl⟩
                          clear p0 p1 p2 p3 p4 p5 pl z0 z1 y0 y1
                          have HBz := hid (HBq.out.grew ((HW.out.trans HG1.out).trans y.grew))
                          have t0 := HBz.out.cell 0
                          have t1 := HBz.out.cell 1
                          have t2 := HBz.out.cell 2
                          have t3 := HBz.out.cell 3
                          have t4 := HBz.out.cell 4
                          have tl := HBz.out.lt
                          have tf := HBz.out.frozen
                          simp only [List.getElem?_toArray, List.getElem?_cons_zero, List.getElem?_cons_succ] at t0 t1 t2 t3 t4
                          go_wp2_with fail
                          refine bodyPost_ret (v := .tuple #[.agg #[.slice none 0 0, .int .i64 0, .slice none 0 0, .slice none 0 0, .slice none 0 0], .int .i64 1]) (res_rLoad _ gb rfl _ rfl _ _ _ _ _ _ (HBz.out.put5 _ _ _ _ _)) rfl ?_
                          exact HBad.out _ (HDone.out _ HBz.out (((HG3.out.trans HW.out).trans HG1.out).trans y.grew)) 1 (by decide) HF.out
                        · have HF := hid (HOk.out (by rw [HIt.out, decide_eq_true (by omega : 0 ≤ xh), decide_eq_true (by omega : xh < cj)]; rfl))
                          have c6' : ¬ cj ≤ xh := c6
                          refine wp_region_grew_from (w0 := w1) (Grew.refl w1) (by kernel_rfl) (by kernel_rfl) ?_
                          repeat (go_big_quiet_step ((go_at_call 54; exact Calls.grew (After.grew _) (HMy.out _ (HG1.out.trans (After.grew _))))))
                          refine wpQuiet_nil ?_
                          rintro _ ⟨y, rfl⟩
                          clear p0 p1 p2 p3 p4 p5 pl z0 z1 y0 y1
                          go_wp2_with fail
                          go_round
                          case rel => exact ⟨0 + 1, by go_num, by omega, HF, hid ((HW.out.trans HG1.out).trans y.grew)⟩
                          case measure => simp [intOf]; omega
              · have z0 := fun (y : After w1) => hcell y.w (HG1.out.trans y.grew)
                have g0 : (0 : Int) < (i : Int) := by omega
                have g1 : (i : Int) - 1 = (k : Int) := by omega
                have HCl := hid hcell
                clear hcell
                have hkl : k < m := by omega
                by_cases c1 : xi < 0
                · have HF := hid (HFail.out (by rw [HIt.out, decide_eq_false (by omega : ¬ le ≤ xi), Bool.false_and]))
                  refine wp_region_grew_from (w0 := w1) (Grew.refl w1) (by kernel_rfl) (by kernel_rfl) ?_
                  repeat (go_big_quiet_step (fail))
                  refine wpQuiet_nil ?_
                  rintro _ ⟨y, rfl⟩
                  clear p0 p1 p2 p3 p4 p5 pl z0 z1
                  have HBz := hid (HBq.out.grew ((HW.out.trans HG1.out).trans y.grew))
                  have t0 := HBz.out.cell 0
                  have t1 := HBz.out.cell 1
                  have t2 := HBz.out.cell 2
                  have t3 := HBz.out.cell 3
                  have t4 := HBz.out.cell 4
                  have tl := HBz.out.lt
                  have tf := HBz.out.frozen
                  simp only [List.getElem?_toArray, List.getElem?_cons_zero, List.getElem?_cons_succ] at t0 t1 t2 t3 t4
                  go_wp2_with fail
                  refine bodyPost_ret (v := .tuple #[.agg #[.slice none 0 0, .int .i64 0, .slice none 0 0, .slice none 0 0, .slice none 0 0], .int .i64 1]) (res_rLoad _ gb rfl _ rfl _ _ _ _ _ _ (HBz.out.put5 _ _ _ _ _)) rfl ?_
                  exact HBad.out _ (HDone.out _ HBz.out (((HG3.out.trans HW.out).trans HG1.out).trans y.grew)) 1 (by decide) HF.out
                · by_cases c2 : (65535 : Int) < xi
                  · have HF := hid (HFail.out (by rw [HIt.out, decide_eq_false (by omega : ¬ xi < 65536), Bool.false_and, Bool.and_false]))
                    refine wp_region_grew_from (w0 := w1) (Grew.refl w1) (by kernel_rfl) (by kernel_rfl) ?_
                    repeat (go_big_quiet_step (fail))
                    refine wpQuiet_nil ?_
                    rintro _ ⟨y, rfl⟩
                    clear p0 p1 p2 p3 p4 p5 pl z0 z1
                    have HBz := hid (HBq.out.grew ((HW.out.trans HG1.out).trans y.grew))
                    have t0 := HBz.out.cell 0
                    have t1 := HBz.out.cell 1
                    have t2 := HBz.out.cell 2
                    have t3 := HBz.out.cell 3
                    have t4 := HBz.out.cell 4
                    have tl := HBz.out.lt
                    have tf := HBz.out.frozen
                    simp only [List.getElem?_toArray, List.getElem?_cons_zero, List.getElem?_cons_succ] at t0 t1 t2 t3 t4
                    go_wp2_with fail
                    refine bodyPost_ret (v := .tuple #[.agg #[.slice none 0 0, .int .i64 0, .slice none 0 0, .slice none 0 0, .slice none 0 0], .int .i64 1]) (res_rLoad _ gb rfl _ rfl _ _ _ _ _ _ (HBz.out.put5 _ _ _ _ _)) rfl ?_
                    exact HBad.out _ (HDone.out _ HBz.out (((HG3.out.trans HW.out).trans HG1.out).trans y.grew)) 1 (by decide) HF.out
                  · by_cases c3 : xi ≤ pv
                    · have HF := hid (HFail.out (by rw [HIt.out, decide_eq_false (by omega : ¬ le ≤ xi), Bool.false_and]))
                      refine wp_region_grew_from (w0 := w1) (Grew.refl w1) (by kernel_rfl) (by kernel_rfl) ?_
                      repeat (go_big_quiet_step (fail))
                      refine wpQuiet_nil ?_
                      rintro _ ⟨y, rfl⟩
                      clear p0 p1 p2 p3 p4 p5 pl z0 z1
                      have HBz := hid (HBq.out.grew ((HW.out.trans HG1.out).trans y.grew))
                      have t0 := HBz.out.cell 0
                      have t1 := HBz.out.cell 1
                      have t2 := HBz.out.cell 2
                      have t3 := HBz.out.cell 3
                      have t4 := HBz.out.cell 4
                      have tl := HBz.out.lt
                      have tf := HBz.out.frozen
                      simp only [List.getElem?_toArray, List.getElem?_cons_zero, List.getElem?_cons_succ] at t0 t1 t2 t3 t4
                      go_wp2_with fail
                      refine bodyPost_ret (v := .tuple #[.agg #[.slice none 0 0, .int .i64 0, .slice none 0 0, .slice none 0 0, .slice none 0 0], .int .i64 1]) (res_rLoad _ gb rfl _ rfl _ _ _ _ _ _ (HBz.out.put5 _ _ _ _ _)) rfl ?_
                      exact HBad.out _ (HDone.out _ HBz.out (((HG3.out.trans HW.out).trans HG1.out).trans y.grew)) 1 (by decide) HF.out
                    · rw [decide_eq_true (by omega : le ≤ xi), Bool.true_and, decide_eq_true (by omega : xi < 65536), Bool.true_and] at HIt
                      clear hle hpv
                      cases bm
                      · have HF := hid (HFail.out (by rw [HIt.out, Bool.false_and]))
                        refine wp_region_grew_from (w0 := w1) (Grew.refl w1) (by kernel_rfl) (by kernel_rfl) ?_
                        repeat (go_big_quiet_step ((go_at_call 54; exact Calls.grew (After.grew _) (HMy.out _ (HG1.out.trans (After.grew _))))))
                        refine wpQuiet_nil ?_
                        rintro _ ⟨y, rfl⟩
                        clear p0 p1 p2 p3 p4 p5 pl z0 z1
                        have HBz := hid (HBq.out.grew ((HW.out.trans HG1.out).trans y.grew))
                        have t0 := HBz.out.cell 0
                        have t1 := HBz.out.cell 1
                        have t2 := HBz.out.cell 2
                        have t3 := HBz.out.cell 3
                        have t4 := HBz.out.cell 4
                        have tl := HBz.out.lt
                        have tf := HBz.out.frozen
                        simp only [List.getElem?_toArray, List.getElem?_cons_zero, List.getElem?_cons_succ] at t0 t1 t2 t3 t4
                        go_wp2_with fail
                        refine bodyPost_ret (v := .tuple #[.agg #[.slice none 0 0, .int .i64 0, .slice none 0 0, .slice none 0 0, .slice none 0 0], .int .i64 1]) (res_rLoad _ gb rfl _ rfl _ _ _ _ _ _ (HBz.out.put5 _ _ _ _ _)) rfl ?_
                        exact HBad.out _ (HDone.out _ HBz.out (((HG3.out.trans HW.out).trans HG1.out).trans y.grew)) 1 (by decide) HF.out
                      · rw [Bool.true_and] at HIt
                        have hh := HHd.out rfl
                        obtain ⟨j, rfl⟩ : ∃ j : Nat, lev = (j : Int) := ⟨lev.toNat, by omega⟩
                        have hjn : j < cs.length := by rw [← EKN.out]; omega
                        obtain ⟨a2, cj, ea2, hcj, -, -⟩ := int_at HC.out ((HG3.out.trans HW.out).trans HG1.out) hjn
                        subst ea2
                        have HInt : Hid (∀ W, Grew w1 W → W.cell? (a2.add j) = some (.int .i64 cj) ∧ a2.block < W.heap.size) := hid (fun W hW => by
                          obtain ⟨a3, c3, h1, h2, h3, h4⟩ := int_at HC.out (((HG3.out.trans HW.out).trans HG1.out).trans hW) hjn
                          cases h1
                          rw [hcj] at h2
                          cases h2
                          exact ⟨h3, h4⟩)
                        rw [Int.toNat_natCast, List.getD_eq_getElem?_getD, hcj, Option.getD_some] at HIt
                        have g3 : (j : Int) < (kn : Int) := by omega
                        clear hh hjn hcj HHd
                        have y0 := fun (y : After w1) => (HInt.out y.w y.grew).1
                        have y1 := fun (y : After w1) => (HInt.out y.w y.grew).2
                        have HIb : Hid (Ob.inB xh cj = (decide (0 ≤ xh) && decide (xh < cj))) := hid rfl
                        rw [HIb.out] at HIt
                        by_cases c5 : xh < 0
                        · have HF := hid (HFail.out (by rw [HIt.out, decide_eq_false (by omega), Bool.false_and]))
                          refine wp_region_grew_from (w0 := w1) (Grew.refl w1) (by kernel_rfl) (by kernel_rfl) ?_
                          repeat (go_big_quiet_step ((go_at_call 54; exact Calls.grew (After.grew _) (HMy.out _ (HG1.out.trans (After.grew _))))))
                          refine wpQuiet_nil ?_
                          rintro _ ⟨y, rfl⟩
                          clear p0 p1 p2 p3 p4 p5 pl z0 z1 y0 y1
                          have HBz := hid (HBq.out.grew ((HW.out.trans HG1.out).trans y.grew))
                          have t0 := HBz.out.cell 0
                          have t1 := HBz.out.cell 1
                          have t2 := HBz.out.cell 2
                          have t3 := HBz.out.cell 3
                          have t4 := HBz.out.cell 4
                          have tl := HBz.out.lt
                          have tf := HBz.out.frozen
                          simp only [List.getElem?_toArray, List.getElem?_cons_zero, List.getElem?_cons_succ] at t0 t1 t2 t3 t4
                          go_wp2_with fail
                          refine bodyPost_ret (v := .tuple #[.agg #[.slice none 0 0, .int .i64 0, .slice none 0 0, .slice none 0 0, .slice none 0 0], .int .i64 1]) (res_rLoad _ gb rfl _ rfl _ _ _ _ _ _ (HBz.out.put5 _ _ _ _ _)) rfl ?_
                          exact HBad.out _ (HDone.out _ HBz.out (((HG3.out.trans HW.out).trans HG1.out).trans y.grew)) 1 (by decide) HF.out
                        · by_cases c6 : cj ≤ xh
                          · have HF := hid (HFail.out (by rw [HIt.out, decide_eq_false (by omega : ¬ xh < cj), Bool.and_false]))
                            refine wp_region_grew_from (w0 := w1) (Grew.refl w1) (by kernel_rfl) (by kernel_rfl) ?_
                            repeat (go_big_quiet_step ((go_at_call 54; exact Calls.grew (After.grew _) (HMy.out _ (HG1.out.trans (After.grew _))))))
                            refine wpQuiet_nil ?_
                            rintro _ ⟨y, rfl⟩
                            clear p0 p1 p2 p3 p4 p5 pl z0 z1 y0 y1
                            have HBz := hid (HBq.out.grew ((HW.out.trans HG1.out).trans y.grew))
                            have t0 := HBz.out.cell 0
                            have t1 := HBz.out.cell 1
                            have t2 := HBz.out.cell 2
                            have t3 := HBz.out.cell 3
                            have t4 := HBz.out.cell 4
                            have tl := HBz.out.lt
                            have tf := HBz.out.frozen
                            simp only [List.getElem?_toArray, List.getElem?_cons_zero, List.getElem?_cons_succ] at t0 t1 t2 t3 t4
                            go_wp2_with fail
                            refine bodyPost_ret (v := .tuple #[.agg #[.slice none 0 0, .int .i64 0, .slice none 0 0, .slice none 0 0, .slice none 0 0], .int .i64 1]) (res_rLoad _ gb rfl _ rfl _ _ _ _ _ _ (HBz.out.put5 _ _ _ _ _)) rfl ?_
                            exact HBad.out _ (HDone.out _ HBz.out (((HG3.out.trans HW.out).trans HG1.out).trans y.grew)) 1 (by decide) HF.out
                          · have HF := hid (HOk.out (by rw [HIt.out, decide_eq_true (by omega : 0 ≤ xh), decide_eq_true (by omega : xh < cj)]; rfl))
                            have c6' : ¬ cj ≤ xh := c6
                            refine wp_region_grew_from (w0 := w1) (Grew.refl w1) (by kernel_rfl) (by kernel_rfl) ?_
                            repeat (go_big_quiet_step ((go_at_call 54; exact Calls.grew (After.grew _) (HMy.out _ (HG1.out.trans (After.grew _))))))
                            refine wpQuiet_nil ?_
                            rintro _ ⟨y, rfl⟩
                            clear p0 p1 p2 p3 p4 p5 pl z0 z1 y0 y1
                            go_wp2_with fail
                            go_round
                            case rel => exact ⟨i + 1, by go_num, by omega, HF, hid ((HW.out.trans HG1.out).trans y.grew)⟩
                            case measure => simp [intOf]; omega
            · obtain rfl : m = i := by omega
              have HIa := hid (show itemsB kn cs 0 (ivI l) = true by
                have h1 := HIs.out
                rwa [List.take_of_length_le (by rw [ivI_len, ← EM.out]; exact Nat.le_refl _)] at h1)
              have HLC4 := hid (HLC3.out HIa.out)
              have HGw := hid (HG3.out.trans HW.out)
              have HBqw := hid (HBq.out.grew HW.out)
              have HBhw := hid (HBh4.out.grew HW.out)
              have HG25 := hid (HG24.out.trans HW.out)
              have p0 := HBhw.out.cell 0
              have p1 := HBhw.out.cell 1
              have p2 := HBhw.out.cell 2
              have p3 := HBhw.out.cell 3
              have p4 := HBhw.out.cell 4
              have pl := HBhw.out.lt
              have pf := HBhw.out.frozen
              simp only [List.getElem?_toArray, List.getElem?_cons_zero, List.getElem?_cons_succ] at p0 p1 p2 p3 p4
              go_upto_region 18 with fail
              clear p0 p1 p2 p3 p4 pl pf
              have HBs : Hid (Blk ((wr.setCell ⟨gh, 3, none⟩ (.slice Ai m ci)).setCell ⟨gh, 4, none⟩ (.slice A2 kn c2)) gh 53 #[.slice U kn cu, .int .i64 room, .slice Q kn cQ, .slice Ai m ci, .slice A2 kn c2]) := hid (by have h1 := (HBhw.out.put 3 (.slice Ai m ci)).put 4 (.slice A2 kn c2); simpa using h1)
              have hks : Kept (fun k => k = gh) wr ((wr.setCell ⟨gh, 3, none⟩ (.slice Ai m ci)).setCell ⟨gh, 4, none⟩ (.slice A2 kn c2)) := ((Kept.refl (fun k => k = gh) wr).setCell (p := ⟨gh, 3, none⟩) (fun _ => rfl) _).setCell (p := ⟨gh, 4, none⟩) (fun _ => rfl) _
              have HBt := hid (HBqw.out.kept hks HLh.out.2.1)
              have HGs := hid (hks.grew HGw.out (fun k e => by rw [e]; exact HLh.out.1))
              have HKs := hid hks
              clear hks HBqw HBhw
              generalize (wr.setCell ⟨gh, 3, none⟩ (.slice Ai m ci)).setCell ⟨gh, 4, none⟩ (.slice A2 kn c2) = w5 at *
              have HK5 : Hid (Kept (fun k => k = gh) w2 w5) := hid ((Kept.of_grew HG25.out : Kept (fun k => k = gh) w2 wr).next HKs.out (fun k _ e => e))
              have HOv : Hid (∀ W, Grew w5 W → Calls Tryz.prog 55 #[.agg #[.slice U kn cu, .int .i64 room, .slice Q kn cQ, .slice Ai m ci, .slice A2 kn c2]] W fun e w' => e = .returned (.bool (!fitsAll kn (ivI l) room (qf room quota))) ∧ Grew W w') := hid (fun W hW => by
                have h1 := rOver_c ⟨U, cu, up, room, Q, cQ, cntL kn (qf room quota), Ai, ci, l, A2, c2, cs⟩ W ⟨HU.out.grew (HGs.out.trans hW), (ints_kept HRv.out.q HK5.out (fun hp ad e h => by have h3 := HLh.out.2.2.2; have h4 := HQb.out ad e (by simpa [cntL_len] using hp); replace h : ad.block = gh := h; omega)).grew hW, HI.out.grew (HGs.out.trans hW), HC.out.grew (HGs.out.trans hW), by simp only [cntL_len]; exact EUN.out, by simp only; rw [← EKN.out, ← EUN.out], by simp only; rw [← EUN.out]; exact hn⟩ HS.out (qf room quota) (by simp only; rw [← EUN.out])
                simp only [rvC, cntL_len] at h1
                rw [← EUN.out, ← EM.out, ← EKN.out] at h1
                exact h1)
              obtain ⟨bf, ebf⟩ : ∃ bf, bf = fitsAll kn (ivI l) room (qf room quota) := ⟨_, rfl⟩
              rw [← ebf] at HOv HLC4
              clear ebf
              have p0 := HBs.out.cell 0
              have p1 := HBs.out.cell 1
              have p2 := HBs.out.cell 2
              have p3 := HBs.out.cell 3
              have p4 := HBs.out.cell 4
              have pl := HBs.out.lt
              have pf := HBs.out.frozen
              simp only [List.getElem?_toArray, List.getElem?_cons_zero, List.getElem?_cons_succ] at p0 p1 p2 p3 p4
              cases bf
              · have HC12 := hid (show loadCode up room quota (ivI l) cs = 12 from HLC4.out)
                go_upto_region 19 with (go_at_call 55; refine (HOv.out w5 (Grew.refl _)).mono ?_; rintro e w6 ⟨rfl, hg6⟩)
                have HB6 := hid (HBt.out.grew hg6)
                have HG6 := hid (HGs.out.trans hg6)
                clear hg6 p0 p1 p2 p3 p4 pl pf
                have t0 := HB6.out.cell 0
                have t1 := HB6.out.cell 1
                have t2 := HB6.out.cell 2
                have t3 := HB6.out.cell 3
                have t4 := HB6.out.cell 4
                have tl := HB6.out.lt
                have tf := HB6.out.frozen
                simp only [List.getElem?_toArray, List.getElem?_cons_zero, List.getElem?_cons_succ] at t0 t1 t2 t3 t4
                go_wp2_with fail
                refine bodyPost_ret (v := .tuple #[.agg #[.slice none 0 0, .int .i64 0, .slice none 0 0, .slice none 0 0, .slice none 0 0], .int .i64 12]) (res_rLoad _ gb rfl _ rfl _ _ _ _ _ _ (HB6.out.put5 _ _ _ _ _)) rfl ?_
                exact HBad.out _ (HDone.out _ HB6.out HG6.out) 12 (by decide) HC12.out
              · have HC0 := hid (show loadCode up room quota (ivI l) cs = 0 from HLC4.out)
                go_upto_region 20 with (go_at_call 55; refine (HOv.out w5 (Grew.refl _)).mono ?_; rintro e w6 ⟨rfl, hg6⟩)
                have HB6 := hid (HBt.out.grew hg6)
                have HBh6 := hid (HBs.out.grew hg6)
                have HG6 := hid (HGs.out.trans hg6)
                have HK6 := hid (HK5.out.next (Kept.of_grew hg6 : Kept (fun k => k = gh) w5 w6) (fun k _ e => e))
                clear hg6 p0 p1 p2 p3 p4 pl pf
                have p0 := HBh6.out.cell 0
                have p1 := HBh6.out.cell 1
                have p2 := HBh6.out.cell 2
                have p3 := HBh6.out.cell 3
                have p4 := HBh6.out.cell 4
                have pl := HBh6.out.lt
                have pf := HBh6.out.frozen
                simp only [List.getElem?_toArray, List.getElem?_cons_zero, List.getElem?_cons_succ] at p0 p1 p2 p3 p4
                have t0 := HB6.out.cell 0
                have t1 := HB6.out.cell 1
                have t2 := HB6.out.cell 2
                have t3 := HB6.out.cell 3
                have t4 := HB6.out.cell 4
                have tl := HB6.out.lt
                have tf := HB6.out.frozen
                simp only [List.getElem?_toArray, List.getElem?_cons_zero, List.getElem?_cons_succ] at t0 t1 t2 t3 t4
                go_wp2_with fail
                refine bodyPost_ret (v := .tuple #[.agg #[.slice U kn cu, .int .i64 room, .slice Q kn cQ, .slice Ai m ci, .slice A2 kn c2], .int .i64 0]) (res_rLoad _ gb rfl _ rfl _ _ _ _ _ _ (HB6.out.put5 _ _ _ _ _)) rfl ?_
                have hk : Kept (fun k => k = gb) w6 (((((w6.setCell ⟨gb, 0, none⟩ (.slice U kn cu)).setCell ⟨gb, 1, none⟩ (.int .i64 room)).setCell ⟨gb, 2, none⟩ (.slice Q kn cQ)).setCell ⟨gb, 3, none⟩ (.slice Ai m ci)).setCell ⟨gb, 4, none⟩ (.slice A2 kn c2)) := kept5 (Kept.refl (fun k => k = gb) w6) (fun _ => rfl) _ _ _ _ _
                have hgf := hk.grew HG6.out (fun k e => by rw [e, EGB.out]; exact Nat.le_refl _)
                have hk2 := (HK6.out.mono (fun k _ e => Or.inl e) : Kept (fun k => k = gh ∨ k = gb) w2 w6).next hk (fun k _ e => .inr e)
                unfold RLoadV
                rw [if_pos HC0.out]
                refine ⟨⟨U, cu, up, room, Q, cQ, cntL kn (qf room quota), Ai, ci, l, A2, c2, cs⟩, by unfold rvC; simp only [cntL_len]; rw [← EUN.out, ← EM.out, ← EKN.out], ⟨HU.out.grew hgf, ints_kept HRv.out.q hk2 (fun hp ad e h => by have h3 := HLh.out.2.2; have h4 := HQb.out ad e (by simpa [cntL_len] using hp); have h5 := HQf.out ad e; replace h : ad.block = gh ∨ ad.block = gb := h; omega), HI.out.grew hgf, HC.out.grew hgf, by simp only [cntL_len]; exact EUN.out, by simp only; rw [← EKN.out, ← EUN.out], by simp only; rw [← EUN.out]; exact hn⟩, rfl, rfl, by simp only; rw [← EUN.out], rfl, rfl, hgf⟩
    · have f1 : (((kn : Nat) : Int) == ((un : Nat) : Int)) = false := by rw [beq_eq_false_iff_ne]; omega
      have HC1 := hid (show loadCode up room quota (ivI l) cs = 1 by
        rw [HLC.out false (by unfold cntsB; rw [← EKN.out, decide_eq_false hk]; rfl)]
        rfl)
      have t0 := HBq.out.cell 0
      have t1 := HBq.out.cell 1
      have t2 := HBq.out.cell 2
      have t3 := HBq.out.cell 3
      have t4 := HBq.out.cell 4
      have tl := HBq.out.lt
      have tf := HBq.out.frozen
      simp only [List.getElem?_toArray, List.getElem?_cons_zero, List.getElem?_cons_succ] at t0 t1 t2 t3 t4
      go_wp2_with fail
      refine bodyPost_ret (v := .tuple #[.agg #[.slice none 0 0, .int .i64 0, .slice none 0 0, .slice none 0 0, .slice none 0 0], .int .i64 1]) (res_rLoad _ gb rfl _ rfl _ _ _ _ _ _ (HBq.out.put5 _ _ _ _ _)) rfl ?_
      exact HBad.out _ (HDone.out _ HBq.out HG3.out) 1 (by decide) HC1.out
  · have HC1 := hid (show loadCode up room quota (ivI l) cs = newCode up room quota by unfold loadCode; rw [if_neg hnc])
    simp only [hnc, if_false] at HNw
    have HNC := hid hnc
    clear hnc
    obtain ⟨k, ek⟩ : ∃ k, k = newCode up room quota := ⟨_, rfl⟩
    rw [← ek] at HNw HC1 HNC
    have f1 : ((k : Nat) : Int) ≠ 0 := by have := HNC.out; omega
    have f2 : (((k : Nat) : Int) == 0) = false := by rw [beq_eq_false_iff_ne]; exact f1
    clear ek
    have hcall := HNw.out w1 HG1.out
    go_upto_region 2 with (go_at_call 16; refine hcall.mono ?_; rintro e w2 ⟨rfl, hg2⟩; simp only [rvC, rv0, List.length_nil])
    have B2 := Blk.new w2 53 #[.slice none 0 0, .int .i64 0, .slice none 0 0, .slice none 0 0, .slice none 0 0]
    have G2 := hg2.alloc (.cells #[.slice none 0 0, .int .i64 0, .slice none 0 0, .slice none 0 0, .slice none 0 0] 53)
    generalize w2.alloc (.cells #[.slice none 0 0, .int .i64 0, .slice none 0 0, .slice none 0 0, .slice none 0 0] 53) = w3 at *
    obtain ⟨gh, egh⟩ : ∃ gh, gh = w2.heap.size := ⟨_, rfl⟩
    rw [← egh] at B2 ⊢
    have HBh := hid B2
    have HBq := hid (HB1.out.grew G2)
    have HG3 := hid (HG1.out.trans G2)
    clear B2 G2 egh hg2
    have p0 := HBh.out.cell 0
    have p1 := HBh.out.cell 1
    have p2 := HBh.out.cell 2
    have p3 := HBh.out.cell 3
    have p4 := HBh.out.cell 4
    have pl := HBh.out.lt
    have pf := HBh.out.frozen
    simp only [List.getElem?_toArray, List.getElem?_cons_zero, List.getElem?_cons_succ] at p0 p1 p2 p3 p4
    have t0 := HBq.out.cell 0
    have t1 := HBq.out.cell 1
    have t2 := HBq.out.cell 2
    have t3 := HBq.out.cell 3
    have t4 := HBq.out.cell 4
    have tl := HBq.out.lt
    have tf := HBq.out.frozen
    simp only [List.getElem?_toArray, List.getElem?_cons_zero, List.getElem?_cons_succ] at t0 t1 t2 t3 t4
    go_wp2_with fail
    refine bodyPost_ret (v := .tuple #[.agg #[.slice none 0 0, .int .i64 0, .slice none 0 0, .slice none 0 0, .slice none 0 0], .int .i64 ((k : Nat) : Int)]) (res_rLoad _ gb rfl _ rfl _ _ _ _ _ _ (HBq.out.put5 _ _ _ _ _)) rfl ?_
    exact HBad.out _ (HDone.out _ HBq.out HG3.out) k HNC.out HC1.out
end Go.Proofs.YtidnaednldcdfaaGreatDoor

/- Stage 12: the reference's Place, and its New. -/
import Derived.Test.YtidnaednldcdfaaGreatDoorGeA
namespace Go.Proofs.YtidnaednldcdfaaGreatDoor
open Go.RowKit

set_option maxRecDepth 100000 in
set_option maxHeartbeats 4000000 in
theorem rPlace_c (r : RV) (v : Int) (w : World) (h : ItemsAt w r.I r.its) (hl : r.its.length ≤ 100000) : Calls Tryz.prog 25 #[.agg (rvC r), .int .i64 v] w fun e w' => e = .returned (.int .i64 (placeAt (ivI r.its) v)) ∧ Grew w w' := by
  unfold rvC
  obtain ⟨U, cu, up, room, Q, cq, q, I, ci, its, C, cc, cn⟩ := r
  simp only at h hl ⊢
  generalize up.length = un
  generalize q.length = qn
  generalize cn.length = kn
  obtain ⟨n, en⟩ : ∃ n, n = its.length := ⟨_, rfl⟩
  rw [← en] at hl ⊢
  have EN := hid en
  have HI := hid h
  clear h en
  have B1 := Blk.new w 53 #[.slice U un cu, .int .i64 room, .slice Q qn cq, .slice I n ci, .slice C kn cc]
  have G1 := (Grew.refl w).alloc (.cells #[.slice U un cu, .int .i64 room, .slice Q qn cq, .slice I n ci, .slice C kn cc] 53)
  go_enter Tryz.func25, Tryz.ntmps25
  go_upto_region 1 with fail
  generalize w.alloc (.cells #[.slice U un cu, .int .i64 room, .slice Q qn cq, .slice I n ci, .slice C kn cc] 53) = w1 at *
  generalize w.heap.size = g at *
  have HB := hid B1
  have HG := hid G1
  clear B1 G1
  go_wp2_with fail
  go_loopw [5] (fun s5 wr => ∃ (i : Nat), s5 = .int .i64 ((i : Nat) : Int) ∧ i ≤ n ∧ Hid (∀ (j : Nat) (y : Hp.It), j < i → (ivI its)[j]? = some y → y.i ≠ v) ∧ Hid (Grew w1 wr)) (fun s5 _ => n - (intOf s5).toNat)
  case atStart => exact ⟨0, rfl, Nat.zero_le _, hid (fun j _ hj => absurd hj (Nat.not_lt_zero _)), hid (Grew.refl _)⟩
  case round =>
    obtain ⟨i, rfl, hi, HJ, HW⟩ := hrel
    have HBr := hid (HB.out.grew HW.out)
    have p3 := HBr.out.cell 3
    have pl := HBr.out.lt
    simp only [List.getElem?_toArray, List.getElem?_cons_zero, List.getElem?_cons_succ] at p3
    by_cases hlt : i < n
    · have f1 : (i : Int) < (n : Int) := by omega
      obtain ⟨ad, x, rfl, hx, hcl, hb, -, -, -⟩ := iv_at HI.out (HG.out.trans HW.out) (i := i) (by rw [← EN.out]; exact hlt)
      have HX := hid (ivI_at hx)
      have q0 := hcl 0 _ rfl
      rw [add_zero] at q0
      obtain ⟨xi, xh, o, xA, xc⟩ := x
      simp only at q0 HX
      clear hx hcl
      by_cases c1 : xi = v
      · have HE := hid (place_some HX.out c1 (fun j y hj hy => HJ.out j y hj hy)).1
        have hb1 : (xi == v) = true := by rw [beq_iff_eq]; exact c1
        clear c1
        go_wp2_with fail
        go_ret
        exact ⟨by rw [HE.out]; rfl, HG.out.trans HW.out⟩
      · have hb1 : (xi == v) = false := by rw [beq_eq_false_iff_ne]; exact c1
        have HN := hid (show ∀ (j : Nat) (y : Hp.It), j < i + 1 → (ivI its)[j]? = some y → y.i ≠ v from fun j y hj hy => by
          rcases Nat.lt_or_ge j i with h1 | h1
          · exact HJ.out j y h1 hy
          · obtain rfl : j = i := by omega
            rw [HX.out] at hy
            cases hy
            exact c1)
        clear c1
        go_wp2_with fail
        go_round
        case rel => exact ⟨i + 1, by go_num, by omega, HN, HW⟩
        case measure => simp [intOf]; omega
    · have hin : i = n := by omega
      subst hin
      have HE := hid (place_none (L := ivI its) (i := v) (fun k x hx => HJ.out k x (by have := (List.getElem?_eq_some_iff.1 hx).1; rw [ivI_len, ← EN.out] at this; exact this) hx)).1
      go_wp2_with fail
      go_ret
      exact ⟨by rw [HE.out]; rfl, HG.out.trans HW.out⟩
theorem Blk.put5 {w : World} {g : Nat} {t : TypeId} {a0 a1 a2 a3 a4 : Value} (h : Blk w g t #[a0, a1, a2, a3, a4]) (c0 c1 c2 c3 c4 : Value) :
    Blk (((((w.setCell ⟨g, 0, none⟩ c0).setCell ⟨g, 1, none⟩ c1).setCell ⟨g, 2, none⟩ c2).setCell ⟨g, 3, none⟩ c3).setCell ⟨g, 4, none⟩ c4) g t #[c0, c1, c2, c3, c4] := by
  have h1 := ((((h.put 0 c0).put 1 c1).put 2 c2).put 3 c3).put 4 c4
  simpa using h1
theorem kept5 {F : Nat → Prop} {w w2 : World} {g : Nat} (h : Kept F w w2) (hg : g < w.heap.size → F g) (c0 c1 c2 c3 c4 : Value) :
    Kept F w (((((w2.setCell ⟨g, 0, none⟩ c0).setCell ⟨g, 1, none⟩ c1).setCell ⟨g, 2, none⟩ c2).setCell ⟨g, 3, none⟩ c3).setCell ⟨g, 4, none⟩ c4) :=
  ((((h.setCell (p := ⟨g, 0, none⟩) hg c0).setCell (p := ⟨g, 1, none⟩) hg c1).setCell (p := ⟨g, 2, none⟩) hg c2).setCell (p := ⟨g, 3, none⟩) hg c3).setCell (p := ⟨g, 4, none⟩) hg c4
theorem ints_kept {F : Nat → Prop} {w w' : World} {A : Option Addr} {l : List Int} (h : IntsAt w A l) (hk : Kept F w w') (hF : 0 < l.length → ∀ ad, A = some ad → ¬ F ad.block) : IntsAt w' A l := fun hl => by
  obtain ⟨ad, h1, h2, h3⟩ := h hl
  exact ⟨ad, h1, Nat.lt_of_lt_of_le h2 hk.size, h3.kept hk h2 (hF hl ad h1)⟩
def rv0 : RV := ⟨none, 0, [], 0, none, 0, [], none, 0, [], none, 0, []⟩
theorem res_rNew (tmps : Array Value) (g : Nat) (ha : tmps.getD 6 undef = .pointer (some ⟨g, 0, none⟩)) (v : Value) (hv : tmps.getD 7 undef = v) (w : World) (c0 c1 c2 c3 c4 : Value) (hb : Blk w g 53 #[c0, c1, c2, c3, c4]) :
    (results Tryz.f16 tmps).run Tryz.prog w = .ok (.tuple #[.agg #[c0, c1, c2, c3, c4], v]) w := by
  have y0 : w.cell? ⟨g, 0, none⟩ = some c0 := hb.cell 0
  have y1 : w.cell? ⟨g, 1, none⟩ = some c1 := hb.cell 1
  have y2 : w.cell? ⟨g, 2, none⟩ = some c2 := hb.cell 2
  have y3 : w.cell? ⟨g, 3, none⟩ = some c3 := hb.cell 3
  have y4 : w.cell? ⟨g, 4, none⟩ = some c4 := hb.cell 4
  have ha' : tmps[6]?.getD undef = .pointer (some ⟨g, 0, none⟩) := by simpa using ha
  have hv' : tmps[7]?.getD undef = v := by simpa using hv
  simp [results, Tryz.results16, go_sem, *]
/-- A memory of the reference that is being made: its quotas and counts grow. -/
structure NwI (w0 wr : World) (g6 gh : Nat) (U : Option Addr) (un cu : Nat) (room : Int) (i j : Nat) (Q : Option Addr) (cQ : Nat) (C : Option Addr) (cC : Nat) (qs zs : List Value) : Prop where
  b6 : Blk wr g6 53 #[.slice none 0 0, .int .i64 0, .slice none 0 0, .slice none 0 0, .slice none 0 0]
  bh : Blk wr gh 53 #[.slice U un cu, .int .i64 room, .slice Q i cQ, .slice none 0 0, .slice C j cC]
  rq : Row wr w0.heap.size 3 1 Q i cQ qs
  rc : Row wr w0.heap.size 3 1 C j cC zs
  ne : g6 ≠ gh
  dis : ∀ k, AtRow Q k → ¬ AtRow C k
  gr : Grew w0 wr
  l6 : w0.heap.size ≤ g6
  lh : w0.heap.size ≤ gh
theorem NwI.q {w0 wr w1 : World} {g6 gh : Nat} {U : Option Addr} {un cu : Nat} {room : Int} {i j : Nat} {Q : Option Addr} {cQ : Nat} {C : Option Addr} {cC : Nat} {qs zs : List Value} (h : NwI w0 wr g6 gh U un cu room i j Q cQ C cC qs zs) {Q' : Option Addr} {cQ' : Nat} {x : List Value} (hr : Row w1 w0.heap.size 3 1 Q' (i + 1) cQ' (qs ++ x)) (hk : Kept (AtRow Q) wr w1) (ht : RowTo wr Q Q') :
    NwI w0 (w1.setCell ⟨gh, 2, none⟩ (.slice Q' (i + 1) cQ')) g6 gh U un cu room (i + 1) j Q' cQ' C cC (qs ++ x) zs := by
  have n6 : ¬ AtRow Q g6 := fun hk' => by
    obtain ⟨cs, hc⟩ := h.rq.blkAt hk'
    exact absurd (hc.ty h.b6).1 (by decide)
  have nh : ¬ AtRow Q gh := fun hk' => by
    obtain ⟨cs, hc⟩ := h.rq.blkAt hk'
    exact absurd (hc.ty h.bh).1 (by decide)
  have k2 : Kept (fun k => k = gh) w1 (w1.setCell ⟨gh, 2, none⟩ (.slice Q' (i + 1) cQ')) := (Kept.refl (fun k => k = gh) w1).setCell (p := ⟨gh, 2, none⟩) (fun _ => rfl) _
  have hc := h.rc.kept hk (fun g hA hq => h.dis g hq ⟨_, hA, rfl⟩)
  refine ⟨(h.b6.kept hk n6).kept k2 h.ne, ?_, hr.kept k2 (fun g hA e => ?_), hc.kept k2 (fun g hA e => ?_), h.ne, fun k h1 h2 => ?_, k2.grew (hk.grew h.gr (Row.at_base h.rq)) (fun k e => by rw [e]; exact h.lh), h.l6, h.lh⟩
  · have := (h.bh.kept hk nh).put 2 (.slice Q' (i + 1) cQ')
    simpa using this
  · obtain ⟨cs, hx⟩ := hr.blkAt (k := g) ⟨_, hA, rfl⟩
    rw [e] at hx
    exact absurd (hx.ty (h.bh.kept hk nh)).1 (by decide)
  · obtain ⟨cs, hx⟩ := hc.blkAt (k := g) ⟨_, hA, rfl⟩
    rw [e] at hx
    exact absurd (hx.ty (h.bh.kept hk nh)).1 (by decide)
  · rcases rowto_at ht h1 with h3 | h3
    · exact h.dis k h3 h2
    · have := (at_row_lt h.rc k h2).2
      omega
theorem NwI.grew {w0 wr w1 : World} {g6 gh : Nat} {U : Option Addr} {un cu : Nat} {room : Int} {i j : Nat} {Q : Option Addr} {cQ : Nat} {C : Option Addr} {cC : Nat} {qs zs : List Value} (h : NwI w0 wr g6 gh U un cu room i j Q cQ C cC qs zs) (hg : Grew wr w1) : NwI w0 w1 g6 gh U un cu room i j Q cQ C cC qs zs :=
  ⟨h.b6.grew hg, h.bh.grew hg, h.rq.grew hg, h.rc.grew hg, h.ne, h.dis, h.gr.trans hg, h.l6, h.lh⟩
theorem NwI.bq {w0 wr w1 : World} {g6 gh : Nat} {U : Option Addr} {un cu : Nat} {room : Int} {i j : Nat} {Q : Option Addr} {cQ : Nat} {C : Option Addr} {cC : Nat} {qs zs : List Value} (h : NwI w0 wr g6 gh U un cu room i j Q cQ C cC qs zs) (hk : Kept (AtRow Q) wr w1) : Blk w1 gh 53 #[.slice U un cu, .int .i64 room, .slice Q i cQ, .slice none 0 0, .slice C j cC] := h.bh.kept hk (fun hk' => by
    obtain ⟨cs, hc⟩ := h.rq.blkAt hk'
    exact absurd (hc.ty h.bh).1 (by decide))
theorem NwI.bc {w0 wr w1 : World} {g6 gh : Nat} {U : Option Addr} {un cu : Nat} {room : Int} {i j : Nat} {Q : Option Addr} {cQ : Nat} {C : Option Addr} {cC : Nat} {qs zs : List Value} (h : NwI w0 wr g6 gh U un cu room i j Q cQ C cC qs zs) (hk : Kept (AtRow C) wr w1) : Blk w1 gh 53 #[.slice U un cu, .int .i64 room, .slice Q i cQ, .slice none 0 0, .slice C j cC] := h.bh.kept hk (fun hk' => by
    obtain ⟨cs, hc⟩ := h.rc.blkAt hk'
    exact absurd (hc.ty h.bh).1 (by decide))
theorem NwI.c {w0 wr w1 : World} {g6 gh : Nat} {U : Option Addr} {un cu : Nat} {room : Int} {i j : Nat} {Q : Option Addr} {cQ : Nat} {C : Option Addr} {cC : Nat} {qs zs : List Value} (h : NwI w0 wr g6 gh U un cu room i j Q cQ C cC qs zs) {C' : Option Addr} {cC' : Nat} {x : List Value} (hr : Row w1 w0.heap.size 3 1 C' (j + 1) cC' (zs ++ x)) (hk : Kept (AtRow C) wr w1) (ht : RowTo wr C C') :
    NwI w0 (w1.setCell ⟨gh, 4, none⟩ (.slice C' (j + 1) cC')) g6 gh U un cu room i (j + 1) Q cQ C' cC' qs (zs ++ x) := by
  have n6 : ¬ AtRow C g6 := fun hk' => by
    obtain ⟨cs, hc⟩ := h.rc.blkAt hk'
    exact absurd (hc.ty h.b6).1 (by decide)
  have nh : ¬ AtRow C gh := fun hk' => by
    obtain ⟨cs, hc⟩ := h.rc.blkAt hk'
    exact absurd (hc.ty h.bh).1 (by decide)
  have k2 : Kept (fun k => k = gh) w1 (w1.setCell ⟨gh, 4, none⟩ (.slice C' (j + 1) cC')) := (Kept.refl (fun k => k = gh) w1).setCell (p := ⟨gh, 4, none⟩) (fun _ => rfl) _
  have hc := h.rq.kept hk (fun g hA hq => h.dis g ⟨_, hA, rfl⟩ hq)
  refine ⟨(h.b6.kept hk n6).kept k2 h.ne, ?_, hc.kept k2 (fun g hA e => ?_), hr.kept k2 (fun g hA e => ?_), h.ne, fun k h1 h2 => ?_, k2.grew (hk.grew h.gr (Row.at_base h.rc)) (fun k e => by rw [e]; exact h.lh), h.l6, h.lh⟩
  · have := (h.bh.kept hk nh).put 4 (.slice C' (j + 1) cC')
    simpa using this
  · obtain ⟨cs, hx⟩ := hc.blkAt (k := g) ⟨_, hA, rfl⟩
    rw [e] at hx
    exact absurd (hx.ty (h.bh.kept hk nh)).1 (by decide)
  · obtain ⟨cs, hx⟩ := hr.blkAt (k := g) ⟨_, hA, rfl⟩
    rw [e] at hx
    exact absurd (hx.ty (h.bh.kept hk nh)).1 (by decide)
  · rcases rowto_at ht h2 with h3 | h3
    · exact h.dis k h1 h3
    · have := (at_row_lt h.rq k h1).2
      omega
/-- What the reference's New answers. -/
def RNewV (w : World) (U : Option Addr) (cu : Nat) (up : List Nat) (room : Int) (quota : List Int) (e : Ending) (w' : World) : Prop :=
  if newCode up room quota = 0 then ∃ r : RV, e = .returned (.tuple #[.agg (rvC r), .int .i64 0]) ∧ RvAt w' r ∧ r.U = U ∧ r.cu = cu ∧ r.up = up ∧ r.room = room ∧ r.q = cntL up.length (qf room quota) ∧ r.its = [] ∧ r.I = none ∧ r.ci = 0 ∧ r.cn = cntL up.length (fun _ => 0) ∧ (∀ ad, r.Q = some ad → w.heap.size ≤ ad.block) ∧ (∀ k, RFp r k → w.heap.size ≤ k) ∧ Grew w w'
  else e = .returned (.tuple #[.agg (rvC rv0), .int .i64 ((newCode up room quota : Nat) : Int)]) ∧ Grew w w'
theorem rNewV_bad {w w' : World} {U : Option Addr} {cu : Nat} {up : List Nat} {room : Int} {quota : List Int} (hg : Grew w w') (k : Nat) (hk : k ≠ 0) (h : newCode up room quota = k) : RNewV w U cu up room quota (.returned (.tuple #[.agg #[.slice none 0 0, .int .i64 0, .slice none 0 0, .slice none 0 0, .slice none 0 0], .int .i64 ((k : Nat) : Int)])) w' := by
  unfold RNewV
  rw [h, if_neg hk]
  exact ⟨rfl, hg⟩
end Go.Proofs.YtidnaednldcdfaaGreatDoor

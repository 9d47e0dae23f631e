/- Stage 9, the document's own: Decode. Written by tools/gen_muk.py. -/
import Derived.Test.YtjdgcgpidhljpaaGreatDoorMg51
import Derived.Test.YtjdgcgpidhljpaaGreatDoorMtL
import Derived.BigQuiet
namespace Go.Proofs.YtjdgcgpidhljpaaGreatDoor
open Go.RowKit

theorem kq_wrap {n : Int} (h1 : -1 ≤ n) (h2 : n ≤ 64) : IntKind.u8.wrap n = ((Mt.kq n : Nat) : Int) ∧ Mt.kq n < 256 := by
  unfold Mt.kq
  split
  · obtain rfl : n = -1 := by omega
    exact ⟨by decide, by decide⟩
  · refine ⟨?_, by omega⟩
    unfold IntKind.wrap
    simp [IntKind.bits, IntKind.signed]
    omega
theorem at_pos {b : List Nat} {a : Int} {st : Pk.St} (h : AtSt b a st) : (0 ≤ a ∧ ∃ r, st = some r) ∨ (a = -1 ∧ st = none) := by
  rcases h with h | ⟨k, _, rfl, h⟩
  · exact .inr h
  · exact .inl ⟨by omega, _, h⟩
theorem MethArg.fitA {w : World} {v : MV} (h : MethArg w v) (hf : Mt.fitsAll v.m = true) : MethAt w v := by
  obtain ⟨h1, h2, h3, h4, h5⟩ := Mt.fits_parts hf
  have h2' : v.lits.length ≤ 64 := h2
  have h1' : v.sel.size ≤ 1024 := h1
  have h4' : v.vs.length ≤ 64 := by
    have h4'' : (v.vs.map (·.p)).length ≤ 64 := h4
    rwa [List.length_map] at h4''
  refine ⟨by omega, ⟨fun x hx => ⟨h.lits.1 x hx, ?_⟩, h.lits.2⟩, by omega, ⟨fun q hq => ⟨(h.parts.1 q hq).1, (h.parts.1 q hq).2.1, (h.parts.1 q hq).2.2, ?_⟩, h.parts.2⟩, by omega⟩
  · have := h3 x hx
    simp only [Mt.litFits, Bool.and_eq_true, decide_eq_true_eq] at this
    omega
  · have := h5 q.p (List.mem_map.2 ⟨q, hq, rfl⟩)
    simp only [Mt.partFits, Bool.and_eq_true, decide_eq_true_eq] at this
    omega
set_option maxRecDepth 100000 in
set_option maxHeartbeats 16000000 in
theorem rdecode9_c (A : Option Addr) (c : Nat) (b : List Nat) (w : World) (h : BytesAt w w.heap.size A b) (hc : b.length ≤ c) (hm : c ≤ 9223372036854775807) (hl : b.length ≤ 1000000) :
    Calls Tryz.prog 14 #[.slice A b.length c] w (RDec9 w b) := by
  have hb256 := hid h.1
  have HTn := hid (fun (W : World) (hg : Grew w W) (a : Int) (st : Pk.St) (ha : AtSt b a st) => rtn_c (h.grew hg) hc hm (by omega) ha)
  have HTt := hid (fun (W : World) (hg : Grew w W) (a : Int) (st : Pk.St) (ha : AtSt b a st) => rtt_c (h.grew hg) hc hm (by omega) ha)
  have HCv := hid (fun (W : World) (hg : Grew w W) => conv6 A c b W (NumsAt.of_bytes (h.grew hg)))
  obtain ⟨G, hG⟩ : ∃ G, G = w.heap.size := ⟨_, rfl⟩
  obtain ⟨w4, hw4⟩ : ∃ w4, w4 = (((w.alloc (.cells #[.string ⟨#[]⟩, .slice none 0 0, .slice none 0 0] 25)).alloc (.cells #[.string ⟨#[]⟩, .slice none 0 0, .slice none 0 0] 25)).alloc (.cells #[.int .u8 2, .int .i64 0, .slice none 0 0, .string ⟨#[]⟩, .int .i64 1024, .int .i64 0, .int .i64 0] 80)).alloc (.cells #[.int .u8 0, .int .i64 0, .slice none 0 0, .string ⟨#[]⟩, .int .i64 0, .int .i64 (-1), .int .i64 64] 80) := ⟨_, rfl⟩
  have hb0 := Blk.new w 25 #[.string ⟨#[]⟩, .slice none 0 0, .slice none 0 0]
  have hb1 := Blk.new (w.alloc (.cells #[.string ⟨#[]⟩, .slice none 0 0, .slice none 0 0] 25)) 25 #[.string ⟨#[]⟩, .slice none 0 0, .slice none 0 0]
  have hb2 := Blk.new ((w.alloc (.cells #[.string ⟨#[]⟩, .slice none 0 0, .slice none 0 0] 25)).alloc (.cells #[.string ⟨#[]⟩, .slice none 0 0, .slice none 0 0] 25)) 80 #[.int .u8 2, .int .i64 0, .slice none 0 0, .string ⟨#[]⟩, .int .i64 1024, .int .i64 0, .int .i64 0]
  have hb3 := Blk.new (((w.alloc (.cells #[.string ⟨#[]⟩, .slice none 0 0, .slice none 0 0] 25)).alloc (.cells #[.string ⟨#[]⟩, .slice none 0 0, .slice none 0 0] 25)).alloc (.cells #[.int .u8 2, .int .i64 0, .slice none 0 0, .string ⟨#[]⟩, .int .i64 1024, .int .i64 0, .int .i64 0] 80)) 80 #[.int .u8 0, .int .i64 0, .slice none 0 0, .string ⟨#[]⟩, .int .i64 0, .int .i64 (-1), .int .i64 64]
  simp only [World.size_alloc, ← hG] at hb0 hb1 hb2 hb3
  have HRB : Hid (RB w G (G + 1 + 1) (G + 1 + 1 + 1) w4) := hid (by
    rw [hw4]
    exact ⟨hb0.grew ((((Grew.refl _).alloc _).alloc _).alloc _), hb2.grew ((Grew.refl _).alloc _), hb3, ((((Grew.refl w).alloc _).alloc _).alloc _).alloc _⟩)
  have HB1 : Hid (Blk w4 (G + 1) 25 #[.string ⟨#[]⟩, .slice none 0 0, .slice none 0 0]) := hid (by rw [hw4]; exact hb1.grew (((Grew.refl _).alloc _).alloc _))
  have HSz : Hid (w4.heap.size = G + 1 + 1 + 1 + 1) := hid (by rw [hw4, hG]; simp only [World.size_alloc])
  have HG := hid hG
  have HI0 : Hid (AtSt b 0 (some b)) := hid (AtSt.start b)
  clear h hc hm hl hb0 hb1 hb2 hb3 hG
  generalize hbl : b.length = bl at *
  clear hbl
  go_enter Tryz.func14, Tryz.ntmps14
  go_wp2_with fail
  rw [← hw4, ← HG.out]
  clear hw4
  obtain ⟨Y, hY⟩ : ∃ Y, Y = G + 1 + 1 + 1 := ⟨_, rfl⟩
  obtain ⟨X, hX⟩ : ∃ X, X = G + 1 + 1 := ⟨_, rfl⟩
  obtain ⟨M, hM⟩ : ∃ M, M = G + 1 := ⟨_, rfl⟩
  rw [← hY, ← hX] at HRB
  rw [← hM] at HB1
  rw [← hY, ← hX, ← hM]
  have hGM : G < M := by omega
  have hMX : M < X := by omega
  have hXY : X < Y := by omega
  have hYs : Y < w4.heap.size := by rw [HSz.out, hY]; omega
  have HYs := hid hYs
  clear hY hX hM HSz hYs
  refine (HTt.out w4 HRB.out.gr 0 _ HI0.out).mono ?_
  rintro e w5 ⟨Af, cf, a1, t1, st1, s, rfl, H1, hg5⟩
  have HD1 := hid (Mt.d1 hb256.out H1.out.2.1)
  rw [← H1.out.2.2.1] at HD1
  obtain ⟨F, hF⟩ : ∃ F, F = w5.heap.size := ⟨_, rfl⟩
  obtain ⟨W6, hW6⟩ : ∃ W6, W6 = (w5.setCell ⟨M, 0, none⟩ (.string s)).alloc (.cells #[.int .u8 2, .int .i64 0, .slice Af 0 cf, .string s, .int .i64 0, .int .i64 0, .int .i64 0] 80) := ⟨_, rfl⟩
  have hYF : Y < F := by rw [hF]; exact Nat.lt_of_lt_of_le HYs.out hg5.below.size
  have HR5 := hid (HRB.out.grew hg5)
  have HM5 := hid (HB1.out.grew hg5)
  have hbF := Blk.new (w5.setCell ⟨M, 0, none⟩ (.string s)) 80 #[.int .u8 2, .int .i64 0, .slice Af 0 cf, .string s, .int .i64 0, .int .i64 0, .int .i64 0]
  rw [World.size_setCell, ← hF] at hbF
  have HF6 : Hid (Blk W6 F 80 #[.int .u8 2, .int .i64 0, .slice Af 0 cf, .string s, .int .i64 0, .int .i64 0, .int .i64 0]) := hid (by rw [hW6]; exact hbF)
  have hk6 : Kept (· = M) w5 (w5.setCell ⟨M, 0, none⟩ (.string s)) := (Kept.refl (· = M) _).setCell (p := ⟨M, 0, none⟩) (fun _ => rfl) _
  have HM6 : Hid (Blk W6 M 25 #[.string s, .slice none 0 0, .slice none 0 0]) := hid (by
    rw [hW6]
    have := (HM5.out.put 0 (.string s)).grew ((Grew.refl _).alloc (.cells #[.int .u8 2, .int .i64 0, .slice Af 0 cf, .string s, .int .i64 0, .int .i64 0, .int .i64 0] 80))
    simpa using this)
  have HR6 : Hid (RB w G X Y W6) := hid (by
    rw [hW6]
    exact (HR5.out.kept hk6 (by omega) (by omega) (by omega) (fun k e => by have := HG.out; omega)).grew ((Grew.refl _).alloc _))
  have m0 := HM5.out.cell 0
  have kz := HM5.out.frozen 0
  have lM := HM5.out.lt
  have lY := HR5.out.num.lt
  simp only [List.getElem?_toArray, List.getElem?_cons_zero] at m0
  obtain ⟨y0, y1, y2, y3, y4, y5, y6, _⟩ := HR5.out.num.seven
  clear hg5 hbF hk6 HRB HB1 HYs
  go_wp2_with fail
  rw [← hF, ← hW6]
  clear hW6 m0 kz lM lY y0 y1 y2 y3 y4 y5 y6 hF
  refine (HTn.out W6 HR6.out.gr a1 _ H1.out.1).mono ?_
  rintro e w7 ⟨A2, c2, a2, n, st2, rfl, H2, hg7⟩
  have HD2 := hid (Mt.d2 hb256.out H2.out.2.1 (fun m hm => (HD1.out m hm).2))
  have HDs : Hid (Mt.If b fun m => s = m.sel) := hid (fun m hm => (HD1.out m hm).1)
  have HS : Hid (s.size ≤ 1024) := hid H1.out.2.2.2.1
  have HR7 := hid (HR6.out.grew hg7)
  have HM7 := hid (HM6.out.grew hg7)
  have HF7 := hid (HF6.out.grew hg7)
  obtain ⟨W8, hW8⟩ : ∃ W8, W8 = ((((((w7.setCell ⟨F, 0, none⟩ (.int .u8 0)).setCell ⟨F, 1, none⟩ (.int .i64 n)).setCell ⟨F, 2, none⟩ (.slice A2 0 c2)).setCell ⟨F, 3, none⟩ (.string ⟨#[]⟩)).setCell ⟨F, 4, none⟩ (.int .i64 0)).setCell ⟨F, 5, none⟩ (.int .i64 0)).setCell ⟨F, 6, none⟩ (.int .i64 0) := ⟨_, rfl⟩
  have hk8 : Kept (· = F) w7 W8 := by rw [hW8]; exact kept7 (Kept.refl (· = F) _) rfl _ _ _ _ _ _ _
  have HF8 : Hid (Blk W8 F 80 #[.int .u8 0, .int .i64 n, .slice A2 0 c2, .string ⟨#[]⟩, .int .i64 0, .int .i64 0, .int .i64 0]) := hid (by rw [hW8]; exact HF7.out.put7 _ _ _ _ _ _ _)
  have HR8 := hid (HR7.out.kept hk8 (by omega) (by omega) (by omega) (fun k e => by have := HG.out; omega))
  have HM8 := hid (HM7.out.kept hk8 (by omega))
  obtain ⟨q0, q1, q2, q3, q4, q5, q6, qf⟩ := HF7.out.seven
  have kf := HF7.out.frozen
  clear hg7 hk8 HR6 HM6 HF6 HR5 HM5 H1 HD1
  go_wp2_with fail
  rw [← hW8]
  clear hW8 q0 q1 q2 q3 q4 q5 q6 qf kf
  obtain ⟨q0, q1, q2, q3, q4, q5, q6, qf⟩ := HF8.out.seven
  go_wp2_with fail
  go_quiet (fail)
  have HQ : Hid (Grew W8 (W8.drewN nq)) := hid (Grew.mk ⟨rfl, rfl, rfl, Nat.le_refl _, fun _ _ => rfl⟩)
  have HR9 := hid (HR8.out.grew HQ.out)
  have HM9 := hid (HM8.out.grew HQ.out)
  have HF9 := hid (HF8.out.grew HQ.out)
  generalize W8.drewN nq = w9 at *
  clear q0 q1 q2 q3 q4 q5 q6 qf HQ HR8 HM8 HF8 HR7 HM7 HF7
  go_wp2_with fail
  obtain ⟨B0, hB0⟩ : ∃ B0, B0 = F + 1 := ⟨_, rfl⟩
  have HFl := hid (show B0 ≤ w9.heap.size by rw [hB0]; exact HF9.out.lt)
  have hFB : F < B0 := by omega
  have HB0 : Hid (B0 = F + 1 ∧ M < B0 ∧ X < B0 ∧ Y < B0 ∧ G < B0) := hid (by omega)
  clear hB0
  go_loopw [8, 9, 11, 12, 13, 14] (fun s8 s9 _ _ _ _ wr => ∃ (i : Nat) (a : Int) (st : Pk.St) (ls : List Mt.Lit) (A' : Option Addr) (c' : Nat), s8 = .int .i64 a ∧ s9 = .int .i64 ((i : Nat) : Int) ∧ i ≤ 64 ∧ Hid (AtSt b a st ∧ Mt.If b (fun m => ls = m.lits.take i ∧ st = some (Mt.encLits (m.lits.drop i) ++ Mt.r3 m)) ∧ ls.length = i ∧ (∀ x ∈ ls, x.k < 256 ∧ x.s.size ≤ 2000)) ∧ Hid (RB w G X Y wr ∧ Blk wr M 25 #[.string s, .slice A' i c', .slice none 0 0] ∧ Blk wr F 80 #[.int .u8 0, .int .i64 n, .slice A2 0 c2, .string ⟨#[]⟩, .int .i64 0, .int .i64 0, .int .i64 0] ∧ Row wr B0 59 2 A' i c' (ls.flatMap litF))) (fun _ s9 _ _ _ _ _ => (n - intOf s9).toNat)
  case atStart => exact ⟨0, a2, st2, [], none, 0, rfl, rfl, by decide, hid ⟨H2.out.1, fun m hm => ⟨rfl, (HD2.out m hm).2⟩, rfl, fun x hx => by cases hx⟩, hid ⟨HR9.out, HM9.out, HF9.out, Row.nil _ _ _ _⟩⟩
  case round =>
    obtain ⟨i, a, st, ls, A', c', rfl, rfl, hi, HI, HJ⟩ := hrel
    clear HR9 HM9 HF9 HFl
    go_upto_region 8 with fail
    go_cut [54] from 48 to 82 (fun s54 wx => s54 = .bool (decide ((i : Int) < n) && decide (0 ≤ a)) ∧ wx = wr)
    case first =>
      by_cases g1 : (i : Int) < n
      · by_cases g2 : 0 ≤ a
        · go_wp2_with fail
          go_meet
          case rel => exact ⟨by rw [decide_eq_true g1, decide_eq_true g2]; rfl, rfl⟩
        · go_wp2_with fail
          go_meet
          case rel => exact ⟨by rw [show decide (0 ≤ a) = false from decide_eq_false (by omega), Bool.and_false], rfl⟩
      · go_wp2_with fail
        go_meet
        case rel => exact ⟨by rw [show decide ((i : Int) < n) = false from decide_eq_false (by omega), Bool.false_and], rfl⟩
    case rest =>
      obtain ⟨rfl, rfl⟩ := hcut
      obtain ⟨hR, hM, hF, hrow⟩ := HJ.out
      have hAr : ∀ k, AtRow A' k → B0 ≤ k := fun k hk => Row.at_base hrow k hk
      have HAr := hid hAr
      have HR := hid hR
      have HM := hid hM
      have HF := hid hF
      have HRow := hid hrow
      have lY := hR.num.lt
      obtain ⟨y0, y1, y2, y3, y4, y5, y6, yf⟩ := hR.num.seven
      clear hR hM hF hrow HJ hAr
      by_cases g : (i : Int) < n ∧ 0 ≤ a
      · obtain ⟨g1, g2⟩ := g
        rw [decide_eq_true g1, decide_eq_true g2, Bool.and_true]
        have hN9 : n ≤ 64 := H2.out.2.2.2
        go_wp2_with fail
        refine (HTn.out _ HR.out.gr a _ HI.out.1).mono ?_
        rintro e w5 ⟨Ax, cx, ax, nx, sx, rfl, Hx, hg5⟩
        clear y0 y1 y2 y3 y4 y5 y6 yf lY
        obtain ⟨P5, hP5⟩ : ∃ P5, P5 = w5.heap.size := ⟨_, rfl⟩
        have HR5 := hid (HR.out.grew hg5)
        have HM5 := hid (HM.out.grew hg5)
        have HF5 := hid (HF.out.grew hg5)
        have HRow5 := hid (HRow.out.grew hg5)
        have HBx := hid (Blk.new w5 80 #[.int .u8 0, .int .i64 nx, .slice Ax 0 cx, .string ⟨#[]⟩, .int .i64 0, .int .i64 0, .int .i64 0])
        have HP5 := hid hP5
        have lX := HR5.out.txt.lt
        have lY := HR5.out.num.lt
        obtain ⟨v0, v1, v2, v3, v4, v5, v6, vf⟩ := HR5.out.txt.seven
        clear hg5 hP5
        go_wp2_with fail
        refine (HTt.out _ (HR5.out.gr.trans ((Grew.refl w5).alloc _)) ax _ Hx.out.1).mono ?_
        rintro e w7 ⟨Ay, cy, ay, ty, sy, sv, rfl, Hy, hg7⟩
        clear v0 v1 v2 v3 v4 v5 v6 vf lX lY
        have HG7 := hid (((Grew.refl w5).alloc (.cells #[.int .u8 0, .int .i64 nx, .slice Ax 0 cx, .string ⟨#[]⟩, .int .i64 0, .int .i64 0, .int .i64 0] 80)).trans hg7)
        have HR7 := hid (HR5.out.grew HG7.out)
        have HM7 := hid (HM5.out.grew HG7.out)
        have HF7 := hid (HF5.out.grew HG7.out)
        have HRow7 := hid (HRow5.out.grew HG7.out)
        have HX7 := hid (HBx.out.grew hg7)
        rw [← HP5.out] at HX7
        have hD3 := Mt.d3 hb256.out Hx.out.2.1 Hy.out.2.1 (fun m hm => (HD2.out m hm).1) g1 HI.out.2.1
        rw [← Hy.out.2.2.1] at hD3
        have HD3 := hid hD3
        have hwr := (kq_wrap Hx.out.2.2.1 Hx.out.2.2.2).1
        have m1 := HM7.out.cell 1
        have lM := HM7.out.lt
        have x1 := HX7.out.cell 1
        have lP := HX7.out.lt
        simp only [List.getElem?_toArray, List.getElem?_cons_zero, List.getElem?_cons_succ] at m1 x1
        have hB7 : B0 ≤ w7.heap.size := by
          have h1 := HF7.out.lt
          have h2 := HB0.out
          omega
        have HI2 : Hid (AtSt b ay sy ∧ (ls ++ [(⟨Mt.kq nx, sv⟩ : Mt.Lit)]).length = i + 1 ∧ ∀ x ∈ ls ++ [(⟨Mt.kq nx, sv⟩ : Mt.Lit)], x.k < 256 ∧ x.s.size ≤ 2000) := hid (by
          refine ⟨Hy.out.1, by rw [List.length_append, HI.out.2.2.1]; rfl, fun x hx => ?_⟩
          rcases List.mem_append.1 hx with hx | hx
          · exact HI.out.2.2.2 x hx
          · rw [List.mem_singleton.1 hx]
            exact ⟨(kq_wrap Hx.out.2.2.1 Hx.out.2.2.2).2, show sv.size ≤ 2000 by have := Hy.out.2.2.2.1; omega⟩)
        clear hg7 hD3 HBx HR5 HM5 HF5 HRow5 HG7 HI Hx Hy HRow HF HM HR
        rw [← HP5.out]
        go_wp2_with (at_builtin; refine wpList_pushE (.agg #[.int .u8 0, .string ⟨#[]⟩]) 2 24 (w7.alloc (.cells #[.int .u8 2, .int .i64 0, .slice Ay 0 cy, .string sv, .int .i64 0, .int .i64 0, .int .i64 0] 80)) rfl _ _ 22 59 rfl Tryz.underlying22 rlit_info9 rfl (by decide) B0 (by simp only [World.size_alloc]; omega) A' i c' (ls.flatMap litF) rfl (HRow7.out.grew ((Grew.refl w7).alloc _)) _ (by simp) rfl (litF ⟨Mt.kq nx, sv⟩) _ rfl rfl (litF_ok _) (by omega) (by omega) ?_; intro A4 c4 w8 hr hk hto; have hM8 := (HM7.out.grew ((Grew.refl w7).alloc (.cells #[.int .u8 2, .int .i64 0, .slice Ay 0 cy, .string sv, .int .i64 0, .int .i64 0, .int .i64 0] 80))).kept hk (fun h => by have := HAr.out _ h; have := HB0.out; omega); have m1 := hM8.cell 1; have k1 := hM8.frozen 1; simp only [List.getElem?_toArray, List.getElem?_cons_zero, List.getElem?_cons_succ] at m1; have HM8 := hid hM8; have HK8 := hid hk; have HRow8 := hid hr; clear hM8 hk hr hto)
        have hks : Kept (· = M) w8 (w8.setCell ⟨M, 1, none⟩ (.slice A4 (i + 1) c4)) := (Kept.refl (· = M) w8).setCell (p := ⟨M, 1, none⟩) (fun _ => rfl) _
        have hbn := HM8.out.put 1 (.slice A4 (i + 1) c4)
        simp only [List.setIfInBounds_toArray, List.set_cons_zero, List.set_cons_succ] at hbn
        have hr8 := (HR7.out.grew ((Grew.refl w7).alloc (.cells #[.int .u8 2, .int .i64 0, .slice Ay 0 cy, .string sv, .int .i64 0, .int .i64 0, .int .i64 0] 80))).kept HK8.out (fun h => by have := HAr.out _ h; have := HB0.out; omega) (fun h => by have := HAr.out _ h; have := HB0.out; omega) (fun h => by have := HAr.out _ h; have := HB0.out; omega) (fun k h => by have := HAr.out _ h; have := HB0.out; have := HG.out; omega)
        have hr9 := hr8.kept hks (by omega) (by omega) (by omega) (fun k h => by have := HB0.out; have := HG.out; omega)
        have hf9 := ((HF7.out.grew ((Grew.refl w7).alloc (.cells #[.int .u8 2, .int .i64 0, .slice Ay 0 cy, .string sv, .int .i64 0, .int .i64 0, .int .i64 0] 80))).kept HK8.out (fun h => by have := HAr.out _ h; have := HB0.out; omega)).kept hks (by omega)
        have hw9 := HRow8.out.kept hks (fun q hq e => by have := Row.at_base HRow8.out q ⟨_, hq, rfl⟩; have := HB0.out; omega)
        have HAll := hid (⟨hr9, hbn, hf9, by rw [List.flatMap_append]; simpa using hw9⟩ : RB w G X Y (w8.setCell ⟨M, 1, none⟩ (.slice A4 (i + 1) c4)) ∧ Blk (w8.setCell ⟨M, 1, none⟩ (.slice A4 (i + 1) c4)) M 25 #[.string s, .slice A4 (i + 1) c4, .slice none 0 0] ∧ Blk (w8.setCell ⟨M, 1, none⟩ (.slice A4 (i + 1) c4)) F 80 #[.int .u8 0, .int .i64 n, .slice A2 0 c2, .string ⟨#[]⟩, .int .i64 0, .int .i64 0, .int .i64 0] ∧ Row (w8.setCell ⟨M, 1, none⟩ (.slice A4 (i + 1) c4)) B0 59 2 A4 (i + 1) c4 ((ls ++ [(⟨Mt.kq nx, sv⟩ : Mt.Lit)]).flatMap litF))
        clear hks hbn hr8 hr9 hf9 hw9
        go_round
        case rel => exact ⟨i + 1, ay, sy, ls ++ [⟨Mt.kq nx, sv⟩], A4, c4, rfl, by go_num, by omega, hid ⟨HI2.out.1, HD3.out, HI2.out.2.1, HI2.out.2.2⟩, HAll⟩
        case measure => simp [intOf]; omega
      · rw [show (decide ((i : Int) < n) && decide (0 ≤ a)) = false by rw [Bool.and_eq_false_iff, decide_eq_false_iff_not, decide_eq_false_iff_not]; omega]
        have HEnd := hid (Mt.d4 (fun m hm => (HD2.out m hm).1) (by
          rcases at_pos HI.out.1 with ⟨h1, _⟩ | ⟨_, h1⟩
          · exact .inl (fun h2 => g ⟨h2, h1⟩)
          · exact .inr h1) HI.out.2.1)
        go_wp2_with fail
        refine (HTn.out _ HR.out.gr a _ HI.out.1).mono ?_
        rintro e w5 ⟨A5, c5, a5, n5, st5, rfl, H5, hg5⟩
        have HD5 := hid (Mt.d5 hb256.out H5.out.2.1 (fun m hm => (HEnd.out m hm).2))
        have HDl : Hid (Mt.If b fun m => ls = m.lits) := hid (fun m hm => (HEnd.out m hm).1)
        have HLs : Hid (ls.length = i ∧ ∀ x ∈ ls, x.k < 256 ∧ x.s.size ≤ 2000) := hid HI.out.2.2
        have HR7 := hid (HR.out.grew hg5)
        have HM7 := hid (HM.out.grew hg5)
        have HF7 := hid (HF.out.grew hg5)
        have HRow7 := hid (HRow.out.grew hg5)
        obtain ⟨W8, hW8⟩ : ∃ W8, W8 = ((((((w5.setCell ⟨F, 0, none⟩ (.int .u8 0)).setCell ⟨F, 1, none⟩ (.int .i64 n5)).setCell ⟨F, 2, none⟩ (.slice A5 0 c5)).setCell ⟨F, 3, none⟩ (.string ⟨#[]⟩)).setCell ⟨F, 4, none⟩ (.int .i64 0)).setCell ⟨F, 5, none⟩ (.int .i64 0)).setCell ⟨F, 6, none⟩ (.int .i64 0) := ⟨_, rfl⟩
        have hk8 : Kept (· = F) w5 W8 := by rw [hW8]; exact kept7 (Kept.refl (· = F) _) rfl _ _ _ _ _ _ _
        have HF8 : Hid (Blk W8 F 80 #[.int .u8 0, .int .i64 n5, .slice A5 0 c5, .string ⟨#[]⟩, .int .i64 0, .int .i64 0, .int .i64 0]) := hid (by rw [hW8]; exact HF7.out.put7 _ _ _ _ _ _ _)
        have HR8 := hid (HR7.out.kept hk8 (by omega) (by omega) (by omega) (fun k e => by have := HG.out; omega))
        have HM8 := hid (HM7.out.kept hk8 (by omega))
        have HRow8 := hid (HRow7.out.kept hk8 (fun q hq e => by have := Row.at_base HRow7.out q ⟨_, hq, rfl⟩; have := HB0.out; omega))
        obtain ⟨q0, q1, q2, q3, q4, q5, q6, qf⟩ := HF7.out.seven
        have kf := HF7.out.frozen
        clear hg5 hk8 HR7 HM7 HF7 HRow7 HR HM HF HRow HEnd HI y0 y1 y2 y3 y4 y5 y6 yf lY
        go_wp2_with fail
        rw [← hW8]
        clear hW8 q0 q1 q2 q3 q4 q5 q6 qf kf
        obtain ⟨q0, q1, q2, q3, q4, q5, q6, qf⟩ := HF8.out.seven
        go_wp2_with fail
        go_quiet (fail)
        have HQ : Hid (Grew W8 (W8.drewN nq)) := hid (Grew.mk ⟨rfl, rfl, rfl, Nat.le_refl _, fun _ _ => rfl⟩)
        have HR9 := hid (HR8.out.grew HQ.out)
        have HM9 := hid (HM8.out.grew HQ.out)
        have HRow9 := hid (HRow8.out.grew HQ.out)
        have HF9b := hid (HF8.out.grew HQ.out)
        generalize W8.drewN nq = w9 at *
        clear q0 q1 q2 q3 q4 q5 q6 qf HQ HR8 HM8 HF8 HRow8
        go_wp2_with fail
        have hB9 : B0 ≤ w9.heap.size := by have h1 := HF9b.out.lt; have h2 := HB0.out; omega
        have HB9 := hid hB9
        clear HF9b hB9
        go_loopw [8, 15, 17, 18, 19, 20, 21, 22, 23, 24, 25] (fun s8 s15 _ _ _ _ _ _ _ _ _ wr => ∃ (j : Nat) (a : Int) (st : Pk.St) (pv : List PV) (B2 : Option Addr) (d2 : Nat), s8 = .int .i64 a ∧ s15 = .int .i64 ((j : Nat) : Int) ∧ j ≤ 64 ∧ Hid (AtSt b a st ∧ Mt.If b (fun m => pv.map (·.p) = m.parts.take j ∧ st = some (Mt.encParts (m.parts.drop j))) ∧ pv.length = j) ∧ Hid (RB w G X Y wr ∧ Blk wr M 25 #[.string s, .slice A' i c', .slice B2 j d2] ∧ Row wr B0 59 2 A' i c' (ls.flatMap litF) ∧ Row wr B0 61 4 B2 j d2 (pv.flatMap pvF) ∧ (∀ q, AtRow A' q → ¬ AtRow B2 q) ∧ (∀ v ∈ pv, PvB wr v ∧ ∀ ad, v.A = some ad → B0 ≤ ad.block ∧ ¬ AtRow B2 ad.block ∧ ad.block < wr.heap.size) ∧ B0 ≤ wr.heap.size)) (fun _ s15 _ _ _ _ _ _ _ _ _ _ => (n5 - intOf s15).toNat)
        case atStart => exact ⟨0, a5, st5, [], none, 0, rfl, rfl, by decide, hid ⟨H5.out.1, fun m hm => ⟨rfl, (HD5.out m hm).2⟩, rfl⟩, hid ⟨HR9.out, HM9.out, HRow9.out, Row.nil _ _ _ _, (fun q _ h => by obtain ⟨_, e, _⟩ := h; cases e), (fun v hv => by cases hv), HB9.out⟩⟩
        case round =>
          obtain ⟨j, a, st, pv, B2, d2, rfl, rfl, hj, HI, HJ⟩ := hrel
          clear HR9 HM9 HRow9 HB9
          go_upto_region 16 with fail
          go_cut [98] from 92 to 148 (fun s98 wx => s98 = .bool (decide ((j : Int) < n5) && decide (0 ≤ a)) ∧ wx = wr)
          case first =>
            by_cases g1 : (j : Int) < n5
            · by_cases g2 : 0 ≤ a
              · go_wp2_with fail
                go_meet
                case rel => exact ⟨by rw [decide_eq_true g1, decide_eq_true g2]; rfl, rfl⟩
              · go_wp2_with fail
                go_meet
                case rel => exact ⟨by rw [show decide (0 ≤ a) = false from decide_eq_false (by omega), Bool.and_false], rfl⟩
            · go_wp2_with fail
              go_meet
              case rel => exact ⟨by rw [show decide ((j : Int) < n5) = false from decide_eq_false (by omega), Bool.false_and], rfl⟩
          case rest =>
            obtain ⟨rfl, rfl⟩ := hcut
            obtain ⟨hR, hM, hrow, hrow2, hap, hels, hB9⟩ := HJ.out
            have HAr : Hid (∀ k, AtRow A' k → B0 ≤ k ∧ k < wc.heap.size) := hid (fun k hk => ⟨Row.at_base hrow k hk, Row.at_lt hrow k hk⟩)
            have HBr : Hid (∀ k, AtRow B2 k → B0 ≤ k ∧ k < wc.heap.size) := hid (fun k hk => ⟨Row.at_base hrow2 k hk, Row.at_lt hrow2 k hk⟩)
            have HR := hid hR
            have HM := hid hM
            have HRow := hid hrow
            have HRow2 := hid hrow2
            have HAp := hid hap
            have HEls := hid hels
            have HB9 := hid hB9
            have lY := hR.num.lt
            obtain ⟨y0, y1, y2, y3, y4, y5, y6, yf⟩ := hR.num.seven
            clear hR hM hrow hrow2 hap hels HJ hB9
            by_cases g : (j : Int) < n5 ∧ 0 ≤ a
            · obtain ⟨g1, g2⟩ := g
              rw [decide_eq_true g1, decide_eq_true g2, Bool.and_true]
              have hN9 : n5 ≤ 64 := H5.out.2.2.2
              obtain ⟨P0, hP0⟩ : ∃ P0, P0 = wc.heap.size := ⟨_, rfl⟩
              have HP0 := hid hP0
              have HBp := hid (Blk.new wc 61 #[.int .i64 0, .int .i64 0, .int .i64 0, .slice none 0 0])
              clear hP0
              go_wp2_with fail
              refine (HTn.out _ (HR.out.gr.trans ((Grew.refl wc).alloc _)) a _ HI.out.1).mono ?_
              rintro e w1 ⟨Aa, ca, a1, x1, s1, rfl, Ha, hg1⟩
              clear y0 y1 y2 y3 y4 y5 y6 yf lY
              have HG1 := hid (((Grew.refl wc).alloc (.cells #[.int .i64 0, .int .i64 0, .int .i64 0, .slice none 0 0] 61)).trans hg1)
              have HBp1 := hid (HBp.out.grew hg1)
              have HLw1 : Hid (wc.heap.size < w1.heap.size) := hid HBp1.out.lt
              have HBa := hid (Blk.new w1 80 #[.int .u8 0, .int .i64 x1, .slice Aa 0 ca, .string ⟨#[]⟩, .int .i64 0, .int .i64 0, .int .i64 0])
              have HR1 := hid (HR.out.grew HG1.out)
              have lY := HR1.out.num.lt
              obtain ⟨y0, y1, y2, y3, y4, y5, y6, yf⟩ := HR1.out.num.seven
              clear hg1 HBp
              go_wp2_with fail
              refine (HTn.out _ (HR1.out.gr.trans ((Grew.refl w1).alloc _)) a1 _ Ha.out.1).mono ?_
              rintro e w2 ⟨Ab, cb, a2', x2, s2, rfl, Hb, hg2⟩
              clear y0 y1 y2 y3 y4 y5 y6 yf lY
              have HG2 := hid (((Grew.refl w1).alloc (.cells #[.int .u8 0, .int .i64 x1, .slice Aa 0 ca, .string ⟨#[]⟩, .int .i64 0, .int .i64 0, .int .i64 0] 80)).trans hg2)
              have HBp2 := hid (HBp1.out.grew HG2.out)
              have HBa2 := hid (HBa.out.grew hg2)
              have HBb := hid (Blk.new w2 80 #[.int .u8 0, .int .i64 x2, .slice Ab 0 cb, .string ⟨#[]⟩, .int .i64 0, .int .i64 0, .int .i64 0])
              have HR2 := hid (HR1.out.grew HG2.out)
              have lY := HR2.out.num.lt
              obtain ⟨y0, y1, y2, y3, y4, y5, y6, yf⟩ := HR2.out.num.seven
              clear hg2 HBp1 HBa HR1
              go_wp2_with fail
              refine (HTn.out _ (HR2.out.gr.trans ((Grew.refl w2).alloc _)) a2' _ Hb.out.1).mono ?_
              rintro e w3 ⟨Ac, cc, a3, x3, s3, rfl, Hc, hg3⟩
              clear y0 y1 y2 y3 y4 y5 y6 yf lY
              have HG3 := hid (((Grew.refl w2).alloc (.cells #[.int .u8 0, .int .i64 x2, .slice Ab 0 cb, .string ⟨#[]⟩, .int .i64 0, .int .i64 0, .int .i64 0] 80)).trans hg3)
              have HBp3 := hid (HBp2.out.grew HG3.out)
              have HBa3 := hid (HBa2.out.grew HG3.out)
              have HBb3 := hid (HBb.out.grew hg3)
              have HBc := hid (Blk.new w3 80 #[.int .u8 0, .int .i64 x3, .slice Ac 0 cc, .string ⟨#[]⟩, .int .i64 0, .int .i64 0, .int .i64 0])
              have HR3 := hid (HR2.out.grew HG3.out)
              have lX := HR3.out.txt.lt
              obtain ⟨v0, v1, v2, v3, v4, v5, v6, vf⟩ := HR3.out.txt.seven
              clear hg3 HBp2 HBa2 HBb HR2
              go_wp2_with fail
              refine (HTt.out _ (HR3.out.gr.trans ((Grew.refl w3).alloc _)) a3 _ Hc.out.1).mono ?_
              rintro e w4' ⟨Ad, cd, a4, t4, s4, sv, rfl, Hd, hg4⟩
              clear v0 v1 v2 v3 v4 v5 v6 vf lX
              have HG4 := hid (((Grew.refl w3).alloc (.cells #[.int .u8 0, .int .i64 x3, .slice Ac 0 cc, .string ⟨#[]⟩, .int .i64 0, .int .i64 0, .int .i64 0] 80)).trans hg4)
              have HGn := hid ((Grew.refl w4').alloc (.cells #[.int .u8 2, .int .i64 0, .slice Ad 0 cd, .string sv, .int .i64 0, .int .i64 0, .int .i64 0] 80))
              obtain ⟨W24, hW24⟩ : ∃ W24, W24 = w4'.alloc (.cells #[.int .u8 2, .int .i64 0, .slice Ad 0 cd, .string sv, .int .i64 0, .int .i64 0, .int .i64 0] 80) := ⟨_, rfl⟩
              obtain ⟨q1, hq1⟩ : ∃ q1, q1 = w1.heap.size := ⟨_, rfl⟩
              obtain ⟨q2, hq2⟩ : ∃ q2, q2 = w2.heap.size := ⟨_, rfl⟩
              obtain ⟨q3, hq3⟩ : ∃ q3, q3 = w3.heap.size := ⟨_, rfl⟩
              obtain ⟨q4, hq4⟩ : ∃ q4, q4 = w4'.heap.size := ⟨_, rfl⟩
              have HGw : Hid (Grew wc W24) := hid (by rw [hW24]; exact HG1.out.trans (HG2.out.trans (HG3.out.trans (HG4.out.trans HGn.out))))
              have HZp : Hid (Blk W24 P0 61 #[.int .i64 0, .int .i64 0, .int .i64 0, .slice none 0 0]) := hid (by rw [hW24, HP0.out]; exact HBp3.out.grew (HG4.out.trans HGn.out))
              have HZ1 : Hid (Blk W24 q1 80 #[.int .u8 0, .int .i64 x1, .slice Aa 0 ca, .string ⟨#[]⟩, .int .i64 0, .int .i64 0, .int .i64 0]) := hid (by rw [hW24, hq1]; exact HBa3.out.grew (HG4.out.trans HGn.out))
              have HZ2 : Hid (Blk W24 q2 80 #[.int .u8 0, .int .i64 x2, .slice Ab 0 cb, .string ⟨#[]⟩, .int .i64 0, .int .i64 0, .int .i64 0]) := hid (by rw [hW24, hq2]; exact HBb3.out.grew (HG4.out.trans HGn.out))
              have HZ3 : Hid (Blk W24 q3 80 #[.int .u8 0, .int .i64 x3, .slice Ac 0 cc, .string ⟨#[]⟩, .int .i64 0, .int .i64 0, .int .i64 0]) := hid (by rw [hW24, hq3]; exact HBc.out.grew (hg4.trans HGn.out))
              have HZ4 : Hid (Blk W24 q4 80 #[.int .u8 2, .int .i64 0, .slice Ad 0 cd, .string sv, .int .i64 0, .int .i64 0, .int .i64 0]) := hid (by rw [hW24, hq4]; exact Blk.new _ _ _)
              have HQs : Hid (P0 < q1 ∧ P0 < q2 ∧ P0 < q3 ∧ P0 < q4 ∧ P0 < W24.heap.size ∧ B0 ≤ P0) := hid (by
                have e1 := HBp3.out.lt
                have e2 := HG4.out.below.size
                have e3 := HG3.out.below.size
                have e4 := HG2.out.below.size
                have e5 := HG1.out.below.size
                have e6 := HGn.out.below.size
                have e7 : wc.heap.size < w1.heap.size := by
                  have := HG1.out
                  have h9 := (Blk.new wc 61 #[.int .i64 0, .int .i64 0, .int .i64 0, .slice none 0 0]).lt
                  have h8 := HLw1.out
                  omega
                have e8 := HP0.out
                have e9 := HB9.out
                rw [← hW24] at e6
                omega)
              have hD6 := Mt.d6 hb256.out Ha.out.2.1 Hb.out.2.1 Hc.out.2.1 Hd.out.2.1 (fun m hm => (HD5.out m hm).1) g1 HI.out.2.1
              have HD6 := hid hD6
              have HSv : Hid (sv.size ≤ 1000000 ∧ Pk.natsOf sv = t4 ∧ t4.length = sv.size) := hid ⟨by have := Hd.out.2.2.2.1; omega, by rw [Hd.out.2.2.1]; exact Mt.nats_of_str Hd.out.2.2.2.2.2, Hd.out.2.2.2.2.1⟩
              have HAt := hid Hd.out.1
              have HPl := hid HI.out.2.2
              clear hg4 hD6 HG1 HG2 HG3 HG4 HGn HBp3 HBa3 HBb3 HBc HR3 HI Ha Hb Hc Hd
              rw [← HP0.out]
              go_wp2_with fail
              rw [← hW24, ← hq1, ← hq2, ← hq3, ← hq4]
              clear hW24 hq1 hq2 hq3 hq4
              have HJ0 : Hid (PJ5 P0 61 x1 x2 x3 W24.heap.size sv (fun _ => false) W24) := hid ⟨.slice none 0 0, HZp.out, rfl⟩
              have hP24 : P0 < W24.heap.size := HQs.out.2.2.2.2.1
              refine wp_region_facts5S (w0 := W24) _ 3 17 [130, 131, 132, 133, 134, 135, 136, 137, 138, 139, 1000, 140, 1001, 141, 1002, 142, 1003] [] [10, 12, 14, 16] (PF5 P0 q1 q2 q3 q4 x1 x2 x3 W24.heap.size sv) (Kept (· = P0)) (fun _ => Kept (· = P0)) (PJ5 P0 61 x1 x2 x3 W24.heap.size sv) (May.kept _) (fun _ _ _ h => h) (by kernel_rfl) (fun i hi => by
                simp only [List.mem_cons, List.not_mem_nil, or_false] at hi
                rcases hi with rfl | rfl | rfl | rfl <;> exact ⟨rfl, fun _ _ _ _ => trivial⟩) (by kernel_rfl) (by kernel_rfl) (Kept.refl _ _).drew (HJ0.out.drew) (fun i k v u u' _ _ _ _ h hr => PF5.stable hP24 i v u u' h hr) ?_ ?_
              · repeat' (first | exact trivial | apply And.intro)
                all_goals
                  intro f u ff hgw hJ hfi hdep hs hA
                  have e17 := hs.eval 17 (by decide) (v := .pointer (some ⟨P0, 0, none⟩)) rfl
                  have e18 := hs.eval 18 (by decide) (v := .pointer (some ⟨q1, 0, none⟩)) rfl
                  have e20 := hs.eval 20 (by decide) (v := .pointer (some ⟨q2, 0, none⟩)) rfl
                  have e22 := hs.eval 22 (by decide) (v := .pointer (some ⟨q3, 0, none⟩)) rfl
                  have e24 := hs.eval 24 (by decide) (v := .pointer (some ⟨q4, 0, none⟩)) rfl
                  have HJ := hid hJ
                  have HFi := hid hfi
                  have HGW := hid hgw
                  clear hs hgw hJ hfi hdep
                  simp only [Ahead, Region.binds, slotOf, PF5, List.getD_cons_succ, List.getD_cons_zero, forall_const, and_true] at hA
                  unfold Oper.wp
                  have ec : ∀ v, f.eval (.const v) = v := fun _ => rfl
                  generalize hfe : f.eval = fe at *
                  clear hfe
                · go_simp
                  exact Gives3.of rfl (Kept.refl _ _) rfl (HJ.out.pure hP24 (Grew.refl _) 0 (by decide) (by decide) (by decide) (by decide))
                · have r1 := (HZ1.out.kept HGW.out (fun e => by have := HQs.out; omega)).cell 1
                  simp only [List.getElem?_toArray, List.getElem?_cons_zero, List.getElem?_cons_succ] at r1
                  go_simp
                  exact Gives3.of rfl (Kept.refl _ _) rfl (HJ.out.pure hP24 (Grew.refl _) 1 (by decide) (by decide) (by decide) (by decide))
                · go_simp
                  exact Gives3.of rfl (Kept.refl _ _) rfl (HJ.out.pure hP24 (Grew.refl _) 2 (by decide) (by decide) (by decide) (by decide))
                · have r1 := (HZ2.out.kept HGW.out (fun e => by have := HQs.out; omega)).cell 1
                  simp only [List.getElem?_toArray, List.getElem?_cons_zero, List.getElem?_cons_succ] at r1
                  go_simp
                  exact Gives3.of rfl (Kept.refl _ _) rfl (HJ.out.pure hP24 (Grew.refl _) 3 (by decide) (by decide) (by decide) (by decide))
                · go_simp
                  exact Gives3.of rfl (Kept.refl _ _) rfl (HJ.out.pure hP24 (Grew.refl _) 4 (by decide) (by decide) (by decide) (by decide))
                · have r1 := (HZ3.out.kept HGW.out (fun e => by have := HQs.out; omega)).cell 1
                  simp only [List.getElem?_toArray, List.getElem?_cons_zero, List.getElem?_cons_succ] at r1
                  go_simp
                  exact Gives3.of rfl (Kept.refl _ _) rfl (HJ.out.pure hP24 (Grew.refl _) 5 (by decide) (by decide) (by decide) (by decide))
                · go_simp
                  exact Gives3.of rfl (Kept.refl _ _) rfl (HJ.out.pure hP24 (Grew.refl _) 6 (by decide) (by decide) (by decide) (by decide))
                · have r1 := (HZ4.out.kept HGW.out (fun e => by have := HQs.out; omega)).cell 3
                  simp only [List.getElem?_toArray, List.getElem?_cons_zero, List.getElem?_cons_succ] at r1
                  go_simp
                  exact Gives3.of rfl (Kept.refl _ _) rfl (HJ.out.pure hP24 (Grew.refl _) 7 (by decide) (by decide) (by decide) (by decide))
                · obtain ⟨cv, u', hrun, hcv, hgu⟩ := codeV_new u sv (W0 := W24.heap.size) HGW.out.size HSv.out.1
                  have HCV := hid hcv
                  have HGU := hid hgu
                  clear hcv hgu
                  go_simp
                  exact Gives3.of rfl (Kept.of_grew HGU.out) HCV.out (HJ.out.pure hP24 HGU.out 8 (by decide) (by decide) (by decide) (by decide))
                · go_simp
                  exact Gives3.of rfl (Kept.refl _ _) rfl (HJ.out.pure hP24 (Grew.refl _) 9 (by decide) (by decide) (by decide) (by decide))
                · obtain ⟨b3, hbk, hif⟩ := HJ.out
                  have r1 := hbk.cell 0
                  have k1 := hbk.frozen 0
                  simp only [List.getElem?_toArray, List.getElem?_cons_zero] at r1
                  have hfin := HJ.out.st0 hP24
                  go_simp
                  exact Gives3.none rfl ((Kept.refl (· = P0) _).setCell (p := ⟨P0, 0, none⟩) (fun _ => rfl) _) (fun _ => trivial) hfin
                · go_simp
                  exact Gives3.of rfl (Kept.refl _ _) rfl (HJ.out.pure hP24 (Grew.refl _) 11 (by decide) (by decide) (by decide) (by decide))
                · obtain ⟨b3, hbk, hif⟩ := HJ.out
                  have r1 := hbk.cell 1
                  have k1 := hbk.frozen 1
                  simp only [List.getElem?_toArray, List.getElem?_cons_zero, List.getElem?_cons_succ] at r1
                  have hfin := HJ.out.st1 hP24
                  go_simp
                  exact Gives3.none rfl ((Kept.refl (· = P0) _).setCell (p := ⟨P0, 1, none⟩) (fun _ => rfl) _) (fun _ => trivial) hfin
                · go_simp
                  exact Gives3.of rfl (Kept.refl _ _) rfl (HJ.out.pure hP24 (Grew.refl _) 13 (by decide) (by decide) (by decide) (by decide))
                · obtain ⟨b3, hbk, hif⟩ := HJ.out
                  have r1 := hbk.cell 2
                  have k1 := hbk.frozen 2
                  simp only [List.getElem?_toArray, List.getElem?_cons_zero, List.getElem?_cons_succ] at r1
                  have hfin := HJ.out.st2 hP24
                  go_simp
                  exact Gives3.none rfl ((Kept.refl (· = P0) _).setCell (p := ⟨P0, 2, none⟩) (fun _ => rfl) _) (fun _ => trivial) hfin
                · go_simp
                  exact Gives3.of rfl (Kept.refl _ _) rfl (HJ.out.pure hP24 (Grew.refl _) 15 (by decide) (by decide) (by decide) (by decide))
                · obtain ⟨b3, hbk, hif⟩ := HJ.out
                  have r1 := hbk.cell 3
                  have k1 := hbk.frozen 3
                  simp only [List.getElem?_toArray, List.getElem?_cons_zero, List.getElem?_cons_succ] at r1
                  have h0 := hA.1
                  obtain ⟨cA, cC, ev, hrest⟩ := hA.2.1
                  have hfin := HJ.out.st3 hP24 (⟨cA, cC, rfl, hrest⟩ : CodeV W24.heap.size sv (.slice cA sv.size cC) u)
                  clear hrest hA hif
                  go_simp
                  exact Gives3.none rfl ((Kept.refl (· = P0) _).setCell (p := ⟨P0, 3, none⟩) (fun _ => rfl) _) (fun _ => trivial) hfin
              · intro f w5' hgw hs hf hJ hpt
                obtain ⟨b3, hbk, hcv⟩ := hJ.full (Nat.le_refl _)
                obtain ⟨fn, rfl, hft⟩ := hs.put
                obtain ⟨cA, cC, rfl, hcb, hc1, hc2, hcn⟩ := hcv
                rw [HSv.out.2.1] at hcb
                rw [← HSv.out.2.2] at hbk hc1
                have HCB : Hid (BytesAt w5' w5'.heap.size cA t4 ∧ t4.length ≤ cC ∧ cC ≤ 9223372036854775807 ∧ ∀ ad, cA = some ad → W24.heap.size ≤ ad.block ∧ ad.block < w5'.heap.size) := hid ⟨hcb, hc1, hc2, hcn⟩
                have HPB := hid hbk
                have HGW := hid hgw
                clear hpt hgw hs hf hJ hft hbk hcb hc1 hc2 hcn HZ1 HZ2 HZ3 HZ4 HZp HJ0
                simp only [List.drop_succ_cons, List.drop_zero, putAll, List.foldl_cons, List.foldl_nil, Act.put, List.setIfInBounds_toArray, List.set_cons_succ, List.set_cons_zero, List.set_nil]
                generalize fn 130 = z130
                generalize fn 131 = z131
                generalize fn 132 = z132
                generalize fn 133 = z133
                generalize fn 134 = z134
                generalize fn 135 = z135
                generalize fn 136 = z136
                generalize fn 137 = z137
                generalize fn 138 = z138
                generalize fn 139 = z139
                generalize fn 140 = z140
                generalize fn 141 = z141
                generalize fn 142 = z142
                clear fn
                have HRw := hid ((HR.out.grew HGw.out).kept HGW.out (fun e => by have := HQs.out; have := HB0.out; omega) (fun e => by have := HQs.out; have := HB0.out; omega) (fun e => by have := HQs.out; have := HB0.out; omega) (fun k e => by have := HQs.out; have := HB0.out; have := HG.out; omega))
                have HMw := hid ((HM.out.grew HGw.out).kept HGW.out (fun e => by have := HQs.out; have := HB0.out; omega))
                have HRow2w := hid ((HRow2.out.grew HGw.out).kept HGW.out (fun q hq e => by have := (HBr.out q ⟨_, hq, rfl⟩).2; have := HP0.out; omega))
                have hsz5 : W24.heap.size ≤ w5'.heap.size := HGW.out.size
                have m2 := HMw.out.cell 2
                have p0 := HPB.out.cell 0
                have p1 := HPB.out.cell 1
                have p2 := HPB.out.cell 2
                have p3 := HPB.out.cell 3
                simp only [List.getElem?_toArray, List.getElem?_cons_zero, List.getElem?_cons_succ] at m2 p0 p1 p2 p3
                go_wp2_with (at_builtin; refine wpList_pushE (.agg #[.int .i64 0, .int .i64 0, .int .i64 0, .slice none 0 0]) 4 48 w5' rfl _ _ 23 61 rfl Tryz.underlying23 rpart_info9 rfl (by decide) B0 (by have := HQs.out; omega) B2 j d2 (pv.flatMap pvF) rfl HRow2w.out _ rfl rfl (pvF ⟨⟨x1, x2, x3, t4⟩, cA, cC⟩) _ rfl rfl (pvF_ok _) (by omega) (by omega) ?_; intro A4 c4 w8 hr hk hto; have hM8 := HMw.out.kept hk (fun h => by have := (HBr.out _ h).1; have := HB0.out; omega); have m2 := hM8.cell 2; have k2 := hM8.frozen 2; simp only [List.getElem?_toArray, List.getElem?_cons_zero, List.getElem?_cons_succ] at m2; have HM8 := hid hM8; have HK8 := hid hk; have HRow8 := hid hr; have HTo := hid hto; clear hM8 hk hr hto)
                have hks : Kept (· = M) w8 (w8.setCell ⟨M, 2, none⟩ (.slice A4 (j + 1) c4)) := (Kept.refl (· = M) w8).setCell (p := ⟨M, 2, none⟩) (fun _ => rfl) _
                have hbn := HM8.out.put 2 (.slice A4 (j + 1) c4)
                simp only [List.setIfInBounds_toArray, List.set_cons_zero, List.set_cons_succ] at hbn
                have hall : Kept (fun k => AtRow B2 k ∨ k = M) w5' (w8.setCell ⟨M, 2, none⟩ (.slice A4 (j + 1) c4)) := (HK8.out.mono (fun _ _ h => .inl h)).trans (hks.mono (fun _ _ h => .inr h))
                have hall0 : Kept (fun k => k = P0 ∨ AtRow B2 k ∨ k = M) W24 (w8.setCell ⟨M, 2, none⟩ (.slice A4 (j + 1) c4)) := (HGW.out.mono (fun _ _ h => .inl h)).trans (hall.mono (fun _ _ h => .inr h))
                have hr9 := HRw.out.kept hall (fun h => by rcases h with h | h; have := (HBr.out _ h).1; have := HB0.out; omega; have := HB0.out; omega) (fun h => by rcases h with h | h; have := (HBr.out _ h).1; have := HB0.out; omega; have := HB0.out; omega) (fun h => by rcases h with h | h; have := (HBr.out _ h).1; have := HB0.out; omega; have := HB0.out; omega) (fun k h => by rcases h with h | h; have := (HBr.out _ h).1; have := HB0.out; have := HG.out; omega; have := HB0.out; have := HG.out; omega)
                have hrow9 := (HRow.out.grew HGw.out).kept hall0 (fun q hq hF => by
                  have h1 := HAr.out q ⟨_, hq, rfl⟩
                  rcases hF with hF | hF | hF
                  · have := HP0.out; omega
                  · exact HAp.out q ⟨_, hq, rfl⟩ hF
                  · have := HB0.out; omega)
                have hrow29 := HRow8.out.kept hks (fun q hq e => by have := Row.at_base HRow8.out q ⟨_, hq, rfl⟩; have := HB0.out; omega)
                have hap9 : ∀ q, AtRow A' q → ¬ AtRow A4 q := fun q hq hq3 => by
                  rcases HTo.out with h4 | ⟨q', e1, e2⟩
                  · rw [h4] at hq3; exact HAp.out q hq hq3
                  · rw [e1] at hq3
                    obtain ⟨ad', e3, e4⟩ := hq3
                    cases e3
                    simp only at e4
                    have := (HAr.out q hq).2
                    have := HGw.out.below.size
                    omega
                have hsz9 : w5'.heap.size ≤ (w8.setCell ⟨M, 2, none⟩ (.slice A4 (j + 1) c4)).heap.size := hall.size
                have hels9 : ∀ v ∈ pv ++ [(⟨⟨x1, x2, x3, t4⟩, cA, cC⟩ : PV)], PvB (w8.setCell ⟨M, 2, none⟩ (.slice A4 (j + 1) c4)) v ∧ ∀ ad, v.A = some ad → B0 ≤ ad.block ∧ ¬ AtRow A4 ad.block ∧ ad.block < (w8.setCell ⟨M, 2, none⟩ (.slice A4 (j + 1) c4)).heap.size := fun v hv => by
                  have hgsz := HGw.out.below.size
                  rcases List.mem_append.1 hv with hv | hv
                  · obtain ⟨h1, h2⟩ := HEls.out v hv
                    refine ⟨(show PvB W24 v from ⟨h1.1.grew HGw.out, h1.2⟩).kept hall0 (fun ad e hF => ?_), fun ad e => ?_⟩
                    · have h3 := h2 ad e
                      rcases hF with hF | hF | hF
                      · have := HP0.out; omega
                      · exact h3.2.1 hF
                      · have := HB0.out; omega
                    · have h3 := h2 ad e
                      refine ⟨h3.1, fun hq => ?_, by omega⟩
                      rcases HTo.out with h4 | ⟨q, e1, e2⟩
                      · rw [h4] at hq; exact h3.2.1 hq
                      · rw [e1] at hq
                        obtain ⟨ad', e3, e4⟩ := hq
                        cases e3
                        simp only at e4
                        omega
                  · rw [List.mem_singleton.1 hv]
                    obtain ⟨h1, h2, h3, h4⟩ := HCB.out
                    refine ⟨(show PvB w5' ⟨⟨x1, x2, x3, t4⟩, cA, cC⟩ from ⟨h1, h2, h3⟩).kept hall (fun ad e hF => ?_), fun ad e => ?_⟩
                    · have h5 := h4 ad e
                      rcases hF with hF | hF
                      · have := (HBr.out _ hF).2; omega
                      · have := HB0.out; have := HQs.out; omega
                    · have h5 := h4 ad e
                      refine ⟨by have := HQs.out; omega, fun hq => ?_, by omega⟩
                      rcases HTo.out with h6 | ⟨q, e1, e2⟩
                      · rw [h6] at hq
                        have := (HBr.out _ hq).2
                        omega
                      · rw [e1] at hq
                        obtain ⟨ad', e3, e4⟩ := hq
                        cases e3
                        simp only at e4
                        omega
                have HAll := hid (⟨hr9, hbn, hrow9, by rw [List.flatMap_append]; simpa using hrow29, hap9, hels9, by have := HQs.out; omega⟩ : RB w G X Y (w8.setCell ⟨M, 2, none⟩ (.slice A4 (j + 1) c4)) ∧ Blk (w8.setCell ⟨M, 2, none⟩ (.slice A4 (j + 1) c4)) M 25 #[.string s, .slice A' i c', .slice A4 (j + 1) c4] ∧ Row (w8.setCell ⟨M, 2, none⟩ (.slice A4 (j + 1) c4)) B0 59 2 A' i c' (ls.flatMap litF) ∧ Row (w8.setCell ⟨M, 2, none⟩ (.slice A4 (j + 1) c4)) B0 61 4 A4 (j + 1) c4 ((pv ++ [(⟨⟨x1, x2, x3, t4⟩, cA, cC⟩ : PV)]).flatMap pvF) ∧ (∀ q, AtRow A' q → ¬ AtRow A4 q) ∧ (∀ v ∈ pv ++ [(⟨⟨x1, x2, x3, t4⟩, cA, cC⟩ : PV)], PvB (w8.setCell ⟨M, 2, none⟩ (.slice A4 (j + 1) c4)) v ∧ ∀ ad, v.A = some ad → B0 ≤ ad.block ∧ ¬ AtRow A4 ad.block ∧ ad.block < (w8.setCell ⟨M, 2, none⟩ (.slice A4 (j + 1) c4)).heap.size) ∧ B0 ≤ (w8.setCell ⟨M, 2, none⟩ (.slice A4 (j + 1) c4)).heap.size)
                clear hks hbn hall hall0 hr9 hrow9 hrow29 hap9 hels9 hsz9 hsz5
                go_round
                case rel => exact ⟨j + 1, a4, s4, pv ++ [⟨⟨x1, x2, x3, t4⟩, cA, cC⟩], A4, c4, rfl, by go_num, by omega, hid ⟨HAt.out, by rw [List.map_append]; exact HD6.out, by rw [List.length_append, HPl.out]; rfl⟩, HAll⟩
                case measure => simp [intOf]; omega
            · rw [show (decide ((j : Int) < n5) && decide (0 ≤ a)) = false by rw [Bool.and_eq_false_iff, decide_eq_false_iff_not, decide_eq_false_iff_not]; omega]
              have HEnd := hid (Mt.d7 (fun m hm => (HD5.out m hm).1) (by
                rcases at_pos HI.out.1 with ⟨h1, _⟩ | ⟨_, h1⟩
                · exact .inl (fun h2 => g ⟨h2, h1⟩)
                · exact .inr h1) HI.out.2.1)
              have HMe : Hid (MethArg wc ⟨s, ls, A', c', pv, B2, d2⟩) := hid ⟨⟨fun x hx => (HLs.out.2 x hx).1, (row_lits HLs.out.1.symm HRow.out HLs.out.2).2⟩, row_partsB HI.out.2.2.symm HRow2.out (fun v hv => (HEls.out v hv).1)⟩
              have hEnc := rencode_c ⟨s, ls, A', c', pv, B2, d2⟩ wc HMe.out
              obtain ⟨V, hV⟩ : ∃ V : MV, V = ⟨s, ls, A', c', pv, B2, d2⟩ := ⟨_, rfl⟩
              rw [← hV] at hEnc
              have HDm : Hid (Mt.If b fun m => V.m = m ∧ st = some []) := hid (fun m hm => ⟨by
                rw [hV]
                show (⟨s, ls, pv.map (·.p)⟩ : Mt.Meth) = m
                rw [HDs.out m hm, HDl.out m hm, (HEnd.out m hm).1], (HEnd.out m hm).2⟩)
              have hVc : mvCells V = #[.string s, .slice A' i c', .slice B2 j d2] := by
                rw [hV, mvCells]
                show #[Value.string s, .slice A' ls.length c', .slice B2 pv.length d2] = _
                rw [HLs.out.1, HI.out.2.2]
              rw [hVc] at hEnc
              rw [← hV] at HMe
              have HVc := hid hVc
              have HEnc := hid hEnc
              have HAt := hid HI.out.1
              obtain ⟨m0, m1, m2⟩ := mvc HM.out (Grew.refl _)
              clear hV hEnc HEnd HI HRow HRow2 HEls HAp hVc y0 y1 y2 y3 y4 y5 y6 yf lY
              go_wp2_with fail
              clear m0 m1 m2
              refine HEnc.out.mono ?_
              rintro e w2 ⟨Ae, ce, bs, k, rfl, hbs, hg2, hcase⟩
              have hcv1 := conv6 Ae ce bs w2 hbs
              have HR2 := hid (HR.out.grew hg2)
              have HM2 := hid (HM.out.grew hg2)
              have HMe2 := hid (HMe.out.grew hg2)
              have hcv2 := HCv.out w2 HR2.out.gr
              have HBb : Hid (∀ x ∈ bs, x < 256) := hid (by
                rcases hcase with ⟨h1, h2, _⟩ | ⟨_, h2, _⟩
                · rw [h2]
                  exact Mt.enc_bytes (fun q hq => by
                    obtain ⟨y, hy, rfl⟩ := List.mem_map.1 (show q ∈ V.vs.map (·.p) from hq)
                    exact (HMe2.out.parts.1 y hy).1.1)
                · rw [h2]; intro x hx; cases hx)
              obtain ⟨r0, r1, r2⟩ := mvc HR2.out.res (Grew.refl _)
              have k0 := HR2.out.res.frozen 0
              have k1 := HR2.out.res.frozen 1
              have k2 := HR2.out.res.frozen 2
              obtain ⟨m0, m1, m2⟩ := mvc HM2.out (Grew.refl _)
              have hkZ := kept3 (Kept.refl (· = G) w2) (g := G) (fun _ => rfl) (.string ⟨#[]⟩) (.slice none 0 0) (.slice none 0 0)
              have HKZ := hid (hkZ.grew HR2.out.gr (fun q e => by have := HG.out; omega))
              have HBZ := hid (HR2.out.res.put3 (.string ⟨#[]⟩) (.slice none 0 0) (.slice none 0 0))
              have hkV := kept3 (Kept.refl (· = G) w2) (g := G) (fun _ => rfl) (.string s) (.slice A' i c') (.slice B2 j d2)
              have HKV := hid hkV
              have HKG := hid (hkV.grew HR2.out.gr (fun q e => by have := HG.out; omega))
              have HBV := hid (HR2.out.res.put3 (.string s) (.slice A' i c') (.slice B2 j d2))
              have HCase := hid hcase
              clear hg2 hbs hkZ hkV hcase HR HM HMe HEnc
              generalize hbn : bs.length = bn at *
              clear hbn
              rcases at_pos HAt.out with ⟨ha, r, hr⟩ | ⟨rfl, hst⟩
              · have f1 : ¬ a < 0 := by omega
                clear hr
                rcases HCase.out with ⟨hf, hbe, rfl⟩ | ⟨hf, hbe, rfl⟩
                · by_cases hbb : bs = b
                  · have HDc := hid ((Mt.decode_some hb256.out).2 ⟨hf, by rw [← hbb]; exact hbe⟩)
                    have heq : ((Pk.strB bs).toList == (Pk.strB b).toList) = true := by rw [strB_inj HBb.out hb256.out, decide_eq_true hbb]
                    have HFi := hid hf
                    clear hbb hbe hf HCase
                    go_wp2_with fail
                    refine bodyPost_ret (v := .tuple #[.agg #[.string s, .slice A' i c', .slice B2 j d2], .int .i64 0]) (rres_meth2 _ G rfl _ rfl _ _ _ _ HBV.out) rfl ?_
                    exact .inr ⟨V, HDc.out, by rw [HVc.out], (HMe2.out.fitA HFi.out).box HR2.out.res HKV.out, HKG.out⟩
                  · have HDn : Hid (Mt.decode b = none) := hid (Mt.if_none (fun m hm => (⟨hm, HDm.out m hm⟩ : Mt.decode b = some m ∧ V.m = m ∧ st = some [])) (fun m hh => hbb (by
                      rw [hbe, hh.2.1]
                      exact (Mt.fits_of hb256.out hh.1).2.symm)))
                    have heq : ((Pk.strB bs).toList == (Pk.strB b).toList) = false := by rw [strB_inj HBb.out hb256.out, decide_eq_false hbb]
                    clear hbb hbe hf HCase
                    go_wp2_with fail
                    refine bodyPost_ret (v := .tuple #[.agg #[.string ⟨#[]⟩, .slice none 0 0, .slice none 0 0], .int .i64 2]) (rres_meth2 _ G rfl _ rfl _ _ _ _ HBZ.out) rfl ?_
                    exact .inl ⟨HDn.out, rfl, HKZ.out⟩
                · have HDn : Hid (Mt.decode b = none) := hid (Mt.if_none (fun m hm => (⟨hm, HDm.out m hm⟩ : Mt.decode b = some m ∧ V.m = m ∧ st = some [])) (fun m hh => by
                    have h9 := (Mt.fits_of hb256.out hh.1).1
                    rw [← hh.2.1, hf] at h9
                    cases h9))
                  clear hbe hf HCase hcv1 hcv2
                  go_wp2_with fail
                  refine bodyPost_ret (v := .tuple #[.agg #[.string ⟨#[]⟩, .slice none 0 0, .slice none 0 0], .int .i64 2]) (rres_meth2 _ G rfl _ rfl _ _ _ _ HBZ.out) rfl ?_
                  exact .inl ⟨HDn.out, rfl, HKZ.out⟩
              · have HDn : Hid (Mt.decode b = none) := hid (Mt.if_none HDm.out (fun m hh => by
                  rw [hst] at hh
                  cases hh.2))
                clear HCase hcv1 hcv2
                go_wp2_with fail
                refine bodyPost_ret (v := .tuple #[.agg #[.string ⟨#[]⟩, .slice none 0 0, .slice none 0 0], .int .i64 2]) (rres_meth2 _ G rfl _ rfl _ _ _ _ HBZ.out) rfl ?_
                exact .inl ⟨HDn.out, rfl, HKZ.out⟩
end Go.Proofs.YtjdgcgpidhljpaaGreatDoor

/- Law FlowGoes walked. -/
import Derived.Test.YtilikjfjbnabfaaDoorFlE
import Derived.Deep.CutRange
import Derived.Deep.CutBlock
namespace Go.Proofs.YtilikjfjbnabfaaDoor
open Go.RowKit

/-- Choices in memory. -/
def BoolsAt (w : World) (A : Option Addr) (ch : List Bool) : Prop := 0 < ch.length → ∃ ad, A = some ad ∧ ad.block < w.heap.size ∧ ∀ j, j < ch.length → w.cell? (ad.add j) = some (.bool (ch.getD j false))
theorem BoolsAt.grew {w w' : World} {A : Option Addr} {ch : List Bool} (h : BoolsAt w A ch) (hg : Grew w w') : BoolsAt w' A ch := fun hn => by
  obtain ⟨ad, e, hb, hc⟩ := h hn
  exact ⟨ad, e, Nat.lt_of_lt_of_le hb hg.below.size, fun j hj => by rw [hg.below.cell (by rw [block_add]; exact hb)]; exact hc j hj⟩
theorem decode9 {A : Option Addr} {c : Nat} {bs : List Nat} {w : World} {l : List Op7.Ins} {os : List Nat} (h : Arg w A c bs) (hd : Op7.decR bs = (l, os, 0)) :
    Calls Tryd.prog 9 #[.slice A bs.length c] w fun e w' => ∃ A1 c1 A2 c2 n, e = .returned (.tuple #[.slice A1 n c1, .slice A2 n c2, .nilIface]) ∧ n = l.length ∧ OpsAt w' w'.heap.size A1 l ∧ n ≤ c1 ∧ c1 ≤ 9223372036854775807 ∧ Grew w w' :=
  (odecode_c A c bs w h.at_ h.tab h.cap h.max).mono fun _ _ ⟨A1, c1, A2, c2, L, h1, h2, h3, h4, h5⟩ => by
    rw [hd] at h1 h2 h4
    subst h2
    exact ⟨A1, c1, A2, c2, L.length, by rw [h1]; rfl, rfl, h3.ops, h3.1.cases.2.1, h3.1.cases.2.2.1, h5⟩
/-- Where a way has come to. -/
structure GoesAt (l : List Op7.Ins) (D : List Int) (S : List (List Nat)) (n i : Nat) (hv : Int) (ws : List Nat) : Prop where
  lt : i < n
  dep : D.getD i 0 = hv
  lo : 0 ≤ hv
  hi : hv ≤ 32
  way : ∀ x ∈ ws, Fl.has (S.getD i Fl.full) x = true
def passed (i : Nat) (ws : List Nat) : List Nat := ws.filter fun x => x ≠ i
theorem passed_snoc (i x : Nat) (ws : List Nat) : passed i (ws ++ [x]) = if x = i then passed i ws else passed i ws ++ [x] := by
  unfold passed
  rw [List.filter_append]
  by_cases h : x = i <;> simp [h]
def nextW (S : List (List Nat)) (i : Nat) (ws : List Nat) : List Nat := if 0 ≤ Fl.indexOf S (Fl.rem (S.getD i Fl.full) i) then passed i ws ++ [(Fl.indexOf S (Fl.rem (S.getD i Fl.full) i)).toNat] else passed i ws
theorem nextW_has {G S : List (List Nat)} {n i : Nat} (h : Fl.Sets G S n) (hi : i < n) {ws : List Nat} (hw : ∀ x ∈ ws, Fl.has (S.getD i Fl.full) x = true) : ∀ x ∈ nextW S i ws, x ≠ i ∧ Fl.has (S.getD i Fl.full) x = true := by
  have hp : ∀ x ∈ passed i ws, x ≠ i ∧ Fl.has (S.getD i Fl.full) x = true := fun x hx => by
    unfold passed at hx
    obtain ⟨h1, h2⟩ := List.mem_filter.1 hx
    exact ⟨by simpa using h2, hw x h1⟩
  unfold nextW
  split
  · rename_i h0
    intro x hx
    rcases List.mem_append.1 hx with hx | hx
    · exact hp x hx
    · obtain rfl := List.mem_singleton.1 hx
      obtain ⟨_, h2, h3⟩ := Fl.post_mem h hi (k := (Fl.indexOf S (Fl.rem (S.getD i Fl.full) i)).toNat) (by omega)
      exact ⟨h2, h3⟩
  · exact hp
theorem nextW_end {G S : List (List Nat)} {n i : Nat} (h : Fl.Sets G S n) (hi : i < n) (he : G.getD i [] = []) {ws : List Nat} (hw : ∀ x ∈ ws, Fl.has (S.getD i Fl.full) x = true) : nextW S i ws = [] := by
  rw [List.eq_nil_iff_forall_not_mem]
  intro x hx
  obtain ⟨h1, h2⟩ := nextW_has h hi hw x hx
  exact h1 (Fl.has_last h hi he h2)
theorem goes_next {l : List Op7.Ins} {os : List Nat} {G S : List (List Nat)} {D : List Int} {n i : Nat} {hv : Int} {ws : List Nat} {o : Op7.Ins} {bs : List Nat} (hW : Fl.Well bs l os G D) (hS : Fl.Sets G S n) (hn : n = l.length) (h : GoesAt l D S n i hv ws) (ho : l[i]? = some o) :
    (Fl.effect o).1 ≤ hv ∧ ∀ s ∈ G.getD i [], GoesAt l D S n s (Fl.after o hv) (nextW S i ws) := by
  obtain ⟨hSe, _⟩ := hW.settled hW.os_len
  have hli := h.lt
  obtain ⟨d1, d2⟩ := hSe.done i (by omega) (by rw [h.dep]; have := h.lo; omega) (by simp)
  rw [show l.getD i ⟨0, 0, 0⟩ = o by rw [List.getD_eq_getElem?_getD, ho]; rfl, h.dep] at d1 d2
  obtain ⟨m1, m2, m3⟩ := Fl.may_nonneg d1
  refine ⟨m3, fun s hs => ⟨?_, d2 s hs, m1, m2, fun x hx => ?_⟩⟩
  · have := Fl.graph_lt hW.os_len hW.graph i s hs
    omega
  · obtain ⟨k1, k2⟩ := nextW_has hS h.lt h.way x hx
    exact Fl.has_step hS h.lt hs k2 k1
theorem postOf_get {S : List (List Nat)} {n i : Nat} (hS : S.length = n) (hi : i < n) : (Fl.postOf S).getD i 0 = Fl.indexOf S (Fl.rem (S.getD i Fl.full) i) := by
  unfold Fl.postOf
  simp [List.getD_eq_getElem?_getD, hS, hi]
theorem goes_start {l : List Op7.Ins} {os : List Nat} {G S : List (List Nat)} {D : List Int} {n : Nat} {bs : List Nat} (hW : Fl.Well bs l os G D) (hn : n = l.length) (h1 : 1 ≤ n) : GoesAt l D S n 0 0 [] :=
  ⟨by omega, (hW.settled hW.os_len).2, by decide, by decide, by simp⟩
set_option maxRecDepth 100000 in
set_option maxHeartbeats 8000000 in
theorem goes_walk (A : Option Addr) (c : Nat) (bs : List Nat) (B : Option Addr) (d : Nat) (ch : List Bool) (w : World) (h : Arg w A c bs) (hc : BoolsAt w B ch) (hh : HandleAt w) :
    Calls Tryd.prog 3 #[.slice A bs.length c, .slice B ch.length d] w fun e w' => e = .returned (.bool true) ∧ Grew w w' := by
  have HZ := hid (fun w' (hg : Grew w w') => sure_c w' (hh.grew hg) (h.tab.grew hg))
  have HCh := hid (fun w' (hg : Grew w w') => hc.grew hg)
  clear hh hc
  obtain ⟨n0, en⟩ : ∃ n0, n0 = bs.length := ⟨_, rfl⟩
  obtain ⟨m, em⟩ : ∃ m, m = ch.length := ⟨_, rfl⟩
  rw [← em]
  have HMc := hid em
  clear em
  rcases well_or_bad bs with ⟨l, os, G, D, hW⟩ | ⟨k, hb⟩
  · have HDp := hid (depths_ok h hW)
    have HPo := hid (fun w' (hg : Grew w w') => post_ok (h.grew hg) hW)
    have HDc := hid (fun w' (hg : Grew w w') => decode9 (h.grew hg) hW.dec)
    have HNx := hid (fun w' (hg : Grew w w') i (hi : i < l.length) s (hs : Fl.succ l os i = some s) => next_ok (h.grew hg) hW.dec hi hs)
    have HF := hid (hW.few h.at_.1)
    have HW := hid hW
    have HBy := hid h.at_.1
    rw [← en] at HDp HPo HDc HNx ⊢
    clear h hW en
    by_cases h6 : 200 < n0
    · have f6 : (200 : Int) < n0 := by omega
      clear HDc HNx
      go_enter Tryd.func3, Tryd.ntmps3
      go_wp2_with fail
      refine HDp.out.mono ?_
      rintro e w1 ⟨g1, n, rfl, _, _, hg1⟩
      have G1 := hid hg1
      clear hg1
      go_wp2_with fail
      refine (HPo.out _ G1.out).mono ?_
      rintro e w2 ⟨g2, n2, S, rfl, _, _, _, _, hg2⟩
      have G2 := hid (G1.out.trans hg2)
      clear hg2
      go_wp2_with fail
      refine (HZ.out _ G2.out).mono ?_
      rintro e w3 ⟨rfl, hg⟩
      go_wp2_with fail
      go_ret
      exact ⟨rfl, G2.out.trans hg⟩
    have f6 : decide ((200 : Int) < n0) = false := by rw [decide_eq_false_iff_not]; omega
    go_enter Tryd.func3, Tryd.ntmps3
    go_wp2_with fail
    refine HDp.out.mono ?_
    clear HDp
    rintro e w1 ⟨g1, n, rfl, hn, hD, hg1⟩
    have HN := hid hn
    have HD := hid hD
    have G1 := hid hg1
    clear hn hD hg1
    go_wp2_with fail
    refine (HPo.out _ G1.out).mono ?_
    clear HPo
    rintro e w2 ⟨g2, n2, S, rfl, hn2, hP, _, hS, hg2⟩
    obtain rfl : n = n2 := by rw [hn2, HN.out]
    have HP := hid hP
    have HS := hid hS
    have HD2 := hid (HD.out.grew' hg2)
    have G2 := hid (G1.out.trans hg2)
    clear hn2 hP hS hg2 HD G1
    go_wp2_with fail
    refine (HDc.out _ G2.out).mono ?_
    clear HDc
    rintro e w3 ⟨A3, c3, A4, c4, n3, rfl, hn3, hO, hc3, hc4, hg3⟩
    obtain rfl : n = n3 := by rw [hn3, HN.out]
    have HO := hid hO
    have HD3 := hid (HD2.out.grew' hg3)
    have HP3 := hid (HP.out.grew' hg3)
    have G3 := hid (G2.out.trans hg3)
    have HCh3 := hid (HCh.out _ G3.out)
    have hn1 : 1 ≤ n := by have := HF.out; have := HN.out; omega
    have hn5 : n ≤ 512 := by have := HF.out; have := HN.out; omega
    have e0 : ((n : Int) == 0) = false := by rw [beq_eq_false_iff_ne]; omega
    have HSt := hid (goes_start (S := S) HW.out HN.out hn1)
    clear hn3 hO hg3 HD2 HP G2 HCh
    go_wp2_with fail
    go_loopw [12, 13, 14, 15] (fun s12 s13 s14 s15 wr => ∃ (k i : Nat) (hv : Int) (A5 : Option Addr) (c5 : Nat) (ws : List Nat) (lw : Nat), s12 = .int .i64 ((i : Nat) : Int) ∧ s13 = .int .i64 hv ∧ s14 = .slice A5 lw c5 ∧ s15 = .int .i64 ((k : Nat) : Int) ∧ k ≤ m ∧ k ≤ 300 ∧ lw ≤ k ∧ Hid (lw = ws.length ∧ GoesAt l D S n i hv ws ∧ RowN wr w3.heap.size A5 c5 ws) ∧ (∃ y : After w3, wr = y.w)) (fun _ _ _ s15 _ => m - (intOf s15).toNat)
    case atStart => exact ⟨0, 0, 0, none, 0, [], 0, rfl, rfl, rfl, rfl, Nat.zero_le _, Nat.zero_le _, Nat.le_refl _, hid ⟨rfl, HSt.out, RowN.nil _ _⟩, Grew.refl _⟩
    case round =>
      clear HSt
      obtain ⟨k, i, hv, A5, c5, ws, lw, rfl, rfl, rfl, rfl, hk, hk3, hlw, HI, y, rfl⟩ := hrel
      by_cases hkm : k < m
      · by_cases hk4 : k < 300
        · have f1 : (k : Int) < m := by omega
          have f2 : (k : Int) < 300 := by omega
          have hin := HI.out.2.1.lt
          have f3 : (i : Int) < n := by omega
          have hv0 := HI.out.2.1.lo
          have hv1 := HI.out.2.1.hi
          have f4 : ¬ (32 : Int) < hv := by omega
          have qd := (HD3.out.at i hin).1
          rw [HI.out.2.1.dep] at qd
          have bd := HD3.out.lt'.2
          have HWs := hid (RowN.nums HI.out.2.2)
          have HWl := hid HI.out.1
          go_wp2_with fail
          go_loopw [16, 17] (fun s16 s17 wr => ∃ (q : Nat) (A6 : Option Addr) (c6 : Nat) (lf : List Nat) (lq : Nat), s16 = .slice A6 lq c6 ∧ s17 = .int .i64 ((q : Nat) : Int) ∧ q ≤ lw ∧ lq ≤ q ∧ Hid (lq = lf.length ∧ lf = passed i (ws.take q) ∧ RowN wr y.w.heap.size A6 c6 lf) ∧ (∃ y2 : After y.w, wr = y2.w)) (fun _ s17 _ => lw - (intOf s17).toNat)
          case atStart => exact ⟨0, none, 0, [], 0, rfl, rfl, Nat.zero_le _, Nat.le_refl _, hid ⟨rfl, rfl, RowN.nil _ _⟩, Grew.refl _⟩
          case round =>
            obtain ⟨q, A6, c6, lf, lq, rfl, rfl, hq, hlq, HL, y2, rfl⟩ := hrel
            by_cases hqw : q < lw
            · have f5 : (q : Int) < lw := by omega
              obtain ⟨ad, rfl, hadb, hadc⟩ := HWs.out (by rw [← HWl.out]; omega)
              have q0 := (y2.grew.below.cell (by rw [block_add]; exact hadb)).trans (hadc q (by rw [← HWl.out]; exact hqw))
              obtain ⟨x, hx⟩ : ∃ x, ws[q]? = some x := ⟨_, List.getElem?_eq_getElem (by rw [← HWl.out]; exact hqw)⟩
              rw [show ws.getD q 0 = x by rw [List.getD_eq_getElem?_getD, hx]; rfl] at q0
              have HX := hid (show passed i (ws.take (q + 1)) = if x = i then passed i (ws.take q) else passed i (ws.take q) ++ [x] by
                rw [← passed_snoc]
                congr 1
                rw [List.take_add_one, hx]; rfl)
              clear hadc hx
              by_cases hxi : x = i
              · have HX2 := hid (show passed i (ws.take (q + 1)) = lf by rw [HX.out, if_pos hxi, HL.out.2.1])
                have t1 : ((x : Int) != (i : Int)) = false := by rw [bne_eq_false_iff_eq]; omega
                have t2 : (x != i) = false := by rw [bne_eq_false_iff_eq]; omega
                clear hxi HX
                go_wp2_with fail
                go_round
                case rel => exact ⟨q + 1, A6, c6, lf, lq, rfl, by go_num, by omega, by omega, hid ⟨HL.out.1, HX2.out.symm, HL.out.2.2⟩, y2.grew⟩
                case measure => simp [intOf]; omega
              · have HX2 := hid (show passed i (ws.take (q + 1)) = lf ++ [x] by rw [HX.out, if_neg hxi, HL.out.2.1])
                have t1 : ((x : Int) != (i : Int)) = true := by rw [bne_iff_ne]; omega
                have t2 : (x != i) = true := by rw [bne_iff_ne]; omega
                clear hxi HX
                have HR6 := hid HL.out.2.2
                go_wp2_with (at_builtin; refine wpList_pushN y2.w rfl _ _ rfl y.w.heap.size y2.grew.below.size A6 c6 lf lq HL.out.1 rfl HR6.out x _ rfl rfl _ rfl (by omega) ?_; rintro A7 c7 w7 hO7 hK7 hT7; have HO7 := hid hO7; have G7 := hid (hK7.grew y2.grew (Row.at_base HR6.out)); clear hO7 hK7 hT7)
                go_round
                case rel => exact ⟨q + 1, A7, c7, lf ++ [x], lq + 1, rfl, by go_num, by omega, by omega, hid ⟨by rw [List.length_append, ← HL.out.1]; rfl, HX2.out.symm, HO7.out⟩, G7.out⟩
                case measure => simp [intOf]; omega
            · obtain rfl : q = lw := by omega
              have HPs := hid (show lq = lf.length ∧ lf = passed i ws ∧ RowN y2.w y.w.heap.size A6 c6 lf from ⟨HL.out.1, by rw [HL.out.2.1, List.take_of_length_le (by rw [← HWl.out]; exact Nat.le_refl _)], HL.out.2.2⟩)
              clear HL HWs
              have qp := (HP3.out.at i hin).1
              have bp := HP3.out.lt'.2
              have HNW : Hid (nextW S i ws = if 0 ≤ (Fl.postOf S).getD i 0 then passed i ws ++ [((Fl.postOf S).getD i 0).toNat] else passed i ws) := hid (by
                unfold nextW
                rw [postOf_get HS.out.ok.1 hin])
              generalize (Fl.postOf S).getD i 0 = v at *
              go_upto_if 116 with fail
              go_cut [14] from 72 to 196 (fun s14 wx => ∃ (A8 : Option Addr) (c8 l8 : Nat), s14 = .slice A8 l8 c8 ∧ l8 ≤ k + 1 ∧ Hid (l8 = (nextW S i ws).length ∧ RowN wx y.w.heap.size A8 c8 (nextW S i ws)) ∧ ∃ y3 : After y.w, wx = y3.w)
              case first =>
                by_cases hvp : 0 ≤ v
                · obtain ⟨pv, rfl⟩ := Int.eq_ofNat_of_zero_le hvp
                  rw [if_pos hvp, Int.toNat_natCast] at HNW
                  have HR6 := hid HPs.out.2.2
                  go_wp2_with (at_builtin; refine wpList_pushN y2.w rfl _ _ rfl y.w.heap.size y2.grew.below.size A6 c6 lf lq HPs.out.1 rfl HR6.out pv _ rfl rfl _ rfl (by omega) ?_; rintro A7 c7 w7 hO7 hK7 hT7; have HO7 := hid hO7; have G7 := hid (hK7.grew y2.grew (Row.at_base HR6.out)); clear hO7 hK7 hT7)
                  go_meet
                  case rel => exact ⟨A7, c7, lq + 1, rfl, by omega, hid ⟨by rw [HNW.out, List.length_append, ← HPs.out.2.1, ← HPs.out.1]; rfl, by rw [HNW.out, ← HPs.out.2.1]; exact HO7.out⟩, G7.out⟩
                · rw [if_neg hvp] at HNW
                  have hv' : v < 0 := by omega
                  go_wp2_with fail
                  go_meet
                  case rel => exact ⟨A6, c6, lq, rfl, by omega, hid ⟨by rw [HNW.out, ← HPs.out.2.1]; exact HPs.out.1, by rw [HNW.out, ← HPs.out.2.1]; exact HPs.out.2.2⟩, y2, rfl⟩
              case rest =>
                obtain ⟨A8, c8, l8, rfl, hl8, HW8, y3, rfl⟩ := hcut
                clear HNW HPs qp bp qd
                obtain ⟨o, ho⟩ : ∃ o, l[i]? = some o := ⟨_, List.getElem?_eq_getElem (show i < l.length by rw [← HN.out]; exact hin)⟩
                obtain ⟨sx, hsg, hss⟩ := Fl.graph_succ HW.out.graph (i := i) (by rw [← HN.out]; exact hin)
                obtain ⟨ad, rfl, hb, hcx⟩ := HO.out.2 (by rw [← HN.out]; omega)
                have hg3 := y.grew.trans y3.grew
                obtain ⟨q0, q1, q2⟩ := op_cell (o := o) (i := i) (ad := ad) (w := y3.w) (fun j u hu => by
                  rw [hg3.below.cell (by rw [block_add]; exact hb)]; exact hcx i o ho j u hu)
                have HGx := hid (goes_next HW.out HS.out HN.out HI.out.2.1 ho)
                have HGs := hid (show G.getD i [] = sx by rw [List.getD_eq_getElem?_getD, hsg]; rfl)
                have hfit := valid_fit ((decR_ok (b := bs) HBy.out HW.out.dec).2.1 o (List.mem_of_getElem? ho))
                have h21 := ((decR_ok (b := bs) HBy.out HW.out.dec).2.1 o (List.mem_of_getElem? ho)).1
                have HNxi := hid (fun w' (hg : Grew w w') => HNx.out w' hg i (by rw [← HN.out]; exact hin) sx hss)
                have HLt := hid (Fl.succ_lt HW.out.os_len hss)
                have HG3 := hid (G3.out.trans hg3)
                have HGg := hid hg3
                have HEnd := hid (fun (he : sx = []) => nextW_end HS.out hin (HGs.out.trans he) HI.out.2.1.way)
                clear hcx ho hsg hss hg3
                obtain ⟨cd, oa, ob⟩ := o
                simp only at q0 q1 q2 hfit h21
                obtain ⟨_, hob0, hob1⟩ := hfit
                go_upto_block 4 with fail
                go_cut [19, 20] from 72 to 196 (fun s19 s20 wx => s19 = .int .i64 (Fl.effect ⟨cd, oa, ob⟩).1 ∧ s20 = .int .i64 (Fl.effect ⟨cd, oa, ob⟩).2 ∧ ∃ y4 : After y3.w, wx = y4.w)
                case first =>
                  clear HGx HNxi HEnd HG3 HGg HLt HGs
                  rcases (by omega : cd = 6 ∨ cd = 8 ∨ cd = 9 ∨ cd = 10 ∨ cd = 11 ∨ cd = 12 ∨ cd = 13 ∨ cd = 14 ∨ cd = 15 ∨ cd = 17 ∨ cd = 18 ∨ cd = 19 ∨ (cd ≠ 6 ∧ cd ≠ 8 ∧ cd ≠ 9 ∧ cd ≠ 10 ∧ cd ≠ 11 ∧ cd ≠ 12 ∧ cd ≠ 13 ∧ cd ≠ 14 ∧ cd ≠ 15 ∧ cd ≠ 17 ∧ cd ≠ 18 ∧ cd ≠ 19)) with h | h | h | h | h | h | h | h | h | h | h | h | h
                  rotate_left 12
                  · have HEf : Hid (Fl.effect ⟨cd, oa, ob⟩ = (0, 1)) := hid (by
                      unfold Fl.effect
                      simp only
                      rw [if_neg (by omega), if_neg (by omega), if_neg (by omega), if_neg (by omega)])
                    have u6 : (((cd : Nat) : Int) == 6) = false := by rw [beq_eq_false_iff_ne]; omega
                    have u8 : (((cd : Nat) : Int) == 8) = false := by rw [beq_eq_false_iff_ne]; omega
                    have u9 : (((cd : Nat) : Int) == 9) = false := by rw [beq_eq_false_iff_ne]; omega
                    have u10 : (((cd : Nat) : Int) == 10) = false := by rw [beq_eq_false_iff_ne]; omega
                    have u11 : (((cd : Nat) : Int) == 11) = false := by rw [beq_eq_false_iff_ne]; omega
                    have u12 : (((cd : Nat) : Int) == 12) = false := by rw [beq_eq_false_iff_ne]; omega
                    have u13 : (((cd : Nat) : Int) == 13) = false := by rw [beq_eq_false_iff_ne]; omega
                    have u14 : (((cd : Nat) : Int) == 14) = false := by rw [beq_eq_false_iff_ne]; omega
                    have u15 : (((cd : Nat) : Int) == 15) = false := by rw [beq_eq_false_iff_ne]; omega
                    have u17 : (((cd : Nat) : Int) == 17) = false := by rw [beq_eq_false_iff_ne]; omega
                    have u18 : (((cd : Nat) : Int) == 18) = false := by rw [beq_eq_false_iff_ne]; omega
                    have u19 : (((cd : Nat) : Int) == 19) = false := by rw [beq_eq_false_iff_ne]; omega
                    clear h
                    go_wp2_with fail
                    go_meet
                    case rel => exact ⟨by rw [HEf.out], by rw [HEf.out], (Grew.refl y3.w).alloc _⟩
                  all_goals
                    subst h
                    go_wp2_with fail
                    go_meet
                    case rel => exact ⟨rfl, rfl, (Grew.refl y3.w).alloc _⟩
                case rest =>
                  obtain ⟨rfl, rfl, y4, rfl⟩ := hcut
                  have hbd : 0 ≤ (Fl.effect ⟨cd, oa, ob⟩).1 ∧ 0 ≤ (Fl.effect ⟨cd, oa, ob⟩).2 ∧ (Fl.effect ⟨cd, oa, ob⟩).2 ≤ 2 := by
                    unfold Fl.effect
                    split
                    · decide
                    · split
                      · simp only; omega
                      · split
                        · decide
                        · split <;> decide
                  have HGy := hid (show (Fl.effect ⟨cd, oa, ob⟩).1 ≤ hv ∧ ∀ s ∈ sx, GoesAt l D S n s (hv - (Fl.effect ⟨cd, oa, ob⟩).1 + (Fl.effect ⟨cd, oa, ob⟩).2) (nextW S i ws) from ⟨HGx.out.1, fun s hs => HGx.out.2 s (by rw [HGs.out]; exact hs)⟩)
                  generalize (Fl.effect ⟨cd, oa, ob⟩).1 = tk at *
                  generalize (Fl.effect ⟨cd, oa, ob⟩).2 = pt at *
                  obtain ⟨tk0, pt0, pt2⟩ := hbd
                  have tk1 := HGy.out.1
                  have tk2 : ¬ hv < tk := by omega
                  have hg4 := HG3.out.trans y4.grew
                  have HNy := hid (HNxi.out y4.w hg4)
                  have HG4 := hid hg4
                  have HGh := hid (HGg.out.trans y4.grew)
                  clear HGx HGs HNxi HG3 HGg hg4 q0 q1 q2 h21 hob0 hob1
                  go_wp2_with fail
                  refine HNy.out.mono ?_
                  clear HNy
                  rintro e w5 ⟨A5', c5', t, rfl, ht, hR5, hg5⟩
                  subst ht
                  have HR5 := hid hR5.nums
                  have HWx := hid (RowN.grew HW8.out.2 (y4.grew.trans hg5))
                  have HW8l := hid HW8.out.1
                  have HG5 := hid (HG4.out.trans hg5)
                  have HGw := hid (HGh.out.trans hg5)
                  obtain ⟨lt, hlt⟩ : ∃ lt, lt = t.length := ⟨_, rfl⟩
                  rw [← hlt]
                  have HTl := hid hlt
                  have hltm : lt ≤ 9223372036854775807 := by have := hR5.cases; omega
                  clear hR5 hg5 hlt HG4 HGh
                  rcases Nat.eq_zero_or_pos lt with hz | hp
                  · subst hz
                    have hte : t = [] := List.eq_nil_of_length_eq_zero HTl.out.symm
                    have h80 : l8 = 0 := by rw [HW8l.out, HEnd.out hte]; rfl
                    subst h80
                    clear hte HEnd HGy HLt HNx HD3 HP3 HI HR5 HWx HW8 HWl
                    go_wp2_with fail
                    refine (HZ.out _ HG5.out).mono ?_
                    rintro e w6 ⟨rfl, hg6⟩
                    go_wp2_with fail
                    go_ret
                    exact ⟨rfl, HG5.out.trans hg6⟩
                  · have el : ((lt : Int) == 0) = false := by rw [beq_eq_false_iff_ne]; omega
                    have f8 : (0 : Int) < lt := by omega
                    obtain ⟨td, rfl, htd, htc⟩ := HR5.out (by rw [← HTl.out]; exact hp)
                    have q0 := htc 0 (by rw [← HTl.out]; exact hp)
                    rw [add_zero] at q0
                    have hm0 : t.getD 0 0 ∈ t := by
                      rw [List.getD_eq_getElem?_getD, List.getElem?_eq_getElem (by rw [← HTl.out]; exact hp)]
                      exact List.getElem_mem _
                    have hx0 := HLt.out _ hm0
                    rw [← HN.out] at hx0
                    have HGo := hid (HGy.out.2 _ hm0)
                    obtain ⟨bd, rfl, hbd, hbc⟩ := HCh3.out (by rw [← HMc.out]; omega)
                    have qb := (HGw.out.below.cell (by rw [block_add]; exact hbd)).trans (hbc k (by rw [← HMc.out]; exact hkm))
                    clear hbc hm0 HEnd HD3 HP3 HI HWl HNx
                    generalize ch.getD k false = bk at *
                    cases bk
                    · generalize t.getD 0 0 = x0 at *
                      clear htc HGy
                      have b1 : decide (((x0 : Nat) : Int) < 0) = false := by rw [decide_eq_false_iff_not]; omega
                      have b2 : decide (n ≤ x0) = false := by rw [decide_eq_false_iff_not]; omega
                      go_wp2_with fail
                      go_round
                      case rel => exact ⟨k + 1, x0, _, A8, c8, nextW S i ws, l8, rfl, rfl, rfl, by go_num, by omega, by omega, hl8, hid ⟨HW8l.out, HGo.out, Row.low HWx.out y.grew.below.size⟩, HGw.out⟩
                      case measure => simp [intOf]; omega
                    · by_cases h1 : 1 < lt
                      · have q1 := htc 1 (by rw [← HTl.out]; exact h1)
                        have q1' := q1
                        rw [show td.add 1 = ⟨td.block, td.off + 1, none⟩ by simp [Addr.add]] at q1'
                        have hm1 : t.getD 1 0 ∈ t := by
                          rw [List.getD_eq_getElem?_getD, List.getElem?_eq_getElem (by rw [← HTl.out]; exact h1)]
                          exact List.getElem_mem _
                        have hx1 := HLt.out _ hm1
                        rw [← HN.out] at hx1
                        replace HGo := hid (HGy.out.2 _ hm1)
                        have b0 : decide ((1 : Int) < lt) = true := by rw [decide_eq_true_iff]; omega
                        have f9 : (1 : Int) < lt := by omega
                        generalize t.getD 0 0 = x0 at *
                        generalize t.getD 1 0 = x1 at *
                        clear htc HGy hm1
                        have b1 : decide (((x1 : Nat) : Int) < 0) = false := by rw [decide_eq_false_iff_not]; omega
                        have b2 : decide (n ≤ x1) = false := by rw [decide_eq_false_iff_not]; omega
                        go_wp2_with fail
                        go_round
                        case rel => exact ⟨k + 1, x1, _, A8, c8, nextW S i ws, l8, rfl, rfl, rfl, by go_num, by omega, by omega, hl8, hid ⟨HW8l.out, HGo.out, Row.low HWx.out y.grew.below.size⟩, HGw.out⟩
                        case measure => simp [intOf]; omega
                      · have b0 : decide ((1 : Int) < lt) = false := by rw [decide_eq_false_iff_not]; omega
                        generalize t.getD 0 0 = x0 at *
                        clear htc HGy
                        have b1 : decide (((x0 : Nat) : Int) < 0) = false := by rw [decide_eq_false_iff_not]; omega
                        have b2 : decide (n ≤ x0) = false := by rw [decide_eq_false_iff_not]; omega
                        go_wp2_with fail
                        go_round
                        case rel => exact ⟨k + 1, x0, _, A8, c8, nextW S i ws, l8, rfl, rfl, rfl, by go_num, by omega, by omega, hl8, hid ⟨HW8l.out, HGo.out, Row.low HWx.out y.grew.below.size⟩, HGw.out⟩
                        case measure => simp [intOf]; omega
        · have f1 : (k : Int) < m := by omega
          have f2 : ¬ (k : Int) < 300 := by omega
          clear HNx HD3 HP3 HI HO
          go_wp2_with fail
          refine (HZ.out _ (G3.out.trans y.grew)).mono ?_
          rintro e w6 ⟨rfl, hg6⟩
          go_wp2_with fail
          go_ret
          exact ⟨rfl, (G3.out.trans y.grew).trans hg6⟩
      · have f1 : ¬ (k : Int) < m := by omega
        clear HNx HD3 HP3 HI HO
        go_wp2_with fail
        refine (HZ.out _ (G3.out.trans y.grew)).mono ?_
        rintro e w6 ⟨rfl, hg6⟩
        go_wp2_with fail
        go_ret
        exact ⟨rfl, (G3.out.trans y.grew).trans hg6⟩
  · have HDp := hid (depths_bad h hb)
    have HPo := hid (fun w' (hg : Grew w w') => post_bad (h.grew hg) hb)
    rw [← en] at HDp HPo ⊢
    clear h en hb
    go_enter Tryd.func3, Tryd.ntmps3
    go_wp2_with fail
    refine HDp.out.mono ?_
    rintro e w1 ⟨rfl, hg1⟩
    have G1 := hid hg1
    clear hg1
    go_wp2_with fail
    refine (HPo.out _ G1.out).mono ?_
    rintro e w2 ⟨rfl, hg2⟩
    have G2 := hid (G1.out.trans hg2)
    clear hg2
    by_cases h6 : 200 < n0
    · have f6 : (200 : Int) < n0 := by omega
      go_wp2_with fail
      refine (HZ.out _ G2.out).mono ?_
      rintro e w3 ⟨rfl, hg⟩
      go_wp2_with fail
      go_ret
      exact ⟨rfl, G2.out.trans hg⟩
    · have f6 : ¬ (200 : Int) < n0 := by omega
      go_wp2_with fail
      refine (HZ.out _ G2.out).mono ?_
      rintro e w3 ⟨rfl, hg⟩
      go_wp2_with fail
      go_ret
      exact ⟨rfl, G2.out.trans hg⟩
end Go.Proofs.YtilikjfjbnabfaaDoor

/- Stage 12: the reference's New. -/
import Derived.Test.YtidnaednldcdfaaGreatDoorGeB
namespace Go.Proofs.YtidnaednldcdfaaGreatDoor
open Go.RowKit

set_option maxRecDepth 100000 in
set_option maxHeartbeats 8000000 in
theorem rNew_c (U : Option Addr) (cu : Nat) (up : List Nat) (room : Int) (A : Option Addr) (c : Nat) (quota : List Int) (w : World) (hn : up.length ≤ 20) (hU : BytesAt w w.heap.size U up) (h : IntsAt w A quota) (_hl : quota.length ≤ 1000) :
    Calls Tryz.prog 16 #[.slice U up.length cu, .int .i64 room, .slice A quota.length c] w (RNewV w U cu up room quota) := by
  have HBad := hid (fun W (hW : Grew w W) k hk he => rNewV_bad (U := U) (cu := cu) (up := up) (room := room) (quota := quota) hW k hk he)
  have HQ := hid h
  have HUp := hid hU
  have HMay := hid (fun W (hW : Grew w W) => rmay_c U cu up W hn (hU.grew hW))
  rw [La.rmay_valid hU.1] at HMay
  have HLat := hid (fun (hv : La.valid up = false) => newCode_lat (room := room) (quota := quota) hv)
  have HArg := hid (fun (hv : La.valid up = true) h => newCode_arg (room := room) (quota := quota) hv h)
  have HRest := hid (fun (hv : La.valid up = true) h1 h2 => newCode_rest (room := room) (quota := quota) hv h1 h2)
  obtain ⟨un, eun⟩ : ∃ un, un = up.length := ⟨_, rfl⟩
  obtain ⟨qn, eqn⟩ : ∃ qn, qn = quota.length := ⟨_, rfl⟩
  rw [← eun] at hn HMay HArg HRest ⊢
  rw [← eqn] at HArg HRest ⊢
  have EUN := hid eun
  have EQN := hid eqn
  obtain ⟨bv, ebv⟩ : ∃ bv, bv = La.valid up := ⟨_, rfl⟩
  rw [← ebv] at HMay HLat HArg HRest
  clear eun eqn hU h ebv
  have G1 := (Grew.refl w).alloc (.cells #[.slice none 0 0, .int .i64 0, .slice none 0 0, .slice none 0 0, .slice none 0 0] 53)
  have B1 := Blk.new w 53 #[.slice none 0 0, .int .i64 0, .slice none 0 0, .slice none 0 0, .slice none 0 0]
  go_enter Tryz.func16, Tryz.ntmps16
  go_upto_region 1 with fail
  obtain ⟨gb, egb⟩ : ∃ gb, gb = w.heap.size := ⟨_, rfl⟩
  generalize w.alloc (.cells #[.slice none 0 0, .int .i64 0, .slice none 0 0, .slice none 0 0, .slice none 0 0] 53) = w1 at *
  rw [← egb] at B1 ⊢
  have HG1 := hid G1
  have HB1 := hid B1
  have EGB := hid egb
  clear G1 B1 egb
  have HDone := hid (fun W (hb : Blk W gb 53 #[.slice none 0 0, .int .i64 0, .slice none 0 0, .slice none 0 0, .slice none 0 0]) (hg : Grew w W) => show Grew w (((((W.setCell ⟨gb, 0, none⟩ (.slice none 0 0)).setCell ⟨gb, 1, none⟩ (.int .i64 0)).setCell ⟨gb, 2, none⟩ (.slice none 0 0)).setCell ⟨gb, 3, none⟩ (.slice none 0 0)).setCell ⟨gb, 4, none⟩ (.slice none 0 0)) from Kept.up (kept5 (Kept.of_grew hg) (fun _ => by have h1 := EGB.out; show w.heap.size ≤ gb; omega) _ _ _ _ _))
  cases bv
  · have HC := hid (HLat.out rfl)
    have t0 := HB1.out.cell 0
    have t1 := HB1.out.cell 1
    have t2 := HB1.out.cell 2
    have t3 := HB1.out.cell 3
    have t4 := HB1.out.cell 4
    have tl := HB1.out.lt
    have tf := HB1.out.frozen
    simp only [List.getElem?_toArray, List.getElem?_cons_zero, List.getElem?_cons_succ] at t0 t1 t2 t3 t4
    go_wp2_with (go_at_call 53; refine (HMay.out _ HG1.out).mono ?_; rintro e w2 ⟨rfl, rfl⟩)
    refine bodyPost_ret (v := .tuple #[.agg #[.slice none 0 0, .int .i64 0, .slice none 0 0, .slice none 0 0, .slice none 0 0], .int .i64 7]) (res_rNew _ gb rfl _ rfl _ _ _ _ _ _ (HB1.out.put5 _ _ _ _ _)) rfl ?_
    exact HBad.out _ (HDone.out _ HB1.out HG1.out) 7 (by decide) HC.out
  · by_cases r1 : limB room = true ∧ qn ≤ un
    · have HC := hid (HRest.out rfl r1.1 r1.2)
      obtain ⟨lr1, lr2⟩ := lim_spec r1.1
      have r2 := r1.2
      have n1 : ¬ room < 0 := by omega
      have n2 : ¬ (1048576 : Int) < room := by omega
      have n3 : ¬ (un : Int) < (qn : Int) := by omega
      clear r1
      go_upto_region 5 with (go_at_call 53; refine (HMay.out _ HG1.out).mono ?_; rintro e w2 ⟨rfl, rfl⟩)
      have B2 := Blk.new w2 53 #[.slice U un cu, .int .i64 room, .slice none 0 0, .slice none 0 0, .slice none 0 0]
      have G2 := (Grew.refl w2).alloc (.cells #[.slice U un cu, .int .i64 room, .slice none 0 0, .slice none 0 0, .slice none 0 0] 53)
      go_upto_region 6 with fail
      generalize w2.alloc (.cells #[.slice U un cu, .int .i64 room, .slice none 0 0, .slice none 0 0, .slice none 0 0] 53) = w3 at *
      obtain ⟨gh, egh⟩ : ∃ gh, gh = w2.heap.size := ⟨_, rfl⟩
      rw [← egh] at B2 ⊢
      have HI0 := hid (show NwI w w3 gb gh U un cu room 0 0 none 0 none 0 ((cntL 0 (qf room quota)).flatMap intF) ((cntL 0 (fun _ => 0)).flatMap intF) from ⟨HB1.out.grew G2, B2, Row.nil _ _ _ _, Row.nil _ _ _ _, by have := HB1.out.lt; omega, fun k hk => (by obtain ⟨ad, h, _⟩ := hk; cases h), HG1.out.trans G2, by rw [EGB.out]; exact Nat.le_refl _, by rw [egh]; exact HG1.out.below.size⟩)
      clear B2 G2 egh HB1 HG1
      go_upto_region 7 with fail
      go_loopw [9, 10] (fun s9 _ wr => ∃ (i : Nat) (Q : Option Addr) (cQ : Nat) (C : Option Addr) (cC : Nat), s9 = .int .i64 ((i : Nat) : Int) ∧ i ≤ un ∧ Hid (NwI w wr gb gh U un cu room i i Q cQ C cC ((cntL i (qf room quota)).flatMap intF) ((cntL i (fun _ => 0)).flatMap intF)) ∧ Hid (∀ j, j < i → limB (qf room quota j) = true)) (fun s9 _ _ => un - (intOf s9).toNat)
      case atStart => exact ⟨0, none, 0, none, 0, rfl, Nat.zero_le _, HI0, hid (fun j hj => absurd hj (Nat.not_lt_zero _))⟩
      case round =>
        obtain ⟨i, Q, cQ, C, cC, rfl, hi, HN, HL⟩ := hrel
        by_cases hlt : i < un
        · have f1 : (i : Int) < (un : Int) := by omega
          obtain ⟨qi, eqi⟩ : ∃ qi, qi = qf room quota i := ⟨_, rfl⟩
          have EQI := hid eqi
          by_cases hq : i < qn
          · have f2 : (i : Int) < (qn : Int) := by omega
            obtain ⟨ad, x, rfl, hx, q0, hb⟩ := int_at HQ.out HN.out.gr (i := i) (by rw [← EQN.out]; exact hq)
            obtain rfl : qi = x := by rw [eqi]; unfold qf; rw [List.getD_eq_getElem?_getD, hx]; rfl
            clear hx eqi
            go_upto_region 12 with fail
            clear q0 hb
            cases hlq : limB qi
            · have HC1 := hid (show newCode up room quota = 1 by
                rw [HC.out, if_neg]
                intro hall
                have h1 := List.all_eq_true.1 hall i (List.mem_range.2 hlt)
                rw [← EQI.out, hlq] at h1
                cases h1)
              have HBq := hid HN.out.b6
              have t0 := HBq.out.cell 0
              have t1 := HBq.out.cell 1
              have t2 := HBq.out.cell 2
              have t3 := HBq.out.cell 3
              have t4 := HBq.out.cell 4
              have tl := HBq.out.lt
              have tf := HBq.out.frozen
              simp only [List.getElem?_toArray, List.getElem?_cons_zero, List.getElem?_cons_succ] at t0 t1 t2 t3 t4
              by_cases m1 : qi < 0
              · go_wp2_with fail
                refine bodyPost_ret (v := .tuple #[.agg #[.slice none 0 0, .int .i64 0, .slice none 0 0, .slice none 0 0, .slice none 0 0], .int .i64 1]) (res_rNew _ gb rfl _ rfl _ _ _ _ _ _ (HBq.out.put5 _ _ _ _ _)) rfl ?_
                exact HBad.out _ (HDone.out _ HBq.out HN.out.gr) 1 (by decide) HC1.out
              · have m2 : (1048576 : Int) < qi := by
                  have h1 : ¬ (0 ≤ qi ∧ qi ≤ 1048576) := fun h => by
                    unfold limB at hlq
                    rw [decide_eq_true h.1, decide_eq_true h.2] at hlq
                    cases hlq
                  omega
                go_wp2_with fail
                refine bodyPost_ret (v := .tuple #[.agg #[.slice none 0 0, .int .i64 0, .slice none 0 0, .slice none 0 0, .slice none 0 0], .int .i64 1]) (res_rNew _ gb rfl _ rfl _ _ _ _ _ _ (HBq.out.put5 _ _ _ _ _)) rfl ?_
                exact HBad.out _ (HDone.out _ HBq.out HN.out.gr) 1 (by decide) HC1.out
            · obtain ⟨m1, m2⟩ := lim_spec hlq
              have HLn := hid (show ∀ j, j < i + 1 → limB (qf room quota j) = true from fun j hj => by
                rcases Nat.lt_or_ge j i with h1 | h1
                · exact HL.out j h1
                · obtain rfl : j = i := by omega
                  rw [← EQI.out]
                  exact hlq)
              have n1 : ¬ qi < 0 := by omega
              have n2 : ¬ (1048576 : Int) < qi := by omega
              clear hlq
              have HNb := hid HN.out.bh
              have p2 := HNb.out.cell 2
              have pl := HNb.out.lt
              simp only [List.getElem?_toArray, List.getElem?_cons_zero, List.getElem?_cons_succ] at p2
              have B4 := Blk.new wr 3 #[.int .i64 qi]
              have G4 := (Grew.refl wr).alloc (.cells #[.int .i64 qi] 3)
              have HN4 := hid (HN.out.grew G4)
              have HB4 := hid B4
              clear B4 G4
              go_upto_region 14 with fail
              go_upto_region 15 with (at_builtin; refine wpList_catR (.int .i64 0) 1 8 _ rfl _ _ 23 3 rfl Tryz.underlying23 i64_info rfl (by decide) w.heap.size HN4.out.gr.below.size Q i cQ _ rfl HN4.out.rq (some ⟨wr.heap.size, 0, none⟩) 1 1 (intF qi) rfl rfl (by intro u hu; simp only [intF, List.mem_singleton] at hu; subst hu; rfl) (by intro e; cases e) (blk_row HB4.out) (by omega) (by omega) ?_; rintro A8 k8 w8 hR8 hK8 hT8; have HQ8 := hid (HN4.out.q hR8 hK8 hT8); have HB8 := hid (HN4.out.bq hK8); clear hR8 hK8 hT8 p2 pl; have z2 := HB8.out.cell 2; have zl := HB8.out.lt; have zf := HB8.out.frozen)
              clear z2 zl zf HB8 HN4 HB4
              generalize w8.setCell ⟨gh, 2, none⟩ (.slice A8 (i + 1) k8) = w9 at *
              have HNb9 := hid HQ8.out.bh
              have p4 := HNb9.out.cell 4
              have pl := HNb9.out.lt
              simp only [List.getElem?_toArray, List.getElem?_cons_zero, List.getElem?_cons_succ] at p4
              have B5 := Blk.new w9 3 #[.int .i64 0]
              have G5 := (Grew.refl w9).alloc (.cells #[.int .i64 0] 3)
              have HN5 := hid (HQ8.out.grew G5)
              have HB5 := hid B5
              clear B5 G5
              go_wp2_with (at_builtin; refine wpList_catR (.int .i64 0) 1 8 _ rfl _ _ 23 3 rfl Tryz.underlying23 i64_info rfl (by decide) w.heap.size HN5.out.gr.below.size C i cC _ rfl HN5.out.rc (some ⟨w9.heap.size, 0, none⟩) 1 1 (intF 0) rfl rfl (by intro u hu; simp only [intF, List.mem_singleton] at hu; subst hu; rfl) (by intro e; cases e) (blk_row HB5.out) (by omega) (by omega) ?_; rintro A6 k6 w6 hR6 hK6 hT6; have HC6 := hid (HN5.out.c hR6 hK6 hT6); have HB6 := hid (HN5.out.bc hK6); clear hR6 hK6 hT6 p4 pl; have z4 := HB6.out.cell 4; have zl := HB6.out.lt; have zf := HB6.out.frozen)
              go_round
              case rel => exact ⟨i + 1, by go_num, by omega, ⟨A8, k8, A6, k6, hid (by rw [cntL_next, cntL_next, List.flatMap_append, List.flatMap_append, ← EQI.out]; exact HC6.out)⟩, HLn⟩
              case measure => simp [intOf]; omega
          · have f2 : ¬ (i : Int) < (qn : Int) := by omega
            obtain rfl : room = qi := by rw [eqi]; unfold qf; rw [List.getD_eq_getElem?_getD, List.getElem?_eq_none (by rw [← EQN.out]; omega)]; rfl
            clear eqi
            go_upto_region 12 with fail
            cases hlq : limB room
            · exact absurd hlq (by unfold limB; rw [decide_eq_true lr1, decide_eq_true lr2]; decide)
            · obtain ⟨m1, m2⟩ := lim_spec hlq
              have HLn := hid (show ∀ j, j < i + 1 → limB (qf room quota j) = true from fun j hj => by
                rcases Nat.lt_or_ge j i with h1 | h1
                · exact HL.out j h1
                · obtain rfl : j = i := by omega
                  rw [← EQI.out]
                  exact hlq)
              have n1 : ¬ room < 0 := by omega
              have n2 : ¬ (1048576 : Int) < room := by omega
              clear hlq
              have HNb := hid HN.out.bh
              have p2 := HNb.out.cell 2
              have pl := HNb.out.lt
              simp only [List.getElem?_toArray, List.getElem?_cons_zero, List.getElem?_cons_succ] at p2
              have B4 := Blk.new wr 3 #[.int .i64 room]
              have G4 := (Grew.refl wr).alloc (.cells #[.int .i64 room] 3)
              have HN4 := hid (HN.out.grew G4)
              have HB4 := hid B4
              clear B4 G4
              go_upto_region 14 with fail
              go_upto_region 15 with (at_builtin; refine wpList_catR (.int .i64 0) 1 8 _ rfl _ _ 23 3 rfl Tryz.underlying23 i64_info rfl (by decide) w.heap.size HN4.out.gr.below.size Q i cQ _ rfl HN4.out.rq (some ⟨wr.heap.size, 0, none⟩) 1 1 (intF room) rfl rfl (by intro u hu; simp only [intF, List.mem_singleton] at hu; subst hu; rfl) (by intro e; cases e) (blk_row HB4.out) (by omega) (by omega) ?_; rintro A8 k8 w8 hR8 hK8 hT8; have HQ8 := hid (HN4.out.q hR8 hK8 hT8); have HB8 := hid (HN4.out.bq hK8); clear hR8 hK8 hT8 p2 pl; have z2 := HB8.out.cell 2; have zl := HB8.out.lt; have zf := HB8.out.frozen)
              clear z2 zl zf HB8 HN4 HB4
              generalize w8.setCell ⟨gh, 2, none⟩ (.slice A8 (i + 1) k8) = w9 at *
              have HNb9 := hid HQ8.out.bh
              have p4 := HNb9.out.cell 4
              have pl := HNb9.out.lt
              simp only [List.getElem?_toArray, List.getElem?_cons_zero, List.getElem?_cons_succ] at p4
              have B5 := Blk.new w9 3 #[.int .i64 0]
              have G5 := (Grew.refl w9).alloc (.cells #[.int .i64 0] 3)
              have HN5 := hid (HQ8.out.grew G5)
              have HB5 := hid B5
              clear B5 G5
              go_wp2_with (at_builtin; refine wpList_catR (.int .i64 0) 1 8 _ rfl _ _ 23 3 rfl Tryz.underlying23 i64_info rfl (by decide) w.heap.size HN5.out.gr.below.size C i cC _ rfl HN5.out.rc (some ⟨w9.heap.size, 0, none⟩) 1 1 (intF 0) rfl rfl (by intro u hu; simp only [intF, List.mem_singleton] at hu; subst hu; rfl) (by intro e; cases e) (blk_row HB5.out) (by omega) (by omega) ?_; rintro A6 k6 w6 hR6 hK6 hT6; have HC6 := hid (HN5.out.c hR6 hK6 hT6); have HB6 := hid (HN5.out.bc hK6); clear hR6 hK6 hT6 p4 pl; have z4 := HB6.out.cell 4; have zl := HB6.out.lt; have zf := HB6.out.frozen)
              go_round
              case rel => exact ⟨i + 1, by go_num, by omega, ⟨A8, k8, A6, k6, hid (by rw [cntL_next, cntL_next, List.flatMap_append, List.flatMap_append, ← EQI.out]; exact HC6.out)⟩, HLn⟩
              case measure => simp [intOf]; omega
        · have hin : i = un := by omega
          subst hin
          have HC0 := hid (show newCode up room quota = 0 by rw [HC.out, if_pos (List.all_eq_true.2 (fun j hj => HL.out j (List.mem_range.1 hj)))])
          have HNb := hid HN.out.bh
          have HBq := hid HN.out.b6
          have p0 := HNb.out.cell 0
          have p1 := HNb.out.cell 1
          have p2 := HNb.out.cell 2
          have p3 := HNb.out.cell 3
          have p4 := HNb.out.cell 4
          have pl := HNb.out.lt
          have pf := HNb.out.frozen
          simp only [List.getElem?_toArray, List.getElem?_cons_zero, List.getElem?_cons_succ] at p0 p1 p2 p3 p4
          have t0 := HBq.out.cell 0
          have t1 := HBq.out.cell 1
          have t2 := HBq.out.cell 2
          have t3 := HBq.out.cell 3
          have t4 := HBq.out.cell 4
          have tl := HBq.out.lt
          have tf := HBq.out.frozen
          simp only [List.getElem?_toArray, List.getElem?_cons_zero, List.getElem?_cons_succ] at t0 t1 t2 t3 t4
          go_wp2_with fail
          refine bodyPost_ret (v := .tuple #[.agg #[.slice U i cu, .int .i64 room, .slice Q i cQ, .slice none 0 0, .slice C i cC], .int .i64 0]) (res_rNew _ gb rfl _ rfl _ _ _ _ _ _ (HBq.out.put5 _ _ _ _ _)) rfl ?_
          have hk : Kept (fun k => k = gb) wr (((((wr.setCell ⟨gb, 0, none⟩ (.slice U i cu)).setCell ⟨gb, 1, none⟩ (.int .i64 room)).setCell ⟨gb, 2, none⟩ (.slice Q i cQ)).setCell ⟨gb, 3, none⟩ (.slice none 0 0)).setCell ⟨gb, 4, none⟩ (.slice C i cC)) := kept5 (Kept.refl (fun k => k = gb) wr) (fun _ => rfl) _ _ _ _ _
          have hgf := hk.grew HN.out.gr (fun k e => by rw [e, EGB.out]; exact Nat.le_refl _)
          have n6 : ∀ (A : Option Addr) (n c : Nat) (vs : List Value), Row wr w.heap.size 3 1 A n c vs → ∀ g, A = some ⟨g, 0, none⟩ → g ≠ gb := fun A n c vs hr g hA e => by
            obtain ⟨cs, hc⟩ := hr.blkAt (k := g) ⟨_, hA, rfl⟩
            rw [e] at hc
            exact absurd (hc.ty HBq.out).1 (by decide)
          unfold RNewV
          rw [if_pos HC0.out]
          refine ⟨⟨U, cu, up, room, Q, cQ, cntL i (qf room quota), none, 0, [], C, cC, cntL i (fun _ => 0)⟩, by unfold rvC; simp only [cntL_len, List.length_nil]; rw [← EUN.out], ⟨HUp.out.grew hgf, ints_row (by rw [cntL_len]; exact HN.out.rq.kept hk (n6 _ _ _ _ HN.out.rq)), ⟨by simp, fun h => absurd h (by simp)⟩, ints_row (by rw [cntL_len]; exact HN.out.rc.kept hk (n6 _ _ _ _ HN.out.rc)), by simp only [cntL_len]; exact EUN.out, by simp only [cntL_len]; exact EUN.out, by simp only; rw [← EUN.out]; exact hn⟩, rfl, rfl, rfl, rfl, by rw [← EUN.out], rfl, rfl, rfl, by rw [← EUN.out], fun ad e => Row.at_base HN.out.rq ad.block ⟨ad, e, rfl⟩, fun k hk => (by rcases hk with ⟨_, ad, e, rfl⟩ | ⟨_, ad, e, rfl⟩ | ⟨h1, _⟩ | ⟨x, hx, _⟩; exact Row.at_base HN.out.rq ad.block ⟨ad, e, rfl⟩; exact Row.at_base HN.out.rc ad.block ⟨ad, e, rfl⟩; exact absurd h1 (by simp); exact absurd hx (by simp)), hgf⟩
    · have HC := hid (HArg.out rfl (by
        cases hr : limB room
        · exact .inl rfl
        · exact .inr (by
            rcases Nat.lt_or_ge un qn with h | h
            · exact h
            · exact absurd ⟨hr, h⟩ r1)))
      have t0 := HB1.out.cell 0
      have t1 := HB1.out.cell 1
      have t2 := HB1.out.cell 2
      have t3 := HB1.out.cell 3
      have t4 := HB1.out.cell 4
      have tl := HB1.out.lt
      have tf := HB1.out.frozen
      simp only [List.getElem?_toArray, List.getElem?_cons_zero, List.getElem?_cons_succ] at t0 t1 t2 t3 t4
      by_cases s1 : room < 0
      · go_wp2_with (go_at_call 53; refine (HMay.out _ HG1.out).mono ?_; rintro e w2 ⟨rfl, rfl⟩)
        refine bodyPost_ret (v := .tuple #[.agg #[.slice none 0 0, .int .i64 0, .slice none 0 0, .slice none 0 0, .slice none 0 0], .int .i64 1]) (res_rNew _ gb rfl _ rfl _ _ _ _ _ _ (HB1.out.put5 _ _ _ _ _)) rfl ?_
        exact HBad.out _ (HDone.out _ HB1.out HG1.out) 1 (by decide) HC.out
      · by_cases s2 : (1048576 : Int) < room
        · go_wp2_with (go_at_call 53; refine (HMay.out _ HG1.out).mono ?_; rintro e w2 ⟨rfl, rfl⟩)
          refine bodyPost_ret (v := .tuple #[.agg #[.slice none 0 0, .int .i64 0, .slice none 0 0, .slice none 0 0, .slice none 0 0], .int .i64 1]) (res_rNew _ gb rfl _ rfl _ _ _ _ _ _ (HB1.out.put5 _ _ _ _ _)) rfl ?_
          exact HBad.out _ (HDone.out _ HB1.out HG1.out) 1 (by decide) HC.out
        · have s3 : (un : Int) < (qn : Int) := by
            have h1 : limB room = true := by unfold limB; rw [decide_eq_true (by omega), decide_eq_true (by omega)]; rfl
            have h2 : ¬ qn ≤ un := fun h => r1 ⟨h1, h⟩
            omega
          go_wp2_with (go_at_call 53; refine (HMay.out _ HG1.out).mono ?_; rintro e w2 ⟨rfl, rfl⟩)
          refine bodyPost_ret (v := .tuple #[.agg #[.slice none 0 0, .int .i64 0, .slice none 0 0, .slice none 0 0, .slice none 0 0], .int .i64 1]) (res_rNew _ gb rfl _ rfl _ _ _ _ _ _ (HB1.out.put5 _ _ _ _ _)) rfl ?_
          exact HBad.out _ (HDone.out _ HB1.out HG1.out) 1 (by decide) HC.out
end Go.Proofs.YtidnaednldcdfaaGreatDoor

/- Stage 9: encodable. -/
import Derived.Test.YtjdgcgpidhljpaaGreatDoorMtM
import Derived.Test.YtjdgcgpidhljpaaGreatDoorMtH
namespace Go.Proofs.YtjdgcgpidhljpaaGreatDoor
open Go.RowKit

set_option maxRecDepth 100000 in
set_option maxHeartbeats 1000000 in
theorem encLit_c (x : Mt.Lit) (w : World) : Calls Tryz.prog 61 #[.agg #[.int .u8 ((x.k : Nat) : Int), .string x.s]] w fun e w' => e = .returned (.bool (Mt.litFits x)) ∧ Grew w w' := by
  obtain ⟨k, s⟩ := x
  unfold Mt.litFits
  simp only
  have HG := hid ((Grew.refl w).alloc (.cells #[.int .u8 ((k : Nat) : Int), .string s] 62))
  by_cases h1 : k ≤ 2
  · rw [decide_eq_true h1, Bool.true_and]
    have f1 : ((k : Nat) : Int) ≤ 2 := by omega
    by_cases h2 : s.size ≤ 1024
    · rw [decide_eq_true h2]
      have f2 : (s.size : Int) ≤ 1024 := by omega
      go_enter Tryz.func61, Tryz.ntmps61
      go_wp2_with fail
      go_ret
      exact ⟨rfl, HG.out⟩
    · rw [decide_eq_false h2]
      have f2 : ¬ (s.size : Int) ≤ 1024 := by omega
      go_enter Tryz.func61, Tryz.ntmps61
      go_wp2_with fail
      go_ret
      exact ⟨rfl, HG.out⟩
  · rw [decide_eq_false h1, Bool.false_and]
    have f1 : ¬ ((k : Nat) : Int) ≤ 2 := by omega
    go_enter Tryz.func61, Tryz.ntmps61
    go_wp2_with fail
    go_ret
    exact ⟨rfl, HG.out⟩
theorem notEncLit_c (x : Mt.Lit) (w : World) : Calls Tryz.prog 60 #[.agg #[.int .u8 ((x.k : Nat) : Int), .string x.s]] w fun e w' => e = .returned (.bool (!(Mt.litFits x))) ∧ Grew w w' := by
  have HG := hid ((Grew.refl w).alloc (.cells #[.int .u8 ((x.k : Nat) : Int), .string x.s] 62))
  have HV := hid (encLit_c x (w.alloc (.cells #[.int .u8 ((x.k : Nat) : Int), .string x.s] 62)))
  generalize Mt.litFits x = b at *
  obtain ⟨k, s⟩ := x
  simp only at HV HG ⊢
  go_enter Tryz.func60, Tryz.ntmps60
  go_wp2_with fail
  refine HV.out.mono ?_
  rintro e w1 ⟨rfl, hg⟩
  go_wp2_with fail
  go_ret
  exact ⟨rfl, HG.out.trans hg⟩
set_option maxRecDepth 100000 in
set_option maxHeartbeats 1000000 in
theorem encPart_c (v : PV) (w : World) : Calls Tryz.prog 63 #[.agg (pvCells v)] w fun e w' => e = .returned (.bool (Mt.partFits v.p)) ∧ Grew w w' := by
  have HG := hid ((Grew.refl w).alloc (.cells (pvCells v) 63))
  have H1 := hid (within_c v.p.outer (-1) 63 (w.alloc (.cells (pvCells v) 63)))
  have H2 := hid (within_c v.p.args 0 16 (w.alloc (.cells (pvCells v) 63)))
  have H3 := hid (within_c v.p.temps 0 16 (w.alloc (.cells (pvCells v) 63)))
  have hd : Mt.partFits v.p = ((decide (-1 ≤ v.p.outer) && decide (v.p.outer ≤ 63)) && (decide (0 ≤ v.p.args) && decide (v.p.args ≤ 16)) && (decide (0 ≤ v.p.temps) && decide (v.p.temps ≤ 16)) && decide (v.p.code.length ≤ 512)) := by
    simp only [Mt.partFits, Bool.and_assoc]
  rw [hd]
  generalize (decide (-1 ≤ v.p.outer) && decide (v.p.outer ≤ 63)) = b1 at *
  generalize (decide (0 ≤ v.p.args) && decide (v.p.args ≤ 16)) = b2 at *
  generalize (decide (0 ≤ v.p.temps) && decide (v.p.temps ≤ 16)) = b3 at *
  clear hd
  obtain ⟨⟨po, pa, pt, code⟩, A, c⟩ := v
  unfold pvCells at *
  simp only at HG H1 H2 H3 ⊢
  generalize code.length = n at *
  cases b1
  · go_enter Tryz.func63, Tryz.ntmps63
    go_wp2_with fail
    refine H1.out.mono ?_
    rintro e w1 ⟨rfl, rfl⟩
    go_wp2_with fail
    go_ret
    exact ⟨rfl, HG.out⟩
  · cases b2
    · go_enter Tryz.func63, Tryz.ntmps63
      go_wp2_with fail
      refine H1.out.mono ?_
      rintro e w1 ⟨rfl, rfl⟩
      go_wp2_with fail
      refine H2.out.mono ?_
      rintro e w1 ⟨rfl, rfl⟩
      go_wp2_with fail
      go_ret
      exact ⟨rfl, HG.out⟩
    · cases b3
      · go_enter Tryz.func63, Tryz.ntmps63
        go_wp2_with fail
        refine H1.out.mono ?_
        rintro e w1 ⟨rfl, rfl⟩
        go_wp2_with fail
        refine H2.out.mono ?_
        rintro e w1 ⟨rfl, rfl⟩
        go_wp2_with fail
        refine H3.out.mono ?_
        rintro e w1 ⟨rfl, rfl⟩
        go_wp2_with fail
        go_ret
        exact ⟨rfl, HG.out⟩
      · have HD := hid (show decide ((n : Int) ≤ 512) = decide (n ≤ 512) by rw [decide_eq_decide]; omega)
        go_enter Tryz.func63, Tryz.ntmps63
        go_wp2_with fail
        refine H1.out.mono ?_
        rintro e w1 ⟨rfl, rfl⟩
        go_wp2_with fail
        refine H2.out.mono ?_
        rintro e w1 ⟨rfl, rfl⟩
        go_wp2_with fail
        refine H3.out.mono ?_
        rintro e w1 ⟨rfl, rfl⟩
        go_wp2_with fail
        go_ret
        exact ⟨congrArg (fun z => Ending.returned (.bool z)) HD.out, HG.out⟩
theorem notEncPart_c (v : PV) (w : World) : Calls Tryz.prog 62 #[.agg (pvCells v)] w fun e w' => e = .returned (.bool (!(Mt.partFits v.p))) ∧ Grew w w' := by
  have HG := hid ((Grew.refl w).alloc (.cells (pvCells v) 63))
  have HV := hid (encPart_c v (w.alloc (.cells (pvCells v) 63)))
  generalize Mt.partFits v.p = b at *
  obtain ⟨⟨po, pa, pt, code⟩, A, c⟩ := v
  unfold pvCells at *
  simp only at HV HG ⊢
  generalize code.length = n at *
  go_enter Tryz.func62, Tryz.ntmps62
  go_wp2_with fail
  refine HV.out.mono ?_
  rintro e w1 ⟨rfl, hg⟩
  go_wp2_with fail
  go_ret
  exact ⟨rfl, HG.out.trans hg⟩
set_option maxRecDepth 100000 in
set_option maxHeartbeats 2000000 in
theorem encodable_c (v : MV) (w : World) (h : MethAt w v) : Calls Tryz.prog 24 #[.agg (mvCells v)] w fun e w' => e = .returned (.bool (Mt.fitsAll v.m)) ∧ Grew w w' := by
  have HG := hid ((Grew.refl w).alloc (.cells (mvCells v) 37))
  have HB := hid (Blk.new w 37 (mvCells v))
  have HL := hid (anyLit_c 60 #[] (enters_of Tryz.func60 (by kernel_rfl) rfl) (fun x => !(Mt.litFits x)) v.A1 v.c1 v.lits _ (h.lits.grew HG.out) (by have := h.l1; omega) (fun x _ W _ => notEncLit_c x W))
  have HP := hid (fun (w' : World) (hg : Grew _ w') => anyPart_c 62 #[] (enters_of Tryz.func62 (by kernel_rfl) rfl) (fun x => !(Mt.partFits x.p)) v.A2 v.c2 v.vs w' (h.parts.grew (HG.out.trans hg)) (by have := h.l2; omega) (fun x _ W _ => notEncPart_c x W))
  have hd : Mt.fitsAll v.m = (decide (v.sel.size ≤ 1024) && (decide (v.lits.length ≤ 64) && (!(v.lits.any fun x => !(Mt.litFits x)) && (decide (v.vs.length ≤ 64) && !(v.vs.any fun x => !(Mt.partFits x.p)))))) := by
    unfold Mt.fitsAll MV.m
    simp only [List.length_map, List.all_map, List.not_any_eq_all_not, Bool.not_not]
    rfl
  rw [hd]
  generalize (v.lits.any fun x => !(Mt.litFits x)) = b1 at *
  generalize (v.vs.any fun x => !(Mt.partFits x.p)) = b2 at *
  have hl1 := h.l1
  have hl2 := h.l2
  have hsz := h.sel
  clear h hd
  obtain ⟨s, l, A1, c1, vs, A2, c2⟩ := v
  unfold mvCells at *
  simp only at HG HB HL HP hl1 hl2 hsz ⊢
  generalize l.length = n1 at *
  generalize vs.length = n2 at *
  by_cases h1 : s.size ≤ 1024
  · rw [decide_eq_true h1, Bool.true_and]
    have f1 : (s.size : Int) ≤ 1024 := by omega
    by_cases h2 : n1 ≤ 64
    · rw [decide_eq_true h2, Bool.true_and]
      have f2 : (n1 : Int) ≤ 64 := by omega
      cases b1
      · by_cases h3 : n2 ≤ 64
        · rw [decide_eq_true h3]
          have f3 : (n2 : Int) ≤ 64 := by omega
          go_enter Tryz.func24, Tryz.ntmps24
          go_wp2_with fail
          refine HL.out.mono ?_
          rintro e w1 ⟨rfl, hg⟩
          have HG1 := hid hg
          have r2 := (HB.out.grew hg).cell 2
          simp only [List.getElem?_toArray, List.getElem?_cons_zero, List.getElem?_cons_succ] at r2
          clear hg
          go_wp2_with fail
          refine (HP.out _ HG1.out).mono ?_
          rintro e w2 ⟨rfl, hg2⟩
          go_wp2_with fail
          go_ret
          exact ⟨by cases b2 <;> rfl, HG.out.trans (HG1.out.trans hg2)⟩
        · rw [decide_eq_false h3]
          have f3 : ¬ (n2 : Int) ≤ 64 := by omega
          go_enter Tryz.func24, Tryz.ntmps24
          go_wp2_with fail
          refine HL.out.mono ?_
          rintro e w1 ⟨rfl, hg⟩
          have HG1 := hid hg
          have r2 := (HB.out.grew hg).cell 2
          simp only [List.getElem?_toArray, List.getElem?_cons_zero, List.getElem?_cons_succ] at r2
          clear hg
          go_wp2_with fail
          go_ret
          exact ⟨rfl, HG.out.trans HG1.out⟩
      · go_enter Tryz.func24, Tryz.ntmps24
        go_wp2_with fail
        refine HL.out.mono ?_
        rintro e w1 ⟨rfl, hg⟩
        go_wp2_with fail
        go_ret
        exact ⟨rfl, HG.out.trans hg⟩
    · rw [decide_eq_false h2, Bool.false_and]
      have f2 : ¬ (n1 : Int) ≤ 64 := by omega
      go_enter Tryz.func24, Tryz.ntmps24
      go_wp2_with fail
      go_ret
      exact ⟨rfl, HG.out⟩
  · rw [decide_eq_false h1, Bool.false_and]
    have f1 : ¬ (s.size : Int) ≤ 1024 := by omega
    go_enter Tryz.func24, Tryz.ntmps24
    go_wp2_with fail
    go_ret
    exact ⟨rfl, HG.out⟩
end Go.Proofs.YtjdgcgpidhljpaaGreatDoor

/- HeapLoads: the walk of the law. -/
import Derived.Test.YtidnaednldcdfaaGreatDoorGeG
import Derived.Test.YtidnaednldcdfaaGreatDoorGeD
namespace Go.Proofs.YtidnaednldcdfaaGreatDoor
open Go.RowKit

theorem hat_load {w w' : World} {up : List Nat} {room : Int} {quota : List Int} {L : List Hp.It} {cs : List Int} {e : Ending} (h : LoadV w up room quota L cs e w') (hc : loadCode up room quota L cs = 0) : ∃ v, e = .returned (.tuple #[.pointer (some ⟨v.g, 0, none⟩), .nilIface]) ∧ HAt w w' w.heap.size 2147483647 v up room (qf room quota) L (cf cs) := by
  unfold LoadV at h
  rw [if_pos hc] at h
  obtain ⟨v, he, h1, h2, h3, h4, h5, h6, h7, h8⟩ := h
  exact ⟨v, he, h1, h2, h3, h4, h5, h7, h6, Nat.le_refl _, h8⟩
/-- What Load gives: a memory, or none. -/
def PhV (ok : Bool) (w0 : World) (up : List Nat) (room : Int) (q : Nat → Int) (L : List Hp.It) (cs : List Int) (p : Value) (w : World) : Prop := if ok = true then ∃ h : HV, p = .pointer (some ⟨h.g, 0, none⟩) ∧ HAt w0 w w0.heap.size 2147483647 h up room q L (cf cs) else p = .pointer none
theorem PhV.grew {ok : Bool} {w0 : World} {up : List Nat} {room : Int} {q : Nat → Int} {L : List Hp.It} {cs : List Int} {p : Value} {w w' : World} (h : PhV ok w0 up room q L cs p w) (hg : Grew w w') : PhV ok w0 up room q L cs p w' := by
  unfold PhV at h ⊢
  split
  · rename_i e
    rw [if_pos e] at h
    obtain ⟨x, h1, h2⟩ := h
    exact ⟨x, h1, h2.more hg⟩
  · rename_i e
    rwa [if_neg e] at h
theorem PhV.from {ok : Bool} {w0 w1 : World} {up : List Nat} {room : Int} {q : Nat → Int} {L : List Hp.It} {cs : List Int} {p : Value} {w : World} (h : PhV ok w1 up room q L cs p w) (hg : Grew w0 w1) : PhV ok w0 up room q L cs p w := by
  unfold PhV at h ⊢
  split
  · rename_i e
    rw [if_pos e] at h
    obtain ⟨x, h1, h2⟩ := h
    exact ⟨x, h1, h2.from hg⟩
  · rename_i e
    rwa [if_neg e] at h
/-- What the operations of Load's call give. -/
def LeF (w0 : World) (gs : Nat) (U : Option Addr) (cu : Nat) (up : List Nat) (room : Int) (Q : Option Addr) (cq : Nat) (quota : List Int) (I : Option Addr) (m ci : Nat) (L : List Hp.It) (C : Option Addr) (cc : Nat) (cs : List Int) (ok : Bool) (er : Value) (j : Nat) (v : Value) (w : World) : Prop := match j with
  | 0 => ∃ H, v = .slice (some ⟨H, 0, none⟩) 0 0 ∧ Blk w H 5 #[]
  | 1 => v = .pointer (some ⟨gs, 0, none⟩)
  | 2 => v = .slice U up.length cu
  | 3 => ∃ A' c', v = .slice A' up.length c' ∧ BytesAt w w.heap.size A' up
  | 4 => ∃ A' c', v = .agg #[.slice A' up.length c'] ∧ BytesAt w w.heap.size A' up
  | 5 => v = .pointer (some ⟨gs, 1, none⟩)
  | 6 => v = .int .i64 room
  | 7 => ∃ H, v = .slice (some ⟨H, 0, none⟩) 0 0 ∧ Blk w H 3 #[]
  | 8 => v = .pointer (some ⟨gs, 2, none⟩)
  | 9 => v = .slice Q quota.length cq
  | 10 => ∃ A' c', v = .slice A' quota.length c' ∧ IntsAt w A' quota
  | 11 => v = .slice I m ci
  | 12 => ∃ (vs : List IV) (A' : Option Addr) (c' : Nat), v = .slice A' m c' ∧ vs.length = m ∧ ivI vs = L ∧ ItemsAt w A' vs
  | 13 => ∃ H, v = .slice (some ⟨H, 0, none⟩) 0 0 ∧ Blk w H 3 #[]
  | 14 => v = .slice C cs.length cc
  | 15 => ∃ A' c', v = .slice A' cs.length c' ∧ IntsAt w A' cs
  | 16 => ∃ p, v = .tuple #[p, er] ∧ PhV ok w0 up room (qf room quota) L cs p w
  | 17 => ∃ p, v = .tuple #[p, er] ∧ PhV ok w0 up room (qf room quota) L cs p w
  | 18 => PhV ok w0 up room (qf room quota) L cs v w
  | 19 => v = er
  | 20 => PhV ok w0 up room (qf room quota) L cs v w
  | 21 => v = er
  | _ => True
theorem LeF.grew {w0 : World} {gs : Nat} {U : Option Addr} {cu : Nat} {up : List Nat} {room : Int} {Q : Option Addr} {cq : Nat} {quota : List Int} {I : Option Addr} {m ci : Nat} {L : List Hp.It} {C : Option Addr} {cc : Nat} {cs : List Int} {ok : Bool} {er : Value} (j : Nat) (v : Value) (w w' : World) (h : LeF w0 gs U cu up room Q cq quota I m ci L C cc cs ok er j v w) (hg : Grew w w') : LeF w0 gs U cu up room Q cq quota I m ci L C cc cs ok er j v w' := by
  unfold LeF at h ⊢
  split at h <;> first | exact h | exact h.grew hg | skip
  · obtain ⟨H, h1, h2⟩ := h
    exact ⟨H, h1, h2.grew hg⟩
  · obtain ⟨A', c', h1, h2⟩ := h
    exact ⟨A', c', h1, h2.grew hg⟩
  · obtain ⟨A', c', h1, h2⟩ := h
    exact ⟨A', c', h1, h2.grew hg⟩
  · obtain ⟨H, h1, h2⟩ := h
    exact ⟨H, h1, h2.grew hg⟩
  · obtain ⟨A', c', h1, h2⟩ := h
    exact ⟨A', c', h1, h2.grew hg⟩
  · obtain ⟨vs, A', c', h1, h2, h3, h4⟩ := h
    exact ⟨vs, A', c', h1, h2, h3, h4.grew hg⟩
  · obtain ⟨H, h1, h2⟩ := h
    exact ⟨H, h1, h2.grew hg⟩
  · obtain ⟨A', c', h1, h2⟩ := h
    exact ⟨A', c', h1, h2.grew hg⟩
  · obtain ⟨p, h1, h2⟩ := h
    exact ⟨p, h1, h2.grew hg⟩
  · obtain ⟨p, h1, h2⟩ := h
    exact ⟨p, h1, h2.grew hg⟩
theorem bigS_fit {n m : Nat} (h : bigS n m = false) : n ≤ 20 ∧ m ≤ 20 := by
  unfold bigS at h
  simp only [Bool.or_eq_false_iff, decide_eq_false_iff_not] at h
  omega
set_option maxRecDepth 100000 in
set_option maxHeartbeats 32000000 in
theorem loads12_walk (U : Option Addr) (cu : Nat) (up : List Nat) (room : Int) (Q : Option Addr) (cq : Nat) (quota : List Int) (I : Option Addr) (ci : Nat) (l : List IV) (C : Option Addr) (cc : Nat) (cs : List Int) (w : World) (hE : HandleAt w) (hU : BytesAt w w.heap.size U up) (hQ : IntsAt w Q quota) (hI : ItemsAt w I l) (hC : IntsAt w C cs) :
    Calls Tryz.prog 4 #[.agg #[.slice U up.length cu, .int .i64 room, .slice Q quota.length cq], .slice I l.length ci, .slice C cs.length cc] w fun e w' => e = .returned (.bool true) ∧ Grew w w' := by
  have HU := hid hU
  have HQ := hid hQ
  have HI := hid hI
  have HC := hid hC
  have HSu := hid (fun W (hW : Grew w W) => sure_c W (hE.grew hW))
  have HNum := hid (fun (k : Nat) W (hW : Grew w W) => num_c k W (hE.grew hW))
  clear hE hU hQ hI hC
  obtain ⟨m, em⟩ : ∃ m, m = l.length := ⟨_, rfl⟩
  rw [← em]
  have EM := hid em
  clear em
  have HBs := hid (fun W => bigSetup_c U up.length cu room Q quota.length cq W)
  obtain ⟨bs, ebs⟩ : ∃ bs, bs = bigS up.length quota.length := ⟨_, rfl⟩
  rw [← ebs] at HBs
  have EBS := hid ebs
  clear ebs
  have B1 := Blk.new w 25 #[.slice U up.length cu, .int .i64 room, .slice Q quota.length cq]
  have G1 := (Grew.refl w).alloc (.cells #[.slice U up.length cu, .int .i64 room, .slice Q quota.length cq] 25)
  go_enter Tryz.func4, Tryz.ntmps4
  go_upto_region 1 with fail
  generalize w.alloc (.cells #[.slice U up.length cu, .int .i64 room, .slice Q quota.length cq] 25) = wb at *
  obtain ⟨gs, egs⟩ : ∃ gs, gs = w.heap.size := ⟨_, rfl⟩
  rw [← egs] at B1 ⊢
  have HG1 := hid G1
  have HB1 := hid B1
  have q0 := B1.cell 0
  have q1 := B1.cell 1
  have q2 := B1.cell 2
  have ql := B1.lt
  simp only [List.getElem?_toArray, List.getElem?_cons_zero, List.getElem?_cons_succ] at q0 q1 q2
  clear B1 G1 egs
  by_cases hbig : bs = true ∨ 40 < m ∨ 20 < cs.length
  · cases bs
    · by_cases c1 : 40 < m
      · have g1 : (40 : Int) < (m : Int) := by omega
        clear hbig
        go_wp2_with first | (go_at_call 13; refine (HBs.out _).mono ?_; rintro e w2 ⟨rfl, hg2⟩) | (go_at_call 14; refine (HSu.out w2 (HG1.out.trans hg2)).mono ?_; rintro e w3 ⟨rfl, hg3⟩)
        go_ret
        exact ⟨rfl, (HG1.out.trans hg2).trans hg3⟩
      · have c2 : 20 < cs.length := by
          rcases hbig with h | h | h
          · cases h
          · exact absurd h c1
          · exact h
        have g1 : ¬ (40 : Int) < (m : Int) := by omega
        have g2 : (20 : Int) < ((cs.length : Nat) : Int) := by omega
        clear hbig
        go_wp2_with first | (go_at_call 13; refine (HBs.out _).mono ?_; rintro e w2 ⟨rfl, hg2⟩) | (go_at_call 14; refine (HSu.out w2 (HG1.out.trans hg2)).mono ?_; rintro e w3 ⟨rfl, hg3⟩)
        go_ret
        exact ⟨rfl, (HG1.out.trans hg2).trans hg3⟩
    · clear hbig
      go_wp2_with first | (go_at_call 13; refine (HBs.out _).mono ?_; rintro e w2 ⟨rfl, hg2⟩) | (go_at_call 14; refine (HSu.out w2 (HG1.out.trans hg2)).mono ?_; rintro e w3 ⟨rfl, hg3⟩)
      go_ret
      exact ⟨rfl, (HG1.out.trans hg2).trans hg3⟩
  · obtain ⟨rfl, c1, c2⟩ : bs = false ∧ m ≤ 40 ∧ cs.length ≤ 20 := by
      refine ⟨?_, by omega, by omega⟩
      cases bs
      · rfl
      · exact absurd (Or.inl rfl) hbig
    obtain ⟨hu20, hq20⟩ := bigS_fit EBS.out.symm
    have g1 : ¬ (40 : Int) < (m : Int) := by omega
    have g2 : ¬ (20 : Int) < ((cs.length : Nat) : Int) := by omega
    clear hbig
    go_upto_region 4 with (go_at_call 13; refine (HBs.out _).mono ?_; rintro e w2 ⟨rfl, hg2⟩)
    have HB2 := hid (HB1.out.grew hg2)
    have HG2 := hid (HG1.out.trans hg2)
    clear q0 q1 q2 ql hg2 HB1 HG1 HBs EBS g1 g2
    go_loopw [7] (fun s7 wr => ∃ i : Nat, s7 = .int .i64 ((i : Nat) : Int) ∧ i ≤ m ∧ Hid (∀ x ∈ l.take i, bigO x.o = false) ∧ Hid (Grew w2 wr)) (fun s7 _ => m - (intOf s7).toNat)
    case atStart => exact ⟨0, rfl, Nat.zero_le _, hid (by simp), hid (Grew.refl _)⟩
    case round =>
      obtain ⟨i, rfl, hi, HSm, HW⟩ := hrel
      by_cases hlt : i < m
      · have f1 : (i : Int) < (m : Int) := by omega
        obtain ⟨ad, x, rfl, hx, hcx, hbx, -, -, -⟩ := iv_at HI.out (HG2.out.trans HW.out) (i := i) (by rw [← EM.out]; exact hlt)
        have u2 := hcx 2 _ rfl
        have u3 := hcx 3 _ rfl
        have u4 := hcx 4 _ rfl
        have u5 := hcx 5 _ rfl
        rw [add_pos (by decide), block_add] at u2 u3 u4 u5
        have HBo := hid (fun W => bigObj_c x.o x.A x.c W)
        have HSn := hid (fun (hb : bigO x.o = false) y (hy : y ∈ l.take (i + 1)) => show bigO y.o = false from (by
          rw [List.take_add_one, hx, List.mem_append] at hy
          rcases hy with hy | hy
          · exact HSm.out y hy
          · rw [Option.toList_some, List.mem_singleton] at hy
            rw [hy]
            exact hb))
        obtain ⟨bo, ebo⟩ : ∃ bo, bo = bigO x.o := ⟨_, rfl⟩
        rw [← ebo] at HBo HSn
        obtain ⟨xi, xh, ⟨cls, lev, f, bt⟩, xA, xc⟩ := x
        simp only at u2 u3 u4 u5 HBo
        generalize f.length = fm at *
        clear hx hcx ebo
        cases bo
        · go_wp2_with (go_at_call 17; refine (HBo.out _).mono ?_; rintro e w3 ⟨rfl, hg3⟩)
          go_round
          case rel => exact ⟨i + 1, by go_num, by omega, hid (by first | exact HSn.out rfl | exact HSn.out trivial), hid (HW.out.trans hg3)⟩
          case measure => simp [intOf]; omega
        · go_wp2_with first | (go_at_call 17; refine (HBo.out _).mono ?_; rintro e w3 ⟨rfl, hg3⟩) | (go_at_call 14; refine (HSu.out _ ((HG2.out.trans HW.out).trans hg3)).mono ?_; rintro e w4 ⟨rfl, hg4⟩)
          go_ret
          exact ⟨rfl, ((HG2.out.trans HW.out).trans hg3).trans hg4⟩
      · obtain rfl : m = i := by omega
        have HFit := hid (fun x (hx : x ∈ l) => bigO_fit (HSm.out x (by rw [EM.out, List.take_length]; exact hx)))
        have HS := hid (show Small (ivI l) from ⟨by rw [ivI_len, ← EM.out]; omega, fun y hy => by
          obtain ⟨x, hx, rfl⟩ := List.mem_map.1 hy
          exact HFit.out x hx⟩)
        have HB4 := hid (HB2.out.grew HW.out)
        have HG4 := hid (HG2.out.trans HW.out)
        clear HSm HB2 HG2 HW hlt hi
        obtain ⟨w4, ew4⟩ : ∃ w4, w4 = wr := ⟨_, rfl⟩
        subst ew4
        obtain ⟨k, ek⟩ : ∃ k, k = loadCode up room quota (ivI l) cs := ⟨_, rfl⟩
        obtain ⟨ok, eok⟩ : ∃ ok, ok = decide (k = 0) := ⟨_, rfl⟩
        obtain ⟨er, eer⟩ : ∃ er, er = errVal k := ⟨_, rfl⟩
        have HNk := hid (fun W (hW : Grew w W) => HNum.out k W hW)
        rw [← eer] at HNk
        have HUp := hid (fun W (hW : Grew w4 W) => HU.out.grew (HG4.out.trans hW))
        have HQu := hid (fun W (hW : Grew w4 W) => HQ.out.grew (HG4.out.trans hW))
        have HCu := hid (fun W (hW : Grew w4 W) => HC.out.grew (HG4.out.trans hW))
        have HGi := hid (fun W (hW : Grew w4 W) => giveItems_c I ci l W (HI.out.grew (HG4.out.trans hW)) (fun x hx => by have := (HFit.out x hx).1; omega) (by rw [← EM.out]; omega))
        unfold GiveI at HGi
        rw [← EM.out] at HGi
        have HLd : Hid (∀ (A3 : Option Addr) (c3 : Nat) (A4 : Option Addr) (c4 : Nat) (A5 : Option Addr) (c5 : Nat) (vs : List IV) (A6 : Option Addr) (c6 : Nat) (W : World), BytesAt W W.heap.size A3 up → IntsAt W A4 quota → ItemsAt W A5 vs → vs.length = m → ivI vs = ivI l → IntsAt W A6 cs → Calls Tryz.prog 29 #[.agg #[.slice A3 up.length c3], .int .i64 room, .slice A4 quota.length c4, .slice A5 m c5, .slice A6 cs.length c6] W fun e w' => ∃ p, e = .returned (.tuple #[p, er]) ∧ PhV ok W up room (qf room quota) (ivI l) cs p w' ∧ Grew W w') := hid (fun A3 c3 A4 c4 A5 c5 vs A6 c6 W h1 h2 h3 h4 h5 h6 => by
          have h7 := hLoad_c A3 c3 up room A4 c4 quota A5 c5 vs A6 c6 cs W hu20 h1 h2 (by omega) h3 (by omega) h6 (by omega)
          rw [h4, h5] at h7
          refine h7.mono ?_
          intro e w' hp
          by_cases hk : k = 0
          · obtain ⟨v, he, hv⟩ := hat_load hp (by rw [← ek]; exact hk)
            refine ⟨.pointer (some ⟨v.g, 0, none⟩), by rw [he, eer, hk]; rfl, ?_, hv.gr⟩
            unfold PhV
            rw [if_pos (by rw [eok, decide_eq_true hk])]
            exact ⟨v, rfl, hv⟩
          · unfold LoadV at hp
            rw [← ek, if_neg hk] at hp
            refine ⟨.pointer none, by rw [hp.1, eer], ?_, hp.2⟩
            unfold PhV
            rw [if_neg (by rw [eok, decide_eq_false hk]; decide)])
        have HRl : Hid (∀ W, Grew w4 W → Calls Tryz.prog 31 #[.slice U up.length cu, .int .i64 room, .slice Q quota.length cq, .slice I m ci, .slice C cs.length cc] W fun e w' => ∃ r : RV, e = .returned (.tuple #[.agg (rvC r), .int .i64 ((k : Nat) : Int)]) ∧ (ok = true → RvAt w' r ∧ r.up = up ∧ r.its = l ∧ r.cn = cs) ∧ Grew W w') := hid (fun W hW => by
          have h7 := rLoad_c U cu up room Q cq quota I ci l C cc cs W hu20 (HUp.out W hW) (HQu.out W hW) (by omega) (HI.out.grew (HG4.out.trans hW)) HS.out (HCu.out W hW) (by omega)
          rw [← EM.out] at h7
          refine h7.mono ?_
          intro e w' hp
          unfold RLoadV at hp
          rw [← ek] at hp
          by_cases hk : k = 0
          · rw [if_pos hk] at hp
            obtain ⟨r, he, h1, h2, h3, h4, h5, h6, h8⟩ := hp
            exact ⟨r, by rw [he, hk]; rfl, fun _ => ⟨h1, h2, h5, h6⟩, h8⟩
          · rw [if_neg hk] at hp
            exact ⟨rv0, hp.1, fun h => (by rw [eok, decide_eq_false hk] at h; cases h), hp.2⟩)
        have HOk := hid (show (ok = true → k = 0) ∧ (ok = false → k ≠ 0) from ⟨fun h => by rw [eok] at h; exact of_decide_eq_true h, fun h => by rw [eok] at h; exact of_decide_eq_false h⟩)
        have EER := hid eer
        clear ek eok eer HNum
        obtain ⟨L, eL⟩ : ∃ L, L = ivI l := ⟨_, rfl⟩
        have EL := hid eL
        rw [← eL] at HLd HGi
        clear eL
        go_upto_region 8 with fail
        refine wp_region_facts4 (w0 := w4) w4 22 22 [39, 40, 41, 42, 43, 44, 45, 46, 47, 48, 49, 50, 51, 52, 53, 54, 55, 38, 56, 57, 8, 9] [] (LeF w4 gs U cu up room Q cq quota I m ci L C cc cs ok er) (Kept (fun _ => False)) (fun _ => Kept (fun _ => False)) (fun _ _ => True) (May.kept _) (fun _ _ _ h => h) (fun _ w => Kept.refl _ w) (by kernel_rfl) (by kernel_rfl) (Kept.refl _ _).drew trivial (fun a _ v w w' _ _ _ _ h hr => LeF.grew a v w w' h (Kept.grew hr (Grew.refl _) (fun _ h => h.elim))) ?_ ?_
        · repeat' (first | exact trivial | apply And.intro)
          all_goals
            intro a w' fl hgk hJ hfi hdep hs hA
            have t3 := hs.eval 3 (by decide) (v := .pointer (some ⟨gs, 0, none⟩)) rfl
            have t1 := hs.eval 1 (by decide) (v := .slice I m ci) rfl
            have t2 := hs.eval 2 (by decide) (v := .slice C cs.length cc) rfl
            have hgw : Grew w4 w' := Kept.grew hgk (Grew.refl _) (fun _ h => h.elim)
            have HGW := hid hgw
            have HBw := hid (HB4.out.grew hgw)
            clear hs hgk hJ hfi hdep hgw
            simp only [Ahead, Region.binds, slotOf, LeF, List.getD_cons_succ, List.getD_cons_zero, forall_const, gcOff, Bool.false_eq_true, false_implies, and_true] at hA
            simp only [wantedD, if_true]
            unfold Oper.wp
            have ec : ∀ v, a.eval (.const v) = v := fun _ => rfl
            generalize hfe : a.eval = fe at *
            have ef : ∀ k, fe (.func k) = Act.eval ⟨#[], []⟩ (.func k) := fun k => by rw [← hfe]; rfl
            clear hfe
          · have hbn := Blk.new w' 5 #[]
            have hgn := (Grew.refl w').alloc (.cells #[] 5)
            have HBn := hid hbn
            have HGn := hid hgn
            clear hbn hgn
            go_simp
            exact Gives3.of rfl (Kept.of_grew HGn.out) ⟨w'.heap.size, rfl, HBn.out⟩ trivial
          · go_simp
            exact Gives3.of rfl (Kept.refl _ _) rfl trivial
          · have x0 := HBw.out.cell 0
            have xl := HBw.out.lt
            simp only [List.getElem?_toArray, List.getElem?_cons_zero] at x0
            go_simp
            exact Gives3.of rfl (Kept.refl _ _) rfl trivial
          · obtain ⟨⟨H, hv1, hbn⟩, hv2⟩ := hA
            have hb0 := HUp.out w' HGW.out
            obtain ⟨A3, c3, w2', hrun, r1, r2⟩ := run_catZ (P := Tryz.prog) 22 22 5 (.int .u8 0) 1 Tryz.underlying22 u8_info rfl w' H hbn U up.length cu (numCells .u8 up) (numCells_length _ _) (numCells_one _ _) (bytes_none hb0) (bytes_cells hb0) (by omega) (by omega)
            have HR1 := hid (bytes_row hb0.1 r1)
            have HR2 := hid r2
            clear hbn hb0 r1 r2
            simp only [execOp, resolve, invoke, builtin, Sem.run_bind, Sem.run_pure, Result.andThen_ok, List.map_toArray, List.map_cons, List.map_nil, hv1, hv2, hrun, Oper.upon]
            refine Gives3.of rfl ?_ ?_ ?_
            · exact Kept.of_grew HR2.out
            · exact ⟨A3, c3, rfl, HR1.out⟩
            · exact trivial
          · obtain ⟨A', c', hv, hb⟩ := hA
            have HB3 := hid hb
            clear hb
            go_simp
            exact Gives3.of rfl (Kept.refl _ _) ⟨A', c', rfl, HB3.out⟩ trivial
          · go_simp
            exact Gives3.of rfl (Kept.refl _ _) rfl trivial
          · have x0 := HBw.out.cell 1
            have xl := HBw.out.lt
            simp only [List.getElem?_toArray, List.getElem?_cons_zero, List.getElem?_cons_succ] at x0
            go_simp
            exact Gives3.of rfl (Kept.refl _ _) rfl trivial
          · have hbn := Blk.new w' 3 #[]
            have hgn := (Grew.refl w').alloc (.cells #[] 3)
            have HBn := hid hbn
            have HGn := hid hgn
            clear hbn hgn
            go_simp
            exact Gives3.of rfl (Kept.of_grew HGn.out) ⟨w'.heap.size, rfl, HBn.out⟩ trivial
          · go_simp
            exact Gives3.of rfl (Kept.refl _ _) rfl trivial
          · have x0 := HBw.out.cell 2
            have xl := HBw.out.lt
            simp only [List.getElem?_toArray, List.getElem?_cons_zero, List.getElem?_cons_succ] at x0
            go_simp
            exact Gives3.of rfl (Kept.refl _ _) rfl trivial
          · obtain ⟨⟨H, hv1, hbn⟩, hv2⟩ := hA
            have hb0 := HQu.out w' HGW.out
            obtain ⟨A3, c3, w2', hrun, r1, r2⟩ := run_catZ (P := Tryz.prog) 23 23 3 (.int .i64 0) 8 Tryz.underlying23 i64_info rfl w' H hbn Q quota.length cq (quota.flatMap intF) (by rw [flatMap_length intF_len, Nat.mul_one]) (ints_one quota) (ints_none hb0) (ints_cells hb0) (by omega) (by omega)
            have HR1 := hid (ints_row r1)
            have HR2 := hid r2
            clear hbn hb0 r1 r2
            simp only [execOp, resolve, invoke, builtin, Sem.run_bind, Sem.run_pure, Result.andThen_ok, List.map_toArray, List.map_cons, List.map_nil, hv1, hv2, hrun, Oper.upon]
            refine Gives3.of rfl ?_ ?_ ?_
            · exact Kept.of_grew HR2.out
            · exact ⟨A3, c3, rfl, HR1.out⟩
            · exact trivial
          · go_simp
            exact Gives3.of rfl (Kept.refl _ _) rfl trivial
          · go_simp
            refine (HGi.out w' HGW.out).mono ?_
            rintro e wz ⟨vs, A', c', rfl, hvs, hat, hgz⟩
            have hlv : vs.length = m := by have h1 := congrArg List.length hvs; rw [ivI_len, EL.out, ivI_len, ← EM.out] at h1; exact h1
            exact Gives3.of rfl (Kept.of_grew hgz) ⟨vs, A', c', by rw [hlv], hlv, hvs, hat⟩ trivial
          · have hbn := Blk.new w' 3 #[]
            have hgn := (Grew.refl w').alloc (.cells #[] 3)
            have HBn := hid hbn
            have HGn := hid hgn
            clear hbn hgn
            go_simp
            exact Gives3.of rfl (Kept.of_grew HGn.out) ⟨w'.heap.size, rfl, HBn.out⟩ trivial
          · go_simp
            exact Gives3.of rfl (Kept.refl _ _) rfl trivial
          · obtain ⟨⟨H, hv1, hbn⟩, hv2⟩ := hA
            have hb0 := HCu.out w' HGW.out
            obtain ⟨A3, c3, w2', hrun, r1, r2⟩ := run_catZ (P := Tryz.prog) 23 23 3 (.int .i64 0) 8 Tryz.underlying23 i64_info rfl w' H hbn C cs.length cc (cs.flatMap intF) (by rw [flatMap_length intF_len, Nat.mul_one]) (ints_one cs) (ints_none hb0) (ints_cells hb0) (by omega) (by omega)
            have HR1 := hid (ints_row r1)
            have HR2 := hid r2
            clear hbn hb0 r1 r2
            simp only [execOp, resolve, invoke, builtin, Sem.run_bind, Sem.run_pure, Result.andThen_ok, List.map_toArray, List.map_cons, List.map_nil, hv1, hv2, hrun, Oper.upon]
            refine Gives3.of rfl ?_ ?_ ?_
            · exact Kept.of_grew HR2.out
            · exact ⟨A3, c3, rfl, HR1.out⟩
            · exact trivial
          · obtain ⟨⟨A3, c3, hv1, hb⟩, hv2, ⟨A4, c4, hv3, hq⟩, ⟨vs, A5, c5, hv4, hlv, hvs, hat⟩, ⟨A6, c6, hv5, hc6⟩, _⟩ := hA
            have HB3 := hid hb
            have HQ4 := hid hq
            have HV5 := hid (And.intro hlv (And.intro hvs hat))
            have HC6 := hid hc6
            clear hb hq hlv hvs hat hc6
            go_simp
            refine (HLd.out A3 c3 A4 c4 A5 c5 vs A6 c6 w' HB3.out HQ4.out HV5.out.2.2 HV5.out.1 HV5.out.2.1 HC6.out).mono ?_
            rintro e wz ⟨p, rfl, hp, hgz⟩
            exact Gives3.of rfl (Kept.of_grew hgz) ⟨p, rfl, hp.from HGW.out⟩ trivial
          · obtain ⟨p, hv, hs⟩ := hA
            have HSs := hid hs
            clear hs
            go_simp
            exact Gives3.of rfl (Kept.refl _ _) ⟨p, rfl, HSs.out⟩ trivial
          · obtain ⟨p, hv, hs⟩ := hA
            have HSs := hid hs
            clear hs
            go_simp
            exact Gives3.of rfl (Kept.refl _ _) HSs.out trivial
          · obtain ⟨p, hv, hs⟩ := hA
            clear hs
            go_simp
            exact Gives3.of rfl (Kept.refl _ _) rfl trivial
          · have HSs := hid hA.1
            clear hA
            go_simp
            exact Gives3.of rfl (Kept.refl _ _) HSs.out trivial
          · have hv := hA.1
            go_simp
            exact Gives3.of rfl (Kept.refl _ _) rfl trivial
        · intro a2 wn hgk hs hf _ _
          have hgw : Grew w4 wn := Kept.grew hgk (Grew.refl _) (fun _ h => h.elim)
          have h20 := hf 20 (by decide)
          have h21 := hf 21 (by decide)
          simp only [slotOf, LeF, List.getD_cons_succ, List.getD_cons_zero] at h20 h21
          obtain ⟨fn, rfl, hft⟩ := hs.put
          rw [hft] at h20 h21
          obtain ⟨p, ep⟩ : ∃ p, p = fn 8 := ⟨_, rfl⟩
          rw [← ep] at h20
          have HPh := hid h20
          have HB9 := hid (HB4.out.grew hgw)
          have HGn := hid hgw
          have hep := ep.symm
          clear hf hft hs hgk hgw h20 ep HUp HQu HCu HGi HLd HB4
          simp only [List.drop_succ_cons, List.drop_zero, putAll, List.foldl_cons, List.foldl_nil, Act.put, List.setIfInBounds_toArray, List.set_cons_succ, List.set_cons_zero, hep, h21]
          clear h21 hep
          have q0 := HB9.out.cell 0
          have q1 := HB9.out.cell 1
          have q2 := HB9.out.cell 2
          have ql := HB9.out.lt
          simp only [List.getElem?_toArray, List.getElem?_cons_zero, List.getElem?_cons_succ] at q0 q1 q2
          have hcall := HRl.out wn HGn.out
          clear HRl
          go_upto_region 10 with (go_at_call 31; refine hcall.mono ?_; rintro e w5 ⟨r, rfl, hr, hg5⟩; have HRv := hid hr; have HRc := hid (show rvC r = #[.slice r.U r.up.length r.cu, .int .i64 r.room, .slice r.Q r.q.length r.cq, .slice r.I r.its.length r.ci, .slice r.C r.cn.length r.cc] from rfl); simp only [rvC]; clear hr q0 q1 q2 ql)
          have B6 := Blk.new w5 53 #[.slice r.U r.up.length r.cu, .int .i64 r.room, .slice r.Q r.q.length r.cq, .slice r.I r.its.length r.ci, .slice r.C r.cn.length r.cc]
          have G6 := (Grew.refl w5).alloc (.cells #[.slice r.U r.up.length r.cu, .int .i64 r.room, .slice r.Q r.q.length r.cq, .slice r.I r.its.length r.ci, .slice r.C r.cn.length r.cc] 53)
          generalize w5.alloc (.cells #[.slice r.U r.up.length r.cu, .int .i64 r.room, .slice r.Q r.q.length r.cq, .slice r.I r.its.length r.ci, .slice r.C r.cn.length r.cc] 53) = w6 at *
          obtain ⟨gr, egr⟩ : ∃ gr, gr = w5.heap.size := ⟨_, rfl⟩
          rw [← egr] at B6 ⊢
          have HG6 := hid ((HG4.out.trans HGn.out).trans (hg5.trans G6))
          have HPh6 := hid (HPh.out.grew (hg5.trans G6))
          have HB6 := hid B6
          have HG56 := hid G6
          clear B6 G6 egr hg5 hcall HPh HB9 HGn
          cases ok
          · have hk := HOk.out.2 rfl
            have f1 : (((k : Nat) : Int) == 0) = false := by rw [beq_eq_false_iff_ne]; omega
            have f2 : ((k : Nat) : Int) ≠ 0 := by omega
            have hp : p = .pointer none := HPh6.out
            subst hp
            clear hk
            go_wp2_with first | (go_at_call 8; refine (HNk.out w6 HG6.out).mono ?_; rintro e w7 ⟨rfl, hg7⟩) | (go_at_call 14; refine (HSu.out w7 (HG6.out.trans hg7)).mono ?_; rintro e w8 ⟨rfl, hg8⟩)
            go_ret
            exact ⟨rfl, (HG6.out.trans hg7).trans hg8⟩
          · have hk := HOk.out.1 rfl
            subst hk
            have her : er = .nilIface := by rw [EER.out]; rfl
            subst her
            obtain ⟨h, hp, hH⟩ := (show ∃ h : HV, p = .pointer (some ⟨h.g, 0, none⟩) ∧ HAt w4 w6 w4.heap.size 2147483647 h up room (qf room quota) L (cf cs) from HPh6.out)
            subst hp
            obtain ⟨hrv, e1, e2, e3⟩ := HRv.out rfl
            have HIs := hid (fun W (hW : Grew w6 W) => isHeap_c h w4.heap.size 2147483647 r W (hH.mem.grew hW) hH.ok (hrv.grew (HG56.out.trans hW)) (by rw [e2, hH.its, EL.out]) (by rw [e3, hH.up, hH.cn]; exact (cntL_cf (by have h1 := hrv.cl; rw [e3, e1] at h1; exact h1)).symm))
            simp only [rvC] at HIs
            have p0 := HB6.out.cell 0
            have p1 := HB6.out.cell 1
            have p2 := HB6.out.cell 2
            have p3 := HB6.out.cell 3
            have p4 := HB6.out.cell 4
            have pl := HB6.out.lt
            simp only [List.getElem?_toArray, List.getElem?_cons_zero, List.getElem?_cons_succ] at p0 p1 p2 p3 p4
            clear hrv e1 e2 e3 hH
            go_wp2_with first | (go_at_call 28; refine (HIs.out w6 (Grew.refl _)).mono ?_; rintro e w7 ⟨rfl, hg7⟩) | (go_at_call 14; refine (HSu.out w7 (HG6.out.trans hg7)).mono ?_; rintro e w8 ⟨rfl, hg8⟩)
            go_ret
            exact ⟨rfl, (HG6.out.trans hg7).trans hg8⟩
end Go.Proofs.YtidnaednldcdfaaGreatDoor

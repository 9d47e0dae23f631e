/- Stage 9: Same. -/
import Derived.Test.YtjdgcgpidhljpaaGreatDoorMtM
import Derived.Test.YtjdgcgpidhljpaaGreatDoorMtH
namespace Go.Proofs.YtjdgcgpidhljpaaGreatDoor
open Go.RowKit

theorem strB_inj {xs ys : List Nat} (hx : ∀ x ∈ xs, x < 256) (hy : ∀ y ∈ ys, y < 256) : ((Pk.strB xs).toList == (Pk.strB ys).toList) = decide (xs = ys) := by
  rw [Bool.eq_iff_iff, beq_iff_eq, decide_eq_true_iff]
  constructor
  · intro h
    rw [← Mt.nats_of_str hx, ← Mt.nats_of_str hy, Pk.natsOf, Pk.natsOf, ← ByteArray.toList_eq, ← ByteArray.toList_eq, h]
  · rintro rfl; rfl
theorem str_beq9 (s t : ByteArray) : (s.toList == t.toList) = decide (s = t) := by
  rw [Bool.eq_iff_iff, beq_iff_eq, decide_eq_true_iff]
  constructor
  · intro h
    rw [ByteArray.toList_eq, ByteArray.toList_eq] at h
    cases s; cases t
    exact congrArg ByteArray.mk (Array.toList_inj.1 h)
  · rintro rfl; rfl
theorem eqBytes_c (A : Option Addr) (c : Nat) (xs : List Nat) (B : Option Addr) (d : Nat) (ys : List Nat) (w : World) (h : BytesAt w w.heap.size A xs) (g : BytesAt w w.heap.size B ys) :
    Calls Tryz.prog 86 #[.slice A xs.length c, .slice B ys.length d] w fun e w' => e = .returned (.bool (decide (xs = ys))) ∧ w' = w := by
  have := Tryz.bytes_Equal_strs _ _ _ _ w (conv6 A c xs w (NumsAt.of_bytes h)) (conv6 B d ys w (NumsAt.of_bytes g))
  rwa [strB_inj h.1 g.1] at this
set_option maxRecDepth 100000 in
set_option maxHeartbeats 1000000 in
theorem samePart_c (u v : PV) (w : World) (hu : PvOk w u) (hv : PvOk w v) : Calls Tryz.prog 44 #[.agg (pvCells u), .agg (pvCells v)] w fun e w' => e = .returned (.bool (decide (u.p = v.p))) ∧ Grew w w' := by
  have HG := hid (((Grew.refl w).alloc (.cells (pvCells u) 63)).alloc (.cells (pvCells v) 63))
  have HE := hid (eqBytes_c u.A u.c u.p.code v.A v.c v.p.code _ (hu.grew HG.out).1 (hv.grew HG.out).1)
  obtain ⟨⟨uo, ua, ut, uc⟩, A, c⟩ := u
  obtain ⟨⟨vo, va, vt, vc⟩, B, d⟩ := v
  unfold pvCells at HG HE ⊢
  simp only at HG HE ⊢
  have hd : decide ((⟨uo, ua, ut, uc⟩ : Mt.Part) = ⟨vo, va, vt, vc⟩) = (decide (uo = vo) && decide (ua = va) && decide (ut = vt) && decide (uc = vc)) := by
    rw [Bool.eq_iff_iff]
    simp [and_assoc]
  rw [hd]
  generalize decide (uc = vc) = q at *
  generalize uc.length = n1 at *
  generalize vc.length = n2 at *
  clear hu hv hd
  by_cases h1 : uo = vo
  · subst h1
    by_cases h2 : ua = va
    · subst h2
      by_cases h3 : ut = vt
      · subst h3
        rw [decide_eq_true rfl, decide_eq_true rfl, decide_eq_true rfl]
        go_enter Tryz.func44, Tryz.ntmps44
        go_wp2_with fail
        refine HE.out.mono ?_
        rintro e w1 ⟨rfl, rfl⟩
        go_wp2_with fail
        go_ret
        exact ⟨by cases q <;> rfl, HG.out⟩
      · have e3 : (ut == vt) = false := by rw [beq_eq_false_iff_ne]; exact h3
        rw [decide_eq_false h3, Bool.and_false, Bool.false_and]
        clear h3
        go_enter Tryz.func44, Tryz.ntmps44
        go_wp2_with fail
        go_ret
        exact ⟨rfl, HG.out⟩
    · have e2 : (ua == va) = false := by rw [beq_eq_false_iff_ne]; exact h2
      rw [decide_eq_false h2, Bool.and_false, Bool.false_and, Bool.false_and]
      clear h2
      go_enter Tryz.func44, Tryz.ntmps44
      go_wp2_with fail
      go_ret
      exact ⟨rfl, HG.out⟩
  · have e1 : (uo == vo) = false := by rw [beq_eq_false_iff_ne]; exact h1
    rw [decide_eq_false h1, Bool.false_and, Bool.false_and, Bool.false_and]
    clear h1
    go_enter Tryz.func44, Tryz.ntmps44
    go_wp2_with fail
    go_ret
    exact ⟨rfl, HG.out⟩
theorem take_eq {α : Type} {l m : List α} {i : Nat} {x y : α} (h : l.take i = m.take i) (hx : l[i]? = some x) (hy : m[i]? = some y) (e : x = y) : l.take (i + 1) = m.take (i + 1) := by
  rw [List.take_add_one, List.take_add_one, h, hx, hy, e]
theorem ne_at {α : Type} {l m : List α} {i : Nat} {x y : α} (hx : l[i]? = some x) (hy : m[i]? = some y) (e : x ≠ y) : l ≠ m := by
  rintro rfl
  rw [hx] at hy
  exact e (Option.some.inj hy)
set_option maxRecDepth 100000 in
set_option maxHeartbeats 2000000 in
theorem eqParts_c (A : Option Addr) (c : Nat) (l : List PV) (B : Option Addr) (d : Nat) (m : List PV) (w : World) (h : PartsAt w A l) (g : PartsAt w B m) (hl : l.length ≤ 100) :
    Calls Tryz.prog 43 #[.slice A l.length c, .slice B m.length d, .func (.func 44) #[] #[]] w fun e w' => e = .returned (.bool (decide (l.map (·.p) = m.map (·.p)))) ∧ Grew w w' := by
  have eg : ∀ args w, (callFunc 44 args).run Tryz.prog w = .ok (.enter 44 args) w := enters_of Tryz.func44 (by kernel_rfl) rfl
  obtain ⟨n, en⟩ : ∃ n, n = l.length := ⟨_, rfl⟩
  obtain ⟨k, ek⟩ : ∃ k, k = m.length := ⟨_, rfl⟩
  have HA := hid h
  have HB := hid g
  rw [← en] at hl ⊢
  rw [← ek]
  have EN := hid en
  have EK := hid ek
  clear h g
  by_cases hnk : n = k
  · have e0 : (((n : Nat) : Int) != ((k : Nat) : Int)) = false := by rw [hnk]; simp
    have HNK := hid hnk
    obtain ⟨b, hb⟩ : ∃ b, b = decide (l.map (·.p) = m.map (·.p)) := ⟨_, rfl⟩
    rw [← hb]
    have HBd := hid hb
    clear hb en ek hnk
    go_enter Tryz.func43, Tryz.ntmps43
    go_wp2_with fail
    go_loopw [7, 8, 9, 17] (fun _ _ _ s17 wr => ∃ i : Nat, s17 = .int .i64 ((i : Nat) : Int) ∧ i ≤ n ∧ Grew w wr ∧ Hid ((l.map (·.p)).take i = (m.map (·.p)).take i)) (fun _ _ _ s17 _ => n - (intOf s17).toNat)
    case atStart => exact ⟨0, rfl, Nat.zero_le _, Grew.refl _, hid rfl⟩
    case round =>
      obtain ⟨i, rfl, hi, hg, HI⟩ := hrel
      have HG := hid hg
      clear hg
      by_cases hlt : i < n
      · have f1 : (i : Int) < n := by omega
        have f2 : (i : Int) < k := by have := HNK.out; omega
        obtain ⟨ad, x, rfl, hx, p0, p1, p2, p3, hb1⟩ := pv_at HA.out HG.out (i := i) (by rw [← EN.out]; exact hlt)
        have hg2 : Grew w (wr.alloc (.cells (pvCells x) 63)) := HG.out.trans ((Grew.refl wr).alloc _)
        obtain ⟨bd, y, rfl, hy, q0, q1, q2, q3, hb2⟩ := pv_at HB.out hg2 (i := i) (by rw [← EK.out, ← HNK.out]; exact hlt)
        have HG3 := hid (((Grew.refl wr).alloc (.cells (pvCells x) 63)).alloc (.cells (pvCells y) 63))
        have HS := hid (samePart_c x y _ ((HA.out.1 x (List.mem_of_getElem? hx)).grew (HG.out.trans HG3.out)) ((HB.out.1 y (List.mem_of_getElem? hy)).grew (HG.out.trans HG3.out)))
        have hx' : (l.map (·.p))[i]? = some x.p := by rw [List.getElem?_map, hx]; rfl
        have hy' : (m.map (·.p))[i]? = some y.p := by rw [List.getElem?_map, hy]; rfl
        have HY : Hid (decide (x.p = y.p) = true → (l.map (·.p)).take (i + 1) = (m.map (·.p)).take (i + 1)) := hid (fun he => take_eq HI.out hx' hy' (decide_eq_true_iff.1 he))
        have HN : Hid (decide (x.p = y.p) = false → b = false) := hid (fun he => by
          rw [HBd.out]
          exact decide_eq_false (ne_at hx' hy' (of_decide_eq_false he)))
        generalize decide (x.p = y.p) = q at *
        clear hx hy hx' hy' hg2
        unfold pvCells at HS HG3 q0 q1 q2 q3
        obtain ⟨⟨xo, xa, xt, xc⟩, XA, xcc⟩ := x
        obtain ⟨⟨yo, ya, yt, yc⟩, YA, ycc⟩ := y
        simp only at p0 p1 p2 p3 q0 q1 q2 q3 HS HG3
        generalize xc.length = xn at *
        generalize yc.length = yn at *
        cases q
        · have hbf := HN.out rfl
          subst hbf
          go_wp2_with (go_at_fn 44; refine HS.out.mono ?_; rintro e w2 ⟨rfl, hg2⟩)
          go_ret
          exact ⟨rfl, HG.out.trans (HG3.out.trans hg2)⟩
        · replace HY := hid (HY.out rfl)
          go_wp2_with (go_at_fn 44; refine HS.out.mono ?_; rintro e w2 ⟨rfl, hg2⟩)
          go_round
          case rel => exact ⟨i + 1, by go_num, by omega, HG.out.trans (HG3.out.trans hg2), HY⟩
          case measure => simp [intOf]; omega
      · have hin : i = n := by omega
        subst hin
        have hbt : b = true := by
          rw [HBd.out]
          refine decide_eq_true ?_
          have := HI.out
          rwa [List.take_of_length_le (by rw [List.length_map, ← EN.out]; exact Nat.le_refl _), List.take_of_length_le (by rw [List.length_map, ← EK.out, ← HNK.out]; exact Nat.le_refl _)] at this
        subst hbt
        go_wp2_with fail
        go_ret
        exact ⟨rfl, HG.out⟩
  · have e0 : (((n : Nat) : Int) != ((k : Nat) : Int)) = true := by rw [bne_iff_ne]; omega
    have hbf : decide (l.map (·.p) = m.map (·.p)) = false := decide_eq_false (fun e => hnk (by rw [en, ek, ← List.length_map (f := fun x : PV => x.p), e, List.length_map]))
    rw [hbf]
    clear hbf hnk en ek
    go_enter Tryz.func43, Tryz.ntmps43
    go_wp2_with fail
    go_ret
    exact ⟨rfl, Grew.refl _⟩
set_option maxRecDepth 100000 in
set_option maxHeartbeats 2000000 in
theorem eqLits_c (A : Option Addr) (c : Nat) (l : List Mt.Lit) (B : Option Addr) (d : Nat) (m : List Mt.Lit) (w : World) (h : LitsAt w A l) (g : LitsAt w B m) (hl : l.length ≤ 100) :
    Calls Tryz.prog 42 #[.slice A l.length c, .slice B m.length d] w fun e w' => e = .returned (.bool (decide (l = m))) ∧ Grew w w' := by
  obtain ⟨n, en⟩ : ∃ n, n = l.length := ⟨_, rfl⟩
  obtain ⟨k, ek⟩ : ∃ k, k = m.length := ⟨_, rfl⟩
  have HA := hid h
  have HB := hid g
  rw [← en] at hl ⊢
  rw [← ek]
  have EN := hid en
  have EK := hid ek
  clear h g
  by_cases hnk : n = k
  · have e0 : (((n : Nat) : Int) != ((k : Nat) : Int)) = false := by rw [hnk]; simp
    have HNK := hid hnk
    obtain ⟨b, hb⟩ : ∃ b, b = decide (l = m) := ⟨_, rfl⟩
    rw [← hb]
    have HBd := hid hb
    clear hb en ek hnk
    go_enter Tryz.func42, Tryz.ntmps42
    go_wp2_with fail
    go_loopw [5, 13] (fun _ s13 wr => ∃ i : Nat, s13 = .int .i64 ((i : Nat) : Int) ∧ i ≤ n ∧ Grew w wr ∧ Hid (l.take i = m.take i)) (fun _ s13 _ => n - (intOf s13).toNat)
    case atStart => exact ⟨0, rfl, Nat.zero_le _, Grew.refl _, hid rfl⟩
    case round =>
      obtain ⟨i, rfl, hi, hg, HI⟩ := hrel
      have HG := hid hg
      clear hg
      by_cases hlt : i < n
      · have f1 : (i : Int) < n := by omega
        have f2 : (i : Int) < k := by have := HNK.out; omega
        obtain ⟨ad, x, rfl, hx, p0, p1, hb1⟩ := lit_at HA.out HG.out (i := i) (by rw [← EN.out]; exact hlt)
        obtain ⟨bd, y, rfl, hy, q0, q1, hb2⟩ := lit_at HB.out HG.out (i := i) (by rw [← EK.out, ← HNK.out]; exact hlt)
        have HY : Hid (x = y → l.take (i + 1) = m.take (i + 1)) := hid (fun he => take_eq HI.out hx hy he)
        have HN : Hid (x ≠ y → b = false) := hid (fun he => by
          rw [HBd.out]
          exact decide_eq_false (ne_at hx hy he))
        clear hx hy
        obtain ⟨xk, xs⟩ := x
        obtain ⟨yk, ys⟩ := y
        simp only at p0 p1 q0 q1
        by_cases h1 : xk = yk
        · subst h1
          by_cases h2 : xs = ys
          · subst h2
            replace HY := hid (HY.out rfl)
            clear HN
            go_wp2_with fail
            go_quiet (fail)
            have HQ : Hid (Grew wr (wr.drewN nq)) := hid (Grew.mk ⟨rfl, rfl, rfl, Nat.le_refl _, fun _ _ => rfl⟩)
            generalize wr.drewN nq = w2 at *
            go_wp2_with fail
            go_round
            case rel => exact ⟨i + 1, by go_num, by omega, HG.out.trans HQ.out, HY⟩
            case measure => simp [intOf]; omega
          · have hz : (xs.toList == ys.toList) = false := by rw [str_beq9, decide_eq_false h2]
            have hbf := HN.out (fun e => h2 (by cases e; rfl))
            subst hbf
            clear h2 HY HN
            go_wp2_with fail
            go_quiet (fail)
            have HQ : Hid (Grew wr (wr.drewN nq)) := hid (Grew.mk ⟨rfl, rfl, rfl, Nat.le_refl _, fun _ _ => rfl⟩)
            generalize wr.drewN nq = w2 at *
            go_wp2_with fail
            go_ret
            exact ⟨rfl, HG.out.trans HQ.out⟩
        · have e1 : (((xk : Nat) : Int) == ((yk : Nat) : Int)) = false := by rw [beq_eq_false_iff_ne]; omega
          have hbf := HN.out (fun e => h1 (by cases e; rfl))
          subst hbf
          clear h1 HY HN
          go_wp2_with fail
          go_quiet (fail)
          have HQ : Hid (Grew wr (wr.drewN nq)) := hid (Grew.mk ⟨rfl, rfl, rfl, Nat.le_refl _, fun _ _ => rfl⟩)
          generalize wr.drewN nq = w2 at *
          go_wp2_with fail
          go_ret
          exact ⟨rfl, HG.out.trans HQ.out⟩
      · have hin : i = n := by omega
        subst hin
        have hbt : b = true := by
          rw [HBd.out]
          refine decide_eq_true ?_
          have := HI.out
          rwa [List.take_of_length_le (by rw [← EN.out]; exact Nat.le_refl _), List.take_of_length_le (by rw [← EK.out, ← HNK.out]; exact Nat.le_refl _)] at this
        subst hbt
        go_wp2_with fail
        go_ret
        exact ⟨rfl, HG.out⟩
  · have e0 : (((n : Nat) : Int) != ((k : Nat) : Int)) = true := by rw [bne_iff_ne]; omega
    have hbf : decide (l = m) = false := decide_eq_false (fun e => hnk (by rw [en, ek, e]))
    rw [hbf]
    clear hbf hnk en ek
    go_enter Tryz.func42, Tryz.ntmps42
    go_wp2_with fail
    go_ret
    exact ⟨rfl, Grew.refl _⟩
set_option maxRecDepth 100000 in
set_option maxHeartbeats 2000000 in
theorem same9_c (u v : MV) (w : World) (hu : MethAt w u) (hv : MethAt w v) : Calls Tryz.prog 19 #[.agg (mvCells u), .agg (mvCells v)] w fun e w' => e = .returned (.bool (decide (u.m = v.m))) ∧ Grew w w' := by
  have HG := hid (((Grew.refl w).alloc (.cells (mvCells u) 37)).alloc (.cells (mvCells v) 37))
  have hb1 : Blk ((w.alloc (.cells (mvCells u) 37)).alloc (.cells (mvCells v) 37)) w.heap.size 37 (mvCells u) := (Blk.new w _ _).grew ((Grew.refl _).alloc _)
  have hb2 : Blk ((w.alloc (.cells (mvCells u) 37)).alloc (.cells (mvCells v) 37)) (w.heap.size + 1) 37 (mvCells v) := by
    have := Blk.new (w.alloc (.cells (mvCells u) 37)) 37 (mvCells v)
    rwa [World.size_alloc] at this
  have HB1 := hid hb1
  have HB2 := hid hb2
  have HL := hid (eqLits_c u.A1 u.c1 u.lits v.A1 v.c1 v.lits _ (hu.lits.grew HG.out) (hv.lits.grew HG.out) hu.l1)
  have HP := hid (fun (w' : World) (hg : Grew _ w') => eqParts_c u.A2 u.c2 u.vs v.A2 v.c2 v.vs w' (hu.parts.grew (HG.out.trans hg)) (hv.parts.grew (HG.out.trans hg)) hu.l2)
  have hd : decide (u.m = v.m) = (decide (u.sel = v.sel) && decide (u.lits = v.lits) && decide (u.vs.map (·.p) = v.vs.map (·.p))) := by
    rw [Bool.eq_iff_iff]
    simp [MV.m, and_assoc]
  rw [hd]
  have hz : (u.sel.toList == v.sel.toList) = decide (u.sel = v.sel) := str_beq9 _ _
  obtain ⟨us, ul, UA1, uc1, uv, UA2, uc2⟩ := u
  obtain ⟨vs, vl, VA1, vc1, vv, VA2, vc2⟩ := v
  unfold mvCells at HG HL HP HB1 HB2 ⊢
  simp only at HG HL HP HB1 HB2 hz ⊢
  generalize decide (us = vs) = q1 at *
  generalize decide (ul = vl) = q2 at *
  generalize decide (uv.map (·.p) = vv.map (·.p)) = q3 at *
  generalize ul.length = n1 at *
  generalize vl.length = n2 at *
  generalize uv.length = n3 at *
  generalize vv.length = n4 at *
  clear hu hv hd hb1 hb2
  cases q1
  · go_enter Tryz.func19, Tryz.ntmps19
    go_wp2_with fail
    go_ret
    exact ⟨rfl, HG.out⟩
  · cases q2
    · go_enter Tryz.func19, Tryz.ntmps19
      go_wp2_with fail
      refine HL.out.mono ?_
      rintro e w1 ⟨rfl, hg⟩
      go_wp2_with fail
      go_ret
      exact ⟨rfl, HG.out.trans hg⟩
    · go_enter Tryz.func19, Tryz.ntmps19
      go_wp2_with fail
      refine HL.out.mono ?_
      rintro e w1 ⟨rfl, hg⟩
      have HG1 := hid hg
      have r2 := (HB1.out.grew hg).cell 2
      have s2 := (HB2.out.grew hg).cell 2
      simp only [List.getElem?_toArray, List.getElem?_cons_zero, List.getElem?_cons_succ] at r2 s2
      clear hg
      go_wp2_with fail
      refine (HP.out _ HG1.out).mono ?_
      rintro e w2 ⟨rfl, hg2⟩
      go_wp2_with fail
      go_ret
      exact ⟨by cases q3 <;> rfl, HG.out.trans (HG1.out.trans hg2)⟩
end Go.Proofs.YtjdgcgpidhljpaaGreatDoor

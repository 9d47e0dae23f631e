/- Stage 9, the document's own: Same. Written by tools/gen_muf.py. -/
import Derived.Test.YtjdgcgpidhljpaaGreatDoorMuE
import Derived.Test.YtjdgcgpidhljpaaGreatDoorMtL
import Derived.BigRegion
namespace Go.Proofs.YtjdgcgpidhljpaaGreatDoor
open Go.RowKit

set_option maxRecDepth 100000 in
set_option maxHeartbeats 8000000 in
theorem rsame_c (u v : MV) (b : Bool) (hb : b = true ↔ u.m = v.m) (w : World) (hu : MethAt w u) (hv : MethAt w v) :
    Calls Tryz.prog 17 #[.agg (mvCells u), .agg (mvCells v)] w fun e w' => e = .returned (.bool b) ∧ Grew w w' := by
  have HGu := hid ((Grew.refl w).alloc (.cells (mvCells u) 25))
  have HG1 := hid (HGu.out.alloc (.cells (mvCells v) 25))
  have HB1 := hid ((Blk.new w 25 (mvCells u)).grew ((Grew.refl _).alloc (.cells (mvCells v) 25)))
  have HB2 : Hid (Blk ((w.alloc (.cells (mvCells u) 25)).alloc (.cells (mvCells v) 25)) (w.heap.size + 1) 25 (mvCells v)) := hid (by
    have := Blk.new (w.alloc (.cells (mvCells u) 25)) 25 (mvCells v)
    rw [World.size_alloc] at this
    exact this)
  have HLu := hid (hu.lits.grew HG1.out)
  have HPu := hid (hu.parts.grew HG1.out)
  have HLv := hid (hv.lits.grew HG1.out)
  have HPv := hid (hv.parts.grew HG1.out)
  have HB : Hid (b = true ↔ u.sel = v.sel ∧ u.lits = v.lits ∧ u.vs.map (·.p) = v.vs.map (·.p)) := hid (by
    rw [hb]
    show (⟨u.sel, u.lits, u.vs.map (·.p)⟩ : Mt.Meth) = ⟨v.sel, v.lits, v.vs.map (·.p)⟩ ↔ _
    rw [Mt.Meth.mk.injEq])
  have hl1 := hu.l1
  have hl2 := hu.l2
  have hk1 := hv.l1
  have hk2 := hv.l2
  clear hu hv hb
  obtain ⟨s, l, A1, c1, vs, A2, c2⟩ := u
  obtain ⟨s', l', B1, d1, vs', B2, d2⟩ := v
  unfold mvCells at *
  simp only at HGu HG1 HB1 HB2 HLu HPu HLv HPv HB hl1 hl2 hk1 hk2 ⊢
  obtain ⟨n1, en1⟩ : ∃ n1, n1 = l.length := ⟨_, rfl⟩
  obtain ⟨n2, en2⟩ : ∃ n2, n2 = vs.length := ⟨_, rfl⟩
  obtain ⟨m1, em1⟩ : ∃ m1, m1 = l'.length := ⟨_, rfl⟩
  obtain ⟨m2, em2⟩ : ∃ m2, m2 = vs'.length := ⟨_, rfl⟩
  have HN1 := hid en1
  have HN2 := hid en2
  have HM1 := hid em1
  have HM2 := hid em2
  rw [← en1] at HGu HG1 HB1 HB2 HLu HPu HLv HPv hl1 ⊢
  rw [← en2] at HGu HG1 HB1 HB2 HLu HPu HLv HPv hl2 ⊢
  rw [← em1] at HG1 HB1 HB2 HLu HPu HLv HPv hk1 ⊢
  rw [← em2] at HG1 HB1 HB2 HLu HPu HLv HPv hk2 ⊢
  clear en1 en2 em1 em2 HGu
  have HNo : Hid (¬ (s = s' ∧ l = l' ∧ vs.map (·.p) = vs'.map (·.p)) → b = false) := hid (fun hn => by
    cases hbb : b
    · rfl
    · exact absurd (HB.out.1 hbb) hn)
  generalize hW : (w.alloc (.cells #[.string s, .slice A1 n1 c1, .slice A2 n2 c2] 25)).alloc (.cells #[.string s', .slice B1 m1 d1, .slice B2 m2 d2] 25) = W at HG1 HB1 HB2 HLu HPu HLv HPv
  obtain ⟨z0, z1, z2⟩ := mvc HB1.out (Grew.refl W)
  obtain ⟨t0, t1, t2⟩ := mvc HB2.out (Grew.refl W)
  by_cases hs : s = s'
  · subst hs
    by_cases h1 : n1 = m1
    · subst h1
      by_cases h2 : n2 = m2
      · subst h2
        subst hW
        go_enter Tryz.func17, Tryz.ntmps17
        go_wp2_with fail
        generalize (w.alloc (.cells #[.string s, .slice A1 n1 c1, .slice A2 n2 c2] 25)).alloc (.cells #[.string s, .slice B1 n1 d1, .slice B2 n2 d2] 25) = W at *
        clear z0 z1 z2 t0 t1 t2
        go_loopw [5] (fun s5 wr => ∃ i : Nat, s5 = .int .i64 ((i : Nat) : Int) ∧ i ≤ n1 ∧ Grew W wr ∧ Hid (l.take i = l'.take i)) (fun s5 _ => n1 - (intOf s5).toNat)
        case atStart => exact ⟨0, rfl, Nat.zero_le _, Grew.refl _, hid rfl⟩
        case round =>
          obtain ⟨i, rfl, hi, hg, HI⟩ := hrel
          have HG := hid hg
          obtain ⟨z0, z1, z2⟩ := mvc HB1.out hg
          obtain ⟨t0, t1, t2⟩ := mvc HB2.out hg
          clear hg
          by_cases hlt : i < n1
          · have f1 : (i : Int) < n1 := by omega
            obtain ⟨ad, x, rfl, hx, p0, p1, hb1⟩ := lit_at HLu.out HG.out (i := i) (by rw [← HN1.out]; exact hlt)
            obtain ⟨bd, y, rfl, hy, q0, q1, hb2⟩ := lit_at HLv.out HG.out (i := i) (by rw [← HM1.out]; exact hlt)
            have HY : Hid (x = y → l.take (i + 1) = l'.take (i + 1)) := hid (fun he => take_eq HI.out hx hy he)
            have HN : Hid (x ≠ y → b = false) := hid (fun he => HNo.out (fun hh => ne_at hx hy he hh.2.1))
            clear hx hy
            obtain ⟨xk, xs⟩ := x
            obtain ⟨yk, ys⟩ := y
            simp only at p0 p1 q0 q1
            by_cases h1 : xk = yk
            · subst h1
              by_cases h2 : xs = ys
              · subst h2
                replace HY := hid (HY.out rfl)
                clear HN
                go_wp2_with fail
                go_quiet (fail)
                have HQ : Hid (Grew wr (wr.drewN nq)) := hid (Grew.mk ⟨rfl, rfl, rfl, Nat.le_refl _, fun _ _ => rfl⟩)
                generalize wr.drewN nq = w2 at *
                go_wp2_with fail
                go_round
                case rel => exact ⟨i + 1, by go_num, by omega, HG.out.trans HQ.out, HY⟩
                case measure => simp [intOf]; omega
              · have hz : (xs.toList == ys.toList) = false := by rw [str_beq9, decide_eq_false h2]
                have HF := hid (HN.out (fun e => h2 (by cases e; rfl)))
                clear h2 HY HN
                go_wp2_with fail
                go_quiet (fail)
                have HQ : Hid (Grew wr (wr.drewN nq)) := hid (Grew.mk ⟨rfl, rfl, rfl, Nat.le_refl _, fun _ _ => rfl⟩)
                generalize wr.drewN nq = w2 at *
                go_wp2_with fail
                go_ret
                exact ⟨congrArg (fun z => Ending.returned (.bool z)) HF.out.symm, HG1.out.trans (HG.out.trans HQ.out)⟩
            · have e1 : (((xk : Nat) : Int) == ((yk : Nat) : Int)) = false := by rw [beq_eq_false_iff_ne]; omega
              have HF := hid (HN.out (fun e => h1 (by cases e; rfl)))
              clear h1 HY HN
              go_wp2_with fail
              go_quiet (fail)
              have HQ : Hid (Grew wr (wr.drewN nq)) := hid (Grew.mk ⟨rfl, rfl, rfl, Nat.le_refl _, fun _ _ => rfl⟩)
              generalize wr.drewN nq = w2 at *
              go_wp2_with fail
              go_ret
              exact ⟨congrArg (fun z => Ending.returned (.bool z)) HF.out.symm, HG1.out.trans (HG.out.trans HQ.out)⟩
          · obtain rfl : n1 = i := by omega
            have HLe := hid (show l = l' by
              have := HI.out
              rwa [List.take_of_length_le (by rw [← HN1.out]; exact Nat.le_refl _), List.take_of_length_le (by rw [← HM1.out]; exact Nat.le_refl _)] at this)
            have HGa := hid HG.out
            clear HI hlt
            go_wp2_with fail
            clear z0 z1 z2 t0 t1 t2 HG
            go_loopw [6, 7, 8] (fun s6 _ _ wr => ∃ i : Nat, s6 = .int .i64 ((i : Nat) : Int) ∧ i ≤ n2 ∧ Grew W wr ∧ Hid ((vs.map (·.p)).take i = (vs'.map (·.p)).take i)) (fun s6 _ _ _ => n2 - (intOf s6).toNat)
            case atStart => exact ⟨0, rfl, Nat.zero_le _, HGa.out, hid rfl⟩
            case round =>
              clear HGa
              obtain ⟨i, rfl, hi, hg, HI⟩ := hrel
              have HG := hid hg
              obtain ⟨z0, z1, z2⟩ := mvc HB1.out hg
              obtain ⟨t0, t1, t2⟩ := mvc HB2.out hg
              clear hg
              by_cases hlt : i < n2
              · have f1 : (i : Int) < n2 := by omega
                obtain ⟨ad, x, rfl, hx, p0, p1, p2, p3, lp⟩ := pv_at HPu.out HG.out (i := i) (by rw [← HN2.out]; exact hlt)
                obtain ⟨bd, y, rfl, hy, q0, q1, q2, q3, lq⟩ := pv_at HPv.out HG.out (i := i) (by rw [← HM2.out]; exact hlt)
                have hx' : (vs.map (·.p))[i]? = some x.p := by rw [List.getElem?_map, hx]; rfl
                have hy' : (vs'.map (·.p))[i]? = some y.p := by rw [List.getElem?_map, hy]; rfl
                have HY : Hid (x.p = y.p → (vs.map (·.p)).take (i + 1) = (vs'.map (·.p)).take (i + 1)) := hid (fun he => take_eq HI.out hx' hy' he)
                have HN : Hid (x.p ≠ y.p → b = false) := hid (fun he => HNo.out (fun hh => ne_at hx' hy' he hh.2.2))
                have HPx := hid ((HPu.out.1 x (List.mem_of_getElem? hx)).grew HG.out)
                have HPy := hid ((HPv.out.1 y (List.mem_of_getElem? hy)).grew HG.out)
                clear hx hy hx' hy' z0 z1 t0 t1
                obtain ⟨⟨xo, xa, xt, xc⟩, XA, xcc⟩ := x
                obtain ⟨⟨yo, ya, yt, yc⟩, YA, ycc⟩ := y
                unfold PvOk at HPx HPy
                simp only at p0 p1 p2 p3 q0 q1 q2 q3 HPx HPy HY HN
                have HVx := hid (fun (w' : World) (hg : Grew wr w') => conv6 XA xcc xc w' (NumsAt.of_bytes (HPx.out.1.grew hg)))
                have HVy := hid (fun (w' : World) (hg : Grew wr w') => conv6 YA ycc yc w' (NumsAt.of_bytes (HPy.out.1.grew hg)))
                have HEq := hid (strB_inj HPx.out.1.1 HPy.out.1.1)
                generalize xc.length = xn at *
                generalize yc.length = yn at *
                have l1 := (HB1.out.grew HG.out).lt
                have l2 := (HB2.out.grew HG.out).lt
                go_wp2_with fail
                go_region
                all_goals
                  clear z2 t2 p0 p1 p2 p3 q0 q1 q2 q3 l1 l2 lp lq
                · have HG5 : Hid (Grew wr (((wr.alloc (.cells #[.int .i64 xo, .int .i64 xa, .int .i64 xt, .slice XA xn xcc] 61)).alloc (.cells #[.int .i64 yo, .int .i64 ya, .int .i64 yt, .slice YA yn ycc] 61)).drew)) := hid (((Grew.refl wr).alloc _).alloc _).drew
                  have hv1 := HVx.out _ HG5.out
                  have hv2 := HVy.out _ HG5.out
                  have heq := HEq.out
                  clear HVx HVy HEq
                  by_cases g1 : xo = yo
                  · subst g1
                    by_cases g2 : xa = ya
                    · subst g2
                      by_cases g3 : xt = yt
                      · subst g3
                        by_cases g4 : xc = yc
                        · rw [decide_eq_true g4] at heq
                          have HYY := hid (HY.out (by rw [g4]))
                          clear g4 HY HN
                          go_wp2_with fail
                          go_round
                          case rel => exact ⟨i + 1, by go_num, by omega, HG.out.trans HG5.out, HYY⟩
                          case measure => simp [intOf]; omega
                        · rw [decide_eq_false g4] at heq
                          have HF := hid (HN.out (fun e => g4 (by cases e; rfl)))
                          clear g4 HY HN
                          go_wp2_with fail
                          go_ret
                          exact ⟨congrArg (fun z => Ending.returned (.bool z)) HF.out.symm, HG1.out.trans (HG.out.trans HG5.out)⟩
                      · have e3 : (xt != yt) = true := by rw [bne_iff_ne]; exact g3
                        have HF := hid (HN.out (fun e => g3 (by cases e; rfl)))
                        clear g3 HY HN hv1 hv2 heq
                        go_wp2_with fail
                        go_ret
                        exact ⟨congrArg (fun z => Ending.returned (.bool z)) HF.out.symm, HG1.out.trans (HG.out.trans HG5.out)⟩
                    · have e3 : (xa != ya) = true := by rw [bne_iff_ne]; exact g2
                      have HF := hid (HN.out (fun e => g2 (by cases e; rfl)))
                      clear g2 HY HN hv1 hv2 heq
                      go_wp2_with fail
                      go_ret
                      exact ⟨congrArg (fun z => Ending.returned (.bool z)) HF.out.symm, HG1.out.trans (HG.out.trans HG5.out)⟩
                  · have e3 : (xo != yo) = true := by rw [bne_iff_ne]; exact g1
                    have HF := hid (HN.out (fun e => g1 (by cases e; rfl)))
                    clear g1 HY HN hv1 hv2 heq
                    go_wp2_with fail
                    go_ret
                    exact ⟨congrArg (fun z => Ending.returned (.bool z)) HF.out.symm, HG1.out.trans (HG.out.trans HG5.out)⟩
                · have HG5 : Hid (Grew wr (((wr.alloc (.cells #[.int .i64 yo, .int .i64 ya, .int .i64 yt, .slice YA yn ycc] 61)).alloc (.cells #[.int .i64 xo, .int .i64 xa, .int .i64 xt, .slice XA xn xcc] 61)).drew)) := hid (((Grew.refl wr).alloc _).alloc _).drew
                  have hv1 := HVx.out _ HG5.out
                  have hv2 := HVy.out _ HG5.out
                  have heq := HEq.out
                  clear HVx HVy HEq
                  by_cases g1 : xo = yo
                  · subst g1
                    by_cases g2 : xa = ya
                    · subst g2
                      by_cases g3 : xt = yt
                      · subst g3
                        by_cases g4 : xc = yc
                        · rw [decide_eq_true g4] at heq
                          have HYY := hid (HY.out (by rw [g4]))
                          clear g4 HY HN
                          go_wp2_with fail
                          go_round
                          case rel => exact ⟨i + 1, by go_num, by omega, HG.out.trans HG5.out, HYY⟩
                          case measure => simp [intOf]; omega
                        · rw [decide_eq_false g4] at heq
                          have HF := hid (HN.out (fun e => g4 (by cases e; rfl)))
                          clear g4 HY HN
                          go_wp2_with fail
                          go_ret
                          exact ⟨congrArg (fun z => Ending.returned (.bool z)) HF.out.symm, HG1.out.trans (HG.out.trans HG5.out)⟩
                      · have e3 : (xt != yt) = true := by rw [bne_iff_ne]; exact g3
                        have HF := hid (HN.out (fun e => g3 (by cases e; rfl)))
                        clear g3 HY HN hv1 hv2 heq
                        go_wp2_with fail
                        go_ret
                        exact ⟨congrArg (fun z => Ending.returned (.bool z)) HF.out.symm, HG1.out.trans (HG.out.trans HG5.out)⟩
                    · have e3 : (xa != ya) = true := by rw [bne_iff_ne]; exact g2
                      have HF := hid (HN.out (fun e => g2 (by cases e; rfl)))
                      clear g2 HY HN hv1 hv2 heq
                      go_wp2_with fail
                      go_ret
                      exact ⟨congrArg (fun z => Ending.returned (.bool z)) HF.out.symm, HG1.out.trans (HG.out.trans HG5.out)⟩
                  · have e3 : (xo != yo) = true := by rw [bne_iff_ne]; exact g1
                    have HF := hid (HN.out (fun e => g1 (by cases e; rfl)))
                    clear g1 HY HN hv1 hv2 heq
                    go_wp2_with fail
                    go_ret
                    exact ⟨congrArg (fun z => Ending.returned (.bool z)) HF.out.symm, HG1.out.trans (HG.out.trans HG5.out)⟩
              · obtain rfl : n2 = i := by omega
                have HT := hid (HB.out.2 ⟨by trivial, HLe.out, by
                  have := HI.out
                  rwa [List.take_of_length_le (by rw [List.length_map, ← HN2.out]; exact Nat.le_refl _), List.take_of_length_le (by rw [List.length_map, ← HM2.out]; exact Nat.le_refl _)] at this⟩)
                clear HI
                go_wp2_with fail
                go_ret
                exact ⟨congrArg (fun z => Ending.returned (.bool z)) HT.out.symm, HG1.out.trans HG.out⟩
      · have HF := hid (HNo.out (fun hh => h2 (by rw [HN2.out, HM2.out, ← List.length_map (f := fun x : PV => x.p), hh.2.2, List.length_map])))
        have e3 : (((n2 : Nat) : Int) != ((m2 : Nat) : Int)) = true := by rw [bne_iff_ne]; omega
        clear h2
        subst hW
        go_enter Tryz.func17, Tryz.ntmps17
        go_wp2_with fail
        go_ret
        exact ⟨congrArg (fun z => Ending.returned (.bool z)) HF.out.symm, HG1.out⟩
    · have HF := hid (HNo.out (fun hh => h1 (by rw [HN1.out, HM1.out, hh.2.1])))
      have e3 : (((n1 : Nat) : Int) != ((m1 : Nat) : Int)) = true := by rw [bne_iff_ne]; omega
      clear h1
      subst hW
      go_enter Tryz.func17, Tryz.ntmps17
      go_wp2_with fail
      go_ret
      exact ⟨congrArg (fun z => Ending.returned (.bool z)) HF.out.symm, HG1.out⟩
  · have HF := hid (HNo.out (fun hh => hs hh.1))
    have e3 : (s.toList == s'.toList) = false := by rw [str_beq9, decide_eq_false hs]
    clear hs
    subst hW
    go_enter Tryz.func17, Tryz.ntmps17
    go_wp2_with fail
    go_ret
    exact ⟨congrArg (fun z => Ending.returned (.bool z)) HF.out.symm, HG1.out⟩
end Go.Proofs.YtjdgcgpidhljpaaGreatDoor

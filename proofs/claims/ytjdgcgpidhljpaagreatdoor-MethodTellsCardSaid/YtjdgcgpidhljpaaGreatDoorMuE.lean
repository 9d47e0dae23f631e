/- Stage 9, the document's own: May. Written by tools/gen_mud.py. -/
import Derived.Test.YtjdgcgpidhljpaaGreatDoorMuD
namespace Go.Proofs.YtjdgcgpidhljpaaGreatDoor
open Go.RowKit

/-- The three cells of a method's box. -/
theorem mvc {w w' : World} {s : ByteArray} {A1 A2 : Option Addr} {n1 n2 c1 c2 g : Nat} {t : TypeId} (h : Blk w g t #[.string s, .slice A1 n1 c1, .slice A2 n2 c2]) (hg : Grew w w') : w'.cell? ⟨g, 0, none⟩ = some (.string s) ∧ w'.cell? ⟨g, 1, none⟩ = some (.slice A1 n1 c1) ∧ w'.cell? ⟨g, 2, none⟩ = some (.slice A2 n2 c2) :=
  ⟨(h.grew hg).cell 0, (h.grew hg).cell 1, (h.grew hg).cell 2⟩
set_option maxRecDepth 100000 in
set_option maxHeartbeats 8000000 in
theorem rmay_c (v : MV) (vars classes : Int) (b : Bool) (hb : b = true ↔ Mt.May v.m vars classes) (w : World) (h : MethAt w v) :
    Calls Tryz.prog 15 #[.agg (mvCells v), .int .i64 vars, .int .i64 classes] w fun e w' => e = .returned (.bool b) ∧ Grew w w' := by
  have HA := hid (rarity_c v.sel (w.alloc (.cells (mvCells v) 25)))
  have HG1 := hid ((Grew.refl w).alloc (.cells (mvCells v) 25))
  have HBk := hid (Blk.new w 25 (mvCells v))
  have HML := hid (h.lits.grew HG1.out)
  have HMP := hid (h.parts.grew HG1.out)
  have HNo : Hid (¬ Mt.May v.m vars classes → b = false) := hid (fun hn => by
    cases hbb : b
    · rfl
    · exact absurd (hb.1 hbb) hn)
  have HYes := hid hb.2
  have HSel : Hid (Mt.May v.m vars classes → (Mt.arity (Lg.bytes v.sel)).isSome = true) := hid (fun hm => hm.sel)
  have HFew : Hid (Mt.May v.m vars classes → v.lits.length ≤ 64 ∧ 1 ≤ v.vs.length ∧ v.vs.length ≤ 64) := hid (fun hm => ⟨hm.few, by
    have h1 : 1 ≤ (v.vs.map (·.p)).length := hm.parts.1
    have h2 : (v.vs.map (·.p)).length ≤ 64 := hm.parts.2.1
    rw [List.length_map] at h1 h2
    exact ⟨h1, h2⟩⟩)
  have HLit : Hid (Mt.May v.m vars classes → ∀ x ∈ v.lits, Mt.LitOk x) := hid (fun hm => hm.lits)
  have HHead : Hid (Mt.May v.m vars classes → ∀ i x, v.vs[i]? = some x → Mt.headOk x.p i = true) := hid (fun hm i x hx => may_head hm hx)
  have HCode : Hid (Mt.May v.m vars classes → ∀ i x, v.vs[i]? = some x → Mt.CodeOk v.m i x.p.code vars classes) := hid (fun hm i x hx => may_code hm hx)
  have HArgs : Hid (∀ n, Mt.arity (Lg.bytes v.sel) = some n → Mt.May v.m vars classes → ∀ x, v.vs[0]? = some x → x.p.args = ((n : Nat) : Int)) := hid (fun n hn hm x hx => may_args hm hn hx)
  have HOf : Hid (∀ n v0, Mt.arity (Lg.bytes v.sel) = some n → v.lits.length ≤ 64 → LitsTo v.lits v.lits.length → 1 ≤ v.vs.length ∧ v.vs.length ≤ 64 → HeadsTo v.vs v.vs.length → v.vs[0]? = some v0 → v0.p.args = ((n : Nat) : Int) → CodesTo v.m v.vs v.vs.length vars classes → Mt.May v.m vars classes) := hid (fun n v0 h1 h2 h3 h4 h5 h6 h7 h8 => may_of h1 h2 h3 h4 h5 h6 h7 h8)
  have HMe0 : Hid (v.m = ⟨v.sel, v.lits, v.vs.map (·.p)⟩) := hid rfl
  have hl1 := h.l1
  have hl2 := h.l2
  clear h hb
  obtain ⟨M, hMM⟩ : ∃ M, M = v.m := ⟨_, rfl⟩
  rw [← hMM] at HNo HYes HSel HFew HLit HHead HCode HArgs HOf HMe0
  clear hMM
  obtain ⟨s, l, A1, c1, vs, A2, c2⟩ := v
  unfold mvCells at *
  simp only at HA HG1 HBk HML HMP HNo HYes HSel HFew HLit HHead HCode HArgs HOf HMe0 hl1 hl2 ⊢
  obtain ⟨n1, en1⟩ : ∃ n1, n1 = l.length := ⟨_, rfl⟩
  obtain ⟨n2, en2⟩ : ∃ n2, n2 = vs.length := ⟨_, rfl⟩
  have HN1 := hid en1
  have HN2 := hid en2
  rw [← en1] at HA HG1 HBk HML HMP HFew HOf hl1 ⊢
  rw [← en2] at HA HG1 HBk HML HMP HFew HOf hl2 ⊢
  have HMe := hid HMe0.out
  clear en1 en2 HMe0
  generalize hW : w.alloc (.cells #[.string s, .slice A1 n1 c1, .slice A2 n2 c2] 25) = W at HA HG1 HBk HML HMP
  generalize hr : Mt.arity (Lg.bytes s) = r at HA HSel HArgs HOf
  cases r with
  | none =>
    have HF := hid (HNo.out (fun hm => by have := HSel.out hm; cases this))
    clear hr HArgs HOf HHead HCode
    subst hW
    go_enter Tryz.func15, Tryz.ntmps15
    go_wp2_with fail
    refine HA.out.mono ?_
    rintro e w1 ⟨kk, rfl, _, rfl⟩
    go_wp2_with fail
    go_ret
    exact ⟨congrArg (fun z => Ending.returned (.bool z)) HF.out.symm, HG1.out⟩
  | some na =>
    replace HArgs := hid (HArgs.out na rfl)
    replace HOf := hid (fun v0 => HOf.out na v0 rfl)
    clear hr HSel
    by_cases h64 : n1 ≤ 64
    · have f1 : ¬ (64 : Int) < (n1 : Int) := by omega
      by_cases hp1 : 1 ≤ n2
      · have f2 : ¬ (n2 : Int) < 1 := by omega
        by_cases hp2 : n2 ≤ 64
        · have f3 : ¬ (64 : Int) < (n2 : Int) := by omega
          have f0 : (0 : Int) < (n2 : Int) := by omega
          have HR := hid (⟨h64, hp1, hp2⟩ : n1 ≤ 64 ∧ 1 ≤ n2 ∧ n2 ≤ 64)
          obtain ⟨ad, v0, rfl, hv0, _, q1, _, _, _⟩ := pv_at HMP.out (Grew.refl W) (i := 0) (show 0 < vs.length by rw [← HN2.out]; omega)
          rw [Nat.zero_mul, add_zero] at q1
          have HV0 := hid hv0
          clear hv0
          obtain ⟨z0, z1, z2⟩ := mvc HBk.out (Grew.refl W)
          by_cases har : v0.p.args = ((na : Nat) : Int)
          · have HAr := hid har
            have HBt := hid (fun h3 h5 h8 => HYes.out (HOf.out v0 HR.out.1 h3 HR.out.2 h5 HV0.out HAr.out h8))
            rw [har] at q1
            clear har HOf HYes HArgs HFew
            subst hW
            go_enter Tryz.func15, Tryz.ntmps15
            go_wp2_with fail
            refine HA.out.mono ?_
            rintro e w1 ⟨kk, rfl, hkk, rfl⟩
            rw [hkk na rfl]
            clear hkk
            generalize w.alloc (.cells #[.string s, .slice A1 n1 c1, .slice (some ad) n2 c2] 25) = W at *
            go_wp2_with fail
            clear q1 z0 z1 z2
            go_loopw [9] (fun s9 wr => ∃ i : Nat, s9 = .int .i64 ((i : Nat) : Int) ∧ i ≤ n1 ∧ Grew W wr ∧ Hid (LitsTo l i)) (fun s9 _ => n1 - (intOf s9).toNat)
            case atStart => exact ⟨0, rfl, Nat.zero_le _, Grew.refl _, hid (fun j x hj => by omega)⟩
            case round =>
              obtain ⟨i, rfl, hi, hg, HI⟩ := hrel
              have HG := hid hg
              obtain ⟨z0, z1, z2⟩ := mvc HBk.out hg
              clear hg
              by_cases hlt : i < n1
              · have f4 : (i : Int) < n1 := by omega
                obtain ⟨ad1, x, rfl, hx, q0, q1, _⟩ := lit_at HML.out HG.out (i := i) (by rw [← HN1.out]; exact hlt)
                have hxm := List.mem_of_getElem? hx
                have HL := hid (rlit_c x (litB x) (litB_iff x) wr (HML.out.1 x hxm).2)
                have HX : Hid (litB x = false → b = false) := hid (fun hf => HNo.out (fun hm => by
                  have := (litB_iff x).2 (HLit.out hm x hxm)
                  rw [hf] at this
                  cases this))
                have HS : Hid (litB x = true → LitsTo l (i + 1)) := hid (fun hf j y hj hy => by
                  rcases Nat.lt_or_ge j i with h1 | h1
                  · exact HI.out j y h1 hy
                  · obtain rfl : j = i := by omega
                    rw [hx] at hy
                    obtain rfl := Option.some.inj hy
                    exact (litB_iff x).1 hf)
                generalize litB x = q at *
                clear hx hxm
                obtain ⟨k, xs⟩ := x
                simp only at q0 q1 HL
                cases q
                · have HF := hid (HX.out rfl)
                  go_wp2_with fail
                  refine HL.out.mono ?_
                  rintro e w2 ⟨rfl, hg2⟩
                  go_wp2_with fail
                  go_ret
                  exact ⟨congrArg (fun z => Ending.returned (.bool z)) HF.out.symm, HG1.out.trans (HG.out.trans hg2)⟩
                · replace HS := hid (HS.out rfl)
                  go_wp2_with fail
                  refine HL.out.mono ?_
                  rintro e w2 ⟨rfl, hg2⟩
                  go_wp2_with fail
                  go_round
                  case rel => exact ⟨i + 1, by go_num, by omega, HG.out.trans hg2, HS⟩
                  case measure => simp [intOf]; omega
              · obtain rfl : n1 = i := by omega
                have HLa := hid (show LitsTo l l.length by have := HI.out; rwa [HN1.out] at this)
                have HLits : Hid (∀ x ∈ l, Mt.LitOk x) := hid (fun x hx => by
                  obtain ⟨j, hj, rfl⟩ := List.mem_iff_getElem.1 hx
                  exact HLa.out j _ hj (List.getElem?_eq_getElem hj))
                replace HBt := hid (HBt.out (by have := HLa.out; rwa [← HN1.out] at this))
                have HGa := hid HG.out
                clear HI hlt HLit HLa
                go_wp2_with fail
                clear z0 z1 z2 HG
                go_loopw [10, 11, 12, 13, 14, 15, 16, 17] (fun s10 _ _ _ _ _ _ _ wr => ∃ i : Nat, s10 = .int .i64 ((i : Nat) : Int) ∧ i ≤ n2 ∧ Grew W wr ∧ Hid (HeadsTo vs i ∧ CodesTo M vs i vars classes)) (fun s10 _ _ _ _ _ _ _ _ => n2 - (intOf s10).toNat)
                case atStart => exact ⟨0, rfl, Nat.zero_le _, HGa.out, hid ⟨fun j x hj => by omega, fun j x hj => by omega⟩⟩
                case round =>
                  clear HGa
                  obtain ⟨i, rfl, hi, hg, HI⟩ := hrel
                  have HG := hid hg
                  obtain ⟨z0, z1, z2⟩ := mvc HBk.out hg
                  clear hg
                  by_cases hlt : i < n2
                  · have f4 : (i : Int) < n2 := by omega
                    obtain ⟨ad', x, he, hx, q0, q1, q2, q3, _⟩ := pv_at HMP.out HG.out (i := i) (by rw [← HN2.out]; exact hlt)
                    obtain rfl := Option.some.inj he
                    have HPo := hid ((HMP.out.1 x (List.mem_of_getElem? hx)).grew HG.out)
                    have HMc := hid (fun hm => HCode.out hm i x hx)
                    have HMh := hid (fun hm => HHead.out hm i x hx)
                    have HH := hid HI.out.1
                    have HC := hid HI.out.2
                    have HVi := hid hx
                    clear HI hx he
                    obtain ⟨⟨po, pa, pt, code⟩, Ac, cc⟩ := x
                    unfold PvOk at HPo
                    simp only at q0 q1 q2 q3 HPo HMc HMh
                    rcases Nat.eq_zero_or_pos i with hi0 | hi0
                    · subst hi0
                      rw [Nat.zero_mul, add_zero] at q0 q1 q2 q3
                      by_cases ho : po = -1
                      · subst ho
                        by_cases g1 : pa < 0
                        · have HF := hid (HNo.out (fun hm => by
                            have := HMh.out hm
                            rw [show Mt.headOk ⟨(-1), pa, pt, code⟩ 0 = false by simp only [Mt.headOk, Mt.outerOk]; simp; omega] at this
                            cases this))
                          clear HMc HMh
                          go_wp2_with fail
                          go_ret
                          exact ⟨congrArg (fun z => Ending.returned (.bool z)) HF.out.symm, HG1.out.trans (HG.out.alloc _)⟩
                        · by_cases g2 : 8 < pa
                          · have HF := hid (HNo.out (fun hm => by
                              have := HMh.out hm
                              rw [show Mt.headOk ⟨(-1), pa, pt, code⟩ 0 = false by simp only [Mt.headOk, Mt.outerOk]; simp; omega] at this
                              cases this))
                            clear HMc HMh
                            go_wp2_with fail
                            go_ret
                            exact ⟨congrArg (fun z => Ending.returned (.bool z)) HF.out.symm, HG1.out.trans (HG.out.alloc _)⟩
                          · by_cases g3 : pt < pa
                            · have HF := hid (HNo.out (fun hm => by
                                have := HMh.out hm
                                rw [show Mt.headOk ⟨(-1), pa, pt, code⟩ 0 = false by simp only [Mt.headOk, Mt.outerOk]; simp; omega] at this
                                cases this))
                              clear HMc HMh
                              go_wp2_with fail
                              go_ret
                              exact ⟨congrArg (fun z => Ending.returned (.bool z)) HF.out.symm, HG1.out.trans (HG.out.alloc _)⟩
                            · by_cases g4 : 16 < pt
                              · have HF := hid (HNo.out (fun hm => by
                                  have := HMh.out hm
                                  rw [show Mt.headOk ⟨(-1), pa, pt, code⟩ 0 = false by simp only [Mt.headOk, Mt.outerOk]; simp; omega] at this
                                  cases this))
                                clear HMc HMh
                                go_wp2_with fail
                                go_ret
                                exact ⟨congrArg (fun z => Ending.returned (.bool z)) HF.out.symm, HG1.out.trans (HG.out.alloc _)⟩
                              · have HHd : Hid (HeadsTo vs (0 + 1)) := hid (fun j y hj hy => by
                                  rcases Nat.lt_or_ge j 0 with h1 | h1
                                  · exact HH.out j y h1 hy
                                  · obtain rfl : j = 0 := by omega
                                    rw [HVi.out] at hy
                                    obtain rfl := Option.some.inj hy
                                    simp only [Mt.headOk, Mt.outerOk]
                                    simp
                                    omega)
                                clear HMh
                                have hcap := HPo.out.2.1
                                have hfew := HPo.out.2.2.2
                                have HDp := hid (fun (W2 : World) (hg : Grew wr W2) => rdepths_c Ac cc code W2 (HPo.out.1.grew hg) hcap (by omega))
                                have HDc := hid (fun (W2 : World) (hg : Grew wr W2) => rdecode_c Ac cc code W2 (HPo.out.1.grew hg) hcap (by omega))
                                have HBx := hid (Blk.new wr 61 #[.int .i64 (-1), .int .i64 pa, .int .i64 pt, .slice Ac code.length cc])
                                have HGx := hid ((Grew.refl wr).alloc (.cells #[.int .i64 (-1), .int .i64 pa, .int .i64 pt, .slice Ac code.length cc] 61))
                                have HBn : Hid (∀ k, Fl.Bad code k → b = false) := hid (fun k hk => HNo.out (fun hm => by
                                  obtain ⟨l', os', G', D', h1, _⟩ := HMc.out hm
                                  exact hk.not_well h1))
                                have HWl : Hid (∀ L os G D, Fl.Well code L os G D → L.all (fun o => Mt.fits M 0 o vars classes) = true → CodesTo M vs (0 + 1) vars classes) := hid (fun L os G D hw hf j y hj hy => by
                                  rcases Nat.lt_or_ge j 0 with h1 | h1
                                  · exact HC.out j y h1 hy
                                  · obtain rfl : j = 0 := by omega
                                    rw [HVi.out] at hy
                                    obtain rfl := Option.some.inj hy
                                    exact ⟨L, os, G, D, hw, hf⟩)
                                have HWn : Hid (∀ L os G D, Fl.Well code L os G D → ∀ o ∈ L, Mt.fits M 0 o vars classes = false → b = false) := hid (fun L os G D hw o ho hf => HNo.out (fun hm => by
                                  obtain ⟨l', os', G', D', h1, h2⟩ := HMc.out hm
                                  obtain ⟨rfl, _⟩ := hw.uniq h1
                                  have := List.all_eq_true.1 h2 o ho
                                  rw [hf] at this
                                  cases this))
                                have HVl : Hid (∀ L os G D, Fl.Well code L os G D → (∀ o ∈ L, Op7.valid o) ∧ L.length ≤ 512 ∧ Op7.decR code = (L, os, 0)) := hid (fun L os G D hw => ⟨(decR_ok HPo.out.1.1 hw.dec).2.1, (hw.few HPo.out.1.1).2, hw.dec⟩)
                                clear hcap hfew
                                generalize code.length = cl at *
                                go_wp2_with fail
                                refine (HDp.out _ HGx.out).mono ?_
                                clear q0 q1 q2 q3
                                rintro e w3 (⟨k, rfl, hbad, hg3⟩ | ⟨A3, m3, c3, L, os, GG, DD, rfl, hwell, hg3⟩)
                                · have HF := hid (HBn.out k hbad)
                                  have e0 : (((k : Nat) : Int) != 0) = true := by rw [bne, beq_eq_false_iff_ne.2 (by have := hbad.ne; omega)]; rfl
                                  have HG3 := hid (HG.out.trans (HGx.out.trans hg3))
                                  clear hbad hg3
                                  go_wp2_with fail
                                  go_ret
                                  exact ⟨congrArg (fun z => Ending.returned (.bool z)) HF.out.symm, HG1.out.trans HG3.out⟩
                                · have HG3 := hid (HGx.out.trans hg3)
                                  have d3 := (HBx.out.grew hg3).cell 3
                                  simp only [List.getElem?_toArray, List.getElem?_cons_zero, List.getElem?_cons_succ] at d3
                                  obtain ⟨hval, hlen, hdec⟩ := HVl.out L os GG DD hwell
                                  have HDe := hid (HDc.out w3 HG3.out)
                                  rw [hdec] at HDe
                                  have HVal := hid hval
                                  have HWell := hid hwell
                                  clear hval hdec hwell hg3
                                  go_wp2_with fail
                                  refine HDe.out.mono ?_
                                  rintro e w4 ⟨B1, d1, B2, d2, L', rfl, hL, hI, _, hg4⟩
                                  simp only at hL
                                  subst hL
                                  have HOp := hid (RowI.ops hI)
                                  have HG4 := hid (HG.out.trans (HG3.out.trans hg4))
                                  obtain ⟨ln, hln⟩ : ∃ ln, ln = L'.length := ⟨_, rfl⟩
                                  rw [← hln] at hlen ⊢
                                  have HLn := hid hln
                                  clear hln hI hg4 d3 HDp HDc HDe HBx HGx HBn HVl
                                  go_wp2_with fail
                                  go_loopw [17] (fun s17 wr => ∃ k : Nat, s17 = .int .i64 ((k : Nat) : Int) ∧ k ≤ ln ∧ Grew w4 wr ∧ Hid (FitsTo M 0 L' vars classes k)) (fun s17 _ => ln - (intOf s17).toNat)
                                  case atStart => exact ⟨0, rfl, Nat.zero_le _, Grew.refl _, hid (fun j x hj => by omega)⟩
                                  case round =>
                                    obtain ⟨k, rfl, hk, hgx, HK⟩ := hrel
                                    have HGy := hid hgx
                                    clear hgx
                                    by_cases hkl : k < ln
                                    · have f9 : (k : Int) < ln := by omega
                                      obtain ⟨ad2, rfl, hb2, hc2⟩ := HOp.out.2 (by rw [← HLn.out]; omega)
                                      obtain ⟨o, ho⟩ : ∃ o, L'[k]? = some o := ⟨_, List.getElem?_eq_getElem (show k < L'.length by rw [← HLn.out]; exact hkl)⟩
                                      obtain ⟨y0, y1, y2⟩ := op_cell (o := o) (i := k) (ad := ad2) (w := wr) (fun j u hu => by
                                        rw [HGy.out.below.cell (by rw [block_add]; exact hb2)]; exact hc2 k o ho j u hu)
                                      have hom := List.mem_of_getElem? ho
                                      have hof := valid_fit (HVal.out o hom)
                                      have hoa : 0 ≤ o.a ∧ o.a ≤ 1000000 := by
                                        obtain ⟨_, ⟨a0, a1⟩, _⟩ := HVal.out o hom
                                        have hw := Op7.wid_le o.code
                                        have e1 : ((256 : Int) ^ (Op7.wid o.code).1) ≤ 256 ^ 2 := by
                                          rcases (by omega : (Op7.wid o.code).1 = 0 ∨ (Op7.wid o.code).1 = 1 ∨ (Op7.wid o.code).1 = 2) with e | e | e <;> rw [e] <;> decide
                                        exact ⟨a0, by omega⟩
                                      have hob : 0 ≤ o.b ∧ o.b ≤ 1000000 := ⟨hof.2.1, by omega⟩
                                      have HGz := hid (HG4.out.trans HGy.out)
                                      obtain ⟨z0, z1, z2⟩ := mvc HBk.out HGz.out
                                      have HFit := hid (show ∀ (w' : World), Grew wr w' → Calls Tryz.prog 40 #[.agg #[.string s, .slice A1 n1 c1, .slice (some ad) n2 c2], .int .i64 ((0 : Nat) : Int), .agg #[.int .u8 ((o.code : Nat) : Int), .int .i64 o.a, .int .i64 o.b], .int .i64 vars, .int .i64 classes] w' (fun e w'' => e = .returned (.bool (Mt.fits M 0 o vars classes)) ∧ ∃ y : After wr, w'' = y.w) from fun w' hg => by
                                        have hq := rfits_c (sel := s) (c1 := c1) (c2 := c2) (vars := vars) (classes := classes) (oa := o.a) (ob := o.b) (⟨HML.out.grew (HGz.out.trans hg), HMP.out.grew (HGz.out.trans hg), HN1.out, HN2.out, HLits.out, HHd.out, hlt, hoa, hob⟩ : RfIn w' l vs A1 (some ad) n1 n2 0 o.a o.b) o.code
                                        have hM : Mt.fits ⟨s, l, vs.map (·.p)⟩ 0 ⟨o.code, o.a, o.b⟩ vars classes = Mt.fits M 0 o vars classes := by rw [HMe.out]
                                        rw [hM] at hq
                                        exact Calls.after hg hq)
                                      have HFs : Hid (Mt.fits M 0 o vars classes = true → FitsTo M 0 L' vars classes (k + 1)) := hid (fun hf j x hj hx => by
                                        rcases Nat.lt_or_ge j k with h1 | h1
                                        · exact HK.out j x h1 hx
                                        · obtain rfl : j = k := by omega
                                          rw [ho] at hx
                                          obtain rfl := Option.some.inj hx
                                          exact hf)
                                      have HFn := hid (HWn.out _ _ _ _ HWell.out o hom)
                                      generalize Mt.fits M 0 o vars classes = bq at *
                                      have lz := (HBk.out.grew HGz.out).lt
                                      have l2 : ad2.block < wr.heap.size := Nat.lt_of_lt_of_le hb2 HGy.out.below.size
                                      clear hc2 ho hom hof hoa hob
                                      obtain ⟨cd, oa, ob⟩ := o
                                      simp only at y0 y1 y2 HFit
                                      go_wp2_with fail
                                      refine wp_region_grew_from (Grew.refl _) (by kernel_rfl) (by kernel_rfl) ?_
                                      repeat (go_big_quiet_step ((go_at_call 40; exact HFit.out _ (After.grew _))))
                                      refine wpQuiet_nil ?_
                                      rintro _ ⟨y5, rfl⟩
                                      clear y0 y1 y2 z0 z1 z2 lz l2
                                      cases bq
                                      · have HF := hid (HFn.out rfl)
                                        go_wp2_with fail
                                        go_ret
                                        exact ⟨congrArg (fun z => Ending.returned (.bool z)) HF.out.symm, HG1.out.trans (HGz.out.trans y5.grew)⟩
                                      · replace HFs := hid (HFs.out rfl)
                                        go_wp2_with fail
                                        go_round
                                        case rel => exact ⟨k + 1, by go_num, by omega, HGy.out.trans y5.grew, HFs⟩
                                        case measure => simp [intOf]; omega
                                    · obtain rfl : k = ln := by omega
                                      have hfa := fits_all (m := M) (p := 0) (l := L') (vars := vars) (classes := classes) (by rw [← HLn.out]; exact HK.out)
                                      have HCs := hid (HWl.out _ _ _ _ HWell.out hfa)
                                      clear hfa
                                      go_wp2_with fail
                                      go_round
                                      case rel => exact ⟨0 + 1, by go_num, by omega, HG4.out.trans HGy.out, hid ⟨HHd.out, HCs.out⟩⟩
                                      case measure => simp [intOf]; omega
                      · have e5 : (po != -1) = true := by rw [bne_iff_ne]; exact ho
                        have HF := hid (HNo.out (fun hm => by
                          have := HMh.out hm
                          rw [show Mt.headOk ⟨po, pa, pt, code⟩ 0 = false by simp only [Mt.headOk, Mt.outerOk]; simp [ho]] at this
                          cases this))
                        clear HMc HMh
                        go_wp2_with fail
                        go_ret
                        exact ⟨congrArg (fun z => Ending.returned (.bool z)) HF.out.symm, HG1.out.trans (HG.out.alloc _)⟩
                    · have f5 : (0 : Int) < (i : Int) := by omega
                      have f6 : ((i : Nat) : Int) ≠ 0 := by omega
                      by_cases ho : po < 0
                      · have HF := hid (HNo.out (fun hm => by
                          have := HMh.out hm
                          rw [show Mt.headOk ⟨po, pa, pt, code⟩ i = false by simp only [Mt.headOk, Mt.outerOk]; rw [if_neg (show ¬ i = 0 by omega)]; simp; omega] at this
                          cases this))
                        clear HMc HMh
                        go_wp2_with fail
                        go_ret
                        exact ⟨congrArg (fun z => Ending.returned (.bool z)) HF.out.symm, HG1.out.trans (HG.out.alloc _)⟩
                      · by_cases ho2 : (i : Int) ≤ po
                        · have HF := hid (HNo.out (fun hm => by
                            have := HMh.out hm
                            rw [show Mt.headOk ⟨po, pa, pt, code⟩ i = false by simp only [Mt.headOk, Mt.outerOk]; rw [if_neg (show ¬ i = 0 by omega)]; simp; omega] at this
                            cases this))
                          clear HMc HMh
                          go_wp2_with fail
                          go_ret
                          exact ⟨congrArg (fun z => Ending.returned (.bool z)) HF.out.symm, HG1.out.trans (HG.out.alloc _)⟩
                        · by_cases g1 : pa < 0
                          · have HF := hid (HNo.out (fun hm => by
                              have := HMh.out hm
                              rw [show Mt.headOk ⟨po, pa, pt, code⟩ i = false by simp only [Mt.headOk, Mt.outerOk]; rw [if_neg (show ¬ i = 0 by omega)]; simp; omega] at this
                              cases this))
                            clear HMc HMh
                            go_wp2_with fail
                            go_ret
                            exact ⟨congrArg (fun z => Ending.returned (.bool z)) HF.out.symm, HG1.out.trans (HG.out.alloc _)⟩
                          · by_cases g2 : 8 < pa
                            · have HF := hid (HNo.out (fun hm => by
                                have := HMh.out hm
                                rw [show Mt.headOk ⟨po, pa, pt, code⟩ i = false by simp only [Mt.headOk, Mt.outerOk]; rw [if_neg (show ¬ i = 0 by omega)]; simp; omega] at this
                                cases this))
                              clear HMc HMh
                              go_wp2_with fail
                              go_ret
                              exact ⟨congrArg (fun z => Ending.returned (.bool z)) HF.out.symm, HG1.out.trans (HG.out.alloc _)⟩
                            · by_cases g3 : pt < pa
                              · have HF := hid (HNo.out (fun hm => by
                                  have := HMh.out hm
                                  rw [show Mt.headOk ⟨po, pa, pt, code⟩ i = false by simp only [Mt.headOk, Mt.outerOk]; rw [if_neg (show ¬ i = 0 by omega)]; simp; omega] at this
                                  cases this))
                                clear HMc HMh
                                go_wp2_with fail
                                go_ret
                                exact ⟨congrArg (fun z => Ending.returned (.bool z)) HF.out.symm, HG1.out.trans (HG.out.alloc _)⟩
                              · by_cases g4 : 16 < pt
                                · have HF := hid (HNo.out (fun hm => by
                                    have := HMh.out hm
                                    rw [show Mt.headOk ⟨po, pa, pt, code⟩ i = false by simp only [Mt.headOk, Mt.outerOk]; rw [if_neg (show ¬ i = 0 by omega)]; simp; omega] at this
                                    cases this))
                                  clear HMc HMh
                                  go_wp2_with fail
                                  go_ret
                                  exact ⟨congrArg (fun z => Ending.returned (.bool z)) HF.out.symm, HG1.out.trans (HG.out.alloc _)⟩
                                · have HHd : Hid (HeadsTo vs (i + 1)) := hid (fun j y hj hy => by
                                    rcases Nat.lt_or_ge j i with h1 | h1
                                    · exact HH.out j y h1 hy
                                    · obtain rfl : j = i := by omega
                                      rw [HVi.out] at hy
                                      obtain rfl := Option.some.inj hy
                                      simp only [Mt.headOk, Mt.outerOk]
                                      rw [if_neg (show ¬ j = 0 by omega)]
                                      simp
                                      omega)
                                  clear HMh
                                  have hcap := HPo.out.2.1
                                  have hfew := HPo.out.2.2.2
                                  have HDp := hid (fun (W2 : World) (hg : Grew wr W2) => rdepths_c Ac cc code W2 (HPo.out.1.grew hg) hcap (by omega))
                                  have HDc := hid (fun (W2 : World) (hg : Grew wr W2) => rdecode_c Ac cc code W2 (HPo.out.1.grew hg) hcap (by omega))
                                  have HBx := hid (Blk.new wr 61 #[.int .i64 po, .int .i64 pa, .int .i64 pt, .slice Ac code.length cc])
                                  have HGx := hid ((Grew.refl wr).alloc (.cells #[.int .i64 po, .int .i64 pa, .int .i64 pt, .slice Ac code.length cc] 61))
                                  have HBn : Hid (∀ k, Fl.Bad code k → b = false) := hid (fun k hk => HNo.out (fun hm => by
                                    obtain ⟨l', os', G', D', h1, _⟩ := HMc.out hm
                                    exact hk.not_well h1))
                                  have HWl : Hid (∀ L os G D, Fl.Well code L os G D → L.all (fun o => Mt.fits M i o vars classes) = true → CodesTo M vs (i + 1) vars classes) := hid (fun L os G D hw hf j y hj hy => by
                                    rcases Nat.lt_or_ge j i with h1 | h1
                                    · exact HC.out j y h1 hy
                                    · obtain rfl : j = i := by omega
                                      rw [HVi.out] at hy
                                      obtain rfl := Option.some.inj hy
                                      exact ⟨L, os, G, D, hw, hf⟩)
                                  have HWn : Hid (∀ L os G D, Fl.Well code L os G D → ∀ o ∈ L, Mt.fits M i o vars classes = false → b = false) := hid (fun L os G D hw o ho hf => HNo.out (fun hm => by
                                    obtain ⟨l', os', G', D', h1, h2⟩ := HMc.out hm
                                    obtain ⟨rfl, _⟩ := hw.uniq h1
                                    have := List.all_eq_true.1 h2 o ho
                                    rw [hf] at this
                                    cases this))
                                  have HVl : Hid (∀ L os G D, Fl.Well code L os G D → (∀ o ∈ L, Op7.valid o) ∧ L.length ≤ 512 ∧ Op7.decR code = (L, os, 0)) := hid (fun L os G D hw => ⟨(decR_ok HPo.out.1.1 hw.dec).2.1, (hw.few HPo.out.1.1).2, hw.dec⟩)
                                  clear hcap hfew
                                  generalize code.length = cl at *
                                  go_wp2_with fail
                                  refine (HDp.out _ HGx.out).mono ?_
                                  clear q0 q1 q2 q3
                                  rintro e w3 (⟨k, rfl, hbad, hg3⟩ | ⟨A3, m3, c3, L, os, GG, DD, rfl, hwell, hg3⟩)
                                  · have HF := hid (HBn.out k hbad)
                                    have e0 : (((k : Nat) : Int) != 0) = true := by rw [bne, beq_eq_false_iff_ne.2 (by have := hbad.ne; omega)]; rfl
                                    have HG3 := hid (HG.out.trans (HGx.out.trans hg3))
                                    clear hbad hg3
                                    go_wp2_with fail
                                    go_ret
                                    exact ⟨congrArg (fun z => Ending.returned (.bool z)) HF.out.symm, HG1.out.trans HG3.out⟩
                                  · have HG3 := hid (HGx.out.trans hg3)
                                    have d3 := (HBx.out.grew hg3).cell 3
                                    simp only [List.getElem?_toArray, List.getElem?_cons_zero, List.getElem?_cons_succ] at d3
                                    obtain ⟨hval, hlen, hdec⟩ := HVl.out L os GG DD hwell
                                    have HDe := hid (HDc.out w3 HG3.out)
                                    rw [hdec] at HDe
                                    have HVal := hid hval
                                    have HWell := hid hwell
                                    clear hval hdec hwell hg3
                                    go_wp2_with fail
                                    refine HDe.out.mono ?_
                                    rintro e w4 ⟨B1, d1, B2, d2, L', rfl, hL, hI, _, hg4⟩
                                    simp only at hL
                                    subst hL
                                    have HOp := hid (RowI.ops hI)
                                    have HG4 := hid (HG.out.trans (HG3.out.trans hg4))
                                    obtain ⟨ln, hln⟩ : ∃ ln, ln = L'.length := ⟨_, rfl⟩
                                    rw [← hln] at hlen ⊢
                                    have HLn := hid hln
                                    clear hln hI hg4 d3 HDp HDc HDe HBx HGx HBn HVl
                                    go_wp2_with fail
                                    go_loopw [17] (fun s17 wr => ∃ k : Nat, s17 = .int .i64 ((k : Nat) : Int) ∧ k ≤ ln ∧ Grew w4 wr ∧ Hid (FitsTo M i L' vars classes k)) (fun s17 _ => ln - (intOf s17).toNat)
                                    case atStart => exact ⟨0, rfl, Nat.zero_le _, Grew.refl _, hid (fun j x hj => by omega)⟩
                                    case round =>
                                      obtain ⟨k, rfl, hk, hgx, HK⟩ := hrel
                                      have HGy := hid hgx
                                      clear hgx
                                      by_cases hkl : k < ln
                                      · have f9 : (k : Int) < ln := by omega
                                        obtain ⟨ad2, rfl, hb2, hc2⟩ := HOp.out.2 (by rw [← HLn.out]; omega)
                                        obtain ⟨o, ho⟩ : ∃ o, L'[k]? = some o := ⟨_, List.getElem?_eq_getElem (show k < L'.length by rw [← HLn.out]; exact hkl)⟩
                                        obtain ⟨y0, y1, y2⟩ := op_cell (o := o) (i := k) (ad := ad2) (w := wr) (fun j u hu => by
                                          rw [HGy.out.below.cell (by rw [block_add]; exact hb2)]; exact hc2 k o ho j u hu)
                                        have hom := List.mem_of_getElem? ho
                                        have hof := valid_fit (HVal.out o hom)
                                        have hoa : 0 ≤ o.a ∧ o.a ≤ 1000000 := by
                                          obtain ⟨_, ⟨a0, a1⟩, _⟩ := HVal.out o hom
                                          have hw := Op7.wid_le o.code
                                          have e1 : ((256 : Int) ^ (Op7.wid o.code).1) ≤ 256 ^ 2 := by
                                            rcases (by omega : (Op7.wid o.code).1 = 0 ∨ (Op7.wid o.code).1 = 1 ∨ (Op7.wid o.code).1 = 2) with e | e | e <;> rw [e] <;> decide
                                          exact ⟨a0, by omega⟩
                                        have hob : 0 ≤ o.b ∧ o.b ≤ 1000000 := ⟨hof.2.1, by omega⟩
                                        have HGz := hid (HG4.out.trans HGy.out)
                                        obtain ⟨z0, z1, z2⟩ := mvc HBk.out HGz.out
                                        have HFit := hid (show ∀ (w' : World), Grew wr w' → Calls Tryz.prog 40 #[.agg #[.string s, .slice A1 n1 c1, .slice (some ad) n2 c2], .int .i64 ((i : Nat) : Int), .agg #[.int .u8 ((o.code : Nat) : Int), .int .i64 o.a, .int .i64 o.b], .int .i64 vars, .int .i64 classes] w' (fun e w'' => e = .returned (.bool (Mt.fits M i o vars classes)) ∧ ∃ y : After wr, w'' = y.w) from fun w' hg => by
                                          have hq := rfits_c (sel := s) (c1 := c1) (c2 := c2) (vars := vars) (classes := classes) (oa := o.a) (ob := o.b) (⟨HML.out.grew (HGz.out.trans hg), HMP.out.grew (HGz.out.trans hg), HN1.out, HN2.out, HLits.out, HHd.out, hlt, hoa, hob⟩ : RfIn w' l vs A1 (some ad) n1 n2 i o.a o.b) o.code
                                          have hM : Mt.fits ⟨s, l, vs.map (·.p)⟩ i ⟨o.code, o.a, o.b⟩ vars classes = Mt.fits M i o vars classes := by rw [HMe.out]
                                          rw [hM] at hq
                                          exact Calls.after hg hq)
                                        have HFs : Hid (Mt.fits M i o vars classes = true → FitsTo M i L' vars classes (k + 1)) := hid (fun hf j x hj hx => by
                                          rcases Nat.lt_or_ge j k with h1 | h1
                                          · exact HK.out j x h1 hx
                                          · obtain rfl : j = k := by omega
                                            rw [ho] at hx
                                            obtain rfl := Option.some.inj hx
                                            exact hf)
                                        have HFn := hid (HWn.out _ _ _ _ HWell.out o hom)
                                        generalize Mt.fits M i o vars classes = bq at *
                                        have lz := (HBk.out.grew HGz.out).lt
                                        have l2 : ad2.block < wr.heap.size := Nat.lt_of_lt_of_le hb2 HGy.out.below.size
                                        clear hc2 ho hom hof hoa hob
                                        obtain ⟨cd, oa, ob⟩ := o
                                        simp only at y0 y1 y2 HFit
                                        go_wp2_with fail
                                        refine wp_region_grew_from (Grew.refl _) (by kernel_rfl) (by kernel_rfl) ?_
                                        repeat (go_big_quiet_step ((go_at_call 40; exact HFit.out _ (After.grew _))))
                                        refine wpQuiet_nil ?_
                                        rintro _ ⟨y5, rfl⟩
                                        clear y0 y1 y2 z0 z1 z2 lz l2
                                        cases bq
                                        · have HF := hid (HFn.out rfl)
                                          go_wp2_with fail
                                          go_ret
                                          exact ⟨congrArg (fun z => Ending.returned (.bool z)) HF.out.symm, HG1.out.trans (HGz.out.trans y5.grew)⟩
                                        · replace HFs := hid (HFs.out rfl)
                                          go_wp2_with fail
                                          go_round
                                          case rel => exact ⟨k + 1, by go_num, by omega, HGy.out.trans y5.grew, HFs⟩
                                          case measure => simp [intOf]; omega
                                      · obtain rfl : k = ln := by omega
                                        have hfa := fits_all (m := M) (p := i) (l := L') (vars := vars) (classes := classes) (by rw [← HLn.out]; exact HK.out)
                                        have HCs := hid (HWl.out _ _ _ _ HWell.out hfa)
                                        clear hfa
                                        go_wp2_with fail
                                        go_round
                                        case rel => exact ⟨i + 1, by go_num, by omega, HG4.out.trans HGy.out, hid ⟨HHd.out, HCs.out⟩⟩
                                        case measure => simp [intOf]; omega
                  · obtain rfl : i = n2 := by omega
                    have HF := hid (HBt.out (by have := HI.out.1; rwa [HN2.out] at this ⊢) (by have := HI.out.2; rwa [HN2.out] at this ⊢))
                    go_wp2_with fail
                    go_ret
                    exact ⟨congrArg (fun z => Ending.returned (.bool z)) HF.out.symm, HG1.out.trans HG.out⟩
          · have HF := hid (HNo.out (fun hm => har (HArgs.out hm v0 HV0.out)))
            have e1 : (v0.p.args != ((na : Nat) : Int)) = true := by rw [bne_iff_ne]; exact har
            clear har HOf HArgs HHead HCode
            subst hW
            go_enter Tryz.func15, Tryz.ntmps15
            go_wp2_with fail
            refine HA.out.mono ?_
            rintro e w1 ⟨kk, rfl, hkk, rfl⟩
            rw [hkk na rfl]
            clear hkk
            go_wp2_with fail
            go_ret
            exact ⟨congrArg (fun z => Ending.returned (.bool z)) HF.out.symm, HG1.out⟩
        · have HF := hid (HNo.out (fun hm => hp2 (HFew.out hm).2.2))
          have f3 : (64 : Int) < (n2 : Int) := by omega
          clear HOf HArgs HHead HCode hp2
          obtain ⟨z0, z1, z2⟩ := mvc HBk.out (Grew.refl W)
          subst hW
          go_enter Tryz.func15, Tryz.ntmps15
          go_wp2_with fail
          refine HA.out.mono ?_
          rintro e w1 ⟨kk, rfl, hkk, rfl⟩
          rw [hkk na rfl]
          clear hkk
          go_wp2_with fail
          go_ret
          exact ⟨congrArg (fun z => Ending.returned (.bool z)) HF.out.symm, HG1.out⟩
      · have HF := hid (HNo.out (fun hm => hp1 (HFew.out hm).2.1))
        have f2 : (n2 : Int) < 1 := by omega
        clear HOf HArgs HHead HCode hp1
        obtain ⟨z0, z1, z2⟩ := mvc HBk.out (Grew.refl W)
        subst hW
        go_enter Tryz.func15, Tryz.ntmps15
        go_wp2_with fail
        refine HA.out.mono ?_
        rintro e w1 ⟨kk, rfl, hkk, rfl⟩
        rw [hkk na rfl]
        clear hkk
        go_wp2_with fail
        go_ret
        exact ⟨congrArg (fun z => Ending.returned (.bool z)) HF.out.symm, HG1.out⟩
    · have HF := hid (HNo.out (fun hm => h64 (HFew.out hm).1))
      have f1 : (64 : Int) < (n1 : Int) := by omega
      clear HOf HArgs HHead HCode h64
      obtain ⟨z0, z1, z2⟩ := mvc HBk.out (Grew.refl W)
      subst hW
      go_enter Tryz.func15, Tryz.ntmps15
      go_wp2_with fail
      refine HA.out.mono ?_
      rintro e w1 ⟨kk, rfl, hkk, rfl⟩
      rw [hkk na rfl]
      clear hkk
      go_wp2_with fail
      go_ret
      exact ⟨congrArg (fun z => Ending.returned (.bool z)) HF.out.symm, HG1.out⟩
end Go.Proofs.YtjdgcgpidhljpaaGreatDoor

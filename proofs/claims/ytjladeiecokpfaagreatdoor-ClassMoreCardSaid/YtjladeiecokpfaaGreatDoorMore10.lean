/- ClassMore: the law's walk. -/
import Derived.Test.YtjladeiecokpfaaGreatDoorMg51
namespace Go.Proofs.YtjladeiecokpfaaGreatDoor
open Go.RowKit

set_option maxRecDepth 100000 in
set_option maxHeartbeats 16000000 in
theorem more10_walk (A : Option Addr) (cap : Nat) (l : List CV) (A2 : Option Addr) (c2 : Nat) (ms : List MV) (a : Nat) (w : World) (ha : a < 256) (h : ClsArg w A l) (h2 : MethsArg w A2 ms) (hh : HandleAt w) (hE : Env w) :
    Calls Tryz.prog 5 #[.slice A l.length cap, .slice A2 ms.length c2, .int .u8 ((a : Nat) : Int)] w (yes10 w) := by
  have HS := hid (fun (w' : World) (hg : Grew w w') => (show Calls Tryz.prog 8 #[] w' fun e w'' => e = .returned (.bool true) ∧ Grew w' w'' from sure10_c w' (hh.grew hg) (hE.grew hg)))
  obtain ⟨bb, hbb⟩ : ∃ d : Bool, d = true ↔ BigC l ms := ⟨tru _, tru_iff _⟩
  have HBg := hid (bigClasses_c A cap l A2 c2 ms bb hbb w h h2)
  have HGc := hid (fun (hn : ¬ BigC l ms) (w' : World) (hg : Grew w w') => giveClasses_c A cap l w' ((h.fit hn).grew hg))
  have HGm := hid (fun (hn : ¬ BigC l ms) (w' : World) (hg : Grew w w') => giveMethods_c A2 c2 ms w' ((h2.fit hn).grew hg))
  have HFit := hid (fun (hn : ¬ BigC l ms) => (h.fit hn).fit)
  have HE := hid hE
  have HBb := hid hbb
  have HA := hid ha
  clear h h2 hh hE hbb ha
  generalize l.length = n0 at *
  generalize ms.length = m0 at *
  cases bb
  · have HNb : Hid (¬ BigC l ms) := hid (fun hc => by have := HBb.out.2 hc; cases this)
    clear HBb
    go_enter Tryz.func5, Tryz.ntmps5
    go_wp2_with fail
    refine HBg.out.mono ?_
    rintro e w1 ⟨rfl, hg1⟩
    have HG1 := hid hg1
    clear hg1 HBg
    go_wp2_with fail
    refine (HGc.out HNb.out _ HG1.out).mono ?_
    rintro e w2 ⟨vs, Ax, cx, rfl, hsame, hown, hg2⟩
    have HSame := hid hsame
    have HOwn := hid hown
    have HG2 := hid (HG1.out.trans hg2)
    clear hsame hown hg2 HG1
    go_wp2_with fail
    refine (HGm.out HNb.out _ HG2.out).mono ?_
    rintro e w3 ⟨us, Ay, cy, rfl, hum, hma, hg3⟩
    have HG3 := hid (HG2.out.trans hg3)
    have hfit : ClsFit (cls vs) := by rw [HSame.out]; exact HFit.out HNb.out
    have HGv : Hid (Given w3 l ms Ax cx vs Ay us) := hid ⟨⟨HOwn.out.arg.grew hg3, hfit⟩, HOwn.out.cap, hma, HSame.out, HE.out.grew HG3.out⟩
    obtain ⟨bc, hbc⟩ : ∃ d : Bool, d = true ↔ MayC vs us := ⟨tru _, tru_iff _⟩
    have HCk := hid (ccheck_c Ax cx vs Ay cy us bc hbc w3 HGv.out.cl HGv.out.cap HGv.out.ms HGv.out.env)
    have HBc := hid hbc
    have HMs := hid HGv.out.ms
    clear hum hma hg3 hfit hbc HOwn HSame HG2 HGm
    have hUl : us.length ≤ 100 := HMs.out.len
    obtain ⟨nu, enu⟩ : ∃ nu, nu = us.length := ⟨_, rfl⟩
    rw [← enu] at HCk hUl ⊢
    have ENU := hid enu
    clear enu
    obtain ⟨nv, env⟩ : ∃ nv, nv = vs.length := ⟨_, rfl⟩
    rw [← env] at HCk ⊢
    have ENV := hid env
    clear env
    cases bc
    · rw [show ckVal false = .iface 75 (.int .i64 8) from rfl] at HCk
      go_wp2_with fail
      refine HCk.out.mono ?_
      rintro e w4 ⟨rfl, hg4⟩
      have HG4 := hid (HG3.out.trans hg4)
      clear hg4
      go_wp2_with fail
      refine (HS.out _ HG4.out).mono ?_
      rintro e w5 ⟨rfl, hg5⟩
      have HG5 := hid (HG4.out.trans hg5)
      clear hg5
      go_wp2_with fail
      go_ret
      exact ⟨rfl, HG5.out⟩
    · rw [show ckVal true = .nilIface from rfl] at HCk
      have HMay := hid (HBc.out.1 rfl)
      clear HBc
      have hlen := HMay.out.len
      rw [cls_len, ← ENV.out] at hlen
      by_cases h64 : 64 ≤ nv
      · have f1 : (64 : Int) ≤ ((nv : Nat) : Int) := by omega
        go_wp2_with fail
        refine HCk.out.mono ?_
        rintro e w4 ⟨rfl, hg4⟩
        have HG4 := hid (HG3.out.trans hg4)
        clear hg4
        go_wp2_with fail
        refine (HS.out _ HG4.out).mono ?_
        rintro e w5 ⟨rfl, hg5⟩
        have HG5 := hid (HG4.out.trans hg5)
        clear hg5
        go_wp2_with fail
        go_ret
        exact ⟨rfl, HG5.out⟩
      · have f1 : ¬ (64 : Int) ≤ ((nv : Nat) : Int) := by omega
        obtain ⟨k, hk⟩ : ∃ k, k = a % nv := ⟨_, rfl⟩
        have hkn : k < nv := by rw [hk]; exact Nat.mod_lt _ (by omega)
        have HTM := hid (show (((a : Nat) : Int).tmod ((nv : Nat) : Int)) = ((k : Nat) : Int) by rw [hk]; rfl)
        have HTM2 := hid (show (((a : Nat) : Int) % ((nv : Nat) : Int)) = ((k : Nat) : Int) by rw [hk]; rfl)
        have hn0 : ¬ nv = 0 := by omega
        have hn64 : nv < 64 := by omega
        have HX := hid (show Given w3 l ms Ax cx vs Ay us ∧ MayC vs us from ⟨HGv.out, HMay.out⟩)
        have hw0 : IntKind.i64.wrap ((a : Nat) : Int) = ((a : Nat) : Int) := IntWalk.i64_in _ (by have := HA.out; omega)
        clear HGv HMay hk h64
        have t1 := HTM.out
        have t2 := HTM2.out
        by_cases h11 : k < 11
        · have g1 : ((k : Nat) : Int) < 11 := by omega
          have HU0 := hid (show 0 < nv ∧ (0 = 0 ∨ 11 ≤ 0) from ⟨by omega, .inl rfl⟩)
          clear h11
          go_wp2_with fail
          refine HCk.out.mono ?_
          rintro e w4 ⟨rfl, hg4⟩
          have HG34 := hid hg4
          have HG4 := hid (HG3.out.trans hg4)
          clear hg4 HCk
          go_wp2_with fail
          refine (HGc.out HNb.out _ HG4.out).mono ?_
          rintro e w5 ⟨vz, Az0, cz0, rfl, hsame, hown, hg5⟩
          have HSz := hid hsame
          have HOz := hid hown
          have HG35 := hid (HG34.out.trans hg5)
          have HG45 := hid hg5
          have hzl : vz.length = nv := by
            rw [← cls_len vz, hsame, ← HX.out.1.same, cls_len, ENV.out]
          rw [hzl] at HOz ⊢
          have HBase := hid (show w4.heap.size ≤ w5.heap.size from hg5.below.size)
          have HFr := hid (fun (w' : World) (hg : Grew w5 w') => fresh_c Ax cx vs w' (HX.out.1.cl.grew (HG35.out.trans hg)) (by rw [← ENV.out]; exact hn64))
          rw [← ENV.out] at HFr
          clear hsame hown hg5 hzl g1 t1 t2 f1
          go_wp2_with fail
          refine (HFr.out _ (Grew.refl _)).mono ?_
          rintro e w6 ⟨s, rfl, hs1, hs2, hg6⟩
          have HS1 := hid hs1
          have HS2 := hid hs2
          have HG56 := hid hg6
          clear hs1 hs2 hg6 HFr
          obtain ⟨h6, hh6⟩ : ∃ h6, h6 = w6.heap.size := ⟨_, rfl⟩
          obtain ⟨W7, hW7⟩ : ∃ W7, W7 = w6.alloc (.cells #[.string s, .int .i64 0, .slice none 0 0, .slice none 0 0] 60) := ⟨_, rfl⟩
          have g7 : Grew w6 W7 := by rw [hW7]; exact (Grew.refl w6).alloc _
          have b7 : Blk W7 h6 60 #[.string s, .int .i64 0, .slice none 0 0, .slice none 0 0] := by rw [hW7, hh6]; exact Blk.new w6 _ _
          have HG57 := hid (HG56.out.trans g7)
          have HB7 := hid b7
          have HW7 := hid hW7
          have HH6 := hid hh6
          have HO7 := hid (HOz.out.grew HG57.out)
          have HBs7 := hid (show w4.heap.size ≤ W7.heap.size from Nat.le_trans HBase.out HG57.out.below.size)
          clear g7 b7 hW7 hh6 HOz
          go_wp2_with (at_builtin; rw [← HH6.out, ← HW7.out]; refine wpList_catR (.agg #[.string ⟨#[]⟩, .int .i64 0, .slice none 0 0, .slice none 0 0]) 4 72 W7 rfl _ _ 28 60 rfl Tryz.underlying28 class_info rfl (by decide) w4.heap.size HBs7.out Az0 nv cz0 _ rfl HO7.out.row (some ⟨h6, 0, none⟩) 1 1 [.string s, .int .i64 0, .slice none 0 0, .slice none 0 0] rfl rfl (cvF_one ⟨⟨s, 0, [], []⟩, none, 0, none, 0⟩) (by intro e; cases e) (blk_row HB7.out) (by omega) (by omega) ?_; rintro A8 k8 w8 hR8 hK8 hT8; have HR8 := hid hR8; have HK8 := hid hK8; have HT8 := hid hT8; clear hR8 hK8 hT8)
          have hzo := HO7.out.app (y := ⟨⟨s, 0, [], []⟩, none, 0, none, 0⟩) HR8.out HK8.out HT8.out ⟨strs_nil _ _, ints_nil _ _, (by constructor <;> omega : Vi.I64 0), Nat.le_refl _, Nat.le_refl _⟩ (fun ad e => by rcases e with e | e <;> cases e)
          have hg48 : Grew w4 w8 := HK8.out.grew (HG45.out.trans HG57.out) (Row.at_base HO7.out.row)
          have hg38 := HG34.out.trans hg48
          obtain ⟨r, hmo⟩ := more_facts (cy := cy) (cz := k8) (u := 0) (U := 0) (s := s) (HX.out.1.grew hg38) HX.out.2 rfl (by rw [← ENV.out]; exact HU0.out.1) (by first | exact .inl rfl | exact HU0.out.2) (by rw [← ENV.out]; exact hn64) (by rw [cls_snoc, HSz.out]) HS1.out (by rw [← HX.out.1.same]; exact HS2.out) hzo.arg (by rw [← hzo.len]; exact hzo.cap)
          rw [← ENV.out, ← ENU.out] at hmo
          have HMo := hid hmo
          have HM8 := hid (HMs.out.grew hg38)
          have HG8 := hid (HG3.out.trans hg38)
          clear hzo hg48 hg38 hmo HR8 HK8 HT8 HO7 HB7 HW7 HH6 HG57 HG56 HG35 HG34 HG45 HS1 HS2 HSz HX HMs HBs7 HBase
          refine HMo.out.check.mono ?_
          rintro e w9 ⟨rfl, hg9⟩
          have HG9 := hid hg9
          clear hg9
          go_wp2_with fail
          refine (HMo.out.under _ HG9.out).mono ?_
          rintro e w10 ⟨rfl, hg10⟩
          have HG10 := hid (HG9.out.trans hg10)
          clear hg10
          go_wp2_with fail
          refine (HMo.out.nz _ HG10.out).mono ?_
          rintro e w11 ⟨B1, d1, rfl, hr1, hg11⟩
          have HG11 := hid (HG10.out.trans hg11)
          have HR1 := hid (row_strs hr1 rfl)
          obtain ⟨nr, enr⟩ : ∃ nr, nr = r.length := ⟨_, rfl⟩
          rw [← enr]
          have ENR := hid enr
          clear hr1 hg11 enr
          go_wp2_with fail
          refine (HMo.out.nx _ HG11.out).mono ?_
          rintro e w12 ⟨B2, d2, rfl, hr2, hg12⟩
          have HG12 := hid (HG11.out.trans hg12)
          have HT := hid (texts_c B1 d1 r B2 d2 r w12 (HR1.out.grew hg12) (row_strs hr2 rfl) HMo.out.few HMo.out.few)
          rw [decide_eq_true (rfl : r = r), ← ENR.out] at HT
          rw [← ENR.out]
          clear hr2 hg12 HR1
          go_wp2_with fail
          refine HT.out.mono ?_
          rintro e w13 ⟨rfl, hg13⟩
          have HG13 := hid (HG12.out.trans hg13)
          clear hg13 HT
          go_wp2_with fail
          refine (HMo.out.kz _ HG13.out).mono ?_
          rintro e w14 ⟨rfl, hg14⟩
          have HG14 := hid (HG13.out.trans hg14)
          rw [← ENR.out]
          clear hg14
          go_wp2_with fail
          refine (HMo.out.kx _ HG14.out).mono ?_
          rintro e w15 ⟨rfl, hg15⟩
          have HG15 := hid (HG14.out.trans hg15)
          rw [← ENR.out]
          clear hg15 HG9 HG10 HG11 HG12 HG13 HG14
          go_wp2_with fail
          go_loopw [12, 13, 14, 15, 16] (fun s12 _ _ _ _ wr => ∃ i : Nat, s12 = .int .i64 ((i : Nat) : Int) ∧ i ≤ nu ∧ Hid (Grew w8 wr)) (fun s12 _ _ _ _ _ => nu - (intOf s12).toNat)
          case atStart => exact ⟨0, rfl, Nat.zero_le _, HG15⟩
          case round =>
            obtain ⟨i, rfl, hi, HG⟩ := hrel
            by_cases hlt : i < nu
            · have f1 : (i : Int) < ((nu : Nat) : Int) := by omega
              obtain ⟨ad, u, rfl, hu, m0, -, -, ml, -⟩ := meth_at HM8.out HG.out (i := i) (by rw [← ENU.out]; exact hlt)
              have HUu := hid hu
              obtain ⟨d, b, hf1, hf2⟩ := HMo.out.finds u.sel
              have HF1 := hid (hf1 _ HG.out)
              have HF2 := hid hf2
              clear hu hf1 hf2
              go_wp2_with fail
              refine HF1.out.mono ?_
              rintro e wa ⟨rfl, hga⟩
              have HGa := hid (HG.out.trans hga)
              clear hga m0 ml HF1
              obtain ⟨m0, -, -, ml, -⟩ := meth_get HM8.out HGa.out HUu.out
              go_wp2_with fail
              refine (HF2.out _ HGa.out).mono ?_
              rintro e wb ⟨rfl, hgb⟩
              have HGb := hid (HGa.out.trans hgb)
              clear hgb m0 ml HF2
              go_wp2_with fail
              go_roundw
              case rel => exact ⟨i + 1, by go_num, by omega, HGb⟩
              case measure => simp [intOf]; omega
            · have f1 : ¬ (i : Int) < ((nu : Nat) : Int) := by omega
              go_wp2_with fail
              refine (HS.out _ (HG8.out.trans HG.out)).mono ?_
              rintro e w16 ⟨rfl, hg16⟩
              have HG16 := hid (HG8.out.trans (HG.out.trans hg16))
              clear hg16
              go_wp2_with fail
              go_ret
              exact ⟨rfl, HG16.out⟩
        · have g1 : ¬ ((k : Nat) : Int) < 11 := by omega
          have HU0 := hid (show k < nv ∧ (k = 0 ∨ 11 ≤ k) from ⟨hkn, .inr (by omega)⟩)
          clear h11
          go_wp2_with fail
          refine HCk.out.mono ?_
          rintro e w4 ⟨rfl, hg4⟩
          have HG34 := hid hg4
          have HG4 := hid (HG3.out.trans hg4)
          clear hg4 HCk
          go_wp2_with fail
          refine (HGc.out HNb.out _ HG4.out).mono ?_
          rintro e w5 ⟨vz, Az0, cz0, rfl, hsame, hown, hg5⟩
          have HSz := hid hsame
          have HOz := hid hown
          have HG35 := hid (HG34.out.trans hg5)
          have HG45 := hid hg5
          have hzl : vz.length = nv := by
            rw [← cls_len vz, hsame, ← HX.out.1.same, cls_len, ENV.out]
          rw [hzl] at HOz ⊢
          have HBase := hid (show w4.heap.size ≤ w5.heap.size from hg5.below.size)
          have HFr := hid (fun (w' : World) (hg : Grew w5 w') => fresh_c Ax cx vs w' (HX.out.1.cl.grew (HG35.out.trans hg)) (by rw [← ENV.out]; exact hn64))
          rw [← ENV.out] at HFr
          clear hsame hown hg5 hzl g1 t1 t2 f1
          go_wp2_with fail
          refine (HFr.out _ (Grew.refl _)).mono ?_
          rintro e w6 ⟨s, rfl, hs1, hs2, hg6⟩
          have HS1 := hid hs1
          have HS2 := hid hs2
          have HG56 := hid hg6
          clear hs1 hs2 hg6 HFr
          obtain ⟨h6, hh6⟩ : ∃ h6, h6 = w6.heap.size := ⟨_, rfl⟩
          obtain ⟨W7, hW7⟩ : ∃ W7, W7 = w6.alloc (.cells #[.string s, .int .i64 ((k : Nat) : Int), .slice none 0 0, .slice none 0 0] 60) := ⟨_, rfl⟩
          have g7 : Grew w6 W7 := by rw [hW7]; exact (Grew.refl w6).alloc _
          have b7 : Blk W7 h6 60 #[.string s, .int .i64 ((k : Nat) : Int), .slice none 0 0, .slice none 0 0] := by rw [hW7, hh6]; exact Blk.new w6 _ _
          have HG57 := hid (HG56.out.trans g7)
          have HB7 := hid b7
          have HW7 := hid hW7
          have HH6 := hid hh6
          have HO7 := hid (HOz.out.grew HG57.out)
          have HBs7 := hid (show w4.heap.size ≤ W7.heap.size from Nat.le_trans HBase.out HG57.out.below.size)
          clear g7 b7 hW7 hh6 HOz
          go_wp2_with (at_builtin; rw [← HH6.out, ← HW7.out]; refine wpList_catR (.agg #[.string ⟨#[]⟩, .int .i64 0, .slice none 0 0, .slice none 0 0]) 4 72 W7 rfl _ _ 28 60 rfl Tryz.underlying28 class_info rfl (by decide) w4.heap.size HBs7.out Az0 nv cz0 _ rfl HO7.out.row (some ⟨h6, 0, none⟩) 1 1 [.string s, .int .i64 ((k : Nat) : Int), .slice none 0 0, .slice none 0 0] rfl rfl (cvF_one ⟨⟨s, ((k : Nat) : Int), [], []⟩, none, 0, none, 0⟩) (by intro e; cases e) (blk_row HB7.out) (by omega) (by omega) ?_; rintro A8 k8 w8 hR8 hK8 hT8; have HR8 := hid hR8; have HK8 := hid hK8; have HT8 := hid hT8; clear hR8 hK8 hT8)
          have hzo := HO7.out.app (y := ⟨⟨s, ((k : Nat) : Int), [], []⟩, none, 0, none, 0⟩) HR8.out HK8.out HT8.out ⟨strs_nil _ _, ints_nil _ _, (by constructor <;> omega : Vi.I64 ((k : Nat) : Int)), Nat.le_refl _, Nat.le_refl _⟩ (fun ad e => by rcases e with e | e <;> cases e)
          have hg48 : Grew w4 w8 := HK8.out.grew (HG45.out.trans HG57.out) (Row.at_base HO7.out.row)
          have hg38 := HG34.out.trans hg48
          obtain ⟨r, hmo⟩ := more_facts (cy := cy) (cz := k8) (u := k) (U := ((k : Nat) : Int)) (s := s) (HX.out.1.grew hg38) HX.out.2 rfl (by rw [← ENV.out]; exact HU0.out.1) (by first | exact .inl rfl | exact HU0.out.2) (by rw [← ENV.out]; exact hn64) (by rw [cls_snoc, HSz.out]) HS1.out (by rw [← HX.out.1.same]; exact HS2.out) hzo.arg (by rw [← hzo.len]; exact hzo.cap)
          rw [← ENV.out, ← ENU.out] at hmo
          have HMo := hid hmo
          have HM8 := hid (HMs.out.grew hg38)
          have HG8 := hid (HG3.out.trans hg38)
          clear hzo hg48 hg38 hmo HR8 HK8 HT8 HO7 HB7 HW7 HH6 HG57 HG56 HG35 HG34 HG45 HS1 HS2 HSz HX HMs HBs7 HBase
          refine HMo.out.check.mono ?_
          rintro e w9 ⟨rfl, hg9⟩
          have HG9 := hid hg9
          clear hg9
          go_wp2_with fail
          refine (HMo.out.under _ HG9.out).mono ?_
          rintro e w10 ⟨rfl, hg10⟩
          have HG10 := hid (HG9.out.trans hg10)
          clear hg10
          go_wp2_with fail
          refine (HMo.out.nz _ HG10.out).mono ?_
          rintro e w11 ⟨B1, d1, rfl, hr1, hg11⟩
          have HG11 := hid (HG10.out.trans hg11)
          have HR1 := hid (row_strs hr1 rfl)
          obtain ⟨nr, enr⟩ : ∃ nr, nr = r.length := ⟨_, rfl⟩
          rw [← enr]
          have ENR := hid enr
          clear hr1 hg11 enr
          go_wp2_with fail
          refine (HMo.out.nx _ HG11.out).mono ?_
          rintro e w12 ⟨B2, d2, rfl, hr2, hg12⟩
          have HG12 := hid (HG11.out.trans hg12)
          have HT := hid (texts_c B1 d1 r B2 d2 r w12 (HR1.out.grew hg12) (row_strs hr2 rfl) HMo.out.few HMo.out.few)
          rw [decide_eq_true (rfl : r = r), ← ENR.out] at HT
          rw [← ENR.out]
          clear hr2 hg12 HR1
          go_wp2_with fail
          refine HT.out.mono ?_
          rintro e w13 ⟨rfl, hg13⟩
          have HG13 := hid (HG12.out.trans hg13)
          clear hg13 HT
          go_wp2_with fail
          refine (HMo.out.kz _ HG13.out).mono ?_
          rintro e w14 ⟨rfl, hg14⟩
          have HG14 := hid (HG13.out.trans hg14)
          rw [← ENR.out]
          clear hg14
          go_wp2_with fail
          refine (HMo.out.kx _ HG14.out).mono ?_
          rintro e w15 ⟨rfl, hg15⟩
          have HG15 := hid (HG14.out.trans hg15)
          rw [← ENR.out]
          clear hg15 HG9 HG10 HG11 HG12 HG13 HG14
          go_wp2_with fail
          go_loopw [12, 13, 14, 15, 16] (fun s12 _ _ _ _ wr => ∃ i : Nat, s12 = .int .i64 ((i : Nat) : Int) ∧ i ≤ nu ∧ Hid (Grew w8 wr)) (fun s12 _ _ _ _ _ => nu - (intOf s12).toNat)
          case atStart => exact ⟨0, rfl, Nat.zero_le _, HG15⟩
          case round =>
            obtain ⟨i, rfl, hi, HG⟩ := hrel
            by_cases hlt : i < nu
            · have f1 : (i : Int) < ((nu : Nat) : Int) := by omega
              obtain ⟨ad, u, rfl, hu, m0, -, -, ml, -⟩ := meth_at HM8.out HG.out (i := i) (by rw [← ENU.out]; exact hlt)
              have HUu := hid hu
              obtain ⟨d, b, hf1, hf2⟩ := HMo.out.finds u.sel
              have HF1 := hid (hf1 _ HG.out)
              have HF2 := hid hf2
              clear hu hf1 hf2
              go_wp2_with fail
              refine HF1.out.mono ?_
              rintro e wa ⟨rfl, hga⟩
              have HGa := hid (HG.out.trans hga)
              clear hga m0 ml HF1
              obtain ⟨m0, -, -, ml, -⟩ := meth_get HM8.out HGa.out HUu.out
              go_wp2_with fail
              refine (HF2.out _ HGa.out).mono ?_
              rintro e wb ⟨rfl, hgb⟩
              have HGb := hid (HGa.out.trans hgb)
              clear hgb m0 ml HF2
              go_wp2_with fail
              go_roundw
              case rel => exact ⟨i + 1, by go_num, by omega, HGb⟩
              case measure => simp [intOf]; omega
            · have f1 : ¬ (i : Int) < ((nu : Nat) : Int) := by omega
              go_wp2_with fail
              refine (HS.out _ (HG8.out.trans HG.out)).mono ?_
              rintro e w16 ⟨rfl, hg16⟩
              have HG16 := hid (HG8.out.trans (HG.out.trans hg16))
              clear hg16
              go_wp2_with fail
              go_ret
              exact ⟨rfl, HG16.out⟩
  · clear HBb
    go_enter Tryz.func5, Tryz.ntmps5
    go_wp2_with fail
    refine HBg.out.mono ?_
    rintro e w1 ⟨rfl, hg1⟩
    have HG1 := hid hg1
    clear hg1
    go_wp2_with fail
    refine (HS.out _ HG1.out).mono ?_
    rintro e w2 ⟨rfl, hg2⟩
    have HG2 := hid (HG1.out.trans hg2)
    clear hg2
    go_wp2_with fail
    go_ret
    exact ⟨rfl, HG2.out⟩
end Go.Proofs.YtjladeiecokpfaaGreatDoor

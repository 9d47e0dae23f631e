/- LatticeLaws: for every list of bytes and every three bytes the law returns true, and nothing that was there is changed. Conditions: none of ours. -/
import Derived.Test.YthdgjalbkeccoaaDoorSure01
import Derived.Test.YthdgjalbkeccoaaDoorLatMath3
namespace Go.Proofs.YthdgjalbkeccoaaDoor
open Go.RowKit

set_option maxHeartbeats 16000000 in
set_option maxRecDepth 100000 in
theorem laws_walk (A : Option Addr) (c : Nat) (up : List Nat) (x0 x1 x2 : Nat) (w : World) (hx0 : x0 < 256) (hx1 : x1 < 256) (hx2 : x2 < 256) (h : BytesAt w w.heap.size A up) (hlen : (up.length : Int) ≤ 140737488351232) (hg : HandleAt w) :
    Calls Tryd.prog 4 #[.slice A up.length c, .agg #[.int .u8 x0, .int .u8 x1, .int .u8 x2]] w fun e w' => e = .returned (.bool true) ∧ Grew w w' := by
  have h1 := hid (h.grew ((Grew.refl w).alloc (.cells #[.int .u8 x0, .int .u8 x1, .int .u8 x2] 37)))
  have Hg := hid hg
  clear h hg
  by_cases h20 : up.length ≤ 20
  · have h20' : (up.length : Int) ≤ 20 := by omega
    cases hv : La.valid up
    · have Hv := hid hv
      clear hv
      go_enter Tryd.func4, Tryd.ntmps4
      go_wp2_with (at_builtin; refine wpList_copy_bytes (w.alloc (.cells #[.int .u8 x0, .int .u8 x1, .int .u8 x2] 37)) rfl _ _ 23 5 rfl Tryd.underlying23 info_u8 A c up _ (World.size_alloc _ _) (by rfl) (by rfl) h1.out (by omega) ?_; rintro A' c' W1 hA hW1; have HA := hid hA; have HW1 := hid hW1; clear hA hW1)
      have hc := check_c A' c' up (W1.alloc (.cells #[.slice A' up.length c'] 25)) h20 (HA.out.grew ((Grew.refl _).alloc _))
      rw [Hv.out, if_neg (by simp), show errVal 7 = .iface 41 (.int .i64 7) from rfl] at hc
      refine hc.mono ?_
      clear hc
      rintro e w2 ⟨rfl, z1, rfl⟩
      go_wp2_with fail
      refine (Calls.grew z1.grew (sure_c _ (Hg.out.grew ((((Grew.refl _).alloc _).trans HW1.out).trans (((Grew.refl _).alloc _).trans z1.grew))))).mono ?_
      rintro e w3 ⟨rfl, z2, rfl⟩
      go_wp2_with fail
      go_ret
      exact ⟨rfl, (((Grew.refl _).alloc _).trans HW1.out).trans (((Grew.refl _).alloc _).trans z2.grew)⟩
    · have Hv := hid hv
      have L := La.lattice_of_valid h1.out.1 hv
      have hpos : 0 < up.length := L.pos
      obtain ⟨a, ha, ea⟩ := La.mod_nat x0 up.length hpos
      obtain ⟨b, hb, eb⟩ := La.mod_nat x1 up.length hpos
      obtain ⟨d, hd, ed⟩ := La.mod_nat x2 up.length hpos
      have hpos' : (0 : Int) < (up.length : Int) := by omega
      have hne0 : ((up.length : Int) == 0) = false := by rw [beq_eq_false_iff_ne]; omega
      obtain ⟨j, hj⟩ := L.joins a b ha hb
      obtain ⟨m, hm⟩ := La.meets L a b ha hb
      have hml : m < up.length := (La.meet_le L.toOrd ha hb hm).1
      obtain ⟨e1, he1⟩ := L.joins b d hb hd
      obtain ⟨t1, ht1⟩ := L.joins j d hj.1 hd
      obtain ⟨f1, hf1⟩ := La.meets L b d hb hd
      have hfl : f1 < up.length := (La.meet_le L.toOrd hb hd hf1).1
      obtain ⟨s1, hs1⟩ := La.meets L m d hml hd
      obtain ⟨z0, hz0, Ez, hzl⟩ := La.bottom_val L hv
      obtain ⟨t0, ht0, Et, htl⟩ := La.top_val L hv
      have Ej := hid (La.joinOf_is L hv ha hb hj)
      have Em := hid (La.meetOf_is L hv ha hb hm)
      have Ejb := hid (La.joinOf_is L hv hb ha hj.comm)
      have Emb := hid (La.meetOf_is L hv hb ha hm.comm)
      have Ejt := hid (La.joinOf_is L hv hj.1 hd ht1)
      have Ebe := hid (La.joinOf_is L hv hb hd he1)
      have Eae := hid (La.joinOf_is L hv ha he1.1 (hj.assoc he1 ht1))
      have Ems := hid (La.meetOf_is L hv hml hd hs1)
      have Ebf := hid (La.meetOf_is L hv hb hd hf1)
      have Eaf := hid (La.meetOf_is L hv ha hfl (hm.assoc hf1 hs1))
      have Eaa := hid (La.joinOf_is L hv ha ha (La.IsJoin.idem ha))
      have Eam := hid (La.meetOf_is L hv ha ha (La.IsJoin.idem (by rw [La.flip_length]; exact ha)))
      have Ejm := hid (La.joinOf_is L hv ha hml (La.absorb_join L.toOrd ha hb hm))
      have Emj := hid (La.meetOf_is L hv ha hj.1 (La.absorb_meet L.toOrd ha hj))
      have Eab := hid (La.leq_nat hv ha hb)
      have Eza := hid ((La.leq_nat hv hz0 ha).trans (hzl a ha))
      have Eat := hid ((La.leq_nat hv ha ht0).trans (htl a ha))
      have Elj := hid ((La.leq_nat hv ha hj.1).trans (La.le_join L.toOrd hj).1)
      have Elm := hid ((La.leq_nat hv hml hb).trans (La.meet_le L.toOrd ha hb hm).2.2)
      have Pj := hid (La.leq_join L.toOrd ha hb hj)
      have Pm := hid (La.leq_meet L.toOrd ha hb hm)
      have EZ := hid Ez
      have ET := hid Et
      generalize La.low up a b = p at *
      clear hj hm he1 ht1 hf1 hs1 hzl htl hml hfl hz0 ht0 Ez Et
      clear L hv
      go_enter Tryd.func4, Tryd.ntmps4
      go_wp2_with (at_builtin; refine wpList_copy_bytes (w.alloc (.cells #[.int .u8 x0, .int .u8 x1, .int .u8 x2] 37)) rfl _ _ 23 5 rfl Tryd.underlying23 info_u8 A c up _ (World.size_alloc _ _) (by rfl) (by rfl) h1.out (by omega) ?_; rintro A' c' W1 hA hW1; have HA := hid hA; have HW1 := hid hW1; clear hA hW1)
      have hc := check_c A' c' up (W1.alloc (.cells #[.slice A' up.length c'] 25)) h20 (HA.out.grew ((Grew.refl _).alloc _))
      rw [Hv.out, if_pos rfl, show errVal 0 = .nilIface from rfl] at hc
      refine hc.mono ?_
      clear hc
      rintro e w2 ⟨rfl, z1, rfl⟩
      have HA2 := hid (HA.out.grew ((Grew.refl _).alloc (.cells #[.slice A' up.length c'] 25)))
      have Hg2 := hid (Hg.out.grew ((((Grew.refl _).alloc _).trans HW1.out).alloc (.cells #[.slice A' up.length c'] 25)))
      have GG := hid ((((Grew.refl w).alloc _).trans HW1.out).alloc (.cells #[.slice A' up.length c'] 25))
      have lb : w.heap.size < W1.heap.size := by have := HW1.out.below.size; simp at this; omega
      have lb' : w.heap.size ≤ W1.heap.size := by omega
      have c0 : W1.cell? ⟨w.heap.size, 0, none⟩ = some (.int .u8 x0) := by rw [HW1.out.below.cell (by simp)]; simp
      have c1 : W1.cell? ⟨w.heap.size, 1, none⟩ = some (.int .u8 x1) := by rw [HW1.out.below.cell (by simp)]; simp
      have c2 : W1.cell? ⟨w.heap.size, 2, none⟩ = some (.int .u8 x2) := by rw [HW1.out.below.cell (by simp)]; simp
      go_wp2_with fail
      refine wp_region_grew_from z1.grew (by kernel_rfl) (by kernel_rfl) ?_
      repeat (go_big_quiet_step (fail))
      refine wpQuiet_nil ?_
      rintro _ ⟨y, rfl⟩
      clear c0 c1 c2
      have f_cell : (W1.alloc (.cells #[.slice A' up.length c'] 25)).cell? ⟨W1.heap.size, 0, none⟩ = some (.slice A' up.length c') := by simp
      have f_lt : W1.heap.size < (W1.alloc (.cells #[.slice A' up.length c'] 25)).heap.size := by simp
      have GW := hid (Grew.refl (W1.alloc (.cells #[.slice A' up.length c'] 25)))
      have Hsure := hid (fun (W : World) (hW : Grew (W1.alloc (.cells #[.slice A' up.length c'] 25)) W) => Calls.after hW (sure_c W (Hg2.out.grew hW)))
      have Cj := hid (fun (W : World) (hW : Grew (W1.alloc (.cells #[.slice A' up.length c'] 25)) W) => Calls.after hW (join_c A' c' up (a : Int) (b : Int) W h20 (HA2.out.grew hW)))
      rw [Ej.out] at Cj
      have Cm := hid (fun (W : World) (hW : Grew (W1.alloc (.cells #[.slice A' up.length c'] 25)) W) => Calls.after hW (meet_c A' c' up (a : Int) (b : Int) W h20 (HA2.out.grew hW)))
      rw [Em.out] at Cm
      have Cjb := hid (fun (W : World) (hW : Grew (W1.alloc (.cells #[.slice A' up.length c'] 25)) W) => Calls.after hW (join_c A' c' up (b : Int) (a : Int) W h20 (HA2.out.grew hW)))
      rw [Ejb.out] at Cjb
      have Cmb := hid (fun (W : World) (hW : Grew (W1.alloc (.cells #[.slice A' up.length c'] 25)) W) => Calls.after hW (meet_c A' c' up (b : Int) (a : Int) W h20 (HA2.out.grew hW)))
      rw [Emb.out] at Cmb
      have Cjt := hid (fun (W : World) (hW : Grew (W1.alloc (.cells #[.slice A' up.length c'] 25)) W) => Calls.after hW (join_c A' c' up (j : Int) (d : Int) W h20 (HA2.out.grew hW)))
      rw [Ejt.out] at Cjt
      have Cbe := hid (fun (W : World) (hW : Grew (W1.alloc (.cells #[.slice A' up.length c'] 25)) W) => Calls.after hW (join_c A' c' up (b : Int) (d : Int) W h20 (HA2.out.grew hW)))
      rw [Ebe.out] at Cbe
      have Cae := hid (fun (W : World) (hW : Grew (W1.alloc (.cells #[.slice A' up.length c'] 25)) W) => Calls.after hW (join_c A' c' up (a : Int) (e1 : Int) W h20 (HA2.out.grew hW)))
      rw [Eae.out] at Cae
      have Cms := hid (fun (W : World) (hW : Grew (W1.alloc (.cells #[.slice A' up.length c'] 25)) W) => Calls.after hW (meet_c A' c' up (m : Int) (d : Int) W h20 (HA2.out.grew hW)))
      rw [Ems.out] at Cms
      have Cbf := hid (fun (W : World) (hW : Grew (W1.alloc (.cells #[.slice A' up.length c'] 25)) W) => Calls.after hW (meet_c A' c' up (b : Int) (d : Int) W h20 (HA2.out.grew hW)))
      rw [Ebf.out] at Cbf
      have Caf := hid (fun (W : World) (hW : Grew (W1.alloc (.cells #[.slice A' up.length c'] 25)) W) => Calls.after hW (meet_c A' c' up (a : Int) (f1 : Int) W h20 (HA2.out.grew hW)))
      rw [Eaf.out] at Caf
      have Caa := hid (fun (W : World) (hW : Grew (W1.alloc (.cells #[.slice A' up.length c'] 25)) W) => Calls.after hW (join_c A' c' up (a : Int) (a : Int) W h20 (HA2.out.grew hW)))
      rw [Eaa.out] at Caa
      have Cam := hid (fun (W : World) (hW : Grew (W1.alloc (.cells #[.slice A' up.length c'] 25)) W) => Calls.after hW (meet_c A' c' up (a : Int) (a : Int) W h20 (HA2.out.grew hW)))
      rw [Eam.out] at Cam
      have Cjm := hid (fun (W : World) (hW : Grew (W1.alloc (.cells #[.slice A' up.length c'] 25)) W) => Calls.after hW (join_c A' c' up (a : Int) (m : Int) W h20 (HA2.out.grew hW)))
      rw [Ejm.out] at Cjm
      have Cmj := hid (fun (W : World) (hW : Grew (W1.alloc (.cells #[.slice A' up.length c'] 25)) W) => Calls.after hW (meet_c A' c' up (a : Int) (j : Int) W h20 (HA2.out.grew hW)))
      rw [Emj.out] at Cmj
      have Cab := hid (fun (W : World) (hW : Grew (W1.alloc (.cells #[.slice A' up.length c'] 25)) W) => Calls.after hW (leq_c A' c' up (a : Int) (b : Int) W h20 (HA2.out.grew hW)))
      rw [Eab.out] at Cab
      have Cza := hid (fun (W : World) (hW : Grew (W1.alloc (.cells #[.slice A' up.length c'] 25)) W) => Calls.after hW (leq_c A' c' up (z0 : Int) (a : Int) W h20 (HA2.out.grew hW)))
      rw [Eza.out] at Cza
      have Cat := hid (fun (W : World) (hW : Grew (W1.alloc (.cells #[.slice A' up.length c'] 25)) W) => Calls.after hW (leq_c A' c' up (a : Int) (t0 : Int) W h20 (HA2.out.grew hW)))
      rw [Eat.out] at Cat
      have Clj := hid (fun (W : World) (hW : Grew (W1.alloc (.cells #[.slice A' up.length c'] 25)) W) => Calls.after hW (leq_c A' c' up (a : Int) (j : Int) W h20 (HA2.out.grew hW)))
      rw [Elj.out] at Clj
      have Clm := hid (fun (W : World) (hW : Grew (W1.alloc (.cells #[.slice A' up.length c'] 25)) W) => Calls.after hW (leq_c A' c' up (m : Int) (b : Int) W h20 (HA2.out.grew hW)))
      rw [Elm.out] at Clm
      have Cbot := hid (fun (W : World) (hW : Grew (W1.alloc (.cells #[.slice A' up.length c'] 25)) W) => Calls.after hW (bottom_c A' c' up W h20 (HA2.out.grew hW)))
      rw [EZ.out] at Cbot
      have Ctop := hid (fun (W : World) (hW : Grew (W1.alloc (.cells #[.slice A' up.length c'] 25)) W) => Calls.after hW (top_c A' c' up W h20 (HA2.out.grew hW)))
      rw [ET.out] at Ctop
      clear Ej Em Ejb Emb Ejt Ebe Eae Ems Ebf Eaf Eaa Eam Ejm Emj Eab Eza Eat Elj Elm EZ ET
      have rj : ((j : Int) == (b : Int)) = p := by rw [Pj.out, Bool.eq_iff_iff, beq_iff_eq, decide_eq_true_iff]; omega
      have rm : ((m : Int) == (a : Int)) = p := by rw [Pm.out, Bool.eq_iff_iff, beq_iff_eq, decide_eq_true_iff]; omega
      clear Pj Pm
      go_wp2_with fail
      refine wp_region_grew_from (After.grew _) (by kernel_rfl) (by kernel_rfl) ?_
      repeat (go_big_quiet_step ((first | (go_at_call 15; with_reducible exact Cj.out _ (After.grew _)) | (go_at_call 16; with_reducible exact Cm.out _ (After.grew _)) | (go_at_call 15; with_reducible exact Cjb.out _ (After.grew _)) | (go_at_call 16; with_reducible exact Cmb.out _ (After.grew _)) | (go_at_call 15; with_reducible exact Cjt.out _ (After.grew _)) | (go_at_call 15; with_reducible exact Cbe.out _ (After.grew _)) | (go_at_call 15; with_reducible exact Cae.out _ (After.grew _)) | (go_at_call 16; with_reducible exact Cms.out _ (After.grew _)) | (go_at_call 16; with_reducible exact Cbf.out _ (After.grew _)) | (go_at_call 16; with_reducible exact Caf.out _ (After.grew _)) | (go_at_call 15; with_reducible exact Caa.out _ (After.grew _)) | (go_at_call 16; with_reducible exact Cam.out _ (After.grew _)) | (go_at_call 15; with_reducible exact Cjm.out _ (After.grew _)) | (go_at_call 16; with_reducible exact Cmj.out _ (After.grew _)) | (go_at_call 12; with_reducible exact Cab.out _ (After.grew _)) | (go_at_call 12; with_reducible exact Cza.out _ (After.grew _)) | (go_at_call 12; with_reducible exact Cat.out _ (After.grew _)) | (go_at_call 12; with_reducible exact Clj.out _ (After.grew _)) | (go_at_call 12; with_reducible exact Clm.out _ (After.grew _)) | (go_at_call 13; with_reducible exact Cbot.out _ (After.grew _)) | (go_at_call 14; with_reducible exact Ctop.out _ (After.grew _)) | (go_at_call 10; with_reducible exact Hsure.out _ (After.grew _)))))
      refine wpQuiet_nil ?_
      rintro _ ⟨y, rfl⟩
      go_wp2_with fail
      refine wp_region_grew_from (After.grew _) (by kernel_rfl) (by kernel_rfl) ?_
      repeat (go_big_quiet_step ((first | (go_at_call 15; with_reducible exact Cj.out _ (After.grew _)) | (go_at_call 16; with_reducible exact Cm.out _ (After.grew _)) | (go_at_call 15; with_reducible exact Cjb.out _ (After.grew _)) | (go_at_call 16; with_reducible exact Cmb.out _ (After.grew _)) | (go_at_call 15; with_reducible exact Cjt.out _ (After.grew _)) | (go_at_call 15; with_reducible exact Cbe.out _ (After.grew _)) | (go_at_call 15; with_reducible exact Cae.out _ (After.grew _)) | (go_at_call 16; with_reducible exact Cms.out _ (After.grew _)) | (go_at_call 16; with_reducible exact Cbf.out _ (After.grew _)) | (go_at_call 16; with_reducible exact Caf.out _ (After.grew _)) | (go_at_call 15; with_reducible exact Caa.out _ (After.grew _)) | (go_at_call 16; with_reducible exact Cam.out _ (After.grew _)) | (go_at_call 15; with_reducible exact Cjm.out _ (After.grew _)) | (go_at_call 16; with_reducible exact Cmj.out _ (After.grew _)) | (go_at_call 12; with_reducible exact Cab.out _ (After.grew _)) | (go_at_call 12; with_reducible exact Cza.out _ (After.grew _)) | (go_at_call 12; with_reducible exact Cat.out _ (After.grew _)) | (go_at_call 12; with_reducible exact Clj.out _ (After.grew _)) | (go_at_call 12; with_reducible exact Clm.out _ (After.grew _)) | (go_at_call 13; with_reducible exact Cbot.out _ (After.grew _)) | (go_at_call 14; with_reducible exact Ctop.out _ (After.grew _)) | (go_at_call 10; with_reducible exact Hsure.out _ (After.grew _)))))
      refine wpQuiet_nil ?_
      rintro _ ⟨y, rfl⟩
      go_wp2_with fail
      cases p
      all_goals
        refine wp_region_grew_from (After.grew _) (by kernel_rfl) (by kernel_rfl) ?_
        repeat (go_big_quiet_step ((first | (go_at_call 15; with_reducible exact Cj.out _ (After.grew _)) | (go_at_call 16; with_reducible exact Cm.out _ (After.grew _)) | (go_at_call 15; with_reducible exact Cjb.out _ (After.grew _)) | (go_at_call 16; with_reducible exact Cmb.out _ (After.grew _)) | (go_at_call 15; with_reducible exact Cjt.out _ (After.grew _)) | (go_at_call 15; with_reducible exact Cbe.out _ (After.grew _)) | (go_at_call 15; with_reducible exact Cae.out _ (After.grew _)) | (go_at_call 16; with_reducible exact Cms.out _ (After.grew _)) | (go_at_call 16; with_reducible exact Cbf.out _ (After.grew _)) | (go_at_call 16; with_reducible exact Caf.out _ (After.grew _)) | (go_at_call 15; with_reducible exact Caa.out _ (After.grew _)) | (go_at_call 16; with_reducible exact Cam.out _ (After.grew _)) | (go_at_call 15; with_reducible exact Cjm.out _ (After.grew _)) | (go_at_call 16; with_reducible exact Cmj.out _ (After.grew _)) | (go_at_call 12; with_reducible exact Cab.out _ (After.grew _)) | (go_at_call 12; with_reducible exact Cza.out _ (After.grew _)) | (go_at_call 12; with_reducible exact Cat.out _ (After.grew _)) | (go_at_call 12; with_reducible exact Clj.out _ (After.grew _)) | (go_at_call 12; with_reducible exact Clm.out _ (After.grew _)) | (go_at_call 13; with_reducible exact Cbot.out _ (After.grew _)) | (go_at_call 14; with_reducible exact Ctop.out _ (After.grew _)) | (go_at_call 10; with_reducible exact Hsure.out _ (After.grew _)))))
        refine wpQuiet_nil ?_
        rintro _ ⟨y, rfl⟩
        go_wp2_with fail
        go_ret
        exact ⟨rfl, GG.out.trans (After.grew _)⟩
  · have h20' : ¬ (up.length : Int) ≤ 20 := by omega
    have h20'' : (20 : Int) < (up.length : Int) := by omega
    go_enter Tryd.func4, Tryd.ntmps4
    go_wp2_with (at_builtin; refine wpList_copy_bytes (w.alloc (.cells #[.int .u8 x0, .int .u8 x1, .int .u8 x2] 37)) rfl _ _ 23 5 rfl Tryd.underlying23 info_u8 A c up _ (World.size_alloc _ _) (by rfl) (by rfl) h1.out (by omega) ?_; rintro A' c' W1 hA hW1; have HA := hid hA; have HW1 := hid hW1; clear hA hW1)
    refine (sure_c _ (Hg.out.grew ((((Grew.refl _).alloc _).trans HW1.out).alloc _))).mono ?_
    rintro e w2 ⟨rfl, z1, rfl⟩
    go_wp2_with fail
    go_ret
    exact ⟨rfl, (((Grew.refl _).alloc _).trans HW1.out).trans (((Grew.refl _).alloc _).trans z1.grew)⟩
end Go.Proofs.YthdgjalbkeccoaaDoor

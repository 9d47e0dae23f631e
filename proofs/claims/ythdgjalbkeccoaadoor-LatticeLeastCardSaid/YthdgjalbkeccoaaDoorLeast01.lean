/- LatticeLeast: for every list of bytes and every three bytes the law returns true, and nothing that was there is changed. Conditions: none of ours. -/
import Derived.Test.YthdgjalbkeccoaaDoorSure01
import Derived.Test.YthdgjalbkeccoaaDoorLatMath2
namespace Go.Proofs.YthdgjalbkeccoaaDoor
open Go.RowKit

set_option maxHeartbeats 8000000 in
set_option maxRecDepth 100000 in
theorem least_walk (A : Option Addr) (c : Nat) (up : List Nat) (x0 x1 x2 : Nat) (w : World) (hx0 : x0 < 256) (hx1 : x1 < 256) (hx2 : x2 < 256) (h : BytesAt w w.heap.size A up) (hlen : (up.length : Int) ≤ 140737488351232) (hg : HandleAt w) :
    Calls Tryd.prog 5 #[.slice A up.length c, .agg #[.int .u8 x0, .int .u8 x1, .int .u8 x2]] w fun e w' => e = .returned (.bool true) ∧ Grew w w' := by
  have h1 := hid (h.grew ((Grew.refl w).alloc (.cells #[.int .u8 x0, .int .u8 x1, .int .u8 x2] 37)))
  have Hg := hid hg
  clear h hg
  by_cases h20 : up.length ≤ 20
  · have h20' : (up.length : Int) ≤ 20 := by omega
    cases hv : La.valid up
    · have Hv := hid hv
      clear hv
      go_enter Tryd.func5, Tryd.ntmps5
      go_wp2_with (at_builtin; refine wpList_copy_bytes (w.alloc (.cells #[.int .u8 x0, .int .u8 x1, .int .u8 x2] 37)) rfl _ _ 23 5 rfl Tryd.underlying23 info_u8 A c up _ (World.size_alloc _ _) (by rfl) (by rfl) h1.out (by omega) ?_; rintro A' c' W1 hA hW1; have HA := hid hA; have HW1 := hid hW1; clear hA hW1)
      have hc := check_c A' c' up (W1.alloc (.cells #[.slice A' up.length c'] 25)) h20 (HA.out.grew ((Grew.refl _).alloc _))
      rw [Hv.out, if_neg (by simp), show errVal 7 = .iface 41 (.int .i64 7) from rfl] at hc
      refine hc.mono ?_
      clear hc
      rintro e w2 ⟨rfl, z1, rfl⟩
      go_wp2_with fail
      refine (Calls.grew z1.grew (sure_c _ (Hg.out.grew ((((Grew.refl _).alloc _).trans HW1.out).trans (((Grew.refl _).alloc _).trans z1.grew))))).mono ?_
      rintro e w3 ⟨rfl, z2, rfl⟩
      go_wp2_with fail
      go_ret
      exact ⟨rfl, (((Grew.refl _).alloc _).trans HW1.out).trans (((Grew.refl _).alloc _).trans z2.grew)⟩
    · have Hv := hid hv
      have L := La.lattice_of_valid h1.out.1 hv
      have hpos : 0 < up.length := L.pos
      obtain ⟨a, ha, ea⟩ := La.mod_nat x0 up.length hpos
      obtain ⟨b, hb, eb⟩ := La.mod_nat x1 up.length hpos
      obtain ⟨d, hd, ed⟩ := La.mod_nat x2 up.length hpos
      have hpos' : (0 : Int) < (up.length : Int) := by omega
      have hne0 : ((up.length : Int) == 0) = false := by rw [beq_eq_false_iff_ne]; omega
      obtain ⟨j, hj⟩ := L.joins a b ha hb
      obtain ⟨m, hm⟩ := La.meets L a b ha hb
      have hml : m < up.length := by have := hm.1; rwa [La.flip_length] at this
      have Ead := hid (La.leq_nat hv ha hd)
      have Ebd := hid (La.leq_nat hv hb hd)
      have Eda := hid (La.leq_nat hv hd ha)
      have Edb := hid (La.leq_nat hv hd hb)
      have Ejd := hid (La.leq_nat hv hj.1 hd)
      have Edm := hid (La.leq_nat hv hd hml)
      have Ej := hid ((La.joinOf_nat hv ha hb).trans (La.join_eq L.toOrd ha hj))
      have Em := hid ((La.meetOf_nat hv ha hb).trans (La.join_eq (La.ord_flip L.toOrd) (by rw [La.flip_length]; exact ha) hm))
      have Sj := hid (hj.2 d hd)
      have Sm := hid (La.meet_iff hml ha hb hd hm)
      generalize La.low up a d = p at *
      generalize La.low up b d = q at *
      generalize La.low up d a = r at *
      generalize La.low up d b = s at *
      generalize La.low up j d = t at *
      generalize La.low up d m = u at *
      clear hj hm
      clear L hv
      go_enter Tryd.func5, Tryd.ntmps5
      go_wp2_with (at_builtin; refine wpList_copy_bytes (w.alloc (.cells #[.int .u8 x0, .int .u8 x1, .int .u8 x2] 37)) rfl _ _ 23 5 rfl Tryd.underlying23 info_u8 A c up _ (World.size_alloc _ _) (by rfl) (by rfl) h1.out (by omega) ?_; rintro A' c' W1 hA hW1; have HA := hid hA; have HW1 := hid hW1; clear hA hW1)
      have hc := check_c A' c' up (W1.alloc (.cells #[.slice A' up.length c'] 25)) h20 (HA.out.grew ((Grew.refl _).alloc _))
      rw [Hv.out, if_pos rfl, show errVal 0 = .nilIface from rfl] at hc
      refine hc.mono ?_
      clear hc
      rintro e w2 ⟨rfl, z1, rfl⟩
      have HA2 := hid (HA.out.grew ((Grew.refl _).alloc (.cells #[.slice A' up.length c'] 25)))
      have Hg2 := hid (Hg.out.grew ((((Grew.refl _).alloc _).trans HW1.out).alloc (.cells #[.slice A' up.length c'] 25)))
      have GG := hid ((((Grew.refl w).alloc _).trans HW1.out).alloc (.cells #[.slice A' up.length c'] 25))
      have lb : w.heap.size < W1.heap.size := by have := HW1.out.below.size; simp at this; omega
      have lb' : w.heap.size ≤ W1.heap.size := by omega
      have c0 : W1.cell? ⟨w.heap.size, 0, none⟩ = some (.int .u8 x0) := by rw [HW1.out.below.cell (by simp)]; simp
      have c1 : W1.cell? ⟨w.heap.size, 1, none⟩ = some (.int .u8 x1) := by rw [HW1.out.below.cell (by simp)]; simp
      have c2 : W1.cell? ⟨w.heap.size, 2, none⟩ = some (.int .u8 x2) := by rw [HW1.out.below.cell (by simp)]; simp
      go_wp2_with fail
      refine wp_region_grew_from z1.grew (by kernel_rfl) (by kernel_rfl) ?_
      repeat (go_big_quiet_step (fail))
      refine wpQuiet_nil ?_
      rintro _ ⟨y, rfl⟩
      clear c0 c1 c2
      have f_cell : (W1.alloc (.cells #[.slice A' up.length c'] 25)).cell? ⟨W1.heap.size, 0, none⟩ = some (.slice A' up.length c') := by simp
      have f_lt : W1.heap.size < (W1.alloc (.cells #[.slice A' up.length c'] 25)).heap.size := by simp
      have GW := hid (Grew.refl (W1.alloc (.cells #[.slice A' up.length c'] 25)))
      have Hsure := hid (fun (W : World) (hW : Grew (W1.alloc (.cells #[.slice A' up.length c'] 25)) W) => Calls.after hW (sure_c W (Hg2.out.grew hW)))
      have Cad := hid (fun (W : World) (hW : Grew (W1.alloc (.cells #[.slice A' up.length c'] 25)) W) => Calls.after hW (leq_c A' c' up (a : Int) (d : Int) W h20 (HA2.out.grew hW)))
      rw [Ead.out] at Cad
      have Cbd := hid (fun (W : World) (hW : Grew (W1.alloc (.cells #[.slice A' up.length c'] 25)) W) => Calls.after hW (leq_c A' c' up (b : Int) (d : Int) W h20 (HA2.out.grew hW)))
      rw [Ebd.out] at Cbd
      have Cda := hid (fun (W : World) (hW : Grew (W1.alloc (.cells #[.slice A' up.length c'] 25)) W) => Calls.after hW (leq_c A' c' up (d : Int) (a : Int) W h20 (HA2.out.grew hW)))
      rw [Eda.out] at Cda
      have Cdb := hid (fun (W : World) (hW : Grew (W1.alloc (.cells #[.slice A' up.length c'] 25)) W) => Calls.after hW (leq_c A' c' up (d : Int) (b : Int) W h20 (HA2.out.grew hW)))
      rw [Edb.out] at Cdb
      have Cjd := hid (fun (W : World) (hW : Grew (W1.alloc (.cells #[.slice A' up.length c'] 25)) W) => Calls.after hW (leq_c A' c' up (j : Int) (d : Int) W h20 (HA2.out.grew hW)))
      rw [Ejd.out] at Cjd
      have Cdm := hid (fun (W : World) (hW : Grew (W1.alloc (.cells #[.slice A' up.length c'] 25)) W) => Calls.after hW (leq_c A' c' up (d : Int) (m : Int) W h20 (HA2.out.grew hW)))
      rw [Edm.out] at Cdm
      have Cj := hid (fun (W : World) (hW : Grew (W1.alloc (.cells #[.slice A' up.length c'] 25)) W) => Calls.after hW (join_c A' c' up (a : Int) (b : Int) W h20 (HA2.out.grew hW)))
      rw [Ej.out] at Cj
      have Cm := hid (fun (W : World) (hW : Grew (W1.alloc (.cells #[.slice A' up.length c'] 25)) W) => Calls.after hW (meet_c A' c' up (a : Int) (b : Int) W h20 (HA2.out.grew hW)))
      rw [Em.out] at Cm
      go_wp2_with fail
      have sj := Sj.out
      have sm := Sm.out
      subst sj
      subst sm
      clear Sj Sm Ead Ebd Eda Edb Ejd Edm Ej Em
      cases p <;> cases q <;> cases r <;> cases s
      all_goals
        refine wp_region_grew_from (After.grew _) (by kernel_rfl) (by kernel_rfl) ?_
        repeat (go_big_quiet_step ((first | (go_at_call 12; with_reducible exact Cad.out _ (After.grew _)) | (go_at_call 12; with_reducible exact Cbd.out _ (After.grew _)) | (go_at_call 12; with_reducible exact Cda.out _ (After.grew _)) | (go_at_call 12; with_reducible exact Cdb.out _ (After.grew _)) | (go_at_call 12; with_reducible exact Cjd.out _ (After.grew _)) | (go_at_call 12; with_reducible exact Cdm.out _ (After.grew _)) | (go_at_call 15; with_reducible exact Cj.out _ (After.grew _)) | (go_at_call 16; with_reducible exact Cm.out _ (After.grew _)) | (go_at_call 10; with_reducible exact Hsure.out _ (After.grew _)))))
        refine wpQuiet_nil ?_
        rintro _ ⟨y, rfl⟩
        go_wp2_with fail
        refine wp_region_grew_from (After.grew _) (by kernel_rfl) (by kernel_rfl) ?_
        repeat (go_big_quiet_step ((first | (go_at_call 12; with_reducible exact Cad.out _ (After.grew _)) | (go_at_call 12; with_reducible exact Cbd.out _ (After.grew _)) | (go_at_call 12; with_reducible exact Cda.out _ (After.grew _)) | (go_at_call 12; with_reducible exact Cdb.out _ (After.grew _)) | (go_at_call 12; with_reducible exact Cjd.out _ (After.grew _)) | (go_at_call 12; with_reducible exact Cdm.out _ (After.grew _)) | (go_at_call 15; with_reducible exact Cj.out _ (After.grew _)) | (go_at_call 16; with_reducible exact Cm.out _ (After.grew _)) | (go_at_call 10; with_reducible exact Hsure.out _ (After.grew _)))))
        refine wpQuiet_nil ?_
        rintro _ ⟨y, rfl⟩
        go_wp2_with fail
        go_ret
        exact ⟨rfl, GG.out.trans (After.grew _)⟩
  · have h20' : ¬ (up.length : Int) ≤ 20 := by omega
    have h20'' : (20 : Int) < (up.length : Int) := by omega
    go_enter Tryd.func5, Tryd.ntmps5
    go_wp2_with (at_builtin; refine wpList_copy_bytes (w.alloc (.cells #[.int .u8 x0, .int .u8 x1, .int .u8 x2] 37)) rfl _ _ 23 5 rfl Tryd.underlying23 info_u8 A c up _ (World.size_alloc _ _) (by rfl) (by rfl) h1.out (by omega) ?_; rintro A' c' W1 hA hW1; have HA := hid hA; have HW1 := hid hW1; clear hA hW1)
    refine (sure_c _ (Hg.out.grew ((((Grew.refl _).alloc _).trans HW1.out).alloc _))).mono ?_
    rintro e w2 ⟨rfl, z1, rfl⟩
    go_wp2_with fail
    go_ret
    exact ⟨rfl, (((Grew.refl _).alloc _).trans HW1.out).trans (((Grew.refl _).alloc _).trans z1.grew)⟩
end Go.Proofs.YthdgjalbkeccoaaDoor

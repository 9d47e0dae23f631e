/- LatticeOrder: for every list of bytes and every three bytes the law returns true, and nothing that was there is changed. Conditions: none of ours. -/
import Derived.Test.YthdgjalbkeccoaaDoorSure01
import Derived.Test.YthdgjalbkeccoaaDoorLatMath2
namespace Go.Proofs.YthdgjalbkeccoaaDoor
open Go.RowKit

set_option maxHeartbeats 8000000 in
theorem order_walk (A : Option Addr) (c : Nat) (up : List Nat) (x0 x1 x2 : Nat) (w : World) (hx0 : x0 < 256) (hx1 : x1 < 256) (hx2 : x2 < 256) (h : BytesAt w w.heap.size A up) (hlen : (up.length : Int) ≤ 140737488351232) (hg : HandleAt w) :
    Calls Tryd.prog 6 #[.slice A up.length c, .agg #[.int .u8 x0, .int .u8 x1, .int .u8 x2]] w fun e w' => e = .returned (.bool true) ∧ Grew w w' := by
  have h1 := hid (h.grew ((Grew.refl w).alloc (.cells #[.int .u8 x0, .int .u8 x1, .int .u8 x2] 37)))
  have Hg := hid hg
  clear h hg
  by_cases h20 : up.length ≤ 20
  · have h20' : (up.length : Int) ≤ 20 := by omega
    cases hv : La.valid up
    · have Hv := hid hv
      clear hv
      go_enter Tryd.func6, Tryd.ntmps6
      go_wp2_with (at_builtin; refine wpList_copy_bytes (w.alloc (.cells #[.int .u8 x0, .int .u8 x1, .int .u8 x2] 37)) rfl _ _ 23 5 rfl Tryd.underlying23 info_u8 A c up _ (World.size_alloc _ _) (by rfl) (by rfl) h1.out (by omega) ?_; rintro A' c' W1 hA hW1; have HA := hid hA; have HW1 := hid hW1; clear hA hW1)
      have hc := check_c A' c' up (W1.alloc (.cells #[.slice A' up.length c'] 25)) h20 (HA.out.grew ((Grew.refl _).alloc _))
      rw [Hv.out, if_neg (by simp), show errVal 7 = .iface 41 (.int .i64 7) from rfl] at hc
      refine hc.mono ?_
      clear hc
      rintro e w2 ⟨rfl, z1, rfl⟩
      go_wp2_with fail
      refine (Calls.grew z1.grew (sure_c _ (Hg.out.grew ((((Grew.refl _).alloc _).trans HW1.out).trans (((Grew.refl _).alloc _).trans z1.grew))))).mono ?_
      rintro e w3 ⟨rfl, z2, rfl⟩
      go_wp2_with fail
      go_ret
      exact ⟨rfl, (((Grew.refl _).alloc _).trans HW1.out).trans (((Grew.refl _).alloc _).trans z2.grew)⟩
    · have Hv := hid hv
      have L := La.lattice_of_valid h1.out.1 hv
      have hpos : 0 < up.length := L.pos
      obtain ⟨a, ha, ea⟩ := La.mod_nat x0 up.length hpos
      obtain ⟨b, hb, eb⟩ := La.mod_nat x1 up.length hpos
      obtain ⟨d, hd, ed⟩ := La.mod_nat x2 up.length hpos
      have e_aa : La.leq up (a : Int) (a : Int) = true := (La.leq_nat hv ha ha).trans (L.refl a ha)
      have e_an : La.leq up (a : Int) (up.length : Int) = false := La.leq_past _
      have e_ma : La.leq up (-1) (a : Int) = false := La.leq_below _
      have f_ab := La.leq_nat hv ha hb
      have f_ba := La.leq_nat hv hb ha
      have f_bd := La.leq_nat hv hb hd
      have f_ad := La.leq_nat hv ha hd
      have anti := L.anti a b ha hb
      have trans := L.trans a b d ha hb hd
      have hpos' : (0 : Int) < (up.length : Int) := by omega
      have hne0 : ((up.length : Int) == 0) = false := by rw [beq_eq_false_iff_ne]; omega
      clear L hv
      generalize La.low up a b = p at *
      generalize La.low up b a = q at *
      generalize La.low up b d = r at *
      generalize La.low up a d = s at *
      have Hanti := hid anti
      have Htrans := hid trans
      have Hab := hid f_ab
      have Hba := hid f_ba
      have Hbd := hid f_bd
      have Had := hid f_ad
      have Haa := hid e_aa
      have Han := hid e_an
      have Hma := hid e_ma
      clear anti trans f_ab f_ba f_bd f_ad e_aa e_an e_ma
      go_enter Tryd.func6, Tryd.ntmps6
      go_wp2_with (at_builtin; refine wpList_copy_bytes (w.alloc (.cells #[.int .u8 x0, .int .u8 x1, .int .u8 x2] 37)) rfl _ _ 23 5 rfl Tryd.underlying23 info_u8 A c up _ (World.size_alloc _ _) (by rfl) (by rfl) h1.out (by omega) ?_; rintro A' c' W1 hA hW1; have HA := hid hA; have HW1 := hid hW1; clear hA hW1)
      have hc := check_c A' c' up (W1.alloc (.cells #[.slice A' up.length c'] 25)) h20 (HA.out.grew ((Grew.refl _).alloc _))
      rw [Hv.out, if_pos rfl, show errVal 0 = .nilIface from rfl] at hc
      refine hc.mono ?_
      clear hc
      rintro e w2 ⟨rfl, z1, rfl⟩
      have HA2 := hid (HA.out.grew ((Grew.refl _).alloc (.cells #[.slice A' up.length c'] 25)))
      have Hg2 := hid (Hg.out.grew ((((Grew.refl _).alloc _).trans HW1.out).alloc (.cells #[.slice A' up.length c'] 25)))
      have GG := hid ((((Grew.refl w).alloc _).trans HW1.out).alloc (.cells #[.slice A' up.length c'] 25))
      have lb : w.heap.size < W1.heap.size := by have := HW1.out.below.size; simp at this; omega
      have lb' : w.heap.size ≤ W1.heap.size := by omega
      have c0 : W1.cell? ⟨w.heap.size, 0, none⟩ = some (.int .u8 x0) := by rw [HW1.out.below.cell (by simp)]; simp
      have c1 : W1.cell? ⟨w.heap.size, 1, none⟩ = some (.int .u8 x1) := by rw [HW1.out.below.cell (by simp)]; simp
      have c2 : W1.cell? ⟨w.heap.size, 2, none⟩ = some (.int .u8 x2) := by rw [HW1.out.below.cell (by simp)]; simp
      go_wp2_with fail
      refine wp_region_grew_from z1.grew (by kernel_rfl) (by kernel_rfl) ?_
      repeat (go_big_quiet_step (fail))
      refine wpQuiet_nil ?_
      rintro _ ⟨y, rfl⟩
      clear c0 c1 c2
      have f_aa := Haa.out
      have f_an := Han.out
      have f_ma := Hma.out
      have l5 : W1.heap.size < y.w.heap.size := by have := y.b.size; simp at this; omega
      have g5 : y.w.cell? ⟨W1.heap.size, 0, none⟩ = some (.slice A' up.length c') := by rw [y.cell _ (by simp)]; simp
      by_cases hab : a = b
      · subst hab
        cases p
        · exact absurd (Hab.out.symm.trans Haa.out) (by simp)
        · cases r <;> cases s
          all_goals
            have f_bd := Hbd.out
            have f_ad := Had.out
            first
              | (exfalso; rw [f_bd] at f_ad; exact Bool.noConfusion f_ad)
              | (go_wp2_with (first
        | (go_at_call 12; refine (Calls.grew (After.grew _) (leq_c A' c' up _ _ _ h20 (HA2.out.grew (After.grew _)))).mono ?_; rintro e w ⟨rfl, z, rfl⟩)
        | (go_at_call 10; refine (Calls.grew (After.grew _) (sure_c _ (Hg2.out.grew (After.grew _)))).mono ?_; rintro e w ⟨rfl, z, rfl⟩))
                 go_ret
                 exact ⟨rfl, GG.out.trans (After.grew _)⟩)
      · have hn1 : ((a : Int) != (b : Int)) = true := by rw [bne_iff_ne]; omega
        cases p <;> cases q <;> cases r <;> cases s
        all_goals first
          | (exfalso; exact hab (Hanti.out rfl rfl))
          | (exfalso; exact Bool.false_ne_true (Htrans.out rfl rfl))
          | (have f_ab := Hab.out
             have f_ba := Hba.out
             have f_bd := Hbd.out
             have f_ad := Had.out
             clear Hanti Htrans hab
             go_wp2_with (first
        | (go_at_call 12; refine (Calls.grew (After.grew _) (leq_c A' c' up _ _ _ h20 (HA2.out.grew (After.grew _)))).mono ?_; rintro e w ⟨rfl, z, rfl⟩)
        | (go_at_call 10; refine (Calls.grew (After.grew _) (sure_c _ (Hg2.out.grew (After.grew _)))).mono ?_; rintro e w ⟨rfl, z, rfl⟩))
             go_ret
             exact ⟨rfl, GG.out.trans (After.grew _)⟩)
  · have h20' : ¬ (up.length : Int) ≤ 20 := by omega
    have h20'' : (20 : Int) < (up.length : Int) := by omega
    go_enter Tryd.func6, Tryd.ntmps6
    go_wp2_with (at_builtin; refine wpList_copy_bytes (w.alloc (.cells #[.int .u8 x0, .int .u8 x1, .int .u8 x2] 37)) rfl _ _ 23 5 rfl Tryd.underlying23 info_u8 A c up _ (World.size_alloc _ _) (by rfl) (by rfl) h1.out (by omega) ?_; rintro A' c' W1 hA hW1; have HA := hid hA; have HW1 := hid hW1; clear hA hW1)
    refine (sure_c _ (Hg.out.grew ((((Grew.refl _).alloc _).trans HW1.out).alloc _))).mono ?_
    rintro e w2 ⟨rfl, z1, rfl⟩
    go_wp2_with fail
    go_ret
    exact ⟨rfl, (((Grew.refl _).alloc _).trans HW1.out).trans (((Grew.refl _).alloc _).trans z1.grew)⟩
end Go.Proofs.YthdgjalbkeccoaaDoor

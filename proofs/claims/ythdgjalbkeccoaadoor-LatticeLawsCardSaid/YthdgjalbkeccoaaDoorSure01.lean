/- The law's own 'sure': what holds of the square, of a chain of three, of a chain of nine and of no level at all. -/
import Derived.Test.YthdgjalbkeccoaaDoorLat4
import Derived.Test.YthdgjalbkeccoaaDoorLawNum01
namespace Go.Proofs.YthdgjalbkeccoaaDoor
open Go.RowKit

theorem sq_check (W : World) (g : Nat) (h : BytesAt W W.heap.size (some ⟨g, 0, none⟩) [15, 10, 12, 8]) :
    Calls Tryd.prog 11 #[.agg #[.slice (some ⟨g, 0, none⟩) 4 4]] W fun e w' => e = .returned .nilIface ∧ Grew W w' := by
  have := check_c (some ⟨g, 0, none⟩) 4 [15, 10, 12, 8] W (by decide) h
  rwa [show errVal (if La.valid [15, 10, 12, 8] then 0 else 7) = .nilIface from by rw [show La.valid [15, 10, 12, 8] = true from by decide +kernel]; rfl] at this
theorem sq_join (W : World) (g : Nat) (h : BytesAt W W.heap.size (some ⟨g, 0, none⟩) [15, 10, 12, 8]) :
    Calls Tryd.prog 15 #[.agg #[.slice (some ⟨g, 0, none⟩) 4 4], .int .i64 1, .int .i64 2] W fun e w' => e = .returned (.int .i64 3) ∧ Grew W w' := by
  have := join_c (some ⟨g, 0, none⟩) 4 [15, 10, 12, 8] 1 2 W (by decide) h
  rwa [show La.joinOf [15, 10, 12, 8] 1 2 = 3 from by decide +kernel] at this
theorem sq_meet (W : World) (g : Nat) (h : BytesAt W W.heap.size (some ⟨g, 0, none⟩) [15, 10, 12, 8]) :
    Calls Tryd.prog 16 #[.agg #[.slice (some ⟨g, 0, none⟩) 4 4], .int .i64 1, .int .i64 2] W fun e w' => e = .returned (.int .i64 0) ∧ Grew W w' := by
  have := meet_c (some ⟨g, 0, none⟩) 4 [15, 10, 12, 8] 1 2 W (by decide) h
  rwa [show La.meetOf [15, 10, 12, 8] 1 2 = 0 from by decide +kernel] at this
theorem sq_leq (W : World) (g : Nat) (h : BytesAt W W.heap.size (some ⟨g, 0, none⟩) [15, 10, 12, 8]) :
    Calls Tryd.prog 12 #[.agg #[.slice (some ⟨g, 0, none⟩) 4 4], .int .i64 0, .int .i64 3] W fun e w' => e = .returned (.bool true) ∧ Grew W w' := by
  have := leq_c (some ⟨g, 0, none⟩) 4 [15, 10, 12, 8] 0 3 W (by decide) h
  rwa [show La.leq [15, 10, 12, 8] 0 3 = true from by decide +kernel] at this
theorem sq_nleq (W : World) (g : Nat) (h : BytesAt W W.heap.size (some ⟨g, 0, none⟩) [15, 10, 12, 8]) :
    Calls Tryd.prog 12 #[.agg #[.slice (some ⟨g, 0, none⟩) 4 4], .int .i64 1, .int .i64 2] W fun e w' => e = .returned (.bool false) ∧ Grew W w' := by
  have := leq_c (some ⟨g, 0, none⟩) 4 [15, 10, 12, 8] 1 2 W (by decide) h
  rwa [show La.leq [15, 10, 12, 8] 1 2 = false from by decide +kernel] at this
theorem sq_bottom (W : World) (g : Nat) (h : BytesAt W W.heap.size (some ⟨g, 0, none⟩) [15, 10, 12, 8]) :
    Calls Tryd.prog 13 #[.agg #[.slice (some ⟨g, 0, none⟩) 4 4]] W fun e w' => e = .returned (.int .i64 0) ∧ Grew W w' := by
  have := bottom_c (some ⟨g, 0, none⟩) 4 [15, 10, 12, 8] W (by decide) h
  rwa [show (if La.valid [15, 10, 12, 8] then La.bottom [15, 10, 12, 8] else 0) = 0 from by decide +kernel] at this
theorem sq_top (W : World) (g : Nat) (h : BytesAt W W.heap.size (some ⟨g, 0, none⟩) [15, 10, 12, 8]) :
    Calls Tryd.prog 14 #[.agg #[.slice (some ⟨g, 0, none⟩) 4 4]] W fun e w' => e = .returned (.int .i64 3) ∧ Grew W w' := by
  have := top_c (some ⟨g, 0, none⟩) 4 [15, 10, 12, 8] W (by decide) h
  rwa [show (if La.valid [15, 10, 12, 8] then La.bottom (La.flip [15, 10, 12, 8]) else 0) = 3 from by decide +kernel] at this
theorem ch_join (W : World) (g : Nat) (h : BytesAt W W.heap.size (some ⟨g, 0, none⟩) [7, 6, 4]) :
    Calls Tryd.prog 15 #[.agg #[.slice (some ⟨g, 0, none⟩) 3 3], .int .i64 0, .int .i64 2] W fun e w' => e = .returned (.int .i64 2) ∧ Grew W w' := by
  have := join_c (some ⟨g, 0, none⟩) 3 [7, 6, 4] 0 2 W (by decide) h
  rwa [show La.joinOf [7, 6, 4] 0 2 = 2 from by decide +kernel] at this
theorem ch_same (W : World) (g : Nat) (h : BytesAt W W.heap.size (some ⟨g, 0, none⟩) [7, 6, 4]) :
    Calls Tryd.prog 17 #[.agg #[.slice (some ⟨g, 0, none⟩) 3 3], .agg #[.slice (some ⟨g, 0, none⟩) 3 3]] W fun e w' => e = .returned (.bool true) ∧ Grew W w' := by
  have := same_c (some ⟨g, 0, none⟩) (some ⟨g, 0, none⟩) 3 3 [7, 6, 4] [7, 6, 4] W h h
  rwa [show ([7, 6, 4] == [7, 6, 4]) = true from by decide] at this
theorem ch_other (W : World) (g g2 : Nat) (h : BytesAt W W.heap.size (some ⟨g, 0, none⟩) [7, 6, 4]) (h2 : BytesAt W W.heap.size (some ⟨g2, 0, none⟩) [15, 10, 12, 8]) :
    Calls Tryd.prog 17 #[.agg #[.slice (some ⟨g, 0, none⟩) 3 3], .agg #[.slice (some ⟨g2, 0, none⟩) 4 4]] W fun e w' => e = .returned (.bool false) ∧ Grew W w' := by
  have := same_c (some ⟨g, 0, none⟩) (some ⟨g2, 0, none⟩) 3 4 [7, 6, 4] [15, 10, 12, 8] W h h2
  rwa [show ([7, 6, 4] == [15, 10, 12, 8]) = false from by decide] at this
theorem no_check (W : World) :
    Calls Tryd.prog 11 #[.agg #[.slice none 0 0]] W fun e w' => e = .returned (.iface 41 (.int .i64 7)) ∧ Grew W w' := by
  have := check_c none 0 [] W (by decide) (BytesAt.nil _ _ _)
  rwa [show errVal (if La.valid [] then 0 else 7) = .iface 41 (.int .i64 7) from by rw [show La.valid [] = false from by decide +kernel]; rfl] at this
theorem chain3 (W : World) : Calls Tryd.prog 8 #[.int .i64 3] W fun e w' => ∃ g, e = .returned (.tuple #[.agg #[.slice (some ⟨g, 0, none⟩) 3 3], .nilIface]) ∧ BytesAt w' w'.heap.size (some ⟨g, 0, none⟩) [7, 6, 4] ∧ Grew W w' := by
  have := chain_yes 3 W (by decide) (by decide)
  rwa [show La.chain 3 = [7, 6, 4] from by decide +kernel, show errVal 0 = .nilIface from rfl] at this
theorem chain9 (W : World) : Calls Tryd.prog 8 #[.int .i64 9] W fun e w' => e = .returned (.tuple #[.agg #[.slice none 0 0], .iface 41 (.int .i64 1)]) ∧ Grew W w' := by
  have := chain_no 9 W (by decide)
  rwa [show errVal 1 = .iface 41 (.int .i64 1) from rfl] at this
theorem num_1 (W : World) (hg : HandleAt W) : Calls Tryd.prog 9 #[.iface 41 (.int .i64 1)] W fun e w' => e = .returned (.int .i64 1) ∧ Grew W w' := num_c 1 W hg
theorem num_7 (W : World) (hg : HandleAt W) : Calls Tryd.prog 9 #[.iface 41 (.int .i64 7)] W fun e w' => e = .returned (.int .i64 7) ∧ Grew W w' := num_c 7 W hg

set_option maxHeartbeats 4000000 in
theorem sure_c (w : World) (hg : HandleAt w) : Calls Tryd.prog 10 #[] w fun e w' => e = .returned (.bool true) ∧ Grew w w' := by
  have Hg := hid hg
  clear hg
  go_enter Tryd.func10, Tryd.ntmps10
  go_wp2_with fail
  refine (square_c _).mono ?_
  rintro e w1 ⟨g, rfl, hs, y1, rfl⟩
  have Hs := hid hs
  clear hs
  go_wp2_with fail
  refine (chain3 _).mono ?_
  rintro e w2 ⟨g2, rfl, hc, y2, rfl⟩
  have Hc := hid hc
  clear hc
  go_wp2_with fail
  refine (chain9 _).mono ?_
  rintro e W3 ⟨rfl, hg3⟩
  have l2 : y1.w.heap.size < y2.w.heap.size := by have := y2.b.size; simp at this; omega
  have l3 : y2.w.heap.size < W3.heap.size := by have := hg3.below.size; simp at this; omega
  have l4 : y1.w.heap.size < W3.heap.size := by omega
  have e1 : W3.cell? ⟨y1.w.heap.size, 0, none⟩ = some (.slice (some ⟨g, 0, none⟩) 4 4) := by
    rw [hg3.below.cell (by simp; omega), World.cell?_alloc_lt _ _ _ l2, y2.cell _ (by simp)]; simp
  have e2 : W3.cell? ⟨y2.w.heap.size, 0, none⟩ = some (.slice (some ⟨g2, 0, none⟩) 3 3) := by
    rw [hg3.below.cell (by simp)]; simp
  have GG := hid (y1.grew.trans ((((Grew.refl y1.w).alloc (.cells #[.slice (some ⟨g, 0, none⟩) 4 4] 25)).trans y2.grew).trans (((Grew.refl y2.w).alloc (.cells #[.slice (some ⟨g2, 0, none⟩) 3 3] 25)).trans hg3)))
  have HS := hid (Hs.out.grew ((((Grew.refl y1.w).alloc (.cells #[.slice (some ⟨g, 0, none⟩) 4 4] 25)).trans y2.grew).trans (((Grew.refl y2.w).alloc (.cells #[.slice (some ⟨g2, 0, none⟩) 3 3] 25)).trans hg3)))
  have HC := hid (Hc.out.grew (((Grew.refl y2.w).alloc (.cells #[.slice (some ⟨g2, 0, none⟩) 3 3] 25)).trans hg3))
  have HG := hid (Hg.out.grew GG.out)
  clear Hs Hc Hg hg3
  generalize y1.w.heap.size = p1 at *
  generalize y2.w.heap.size = p2 at *
  have ga := hid ((Grew.refl W3).alloc (.cells #[.slice none 0 0] 25))
  go_wp2_with fail
  refine (Calls.grew ga.out (sq_check _ g (HS.out.grew ga.out))).mono ?_
  rintro e w ⟨rfl, z1, rfl⟩
  go_wp2_with fail
  refine (Calls.grew z1.grew (sq_join _ g (HS.out.grew z1.grew))).mono ?_
  rintro e w ⟨rfl, z2, rfl⟩
  go_wp2_with fail
  refine (Calls.grew z2.grew (sq_meet _ g (HS.out.grew z2.grew))).mono ?_
  rintro e w ⟨rfl, z3, rfl⟩
  go_wp2_with fail
  refine (Calls.grew z3.grew (sq_leq _ g (HS.out.grew z3.grew))).mono ?_
  rintro e w ⟨rfl, z4, rfl⟩
  go_wp2_with fail
  refine (Calls.grew z4.grew (sq_nleq _ g (HS.out.grew z4.grew))).mono ?_
  rintro e w ⟨rfl, z5, rfl⟩
  go_wp2_with fail
  refine (Calls.grew z5.grew (sq_bottom _ g (HS.out.grew z5.grew))).mono ?_
  rintro e w ⟨rfl, z6, rfl⟩
  go_wp2_with fail
  refine (Calls.grew z6.grew (sq_top _ g (HS.out.grew z6.grew))).mono ?_
  rintro e w ⟨rfl, z7, rfl⟩
  go_wp2_with fail
  refine (Calls.grew z7.grew (ch_join _ g2 (HC.out.grew z7.grew))).mono ?_
  rintro e w ⟨rfl, z8, rfl⟩
  go_wp2_with fail
  refine (Calls.grew z8.grew (num_1 _ (HG.out.grew z8.grew))).mono ?_
  rintro e w ⟨rfl, z9, rfl⟩
  go_wp2_with fail
  refine (Calls.grew z9.grew (no_check _)).mono ?_
  rintro e w ⟨rfl, z10, rfl⟩
  go_wp2_with fail
  refine (Calls.grew z10.grew (num_7 _ (HG.out.grew z10.grew))).mono ?_
  rintro e w ⟨rfl, z11, rfl⟩
  go_wp2_with fail
  refine (Calls.grew z11.grew (ch_same _ g2 (HC.out.grew z11.grew))).mono ?_
  rintro e w ⟨rfl, z12, rfl⟩
  go_wp2_with fail
  refine (Calls.grew z12.grew (ch_other _ g2 g (HC.out.grew z12.grew) (HS.out.grew z12.grew))).mono ?_
  rintro e w ⟨rfl, z13, rfl⟩
  go_wp2_with fail
  go_ret
  exact ⟨rfl, GG.out.trans z13.grew⟩
end Go.Proofs.YthdgjalbkeccoaaDoor

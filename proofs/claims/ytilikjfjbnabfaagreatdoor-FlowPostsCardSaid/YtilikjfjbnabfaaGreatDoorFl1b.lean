/- Stage 8: the program's own at. -/
import Derived.Test.YtilikjfjbnabfaaGreatDoorFl1
namespace Go.Proofs.YtilikjfjbnabfaaGreatDoor
open Go.RowKit

set_option maxRecDepth 100000 in
set_option maxHeartbeats 1000000 in
theorem at_c (v1 : Value) (A : Option Addr) (c n : Nat) (os : List Nat) (hn : n = os.length) (x : Int) (B : Nat) (w : World) (h : RowN w B A c os) (hs : os.Pairwise (· < ·)) (hl : os.length ≤ 100000) (hv : ∃ A1 n1 c1, v1 = .slice A1 n1 c1) :
    Calls Tryz.prog 42 #[.agg #[v1, .slice A n c], .int .i64 x] w (AtPost w (Fl.place os x)) := by
  have H := hid (fun w' (hg : Grew w w') => search_c A c os x B w' (h.grew hg) hs hl)
  rw [← hn] at H
  clear hn hl
  obtain ⟨A1, n1, c1, rfl⟩ := hv
  have hg := hid ((Grew.refl w).alloc (.cells #[.slice A1 n1 c1, .slice A n c] 54))
  clear h hs
  go_enter Tryz.func42, Tryz.ntmps42
  go_wp2_with fail
  refine (H.out _ hg.out).mono ?_
  rintro e w1 ⟨k, b, rfl, hr, hg1⟩
  have HR := hid hr
  clear hr
  go_wp2_with fail
  go_ret2
  exact ⟨k, b, rfl, HR.out, hg.out.trans hg1⟩
end Go.Proofs.YtilikjfjbnabfaaGreatDoor

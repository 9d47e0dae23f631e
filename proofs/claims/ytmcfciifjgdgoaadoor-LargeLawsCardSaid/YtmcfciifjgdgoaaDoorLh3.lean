/- Law 03's own helpers, part 3: are two numbers the same? -/
import Derived.Test.YtmcfciifjgdgoaaDoorMg13
namespace Go.Proofs.YtmcfciifjgdgoaaDoor
open Go.RowKit
set_option maxHeartbeats 4000000 in
theorem same_c (na : Bool) (A : Option Addr) (c : Nat) (xs : List Nat) (nb : Bool) (B : Option Addr) (d : Nat) (ys : List Nat) (w : World) (ha : NumsAt .u32 w w.heap.size A xs) (hb : NumsAt .u32 w w.heap.size B ys) (hm : ys.length ≤ 1000000000000) :
    Calls Tryd.prog 14 #[.agg #[.bool na, .slice A xs.length c], .agg #[.bool nb, .slice B ys.length d]] w fun e w' => e = .returned (.bool (decide (na = nb ∧ xs = ys))) ∧ Grew w w' := by
  have HA := hid ha
  have HB := hid hb
  clear ha hb
  obtain ⟨r, hr⟩ : ∃ r, r = decide (na = nb ∧ xs = ys) := ⟨_, rfl⟩
  have HR := hid hr
  rw [← hr]
  clear hr
  go_enter Tryd.func14, Tryd.ntmps14
  go_wp2_with fail
  have hG := ((Grew.refl w).alloc (.cells #[.bool na, .slice A xs.length c] 26)).alloc (.cells #[.bool nb, .slice B ys.length d] 26)
  have hc := isNum_c na A c xs nb B d ys _ (HA.out.grew hG) (HB.out.grew hG) hm
  rw [← HR.out] at hc
  refine hc.mono ?_
  rintro e w2 ⟨rfl, hg2⟩
  have HG := hid (hG.trans hg2)
  clear hG hg2 hc
  go_wp2_with fail
  go_ret
  exact ⟨rfl, HG.out⟩
end Go.Proofs.YtmcfciifjgdgoaaDoor

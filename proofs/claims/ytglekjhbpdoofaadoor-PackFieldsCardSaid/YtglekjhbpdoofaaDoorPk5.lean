/- The walks of package pack, writing: All. -/
import Derived.Test.YtglekjhbpdoofaaDoorPk1
import Derived.StillTailTactics
import Derived.BigQuiet
namespace Go.Proofs.YtglekjhbpdoofaaDoor
open Go.RowKit

/-- A Writer at block 'g' that holds 'xs'; 'Y': the blocks that it lies in, from block 'B' on. -/
def WrAt (w : World) (B g : Nat) (xs : List Nat) (Y : Nat → Prop) : Prop :=
  (∀ k, Y k → B ≤ k ∧ k < w.heap.size) ∧ Y g ∧ (∀ x ∈ xs, x < 256) ∧
  ((Blk w g 43 #[.pointer none, .int .i64 0] ∧ xs = []) ∨
   ∃ gb A c, gb ≠ g ∧ Y gb ∧ (∀ q, AtRow A q → Y q ∧ q ≠ g ∧ q ≠ gb) ∧ Blk w g 43 #[.pointer (some ⟨gb, 0, none⟩), .int .i64 ((xs.length : Nat) : Int)] ∧ Blk w gb 60 #[.slice A xs.length c] ∧ Row w B 5 1 A xs.length c (numCells .u8 xs))
theorem WrAt.kept {F : Nat → Prop} {w w' : World} {B g : Nat} {xs : List Nat} {Y : Nat → Prop} (h : WrAt w B g xs Y) (hk : Kept F w w') (hF : ∀ k, Y k → ¬ F k) : WrAt w' B g xs Y := by
  obtain ⟨h1, h2, h3, h4⟩ := h
  refine ⟨fun k hy => ⟨(h1 k hy).1, Nat.lt_of_lt_of_le (h1 k hy).2 hk.size⟩, h2, h3, ?_⟩
  rcases h4 with ⟨h4, h5⟩ | ⟨gb, A, c, h5, h6, h7, h8, h9, h10⟩
  · exact .inl ⟨h4.kept hk (hF g h2), h5⟩
  · exact .inr ⟨gb, A, c, h5, h6, h7, h8.kept hk (hF g h2), h9.kept hk (hF gb h6), h10.kept hk (fun q hq => hF q (h7 q ⟨_, hq, rfl⟩).1)⟩
theorem WrAt.grew {w w' : World} {B g : Nat} {xs : List Nat} {Y : Nat → Prop} (h : WrAt w B g xs Y) (hg : Grew w w') : WrAt w' B g xs Y := h.kept (F := fun _ => False) (.of_grew hg) (fun _ _ h => h)
theorem WrAt.lt {w : World} {B g : Nat} {xs : List Nat} {Y : Nat → Prop} (h : WrAt w B g xs Y) : g < w.heap.size := (h.1 g h.2.1).2

def AllPost (w : World) (xs : List Nat) (e : Ending) (w' : World) : Prop :=
  ∃ A c, e = .returned (.slice A xs.length c) ∧ Row w' w.heap.size 5 1 A xs.length c (numCells .u8 xs) ∧ Grew w w'
theorem AllPost.clone {w w1 w' : World} {xs : List Nat} {e : Ending} (hg : Grew w w1) (h : ClonePost w1 xs e w') : AllPost w xs e w' := by
  obtain ⟨A, c, h1, h2, h3⟩ := h
  exact ⟨A, c, h1, h2.low hg.below.size, hg.trans h3⟩

set_option maxRecDepth 100000 in
set_option maxHeartbeats 2000000 in
theorem all_nil_c (w : World) : Calls Tryd.prog 8 #[.pointer none] w (AllPost w []) := by
  go_enter Tryd.func8, Tryd.ntmps8
  go_wp2_with fail
  go_ret
  exact ⟨none, 0, rfl, Row.nil _ _ _ _, Grew.refl _⟩
set_option maxRecDepth 100000 in
set_option maxHeartbeats 2000000 in
theorem all_c (B g : Nat) (xs : List Nat) (Y : Nat → Prop) (w : World) (h : WrAt w B g xs Y) (hl : xs.length ≤ 1000000000000) :
    Calls Tryd.prog 8 #[.pointer (some ⟨g, 0, none⟩)] w (AllPost w xs) := by
  obtain ⟨_, _, _, h4⟩ := h
  rcases h4 with ⟨h4, rfl⟩ | ⟨gb, A, c, h5, h6, h7, h8, h9, h10⟩
  · have c0 := h4.cell 0
    simp only [List.getElem?_toArray, List.getElem?_cons_zero] at c0
    clear h4 hl
    go_enter Tryd.func8, Tryd.ntmps8
    go_wp2_with fail
    go_ret
    exact ⟨none, 0, rfl, Row.nil _ _ _ _, Grew.refl _⟩
  · have c0 := h8.cell 0
    have c1 := h8.cell 1
    have b0 := h9.cell 0
    simp only [List.getElem?_toArray, List.getElem?_cons_zero, List.getElem?_cons_succ] at c0 c1 b0
    have hq := h10.cases.2.1
    have hn := h10.nums
    have CC := hid (fun (w1 : World) (hg : Grew w w1) => (clone_c A c xs w1 (hn.grew hg) (by omega)).mono (fun _ _ h => AllPost.clone hg h))
    have t0 : 0 ≤ (xs.length : Int) := by omega
    have t1 : (xs.length : Int) ≤ c := by omega
    clear h5 h6 h7 h8 h9 h10 hn hq hl
    go_enter Tryd.func8, Tryd.ntmps8
    go_wp2_with fail
    go_still_tail 12, (by kernel_rfl)
    change wpList _ _ _ _ _ w.drew
    go_wp2_with fail
    refine (CC.out _ (Grew.refl _).drew).mono ?_
    rintro e w2 ⟨A2, c2, rfl, hR, hG⟩
    go_wp2_with fail
    go_ret
    exact ⟨A2, c2, rfl, hR, hG⟩
end Go.Proofs.YtglekjhbpdoofaaDoor

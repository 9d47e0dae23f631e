/- Package sum: the checksum of pieces that have just been listed; one byte changed by another. -/
import Derived.Test.YtmcfciifjgdgoaaDoorSu5
import Derived.Laws.BitsAllLaws
namespace Go.Proofs.YtmcfciifjgdgoaaDoor
open Go.RowKit

theorem of_alloc (ps : List Piece) (c : Nat) (t : TypeId) (V : World) (k s : Nat) (cs : Array Value) (hk : ps.length = k) (hs : Su.sum (ps.map (·.2.2)).flatten = s) (hcs : cs = (ps.map pieceVal).toArray) (hn : ∀ p ∈ ps, NumsAt .u8 V V.heap.size p.1 p.2.2 ∧ (∀ x ∈ p.2.2, x < 256) ∧ p.2.2.length ≤ 100000) (hl : ps.length ≤ 100000) :
    Calls Tryd.prog 22 #[.slice (some ⟨V.heap.size, 0, none⟩) k c] (V.alloc (.cells cs t)) fun e w' => e = .returned (.int .u32 ((s : Nat) : Int)) ∧ Grew V w' := by
  subst hk hs hcs
  have hg : Grew V (V.alloc (.cells (ps.map pieceVal).toArray t)) := (Grew.refl V).alloc _
  refine (of_list ps V.heap.size c t _ (Blk.new V t _) (fun p hp => ⟨(hn p hp).1.grew hg, (hn p hp).2⟩) hl).mono ?_
  rintro e w' ⟨rfl, h⟩
  exact ⟨rfl, hg.trans h⟩
theorem xor_ne {x t : Nat} (ht : t ≠ 0) : x ^^^ t ≠ x := by
  intro h
  apply ht
  have h2 := congrArg (fun z => x ^^^ z) h
  simp only [← Nat.xor_assoc, Nat.xor_self, Nat.zero_xor] at h2
  exact h2
end Go.Proofs.YtmcfciifjgdgoaaDoor

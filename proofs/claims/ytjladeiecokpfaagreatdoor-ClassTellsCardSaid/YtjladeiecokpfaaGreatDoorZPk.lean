/- Parts of elder texts that this layer needs, joined: XYViA XYPkA XYPkB XYPkC. -/
import Derived.Test.YtjladeiecokpfaaGreatDoorProg
import Derived.Test.YtjladeiecokpfaaGreatDoorZBase
import Derived.Test.YtjladeiecokpfaaGreatDoorZViM
import Derived.Laws.MakeOwn
import Derived.Deep.DeepCutAuto
import Derived.Test.YtjladeiecokpfaaGreatDoorZNum
import Derived.Test.YtjladeiecokpfaaGreatDoorShelf
import Derived.Laws.BytesArg
import Derived.Lib.SlBytesConst
import Derived.StillTailTactics
import Derived.BigQuiet
import Derived.Deep.QuietTactic
import Derived.Laws.IdiomStrings
namespace Go.Proofs.YtjladeiecokpfaaGreatDoor
open Go.RowKit

end Go.Proofs.YtjladeiecokpfaaGreatDoor
namespace Go.Proofs.YtjladeiecokpfaaGreatDoor
open Go.RowKit

end Go.Proofs.YtjladeiecokpfaaGreatDoor
namespace Go.Proofs.YtjladeiecokpfaaGreatDoor
open Go.RowKit

end Go.Proofs.YtjladeiecokpfaaGreatDoor
namespace Go.Proofs.YtjladeiecokpfaaGreatDoor
open Go.RowKit

end Go.Proofs.YtjladeiecokpfaaGreatDoor
namespace Go.Proofs.YtjladeiecokpfaaGreatDoor
open Go.RowKit

end Go.Proofs.YtjladeiecokpfaaGreatDoor
namespace Go.Proofs.YtjladeiecokpfaaGreatDoor
open Go.RowKit

/-- 'l.length' ints from address 'A' on. -/
def IntsAt (w : World) (B : Nat) (A : Option Addr) (l : List Int) : Prop :=
  (∀ x ∈ l, Vi.I64 x) ∧ (0 < l.length → ∃ ad, A = some ad ∧ ad.block < B ∧ ∀ j, j < l.length → w.cell? (ad.add j) = some (.int .i64 (l.getD j 0)))
theorem IntsAt.grew {w w' : World} {A : Option Addr} {l : List Int} (h : IntsAt w w.heap.size A l) (hg : Grew w w') : IntsAt w' w'.heap.size A l := by
  refine ⟨h.1, fun hn => ?_⟩
  obtain ⟨ad, e, hb, hc⟩ := h.2 hn
  exact ⟨ad, e, Nat.lt_of_lt_of_le hb hg.below.size, fun j hj => by rw [hg.below.cell (by rw [block_add]; exact hb)]; exact hc j hj⟩
theorem IntsAt.i64 {w : World} {B : Nat} {A : Option Addr} {l : List Int} (h : IntsAt w B A l) (j : Nat) : Vi.I64 (l.getD j 0) := by
  rcases Nat.lt_or_ge j l.length with hj | hj
  · exact h.1 _ (by rw [List.getD_eq_getElem?_getD, List.getElem?_eq_getElem hj]; exact List.getElem_mem hj)
  · rw [List.getD_eq_getElem?_getD, List.getElem?_eq_none hj]; exact ⟨by decide, by decide⟩
/-- The bytes of numbers, one behind the other. -/
def encs (l : List Int) : List Nat := l.flatMap Vi.enc
theorem encs_snoc (l : List Int) (x : Int) : encs (l ++ [x]) = encs l ++ Vi.enc x := by simp [encs]
theorem encs_cons (l : List Int) (x : Int) : encs (x :: l) = Vi.enc x ++ encs l := by simp [encs]
/-- What stands behind the first 'k' bytes. -/
theorem NumsAt.drop {k : IntKind} {w : World} {B : Nat} {ad : Addr} {xs : List Nat} (h : NumsAt k w B (some ad) xs) (n : Nat) : NumsAt k w B (some (ad.add n)) (xs.drop n) := by
  intro hn
  rw [List.length_drop] at hn
  obtain ⟨ad', e, hb, hc⟩ := h (by omega)
  obtain rfl := Option.some.inj e
  refine ⟨_, rfl, by rw [block_add]; exact hb, fun j hj => ?_⟩
  rw [List.length_drop] at hj
  rw [add_add, hc (n + j) (by omega)]
  simp [List.getD_eq_getElem?_getD]

end Go.Proofs.YtjladeiecokpfaaGreatDoor
namespace Go.Proofs.YtjladeiecokpfaaGreatDoor
open Go.RowKit

end Go.Proofs.YtjladeiecokpfaaGreatDoor
namespace Go.Proofs.YtjladeiecokpfaaGreatDoor
open Go.RowKit

theorem BytesAt.wide {w : World} {B B' : Nat} {A : Option Addr} {xs : List Nat} (h : BytesAt w B A xs) (hB : B ≤ B') : BytesAt w B' A xs :=
  ⟨h.1, fun hn => by
    obtain ⟨ad, e, hb, hc⟩ := h.2 hn
    exact ⟨ad, e, Nat.lt_of_lt_of_le hb hB, hc⟩⟩
end Go.Proofs.YtjladeiecokpfaaGreatDoor
namespace Go.Proofs.YtjladeiecokpfaaGreatDoor
open Go.RowKit

end Go.Proofs.YtjladeiecokpfaaGreatDoor
namespace Go.Proofs.YtjladeiecokpfaaGreatDoor
open Go.RowKit

/-- The cells of a list of ints. -/
def intCellsP (l : List Int) : List Value := l.map (Value.int .i64)
end Go.Proofs.YtjladeiecokpfaaGreatDoor
namespace Go.Proofs.YtjladeiecokpfaaGreatDoor
open Go.RowKit

end Go.Proofs.YtjladeiecokpfaaGreatDoor
namespace Go.Proofs.YtjladeiecokpfaaGreatDoor
open Go.RowKit

end Go.Proofs.YtjladeiecokpfaaGreatDoor
namespace Go.Proofs.YtjladeiecokpfaaGreatDoor
open Go.RowKit

theorem IntsAt.kept {F : Nat → Prop} {w w' : World} {B : Nat} {A : Option Addr} {l : List Int} (h : IntsAt w B A l) (hk : Kept F w w') (hB : B ≤ w.heap.size) (hF : ∀ ad, A = some ad → 0 < l.length → ¬ F ad.block) : IntsAt w' B A l := by
  refine ⟨h.1, fun hn => ?_⟩
  obtain ⟨ad, e, hb, hc⟩ := h.2 hn
  refine ⟨ad, e, hb, fun j hj => ?_⟩
  rw [hk.cell (by rw [block_add]; omega) (by rw [block_add]; exact hF ad e hn)]
  exact hc j hj
theorem IntsAt.wide {w : World} {B B' : Nat} {A : Option Addr} {l : List Int} (h : IntsAt w B A l) (hB : B ≤ B') : IntsAt w B' A l := by
  refine ⟨h.1, fun hn => ?_⟩
  obtain ⟨ad, e, hb, hc⟩ := h.2 hn
  exact ⟨ad, e, Nat.lt_of_lt_of_le hb hB, hc⟩
end Go.Proofs.YtjladeiecokpfaaGreatDoor
namespace Go.Proofs.YtjladeiecokpfaaGreatDoor
open Go.RowKit

end Go.Proofs.YtjladeiecokpfaaGreatDoor
namespace Go.Proofs.YtjladeiecokpfaaGreatDoor
open Go.RowKit

end Go.Proofs.YtjladeiecokpfaaGreatDoor
namespace Go.Proofs.YtjladeiecokpfaaGreatDoor
open Go.RowKit

theorem Row.ints {w : World} {B : Nat} {e : TypeId} {A : Option Addr} {c : Nat} {l : List Int} (h : Row w B e 1 A l.length c (intCellsP l)) (hl : ∀ x ∈ l, Vi.I64 x) : IntsAt w w.heap.size A l := by
  refine ⟨hl, fun hn => ?_⟩
  rcases h.cases with ⟨_, _, _, ⟨_, h0, _⟩ | ⟨g, rfl, _, hlt, hc, _⟩⟩
  · omega
  · refine ⟨_, rfl, hlt, fun j hj => ?_⟩
    rw [show (⟨g, 0, none⟩ : Addr).add j = ⟨g, j, none⟩ by simp [Addr.add]; omega]
    refine hc j _ ?_
    simp [intCellsP, List.getD_eq_getElem?_getD, List.getElem?_eq_getElem hj]
theorem Row.in {w : World} {B : Nat} {e : TypeId} {s : Nat} {A : Option Addr} {n c : Nat} {vs : List Value} (h : Row w B e s A n c vs) : ∀ ad, A = some ad → B ≤ ad.block ∧ ad.block < w.heap.size := by
  intro ad had
  rcases h.cases with ⟨_, _, _, ⟨h0, _⟩ | ⟨g, h1, h2, h3, _⟩⟩
  · rw [h0] at had; cases had
  · rw [h1] at had; cases had; exact ⟨h2, h3⟩

end Go.Proofs.YtjladeiecokpfaaGreatDoor
namespace Go.Proofs.YtjladeiecokpfaaGreatDoor
open Go.RowKit

end Go.Proofs.YtjladeiecokpfaaGreatDoor

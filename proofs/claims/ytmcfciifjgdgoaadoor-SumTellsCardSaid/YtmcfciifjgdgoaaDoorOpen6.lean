/- Arguments opened: a slice of bytes, its capacity and its reach told. -/
import Derived.Test.YtmcfciifjgdgoaaDoorOpenB
namespace Go.Proofs.YtmcfciifjgdgoaaDoor
open Go.ChangeShapes Go.WideShapes Go.ChangeAt Go.RowKit
section
variable {H : Type} {enc : TypeId × Value → H} {P : Program} {w : World} {base : Nat} {spare : Nat → Bool} {held : Bool}
theorem open_bytes_both {t e : TypeId} {r : Reach} {b0 : Nat} {v : Value} {d : DataW H} {ps : List MemPlace} (ht : P.underlying t = some (.slice e)) (he : P.underlying e = some (.int .u8)) (hc : P.cellsOf e = 1)
    (hval : Value.okWide P w r b0 t v) (h : DataW.Trod enc P w base spare held t v d ps) (hsp : ∀ b, spare b = true) :
    ∃ (A : Option Addr) (c : Nat) (up : List Nat), v = .slice A up.length c ∧ BytesAt w w.heap.size A up ∧ (up = [] ∨ ∃ elems spare, d = .slice elems spare ∧ elems.length = up.length) ∧ up.length ≤ c := by
  obtain ⟨A, c, up, e1, h1, h2⟩ := open_bytes ht he hc hval h hsp
  obtain ⟨A', c', up', e2, h3, h4, _⟩ := open_bytes_cap ht he hc hval h hsp
  have e3 := e1.symm.trans e2
  simp only [Value.slice.injEq] at e3
  exact ⟨A, c, up, e1, h1, h2, by rw [e3.2.1, e3.2.2]; exact h4⟩
end
end Go.Proofs.YtmcfciifjgdgoaaDoor

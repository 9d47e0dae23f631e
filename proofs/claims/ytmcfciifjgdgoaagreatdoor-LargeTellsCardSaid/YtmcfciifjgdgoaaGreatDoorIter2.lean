/- slices.Backward, continued: what has come, and what a store elsewhere leaves. -/
import Derived.Test.YtmcfciifjgdgoaaGreatDoorIter
import Derived.Test.YtmcfciifjgdgoaaGreatDoorDig2
namespace Go.Proofs.YtmcfciifjgdgoaaGreatDoor
open Go.RowKit Go.Shelf

theorem BwCame.of_snoc {n : Nat} {Val : Nat → Nat → Prop} {pre : List (Nat × Nat)} {x : Nat × Nat} (h : BwCame n Val (pre ++ [x])) : BwCame n Val pre ∧ x.1 = pre.length ∧ pre.length < n ∧ x.2 < 4294967296 ∧ Val (n - 1 - x.1) x.2 := by
  obtain ⟨h1, h2, h3⟩ := h
  simp only [List.map_append, List.map_cons, List.map_nil, List.length_append, List.length_cons, List.length_nil, Nat.zero_add, List.range_succ] at h1
  have h4 := List.append_inj h1 (by simp)
  rw [List.length_append, List.length_cons, List.length_nil] at h2
  refine ⟨⟨h4.1, by omega, fun y hy => h3 y (List.mem_append_left _ hy)⟩, by simpa using h4.2, by omega, (h3 x (by simp)).1, (h3 x (by simp)).2⟩

/-- The words' values, as the iterator tells them. -/
def isWord (xs : List Nat) (j v : Nat) : Prop := v = xs.getD j 0
theorem BwRd.far {Bs n c : Nat} {A : Option Addr} {Val : Nat → Nat → Prop} {W : World} (h : BwRd Bs n A c Val W) {p : Addr} (hB : Bs ≠ p.block) (hA : 0 < n → ∀ ad, A = some ad → ad.block ≠ p.block) (u : Value) : BwRd Bs n A c Val (W.setCell p u) := by
  refine ⟨(World.cell?_of_block (Below.heap_setCell W p u Bs hB)).trans h.1, fun j hj => ?_⟩
  obtain ⟨ad, v, e1, e2, e3, e4⟩ := h.2 j hj
  exact ⟨ad, v, e1, e2, e3, (World.cell?_of_block (Below.heap_setCell W p u _ (by rw [block_add]; exact hA (by omega) ad e1))).trans e4⟩
theorem BwRd.of_nums {Bs : Nat} {A : Option Addr} {c : Nat} {xs : List Nat} {W : World} (hb : W.cell? ⟨Bs, 0, none⟩ = some (.slice A xs.length c)) (h : NumsAt .u32 W W.heap.size A xs) (lx : Dg.Low 4294967296 xs) : BwRd Bs xs.length A c (isWord xs) W :=
  ⟨hb, fun j hj => by
    obtain ⟨ad, e, _, hc⟩ := h (by omega)
    exact ⟨ad, _, e, Dg.Low.getD (by decide) lx j, rfl, hc j hj⟩⟩
theorem numCells_setA (k : IntKind) (L : List Nat) (i v : Nat) : (numCells k L).toArray.setIfInBounds i (.int k ((v : Nat) : Int)) = (numCells k (L.set i v)).toArray := by
  simp [numCells]
theorem NumsAt.of_blk {k : IntKind} {W : World} {g : Nat} {e : TypeId} {L : List Nat} (h : Blk W g e (numCells k L).toArray) : NumsAt k W W.heap.size (some ⟨g, 0, none⟩) L := fun _ => ⟨_, rfl, h.lt, fun j hj => by
  rw [show (⟨g, 0, none⟩ : Addr).add j = ⟨g, j, none⟩ by simp [Addr.add]; omega, h.cell, List.getElem?_toArray, numCells_get k L j hj]⟩
theorem OwnNums.of_blk {k : IntKind} {w0 W : World} {g : Nat} {e : TypeId} {L : List Nat} (h : Blk W g e (numCells k L).toArray) (hg : w0.heap.size ≤ g) (hl : L.length ≤ 9223372036854775807) : OwnNums k w0 W e (some ⟨g, 0, none⟩) L.length L :=
  ⟨by simp [numCells], .inr ⟨g, L.length, (numCells k L).toArray, rfl, hg, h, Nat.le_refl _, by simpa [maxLen] using hl, by simp [numCells], by rw [Nat.mul_one, List.take_of_length_le (by simp [numCells])]⟩⟩
theorem BwRd.drewN {Bs n c : Nat} {A : Option Addr} {Val : Nat → Nat → Prop} {W : World} (h : BwRd Bs n A c Val W) (k : Nat) : BwRd Bs n A c Val (W.drewN k) := h
theorem below_drewN {B : Nat} {w W : World} (h : Below B w W) (k : Nat) : Below B w (W.drewN k) := ⟨h.os, h.tape, h.output, h.size, h.block⟩
theorem KeepsOthers.drewN (W : World) (k : Nat) : KeepsOthers W (W.drewN k) := ⟨Nat.le_refl _, fun _ _ h _ => h⟩
theorem Blk.drewN {W : World} {g : Nat} {t : TypeId} {cs : Array Value} (h : Blk W g t cs) (k : Nat) : Blk (W.drewN k) g t cs := h
end Go.Proofs.YtmcfciifjgdgoaaGreatDoor

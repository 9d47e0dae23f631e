/- Texts of this claim in one: Iter2 Round. -/
import Derived.Test.YtmcfciifjgdgoaaDoorIter
import Derived.Test.YtmcfciifjgdgoaaDoorDig2
import Derived.OrdersIn
import Derived.RangeFuncCalls
import Derived.TacticsIn
import Derived.TacticsInMore
import Derived.WalkKit
import Derived.OwnWalkIn
import Derived.Shelf.RegionOpen
section
/- slices.Backward, continued: what has come, and what a store elsewhere leaves. -/
namespace Go.Proofs.YtmcfciifjgdgoaaDoor
open Go.RowKit Go.Shelf

theorem BwCame.of_snoc {n : Nat} {Val : Nat → Nat → Prop} {pre : List (Nat × Nat)} {x : Nat × Nat} (h : BwCame n Val (pre ++ [x])) : BwCame n Val pre ∧ x.1 = pre.length ∧ pre.length < n ∧ x.2 < 4294967296 ∧ Val (n - 1 - x.1) x.2 := by
  obtain ⟨h1, h2, h3⟩ := h
  simp only [List.map_append, List.map_cons, List.map_nil, List.length_append, List.length_cons, List.length_nil, Nat.zero_add, List.range_succ] at h1
  have h4 := List.append_inj h1 (by simp)
  rw [List.length_append, List.length_cons, List.length_nil] at h2
  refine ⟨⟨h4.1, by omega, fun y hy => h3 y (List.mem_append_left _ hy)⟩, by simpa using h4.2, by omega, (h3 x (by simp)).1, (h3 x (by simp)).2⟩

/-- The words' values, as the iterator tells them. -/
def isWord (xs : List Nat) (j v : Nat) : Prop := v = xs.getD j 0
theorem BwRd.far {Bs n c : Nat} {A : Option Addr} {Val : Nat → Nat → Prop} {W : World} (h : BwRd Bs n A c Val W) {p : Addr} (hB : Bs ≠ p.block) (hA : 0 < n → ∀ ad, A = some ad → ad.block ≠ p.block) (u : Value) : BwRd Bs n A c Val (W.setCell p u) := by
  refine ⟨(World.cell?_of_block (Below.heap_setCell W p u Bs hB)).trans h.1, fun j hj => ?_⟩
  obtain ⟨ad, v, e1, e2, e3, e4⟩ := h.2 j hj
  exact ⟨ad, v, e1, e2, e3, (World.cell?_of_block (Below.heap_setCell W p u _ (by rw [block_add]; exact hA (by omega) ad e1))).trans e4⟩
theorem BwRd.of_nums {Bs : Nat} {A : Option Addr} {c : Nat} {xs : List Nat} {W : World} (hb : W.cell? ⟨Bs, 0, none⟩ = some (.slice A xs.length c)) (h : NumsAt .u32 W W.heap.size A xs) (lx : Dg.Low 4294967296 xs) : BwRd Bs xs.length A c (isWord xs) W :=
  ⟨hb, fun j hj => by
    obtain ⟨ad, e, _, hc⟩ := h (by omega)
    exact ⟨ad, _, e, Dg.Low.getD (by decide) lx j, rfl, hc j hj⟩⟩
theorem numCells_setA (k : IntKind) (L : List Nat) (i v : Nat) : (numCells k L).toArray.setIfInBounds i (.int k ((v : Nat) : Int)) = (numCells k (L.set i v)).toArray := by
  simp [numCells]
theorem NumsAt.of_blk {k : IntKind} {W : World} {g : Nat} {e : TypeId} {L : List Nat} (h : Blk W g e (numCells k L).toArray) : NumsAt k W W.heap.size (some ⟨g, 0, none⟩) L := fun _ => ⟨_, rfl, h.lt, fun j hj => by
  rw [show (⟨g, 0, none⟩ : Addr).add j = ⟨g, j, none⟩ by simp [Addr.add]; omega, h.cell, List.getElem?_toArray, numCells_get k L j hj]⟩
theorem OwnNums.of_blk {k : IntKind} {w0 W : World} {g : Nat} {e : TypeId} {L : List Nat} (h : Blk W g e (numCells k L).toArray) (hg : w0.heap.size ≤ g) (hl : L.length ≤ 9223372036854775807) : OwnNums k w0 W e (some ⟨g, 0, none⟩) L.length L :=
  ⟨by simp [numCells], .inr ⟨g, L.length, (numCells k L).toArray, rfl, hg, h, Nat.le_refl _, by simpa [maxLen] using hl, by simp [numCells], by rw [Nat.mul_one, List.take_of_length_le (by simp [numCells])]⟩⟩
theorem BwRd.drewN {Bs n c : Nat} {A : Option Addr} {Val : Nat → Nat → Prop} {W : World} (h : BwRd Bs n A c Val W) (k : Nat) : BwRd Bs n A c Val (W.drewN k) := h
theorem below_drewN {B : Nat} {w W : World} (h : Below B w W) (k : Nat) : Below B w (W.drewN k) := ⟨h.os, h.tape, h.output, h.size, h.block⟩
theorem KeepsOthers.drewN (W : World) (k : Nat) : KeepsOthers W (W.drewN k) := ⟨Nat.le_refl _, fun _ _ h _ => h⟩
theorem Blk.drewN {W : World} {g : Nat} {t : TypeId} {cs : Array Value} (h : Blk W g t cs) (k : Nat) : Blk (W.drewN k) g t cs := h
end Go.Proofs.YtmcfciifjgdgoaaDoor
end

section
/- A region that draws its order, within a round of a loop over an iterator: none of its operations is a 'defer', so it goes as it goes outside of a round. No program is named here. -/
namespace Go.Proofs.YtmcfciifjgdgoaaDoor
open Go.RowKit

def noDefer (ops : Array Oper) : Bool := ops.toList.all fun o => match o.op with | .defer _ => false | _ => true
theorem noDefer_at {ops : Array Oper} (h : noDefer ops = true) {i : Nat} {o : Oper} (ho : ops[i]? = some o) (c : Call) : o.op ≠ .defer c := by
  intro e
  have hm : o ∈ ops.toList := by
    have := Array.mem_of_getElem? ho
    simpa using this
  have := List.all_eq_true.1 h o hm
  rw [e] at this
  cases this

variable {P : Program} {ops : Array Oper} {md : Region.Mode} {Q : Exit → Act → World → Prop} {n : Nat}
theorem oper_round {l : Nat} {o : Oper} {a : Act} {w : World} {K : Act → World → Prop} (hd : ∀ c, o.op ≠ .defer c) (h : o.wpIn Fence.wide n P a w K Q) : o.wpIn (Fence.wide.inRound l) n P a w K Q := by
  unfold Oper.wpIn at *
  refine ⟨h.1, ?_⟩
  have h2 := h.2
  have e : (o.semAt (Fence.wide.inRound l).round a.eval) = (o.semAt Fence.wide.round a.eval) := by
    show Oper.semAt (some l) a.eval o = Oper.semAt none a.eval o
    rw [Oper.semAt_some l a.eval o hd]
    rfl
  rw [e]
  exact h2
theorem wpAnyIn_round {l : Nat} (hd : noDefer ops = true) : ∀ (fuel : Nat) (listed : Array Bool) (a : Act) (w : World), wpAnyIn Fence.wide n P md ops Q fuel listed a w → wpAnyIn (Fence.wide.inRound l) n P md ops Q fuel listed a w
  | 0, _, _, _, h => h
  | fuel + 1, listed, a, w, h => ⟨h.1, fun i hi => by
    have h2 := wpOpIn_mono (fun a' w' hk => wpAnyIn_round (l := l) hd fuel _ a' w' hk) (h.2 i hi)
    unfold wpOpIn at *
    cases ho : ops[i]? with
    | none => simpa only [ho] using h2
    | some o =>
      simp only [ho] at h2 ⊢
      by_cases hw : Region.wanted o (yielded ops a.tmps) = true
      · simp only [hw, if_true] at h2 ⊢
        exact oper_round (noDefer_at hd ho) h2
      · simp only [hw] at h2 ⊢
        exact h2⟩
theorem region_round {l id : Nat} {a : Act} {w : World} (hm : P.follows .mixedOrders = true) (hd : noDefer ops = true) (h : wpAnyIn Fence.wide n P .any ops Q ops.size (Array.replicate ops.size false) a w.drew) : (Code.region id ops true).wpIn (Fence.wide.inRound l) n P Q a w :=
  wpIn_region_any hm (wpAnyIn_round hd _ _ _ _ h)
end Go.Proofs.YtmcfciifjgdgoaaDoor
end

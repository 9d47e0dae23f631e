/- What comes of an operation on two numbers, and the boxes of two numbers and a result. No program is named here. -/
import Derived.Test.YtmcfciifjgdgoaaGreatDoorLgP
import Derived.Test.YtmcfciifjgdgoaaGreatDoorBase
namespace Go.Proofs.YtmcfciifjgdgoaaGreatDoor
open Go.RowKit

/-- What comes of an operation on two numbers, of which each may be or not. -/
structure OutA (ok : Bool) (z : Int) (neg : Bool) (xs : List Nat) (e : Nat) : Prop where
  yes : ok = true → Lg.Out z neg xs e
  no : ok = false → e = 1 ∧ neg = false ∧ xs = []
theorem OutA.inj {ok n m : Bool} {xs ys : List Nat} {z : Int} {e f : Nat} (h : OutA ok z n xs e) (k : OutA ok z m ys f) : n = m ∧ xs = ys ∧ e = f := by
  cases ok
  · have h1 := h.no rfl
    have h2 := k.no rfl
    exact ⟨h1.2.1.trans h2.2.1.symm, h1.2.2.trans h2.2.2.symm, h1.1.trans h2.1.symm⟩
  · exact (h.yes rfl).inj (k.yes rfl)
def flip (sub : Bool) (z : Int) : Int := if sub = true then -z else z
theorem flip_sgn (nb sub : Bool) (n : Nat) : flip sub (Lg.sgn nb n) = Lg.sgn (!(nb == sub)) n := by cases nb <;> cases sub <;> simp [flip, Lg.sgn]

/-- The world behind the boxes of two numbers and of a result. -/
structure Box3 (w wb : World) (na : Bool) (A : Option Addr) (n c : Nat) (nb : Bool) (B : Option Addr) (m d : Nat) : Prop where
  grew : Grew w wb
  l0 : w.heap.size < wb.heap.size
  l1 : w.heap.size + 1 < wb.heap.size
  l2 : w.heap.size + 1 + 1 < wb.heap.size
  a0 : wb.cell? ⟨w.heap.size, 0, none⟩ = some (.bool na)
  a1 : wb.cell? ⟨w.heap.size, 1, none⟩ = some (.slice A n c)
  b0 : wb.cell? ⟨w.heap.size + 1, 0, none⟩ = some (.bool nb)
  b1 : wb.cell? ⟨w.heap.size + 1, 1, none⟩ = some (.slice B m d)
  r0 : wb.cell? ⟨w.heap.size + 1 + 1, 0, none⟩ = some (.bool false)
  r1 : wb.cell? ⟨w.heap.size + 1 + 1, 1, none⟩ = some (.slice none 0 0)
  fr : ∀ i, wb.frozen? ⟨w.heap.size + 1 + 1, i, none⟩ = false
theorem Box3.mk' (w : World) (t1 t2 t3 : TypeId) (na : Bool) (A : Option Addr) (n c : Nat) (nb : Bool) (B : Option Addr) (m d : Nat) :
    Box3 w (((w.alloc (.cells #[.bool na, .slice A n c] t1)).alloc (.cells #[.bool nb, .slice B m d] t2)).alloc (.cells #[.bool false, .slice none 0 0] t3)) na A n c nb B m d where
  grew := (((Grew.refl _).alloc _).alloc _).alloc _
  l0 := by simp only [World.size_alloc]; omega
  l1 := by simp only [World.size_alloc]; omega
  l2 := by simp only [World.size_alloc]; omega
  a0 := by rw [World.cell?_alloc_lt _ _ _ (by simp only [World.size_alloc]; omega), World.cell?_alloc_lt _ _ _ (by simp only [World.size_alloc]; omega)]; simp
  a1 := by rw [World.cell?_alloc_lt _ _ _ (by simp only [World.size_alloc]; omega), World.cell?_alloc_lt _ _ _ (by simp only [World.size_alloc]; omega)]; simp
  b0 := by rw [World.cell?_alloc_lt _ _ _ (by simp only [World.size_alloc]; omega), World.cell?_alloc_at _ _ _ _ (by simp only [World.size_alloc])]; rfl
  b1 := by rw [World.cell?_alloc_lt _ _ _ (by simp only [World.size_alloc]; omega), World.cell?_alloc_at _ _ _ _ (by simp only [World.size_alloc])]; rfl
  r0 := by rw [World.cell?_alloc_at _ _ _ _ (by simp only [World.size_alloc])]; rfl
  r1 := by rw [World.cell?_alloc_at _ _ _ _ (by simp only [World.size_alloc])]; rfl
  fr := fun i => by
    have e : w.heap.size + 1 + 1 = ((w.alloc (.cells #[.bool na, .slice A n c] t1)).alloc (.cells #[.bool nb, .slice B m d] t2)).heap.size := by simp only [World.size_alloc]
    rw [e]
    generalize (w.alloc (.cells #[.bool na, .slice A n c] t1)).alloc (.cells #[.bool nb, .slice B m d] t2) = W
    simp

def sgnOf (z : Int) : Int := if z < 0 then -1 else if z = 0 then 0 else 1
def cmpE (ok : Bool) : Nat := if ok = true then 0 else 1
def cmpV (ok : Bool) (z : Int) : Int := if ok = true then sgnOf z else 0
theorem prod_sgn (na nb : Bool) (x y : Nat) : Lg.sgn na x * Lg.sgn nb y = Lg.sgn (!(na == nb)) (x * y) := by
  cases na <;> cases nb <;> simp [Lg.sgn, Int.mul_neg, Int.neg_mul]
/-- What comes of a division. -/
def Zeros (n1 : Bool) (L1 : List Nat) (n2 : Bool) (L2 : List Nat) : Prop := (n1 = false ∧ L1 = []) ∧ n2 = false ∧ L2 = []
structure OutD (ok : Bool) (a b : Int) (n1 : Bool) (L1 : List Nat) (n2 : Bool) (L2 : List Nat) (k : Nat) : Prop where
  no : ok = false → k = 1 ∧ Zeros n1 L1 n2 L2
  zero : ok = true → b = 0 → k = 10 ∧ Zeros n1 L1 n2 L2
  yes : ok = true → b ≠ 0 → k = 0 ∧ Lg.Rep n1 L1 (a.fdiv b) ∧ Lg.Rep n2 L2 (a.fmod b)
theorem OutD.inj {ok n1 n2 m1 m2 : Bool} {xs ys us vs : List Nat} {a b : Int} {k l : Nat} (h : OutD ok a b n1 xs n2 ys k) (g : OutD ok a b m1 us m2 vs l) : (n1 = m1 ∧ xs = us) ∧ (n2 = m2 ∧ ys = vs) ∧ k = l := by
  cases ok
  · obtain ⟨h1, ⟨h2, h3⟩, h4, h5⟩ := h.no rfl
    obtain ⟨g1, ⟨g2, g3⟩, g4, g5⟩ := g.no rfl
    exact ⟨⟨h2.trans g2.symm, h3.trans g3.symm⟩, ⟨h4.trans g4.symm, h5.trans g5.symm⟩, h1.trans g1.symm⟩
  · by_cases hb : b = 0
    · obtain ⟨h1, ⟨h2, h3⟩, h4, h5⟩ := h.zero rfl hb
      obtain ⟨g1, ⟨g2, g3⟩, g4, g5⟩ := g.zero rfl hb
      exact ⟨⟨h2.trans g2.symm, h3.trans g3.symm⟩, ⟨h4.trans g4.symm, h5.trans g5.symm⟩, h1.trans g1.symm⟩
    · obtain ⟨h1, h2, h3⟩ := h.yes rfl hb
      obtain ⟨g1, g2, g3⟩ := g.yes rfl hb
      exact ⟨h2.inj g2, h3.inj g3, h1.trans g1.symm⟩

/-- The world behind the boxes of two numbers and of two results. -/
structure Box4 (w wb : World) (na : Bool) (A : Option Addr) (n c : Nat) (nb : Bool) (B : Option Addr) (m d : Nat) : Prop where
  grew : Grew w wb
  l0 : w.heap.size < wb.heap.size
  l1 : w.heap.size + 1 < wb.heap.size
  l2 : w.heap.size + 1 + 1 < wb.heap.size
  l3 : w.heap.size + 1 + 1 + 1 < wb.heap.size
  a0 : wb.cell? ⟨w.heap.size, 0, none⟩ = some (.bool na)
  a1 : wb.cell? ⟨w.heap.size, 1, none⟩ = some (.slice A n c)
  b0 : wb.cell? ⟨w.heap.size + 1, 0, none⟩ = some (.bool nb)
  b1 : wb.cell? ⟨w.heap.size + 1, 1, none⟩ = some (.slice B m d)
  r0 : wb.cell? ⟨w.heap.size + 1 + 1, 0, none⟩ = some (.bool false)
  r1 : wb.cell? ⟨w.heap.size + 1 + 1, 1, none⟩ = some (.slice none 0 0)
  fr : ∀ i, wb.frozen? ⟨w.heap.size + 1 + 1, i, none⟩ = false
  s0 : wb.cell? ⟨w.heap.size + 1 + 1 + 1, 0, none⟩ = some (.bool false)
  s1 : wb.cell? ⟨w.heap.size + 1 + 1 + 1, 1, none⟩ = some (.slice none 0 0)
  fs : ∀ i, wb.frozen? ⟨w.heap.size + 1 + 1 + 1, i, none⟩ = false
theorem Box4.mk' (w : World) (t1 t2 t3 : TypeId) (na : Bool) (A : Option Addr) (n c : Nat) (nb : Bool) (B : Option Addr) (m d : Nat) :
    Box4 w ((((w.alloc (.cells #[.bool na, .slice A n c] t1)).alloc (.cells #[.bool nb, .slice B m d] t2)).alloc (.cells #[.bool false, .slice none 0 0] t3)).alloc (.cells #[.bool false, .slice none 0 0] t3)) na A n c nb B m d := by
  obtain ⟨hg, l0, l1, l2, a0, a1, b0, b1, r0, r1, fr⟩ := Box3.mk' w t1 t2 t3 na A n c nb B m d
  have hs : (((w.alloc (.cells #[.bool na, .slice A n c] t1)).alloc (.cells #[.bool nb, .slice B m d] t2)).alloc (.cells #[.bool false, .slice none 0 0] t3)).heap.size = w.heap.size + 1 + 1 + 1 := by simp only [World.size_alloc]
  generalize ((w.alloc (.cells #[.bool na, .slice A n c] t1)).alloc (.cells #[.bool nb, .slice B m d] t2)).alloc (.cells #[.bool false, .slice none 0 0] t3) = W at *
  have up : ∀ a v, W.cell? a = some v → (W.alloc (.cells #[.bool false, .slice none 0 0] t3)).cell? a = some v := fun a v h => by rw [World.cell?_alloc_lt _ _ _ (World.block_lt_of_cell? W a h)]; exact h
  exact ⟨hg.alloc _, by simp only [World.size_alloc]; omega, by simp only [World.size_alloc]; omega, by simp only [World.size_alloc]; omega, by simp only [World.size_alloc]; omega, up _ _ a0, up _ _ a1, up _ _ b0, up _ _ b1, up _ _ r0, up _ _ r1,
    fun i => by rw [World.frozen?_alloc_old _ _ _ (by simp only [hs]; omega)]; exact fr i, by rw [← hs]; simp, by rw [← hs]; simp, fun i => by rw [← hs]; simp⟩

end Go.Proofs.YtmcfciifjgdgoaaGreatDoor

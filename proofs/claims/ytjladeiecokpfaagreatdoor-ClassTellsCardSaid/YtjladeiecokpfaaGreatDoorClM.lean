/- Stage 10: classes in memory. -/
import Derived.Test.YtjladeiecokpfaaGreatDoorClP
import Derived.Test.YtjladeiecokpfaaGreatDoorZMtF
import Derived.Test.YtjladeiecokpfaaGreatDoorZPk
import Derived.Test.YtjladeiecokpfaaGreatDoorZOpC
namespace Go.Proofs.YtjladeiecokpfaaGreatDoor
open Go.RowKit

/-- A class, and where its slices lie. -/
structure CV where
  c : Cs.Cls
  A1 : Option Addr
  c1 : Nat
  A2 : Option Addr
  c2 : Nat
def cvCells (v : CV) : Array Value := #[.string v.c.name, .int .i64 v.c.sup, .slice v.A1 v.c.vars.length v.c1, .slice v.A2 v.c.ms.length v.c2]
structure CvOk (w : World) (v : CV) : Prop where
  vars : StrsAt w w.heap.size v.A1 v.c.vars
  ms : IntsAt w w.heap.size v.A2 v.c.ms
  sup : Vi.I64 v.c.sup
  cap1 : v.c.vars.length ≤ v.c1
  cap2 : v.c.ms.length ≤ v.c2
theorem CvOk.grew {w w' : World} {v : CV} (h : CvOk w v) (hg : Grew w w') : CvOk w' v := ⟨h.vars.grew hg, h.ms.grew hg, h.sup, h.cap1, h.cap2⟩
/-- Classes that lie one behind the other. -/
structure ClsArg (w : World) (A : Option Addr) (l : List CV) : Prop where
  ok : ∀ v ∈ l, CvOk w v
  cells : 0 < l.length → ∃ ad, A = some ad ∧ ad.block < w.heap.size ∧ ∀ i v, l[i]? = some v → ∀ j u, (cvCells v)[j]? = some u → w.cell? (ad.add (i * 4 + j)) = some u
theorem ClsArg.grew {w w' : World} {A : Option Addr} {l : List CV} (h : ClsArg w A l) (hg : Grew w w') : ClsArg w' A l := ⟨fun v hv => (h.ok v hv).grew hg, fun hl => by
  obtain ⟨ad, h1, h2, h3⟩ := h.cells hl
  exact ⟨ad, h1, Nat.lt_of_lt_of_le h2 hg.below.size, fun i x hi j u hu => (hg.below.cell (by rw [block_add]; exact h2)).trans (h3 i x hi j u hu)⟩⟩
/-- Classes that are not too great. -/
structure ClsFit (l : List Cs.Cls) : Prop where
  len : l.length ≤ 100
  name : ∀ x ∈ l, x.name.size ≤ 2000
  vars : ∀ x ∈ l, x.vars.length ≤ 100
  var : ∀ x ∈ l, ∀ s ∈ x.vars, s.size ≤ 2000
  ms : ∀ x ∈ l, x.ms.length ≤ 100
def cls (l : List CV) : List Cs.Cls := l.map (·.c)
theorem cls_len (l : List CV) : (cls l).length = l.length := by simp [cls]
theorem cls_at {l : List CV} {i : Nat} {v : CV} (h : l[i]? = some v) : (cls l)[i]? = some v.c := by simp [cls, h]
structure ClsAt (w : World) (A : Option Addr) (l : List CV) : Prop where
  arg : ClsArg w A l
  fit : ClsFit (cls l)
theorem ClsAt.grew {w w' : World} {A : Option Addr} {l : List CV} (h : ClsAt w A l) (hg : Grew w w') : ClsAt w' A l := ⟨h.arg.grew hg, h.fit⟩
theorem ClsAt.len {w : World} {A : Option Addr} {l : List CV} (h : ClsAt w A l) : l.length ≤ 100 := by rw [← cls_len]; exact h.fit.len
theorem ClsAt.mem {w : World} {A : Option Addr} {l : List CV} (_ : ClsAt w A l) {v : CV} (hv : v ∈ l) : v.c ∈ cls l := List.mem_map.2 ⟨v, hv, rfl⟩
theorem cv_arg {w wr : World} {A : Option Addr} {l : List CV} (h : ClsArg w A l) (hg : Grew w wr) {i : Nat} (hi : i < l.length) : ∃ ad v, A = some ad ∧ l[i]? = some v ∧ wr.cell? (ad.add (i * 4)) = some (.string v.c.name) ∧ wr.cell? ⟨ad.block, (ad.add (i * 4)).off + 1, none⟩ = some (.int .i64 v.c.sup) ∧ wr.cell? ⟨ad.block, (ad.add (i * 4)).off + 2, none⟩ = some (.slice v.A1 v.c.vars.length v.c1) ∧ wr.cell? ⟨ad.block, (ad.add (i * 4)).off + 3, none⟩ = some (.slice v.A2 v.c.ms.length v.c2) ∧ ad.block < wr.heap.size ∧ CvOk wr v := by
  obtain ⟨ad, e, hb, hc⟩ := h.cells (by omega)
  have hv := List.getElem?_eq_getElem hi
  have hq : ∀ j u, (cvCells l[i])[j]? = some u → wr.cell? (ad.add (i * 4 + j)) = some u := fun j u hu => by
    rw [hg.below.cell (by rw [block_add]; exact hb)]; exact hc i _ hv j u hu
  have hp : ∀ {a : Addr} {j : Nat}, j ≠ 0 → a.add j = ⟨a.block, a.off + j, none⟩ := fun hj => by simp [Addr.add, hj]
  refine ⟨ad, l[i], e, hv, hq 0 _ rfl, ?_, ?_, ?_, Nat.lt_of_lt_of_le hb hg.below.size, (h.ok _ (List.getElem_mem hi)).grew hg⟩
  · have := hq 1 _ rfl
    rwa [← add_add, hp (by decide), block_add] at this
  · have := hq 2 _ rfl
    rwa [← add_add, hp (by decide), block_add] at this
  · have := hq 3 _ rfl
    rwa [← add_add, hp (by decide), block_add] at this
theorem cv_at {w wr : World} {A : Option Addr} {l : List CV} (h : ClsAt w A l) (hg : Grew w wr) {i : Nat} (hi : i < l.length) : ∃ ad v, A = some ad ∧ l[i]? = some v ∧ wr.cell? (ad.add (i * 4)) = some (.string v.c.name) ∧ wr.cell? ⟨ad.block, (ad.add (i * 4)).off + 1, none⟩ = some (.int .i64 v.c.sup) ∧ wr.cell? ⟨ad.block, (ad.add (i * 4)).off + 2, none⟩ = some (.slice v.A1 v.c.vars.length v.c1) ∧ wr.cell? ⟨ad.block, (ad.add (i * 4)).off + 3, none⟩ = some (.slice v.A2 v.c.ms.length v.c2) ∧ ad.block < wr.heap.size ∧ CvOk wr v := cv_arg h.arg hg hi
/-- The same, where the class is known. -/
theorem cv_get {w wr : World} {ad : Addr} {l : List CV} (h : ClsArg w (some ad) l) (hg : Grew w wr) {i : Nat} {v : CV} (hv : l[i]? = some v) : wr.cell? (ad.add (i * 4)) = some (.string v.c.name) ∧ wr.cell? ⟨ad.block, (ad.add (i * 4)).off + 1, none⟩ = some (.int .i64 v.c.sup) ∧ wr.cell? ⟨ad.block, (ad.add (i * 4)).off + 2, none⟩ = some (.slice v.A1 v.c.vars.length v.c1) ∧ wr.cell? ⟨ad.block, (ad.add (i * 4)).off + 3, none⟩ = some (.slice v.A2 v.c.ms.length v.c2) ∧ ad.block < wr.heap.size ∧ CvOk wr v := by
  obtain ⟨ad', v', e, hv', h1⟩ := cv_arg h hg (List.getElem?_eq_some_iff.1 hv).1
  obtain rfl := Option.some.inj e
  rw [hv] at hv'
  obtain rfl := Option.some.inj hv'
  exact h1
theorem cv_some {w : World} {A : Option Addr} {l : List CV} (h : ClsArg w A l) {i : Nat} (hi : i < l.length) : ∃ ad v, A = some ad ∧ l[i]? = some v := by
  obtain ⟨ad, v, e, hv, _⟩ := cv_arg h (Grew.refl w) hi
  exact ⟨ad, v, e, hv⟩
namespace Cs
theorem chain_len (l : List Cls) : ∀ (n : Nat) (c : Int), c.toNat < n → (chain l c).length ≤ c.toNat + 1 ∧ (chain l c).length ≤ l.length
  | 0, _, h => absurd h (Nat.not_lt_zero _)
  | n + 1, c, h => by
    by_cases hc : c < 0 ∨ (l.length : Int) ≤ c
    · rw [chain_out l hc]; simp
    · obtain ⟨k, rfl⟩ : ∃ k : Nat, c = k := ⟨c.toNat, by omega⟩
      have hx : l[k]? = some l[k] := List.getElem?_eq_getElem (by omega)
      rw [chain_in l hx, List.length_cons]
      split
      · simp; omega
      · rename_i hs
        by_cases hn : l[k].sup < 0
        · rw [chain_out l (.inl hn)]; simp; omega
        · have := (chain_len l n l[k].sup (by omega)).1
          rw [Int.toNat_natCast]
          omega
theorem chain_le (l : List Cls) (c : Int) : (chain l c).length ≤ l.length := (chain_len l (c.toNat + 1) c (Nat.lt_succ_self _)).2
theorem chain_mem (l : List Cls) (c : Int) : ∀ d ∈ chain l c, d < l.length := fun d hd => (chain_lt l (c.toNat + 1) c (Nat.lt_succ_self _) d hd).1
/-- One step upwards. -/
theorem chain_stop {l : List Cls} {c : Nat} {x : Cls} (h : l[c]? = some x) (hs : (c : Int) ≤ x.sup) : chain l (c : Int) = [c] := by rw [chain_in l h, if_pos hs]
theorem chain_up {l : List Cls} {c : Nat} {x : Cls} (h : l[c]? = some x) (hs : ¬ (c : Int) ≤ x.sup) : chain l (c : Int) = c :: chain l x.sup := by rw [chain_in l h, if_neg hs]
end Cs
end Go.Proofs.YtjladeiecokpfaaGreatDoor

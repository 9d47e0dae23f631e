/- VarintList: for every slice of ints the law returns true, and nothing that was there is changed. Conditions: none of ours. -/
import Derived.Test.YtglekjhbpdoofaaDoorBack04
namespace Go.Proofs.YtglekjhbpdoofaaDoor
open Go.RowKit

/-- 'l.length' ints from address 'A' on. -/
def IntsAt (w : World) (B : Nat) (A : Option Addr) (l : List Int) : Prop :=
  (∀ x ∈ l, Vi.I64 x) ∧ (0 < l.length → ∃ ad, A = some ad ∧ ad.block < B ∧ ∀ j, j < l.length → w.cell? (ad.add j) = some (.int .i64 (l.getD j 0)))
theorem IntsAt.grew {w w' : World} {A : Option Addr} {l : List Int} (h : IntsAt w w.heap.size A l) (hg : Grew w w') : IntsAt w' w'.heap.size A l := by
  refine ⟨h.1, fun hn => ?_⟩
  obtain ⟨ad, e, hb, hc⟩ := h.2 hn
  exact ⟨ad, e, Nat.lt_of_lt_of_le hb hg.below.size, fun j hj => by rw [hg.below.cell (by rw [block_add]; exact hb)]; exact hc j hj⟩
theorem IntsAt.i64 {w : World} {B : Nat} {A : Option Addr} {l : List Int} (h : IntsAt w B A l) (j : Nat) : Vi.I64 (l.getD j 0) := by
  rcases Nat.lt_or_ge j l.length with hj | hj
  · exact h.1 _ (by rw [List.getD_eq_getElem?_getD, List.getElem?_eq_getElem hj]; exact List.getElem_mem hj)
  · rw [List.getD_eq_getElem?_getD, List.getElem?_eq_none hj]; exact ⟨by decide, by decide⟩
/-- The bytes of numbers, one behind the other. -/
def encs (l : List Int) : List Nat := l.flatMap Vi.enc
theorem encs_snoc (l : List Int) (x : Int) : encs (l ++ [x]) = encs l ++ Vi.enc x := by simp [encs]
theorem encs_cons (l : List Int) (x : Int) : encs (x :: l) = Vi.enc x ++ encs l := by simp [encs]
theorem encs_len : ∀ (l : List Int), (encs l).length ≤ 10 * l.length
  | [] => by simp [encs]
  | x :: r => by
    have := encs_len r
    have := (Vi.enc_len x).2
    rw [encs_cons, List.length_append, List.length_cons]
    omega
theorem encs_byte (l : List Int) : ∀ x ∈ encs l, x < 256 := by
  intro x hx
  obtain ⟨n, _, h⟩ := List.mem_flatMap.1 hx
  exact Vi.enc_byte n x h
theorem ints_take {l : List Int} {i : Nat} (h : i < l.length) : l.take (i + 1) = l.take i ++ [l.getD i 0] := by
  rw [List.take_succ_eq_append_getElem h]
  simp [List.getD_eq_getElem?_getD, List.getElem?_eq_getElem h]
theorem ints_drop {l : List Int} {N i : Nat} (h : i < N) (hN : N ≤ l.length) : (l.take N).drop i = l.getD i 0 :: (l.take N).drop (i + 1) := by
  have hl : i < (l.take N).length := by rw [List.length_take]; omega
  rw [List.drop_eq_getElem_cons hl]
  congr 1
  simp [List.getD_eq_getElem?_getD, List.getElem?_eq_getElem (show i < l.length by omega)]
/-- What stands behind the first 'k' bytes. -/
theorem NumsAt.drop {k : IntKind} {w : World} {B : Nat} {ad : Addr} {xs : List Nat} (h : NumsAt k w B (some ad) xs) (n : Nat) : NumsAt k w B (some (ad.add n)) (xs.drop n) := by
  intro hn
  rw [List.length_drop] at hn
  obtain ⟨ad', e, hb, hc⟩ := h (by omega)
  obtain rfl := Option.some.inj e
  refine ⟨_, rfl, by rw [block_add]; exact hb, fun j hj => ?_⟩
  rw [List.length_drop] at hj
  rw [add_add, hc (n + j) (by omega)]
  simp [List.getD_eq_getElem?_getD]

end Go.Proofs.YtglekjhbpdoofaaDoor

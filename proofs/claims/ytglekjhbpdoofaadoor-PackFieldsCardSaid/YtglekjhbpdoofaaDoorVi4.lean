/- The walks of law 04: its fixed examples. -/
import Derived.Test.YtglekjhbpdoofaaDoorVi3
import Derived.Test.YtglekjhbpdoofaaDoorLawNum4
import Derived.Laws.BytesArg
namespace Go.Proofs.YtglekjhbpdoofaaDoor
open Go.RowKit

theorem OwnNums.fresh (k : IntKind) {w0 w : World} (e : TypeId) (xs : List Nat) (hg : Grew w0 w) (h : xs.length ≤ 9223372036854775807) : OwnNums k w0 (w.alloc (.cells (numCells k xs).toArray e)) e (some ⟨w.heap.size, 0, none⟩) xs.length xs :=
  ⟨by simp [numCells], .inr ⟨w.heap.size, xs.length, (numCells k xs).toArray, rfl, hg.below.size, heap_alloc_new w _, Nat.le_refl _, by simpa [maxLen] using h, by simp [numCells], by rw [Nat.mul_one, List.take_of_length_le (by simp [numCells])]⟩⟩
/-- The string of bytes. -/
def strOf (l : List Nat) : ByteArray := ⟨(l.map UInt8.ofNat).toArray⟩
theorem strOf_inj {a b : List Nat} (ha : ∀ x ∈ a, x < 256) (hb : ∀ x ∈ b, x < 256) (h : strOf a = strOf b) : a = b := by
  have h1 := congrArg (fun s => s.data.toList.map UInt8.toNat) h
  simp only [strOf, List.map_map] at h1
  have e2 : ∀ l : List Nat, (∀ x ∈ l, x < 256) → l.map (UInt8.toNat ∘ UInt8.ofNat) = l := by
    intro l hl
    conv => rhs; rw [← List.map_id l]
    apply List.map_congr_left
    intro x hx
    have := hl x hx
    simp
    omega
  rwa [e2 a ha, e2 b hb] at h1
theorem conv_own {P : Program} {t e s : TypeId} (ht : P.underlying t = some (.slice e)) (he : P.underlying e = some (.int .u8)) (hs : P.underlying s = some .string) {w0 w : World} {u : TypeId} {A : Option Addr} {c : Nat} {xs : List Nat} (h : OwnNums .u8 w0 w u A c xs) (hx : 0 < xs.length) :
    (convert t s (.slice A xs.length c)).run P w = .ok (.string (strOf xs)) w := by
  rcases h.cases with ⟨_, _, rfl⟩ | ⟨g, rfl, _, _, hcell, _, _⟩
  · simp at hx
  · have := run_convert_bytes_arg (P := P) w t e ht he g 0 xs.length c (xs.map fun x : Nat => (x : Int)) (by simp) (fun j hj => by rw [Nat.zero_add, hcell j hj]; simp [List.getD_eq_getElem?_getD, List.getElem?_eq_getElem hj]) s hs
    rw [this]
    congr 2
    simp [strOfNums, strOf]

theorem sure4_1 (w : World) : Calls Tryd.prog 26 #[.slice (some ⟨w.heap.size, 0, none⟩) 3 3] (w.alloc (.cells #[.int .u8 192, .int .u8 0, .int .u8 7] 5)) fun e w' => e = .returned (.tuple #[.int .i64 64, .int .i64 2, .nilIface]) ∧ Grew w w' := by
  have h := get_c (some ⟨w.heap.size, 0, none⟩) 3 [192, 0, 7] (w.alloc (.cells #[.int .u8 192, .int .u8 0, .int .u8 7] 5)) (NumsAt.to_bytes (OwnNums.fresh .u8 5 [192, 0, 7] (Grew.refl w) (by decide)).at (by decide)) (by decide) (by decide)
  refine h.mono fun e w' ⟨he, hg⟩ => ⟨?_, ((Grew.refl w).alloc _).trans hg⟩
  rw [he, show Vi.getN [192, 0, 7] = 64 by decide +kernel, show Vi.getL [192, 0, 7] = [192, 0] by decide +kernel, show Vi.getE [192, 0, 7] = 0 by decide +kernel]
  rfl
theorem sure4_2 (w0 w : World) (hg0 : Grew w0 w) : Calls Tryd.prog 26 #[.slice (some ⟨w.heap.size, 0, none⟩) 2 2] (w.alloc (.cells #[.int .u8 128, .int .u8 0] 5)) fun e w' => e = .returned (.tuple #[.int .i64 0, .int .i64 0, errVal 2]) ∧ Grew w0 w' := by
  have h := get_c (some ⟨w.heap.size, 0, none⟩) 2 [128, 0] (w.alloc (.cells #[.int .u8 128, .int .u8 0] 5)) (NumsAt.to_bytes (OwnNums.fresh .u8 5 [128, 0] (Grew.refl w) (by decide)).at (by decide)) (by decide) (by decide)
  refine h.mono fun e w' ⟨he, hg⟩ => ⟨?_, (hg0.alloc _).trans hg⟩
  rw [he, show Vi.getN [128, 0] = 0 by decide +kernel, show Vi.getL [128, 0] = [] by decide +kernel, show Vi.getE [128, 0] = 2 by decide +kernel]
  rfl
theorem sure4_3 (w0 w : World) (hg0 : Grew w0 w) : Calls Tryd.prog 26 #[.slice (some ⟨w.heap.size, 0, none⟩) 1 1] (w.alloc (.cells #[.int .u8 127] 5)) fun e w' => e = .returned (.tuple #[.int .i64 (-1), .int .i64 1, .nilIface]) ∧ Grew w0 w' := by
  have h := get_c (some ⟨w.heap.size, 0, none⟩) 1 [127] (w.alloc (.cells #[.int .u8 127] 5)) (NumsAt.to_bytes (OwnNums.fresh .u8 5 [127] (Grew.refl w) (by decide)).at (by decide)) (by decide) (by decide)
  refine h.mono fun e w' ⟨he, hg⟩ => ⟨?_, (hg0.alloc _).trans hg⟩
  rw [he, show Vi.getN [127] = -1 by decide +kernel, show Vi.getL [127] = [127] by decide +kernel, show Vi.getE [127] = 0 by decide +kernel]
  rfl
theorem sure4_4 (w0 w : World) (hg0 : Grew w0 w) : Calls Tryd.prog 32 #[.slice (some ⟨w.heap.size, 0, none⟩) 1 1, .int .i64 (-64)] (w.alloc (.cells #[.int .u8 1] 5)) fun e w' => ∃ A c, e = .returned (.slice A 2 c) ∧ OwnNums .u8 w0 w' 5 A c [1, 64] ∧ Grew w0 w' := by
  have h := put_c (some ⟨w.heap.size, 0, none⟩) 1 [1] (-64) (w.alloc (.cells #[.int .u8 1] 5)) (OwnNums.fresh .u8 5 [1] (Grew.refl w) (by decide)).at ⟨by decide, by decide⟩ (by decide)
  refine h.mono fun e w' ⟨A, c, L, he, hO, hL, hg⟩ => ?_
  rw [show [1] ++ Vi.enc (-64) = [1, 64] by decide +kernel] at hL
  subst hL
  exact ⟨A, c, he, hO.mono (hg0.alloc _), (hg0.alloc _).trans hg⟩
theorem sure4_5 (w0 w : World) (hg0 : Grew w0 w) : Calls Tryd.prog 32 #[.slice none 0 0, .int .i64 (-9223372036854775808)] w fun e w' => ∃ A c, e = .returned (.slice A 10 c) ∧ Grew w0 w' := by
  have h := put_c none 0 [] (-9223372036854775808) w (NumsAt.nil _ _ _ _) ⟨by decide, by decide⟩ (by decide)
  refine h.mono fun e w' ⟨A, c, L, he, hO, hL, hg⟩ => ?_
  have hl : L.length = 10 := by rw [hL]; decide +kernel
  rw [hl] at he
  exact ⟨A, c, he, hg0.trans hg⟩

end Go.Proofs.YtglekjhbpdoofaaDoor

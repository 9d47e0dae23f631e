/- VarintBack: for every two ints and every slice of bytes the law returns true, and nothing that was there is changed. Conditions: none of ours. -/
import Derived.Test.YtglekjhbpdoofaaDoorVi4
namespace Go.Proofs.YtglekjhbpdoofaaDoor
open Go.RowKit

/-- Get of what begins with an encoding. -/
theorem get_enc {n : Int} (hn : Vi.I64 n) (A : Option Addr) (c : Nat) (xs : List Nat) (k : Nat) (L r : List Nat) (w w0 : World) (hg : Grew w0 w) (ha : BytesAt w w.heap.size A xs) (hx : xs = L ++ r) (hL : L = Vi.enc n) (hk : xs.length = k) (hc : k ≤ c) (hl : c ≤ 9223372036854775807) :
    Calls Tryd.prog 26 #[.slice A k c] w fun e w' => e = .returned (.tuple #[.int .i64 n, .int .i64 ((L.length : Nat) : Int), .nilIface]) ∧ Grew w0 w' := by
  subst hk
  refine (get_c A c xs w ha hc hl).mono fun e w' ⟨he, hg2⟩ => ⟨?_, hg.trans hg2⟩
  rw [he, hx, hL, Vi.getN_enc hn, Vi.getL_enc hn, Vi.getE_enc hn]
  rfl
/-- Get of an encoding that is cut short. -/
theorem get_short {n : Int} (hn : Vi.I64 n) (A : Option Addr) (c : Nat) (L : List Nat) (k : Nat) (w w0 : World) (hg : Grew w0 w) (ha : NumsAt .u8 w w.heap.size A L) (hL : L = Vi.enc n) (hk : L.length = k + 1) (hc : k + 1 ≤ c) (hl : c ≤ 9223372036854775807) :
    Calls Tryd.prog 26 #[.slice A k c] w fun e w' => e = .returned (.tuple #[.int .i64 0, .int .i64 0, errVal 2]) ∧ Grew w0 w' := by
  have hlen : (L.take k).length = k := by simp; omega
  have h := get_c A c (L.take k) w (NumsAt.to_bytes (ha.take k) (fun x hx => by
    have := List.mem_of_mem_take hx
    rw [hL] at this
    exact Vi.enc_byte n x this)) (by omega) hl
  rw [hlen] at h
  refine h.mono fun e w' ⟨he, hg2⟩ => ⟨?_, hg.trans hg2⟩
  have hs : Vi.getL (L.take k) = [] := by
    have := Vi.getL_short hn
    rw [← hL, hk, Nat.add_sub_cancel] at this
    exact this
  rw [he, Vi.getN, Vi.getE, hs]
  rfl
theorem enc_str {n m : Int} (hn : Vi.I64 n) (hm : Vi.I64 m) : (strOf (Vi.enc n) = strOf (Vi.enc m)) ↔ n = m :=
  ⟨fun h => Vi.enc_inj hn hm (strOf_inj (Vi.enc_byte n) (Vi.enc_byte m) h), fun h => by rw [h]⟩

theorem str_beq (s t : ByteArray) : (s.toList == t.toList) = decide (s = t) := by
  rw [Bool.eq_iff_iff, beq_iff_eq, decide_eq_true_iff, ByteArray.toList_eq, ByteArray.toList_eq]
  constructor
  · intro h
    cases s; cases t
    simp at h
    rw [h]
  · rintro rfl; rfl

end Go.Proofs.YtglekjhbpdoofaaDoor

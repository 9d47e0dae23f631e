/- The walks of package varint: Get. -/
import Derived.Test.YtglekjhbpdoofaaDoorVi2
import Derived.Test.YtglekjhbpdoofaaDoorNum
import Derived.Test.YtglekjhbpdoofaaDoorShelf
namespace Go.Proofs.YtglekjhbpdoofaaDoor
open Go.RowKit

theorem bytesIn4 (w : World) (A : Option Addr) (up : List Nat) (h : NumsAt .u8 w w.heap.size A up) : Lib.BytesIn w A up.length (up.map (fun x : Nat => (x : Int))) := by
  rcases Nat.eq_zero_or_pos up.length with h0 | h0
  · obtain rfl := List.eq_nil_of_length_eq_zero h0
    exact Lib.BytesIn.nil w A _
  · obtain ⟨ad, rfl, _, hc⟩ := h h0
    refine Lib.BytesIn.of_cells (fun i hi => ?_)
    rw [hc i hi]
    simp [List.getD_eq_getElem?_getD, List.getElem?_eq_getElem hi]
theorem hasPrefix_nats : ∀ (xs ys : List Nat), (∀ x ∈ xs, x < 256) → (∀ x ∈ ys, x < 256) →
    Lib.hasPrefix (Lib.bytesOf (xs.map (fun x : Nat => (x : Int)))) (Lib.bytesOf (ys.map (fun x : Nat => (x : Int)))) = ys.isPrefixOf xs := by
  have e : ∀ l : List Nat, Lib.bytesOf (l.map (fun x : Nat => (x : Int))) = l.map UInt8.ofNat := by
    intro l; simp [Lib.bytesOf]
  intro xs ys
  rw [e, e]
  unfold Lib.hasPrefix
  induction ys generalizing xs with
  | nil => intros; simp
  | cons y ys ih =>
    intro hx hy
    cases xs with
    | nil => simp
    | cons x xs =>
      have h1 := ih xs (fun z hz => hx z (by simp [hz])) (fun z hz => hy z (by simp [hz]))
      have hx1 := hx x (by simp)
      have hy1 := hy y (by simp)
      have h2 : (UInt8.ofNat y == UInt8.ofNat x) = (y == x) := by
        rw [Bool.eq_iff_iff, beq_iff_eq, beq_iff_eq]
        constructor
        · intro h
          have := congrArg UInt8.toNat h
          simp at this
          omega
        · rintro rfl; rfl
      simp only [List.map_cons, List.isPrefixOf, h1, h2]

def GetPost (w : World) (xs : List Nat) (e : Ending) (w' : World) : Prop :=
  e = .returned (.tuple #[.int .i64 (Vi.getN xs), .int .i64 (((Vi.getL xs).length : Nat) : Int), errVal (Vi.getE xs)]) ∧ Grew w w'

set_option maxRecDepth 100000 in
set_option maxHeartbeats 1000000 in
theorem get_c (A : Option Addr) (c : Nat) (xs : List Nat) (w : World) (ha : BytesAt w w.heap.size A xs) (hc : xs.length ≤ c) (hl : c ≤ 9223372036854775807) :
    Calls Tryd.prog 26 #[.slice A xs.length c] w (GetPost w xs) := by
  have HA := hid ha
  have HV := hid (value_c A c xs w ha hc hl)
  have HC := hid (show ∀ (w1 : World) (B : Option Addr) (d : Nat) (ys : List Nat), Grew w w1 → NumsAt .u8 w1 w1.heap.size B ys → (∀ x ∈ ys, x < 256) → Calls Tryd.prog 34 #[.slice A xs.length c, .slice B ys.length d] w1 fun e w' => e = .returned (.bool (ys.isPrefixOf xs)) ∧ w' = w1 from fun w1 B d ys hg hb hy => by
    have := Tryd.bytes_HasPrefix_all A B xs.length c ys.length d _ _ w1 (by simp) (by simp) hc (bytesIn4 w1 A xs (NumsAt.of_bytes (ha.grew hg))) (bytesIn4 w1 B ys hb)
    rwa [hasPrefix_nats xs ys ha.1 hy] at this)
  clear ha hc hl
  go_enter Tryd.func26, Tryd.ntmps26
  go_wp2_with fail
  refine HV.out.mono ?_
  rintro e w1 ⟨v, rfl, hv, hcut, rfl⟩
  have HP := hid (put_c none 0 [] v w1 (NumsAt.nil _ _ _ _) hv (by simp))
  rw [List.length_nil] at HP
  have HI := hid hv
  have HU := hid hcut
  clear hv hcut HV
  go_wp2_with fail
  refine HP.out.mono ?_
  rintro e w2 ⟨B, d, L, rfl, hO, hL, y, rfl⟩
  have HL := hid (show L = Vi.enc v by rw [hL]; rfl)
  have HB := hid (HC.out y.w B d L y.grew hO.at (by rw [HL.out]; exact Vi.enc_byte v))
  clear hL HP HC hO
  cases hp : L.isPrefixOf xs
  · have HX := hid (show Vi.getL xs = [] from Vi.getL_lost HU.out (fun h => by rw [← HL.out, ← List.isPrefixOf_iff_prefix, hp] at h; cases h))
    rw [hp] at HB
    clear hp
    go_wp2_with fail
    refine HB.out.mono ?_
    rintro e w3 ⟨rfl, rfl⟩
    go_wp2_with fail
    go_ret3
    exact ⟨by simp [Vi.getN, Vi.getE, HX.out, errVal], y.grew⟩
  · have HX := hid (show Vi.getL xs = L by rw [HL.out]; exact Vi.getL_found HI.out (by rw [← HL.out, ← List.isPrefixOf_iff_prefix, hp]))
    rw [hp] at HB
    clear hp
    go_wp2_with fail
    refine HB.out.mono ?_
    rintro e w3 ⟨rfl, rfl⟩
    go_wp2_with fail
    go_ret3
    have hne : L ≠ [] := by rw [HL.out]; exact Vi.enc_ne v
    exact ⟨by simp only [Vi.getN, Vi.getE, HX.out, if_neg hne]; rw [HL.out, Vi.val_enc HI.out]; rfl, y.grew⟩
end Go.Proofs.YtglekjhbpdoofaaDoor

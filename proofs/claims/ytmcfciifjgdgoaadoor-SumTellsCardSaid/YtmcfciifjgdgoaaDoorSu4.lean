/- Package sum: Open. -/
import Derived.Test.YtmcfciifjgdgoaaDoorSu3
import Derived.Test.YtmcfciifjgdgoaaDoorNum
import Derived.Test.YtmcfciifjgdgoaaDoorShelf
namespace Go.Proofs.YtmcfciifjgdgoaaDoor
open Go.RowKit

theorem bytesIn4 (w : World) (A : Option Addr) (up : List Nat) (h : NumsAt .u8 w w.heap.size A up) : Lib.BytesIn w A up.length (up.map (fun x : Nat => (x : Int))) := by
  rcases Nat.eq_zero_or_pos up.length with h0 | h0
  · obtain rfl := List.eq_nil_of_length_eq_zero h0
    exact Lib.BytesIn.nil w A _
  · obtain ⟨ad, rfl, hb, hc⟩ := h h0
    refine Lib.BytesIn.of_cells (fun i hi => ?_)
    rw [hc i hi]
    simp [List.getD_eq_getElem?_getD, hi]
theorem bytesOf_beq (up vp : List Nat) (hu : ∀ x ∈ up, x < 256) (hv : ∀ x ∈ vp, x < 256) :
    (Lib.bytesOf (up.map (fun x : Nat => (x : Int))) == Lib.bytesOf (vp.map (fun x : Nat => (x : Int)))) = decide (up = vp) := by
  have e : ∀ l : List Nat, Lib.bytesOf (l.map (fun x : Nat => (x : Int))) = l.map UInt8.ofNat := by
    intro l; simp [Lib.bytesOf]
  rw [e, e, Bool.eq_iff_iff, beq_iff_eq, decide_eq_true_eq]
  refine ⟨fun h => ?_, fun h => by rw [h]⟩
  have hi : ∀ (a b : List Nat), (∀ x ∈ a, x < 256) → (∀ x ∈ b, x < 256) → a.map UInt8.ofNat = b.map UInt8.ofNat → a = b := by
    intro a
    induction a with
    | nil => intro b _ _ h; cases b with | nil => rfl | cons y b => simp at h
    | cons x a ih =>
      intro b ha hb h
      cases b with
      | nil => simp at h
      | cons y b =>
        simp only [List.map_cons, List.cons.injEq] at h
        have hx := ha x (by simp)
        have hy := hb y (by simp)
        have h1 := congrArg UInt8.toNat h.1
        simp at h1
        rw [Nat.mod_eq_of_lt hx, Nat.mod_eq_of_lt hy] at h1
        rw [h1, ih b (fun z hz => ha z (by simp [hz])) (fun z hz => hb z (by simp [hz])) h.2]
  exact hi up vp hu hv h
/-- bytes.Equal of bytes that lie somewhere. -/
theorem equal_c (A : Option Addr) (c : Nat) (xs : List Nat) (B : Option Addr) (d : Nat) (ys : List Nat) (w : World) (ha : NumsAt .u8 w w.heap.size A xs) (hb : NumsAt .u8 w w.heap.size B ys) (hx : ∀ x ∈ xs, x < 256) (hy : ∀ x ∈ ys, x < 256) (n m : Nat) (hn : xs.length = n) (hm : ys.length = m) :
    Calls Tryd.prog 45 #[.slice A n c, .slice B m d] w fun e w' => e = .returned (.bool (decide (xs = ys))) ∧ w' = w := by
  subst hn hm
  have h := Tryd.bytes_Equal_all A B xs.length c ys.length d (xs.map (fun x : Nat => (x : Int))) (ys.map (fun x : Nat => (x : Int))) w (by simp) (by simp) (bytesIn4 _ _ _ ha) (bytesIn4 _ _ _ hb)
  rwa [bytesOf_beq xs ys hx hy] at h
theorem own_of_row {k : IntKind} {w w' : World} {e : TypeId} {v : Value} {L : List Nat} (h : w'.ownsRow w.heap.size e 1 v L.length (numCells k L)) : ∃ A' c', v = .slice A' L.length c' ∧ OwnNums k w w' e A' c' L := by
  have h2 := h
  rcases h.2 with ⟨rfl, h0⟩ | ⟨g, cap, cur, rfl, hr⟩
  · exact ⟨none, 0, by rw [h0], by unfold OwnNums; rw [h0] at h2 ⊢; exact h2⟩
  · exact ⟨some ⟨g, 0, none⟩, cap, rfl, h2⟩
/-- bytes.Clone of bytes that lie somewhere. -/
theorem clone8_c (a : Addr) (c : Nat) (xs : List Nat) (w : World) (h : NumsAt .u8 w w.heap.size (some a) xs) (hn : xs.length ≤ 100000) (n : Nat) (hl : xs.length = n) :
    Calls Tryd.prog 46 #[.slice (some a) n c] w fun e w' => ∃ A' c', e = .returned (.slice A' xs.length c') ∧ OwnNums .u8 w w' 5 A' c' xs ∧ Grew w w' := by
  subst hl
  refine (Tryd.bytes_Clone_at a xs.length c (xs.map (fun x : Nat => (x : Int))) w (by simp) (by omega) (fun i hi => ?_)).mono ?_
  · obtain ⟨ad, e, _, hc⟩ := h (by omega)
    obtain rfl := Option.some.inj e
    rw [hc i hi]
    simp [List.getD_eq_getElem?_getD, hi]
  · rintro e w' ⟨v', rfl, hrow, _, hb⟩
    have e1 : (xs.map (fun x : Nat => (x : Int))).map (Value.int .u8) = numCells .u8 xs := by simp [numCells]
    rw [e1] at hrow
    obtain ⟨A', c', rfl, hO⟩ := own_of_row hrow
    exact ⟨A', c', rfl, hO, Grew.mk hb⟩

def OpenPost (w : World) (xs : List Nat) (e : Ending) (w' : World) : Prop :=
  ∃ A' c' L k, e = .returned (.tuple #[.slice A' (List.length L) c', errVal k]) ∧ L = Su.openL xs ∧ k = Su.openE xs ∧ OwnNums .u8 w w' 5 A' c' L ∧ Grew w w'

theorem openE_few {xs : List Nat} (h : xs.length < 4) : Su.openE xs = 2 := by unfold Su.openE; rw [if_pos h]
theorem openE_same {xs : List Nat} (h : ¬ xs.length < 4) (h2 : Su.seald (Su.body xs) = xs) : Su.openE xs = 0 := by unfold Su.openE; rw [if_neg h, if_pos h2]
theorem openE_not {xs : List Nat} (h : ¬ xs.length < 4) (h2 : Su.seald (Su.body xs) ≠ xs) : Su.openE xs = 5 := by unfold Su.openE; rw [if_neg h, if_neg h2]
theorem openL_no {xs : List Nat} (h : Su.openE xs ≠ 0) : Su.openL xs = [] := by unfold Su.openL; rw [if_neg h]
theorem openL_yes {xs : List Nat} (h : Su.openE xs = 0) : Su.openL xs = Su.body xs := by unfold Su.openL; rw [if_pos h]

set_option maxRecDepth 100000 in
set_option maxHeartbeats 2000000 in
theorem open_c (A : Option Addr) (c : Nat) (xs : List Nat) (w : World) (ha : NumsAt .u8 w w.heap.size A xs) (hx : ∀ x ∈ xs, x < 256) (hl : xs.length ≤ 100000) (hc : xs.length ≤ c) :
    Calls Tryd.prog 20 #[.slice A xs.length c] w (OpenPost w xs) := by
  have HA := hid ha
  have HX := hid hx
  clear ha hx
  obtain ⟨n, en⟩ : ∃ n, n = xs.length := ⟨_, rfl⟩
  have EN := hid en
  rw [← en] at hl hc ⊢
  clear en
  by_cases h4 : n < 4
  · have h4' : (n : Int) < 4 := by omega
    have HE := hid (openE_few (by rw [← EN.out]; exact h4))
    go_enter Tryd.func20, Tryd.ntmps20
    go_wp2_with fail
    go_ret2
    exact ⟨none, 0, [], 2, rfl, (openL_no (by rw [HE.out]; decide)).symm, HE.out.symm, OwnNums.nil _ _ _ _, Grew.refl _⟩
  · obtain ⟨ad, rfl, _, _⟩ := HA.out (by have := EN.out; omega)
    obtain ⟨m, rfl⟩ : ∃ m, n = m + 4 := ⟨n - 4, by omega⟩
    have hlen : (Su.body xs).length = m := by unfold Su.body; rw [List.length_take, ← EN.out]; omega
    have HB := hid (show Su.body xs = xs.take m by unfold Su.body; rw [← EN.out]; rfl)
    have CS := hid (fun (W : World) (hg : Grew w W) => seal_c (some ad) c (Su.body xs) W ((by rw [HB.out]; exact (HA.out.grew hg).take m)) (fun x hx => HX.out x (by rw [HB.out] at hx; exact List.mem_of_mem_take hx)) (by rw [hlen]; omega))
    rw [hlen] at CS
    have CC := hid (fun (W : World) (hg : Grew w W) => clone8_c ad c (Su.body xs) W ((by rw [HB.out]; exact (HA.out.grew hg).take m)) (by rw [hlen]; omega) m hlen)
    have HLEN := hid hlen
    clear hlen
    have h4' : ¬ ((m : Int) + 4 < 4) := by omega
    have h5 : (m : Int) + 4 - 4 = m := by omega
    go_enter Tryd.func20, Tryd.ntmps20
    go_wp2_with fail
    refine (CS.out w (Grew.refl w)).mono ?_
    rintro e w1 ⟨A1, c1, M, rfl, hM, hO, hG⟩
    have HG := hid hG
    have HM := hid hM
    have EQ := hid (equal_c A1 c1 M (some ad) c xs w1 hO.at (HA.out.grew hG) (fun x hx => by rw [hM] at hx; exact Su.seald_byte (fun y hy => HX.out y (by rw [HB.out] at hy; exact List.mem_of_mem_take hy)) x hx) HX.out M.length (m + 4) rfl EN.out.symm)
    clear hO hG hM
    go_wp2_with fail
    by_cases hq : M = xs
    · have HE := hid (openE_same (xs := xs) (by have := EN.out; omega) (by rw [← HM.out]; exact hq))
      have HQ := hid hq
      rw [decide_eq_true hq] at EQ
      clear hq
      refine EQ.out.mono ?_
      rintro e w2 ⟨rfl, rfl⟩
      go_wp2_with fail
      refine (CC.out _ HG.out).mono ?_
      rintro e w3 ⟨A3, c3, rfl, hO3, hG3⟩
      have HO3 := hid (hO3.mono HG.out)
      have HG3 := hid (HG.out.trans hG3)
      clear hO3 hG3
      go_wp2_with fail
      go_ret2
      exact ⟨A3, c3, Su.body xs, 0, rfl, (openL_yes HE.out).symm, HE.out.symm, HO3.out, HG3.out⟩
    · have HE := hid (openE_not (xs := xs) (by have := EN.out; omega) (by rw [← HM.out]; exact hq))
      rw [decide_eq_false hq] at EQ
      clear hq
      refine EQ.out.mono ?_
      rintro e w2 ⟨rfl, rfl⟩
      go_wp2_with fail
      go_ret2
      exact ⟨none, 0, [], 5, rfl, (openL_no (by rw [HE.out]; decide)).symm, HE.out.symm, OwnNums.nil _ _ _ _, HG.out⟩
end Go.Proofs.YtmcfciifjgdgoaaDoor

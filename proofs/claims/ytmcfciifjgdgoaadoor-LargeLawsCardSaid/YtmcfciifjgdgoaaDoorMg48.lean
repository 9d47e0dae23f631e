/- Texts of this claim in one: Pe4 Tb. -/
import Derived.Test.YtmcfciifjgdgoaaDoorPe3
import Derived.Test.YtmcfciifjgdgoaaDoorMg31
import Derived.Test.YtmcfciifjgdgoaaDoorPl15
import Derived.Test.YtmcfciifjgdgoaaDoorLgT
import Derived.Test.YtmcfciifjgdgoaaDoorMg11
section
/- The developers' large numbers: magnitudes divided, and numbers. -/
namespace Go.Proofs.YtmcfciifjgdgoaaDoor
open Go.RowKit

set_option maxHeartbeats 2000000 in
theorem pdivMags_c (na nb : Bool) (A : Option Addr) (c : Nat) (xs : List Nat) (B : Option Addr) (d : Nat) (ys : List Nat) (w : World) (ha : NumsAt .u32 w w.heap.size A xs) (hb : NumsAt .u32 w w.heap.size B ys) (lx : Dg.Low 4294967296 xs) (ly : Dg.Low 4294967296 ys)
    (hma : Lg.may na xs = true) (hmb : Lg.may nb ys = true) (h0 : 0 < ys.length) (hA : A = none → c = 0) :
    Calls Tryd.prog 35 #[.slice A xs.length c, .slice B ys.length d] w (DmPost w (Dg.val 4294967296 xs) (Dg.val 4294967296 ys)) := by
  have rx := Lg.Rep.of_may lx hma
  have ry := Lg.Rep.of_may ly hmb
  obtain ⟨mx, _, _⟩ := Lg.may_iff.1 hma
  obtain ⟨my, my2, _⟩ := Lg.may_iff.1 hmb
  have my3 : 0 < ys.getD (ys.length - 1) 0 := by
    rcases my2 with h | h
    · omega
    · exact h
  rcases Nat.lt_or_ge xs.length ys.length with hlt | hge
  · have HV := hid (Dg.cmp_len (B := 4294967296) (by decide) lx ry.top hlt)
    have CC := hid (clone_c A c xs w ha hA (by omega))
    have HT := hid rx.top
    have hlt' : (xs.length : Int) < (ys.length : Int) := by omega
    clear ha hb my2 my3 rx ry
    go_enter Tryd.func35, Tryd.ntmps35
    go_wp2_with fail
    refine CC.out.mono ?_
    rintro e w1 ⟨A1, c1, rfl, hO, hG⟩
    have HO := hid hO
    have HG := hid hG
    clear hO hG CC
    go_wp2_with fail
    go_ret2
    exact ⟨none, 0, [], A1, c1, xs, rfl, OwnNums.nil _ _ _ _, HO.out, ⟨Dg.Low.nil _, lx, HT.out⟩, ⟨by simp, HV.out⟩, ⟨by simp, by omega⟩, HG.out⟩
  · rcases Nat.lt_or_ge 1 ys.length with h1 | h1
    · obtain ⟨n, hn⟩ : ∃ n, ys.length = n + 2 := ⟨ys.length - 2, by omega⟩
      obtain ⟨m, hm⟩ : ∃ m, xs.length = m + (n + 2) := ⟨xs.length - (n + 2), by omega⟩
      have ht : ys.getD (n + 1) 0 ≠ 0 := by
        have : ys.length - 1 = n + 1 := by omega
        rw [this] at my3
        omega
      have CL := hid (pdivLong_c A c xs B d ys n m w ha hb lx ly hn hm ht (by omega))
      have k1 : ¬ (xs.length : Int) < (ys.length : Int) := by omega
      have k2 : ((ys.length : Int) == 1) = false := by rw [beq_eq_false_iff_ne]; omega
      clear ha hb my2 my3 rx ry hn hm ht hge h1 hma hmb h0 mx my hA
      go_enter Tryd.func35, Tryd.ntmps35
      go_wp2_with fail
      refine CL.out.mono ?_
      rintro e w1 ⟨A1, c1, Q, B1, d1, R, rfl, h1, h2, h3, h4, h5, h6⟩
      have H := hid (And.intro h1 (And.intro h2 (And.intro h3 (And.intro h4 (And.intro h5 h6)))))
      clear h1 h2 h3 h4 h5 h6 CL
      go_wp2_with fail
      go_ret2
      exact ⟨A1, c1, Q, B1, d1, R, rfl, H.out.1, H.out.2.1, H.out.2.2.1, H.out.2.2.2.1, H.out.2.2.2.2.1, H.out.2.2.2.2.2⟩
    · obtain ⟨y, rfl⟩ : ∃ y, ys = [y] := by
        cases ys with
        | nil => simp at h0
        | cons y r => cases r with
          | nil => exact ⟨y, rfl⟩
          | cons z r => simp at h1
      have hy0 : 0 < y := my3
      have hy : y < 4294967296 := ly.head
      have h := pdivMags_1 A c xs B d y w ha hb lx hy0 hy (by simp at hge; omega) (by omega)
      rw [show Dg.val 4294967296 [y] = y by simp]
      exact h

/-- A number divided by another. -/
theorem pdivAll_c (na : Bool) (A : Option Addr) (c : Nat) (xs : List Nat) (nb : Bool) (B : Option Addr) (d : Nat) (ys : List Nat) (w : World) (ha : NumsAt .u32 w w.heap.size A xs) (hb : NumsAt .u32 w w.heap.size B ys) (lx : Dg.Low 4294967296 xs) (ly : Dg.Low 4294967296 ys) (hn : xs.length ≤ 1000000000000) (hm : ys.length ≤ 1000000000000) (hA : A = none → c = 0) :
    Calls Tryd.prog 15 #[.agg #[.bool na, .slice A xs.length c], .agg #[.bool nb, .slice B ys.length d]] w (GaveD w (Lg.may na xs && Lg.may nb ys) (Lg.num na xs) (Lg.num nb ys)) :=
  pdiv_c na A c xs nb B d ys w ha hb ly hn hm fun hma hmb h0 W hg => pdivMags_c na nb A c xs B d ys W (ha.grew hg) (hb.grew hg) lx ly hma hmb h0 hA
end Go.Proofs.YtmcfciifjgdgoaaDoor
end

section
/- Plain mathematics: a number's text reads as that number. No program is named here. -/
namespace Go.Proofs.YtmcfciifjgdgoaaDoor.Lg
open Dg

theorem bytes_strN {l : List Nat} (h : ∀ x ∈ l, x < 256) : bytes (strN l) = l := by
  unfold bytes strN strOfNums
  simp only [List.map_map]
  have : ∀ (m : List Nat), (∀ x ∈ m, x < 256) → m.map ((fun b : UInt8 => b.toNat) ∘ ((fun n : Int => UInt8.ofNat n.toNat) ∘ fun x : Nat => (x : Int))) = m := by
    intro m hm
    induction m with
    | nil => rfl
    | cons x m ih =>
      rw [List.map_cons, ih (fun y hy => hm y (by simp [hy]))]
      have := hm x (by simp)
      simp
      omega
  exact this l h
theorem numeral_byte {neg : Bool} {D : List Nat} (h : Low 10 D) : ∀ x ∈ numeral neg D, x < 256 := by
  intro x hx
  rcases List.mem_append.1 hx with h1 | h1
  · cases neg <;> simp at h1
    omega
  · obtain ⟨y, hy, rfl⟩ := List.mem_map.1 h1
    have := h y (by simpa using hy)
    omega
theorem digits_first {D : List Nat} (h : Low 10 D) (hne : D ≠ []) : (D.reverse.map (48 + ·)).getD 0 0 ≠ 45 := by
  rcases List.eq_nil_or_concat D with rfl | ⟨r, x, rfl⟩
  · exact absurd rfl hne
  · simp
    omega
theorem sign_numeral {neg : Bool} {D : List Nat} (h : Low 10 D) (hne : D ≠ []) : signOf (numeral neg D) = neg ∧ restOf (numeral neg D) = D.reverse.map (48 + ·) := by
  have hs : signOf (numeral neg D) = neg := by
    cases neg
    · unfold signOf numeral
      simp only [Bool.false_eq_true, if_false, List.nil_append]
      rw [decide_eq_false (digits_first h hne), Bool.and_false]
    · simp [signOf, numeral]
  refine ⟨hs, ?_⟩
  unfold restOf
  rw [hs]
  cases neg <;> simp [numeral]
theorem back_digits (D : List Nat) : (D.reverse.map (48 + ·)).map (· - 48) = D.reverse := by
  rw [List.map_map]
  conv => rhs; rw [← List.map_id D.reverse]
  exact List.map_congr_left fun x _ => by simp
theorem dec_len {D : List Nat} {n : Nat} (h : Dec D n) (hn : n < 4294967296 ^ 64) : 1 ≤ D.length ∧ D.length ≤ 700 := by
  refine ⟨Nat.pos_of_ne_zero (fun e => h.ne (List.eq_nil_of_length_eq_zero e)), ?_⟩
  rcases h.top with rfl | ⟨t1, t2⟩
  · decide
  · have h1 := val_ge (B := 10) t1 t2
    rw [h.val] at h1
    rcases Nat.lt_or_ge 700 D.length with h2 | h2
    · exfalso
      have h3 := pow_ge2 10 7 100 (D.length - 1) (by decide) (by omega)
      have h4 : (4294967296 : Nat) ^ 64 ≤ (10 ^ 7) ^ 100 := by decide +kernel
      exact Nat.lt_irrefl _ (Nat.lt_of_lt_of_le hn (Nat.le_trans h4 (Nat.le_trans h3 h1)))
    · exact h2
theorem text_back {neg : Bool} {D : List Nat} {M : Int} (hD : Dec D M.natAbs) (hneg : neg = decide (M < 0)) (hs : small M) : formOk (signOf (numeral neg D)) (restOf (numeral neg D)) = true ∧ numOf (numeral neg D) = M := by
  obtain ⟨l1, l2⟩ := dec_len hD hs
  obtain ⟨e1, e2⟩ := sign_numeral (neg := neg) hD.low hD.ne
  refine ⟨?_, ?_⟩
  · rw [e1, e2]
    unfold formOk
    have hl : (D.reverse.map (48 + ·)).length = D.length := by simp
    have a1 : decide (1 ≤ (D.reverse.map (48 + ·)).length) = true := by rw [hl]; simpa using l1
    have a2 : decide ((D.reverse.map (48 + ·)).length ≤ 700) = true := by rw [hl]; simpa using l2
    have a3 : (!(decide (1 < (D.reverse.map (48 + ·)).length) && decide ((D.reverse.map (48 + ·)).getD 0 0 = 48))) = true := by
      rw [hl]
      rcases hD.top with rfl | ⟨t1, t2⟩
      · rfl
      · rcases List.eq_nil_or_concat D with rfl | ⟨r, x, rfl⟩
        · exact absurd rfl t2
        · have hx : x ≠ 0 := by
            intro e
            apply t1
            simp [e]
          simp [hx]
    have a4 : (!(neg && decide (D.reverse.map (48 + ·) = [48]))) = true := by
      cases hn : neg
      · rfl
      · rw [hn] at hneg
        have hM : M < 0 := of_decide_eq_true hneg.symm
        have h0 : D ≠ [0] := fun e => by
          have := hD.val
          rw [e] at this
          simp at this
          omega
        rw [Bool.true_and, Bool.not_eq_true', decide_eq_false_iff_not]
        intro e
        apply h0
        have h1 := congrArg (List.map (· - 48)) e
        rw [back_digits] at h1
        have h2 := congrArg List.reverse h1
        simpa using h2
    have a5 : (D.reverse.map (48 + ·)).all isDigit = true := by
      rw [List.all_eq_true]
      intro x hx
      obtain ⟨y, hy, rfl⟩ := List.mem_map.1 hx
      have := hD.low y (by simpa using hy)
      simp [isDigit]
      omega
    rw [a1, a2, a3, a4, a5]
    rfl
  · unfold numOf
    rw [e1, e2, back_digits]
    unfold dv sgn
    rw [List.reverse_reverse, hD.val, hneg]
    by_cases hM : M < 0
    · rw [decide_eq_true hM, if_pos rfl]; omega
    · rw [decide_eq_false hM, if_neg (by decide)]; omega
end Go.Proofs.YtmcfciifjgdgoaaDoor.Lg
end

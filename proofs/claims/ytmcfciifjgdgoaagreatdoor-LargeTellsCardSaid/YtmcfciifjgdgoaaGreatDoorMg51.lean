/- Texts of this claim in one: Pe4 Tb Ll1. -/
import Derived.Test.YtmcfciifjgdgoaaGreatDoorPe3
import Derived.Test.YtmcfciifjgdgoaaGreatDoorPl14
import Derived.Test.YtmcfciifjgdgoaaGreatDoorPl15
import Derived.Test.YtmcfciifjgdgoaaGreatDoorLgT
import Derived.Test.YtmcfciifjgdgoaaGreatDoorLgU
import Derived.Test.YtmcfciifjgdgoaaGreatDoorOrder03
import Derived.Test.YtmcfciifjgdgoaaGreatDoorPl10
import Derived.Test.YtmcfciifjgdgoaaGreatDoorMg44
section
/- The developers' large numbers: magnitudes divided, and numbers. -/
namespace Go.Proofs.YtmcfciifjgdgoaaGreatDoor
open Go.RowKit

set_option maxHeartbeats 2000000 in
theorem pdivMags_c (na nb : Bool) (A : Option Addr) (c : Nat) (xs : List Nat) (B : Option Addr) (d : Nat) (ys : List Nat) (w : World) (ha : NumsAt .u32 w w.heap.size A xs) (hb : NumsAt .u32 w w.heap.size B ys) (lx : Dg.Low 4294967296 xs) (ly : Dg.Low 4294967296 ys)
    (hma : Lg.may na xs = true) (hmb : Lg.may nb ys = true) (h0 : 0 < ys.length) (hA : A = none → c = 0) :
    Calls Tryz.prog 35 #[.slice A xs.length c, .slice B ys.length d] w (DmPost w (Dg.val 4294967296 xs) (Dg.val 4294967296 ys)) := by
  have rx := Lg.Rep.of_may lx hma
  have ry := Lg.Rep.of_may ly hmb
  obtain ⟨mx, _, _⟩ := Lg.may_iff.1 hma
  obtain ⟨my, my2, _⟩ := Lg.may_iff.1 hmb
  have my3 : 0 < ys.getD (ys.length - 1) 0 := by
    rcases my2 with h | h
    · omega
    · exact h
  rcases Nat.lt_or_ge xs.length ys.length with hlt | hge
  · have HV := hid (Dg.cmp_len (B := 4294967296) (by decide) lx ry.top hlt)
    have CC := hid (clone_c A c xs w ha hA (by omega))
    have HT := hid rx.top
    have hlt' : (xs.length : Int) < (ys.length : Int) := by omega
    clear ha hb my2 my3 rx ry
    go_enter Tryz.func35, Tryz.ntmps35
    go_wp2_with fail
    refine CC.out.mono ?_
    rintro e w1 ⟨A1, c1, rfl, hO, hG⟩
    have HO := hid hO
    have HG := hid hG
    clear hO hG CC
    go_wp2_with fail
    go_ret2
    exact ⟨none, 0, [], A1, c1, xs, rfl, OwnNums.nil _ _ _ _, HO.out, ⟨Dg.Low.nil _, lx, HT.out⟩, ⟨by simp, HV.out⟩, ⟨by simp, by omega⟩, HG.out⟩
  · rcases Nat.lt_or_ge 1 ys.length with h1 | h1
    · obtain ⟨n, hn⟩ : ∃ n, ys.length = n + 2 := ⟨ys.length - 2, by omega⟩
      obtain ⟨m, hm⟩ : ∃ m, xs.length = m + (n + 2) := ⟨xs.length - (n + 2), by omega⟩
      have ht : ys.getD (n + 1) 0 ≠ 0 := by
        have : ys.length - 1 = n + 1 := by omega
        rw [this] at my3
        omega
      have CL := hid (pdivLong_c A c xs B d ys n m w ha hb lx ly hn hm ht (by omega))
      have k1 : ¬ (xs.length : Int) < (ys.length : Int) := by omega
      have k2 : ((ys.length : Int) == 1) = false := by rw [beq_eq_false_iff_ne]; omega
      clear ha hb my2 my3 rx ry hn hm ht hge h1 hma hmb h0 mx my hA
      go_enter Tryz.func35, Tryz.ntmps35
      go_wp2_with fail
      refine CL.out.mono ?_
      rintro e w1 ⟨A1, c1, Q, B1, d1, R, rfl, h1, h2, h3, h4, h5, h6⟩
      have H := hid (And.intro h1 (And.intro h2 (And.intro h3 (And.intro h4 (And.intro h5 h6)))))
      clear h1 h2 h3 h4 h5 h6 CL
      go_wp2_with fail
      go_ret2
      exact ⟨A1, c1, Q, B1, d1, R, rfl, H.out.1, H.out.2.1, H.out.2.2.1, H.out.2.2.2.1, H.out.2.2.2.2.1, H.out.2.2.2.2.2⟩
    · obtain ⟨y, rfl⟩ : ∃ y, ys = [y] := by
        cases ys with
        | nil => simp at h0
        | cons y r => cases r with
          | nil => exact ⟨y, rfl⟩
          | cons z r => simp at h1
      have hy0 : 0 < y := my3
      have hy : y < 4294967296 := ly.head
      have h := pdivMags_1 A c xs B d y w ha hb lx hy0 hy (by simp at hge; omega) (by omega)
      rw [show Dg.val 4294967296 [y] = y by simp]
      exact h

/-- A number divided by another. -/
theorem pdivAll_c (na : Bool) (A : Option Addr) (c : Nat) (xs : List Nat) (nb : Bool) (B : Option Addr) (d : Nat) (ys : List Nat) (w : World) (ha : NumsAt .u32 w w.heap.size A xs) (hb : NumsAt .u32 w w.heap.size B ys) (lx : Dg.Low 4294967296 xs) (ly : Dg.Low 4294967296 ys) (hn : xs.length ≤ 1000000000000) (hm : ys.length ≤ 1000000000000) (hA : A = none → c = 0) :
    Calls Tryz.prog 14 #[.agg #[.bool na, .slice A xs.length c], .agg #[.bool nb, .slice B ys.length d]] w (GaveD w (Lg.may na xs && Lg.may nb ys) (Lg.num na xs) (Lg.num nb ys)) :=
  pdiv_c na A c xs nb B d ys w ha hb ly hn hm fun hma hmb h0 W hg => pdivMags_c na nb A c xs B d ys W (ha.grew hg) (hb.grew hg) lx ly hma hmb h0 hA
end Go.Proofs.YtmcfciifjgdgoaaGreatDoor
end

section
/- Plain mathematics: a number's text reads as that number. No program is named here. -/
namespace Go.Proofs.YtmcfciifjgdgoaaGreatDoor.Lg
open Dg

theorem bytes_strN {l : List Nat} (h : ∀ x ∈ l, x < 256) : bytes (strN l) = l := by
  unfold bytes strN strOfNums
  simp only [List.map_map]
  have : ∀ (m : List Nat), (∀ x ∈ m, x < 256) → m.map ((fun b : UInt8 => b.toNat) ∘ ((fun n : Int => UInt8.ofNat n.toNat) ∘ fun x : Nat => (x : Int))) = m := by
    intro m hm
    induction m with
    | nil => rfl
    | cons x m ih =>
      rw [List.map_cons, ih (fun y hy => hm y (by simp [hy]))]
      have := hm x (by simp)
      simp
      omega
  exact this l h
theorem numeral_byte {neg : Bool} {D : List Nat} (h : Low 10 D) : ∀ x ∈ numeral neg D, x < 256 := by
  intro x hx
  rcases List.mem_append.1 hx with h1 | h1
  · cases neg <;> simp at h1
    omega
  · obtain ⟨y, hy, rfl⟩ := List.mem_map.1 h1
    have := h y (by simpa using hy)
    omega
theorem digits_first {D : List Nat} (h : Low 10 D) (hne : D ≠ []) : (D.reverse.map (48 + ·)).getD 0 0 ≠ 45 := by
  rcases List.eq_nil_or_concat D with rfl | ⟨r, x, rfl⟩
  · exact absurd rfl hne
  · simp
    omega
theorem sign_numeral {neg : Bool} {D : List Nat} (h : Low 10 D) (hne : D ≠ []) : signOf (numeral neg D) = neg ∧ restOf (numeral neg D) = D.reverse.map (48 + ·) := by
  have hs : signOf (numeral neg D) = neg := by
    cases neg
    · unfold signOf numeral
      simp only [Bool.false_eq_true, if_false, List.nil_append]
      rw [decide_eq_false (digits_first h hne), Bool.and_false]
    · simp [signOf, numeral]
  refine ⟨hs, ?_⟩
  unfold restOf
  rw [hs]
  cases neg <;> simp [numeral]
theorem back_digits (D : List Nat) : (D.reverse.map (48 + ·)).map (· - 48) = D.reverse := by
  rw [List.map_map]
  conv => rhs; rw [← List.map_id D.reverse]
  exact List.map_congr_left fun x _ => by simp
theorem dec_len {D : List Nat} {n : Nat} (h : Dec D n) (hn : n < 4294967296 ^ 64) : 1 ≤ D.length ∧ D.length ≤ 700 := by
  refine ⟨Nat.pos_of_ne_zero (fun e => h.ne (List.eq_nil_of_length_eq_zero e)), ?_⟩
  rcases h.top with rfl | ⟨t1, t2⟩
  · decide
  · have h1 := val_ge (B := 10) t1 t2
    rw [h.val] at h1
    rcases Nat.lt_or_ge 700 D.length with h2 | h2
    · exfalso
      have h3 := pow_ge2 10 7 100 (D.length - 1) (by decide) (by omega)
      have h4 : (4294967296 : Nat) ^ 64 ≤ (10 ^ 7) ^ 100 := by decide +kernel
      exact Nat.lt_irrefl _ (Nat.lt_of_lt_of_le hn (Nat.le_trans h4 (Nat.le_trans h3 h1)))
    · exact h2
theorem text_back {neg : Bool} {D : List Nat} {M : Int} (hD : Dec D M.natAbs) (hneg : neg = decide (M < 0)) (hs : small M) : formOk (signOf (numeral neg D)) (restOf (numeral neg D)) = true ∧ numOf (numeral neg D) = M := by
  obtain ⟨l1, l2⟩ := dec_len hD hs
  obtain ⟨e1, e2⟩ := sign_numeral (neg := neg) hD.low hD.ne
  refine ⟨?_, ?_⟩
  · rw [e1, e2]
    unfold formOk
    have hl : (D.reverse.map (48 + ·)).length = D.length := by simp
    have a1 : decide (1 ≤ (D.reverse.map (48 + ·)).length) = true := by rw [hl]; simpa using l1
    have a2 : decide ((D.reverse.map (48 + ·)).length ≤ 700) = true := by rw [hl]; simpa using l2
    have a3 : (!(decide (1 < (D.reverse.map (48 + ·)).length) && decide ((D.reverse.map (48 + ·)).getD 0 0 = 48))) = true := by
      rw [hl]
      rcases hD.top with rfl | ⟨t1, t2⟩
      · rfl
      · rcases List.eq_nil_or_concat D with rfl | ⟨r, x, rfl⟩
        · exact absurd rfl t2
        · have hx : x ≠ 0 := by
            intro e
            apply t1
            simp [e]
          simp [hx]
    have a4 : (!(neg && decide (D.reverse.map (48 + ·) = [48]))) = true := by
      cases hn : neg
      · rfl
      · rw [hn] at hneg
        have hM : M < 0 := of_decide_eq_true hneg.symm
        have h0 : D ≠ [0] := fun e => by
          have := hD.val
          rw [e] at this
          simp at this
          omega
        rw [Bool.true_and, Bool.not_eq_true', decide_eq_false_iff_not]
        intro e
        apply h0
        have h1 := congrArg (List.map (· - 48)) e
        rw [back_digits] at h1
        have h2 := congrArg List.reverse h1
        simpa using h2
    have a5 : (D.reverse.map (48 + ·)).all isDigit = true := by
      rw [List.all_eq_true]
      intro x hx
      obtain ⟨y, hy, rfl⟩ := List.mem_map.1 hx
      have := hD.low y (by simpa using hy)
      simp [isDigit]
      omega
    rw [a1, a2, a3, a4, a5]
    rfl
  · unfold numOf
    rw [e1, e2, back_digits]
    unfold dv sgn
    rw [List.reverse_reverse, hD.val, hneg]
    by_cases hM : M < 0
    · rw [decide_eq_true hM, if_pos rfl]; omega
    · rw [decide_eq_false hM, if_neg (by decide)]; omega
end Go.Proofs.YtmcfciifjgdgoaaGreatDoor.Lg
end

section
/- Law 03's laws: what each call gives of numbers that may be, where what comes is not too long. -/
namespace Go.Proofs.YtmcfciifjgdgoaaGreatDoor
open Go.RowKit

/-- A number of at most k words. -/
def Bd (k : Nat) (X : Int) : Prop := X.natAbs < 4294967296 ^ k
theorem Bd.mono {k l : Nat} {X : Int} (h : Bd k X) (hl : k ≤ l) : Bd l X := Nat.lt_of_lt_of_le h (Nat.pow_le_pow_right (by decide) hl)
theorem Bd.small {k : Nat} {X : Int} (h : Bd k X) (hk : k ≤ 64) : Lg.small X := h.mono hk
theorem Bd.add {k : Nat} {X Y : Int} (h : Bd k X) (g : Bd k Y) : Bd (k + 1) (X + Y) := by
  unfold Bd at *
  rw [Nat.pow_succ]
  have := Int.natAbs_add_le X Y
  generalize (4294967296 : Nat) ^ k = p at *
  omega
theorem Bd.neg {k : Nat} {X : Int} (h : Bd k X) : Bd k (-X) := by
  unfold Bd at *
  rw [Int.natAbs_neg]; exact h
theorem Bd.mul {k l : Nat} {X Y : Int} (h : Bd k X) (g : Bd l Y) : Bd (k + l) (X * Y) := by
  unfold Bd at *
  rw [Int.natAbs_mul, Nat.pow_add]
  exact Nat.mul_lt_mul'' h g
theorem Bd.of_len {ng : Bool} {xs : List Nat} {X : Int} (h : NumOk ng xs X) {k : Nat} (hk : xs.length ≤ k) : Bd k X := by
  have r := Lg.Rep.of_may h.low h.may
  rw [h.num] at r
  unfold Bd
  rw [← r.val]
  exact Nat.lt_of_lt_of_le (Dg.val_lt h.low) (Nat.pow_le_pow_right (by decide) hk)

def OpPost (V : World) (Z : Int) (e : Ending) (w' : World) : Prop := ∃ A' c' ng L, e = .returned (.tuple #[.agg #[.bool ng, .slice A' (List.length L) c'], .nilIface]) ∧ NumsAt .u32 w' w'.heap.size A' L ∧ (A' = none → c' = 0) ∧ NumOk ng L Z ∧ Grew V w'
theorem OwnNums.nocap {w0 w : World} {e : TypeId} {A : Option Addr} {c : Nat} {xs : List Nat} (h : OwnNums .u32 w0 w e A c xs) : A = none → c = 0 := fun hA => by
  rcases h.cases with ⟨_, h2, _⟩ | ⟨g, h1, _⟩
  · exact h2
  · rw [hA] at h1; cases h1
theorem OpPost.of {V w' : World} {Z : Int} {e : Ending} {ok : Bool} (h : GaveA V ok Z e w') (hok : ok = true) (hs : Lg.small Z) : OpPost V Z e w' := by
  obtain ⟨A', c', ng, L, k, he, hO, hP, hg⟩ := h
  obtain ⟨rfl, h2⟩ := (hP.yes hok).yes hs
  exact ⟨A', c', ng, L, by rw [he]; rfl, hO.at, hO.nocap, NumOk.of_rep h2 hs, hg⟩
section
variable {V : World} {na nb : Bool} {A B : Option Addr} {c d : Nat} {xs ys : List Nat} {X Y : Int} (ha : NumsAt .u32 V V.heap.size A xs) (hb : NumsAt .u32 V V.heap.size B ys) (hx : NumOk na xs X) (hy : NumOk nb ys Y)
include ha hb hx hy
theorem op_add {Z : Int} (hZ : Z = X + Y) (hs : Lg.small Z) : Calls Tryz.prog 7 #[.agg #[.bool na, .slice A xs.length c], .agg #[.bool nb, .slice B ys.length d]] V (OpPost V Z) :=
  (padd_c na A c xs nb B d ys V ha hb hx.low hy.low (by have := hx.len; omega) (by have := hy.len; omega)).mono fun e w' h => by
    rw [hx.may, hy.may, hx.num, hy.num, ← hZ] at h
    exact OpPost.of h rfl hs
theorem op_sub {Z : Int} (hZ : Z = X - Y) (hs : Lg.small Z) : Calls Tryz.prog 9 #[.agg #[.bool na, .slice A xs.length c], .agg #[.bool nb, .slice B ys.length d]] V (OpPost V Z) :=
  (psub_c na A c xs nb B d ys V ha hb hx.low hy.low (by have := hx.len; omega) (by have := hy.len; omega)).mono fun e w' h => by
    rw [hx.may, hy.may, hx.num, hy.num, show X + flip true Y = Z by rw [hZ, flip, if_pos rfl]; omega] at h
    exact OpPost.of h rfl hs
theorem op_mul {Z : Int} (hZ : Z = X * Y) (hs : Lg.small Z) : Calls Tryz.prog 10 #[.agg #[.bool na, .slice A xs.length c], .agg #[.bool nb, .slice B ys.length d]] V (OpPost V Z) :=
  (pmul_c na A c xs nb B d ys V ha hb hx.low hy.low (by have := hx.len; omega) (by have := hy.len; omega)).mono fun e w' h => by
    rw [hx.may, hy.may, hx.num, hy.num, ← hZ] at h
    exact OpPost.of h rfl hs
theorem op_cmp {p : Int} (hp : p = sgnOf (X - Y)) : Calls Tryz.prog 16 #[.agg #[.bool na, .slice A xs.length c], .agg #[.bool nb, .slice B ys.length d]] V fun e w' => e = .returned (.tuple #[.int .i64 p, .nilIface]) ∧ Grew V w' :=
  (ord_cmp (Grew.refl V) ha hb hx hy hp).mono fun _ _ ⟨he, hg⟩ => ⟨he, hg⟩
theorem op_div0 (hA : A = none → c = 0) (h0 : Y = 0) : Calls Tryz.prog 14 #[.agg #[.bool na, .slice A xs.length c], .agg #[.bool nb, .slice B ys.length d]] V fun e w' => ∃ (A1 : Option Addr) (c1 : Nat) (n1 : Bool) (L1 : List Nat) (A2 : Option Addr) (c2 : Nat) (n2 : Bool) (L2 : List Nat), e = .returned (.tuple #[.agg #[.bool n1, .slice A1 (List.length L1) c1], .agg #[.bool n2, .slice A2 (List.length L2) c2], errVal 10]) ∧ Grew V w' :=
  (pdivAll_c na A c xs nb B d ys V ha hb hx.low hy.low (by have := hx.len; omega) (by have := hy.len; omega) hA).mono fun e w' h => by
    obtain ⟨A1, c1, n1, L1, A2, c2, n2, L2, k, he, _, _, ho, hg⟩ := h
    rw [hx.may, hy.may, hx.num, hy.num] at ho
    obtain ⟨rfl, _⟩ := ho.zero rfl h0
    exact ⟨A1, c1, n1, L1, A2, c2, n2, L2, he, hg⟩
theorem op_div (hA : A = none → c = 0) (h0 : Y ≠ 0) (h1 : Lg.small (X.fdiv Y)) (h2 : Lg.small (X.fmod Y)) : Calls Tryz.prog 14 #[.agg #[.bool na, .slice A xs.length c], .agg #[.bool nb, .slice B ys.length d]] V fun e w' => ∃ (A1 : Option Addr) (c1 : Nat) (n1 : Bool) (L1 : List Nat) (A2 : Option Addr) (c2 : Nat) (n2 : Bool) (L2 : List Nat), e = .returned (.tuple #[.agg #[.bool n1, .slice A1 (List.length L1) c1], .agg #[.bool n2, .slice A2 (List.length L2) c2], .nilIface]) ∧ NumsAt .u32 w' w'.heap.size A1 L1 ∧ NumsAt .u32 w' w'.heap.size A2 L2 ∧ NumOk n1 L1 (X.fdiv Y) ∧ NumOk n2 L2 (X.fmod Y) ∧ Grew V w' :=
  (pdivAll_c na A c xs nb B d ys V ha hb hx.low hy.low (by have := hx.len; omega) (by have := hy.len; omega) hA).mono fun e w' h => by
    obtain ⟨A1, c1, n1, L1, A2, c2, n2, L2, k, he, o1, o2, ho, hg⟩ := h
    rw [hx.may, hy.may, hx.num, hy.num] at ho
    obtain ⟨rfl, r1, r2⟩ := ho.yes rfl h0
    exact ⟨A1, c1, n1, L1, A2, c2, n2, L2, by rw [he]; rfl, o1.at, o2.at, NumOk.of_rep r1 h1, NumOk.of_rep r2 h2, hg⟩
end
theorem op_text {V : World} {na : Bool} {A : Option Addr} {c : Nat} {xs : List Nat} {X : Int} (ha : NumsAt .u32 V V.heap.size A xs) (hx : NumOk na xs X) :
    Calls Tryz.prog 24 #[.agg #[.bool na, .slice A xs.length c]] V fun e w' => ∃ D, e = .returned (.tuple #[.string (Lg.strN (Lg.numeral na D)), .nilIface]) ∧ Lg.Dec D X.natAbs ∧ na = decide (X < 0) ∧ Grew V w' :=
  (ptext_c na A c xs V ha hx.low (by have := hx.len; omega)).mono fun e w' ⟨s, k, he, ho, hg⟩ => by
    obtain ⟨rfl, D, hD, rfl⟩ := ho.yes hx.may
    have r := Lg.Rep.of_may hx.low hx.may
    rw [hx.num] at r
    rw [r.val] at hD
    exact ⟨D, by rw [he]; rfl, hD, r.neg, hg⟩
theorem op_parse {V : World} {na : Bool} {D : List Nat} {X : Int} (hD : Lg.Dec D X.natAbs) (hn : na = decide (X < 0)) (hs : Lg.small X) :
    Calls Tryz.prog 22 #[.string (Lg.strN (Lg.numeral na D))] V (OpPost V X) :=
  (pparse_c _ V (by
    have h := (Lg.dec_len hD hs).2
    rw [show (Lg.strN (Lg.numeral na D)).size = (Lg.numeral na D).length by simp [Lg.strN, strOfNums, ByteArray.size]]
    unfold Lg.numeral
    cases na <;> simp <;> omega)).mono fun e w' ⟨A', c', ng, L, k, he, hO, ho, hg⟩ => by
    rw [Lg.bytes_strN (Lg.numeral_byte hD.low)] at ho
    obtain ⟨h1, h2⟩ := Lg.text_back hD hn hs
    have h3 := ho.yes h1
    rw [h2] at h3
    obtain ⟨rfl, h4⟩ := h3.yes hs
    exact ⟨A', c', ng, L, by rw [he]; rfl, hO.at, hO.nocap, NumOk.of_rep h4 hs, hg⟩
end Go.Proofs.YtmcfciifjgdgoaaGreatDoor
end

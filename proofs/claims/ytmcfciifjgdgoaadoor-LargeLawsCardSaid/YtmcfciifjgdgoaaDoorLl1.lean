/- Law 03's laws: what each call gives of numbers that may be, where what comes is not too long. -/
import Derived.Test.YtmcfciifjgdgoaaDoorOrder03
import Derived.Test.YtmcfciifjgdgoaaDoorMg48
import Derived.Test.YtmcfciifjgdgoaaDoorPl10
import Derived.Test.YtmcfciifjgdgoaaDoorPl13
namespace Go.Proofs.YtmcfciifjgdgoaaDoor
open Go.RowKit

/-- A number of at most k words. -/
def Bd (k : Nat) (X : Int) : Prop := X.natAbs < 4294967296 ^ k
theorem Bd.mono {k l : Nat} {X : Int} (h : Bd k X) (hl : k ≤ l) : Bd l X := Nat.lt_of_lt_of_le h (Nat.pow_le_pow_right (by decide) hl)
theorem Bd.small {k : Nat} {X : Int} (h : Bd k X) (hk : k ≤ 64) : Lg.small X := h.mono hk
theorem Bd.add {k : Nat} {X Y : Int} (h : Bd k X) (g : Bd k Y) : Bd (k + 1) (X + Y) := by
  unfold Bd at *
  rw [Nat.pow_succ]
  have := Int.natAbs_add_le X Y
  generalize (4294967296 : Nat) ^ k = p at *
  omega
theorem Bd.neg {k : Nat} {X : Int} (h : Bd k X) : Bd k (-X) := by
  unfold Bd at *
  rw [Int.natAbs_neg]; exact h
theorem Bd.mul {k l : Nat} {X Y : Int} (h : Bd k X) (g : Bd l Y) : Bd (k + l) (X * Y) := by
  unfold Bd at *
  rw [Int.natAbs_mul, Nat.pow_add]
  exact Nat.mul_lt_mul'' h g
theorem Bd.of_len {ng : Bool} {xs : List Nat} {X : Int} (h : NumOk ng xs X) {k : Nat} (hk : xs.length ≤ k) : Bd k X := by
  have r := Lg.Rep.of_may h.low h.may
  rw [h.num] at r
  unfold Bd
  rw [← r.val]
  exact Nat.lt_of_lt_of_le (Dg.val_lt h.low) (Nat.pow_le_pow_right (by decide) hk)

def OpPost (V : World) (Z : Int) (e : Ending) (w' : World) : Prop := ∃ A' c' ng L, e = .returned (.tuple #[.agg #[.bool ng, .slice A' (List.length L) c'], .nilIface]) ∧ NumsAt .u32 w' w'.heap.size A' L ∧ (A' = none → c' = 0) ∧ NumOk ng L Z ∧ Grew V w'
theorem OwnNums.nocap {w0 w : World} {e : TypeId} {A : Option Addr} {c : Nat} {xs : List Nat} (h : OwnNums .u32 w0 w e A c xs) : A = none → c = 0 := fun hA => by
  rcases h.cases with ⟨_, h2, _⟩ | ⟨g, h1, _⟩
  · exact h2
  · rw [hA] at h1; cases h1
theorem OpPost.of {V w' : World} {Z : Int} {e : Ending} {ok : Bool} (h : GaveA V ok Z e w') (hok : ok = true) (hs : Lg.small Z) : OpPost V Z e w' := by
  obtain ⟨A', c', ng, L, k, he, hO, hP, hg⟩ := h
  obtain ⟨rfl, h2⟩ := (hP.yes hok).yes hs
  exact ⟨A', c', ng, L, by rw [he]; rfl, hO.at, hO.nocap, NumOk.of_rep h2 hs, hg⟩
section
variable {V : World} {na nb : Bool} {A B : Option Addr} {c d : Nat} {xs ys : List Nat} {X Y : Int} (ha : NumsAt .u32 V V.heap.size A xs) (hb : NumsAt .u32 V V.heap.size B ys) (hx : NumOk na xs X) (hy : NumOk nb ys Y)
include ha hb hx hy
theorem op_add {Z : Int} (hZ : Z = X + Y) (hs : Lg.small Z) : Calls Tryd.prog 9 #[.agg #[.bool na, .slice A xs.length c], .agg #[.bool nb, .slice B ys.length d]] V (OpPost V Z) :=
  (padd_c na A c xs nb B d ys V ha hb hx.low hy.low (by have := hx.len; omega) (by have := hy.len; omega)).mono fun e w' h => by
    rw [hx.may, hy.may, hx.num, hy.num, ← hZ] at h
    exact OpPost.of h rfl hs
theorem op_sub {Z : Int} (hZ : Z = X - Y) (hs : Lg.small Z) : Calls Tryd.prog 11 #[.agg #[.bool na, .slice A xs.length c], .agg #[.bool nb, .slice B ys.length d]] V (OpPost V Z) :=
  (psub_c na A c xs nb B d ys V ha hb hx.low hy.low (by have := hx.len; omega) (by have := hy.len; omega)).mono fun e w' h => by
    rw [hx.may, hy.may, hx.num, hy.num, show X + flip true Y = Z by rw [hZ, flip, if_pos rfl]; omega] at h
    exact OpPost.of h rfl hs
theorem op_mul {Z : Int} (hZ : Z = X * Y) (hs : Lg.small Z) : Calls Tryd.prog 12 #[.agg #[.bool na, .slice A xs.length c], .agg #[.bool nb, .slice B ys.length d]] V (OpPost V Z) :=
  (pmul_c na A c xs nb B d ys V ha hb hx.low hy.low (by have := hx.len; omega) (by have := hy.len; omega)).mono fun e w' h => by
    rw [hx.may, hy.may, hx.num, hy.num, ← hZ] at h
    exact OpPost.of h rfl hs
theorem op_cmp {p : Int} (hp : p = sgnOf (X - Y)) : Calls Tryd.prog 13 #[.agg #[.bool na, .slice A xs.length c], .agg #[.bool nb, .slice B ys.length d]] V fun e w' => e = .returned (.tuple #[.int .i64 p, .nilIface]) ∧ Grew V w' :=
  (ord_cmp (Grew.refl V) ha hb hx hy hp).mono fun _ _ ⟨he, hg⟩ => ⟨he, hg⟩
theorem op_same (hXY : X = Y) : Calls Tryd.prog 14 #[.agg #[.bool na, .slice A xs.length c], .agg #[.bool nb, .slice B ys.length d]] V fun e w' => e = .returned (.bool true) ∧ Grew V w' :=
  (same_c na A c xs nb B d ys V ha hb (by have := hy.len; omega)).mono fun e w' ⟨he, hg⟩ => ⟨by rw [he, decide_eq_true ((hx.same hy).2 hXY)], hg⟩
theorem op_div0 (hA : A = none → c = 0) (h0 : Y = 0) : Calls Tryd.prog 15 #[.agg #[.bool na, .slice A xs.length c], .agg #[.bool nb, .slice B ys.length d]] V fun e w' => ∃ (A1 : Option Addr) (c1 : Nat) (n1 : Bool) (L1 : List Nat) (A2 : Option Addr) (c2 : Nat) (n2 : Bool) (L2 : List Nat), e = .returned (.tuple #[.agg #[.bool n1, .slice A1 (List.length L1) c1], .agg #[.bool n2, .slice A2 (List.length L2) c2], errVal 10]) ∧ Grew V w' :=
  (pdivAll_c na A c xs nb B d ys V ha hb hx.low hy.low (by have := hx.len; omega) (by have := hy.len; omega) hA).mono fun e w' h => by
    obtain ⟨A1, c1, n1, L1, A2, c2, n2, L2, k, he, _, _, ho, hg⟩ := h
    rw [hx.may, hy.may, hx.num, hy.num] at ho
    obtain ⟨rfl, _⟩ := ho.zero rfl h0
    exact ⟨A1, c1, n1, L1, A2, c2, n2, L2, he, hg⟩
theorem op_div (hA : A = none → c = 0) (h0 : Y ≠ 0) (h1 : Lg.small (X.fdiv Y)) (h2 : Lg.small (X.fmod Y)) : Calls Tryd.prog 15 #[.agg #[.bool na, .slice A xs.length c], .agg #[.bool nb, .slice B ys.length d]] V fun e w' => ∃ (A1 : Option Addr) (c1 : Nat) (n1 : Bool) (L1 : List Nat) (A2 : Option Addr) (c2 : Nat) (n2 : Bool) (L2 : List Nat), e = .returned (.tuple #[.agg #[.bool n1, .slice A1 (List.length L1) c1], .agg #[.bool n2, .slice A2 (List.length L2) c2], .nilIface]) ∧ NumsAt .u32 w' w'.heap.size A1 L1 ∧ NumsAt .u32 w' w'.heap.size A2 L2 ∧ NumOk n1 L1 (X.fdiv Y) ∧ NumOk n2 L2 (X.fmod Y) ∧ Grew V w' :=
  (pdivAll_c na A c xs nb B d ys V ha hb hx.low hy.low (by have := hx.len; omega) (by have := hy.len; omega) hA).mono fun e w' h => by
    obtain ⟨A1, c1, n1, L1, A2, c2, n2, L2, k, he, o1, o2, ho, hg⟩ := h
    rw [hx.may, hy.may, hx.num, hy.num] at ho
    obtain ⟨rfl, r1, r2⟩ := ho.yes rfl h0
    exact ⟨A1, c1, n1, L1, A2, c2, n2, L2, by rw [he]; rfl, o1.at, o2.at, NumOk.of_rep r1 h1, NumOk.of_rep r2 h2, hg⟩
end
theorem op_text {V : World} {na : Bool} {A : Option Addr} {c : Nat} {xs : List Nat} {X : Int} (ha : NumsAt .u32 V V.heap.size A xs) (hx : NumOk na xs X) :
    Calls Tryd.prog 17 #[.agg #[.bool na, .slice A xs.length c]] V fun e w' => ∃ D, e = .returned (.tuple #[.string (Lg.strN (Lg.numeral na D)), .nilIface]) ∧ Lg.Dec D X.natAbs ∧ na = decide (X < 0) ∧ Grew V w' :=
  (ptext_c na A c xs V ha hx.low (by have := hx.len; omega)).mono fun e w' ⟨s, k, he, ho, hg⟩ => by
    obtain ⟨rfl, D, hD, rfl⟩ := ho.yes hx.may
    have r := Lg.Rep.of_may hx.low hx.may
    rw [hx.num] at r
    rw [r.val] at hD
    exact ⟨D, by rw [he]; rfl, hD, r.neg, hg⟩
theorem op_parse {V : World} {na : Bool} {D : List Nat} {X : Int} (hD : Lg.Dec D X.natAbs) (hn : na = decide (X < 0)) (hs : Lg.small X) :
    Calls Tryd.prog 18 #[.string (Lg.strN (Lg.numeral na D))] V (OpPost V X) :=
  (pparse_c _ V (by
    have h := (Lg.dec_len hD hs).2
    rw [show (Lg.strN (Lg.numeral na D)).size = (Lg.numeral na D).length by simp [Lg.strN, strOfNums, ByteArray.size]]
    unfold Lg.numeral
    cases na <;> simp <;> omega)).mono fun e w' ⟨A', c', ng, L, k, he, hO, ho, hg⟩ => by
    rw [Lg.bytes_strN (Lg.numeral_byte hD.low)] at ho
    obtain ⟨h1, h2⟩ := Lg.text_back hD hn hs
    have h3 := ho.yes h1
    rw [h2] at h3
    obtain ⟨rfl, h4⟩ := h3.yes hs
    exact ⟨A', c', ng, L, by rw [he]; rfl, hO.at, hO.nocap, NumOk.of_rep h4 hs, hg⟩
end Go.Proofs.YtmcfciifjgdgoaaDoor

/- The document's own answers for law 07: put. -/
import Derived.Test.YtjmlcplhilhkpaaDoorOp2
namespace Go.Proofs.YtjmlcplhilhkpaaDoor
open Go.RowKit

theorem op_u8 : (Tryd.prog.info? 5).map (fun i => (i.zero, i.size, i.bytes)) = some (some (.int .u8 0), 1, 1) := by kernel_rfl

/-- What 'put' writes, whether the number fits or not. -/
def beI (n : Int) : Nat → List Nat
  | 0 => []
  | 1 => [(n % 256).toNat]
  | _ => [(n.tdiv 256 % 256).toNat, (n.tmod 256 % 256).toNat]
theorem beI_be {n : Int} {w : Nat} (h : w ≤ 2) (hf : Op7.fits n w) : beI n w = Op7.be n.toNat w := by
  obtain ⟨h0, h1⟩ := hf
  rcases (by omega : w = 0 ∨ w = 1 ∨ w = 2) with rfl | rfl | rfl
  · rfl
  · simp only [beI, Op7.be]
    congr 1; omega
  · simp only [beI, Op7.be]
    rw [Int.tdiv_eq_ediv_of_nonneg h0, Int.tmod_eq_emod_of_nonneg h0]
    congr 1
    · omega
    · congr 1; omega
theorem beI_len (n : Int) {w : Nat} (h : w ≤ 2) : (beI n w).length = w := by
  rcases (by omega : w = 0 ∨ w = 1 ∨ w = 2) with rfl | rfl | rfl <;> rfl
theorem beI_byte (n : Int) (w : Nat) : ∀ x ∈ beI n w, x < 256 := by
  intro x hx
  unfold beI at hx
  split at hx
  · simp at hx
  · simp at hx; omega
  · simp at hx; omega
theorem fits_0 (n : Int) : Op7.fits n 0 ↔ n = 0 := by unfold Op7.fits; rw [Int.pow_zero]; omega
theorem fits_1 (n : Int) : Op7.fits n 1 ↔ 0 ≤ n ∧ n < 256 := by unfold Op7.fits; rw [show (256 : Int) ^ 1 = 256 by decide]
theorem fits_2 (n : Int) : Op7.fits n 2 ↔ 0 ≤ n ∧ n < 65536 := by unfold Op7.fits; rw [show (256 : Int) ^ 2 = 65536 by decide]
theorem OwnNums.two {W : World} {e : TypeId} {k : IntKind} {u v : Value} {x y : Nat} (hu : u = .int k (x : Nat)) (hv : v = .int k (y : Nat)) : NumsAt k (W.alloc (.cells #[u, v] e)) (W.alloc (.cells #[u, v] e)).heap.size (some ⟨W.heap.size, 0, none⟩) [x, y] := by
  subst hu hv
  intro _
  refine ⟨_, rfl, by simp, fun j hj => ?_⟩
  rcases (by simpa using hj : j < 2) with h
  rcases (by omega : j = 0 ∨ j = 1) with rfl | rfl
  · rw [add_zero]; simp
  · simp [Addr.add]

theorem int_same {k : IntKind} {a b : Int} (h : a = b) : Value.int k a = .int k b := by rw [h]
theorem wrap64_low (x : Int) : wrap64 x % 256 = x % 256 := by unfold wrap64; omega
def RPutPost (w0 : World) (xs : List Nat) (n : Int) (k : Nat) (e : Ending) (w' : World) : Prop :=
  ∃ A' c' L, e = .returned (.tuple #[.slice A' (List.length L) c', .bool (decide (Op7.fits n k))]) ∧ L = xs ++ beI n k ∧ OwnNums .u8 w0 w' 5 A' c' L ∧ Grew w0 w'
set_option maxRecDepth 100000 in
set_option maxHeartbeats 2000000 in
theorem rput_c (A : Option Addr) (c : Nat) (xs : List Nat) (n : Int) (k : Nat) (w0 w : World) (hk : k ≤ 2) (h : OwnNums .u8 w0 w 5 A c xs) (hg : Grew w0 w) (hl : xs.length ≤ 1000000000000) :
    Calls Tryd.prog 25 #[.slice A xs.length c, .int .i64 n, .int .i64 (k : Nat)] w (RPutPost w0 xs n k) := by
  have H := hid h
  have HG := hid hg
  clear h hg
  rcases (by omega : k = 0 ∨ k = 1 ∨ k = 2) with rfl | rfl | rfl
  · have e0 : decide (Op7.fits n 0) = (n == 0) := by rw [decide_eq_decide.2 (fits_0 n)]; rfl
    rw [show ((0 : Nat) : Int) = 0 from rfl]
    go_enter Tryd.func25, Tryd.ntmps25
    go_wp2_with fail
    go_ret2
    exact ⟨A, c, xs, by rw [e0]; rfl, by simp [beI], H.out, HG.out⟩
  · have e1 := hid (fits_1 n)
    have HU := hid (show Value.int IntKind.u8 (IntKind.u8.wrap n) = .int .u8 (((n % 256).toNat : Nat) : Int) by rw [IntKind.wrap_u8']; congr 1; omega)
    rw [show ((1 : Nat) : Int) = 1 from rfl]
    go_enter Tryd.func25, Tryd.ntmps25
    by_cases h0 : 0 ≤ n
    · by_cases h1 : n < 256
      all_goals
        have ed := hid (show decide (Op7.fits n 1) = decide (n < 256) by rw [decide_eq_decide, e1.out]; omega)
        go_wp2_with (at_builtin; refine wpList_push .u8 1 w0 w rfl _ _ 23 5 rfl Tryd.underlying23 op_u8 HG.out A c xs rfl H.out (n % 256).toNat _ rfl rfl _ (by first | exact HU.out | (congr 1; omega)) (by omega) (by omega) ?_; rintro A2 c2 W3 hO3 hG3)
        go_ret2
        exact ⟨A2, c2, xs ++ [(n % 256).toNat], by rw [ed.out]; simp [*], rfl, hO3, hG3⟩
    · have ed := hid (show decide (Op7.fits n 1) = false by rw [decide_eq_false_iff_not, e1.out]; omega)
      go_wp2_with (at_builtin; refine wpList_push .u8 1 w0 w rfl _ _ 23 5 rfl Tryd.underlying23 op_u8 HG.out A c xs rfl H.out (n % 256).toNat _ rfl rfl _ (by first | exact HU.out | (congr 1; omega)) (by omega) (by omega) ?_; rintro A2 c2 W3 hO3 hG3)
      go_ret2
      exact ⟨A2, c2, xs ++ [(n % 256).toNat], by rw [ed.out]; simp [*], rfl, hO3, hG3⟩
  · have e1 := hid (fits_2 n)
    have HU := hid (show Value.int IntKind.u8 (IntKind.u8.wrap (n.tdiv 256)) = .int .u8 (((n.tdiv 256 % 256).toNat : Nat) : Int) by rw [IntKind.wrap_u8']; congr 1; omega)
    have HV := hid (show Value.int IntKind.u8 (IntKind.u8.wrap (n.tmod 256)) = .int .u8 (((n.tmod 256 % 256).toNat : Nat) : Int) by rw [IntKind.wrap_u8']; congr 1; omega)
    rw [show ((2 : Nat) : Int) = 2 from rfl]
    go_enter Tryd.func25, Tryd.ntmps25
    by_cases h0 : 0 ≤ n
    · by_cases h1 : n < 65536
      all_goals
        have ed := hid (show decide (Op7.fits n 2) = decide (n < 65536) by rw [decide_eq_decide, e1.out]; omega)
        go_wp2_with (at_builtin; refine wpList_catM .u8 1 w0 _ rfl _ _ 23 5 rfl Tryd.underlying23 op_u8 (HG.out.alloc _) A c xs rfl (H.out.alloc _) (some ⟨w.heap.size, 0, none⟩) 2 [(n.tdiv 256 % 256).toNat, (n.tmod 256 % 256).toNat] rfl (OwnNums.two (by first | exact HU.out | exact int_same (by rw [wrap64_low]; omega) | exact int_same (by omega) | exact int_same (by rw [Int.tdiv_eq_ediv_of_nonneg h0]; omega)) (by first | exact HV.out | exact int_same (by omega) | exact int_same (by rw [Int.tmod_eq_emod_of_nonneg h0]; omega))) (by simp; omega) (by simp; omega) ?_; rintro A2 c2 M W3 HM hO3 hG3)
        go_ret2
        exact ⟨A2, c2, M, by rw [ed.out]; simp [*], HM.out, hO3, hG3⟩
    · have ed := hid (show decide (Op7.fits n 2) = false by rw [decide_eq_false_iff_not, e1.out]; omega)
      go_wp2_with (at_builtin; refine wpList_catM .u8 1 w0 _ rfl _ _ 23 5 rfl Tryd.underlying23 op_u8 (HG.out.alloc _) A c xs rfl (H.out.alloc _) (some ⟨w.heap.size, 0, none⟩) 2 [(n.tdiv 256 % 256).toNat, (n.tmod 256 % 256).toNat] rfl (OwnNums.two (by first | exact HU.out | exact int_same (by rw [wrap64_low]; omega) | exact int_same (by omega) | exact int_same (by rw [Int.tdiv_eq_ediv_of_nonneg h0]; omega)) (by first | exact HV.out | exact int_same (by omega) | exact int_same (by rw [Int.tmod_eq_emod_of_nonneg h0]; omega))) (by simp; omega) (by simp; omega) ?_; rintro A2 c2 M W3 HM hO3 hG3)
      go_ret2
      exact ⟨A2, c2, M, by rw [ed.out]; simp [*], HM.out, hO3, hG3⟩
end Go.Proofs.YtjmlcplhilhkpaaDoor

/- Stage 10: Count, Under, number, Of, Owner. -/
import Derived.Test.YtjladeiecokpfaaGreatDoorCsC
namespace Go.Proofs.YtjladeiecokpfaaGreatDoor
open Go.RowKit

namespace Cs
/-- How many variables the classes of a list of numbers have. -/
def total (l : List Cls) (a : List Nat) : Nat := (a.map fun i => ((((l[i]?).map (·.vars)).getD []).length)).sum
theorem total_snoc (l : List Cls) (a : List Nat) (i : Nat) {x : Cls} (h : l[i]? = some x) : total l (a ++ [i]) = total l a + x.vars.length := by
  unfold total
  rw [List.map_append, List.sum_append, List.map_cons, List.map_nil, h]
  simp
theorem total_names (l : List Cls) (c : Int) : (names l c).length = total l (chain l c) := by
  unfold names total
  rw [List.length_flatMap, List.map_reverse, List.sum_reverse]
theorem total_le {l : List Cls} (h : ∀ x ∈ l, x.vars.length ≤ 100) : ∀ (a : List Nat), total l a ≤ 100 * a.length
  | [] => by simp [total]
  | i :: a => by
    have h1 := total_le h a
    unfold total at h1 ⊢
    rw [List.map_cons, List.sum_cons, List.length_cons]
    have : (((l[i]?).map (·.vars)).getD []).length ≤ 100 := by
      cases hx : l[i]? with
      | none => simp
      | some x => exact h x (List.mem_of_getElem? hx)
    omega
end Cs
theorem rown_at {w wr : World} {B : Nat} {A : Option Addr} {c : Nat} {xs : List Nat} (h : RowN w B A c xs) (hg : Grew w wr) {i : Nat} (hi : i < xs.length) : ∃ g d, A = some ⟨g, 0, none⟩ ∧ xs[i]? = some d ∧ wr.cell? ⟨g, i, none⟩ = some (.int .i64 ((d : Nat) : Int)) ∧ g < wr.heap.size := by
  have hx := List.getElem?_eq_getElem hi
  rcases Row.cases h with ⟨hl, _, _, ⟨rfl, hn, _⟩ | ⟨g, rfl, hb, hlt, hc, _⟩⟩
  · omega
  · refine ⟨g, _, rfl, hx, (hg.below.cell (p := ⟨g, i, none⟩) hlt).trans (hc i _ ?_), Nat.lt_of_lt_of_le hlt hg.below.size⟩
    simp [numCells, hx]
theorem rown_ints {w : World} {B : Nat} {A : Option Addr} {c : Nat} {xs : List Nat} (h : RowN w B A c xs) (hx : ∀ x ∈ xs, x < 1000000) : IntsAt w w.heap.size A (xs.map fun x => ((x : Nat) : Int)) := by
  refine ⟨fun y hy => ?_, fun hn => ?_⟩
  · obtain ⟨x, h1, rfl⟩ := List.mem_map.1 hy
    have := hx x h1
    exact ⟨by omega, by omega⟩
  · rw [List.length_map] at hn
    obtain ⟨g, d, rfl, _, _, hlt⟩ := rown_at h (Grew.refl w) hn
    refine ⟨_, rfl, hlt, fun j hj => ?_⟩
    rw [List.length_map] at hj
    obtain ⟨g', d', e, hd, hc, _⟩ := rown_at h (Grew.refl w) hj
    simp only [Option.some.injEq, Addr.mk.injEq, and_true] at e
    subst e
    rw [show (⟨g, 0, none⟩ : Addr).add j = ⟨g, j, none⟩ by unfold Addr.add; split <;> simp_all, hc]
    simp [List.getD_eq_getElem?_getD, hd]
set_option maxRecDepth 100000 in
set_option maxHeartbeats 2000000 in
theorem count_c (A : Option Addr) (cap : Nat) (l : List CV) (x : Int) (w : World) (h : ClsAt w A l) :
    Calls Tryz.prog 23 #[.slice A l.length cap, .int .i64 x] w fun e w' => e = .returned (.int .i64 (((Cs.names (cls l) x).length : Nat) : Int)) ∧ Grew w w' := by
  rw [Cs.total_names]
  have HA := hid h
  have HC := hid (chain_c A cap l x w h)
  have HL := hid (Cs.chain_le (cls l) x)
  have HM := hid (Cs.chain_mem (cls l) x)
  obtain ⟨n, en⟩ : ∃ n, n = l.length := ⟨_, rfl⟩
  rw [← en] at HC ⊢
  have EN := hid en
  have hn : n ≤ 100 := by rw [en]; exact h.len
  have HT := hid (Cs.total_le h.fit.vars)
  clear h en
  generalize Cs.chain (cls l) x = R at *
  obtain ⟨T, hT⟩ : ∃ T, T = Cs.total (cls l) R := ⟨_, rfl⟩
  rw [← hT]
  have HE := hid hT
  clear hT
  go_enter Tryz.func23, Tryz.ntmps23
  go_wp2_with fail
  refine HC.out.mono ?_
  rintro e w1 ⟨B, k, rfl, hr, hg⟩
  have HR := hid hr
  have HG := hid hg
  obtain ⟨m, em⟩ : ∃ m, m = R.length := ⟨_, rfl⟩
  rw [← em]
  have EM := hid em
  have hm : m ≤ 100 := by have := HL.out; rw [cls_len, ← EN.out] at this; omega
  clear hr hg em
  go_wp2_with fail
  go_loop [5, 7, 12] (fun s5 _ s12 => ∃ i : Nat, s12 = .int .i64 ((i : Nat) : Int) ∧ i ≤ m ∧ s5 = .int .i64 ((Cs.total (cls l) (R.take i) : Nat) : Int)) (fun _ _ s12 => m - (intOf s12).toNat)
  case atStart => exact ⟨0, rfl, Nat.zero_le _, rfl⟩
  case round =>
    obtain ⟨i, rfl, hi, rfl⟩ := hrel
    by_cases hlt : i < m
    · have f1 : (i : Int) < m := by omega
      obtain ⟨g, d, rfl, hd, q0, hb⟩ := rown_at HR.out (Grew.refl _) (i := i) (by rw [← EM.out]; exact hlt)
      have hdn : d < n := by have := HM.out d (List.mem_of_getElem? hd); rwa [cls_len, ← EN.out] at this
      obtain ⟨ad, v, rfl, hv, r0, r1, r2, r3, hb2, -⟩ := cv_at HA.out HG.out (i := d) (by rw [← EN.out]; exact hdn)
      have HS := hid (show Cs.total (cls l) (R.take (i + 1)) = Cs.total (cls l) (R.take i) + v.c.vars.length by
        rw [List.take_add_one, hd]; exact Cs.total_snoc _ _ _ (cls_at hv))
      have hb3 : Cs.total (cls l) (R.take i) ≤ 100 * 100 := Nat.le_trans (HT.out _) (by rw [List.length_take]; omega)
      have hb4 : v.c.vars.length ≤ 100 := HA.out.fit.vars _ (HA.out.mem (List.mem_of_getElem? hv))
      generalize Cs.total (cls l) (R.take i) = t at *
      generalize v.c.vars.length = nv at *
      clear hd hv r0 r1 r3
      go_wp2_with fail
      go_round
      case rel => exact ⟨i + 1, by go_num, by omega, by rw [HS.out]; go_num⟩
      case measure => simp [intOf]; omega
    · have hin : i = m := by omega
      subst hin
      go_wp2_with fail
      go_ret
      refine ⟨?_, HG.out⟩
      rw [HE.out]
      conv => rhs; rw [← List.take_length (l := R), ← EM.out]
      rfl
set_option maxRecDepth 100000 in
set_option maxHeartbeats 1000000 in
theorem under_c (A : Option Addr) (cap : Nat) (l : List CV) (x y : Int) (w : World) (h : ClsAt w A l) :
    Calls Tryz.prog 24 #[.slice A l.length cap, .int .i64 x, .int .i64 y] w fun e w' => e = .returned (.bool (Cs.under (cls l) x y)) ∧ Grew w w' := by
  have HC := hid (chain_c A cap l x w h)
  have HL := hid (Cs.chain_le (cls l) x)
  have HM := hid (Cs.chain_mem (cls l) x)
  have hn : l.length ≤ 100 := h.len
  obtain ⟨b, hb⟩ : ∃ b, b = Cs.under (cls l) x y := ⟨_, rfl⟩
  rw [← hb]
  unfold Cs.under at hb
  have HB := hid hb
  clear hb
  rw [cls_len] at HL
  have HM2 := hid (fun d hd => Nat.lt_of_lt_of_le (HM.out d hd) (show (cls l).length ≤ 1000000 by rw [cls_len]; omega))
  clear h HM
  generalize Cs.chain (cls l) x = R at *
  generalize l.length = n at *
  go_enter Tryz.func24, Tryz.ntmps24
  go_wp2_with fail
  refine HC.out.mono ?_
  rintro e w1 ⟨B, k, rfl, hr, hg⟩
  have HK := hid (hasInt_c y B k _ w1 (rown_ints hr HM2.out) (by rw [List.length_map]; have := HL.out; omega))
  rw [List.length_map, List.any_map] at HK
  have HG := hid hg
  clear hr hg
  replace HK := hid (HK.out.mono fun e w' (h : _ ∧ _) => (⟨h.1.trans (congrArg (fun z => Ending.returned (.bool z)) HB.out.symm), h.2⟩ : e = .returned (.bool b) ∧ w' = w1))
  generalize R.length = m at *
  go_wp2_with fail
  refine HK.out.mono ?_
  rintro e w2 ⟨rfl, rfl⟩
  go_wp2_with fail
  go_ret
  exact ⟨rfl, HG.out⟩
/-- What 'number' answers. -/
def FindPost (w : World) (r : Option Nat) (e : Ending) (w' : World) : Prop := e = .returned (.tuple #[.int .i64 ((r.getD 0 : Nat) : Int), .bool r.isSome]) ∧ Grew w w'
set_option maxRecDepth 100000 in
set_option maxHeartbeats 1000000 in
theorem cnumber_c (g : Nat) (lb : Array Value) (eg : ∀ args w, (callFunc g args).run Tryz.prog w = .ok (.enter g args) w) (p : CV → Bool) (A : Option Addr) (c : Nat) (l : List CV) (w : World) (h : ClsArg w A l) (hl : l.length ≤ 1000000)
    (hp : ∀ x ∈ l, ∀ W, Grew w W → Calls Tryz.prog g (#[.agg (cvCells x)] ++ lb) W fun e w' => e = .returned (.bool (p x)) ∧ Grew W w') :
    Calls Tryz.prog 38 #[.slice A l.length c, .func (.func g) #[] lb] w (FindPost w (l.findIdx? p)) := by
  have HI := hid (idxCls_c g lb eg p A c l w h hl hp)
  clear h hp hl eg
  unfold IdxPost at HI
  generalize l.findIdx? p = r at *
  generalize l.length = n at *
  cases r with
  | none =>
    go_enter Tryz.func38, Tryz.ntmps38
    go_wp2_with fail
    refine HI.out.mono ?_
    rintro e w1 ⟨rfl, hg⟩
    rw [show optI none = -1 from rfl]
    have HG := hid hg
    clear hg
    go_wp2_with fail
    go_ret2
    exact ⟨rfl, HG.out⟩
  | some i =>
    go_enter Tryz.func38, Tryz.ntmps38
    go_wp2_with fail
    refine HI.out.mono ?_
    rintro e w1 ⟨rfl, hg⟩
    rw [show optI (some i) = ((i : Nat) : Int) from rfl]
    have HG := hid hg
    clear hg
    go_wp2_with fail
    go_ret2
    exact ⟨rfl, HG.out⟩
end Go.Proofs.YtjladeiecokpfaaGreatDoor

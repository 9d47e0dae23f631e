/- The document's own checksum: Of, Seal, Open. -/
import Derived.Test.YtmcfciifjgdgoaaDoorSu6
import Derived.Test.YtmcfciifjgdgoaaDoorFacts2
import Derived.Deep.DeepCutAuto
namespace Go.Proofs.YtmcfciifjgdgoaaDoor
open Go.RowKit

set_option maxRecDepth 100000 in
set_option maxHeartbeats 1000000 in
theorem rof_c (A : Option Addr) (c : Nat) (xs : List Nat) (w : World) (ha : NumsAt .u8 w w.heap.size A xs) (hx : ∀ x ∈ xs, x < 256) (hl : xs.length ≤ 100000) :
    Calls Tryd.prog 23 #[.slice A xs.length c] w fun e w' => e = .returned (.int .u32 ((Su.sum xs : Nat) : Int)) ∧ w' = w := by
  have HA := hid ha
  have HX := hid hx
  clear ha hx
  obtain ⟨n, en⟩ : ∃ n, n = xs.length := ⟨_, rfl⟩
  have EN := hid en
  rw [← en] at hl ⊢
  clear en
  go_enter Tryd.func23, Tryd.ntmps23
  go_wp2_with fail
  go_loop [3, 4, 5] (fun s3 s4 s5 => ∃ (a b i : Nat), s3 = .int .i64 ((a : Nat) : Int) ∧ s4 = .int .i64 ((b : Nat) : Int) ∧ s5 = .int .i64 ((i : Nat) : Int) ∧ i ≤ n ∧ a < 65521 ∧ b < 65521 ∧ Hid ((a, b) = Su.run Su.one (xs.take i))) (fun _ _ s5 => n - (intOf s5).toNat)
  case atStart => exact ⟨1, 0, 0, rfl, rfl, rfl, Nat.zero_le _, by decide, by decide, hid rfl⟩
  case round =>
    obtain ⟨a, b, i, rfl, rfl, rfl, hi, h1, h2, HR⟩ := hrel
    by_cases hlt : i < n
    · have hlt' : (i : Int) < n := by omega
      obtain ⟨ad, rfl, hb, hcell⟩ := HA.out (by have := EN.out; omega)
      have hc := hcell i (by have := EN.out; omega)
      obtain ⟨x, ex⟩ : ∃ x, x = xs.getD i 0 := ⟨_, rfl⟩
      have hx : x < 256 := by
        rw [ex]
        refine HX.out _ ?_
        have := EN.out
        simp [List.getD_eq_getElem?_getD, show i < xs.length by omega]
      rw [← ex] at hc
      have HS := hid (show Su.st (a, b) x = Su.run Su.one (xs.take (i + 1)) by
        rw [Dg.take_succ (by have := EN.out; omega), ← ex, Su.run_snoc, ← HR.out])
      clear hcell hb ex HR
      go_wp2_with fail
      go_round
      case rel => exact ⟨(Su.st (a, b) x).1, (Su.st (a, b) x).2, i + 1, by simp only [Su.st]; congr 1, by simp only [Su.st]; congr 1 <;> omega, by go_num, by omega, (Su.st_ok _ _).1, (Su.st_ok _ _).2, HS⟩
      case measure => simp [intOf]; omega
    · obtain rfl : i = n := by omega
      have HE := hid (show b * 65536 + a = Su.sum xs by
        have := HR.out
        rw [EN.out, List.take_length] at this
        unfold Su.sum
        rw [← this])
      clear HR hlt
      go_wp2_with fail
      go_ret
      exact ⟨by rw [← HE.out]; congr 2 <;> omega, rfl⟩

set_option maxRecDepth 100000 in
set_option maxHeartbeats 1000000 in
theorem rseal_c (A : Option Addr) (c : Nat) (xs : List Nat) (w : World) (ha : NumsAt .u8 w w.heap.size A xs) (hx : ∀ x ∈ xs, x < 256) (hl : xs.length ≤ 100000) :
    Calls Tryd.prog 25 #[.slice A xs.length c] w fun e w' => ∃ A' c' M, e = .returned (.slice A' (List.length M) c') ∧ M = Su.seald xs ∧ OwnNums .u8 w w' 5 A' c' M ∧ Grew w w' := by
  have HA := hid ha
  have CO := hid (rof_c A c xs w ha hx hl)
  clear ha hx
  obtain ⟨n, en⟩ : ∃ n, n = xs.length := ⟨_, rfl⟩
  have EN := hid en
  rw [← en] at hl CO ⊢
  clear en
  go_enter Tryd.func25, Tryd.ntmps25
  go_wp2_with fail
  refine CO.out.mono ?_
  rintro e w1 ⟨rfl, hw⟩
  subst hw
  obtain ⟨s, es⟩ : ∃ s, s = Su.sum xs := ⟨_, rfl⟩
  have hs := Su.sum_lt xs
  rw [← es] at hs ⊢
  have ES := hid es
  have HT := hid (tail_cells hs)
  clear es CO
  go_wp2_with (first
    | (at_builtin; refine wpList_catM .u8 1 w1 _ rfl _ _ 43 5 rfl Tryd.underlying43 v_u8 (hG2.alloc _) A1 c1 M rfl (hO2.alloc _) (some ⟨W2.heap.size, 0, none⟩) 4 (Su.tail s) rfl (four_at HT.out) (by have := EN.out; rw [HM.out]; simp [Su.tail]; omega) (by have := EN.out; rw [HM.out]; simp [Su.tail]; omega) ?_; rintro A3 c3 M3 W3 HM3 hO3 hG3)
    | (at_builtin; refine wpList_catM .u8 1 w1 w1 rfl _ _ 43 5 rfl Tryd.underlying43 v_u8 (Grew.refl _) none 0 [] rfl (OwnNums.nil _ _ _ _) A c xs (by rw [← EN.out]; rfl) HA.out (by have := EN.out; simp; omega) (by have := EN.out; simp; omega) ?_; rintro A1 c1 M W2 HM hO2 hG2))
  go_ret
  exact ⟨A3, c3, M3, rfl, by rw [HM3.out, HM.out, ES.out]; rfl, hO3, hG3⟩

theorem str_beq (a b : ByteArray) : (a.toList == b.toList) = true ↔ a = b := by
  rw [beq_iff_eq, ByteArray.toList_eq, ByteArray.toList_eq]
  refine ⟨fun h => ?_, fun h => by rw [h]⟩
  cases a
  cases b
  congr 1
  exact Array.toList_inj.1 h
def ROpenPost (w : World) (xs : List Nat) (e : Ending) (w' : World) : Prop :=
  ∃ A' c' L k, e = .returned (.tuple #[.slice A' (List.length L) c', .int .i64 ((k : Nat) : Int)]) ∧ L = Su.openL xs ∧ k = Su.openE xs ∧ NumsAt .u8 w' w'.heap.size A' L ∧ Grew w w'
theorem strN_eq {xs ys : List Nat} (hx : ∀ x ∈ xs, x < 256) (hy : ∀ x ∈ ys, x < 256) : strN xs = strN ys ↔ xs = ys := by
  refine ⟨fun h => ?_, fun h => by rw [h]⟩
  have h2 := bytesOf_beq xs ys hx hy
  have h3 : Lib.bytesOf (xs.map (fun x : Nat => (x : Int))) = Lib.bytesOf (ys.map (fun x : Nat => (x : Int))) := congrArg (fun b : ByteArray => b.data.toList) h
  rw [h3] at h2
  simpa using h2

/-- What each operation of the comparison gives. -/
def RopF (A : Option Addr) (c m : Nat) (xs : List Nat) (S1 S2 : ByteArray) (b : Bool) (i : Nat) (v : Value) (w : World) : Prop := match i with
  | 0 => v = .slice A (m + 4) c
  | 1 => v = .slice A (m + 4) c
  | 2 => v = .int .i64 (((m : Nat) : Int) + 4)
  | 3 => v = .int .i64 ((m : Nat) : Int)
  | 4 => v = .slice A m c
  | 5 => ∃ A' c' M, v = .slice A' (List.length M) c' ∧ NumsAt .u8 w w.heap.size A' M ∧ M = Su.seald (Su.body xs)
  | 6 => v = .string S1
  | 7 => v = .slice A (m + 4) c
  | 8 => v = .string S2
  | _ => v = .bool b
theorem RopF.mono {A : Option Addr} {c m : Nat} {xs : List Nat} {S1 S2 : ByteArray} {b : Bool} (i : Nat) (v : Value) (w w' : World) (h : RopF A c m xs S1 S2 b i v w) (hg : Grew w w') : RopF A c m xs S1 S2 b i v w' := by
  unfold RopF at *
  split at h
  all_goals
    first
      | exact h
      | (obtain ⟨A', c', M, h1, h2, h3⟩ := h; exact ⟨A', c', M, h1, h2.grew hg, h3⟩)

set_option maxRecDepth 100000 in
set_option maxHeartbeats 2000000 in
theorem ropen_c (A : Option Addr) (c : Nat) (xs : List Nat) (w : World) (ha : NumsAt .u8 w w.heap.size A xs) (hx : ∀ x ∈ xs, x < 256) (hl : xs.length ≤ 100000) (hc : xs.length ≤ c) :
    Calls Tryd.prog 21 #[.slice A xs.length c] w (ROpenPost w xs) := by
  have HA := hid ha
  have HX := hid hx
  clear ha hx
  obtain ⟨n, en⟩ : ∃ n, n = xs.length := ⟨_, rfl⟩
  have EN := hid en
  rw [← en] at hl hc ⊢
  clear en
  by_cases h4 : n < 4
  · have h4' : (n : Int) < 4 := by omega
    have HE := hid (openE_few (by rw [← EN.out]; exact h4))
    go_enter Tryd.func21, Tryd.ntmps21
    go_wp2_with fail
    go_ret2
    exact ⟨none, 0, [], 2, rfl, (openL_no (by rw [HE.out]; decide)).symm, HE.out.symm, NumsAt.nil _ _ _ _, Grew.refl _⟩
  · obtain ⟨m, rfl⟩ : ∃ m, n = m + 4 := ⟨n - 4, by omega⟩
    have hlen : (Su.body xs).length = m := by unfold Su.body; rw [List.length_take, ← EN.out]; omega
    have HB := hid (show Su.body xs = xs.take m by unfold Su.body; rw [← EN.out]; rfl)
    have CS := hid (fun (W : World) (hg : Grew w W) => rseal_c A c (Su.body xs) W ((by rw [HB.out]; exact (HA.out.grew hg).take m)) (fun x hx => HX.out x (by rw [HB.out] at hx; exact List.mem_of_mem_take hx)) (by rw [hlen]; omega))
    rw [hlen] at CS
    have HLEN := hid hlen
    clear hlen
    have h4' : ¬ ((m : Int) + 4 < 4) := by omega
    have h5 : (m : Int) + 4 - 4 = m := by omega
    go_enter Tryd.func21, Tryd.ntmps21
    go_upto_region 3 with fail
    obtain ⟨S1, e1⟩ : ∃ S1, S1 = strN (Su.seald (Su.body xs)) := ⟨_, rfl⟩
    obtain ⟨S2, e2⟩ : ∃ S2, S2 = strN xs := ⟨_, rfl⟩
    have HX2 : ∀ x ∈ Su.seald (Su.body xs), x < 256 := Su.seald_byte (fun y hy => HX.out y (by rw [HB.out] at hy; exact List.mem_of_mem_take hy))
    have HQ := strN_eq HX2 HX.out
    rw [← e1, ← e2] at HQ
    obtain ⟨b, eb⟩ : ∃ b, (!(S1.toList == S2.toList)) = b := ⟨_, rfl⟩
    have HE := hid (show Su.openE xs = if b = true then 5 else 0 by
      cases hs : (S1.toList == S2.toList)
      · rw [← eb, hs]
        exact openE_not (by have := EN.out; omega) (fun h => by rw [(str_beq S1 S2).2 (HQ.2 h)] at hs; cases hs)
      · rw [← eb, hs]
        exact openE_same (by have := EN.out; omega) (HQ.1 ((str_beq S1 S2).1 hs)))
    have CX := hid (fun (W : World) (hg : Grew w W) => (show (convert 43 9 (.slice A (m + 4) c)).run Tryd.prog W = .ok (.string S2) W by
      have h := conv5 A c xs W (HA.out.grew hg)
      rw [← EN.out, ← e2] at h
      exact h))
    have E1 := hid e1
    have HW1 := hid (show IntKind.i64.wrap ((m : Nat) : Int) = ((m : Nat) : Int) by simp [IntKind.wrap, IntKind.bits, IntKind.signed]; omega)
    have hmc : (m : Int) ≤ (c : Int) := by omega
    clear HX2 HQ e1 e2
    refine wp_region_facts (w0 := w) _ 10 [7, 8, 9, 10, 11, 12, 13, 14, 15, 16] [] (RopF A c m xs S1 S2 b) (by kernel_rfl) (by kernel_rfl) (Grew.refl _) RopF.mono ?_ ?_
    · repeat' (first | exact trivial | apply And.intro)
      all_goals
        intro a w' hgw hs hA
        have e0 := hs.eval 0 (by decide) (v := .slice A (m + 4) c) rfl
        have cx := CX.out w' hgw
        have HGW := hid hgw
        clear hs hgw
        simp only [Ahead, Region.binds, slotOf, RopF, List.getD_cons_succ, List.getD_cons_zero, forall_const, and_true] at hA
        simp only [wantedD, if_true]
        unfold Oper.wp
        have ec : ∀ v, a.eval (.const v) = v := fun _ => rfl
        generalize hf : a.eval = f at *
        have ef : ∀ k, f (.func k) = Act.eval ⟨#[], []⟩ (.func k) := fun k => by rw [← hf]; rfl
        clear hf
        first
          | (go_simp; exact Gives.of' rfl (Grew.refl _) rfl)
          | (go_simp; refine (CS.out _ HGW.out).mono ?_; rintro e w3 ⟨A3, c3, M3, rfl, hM3, hO3, hg3⟩; exact Gives.of' rfl hg3 ⟨A3, c3, M3, rfl, hO3.at, hM3⟩)
          | (obtain ⟨A3, c3, M3, h1, h2, h3⟩ := hA
             have hk := conv5 A3 c3 M3 w' h2
             rw [show strN M3 = S1 by rw [h3, E1.out]] at hk
             clear h2 h3
             go_simp
             exact Gives.of' rfl (Grew.refl _) rfl)
          | (go_simp; exact Gives.of' rfl (Grew.refl _) (congrArg (Value.int .i64) HW1.out))
    · intro a w' hgw hs hf _ _
      have h4 := hf 9 (by decide)
      simp only [slotOf, RopF, List.getD_cons_succ, List.getD_cons_zero] at h4
      obtain ⟨f, rfl, hft⟩ := hs.put
      rw [hft] at h4
      have HGW := hid hgw
      clear hf hft hgw CX CS E1 eb
      simp only [List.drop, wpList, putAll, List.foldl_cons, List.foldl_nil, Act.put, List.setIfInBounds_toArray, List.set_cons_succ, List.set_cons_zero, h4]
      cases b
      · rw [if_neg (by decide)] at HE
        have hn := (HA.out.grew HGW.out).take m
        rw [← HB.out] at hn
        have HN := hid hn
        clear hn
        go_wp2_with fail
        go_ret2
        exact ⟨A, c, Su.body xs, 0, by rw [HLEN.out]; rfl, (openL_yes HE.out).symm, HE.out.symm, HN.out, HGW.out⟩
      · rw [if_pos rfl] at HE
        go_wp2_with fail
        go_ret2
        exact ⟨none, 0, [], 5, rfl, (openL_no (by rw [HE.out]; decide)).symm, HE.out.symm, NumsAt.nil _ _ _ _, HGW.out⟩
end Go.Proofs.YtmcfciifjgdgoaaDoor

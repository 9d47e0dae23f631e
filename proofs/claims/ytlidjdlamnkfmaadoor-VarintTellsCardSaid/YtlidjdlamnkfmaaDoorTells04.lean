/- VarintTells: for every slice of bytes and every int the law returns true, and nothing that was there is changed. Conditions: none of ours. -/
import Derived.Test.YtlidjdlamnkfmaaDoorViS
import Derived.Test.YtlidjdlamnkfmaaDoorFacts
namespace Go.Proofs.YtlidjdlamnkfmaaDoor
open Go.RowKit

/-- What each operation of the law's last statement gives. -/
def TellsF (w0 : World) (A : Option Addr) (c : Nat) (xs : List Nat) (n N : Int) (K E : Nat) (S : ByteArray) (i : Nat) (v : Value) (w : World) : Prop := match i with
  | 0 => v = .int .i64 N
  | 1 => v = .int .i64 N
  | 4 => v = .int .i64 ((K : Nat) : Int)
  | 5 => v = .int .i64 ((K : Nat) : Int)
  | 9 => v = errVal E
  | 10 => v = .int .i64 ((E : Nat) : Int)
  | 11 => v = .int .i64 ((E : Nat) : Int)
  | 15 => v = .slice A xs.length c
  | 16 => v = .int .i64 n
  | 17 => ∃ A' c' L, v = .slice A' (List.length L) c' ∧ OwnNums .u8 w0 w 5 A' c' L ∧ L = xs ++ Vi.enc n
  | 18 => v = .string S
  | 19 => v = .slice A xs.length c
  | 20 => v = .int .i64 n
  | 21 => ∃ A' c' L, v = .slice A' (List.length L) c' ∧ OwnNums .u8 w0 w 5 A' c' L ∧ L = xs ++ Vi.enc n
  | 22 => v = .string S
  | _ => v = .bool true
theorem TellsF.mono {w0 : World} {A : Option Addr} {c : Nat} {xs : List Nat} {n N : Int} {K E : Nat} {S : ByteArray} (i : Nat) (v : Value) (w w' : World) (h : TellsF w0 A c xs n N K E S i v w) (hg : Grew w w') : TellsF w0 A c xs n N K E S i v w' := by
  unfold TellsF at *
  split at h
  all_goals
    first
      | exact h
      | (obtain ⟨A', c', L, h1, h2, h3⟩ := h; exact ⟨A', c', L, h1, h2.grew hg, h3⟩)

set_option maxRecDepth 100000 in
set_option maxHeartbeats 4000000 in
theorem tells_walk (A : Option Addr) (c : Nat) (xs : List Nat) (n : Int) (w : World) (ha : BytesAt w w.heap.size A xs) (hc : xs.length ≤ c) (hcm : c ≤ 9223372036854775807) (hn : Vi.I64 n) (hg : HandleAt w) :
    Calls Tryd.prog 7 #[.slice A xs.length c, .int .i64 n] w fun e w' => e = .returned (.bool true) ∧ Grew w w' := by
  have Hg := hid hg
  have HA := hid ha
  have HN := hid hn
  clear hg ha hn
  by_cases hl : 300 < xs.length
  · have hl' : (300 : Int) < xs.length := by omega
    go_enter Tryd.func7, Tryd.ntmps7
    go_wp2_with fail
    refine (sure_c _ Hg.out).mono ?_
    rintro e w ⟨rfl, hg⟩
    go_wp2_with fail
    go_ret
    exact ⟨rfl, hg⟩
  · have hl' : ¬ (300 : Int) < xs.length := by omega
    have CG := hid (get_c A c xs w HA.out hc hcm)
    have CR := hid (fun (W : World) (hg : Grew w W) => rget_c A c xs W (HA.out.grew hg) hc hcm)
    have CP := hid (fun (W : World) (hg : Grew w W) => put_c A c xs n W (NumsAt.of_bytes (HA.out.grew hg)) HN.out (by omega))
    have CQ := hid (fun (W : World) (hg : Grew w W) => rput_c A c xs n W (NumsAt.of_bytes (HA.out.grew hg)) HN.out (by omega))
    have HLp : Hid (0 < (xs ++ Vi.enc n).length) := hid (by rw [List.length_append]; have := (Vi.enc_len n).1; omega)
    go_enter Tryd.func7, Tryd.ntmps7
    go_wp2_with fail
    refine CG.out.mono ?_
    rintro e w1 ⟨rfl, y1, rfl⟩
    go_wp2_with fail
    refine (CR.out _ y1.grew).mono ?_
    rintro e w2 ⟨rfl, y2, rfl⟩
    generalize Vi.getN xs = N at *
    generalize (Vi.getL xs).length = K at *
    generalize Vi.getE xs = E at *
    clear CG CR
    go_wp2_with fail
    have hgd : Grew w y2.w.drew := (y1.grew.trans y2.grew).drew
    obtain ⟨S, hS⟩ : ∃ S, S = strOf (xs ++ Vi.enc n) := ⟨_, rfl⟩
    have HS := hid hS
    clear hS
    refine wp_region_facts (w0 := w) _ 29 [27, 28, 29, 30, 31, 32, 33, 34, 35, 36, 37, 38, 39, 40, 41, 42, 43, 44, 45, 46, 47, 48, 49, 50, 51, 52, 53, 54, 4] (TellsF w A c xs n N K E S) (by kernel_rfl) (by kernel_rfl) (y1.grew.trans y2.grew) TellsF.mono ?_ ?_
    · have HO := hid hgd
      clear hgd
      repeat' (first | exact trivial | apply And.intro)
      all_goals
        intro a w' hgw hs hA
        have e0 := hs.eval 0 (by decide) (v := .slice A xs.length c) rfl
        have e1 := hs.eval 1 (by decide) (v := .int .i64 n) rfl
        have e5 := hs.eval 5 (by decide) (v := .int .i64 N) rfl
        have e6 := hs.eval 6 (by decide) (v := .int .i64 ((K : Nat) : Int)) rfl
        have e7 := hs.eval 7 (by decide) (v := errVal E) rfl
        have e8 := hs.eval 8 (by decide) (v := .int .i64 N) rfl
        have e9 := hs.eval 9 (by decide) (v := .int .i64 ((K : Nat) : Int)) rfl
        have e10 := hs.eval 10 (by decide) (v := .int .i64 ((E : Nat) : Int)) rfl
        have HGW := hid hgw
        clear hs hgw
        simp only [Ahead, Region.binds, slotOf, TellsF, List.getD_cons_succ, List.getD_cons_zero, forall_const, and_true] at hA
        simp only [wantedD, isBool, slotOf, List.getD_cons_succ, List.getD_cons_zero, hA, if_true, beq_self_eq_true]
        unfold Oper.wp
        have ec : ∀ v, a.eval (.const v) = v := fun _ => rfl
        generalize hf : a.eval = f at *
        have ef : ∀ k, f (.func k) = Act.eval ⟨#[], []⟩ (.func k) := fun k => by rw [← hf]; rfl
        clear hf
        first
          | (go_simp; exact Gives.of (Grew.refl _) rfl)
          | (go_simp; refine (num_c _ _ (Hg.out.grew HGW.out)).mono ?_; rintro e w3 ⟨rfl, hg3⟩; exact Gives.of hg3 rfl)
          | (go_simp; refine (sure_c _ (Hg.out.grew HGW.out)).mono ?_; rintro e w3 ⟨rfl, hg3⟩; exact Gives.of hg3 rfl)
          | (go_simp; refine (CP.out _ HGW.out).mono ?_; rintro e w3 ⟨A3, c3, L3, rfl, hO3, hL3, hg3⟩; exact Gives.of hg3 ⟨A3, c3, L3, rfl, hO3.mono HGW.out, hL3⟩)
          | (go_simp; refine (CQ.out _ HGW.out).mono ?_; rintro e w3 ⟨A3, c3, L3, rfl, hO3, hL3, hg3⟩; exact Gives.of hg3 ⟨A3, c3, L3, rfl, hO3.mono HGW.out, hL3⟩)
          | (obtain ⟨⟨A3, c3, L3, h1, h2, h3⟩, h4⟩ := hA
             have hk := conv_own (P := Tryd.prog) Tryd.underlying55 Tryd.underlying5 Tryd.underlying9 h2 (by rw [h3]; exact HLp.out)
             rw [show strOf L3 = S by rw [h3, HS.out]] at hk
             clear h2 h3
             go_simp
             exact Gives.of (Grew.refl _) rfl)
    · intro a w' hgw hs hf
      have h4 := hf 28 (by decide)
      simp only [slotOf, TellsF, List.getD_cons_succ, List.getD_cons_zero] at h4
      obtain ⟨f, rfl, hft⟩ := hs.put
      rw [hft] at h4
      clear hf hft
      simp only [List.drop, wpList, putAll, List.foldl_cons, List.foldl_nil, Act.put, List.setIfInBounds_toArray, List.set_cons_succ, List.set_cons_zero, h4]
      go_wp2_with fail
      go_ret
      exact ⟨rfl, hgw⟩
end Go.Proofs.YtlidjdlamnkfmaaDoor

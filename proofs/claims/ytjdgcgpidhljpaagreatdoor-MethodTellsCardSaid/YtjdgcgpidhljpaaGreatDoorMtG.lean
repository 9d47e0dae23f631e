/- Stage 9: valid, areLits, isOuter, areParts. -/
import Derived.Test.YtjdgcgpidhljpaaGreatDoorMtM
namespace Go.Proofs.YtjdgcgpidhljpaaGreatDoor
open Go.RowKit

/-- Is it so? -/
noncomputable def tru (p : Prop) : Bool := @decide p (Classical.propDecidable p)
theorem tru_iff (p : Prop) : tru p = true ↔ p := by unfold tru; exact @decide_eq_true_iff p (Classical.propDecidable p)
/-- Is a literal valid? -/
noncomputable def litB (x : Mt.Lit) : Bool := tru (Mt.LitOk x)
theorem litB_iff (x : Mt.Lit) : litB x = true ↔ Mt.LitOk x := tru_iff _
set_option maxRecDepth 100000 in
set_option maxHeartbeats 1000000 in
theorem valid_c (x : Mt.Lit) (b : Bool) (hb : b = true ↔ Mt.LitOk x) (w : World) (hx : x.s.size ≤ 2000) (hM : MaxAt w) :
    Calls Tryz.prog 51 #[.agg #[.int .u8 ((x.k : Nat) : Int), .string x.s]] w fun e w' => e = .returned (.bool b) ∧ Grew w w' := by
  obtain ⟨k, s⟩ := x
  simp only at hb hx ⊢
  have HG := hid ((Grew.refl w).alloc (.cells #[.int .u8 ((k : Nat) : Int), .string s] 62))
  by_cases h0 : k = 0
  · subst h0
    have HB : Hid (b = true ↔ Mt.Numeral s) := hid (by
      rw [hb]
      constructor
      · rintro (⟨_, h⟩ | ⟨h, _⟩ | ⟨h, _⟩)
        · exact h
        · cases h
        · cases h
      · exact fun h => .inl ⟨rfl, h⟩)
    have HP := hid (pparse_c s (w.alloc (.cells #[.int .u8 0, .string s] 62)) (by omega))
    rw [show (((0 : Nat) : Nat) : Int) = 0 from rfl] at HG ⊢
    clear hb hx hM
    go_enter Tryz.func51, Tryz.ntmps51
    go_wp2_with fail
    refine HP.out.mono ?_
    rintro e w1 ⟨A', c', ng, L, j, rfl, _, hpo, hg⟩
    have HG1 := hid (HG.out.trans hg)
    by_cases hj : j = 0
    · subst hj
      have hbt : b = true := HB.out.2 ⟨ng, L, hpo⟩
      subst hbt
      rw [show errVal 0 = .nilIface from rfl]
      clear hpo hg
      go_wp2_with fail
      go_ret
      exact ⟨rfl, (HG1.out.alloc _)⟩
    · have hbf : b = false := by
        cases b
        · rfl
        · obtain ⟨ng', L', h'⟩ := HB.out.1 rfl
          exact absurd (hpo.inj h').2.2 hj
      subst hbf
      rw [show errVal j = .iface 66 (.int .i64 j) by unfold errVal; rw [if_neg hj]]
      clear hpo hg
      go_wp2_with fail
      go_ret
      exact ⟨rfl, (HG1.out.alloc _)⟩
  · have e0 : (((k : Nat) : Int) == 0) = false := by rw [beq_eq_false_iff_ne]; omega
    by_cases h1 : k = 1
    · subst h1
      have hb2 : b = decide (s.size ≤ 1024) := by
        rw [Bool.eq_iff_iff, hb, decide_eq_true_iff]
        refine ⟨fun h => ?_, fun h => .inr (.inl ⟨rfl, h⟩)⟩
        rcases h with ⟨h, _⟩ | ⟨_, h⟩ | ⟨h, _⟩
        · cases h
        · exact h
        · cases h
      rw [show (((1 : Nat) : Nat) : Int) = 1 from rfl] at HG ⊢
      clear hb hM hx e0 h0
      by_cases hs : s.size ≤ 1024
      · rw [decide_eq_true hs] at hb2
        subst hb2
        have f1 : (s.size : Int) ≤ 1024 := by omega
        go_enter Tryz.func51, Tryz.ntmps51
        go_wp2_with fail
        go_ret
        exact ⟨rfl, HG.out⟩
      · rw [decide_eq_false hs] at hb2
        subst hb2
        have f1 : ¬ (s.size : Int) ≤ 1024 := by omega
        go_enter Tryz.func51, Tryz.ntmps51
        go_wp2_with fail
        go_ret
        exact ⟨rfl, HG.out⟩
    · have e1 : (((k : Nat) : Int) == 1) = false := by rw [beq_eq_false_iff_ne]; omega
      by_cases h2 : k = 2
      · subst h2
        have hb2 : b = (Mt.arity (Lg.bytes s)).isSome := by
          rw [Bool.eq_iff_iff, hb]
          refine ⟨fun h => ?_, fun h => .inr (.inr ⟨rfl, h⟩)⟩
          rcases h with ⟨h, _⟩ | ⟨h, _⟩ | ⟨_, h⟩
          · cases h
          · cases h
          · exact h
        have HA := hid (arity_c s _ (hM.grew HG.out))
        rw [show (((2 : Nat) : Nat) : Int) = 2 from rfl] at HG HA ⊢
        generalize Mt.arity (Lg.bytes s) = r at *
        clear hb hM hx e0 h0 e1 h1
        subst hb2
        go_enter Tryz.func51, Tryz.ntmps51
        go_wp2_with fail
        refine HA.out.mono ?_
        rintro e w1 ⟨rfl, hg⟩
        go_wp2_with fail
        go_ret
        exact ⟨rfl, HG.out.trans hg⟩
      · have e2 : (((k : Nat) : Int) == 2) = false := by rw [beq_eq_false_iff_ne]; omega
        have hbf : b = false := by
          cases b
          · rfl
          · rcases hb.1 rfl with ⟨h, _⟩ | ⟨h, _⟩ | ⟨h, _⟩
            · exact absurd h h0
            · exact absurd h h1
            · exact absurd h h2
        subst hbf
        clear hb hM hx h0 h1 h2
        go_enter Tryz.func51, Tryz.ntmps51
        go_wp2_with fail
        go_ret
        exact ⟨rfl, HG.out⟩
theorem badLit_c (x : Mt.Lit) (w : World) (hx : x.s.size ≤ 2000) (hM : MaxAt w) :
    Calls Tryz.prog 50 #[.agg #[.int .u8 ((x.k : Nat) : Int), .string x.s]] w fun e w' => e = .returned (.bool (!(litB x))) ∧ Grew w w' := by
  have HG := hid ((Grew.refl w).alloc (.cells #[.int .u8 ((x.k : Nat) : Int), .string x.s] 62))
  have HV := hid (valid_c x (litB x) (litB_iff x) _ hx (hM.grew HG.out))
  generalize litB x = b at *
  clear hx hM
  obtain ⟨k, s⟩ := x
  simp only at HV HG ⊢
  go_enter Tryz.func50, Tryz.ntmps50
  go_wp2_with fail
  refine HV.out.mono ?_
  rintro e w1 ⟨rfl, hg⟩
  go_wp2_with fail
  go_ret
  exact ⟨rfl, HG.out.trans hg⟩
theorem areLits_c (A : Option Addr) (c : Nat) (l : List Mt.Lit) (w : World) (h : LitsAt w A l) (hl : l.length ≤ 1000000) (hM : MaxAt w) :
    Calls Tryz.prog 21 #[.slice A l.length c] w fun e w' => e = .returned (.bool (decide (l.length ≤ 64) && l.all litB)) ∧ Grew w w' := by
  have HC := hid (anyLit_c 50 #[] (enters_of Tryz.func50 (by kernel_rfl) rfl) (fun x => !(litB x)) A c l w h hl (fun x hx W hg => badLit_c x W (h.1 x hx).2 (hM.grew hg)))
  have he : l.all litB = !(l.any fun x => !(litB x)) := by rw [List.not_any_eq_all_not]; simp
  rw [he]
  generalize (l.any fun x => !(litB x)) = b at *
  generalize l.length = n at *
  clear h hM hl he
  by_cases h6 : n ≤ 64
  · have f1 : (n : Int) ≤ 64 := by omega
    rw [decide_eq_true h6]
    clear h6
    go_enter Tryz.func21, Tryz.ntmps21
    go_wp2_with fail
    refine HC.out.mono ?_
    rintro e w1 ⟨rfl, hg⟩
    go_wp2_with fail
    go_ret
    exact ⟨by cases b <;> rfl, hg⟩
  · have f1 : ¬ (n : Int) ≤ 64 := by omega
    rw [decide_eq_false h6]
    clear h6
    go_enter Tryz.func21, Tryz.ntmps21
    go_wp2_with fail
    go_ret
    exact ⟨rfl, Grew.refl _⟩
theorem isOuter_c (o : Int) (i : Nat) (w : World) (hi : i ≤ 1000000) : Calls Tryz.prog 54 #[.int .i64 o, .int .i64 ((i : Nat) : Int)] w fun e w' => e = .returned (.bool (Mt.outerOk o i)) ∧ w' = w := by
  unfold Mt.outerOk
  by_cases h0 : i = 0
  · subst h0
    rw [if_pos rfl]
    by_cases h1 : o = -1
    · subst h1
      go_enter Tryz.func54, Tryz.ntmps54
      go_wp2_with fail
      go_ret
      exact ⟨rfl, rfl⟩
    · have e1 : (o == -1) = false := by rw [beq_eq_false_iff_ne]; exact h1
      rw [decide_eq_false h1]
      clear h1
      go_enter Tryz.func54, Tryz.ntmps54
      go_wp2_with fail
      go_ret
      exact ⟨rfl, rfl⟩
  · rw [if_neg h0]
    have e0 : (((i : Nat) : Int) == 0) = false := by rw [beq_eq_false_iff_ne]; omega
    have HW := hid (within_c o 0 ((i : Int) - 1) w)
    have hw : IntKind.i64.wrap ((i : Int) - 1) = (i : Int) - 1 := by unfold IntKind.wrap; simp [IntKind.bits, IntKind.signed]; omega
    generalize (decide (0 ≤ o) && decide (o ≤ (i : Int) - 1)) = b at *
    clear h0
    go_enter Tryz.func54, Tryz.ntmps54
    go_wp2_with fail
    refine HW.out.mono ?_
    rintro e w1 ⟨rfl, rfl⟩
    go_wp2_with fail
    go_ret
    exact ⟨rfl, rfl⟩
end Go.Proofs.YtjdgcgpidhljpaaGreatDoor

/- MethodKeys: the law's walk. -/
import Derived.Test.YtfcjgejdekpmgaaGreatDoorMtU
namespace Go.Proofs.YtfcjgejdekpmgaaGreatDoor
open Go.RowKit

theorem bytes_app (s t : ByteArray) : Lg.bytes (s ++ t) = Lg.bytes s ++ Lg.bytes t := by
  unfold Lg.bytes
  rw [ByteArray.data_append, Array.toList_append, List.map_append]
theorem size_app (s t : ByteArray) : (s ++ t).size = s.size + t.size := ByteArray.size_append
def one (w : World) (e : Ending) (w' : World) : Prop := e = .returned (.bool true) ∧ Grew w w'
theorem keys_math {s t : ByteArray} (hs : Mt.arity (Lg.bytes s) = some 0) (ht : Mt.arity (Lg.bytes t) = some 0) :
    Mt.arity (Lg.bytes (s ++ ⟨#[58]⟩)) = (if s.size < 64 then some 1 else none) ∧ Mt.arity (Lg.bytes (s ++ ⟨#[58]⟩ ++ t ++ ⟨#[58]⟩)) = (if s.size + t.size < 63 then some 2 else none) ∧ Mt.arity (Lg.bytes (s ++ ⟨#[58]⟩ ++ t)) = none := by
  have h1 := (Mt.arity_zero hs).1
  have h2 := (Mt.arity_zero ht).1
  have e58 : Lg.bytes ⟨#[58]⟩ = [58] := by decide +kernel
  simp only [bytes_app, e58]
  have a1 := Mt.arity_one h1
  have a2 := Mt.arity_two h1 h2
  rw [Lg.bytes_len] at a1
  rw [Lg.bytes_len, Lg.bytes_len] at a2
  exact ⟨a1, a2, Mt.arity_none h1 h2⟩
set_option maxRecDepth 100000 in
set_option maxHeartbeats 4000000 in
theorem keys_walk (s t : ByteArray) (w : World) (hh : HandleAt w) (hE : Env w) : Calls Tryz.prog 6 #[.string s, .string t] w (one w) := by
  have HS := hid (fun (w' : World) (hg : Grew w w') => sure9_c w' (hh.grew hg) (hE.grew hg))
  have HE := hid hE
  clear hh hE
  by_cases hs1 : s.size ≤ 100
  · have f1 : ¬ (100 : Int) < (s.size : Int) := by omega
    by_cases ht1 : t.size ≤ 100
    · have f2 : ¬ (100 : Int) < (t.size : Int) := by omega
      have HA := hid (fun (w' : World) (hg : Grew w w') => arity_c s w' (HE.out.grew hg).mx)
      have HB := hid (fun (w' : World) (hg : Grew w w') => arity_c t w' (HE.out.grew hg).mx)
      have HK := hid (fun (h1 : Mt.arity (Lg.bytes s) = some 0) (h2 : Mt.arity (Lg.bytes t) = some 0) => keys_math h1 h2)
      generalize Mt.arity (Lg.bytes s) = rs at *
      generalize Mt.arity (Lg.bytes t) = rt at *
      by_cases hz : rs = some 0 ∧ rt = some 0
      · obtain ⟨rfl, rfl⟩ := hz
        have hk := HK.out rfl rfl
        have hC1 := fun (w' : World) (hg : Grew w w') => arity_c (s ++ ⟨#[58]⟩) w' (HE.out.grew hg).mx
        have hC2 := fun (w' : World) (hg : Grew w w') => arity_c (s ++ ⟨#[58]⟩ ++ t ++ ⟨#[58]⟩) w' (HE.out.grew hg).mx
        have hC3 := fun (w' : World) (hg : Grew w w') => arity_c (s ++ ⟨#[58]⟩ ++ t) w' (HE.out.grew hg).mx
        rw [hk.1] at hC1
        rw [hk.2.1] at hC2
        rw [hk.2.2] at hC3
        have HC1 := hid hC1
        have HC2 := hid hC2
        have HC3 := hid hC3
        clear hC1 hC2 hC3 hk HK
        by_cases c1 : s.size < 64
        · have g1 : (s.size : Int) < 64 := by omega
          rw [if_pos c1] at HC1
          by_cases c2 : s.size + t.size < 63
          · have g2 : (s.size : Int) + (t.size : Int) < 63 := by omega
            rw [if_pos c2] at HC2
            clear c1 c2
            go_enter Tryz.func6, Tryz.ntmps6
            go_wp2_with fail
            refine (HA.out _ (Grew.refl _)).mono ?_
            rintro e w1 ⟨rfl, hg1⟩
            have HG1 := hid hg1
            clear hg1
            go_wp2_with fail
            refine (HB.out _ HG1.out).mono ?_
            rintro e w2 ⟨rfl, hg2⟩
            have HG2 := hid (HG1.out.trans hg2)
            clear hg2
            go_wp2_with fail
            refine (HC1.out _ HG2.out).mono ?_
            rintro e w3 ⟨rfl, hg3⟩
            have HG3 := hid (HG2.out.trans hg3)
            clear hg3
            go_wp2_with fail
            refine (HC2.out _ HG3.out).mono ?_
            rintro e w4 ⟨rfl, hg4⟩
            have HG4 := hid (HG3.out.trans hg4)
            clear hg4
            go_wp2_with fail
            refine (HC3.out _ HG4.out).mono ?_
            rintro e w5 ⟨rfl, hg5⟩
            have HG5 := hid (HG4.out.trans hg5)
            clear hg5
            go_wp2_with fail
            refine (HS.out _ HG5.out).mono ?_
            rintro e w6 ⟨rfl, hg6⟩
            go_wp2_with fail
            go_ret
            exact ⟨rfl, HG5.out.trans hg6⟩
          · have g2 : ¬ (s.size : Int) + (t.size : Int) < 63 := by omega
            rw [if_neg c2] at HC2
            clear c1 c2
            go_enter Tryz.func6, Tryz.ntmps6
            go_wp2_with fail
            refine (HA.out _ (Grew.refl _)).mono ?_
            rintro e w1 ⟨rfl, hg1⟩
            have HG1 := hid hg1
            clear hg1
            go_wp2_with fail
            refine (HB.out _ HG1.out).mono ?_
            rintro e w2 ⟨rfl, hg2⟩
            have HG2 := hid (HG1.out.trans hg2)
            clear hg2
            go_wp2_with fail
            refine (HC1.out _ HG2.out).mono ?_
            rintro e w3 ⟨rfl, hg3⟩
            have HG3 := hid (HG2.out.trans hg3)
            clear hg3
            go_wp2_with fail
            refine (HC2.out _ HG3.out).mono ?_
            rintro e w4 ⟨rfl, hg4⟩
            have HG4 := hid (HG3.out.trans hg4)
            clear hg4
            go_wp2_with fail
            refine (HC3.out _ HG4.out).mono ?_
            rintro e w5 ⟨rfl, hg5⟩
            have HG5 := hid (HG4.out.trans hg5)
            clear hg5
            go_wp2_with fail
            refine (HS.out _ HG5.out).mono ?_
            rintro e w6 ⟨rfl, hg6⟩
            go_wp2_with fail
            go_ret
            exact ⟨rfl, HG5.out.trans hg6⟩
        · have g1 : ¬ (s.size : Int) < 64 := by omega
          rw [if_neg c1] at HC1
          have g2 : ¬ (s.size : Int) + (t.size : Int) < 63 := by omega
          rw [if_neg (by omega)] at HC2
          clear c1
          go_enter Tryz.func6, Tryz.ntmps6
          go_wp2_with fail
          refine (HA.out _ (Grew.refl _)).mono ?_
          rintro e w1 ⟨rfl, hg1⟩
          have HG1 := hid hg1
          clear hg1
          go_wp2_with fail
          refine (HB.out _ HG1.out).mono ?_
          rintro e w2 ⟨rfl, hg2⟩
          have HG2 := hid (HG1.out.trans hg2)
          clear hg2
          go_wp2_with fail
          refine (HC1.out _ HG2.out).mono ?_
          rintro e w3 ⟨rfl, hg3⟩
          have HG3 := hid (HG2.out.trans hg3)
          clear hg3
          go_wp2_with fail
          refine (HC2.out _ HG3.out).mono ?_
          rintro e w4 ⟨rfl, hg4⟩
          have HG4 := hid (HG3.out.trans hg4)
          clear hg4
          go_wp2_with fail
          refine (HC3.out _ HG4.out).mono ?_
          rintro e w5 ⟨rfl, hg5⟩
          have HG5 := hid (HG4.out.trans hg5)
          clear hg5
          go_wp2_with fail
          refine (HS.out _ HG5.out).mono ?_
          rintro e w6 ⟨rfl, hg6⟩
          go_wp2_with fail
          go_ret
          exact ⟨rfl, HG5.out.trans hg6⟩
      · clear HK
        cases rs with
        | none =>
          go_enter Tryz.func6, Tryz.ntmps6
          go_wp2_with fail
          refine (HA.out _ (Grew.refl _)).mono ?_
          rintro e w1 ⟨rfl, hg1⟩
          have HG1 := hid hg1
          clear hg1
          go_wp2_with fail
          refine (HB.out _ HG1.out).mono ?_
          rintro e w2 ⟨rfl, hg2⟩
          have HG2 := hid (HG1.out.trans hg2)
          clear hg2
          go_wp2_with fail
          refine (HS.out _ HG2.out).mono ?_
          rintro e w6 ⟨rfl, hg6⟩
          go_wp2_with fail
          go_ret
          exact ⟨rfl, HG2.out.trans hg6⟩
        | some a =>
          cases rt with
          | none =>
            go_enter Tryz.func6, Tryz.ntmps6
            go_wp2_with fail
            refine (HA.out _ (Grew.refl _)).mono ?_
            rintro e w1 ⟨rfl, hg1⟩
            have HG1 := hid hg1
            clear hg1
            go_wp2_with fail
            refine (HB.out _ HG1.out).mono ?_
            rintro e w2 ⟨rfl, hg2⟩
            have HG2 := hid (HG1.out.trans hg2)
            clear hg2
            go_wp2_with fail
            refine (HS.out _ HG2.out).mono ?_
            rintro e w6 ⟨rfl, hg6⟩
            go_wp2_with fail
            go_ret
            exact ⟨rfl, HG2.out.trans hg6⟩
          | some b =>
            by_cases ha : a = 0
            · have hb : b ≠ 0 := fun e => hz ⟨by rw [ha], by rw [e]⟩
              subst ha
              have eb : (((b : Nat) : Int) != 0) = true := by rw [bne_iff_ne]; omega
              clear hz hb
              go_enter Tryz.func6, Tryz.ntmps6
              go_wp2_with fail
              refine (HA.out _ (Grew.refl _)).mono ?_
              rintro e w1 ⟨rfl, hg1⟩
              have HG1 := hid hg1
              clear hg1
              go_wp2_with fail
              refine (HB.out _ HG1.out).mono ?_
              rintro e w2 ⟨rfl, hg2⟩
              have HG2 := hid (HG1.out.trans hg2)
              clear hg2
              go_wp2_with fail
              refine (HS.out _ HG2.out).mono ?_
              rintro e w6 ⟨rfl, hg6⟩
              go_wp2_with fail
              go_ret
              exact ⟨rfl, HG2.out.trans hg6⟩
            · have ea : (((a : Nat) : Int) != 0) = true := by rw [bne_iff_ne]; omega
              clear hz ha
              go_enter Tryz.func6, Tryz.ntmps6
              go_wp2_with fail
              refine (HA.out _ (Grew.refl _)).mono ?_
              rintro e w1 ⟨rfl, hg1⟩
              have HG1 := hid hg1
              clear hg1
              go_wp2_with fail
              refine (HB.out _ HG1.out).mono ?_
              rintro e w2 ⟨rfl, hg2⟩
              have HG2 := hid (HG1.out.trans hg2)
              clear hg2
              go_wp2_with fail
              refine (HS.out _ HG2.out).mono ?_
              rintro e w6 ⟨rfl, hg6⟩
              go_wp2_with fail
              go_ret
              exact ⟨rfl, HG2.out.trans hg6⟩
    · have f2 : (100 : Int) < (t.size : Int) := by omega
      go_enter Tryz.func6, Tryz.ntmps6
      go_wp2_with fail
      refine (HS.out _ (Grew.refl _)).mono ?_
      rintro e w6 ⟨rfl, hg6⟩
      go_wp2_with fail
      go_ret
      exact ⟨rfl, hg6⟩
  · have f1 : (100 : Int) < (s.size : Int) := by omega
    go_enter Tryz.func6, Tryz.ntmps6
    go_wp2_with fail
    refine (HS.out _ (Grew.refl _)).mono ?_
    rintro e w6 ⟨rfl, hg6⟩
    go_wp2_with fail
    go_ret
    exact ⟨rfl, hg6⟩
end Go.Proofs.YtfcjgejdekpmgaaGreatDoor

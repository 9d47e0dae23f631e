/- Stage 10: Check. -/
import Derived.Test.YtjladeiecokpfaaGreatDoorCsP
namespace Go.Proofs.YtjladeiecokpfaaGreatDoor
open Go.RowKit

set_option maxRecDepth 100000 in
set_option maxHeartbeats 8000000 in
theorem ccheck_c (A : Option Addr) (cap : Nat) (l : List CV) (A2 : Option Addr) (c2 : Nat) (ms : List MV) (b : Bool) (hb : b = true ↔ MayC l ms) (w : World) (h : ClsAt w A l) (hcap : l.length ≤ cap) (h2 : MethsAt w A2 ms) (hE : Env w) :
    Calls Tryz.prog 11 #[.slice A l.length cap, .slice A2 ms.length c2] w fun e w' => e = .returned (ckVal b) ∧ Grew w w' := by
  rw [may_iff] at hb
  obtain ⟨bA, hA⟩ : ∃ d : Bool, d = true ↔ AreC l := ⟨tru _, tru_iff _⟩
  obtain ⟨bL, hL⟩ : ∃ d : Bool, d = true ↔ Listed (cls l) ms.length := ⟨tru _, tru_iff _⟩
  have hnm : ms.length ≤ 100 := h2.len
  have HCa := hid (areClasses_c A cap l bA hA w h hcap)
  have HCl := hid (fun (W : World) (hW : Grew w W) => areListed_c A cap l A2 ms.length c2 (by omega) bL hL W (h.grew hW))
  have HCm := hid (fun (hl : Listed (cls l) ms.length) (c : Nat) (v : CV) (hv : l[c]? = some v) (d : Bool) (hd : d = true ↔ MethsOk (cls l) ms c v.c) (W : World) (hW : Grew w W) => areMethods_c A cap l A2 c2 ms c v hv (fun i hi => hl.2.2.1 i (List.mem_flatMap.2 ⟨v.c, List.mem_of_getElem? (cls_at hv), hi⟩)) d hd W (h.grew hW) (h2.grew hW) (hE.grew hW))
  obtain ⟨n, en⟩ : ∃ n, n = l.length := ⟨_, rfl⟩
  have hn : n ≤ 100 := by rw [en]; exact h.len
  rw [← en] at HCa HCl HCm ⊢
  have EN := hid en
  have HB := hid hb
  have HBA := hid hA
  have HBL := hid hL
  clear h hb h2 hE hA hL en hcap hnm
  generalize ms.length = nm at *
  cases bA
  · have HF := hid (show b = false by
      rw [← Bool.not_eq_true, HB.out]
      rintro ⟨h1, _⟩
      have := HBA.out.2 h1
      cases this)
    clear HCl HCm HB HBA HBL
    go_enter Tryz.func11, Tryz.ntmps11
    go_wp2_with fail
    refine HCa.out.mono ?_
    rintro e w1 ⟨rfl, hg1⟩
    have HG1 := hid hg1
    clear hg1
    go_wp2_with fail
    go_ret
    exact ⟨by rw [HF.out]; rfl, HG1.out⟩
  · cases bL
    · have HF := hid (show b = false by
        rw [← Bool.not_eq_true, HB.out]
        rintro ⟨_, h1, _⟩
        have := HBL.out.2 h1
        cases this)
      clear HCm HB HBA HBL
      go_enter Tryz.func11, Tryz.ntmps11
      go_wp2_with fail
      refine HCa.out.mono ?_
      rintro e w1 ⟨rfl, hg1⟩
      have HG1 := hid hg1
      clear hg1
      go_wp2_with fail
      refine (HCl.out _ HG1.out).mono ?_
      rintro e w2 ⟨rfl, hg2⟩
      have HG2 := hid (HG1.out.trans hg2)
      clear hg2
      go_wp2_with fail
      go_ret
      exact ⟨by rw [HF.out]; rfl, HG2.out⟩
    · have HAre := hid (HBA.out.1 rfl)
      have HLst := hid (HBL.out.1 rfl)
      have HCm2 := hid (HCm.out HLst.out)
      clear HCm HBA HBL
      go_enter Tryz.func11, Tryz.ntmps11
      go_wp2_with fail
      refine HCa.out.mono ?_
      rintro e w1 ⟨rfl, hg1⟩
      have HG1 := hid hg1
      clear hg1
      go_wp2_with fail
      refine (HCl.out _ HG1.out).mono ?_
      rintro e w2 ⟨rfl, hg2⟩
      have HG2 := hid (HG1.out.trans hg2)
      clear hg2 HCa HCl
      go_wp2_with fail
      go_loopw [5, 18] (fun _ s18 wr => ∃ i : Nat, s18 = .int .i64 ((i : Nat) : Int) ∧ i ≤ n ∧ Grew w wr ∧ Hid (∀ c x, c < i → (cls l)[c]? = some x → MethsOk (cls l) ms c x)) (fun _ s18 _ => n - (intOf s18).toNat)
      case atStart => exact ⟨0, rfl, Nat.zero_le _, HG2.out, hid (fun c x hc => absurd hc (Nat.not_lt_zero _))⟩
      case round =>
        obtain ⟨i, rfl, hi, hg, HO⟩ := hrel
        have HG := hid hg
        clear hg
        by_cases hlt : i < n
        · have f1 : (i : Int) < n := by omega
          obtain ⟨v, hv⟩ : ∃ v, l[i]? = some v := ⟨_, List.getElem?_eq_getElem (by rw [← EN.out]; exact hlt)⟩
          have hx := cls_at hv
          obtain ⟨d, hd⟩ : ∃ d : Bool, d = true ↔ MethsOk (cls l) ms i v.c := ⟨tru _, tru_iff _⟩
          have HM := hid (HCm2.out i v hv d hd _ HG.out)
          have HX := hid hx
          have HDd := hid hd
          clear hv hx hd
          cases d
          · have HF := hid (show b = false by
              rw [← Bool.not_eq_true, HB.out]
              rintro ⟨_, _, h1⟩
              have := HDd.out.2 (h1 i v.c HX.out)
              cases this)
            go_wp2_with fail
            refine HM.out.mono ?_
            rintro e w3 ⟨rfl, hg3⟩
            have HG3 := hid (HG.out.trans hg3)
            clear hg3
            go_wp2_with fail
            go_ret
            exact ⟨by rw [HF.out]; rfl, HG3.out⟩
          · have HO2 := hid (show ∀ c x, c < i + 1 → (cls l)[c]? = some x → MethsOk (cls l) ms c x from fun c x hc hcx => by
              rcases Nat.lt_or_ge c i with h1 | h1
              · exact HO.out c x h1 hcx
              · obtain rfl : c = i := by omega
                rw [HX.out] at hcx
                obtain rfl := Option.some.inj hcx
                exact HDd.out.1 rfl)
            clear HDd
            go_wp2_with fail
            refine HM.out.mono ?_
            rintro e w3 ⟨rfl, hg3⟩
            have HG3 := hid (HG.out.trans hg3)
            clear hg3
            go_wp2_with fail
            go_round
            case rel => exact ⟨i + 1, by go_num, by omega, HG3.out, HO2⟩
            case measure => simp [intOf]; omega
        · have hin : i = n := by omega
          subst hin
          have HT := hid (show b = true from HB.out.2 ⟨HAre.out, HLst.out, fun c x hx => HO.out c x (by have := (List.getElem?_eq_some_iff.1 hx).1; rw [cls_len, ← EN.out] at this; exact this) hx⟩)
          go_wp2_with fail
          go_ret
          exact ⟨by rw [HT.out]; rfl, HG.out⟩
end Go.Proofs.YtjladeiecokpfaaGreatDoor

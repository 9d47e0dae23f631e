/- Law OpNames walked. -/
import Derived.Test.YtjmlcplhilhkpaaDoorOp18
namespace Go.Proofs.YtjmlcplhilhkpaaDoor
open Go.RowKit

theorem name_some {c : Nat} (h : c < 21) : (nameB c).data.toList ≠ [] := by
  have : ∀ c, c < 21 → (nameB c).data.toList ≠ [] := by decide +kernel
  exact this c h
theorem name_none {c : Nat} (h : ¬ c < 21) : nameB c = ⟨#[]⟩ := by
  unfold nameB
  rw [List.getD_eq_getElem?_getD, List.getElem?_eq_none (by simpa [nameBs] using h)]
  rfl
theorem name_inj {c d : Nat} (h : c < 21) (k : d < 21) (e : nameB c = nameB d) : c = d := by
  have : ∀ c, c < 21 → ∀ d, d < 21 → (nameB c).data = (nameB d).data → c = d := by decide +kernel
  exact this c h d k (by rw [e])
set_option maxRecDepth 100000 in
set_option maxHeartbeats 2000000 in
theorem names_no (a b : Nat) (w : World) (ha : a < 256) (hb : b < 256) (h : ¬ a < 21) (hh : HandleAt w) (hT : TabAt w) :
    Calls Tryd.prog 6 #[.int .u8 (a : Nat), .int .u8 (b : Nat)] w fun e w' => e = .returned (.bool true) ∧ Grew w w' := by
  have HF := hid (fun w' (hg : Grew w w') => oform_c a w' ha (hT.grew hg))
  rw [if_neg h, decide_eq_false h] at HF
  have HG := hid (fun w' (hg : Grew w w') => oform_c b w' hb (hT.grew hg))
  have HN := hid (fun w' (hg : Grew w w') => oname_c a w' ha (hT.grew hg))
  rw [name_none h] at HN
  have HS := hid (fun w' (hg : Grew w w') => osize_c a w' ha (hT.grew hg))
  rw [if_neg h] at HS
  have HZ := hid (fun w' (hg : Grew w w') => sure_c w' (hh.grew hg) (hT.grew hg))
  generalize (if b < 21 then formB b else ⟨#[]⟩) = fb at *
  generalize decide (b < 21) = so at *
  clear hT hh
  go_enter Tryd.func6, Tryd.ntmps6
  go_wp2_with fail
  refine (HF.out _ (Grew.refl _)).mono ?_
  rintro e w1 ⟨rfl, y1, rfl⟩
  go_wp2_with fail
  refine (Calls.after y1.grew (HG.out _ y1.grew)).mono ?_
  rintro e w1 ⟨rfl, y2, rfl⟩
  go_wp2_with fail
  refine wp_loop_rounds 3 ?_
  rw [rounds_succ]
  go_wp2_with fail
  refine (Calls.after y2.grew (HN.out _ y2.grew)).mono ?_
  rintro e w1 ⟨rfl, y3, rfl⟩
  go_wp2_with fail
  refine (Calls.after y3.grew (HS.out _ y3.grew)).mono ?_
  rintro e w1 ⟨rfl, y4, rfl⟩
  go_wp2_with fail
  refine (Calls.after y4.grew (HZ.out _ y4.grew)).mono ?_
  rintro e w1 ⟨rfl, y5, rfl⟩
  go_wp2_with fail
  go_ret
  exact ⟨rfl, y5.grew⟩
theorem toList_data (s : ByteArray) : s.toList = s.data.toList := by
  rw [ByteArray.toList_eq]
theorem str_beq (s t : ByteArray) : (s.toList == t.toList) = decide (s = t) := by
  rw [Bool.eq_iff_iff, beq_iff_eq, decide_eq_true_iff, ByteArray.toList_eq, ByteArray.toList_eq]
  constructor
  · intro h
    cases s; cases t
    simp at h
    rw [h]
  · rintro rfl; rfl
theorem name_eq {a b : Nat} (h : a < 21) (hb : b < 21) : ((nameB a).toList == (nameB b).toList) = (a == b) := by
  rw [str_beq, Bool.eq_iff_iff, beq_iff_eq, decide_eq_true_iff]
  exact ⟨fun e => name_inj h hb e, fun e => by rw [e]⟩
def FormIs (s : ByteArray) (n : Nat) : Prop := (s = ⟨#[]⟩ ∧ n = 1) ∨ (s = ⟨#[49]⟩ ∧ n = 2) ∨ (s = ⟨#[49, 49]⟩ ∧ n = 3) ∨ (s = ⟨#[50]⟩ ∧ n = 3) ∨ (s = ⟨#[50, 50]⟩ ∧ n = 5)
theorem formIs (c : Nat) : FormIs (formB c) (Op7.size c) := by
  unfold formB Op7.size
  rcases wid_cases c with e | e | e | e | e
  all_goals rw [e]
  · exact .inl ⟨rfl, rfl⟩
  · exact .inr (.inl ⟨rfl, rfl⟩)
  · exact .inr (.inr (.inl ⟨rfl, rfl⟩))
  · exact .inr (.inr (.inr (.inl ⟨rfl, rfl⟩)))
  · exact .inr (.inr (.inr (.inr ⟨rfl, rfl⟩)))
set_option maxRecDepth 100000 in
set_option maxHeartbeats 2000000 in
theorem names_yes (a b : Nat) (w : World) (ha : a < 256) (hb : b < 256) (h : a < 21) (hh : HandleAt w) (hT : TabAt w) :
    Calls Tryd.prog 6 #[.int .u8 (a : Nat), .int .u8 (b : Nat)] w fun e w' => e = .returned (.bool true) ∧ Grew w w' := by
  have HF := hid (fun w' (hg : Grew w w') => oform_c a w' ha (hT.grew hg))
  rw [if_pos h, decide_eq_true h] at HF
  have HG := hid (fun w' (hg : Grew w w') => oform_c b w' hb (hT.grew hg))
  have HN := hid (fun w' (hg : Grew w w') => oname_c a w' ha (hT.grew hg))
  have HM := hid (fun w' (hg : Grew w w') => oname_c b w' hb (hT.grew hg))
  have HS := hid (fun w' (hg : Grew w w') => osize_c a w' ha (hT.grew hg))
  rw [if_pos h] at HS
  have HZ := hid (fun w' (hg : Grew w w') => sure_c w' (hh.grew hg) (hT.grew hg))
  have h1 : ¬ (nameB a).toList = [] := by rw [toList_data]; exact name_some h
  have h2 : (!(nameB a).toList.isEmpty) = true := by rw [toList_data]; simpa using name_some h
  have HQ := hid (fun hb => name_eq h hb : b < 21 → ((nameB a).toList == (nameB b).toList) = (a == b))
  have hF := formIs a
  generalize formB a = s at *
  generalize Op7.size a = n at *
  generalize (if b < 21 then formB b else ⟨#[]⟩) = fb at *
  clear hT hh
  have hcase : ¬ b < 21 ∨ (b < 21 ∧ a = b) ∨ (b < 21 ∧ a ≠ b) := by omega
  rcases hcase with hb' | ⟨hb', rfl⟩ | ⟨hb', hab⟩
  · rw [decide_eq_false hb'] at HG
    rcases hF with ⟨rfl, rfl⟩ | ⟨rfl, rfl⟩ | ⟨rfl, rfl⟩ | ⟨rfl, rfl⟩ | ⟨rfl, rfl⟩
    all_goals
      go_enter Tryd.func6, Tryd.ntmps6
      go_wp2_with fail
      refine (HF.out _ (Grew.refl _)).mono ?_
      rintro e w1 ⟨rfl, y1, rfl⟩
      go_wp2_with fail
      refine (Calls.after y1.grew (HG.out _ y1.grew)).mono ?_
      rintro e w1 ⟨rfl, y2, rfl⟩
      go_wp2_with fail
      refine wp_loop_rounds 3 ?_
      repeat (rw [rounds_succ]; go_wp2_with fail)
      refine (Calls.after y2.grew (HN.out _ y2.grew)).mono ?_
      rintro e w1 ⟨rfl, y3, rfl⟩
      go_wp2_with fail
      refine (Calls.after y3.grew (HS.out _ y3.grew)).mono ?_
      rintro e w1 ⟨rfl, y4, rfl⟩
      go_wp2_with fail
      refine (Calls.after y4.grew (HZ.out _ y4.grew)).mono ?_
      rintro e w1 ⟨rfl, y5, rfl⟩
      go_wp2_with fail
      go_ret
      exact ⟨rfl, y5.grew⟩
  · rw [decide_eq_true hb'] at HG
    have hz : ((nameB a).toList == (nameB a).toList) = true := by rw [HQ.out hb']; simp
    rcases hF with ⟨rfl, rfl⟩ | ⟨rfl, rfl⟩ | ⟨rfl, rfl⟩ | ⟨rfl, rfl⟩ | ⟨rfl, rfl⟩
    all_goals
      go_enter Tryd.func6, Tryd.ntmps6
      go_wp2_with fail
      refine (HF.out _ (Grew.refl _)).mono ?_
      rintro e w1 ⟨rfl, y1, rfl⟩
      go_wp2_with fail
      refine (Calls.after y1.grew (HG.out _ y1.grew)).mono ?_
      rintro e w1 ⟨rfl, y2, rfl⟩
      go_wp2_with fail
      refine wp_loop_rounds 3 ?_
      repeat (rw [rounds_succ]; go_wp2_with fail)
      refine (Calls.after y2.grew (HN.out _ y2.grew)).mono ?_
      rintro e w1 ⟨rfl, y3, rfl⟩
      go_wp2_with fail
      refine (Calls.after y3.grew (HS.out _ y3.grew)).mono ?_
      rintro e w1 ⟨rfl, y4, rfl⟩
      go_wp2_with fail
      refine (Calls.after y4.grew (HN.out _ y4.grew)).mono ?_
      rintro e w1 ⟨rfl, y5, rfl⟩
      go_wp2_with fail
      refine (Calls.after y5.grew (HM.out _ y5.grew)).mono ?_
      rintro e w1 ⟨rfl, y6, rfl⟩
      go_wp2_with fail
      refine (Calls.after y6.grew (HZ.out _ y6.grew)).mono ?_
      rintro e w1 ⟨rfl, y7, rfl⟩
      go_wp2_with fail
      go_ret
      exact ⟨rfl, y7.grew⟩
  · rw [decide_eq_true hb'] at HG
    have hz : ((nameB a).toList == (nameB b).toList) = false := by rw [HQ.out hb']; simpa using hab
    have t1 : (a == b) = false := by simpa using hab
    have t2 : ((a : Int) == (b : Int)) = false := by simp; omega
    rcases hF with ⟨rfl, rfl⟩ | ⟨rfl, rfl⟩ | ⟨rfl, rfl⟩ | ⟨rfl, rfl⟩ | ⟨rfl, rfl⟩
    all_goals
      go_enter Tryd.func6, Tryd.ntmps6
      go_wp2_with fail
      refine (HF.out _ (Grew.refl _)).mono ?_
      rintro e w1 ⟨rfl, y1, rfl⟩
      go_wp2_with fail
      refine (Calls.after y1.grew (HG.out _ y1.grew)).mono ?_
      rintro e w1 ⟨rfl, y2, rfl⟩
      go_wp2_with fail
      refine wp_loop_rounds 3 ?_
      repeat (rw [rounds_succ]; go_wp2_with fail)
      refine (Calls.after y2.grew (HN.out _ y2.grew)).mono ?_
      rintro e w1 ⟨rfl, y3, rfl⟩
      go_wp2_with fail
      refine (Calls.after y3.grew (HS.out _ y3.grew)).mono ?_
      rintro e w1 ⟨rfl, y4, rfl⟩
      go_wp2_with fail
      refine (Calls.after y4.grew (HN.out _ y4.grew)).mono ?_
      rintro e w1 ⟨rfl, y5, rfl⟩
      go_wp2_with fail
      refine (Calls.after y5.grew (HM.out _ y5.grew)).mono ?_
      rintro e w1 ⟨rfl, y6, rfl⟩
      go_wp2_with fail
      refine (Calls.after y6.grew (HZ.out _ y6.grew)).mono ?_
      rintro e w1 ⟨rfl, y7, rfl⟩
      go_wp2_with fail
      go_ret
      exact ⟨rfl, y7.grew⟩
theorem names_walk (a b : Nat) (w : World) (ha : a < 256) (hb : b < 256) (hh : HandleAt w) (hT : TabAt w) :
    Calls Tryd.prog 6 #[.int .u8 (a : Nat), .int .u8 (b : Nat)] w fun e w' => e = .returned (.bool true) ∧ Grew w w' := by
  by_cases h : a < 21
  · exact names_yes a b w ha hb h hh hT
  · exact names_no a b w ha hb h hh hT
end Go.Proofs.YtjmlcplhilhkpaaDoor

/- The developers' large numbers, part 13: a text read as a number. -/
import Derived.Test.YtmcfciifjgdgoaaDoorPl12
namespace Go.Proofs.YtmcfciifjgdgoaaDoor
open Go.RowKit

theorem prefix_sign (s : ByteArray) : Lib.hasPrefix s.data.toList [45] = Lg.signOf (Lg.bytes s) := by
  rw [Lg.bytes]
  generalize s.data.toList = l
  cases l with
  | nil => rfl
  | cons a r =>
    rw [Lg.signOf, Lib.hasPrefix, List.map_cons, List.isPrefixOf, List.isPrefixOf, Bool.and_true, List.getD_cons_zero, List.length_cons, decide_eq_true (by omega), Bool.true_and, Bool.eq_iff_iff, beq_iff_eq, decide_eq_true_iff]
    constructor
    · rintro rfl; rfl
    · intro h; exact UInt8.toNat_inj.1 h.symm
theorem prefix_rest (s : ByteArray) : Lg.bytes ⟨(Lib.trimPrefix s.data.toList [45]).toArray⟩ = Lg.restOf (Lg.bytes s) := by
  have h := prefix_sign s
  rw [Lib.trimPrefix, h, Lg.restOf]
  cases Lg.signOf (Lg.bytes s)
  · simp [Lg.bytes]
  · simp [Lg.bytes]
/-- What the program asks of a numeral. -/
theorem form_prog (s t : ByteArray) (h : Lg.bytes t = Lg.restOf (Lg.bytes s)) : Lg.formOk (Lg.signOf (Lg.bytes s)) (Lg.restOf (Lg.bytes s)) = (digs t && !(decide ((Lg.bytes t).getD 0 0 = 48) && !(decide (Lg.bytes s = [48])))) := by
  have hl := Lg.bytes_len t
  have h2 : Lg.bytes s = [48] ↔ Lg.signOf (Lg.bytes s) = false ∧ Lg.bytes t = [48] := by
    rw [h]
    constructor
    · intro e
      rw [e]
      exact ⟨rfl, rfl⟩
    · rintro ⟨e1, e2⟩
      rwa [Lg.restOf, e1, if_neg (by decide)] at e2
  rw [← h, Lg.formOk, digs, ← hl]
  generalize Lg.signOf (Lg.bytes s) = g at *
  rw [show decide (Lg.bytes s = [48]) = (!g && decide (Lg.bytes t = [48])) by
    rw [Bool.eq_iff_iff, decide_eq_true_iff, h2]
    cases g <;> simp]
  clear h h2 hl
  generalize Lg.bytes t = l
  rcases l with _ | ⟨a, _ | ⟨b, r⟩⟩
  · rfl
  · by_cases ha : a = 48
    · subst ha; cases g <;> rfl
    · simp [ha]
  · by_cases ha : a = 48
    · subst ha; simp
    · simp [ha]

def ReadPost (l : List Nat) (w : World) (e : Ending) (w' : World) : Prop := ∃ A' c' ng L k, e = .returned (.tuple #[.agg #[.bool ng, .slice A' (List.length L) c'], errVal k]) ∧ OwnNums .u32 w w' 48 A' c' L ∧ Lg.ParseOut l ng L k ∧ Grew w w'

theorem ReadPost.bad {l : List Nat} {w w' : World} (h : Lg.formOk (Lg.signOf l) (Lg.restOf l) = false) (hg : Grew w w') : ReadPost l w (.returned (.tuple #[.agg #[.bool false, .slice none 0 0], .iface 62 (.int .i64 2)])) w' :=
  ⟨none, 0, false, [], 2, rfl, OwnNums.nil _ _ _ _, ⟨fun _ => ⟨rfl, rfl, rfl⟩, fun h2 => by rw [h] at h2; cases h2⟩, hg⟩

set_option maxRecDepth 100000 in
set_option maxHeartbeats 2000000 in
theorem pparse_c (s : ByteArray) (w : World) (hs : s.size ≤ 1000000000000) :
    Calls Tryd.prog 18 #[.string s] w (ReadPost (Lg.bytes s) w) := by
  obtain ⟨wb, hwb⟩ : ∃ wb, wb = w.alloc (.cells #[.bool false, .slice none 0 0] 26) := ⟨_, rfl⟩
  have CC := Tryd.strings_CutPrefix s ⟨#[45]⟩ wb
  rw [show (⟨#[45]⟩ : ByteArray).data.toList = [45] from rfl, prefix_sign s] at CC
  have HR := prefix_rest s
  generalize (⟨(Lib.trimPrefix s.data.toList [45]).toArray⟩ : ByteArray) = t at *
  have HF := form_prog s t HR
  have hts : t.size ≤ 1000000000000 := by
    rw [← Lg.bytes_len, HR, Lg.restOf]
    split
    · rw [List.length_drop, Lg.bytes_len]; omega
    · rw [Lg.bytes_len]; exact hs
  obtain ⟨g, hg⟩ : ∃ g, g = Lg.signOf (Lg.bytes s) := ⟨_, rfl⟩
  rw [← hg] at CC
  have CA := pareDigits_c t wb hts
  obtain ⟨q, hq⟩ : ∃ q, q = digs t := ⟨_, rfl⟩
  rw [← hq] at CA HF
  have hzt := zero_text s
  have HG := hid hg
  have HQ := hid hq
  replace HR := hid HR
  replace HF := hid HF
  replace CC := hid CC
  replace CA := hid CA
  clear hg hq
  have k0 : Grew w wb ∧ wb.heap.size = w.heap.size + 1 ∧ wb.cell? ⟨w.heap.size, 0, none⟩ = some (.bool false) ∧ wb.cell? ⟨w.heap.size, 1, none⟩ = some (.slice none 0 0) ∧ (∀ i, wb.frozen? ⟨w.heap.size, i, none⟩ = false) := by
    subst hwb
    exact ⟨(Grew.refl _).alloc _, by simp, by simp, by simp, fun i => by simp⟩
  have HWB := hid k0
  have HWE := hid hwb
  clear k0 hwb
  go_enter Tryd.func18, Tryd.ntmps18
  go_wp2_with fail
  rw [← HWE.out]
  clear HWE
  refine CC.out.mono ?_
  rintro e w1 ⟨rfl, rfl⟩
  obtain ⟨HW, hsz, -⟩ := HWB.out
  go_wp2_with fail
  refine CA.out.mono ?_
  rintro e w2 ⟨rfl, y, rfl⟩
  have r0 := (y.cell _ (by show w.heap.size < _; omega)).trans HWB.out.2.2.1
  have r1 := (y.cell _ (by show w.heap.size < _; omega)).trans HWB.out.2.2.2.1
  have rf : ∀ i, y.w.frozen? ⟨w.heap.size, i, none⟩ = false := fun i => (y.frozen _ (by show w.heap.size < _; omega)).trans (HWB.out.2.2.2.2 i)
  clear CC CA
  cases q
  · have hf := hid (show Lg.formOk (Lg.signOf (Lg.bytes s)) (Lg.restOf (Lg.bytes s)) = false by rw [HF.out]; rfl)
    clear HF HG HQ hzt
    have HG := hid (HW.trans y.grew)
    go_wp2_with fail
    refine bodyPost_ret (v := .tuple #[.agg #[.bool false, .slice none 0 0], .iface 62 (.int .i64 2)]) (by simp [results, Tryd.results18, go_sem, *]) rfl ?_
    exact ReadPost.bad hf.out ((HG.out.setCell (Nat.le_refl _) _).setCell (Nat.le_refl _) _)
  · have hd := HQ.out.symm
    rw [digs, Bool.and_eq_true, Bool.and_eq_true, decide_eq_true_iff, decide_eq_true_iff, List.all_eq_true] at hd
    obtain ⟨⟨hd1, hd2⟩, hd3⟩ := hd
    have HA := hid (show ∀ j, j < (Lg.bytes t).length → Lg.isDigit ((Lg.bytes t).getD j 0) = true from fun j hj => by
      rw [List.getD_eq_getElem?_getD, List.getElem?_eq_getElem hj]
      exact hd3 _ (List.getElem_mem hj))
    clear hd3 HQ
    have hb0 := Lg.bytes_at t 0 hd1
    have hd1' : (0 : Int) < (t.size : Int) := by omega
    obtain ⟨x, hx⟩ : ∃ x, x = (Lg.bytes t).getD 0 0 := ⟨_, rfl⟩
    rw [← hx] at hb0 HF
    clear hx
    have CM := hid (parseMag_c t y.w hd2 HA.out)
    have HF2 := hid (show (decide (x = 48) && !(decide (Lg.bytes s = [48]))) = false → Lg.formOk (Lg.signOf (Lg.bytes s)) (Lg.restOf (Lg.bytes s)) = true from fun h => by rw [HF.out, h]; rfl)
    by_cases hx : x = 48
    · subst hx
      by_cases hz : Lg.bytes s = [48]
      · rw [decide_eq_true hz] at hzt
        have hf := hid (HF2.out (by rw [decide_eq_true hz]; rfl))
        clear HF HF2 hz
        go_wp2_with fail
        refine CM.out.mono ?_
        rintro e w3 ⟨A3, c3, M3, rfl, hO3, hl3, hv3, hm3, hg3⟩
        have CL := hid (plimited_c g A3 c3 M3 w1 w3 (hO3.mono y.grew) hl3 (by omega))
        obtain ⟨y3, rfl⟩ := y.grew.trans hg3
        have HV := hid (show Lg.sgn g (Dg.val 4294967296 M3) = Lg.numOf (Lg.bytes s) by rw [hv3, HG.out, Lg.numOf, dvs, HR.out])
        clear CM hO3 hl3 hv3 hg3 r0 r1 rf
        go_wp2_with fail
        refine CL.out.mono ?_
        rintro e w4 ⟨A4, c4, n4, L4, k4, rfl, hO4, hU4, hG4⟩
        rw [HV.out] at hU4
        obtain ⟨y4, rfl⟩ := y3.grew.trans hG4
        have q0 := (y4.cell _ (by show w.heap.size < _; omega)).trans HWB.out.2.2.1
        have q1 := (y4.cell _ (by show w.heap.size < _; omega)).trans HWB.out.2.2.2.1
        have qf : ∀ i, y4.w.frozen? ⟨w.heap.size, i, none⟩ = false := fun i => (y4.frozen _ (by show w.heap.size < _; omega)).trans (HWB.out.2.2.2.2 i)
        have HO4 := hid hO4
        have HU4 := hid hU4
        clear CL hO4 hU4 hG4
        go_wp2_with fail
        have HOO := hid HO4.out
        refine bodyPost_ret (v := .tuple #[.agg #[.bool n4, .slice A4 L4.length c4], errVal k4]) (by simp [results, Tryd.results18, go_sem, *]) rfl ?_
        obtain ⟨h1, h2⟩ := own_back2 HW HO4.out y4.grew w.heap.size (Nat.le_refl _) (by omega) (.bool n4) (.slice A4 L4.length c4)
        exact ⟨A4, c4, n4, L4, k4, rfl, h1, ⟨fun h => (by rw [hf.out] at h; cases h), fun _ => HU4.out⟩, h2⟩
      · rw [decide_eq_false hz] at hzt
        have hf := hid (show Lg.formOk (Lg.signOf (Lg.bytes s)) (Lg.restOf (Lg.bytes s)) = false by rw [HF.out, decide_eq_false hz]; rfl)
        have HG := hid (HW.trans y.grew)
        clear HF HF2 hz CM
        go_wp2_with fail
        refine bodyPost_ret (v := .tuple #[.agg #[.bool false, .slice none 0 0], .iface 62 (.int .i64 2)]) (by simp [results, Tryd.results18, go_sem, *]) rfl ?_
        exact ReadPost.bad hf.out ((HG.out.setCell (Nat.le_refl _) _).setCell (Nat.le_refl _) _)
    · have hf := hid (HF2.out (by rw [decide_eq_false hx]; rfl))
      clear HF HF2
      go_wp2_with fail
      refine CM.out.mono ?_
      rintro e w3 ⟨A3, c3, M3, rfl, hO3, hl3, hv3, hm3, hg3⟩
      have CL := hid (plimited_c g A3 c3 M3 w1 w3 (hO3.mono y.grew) hl3 (by omega))
      obtain ⟨y3, rfl⟩ := y.grew.trans hg3
      have HV := hid (show Lg.sgn g (Dg.val 4294967296 M3) = Lg.numOf (Lg.bytes s) by rw [hv3, HG.out, Lg.numOf, dvs, HR.out])
      clear CM hO3 hl3 hv3 hg3 r0 r1 rf
      go_wp2_with fail
      refine CL.out.mono ?_
      rintro e w4 ⟨A4, c4, n4, L4, k4, rfl, hO4, hU4, hG4⟩
      rw [HV.out] at hU4
      obtain ⟨y4, rfl⟩ := y3.grew.trans hG4
      have q0 := (y4.cell _ (by show w.heap.size < _; omega)).trans HWB.out.2.2.1
      have q1 := (y4.cell _ (by show w.heap.size < _; omega)).trans HWB.out.2.2.2.1
      have qf : ∀ i, y4.w.frozen? ⟨w.heap.size, i, none⟩ = false := fun i => (y4.frozen _ (by show w.heap.size < _; omega)).trans (HWB.out.2.2.2.2 i)
      have HO4 := hid hO4
      have HU4 := hid hU4
      clear CL hO4 hU4 hG4
      go_wp2_with fail
      have HOO := hid HO4.out
      refine bodyPost_ret (v := .tuple #[.agg #[.bool n4, .slice A4 L4.length c4], errVal k4]) (by simp [results, Tryd.results18, go_sem, *]) rfl ?_
      obtain ⟨h1, h2⟩ := own_back2 HW HO4.out y4.grew w.heap.size (Nat.le_refl _) (by omega) (.bool n4) (.slice A4 L4.length c4)
      exact ⟨A4, c4, n4, L4, k4, rfl, h1, ⟨fun h => (by rw [hf.out] at h; cases h), fun _ => HU4.out⟩, h2⟩
end Go.Proofs.YtmcfciifjgdgoaaDoor

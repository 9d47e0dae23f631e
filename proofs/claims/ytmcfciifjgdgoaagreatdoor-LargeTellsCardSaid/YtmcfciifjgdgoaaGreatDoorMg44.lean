/- Texts of this claim in one: Pl13 LawNum Sure03 Lh3. -/
import Derived.Test.YtmcfciifjgdgoaaGreatDoorPl12
import Derived.Test.YtmcfciifjgdgoaaGreatDoorNum
import Derived.Test.YtmcfciifjgdgoaaGreatDoorMg43
import Derived.Test.YtmcfciifjgdgoaaGreatDoorPl10
import Derived.Test.YtmcfciifjgdgoaaGreatDoorPl15
import Derived.Test.YtmcfciifjgdgoaaGreatDoorLh1
import Derived.Test.YtmcfciifjgdgoaaGreatDoorLh2
section
/- The developers' large numbers, part 13: a text read as a number. -/
namespace Go.Proofs.YtmcfciifjgdgoaaGreatDoor
open Go.RowKit

theorem prefix_sign (s : ByteArray) : Lib.hasPrefix s.data.toList [45] = Lg.signOf (Lg.bytes s) := by
  rw [Lg.bytes]
  generalize s.data.toList = l
  cases l with
  | nil => rfl
  | cons a r =>
    rw [Lg.signOf, Lib.hasPrefix, List.map_cons, List.isPrefixOf, List.isPrefixOf, Bool.and_true, List.getD_cons_zero, List.length_cons, decide_eq_true (by omega), Bool.true_and, Bool.eq_iff_iff, beq_iff_eq, decide_eq_true_iff]
    constructor
    · rintro rfl; rfl
    · intro h; exact UInt8.toNat_inj.1 h.symm
theorem prefix_rest (s : ByteArray) : Lg.bytes ⟨(Lib.trimPrefix s.data.toList [45]).toArray⟩ = Lg.restOf (Lg.bytes s) := by
  have h := prefix_sign s
  rw [Lib.trimPrefix, h, Lg.restOf]
  cases Lg.signOf (Lg.bytes s)
  · simp [Lg.bytes]
  · simp [Lg.bytes]
/-- What the program asks of a numeral. -/
theorem form_prog (s t : ByteArray) (h : Lg.bytes t = Lg.restOf (Lg.bytes s)) : Lg.formOk (Lg.signOf (Lg.bytes s)) (Lg.restOf (Lg.bytes s)) = (digs t && !(decide ((Lg.bytes t).getD 0 0 = 48) && !(decide (Lg.bytes s = [48])))) := by
  have hl := Lg.bytes_len t
  have h2 : Lg.bytes s = [48] ↔ Lg.signOf (Lg.bytes s) = false ∧ Lg.bytes t = [48] := by
    rw [h]
    constructor
    · intro e
      rw [e]
      exact ⟨rfl, rfl⟩
    · rintro ⟨e1, e2⟩
      rwa [Lg.restOf, e1, if_neg (by decide)] at e2
  rw [← h, Lg.formOk, digs, ← hl]
  generalize Lg.signOf (Lg.bytes s) = g at *
  rw [show decide (Lg.bytes s = [48]) = (!g && decide (Lg.bytes t = [48])) by
    rw [Bool.eq_iff_iff, decide_eq_true_iff, h2]
    cases g <;> simp]
  clear h h2 hl
  generalize Lg.bytes t = l
  rcases l with _ | ⟨a, _ | ⟨b, r⟩⟩
  · rfl
  · by_cases ha : a = 48
    · subst ha; cases g <;> rfl
    · simp [ha]
  · by_cases ha : a = 48
    · subst ha; simp
    · simp [ha]

def ReadPost (l : List Nat) (w : World) (e : Ending) (w' : World) : Prop := ∃ A' c' ng L k, e = .returned (.tuple #[.agg #[.bool ng, .slice A' (List.length L) c'], errVal k]) ∧ OwnNums .u32 w w' 55 A' c' L ∧ Lg.ParseOut l ng L k ∧ Grew w w'

theorem ReadPost.bad {l : List Nat} {w w' : World} (h : Lg.formOk (Lg.signOf l) (Lg.restOf l) = false) (hg : Grew w w') : ReadPost l w (.returned (.tuple #[.agg #[.bool false, .slice none 0 0], .iface 56 (.int .i64 2)])) w' :=
  ⟨none, 0, false, [], 2, rfl, OwnNums.nil _ _ _ _, ⟨fun _ => ⟨rfl, rfl, rfl⟩, fun h2 => by rw [h] at h2; cases h2⟩, hg⟩

set_option maxRecDepth 100000 in
set_option maxHeartbeats 2000000 in
theorem pparse_c (s : ByteArray) (w : World) (hs : s.size ≤ 1000000000000) :
    Calls Tryz.prog 22 #[.string s] w (ReadPost (Lg.bytes s) w) := by
  obtain ⟨wb, hwb⟩ : ∃ wb, wb = w.alloc (.cells #[.bool false, .slice none 0 0] 27) := ⟨_, rfl⟩
  have CC := Tryz.strings_CutPrefix s ⟨#[45]⟩ wb
  rw [show (⟨#[45]⟩ : ByteArray).data.toList = [45] from rfl, prefix_sign s] at CC
  have HR := prefix_rest s
  generalize (⟨(Lib.trimPrefix s.data.toList [45]).toArray⟩ : ByteArray) = t at *
  have HF := form_prog s t HR
  have hts : t.size ≤ 1000000000000 := by
    rw [← Lg.bytes_len, HR, Lg.restOf]
    split
    · rw [List.length_drop, Lg.bytes_len]; omega
    · rw [Lg.bytes_len]; exact hs
  obtain ⟨g, hg⟩ : ∃ g, g = Lg.signOf (Lg.bytes s) := ⟨_, rfl⟩
  rw [← hg] at CC
  have CA := pareDigits_c t wb hts
  obtain ⟨q, hq⟩ : ∃ q, q = digs t := ⟨_, rfl⟩
  rw [← hq] at CA HF
  have hzt := zero_text s
  have HG := hid hg
  have HQ := hid hq
  replace HR := hid HR
  replace HF := hid HF
  replace CC := hid CC
  replace CA := hid CA
  clear hg hq
  have k0 : Grew w wb ∧ wb.heap.size = w.heap.size + 1 ∧ wb.cell? ⟨w.heap.size, 0, none⟩ = some (.bool false) ∧ wb.cell? ⟨w.heap.size, 1, none⟩ = some (.slice none 0 0) ∧ (∀ i, wb.frozen? ⟨w.heap.size, i, none⟩ = false) := by
    subst hwb
    exact ⟨(Grew.refl _).alloc _, by simp, by simp, by simp, fun i => by simp⟩
  have HWB := hid k0
  have HWE := hid hwb
  clear k0 hwb
  go_enter Tryz.func22, Tryz.ntmps22
  go_wp2_with fail
  rw [← HWE.out]
  clear HWE
  refine CC.out.mono ?_
  rintro e w1 ⟨rfl, rfl⟩
  obtain ⟨HW, hsz, -⟩ := HWB.out
  go_wp2_with fail
  refine CA.out.mono ?_
  rintro e w2 ⟨rfl, y, rfl⟩
  have r0 := (y.cell _ (by show w.heap.size < _; omega)).trans HWB.out.2.2.1
  have r1 := (y.cell _ (by show w.heap.size < _; omega)).trans HWB.out.2.2.2.1
  have rf : ∀ i, y.w.frozen? ⟨w.heap.size, i, none⟩ = false := fun i => (y.frozen _ (by show w.heap.size < _; omega)).trans (HWB.out.2.2.2.2 i)
  clear CC CA
  cases q
  · have hf := hid (show Lg.formOk (Lg.signOf (Lg.bytes s)) (Lg.restOf (Lg.bytes s)) = false by rw [HF.out]; rfl)
    clear HF HG HQ hzt
    have HG := hid (HW.trans y.grew)
    go_wp2_with fail
    refine bodyPost_ret (v := .tuple #[.agg #[.bool false, .slice none 0 0], .iface 56 (.int .i64 2)]) (by simp [results, Tryz.results22, go_sem, *]) rfl ?_
    exact ReadPost.bad hf.out ((HG.out.setCell (Nat.le_refl _) _).setCell (Nat.le_refl _) _)
  · have hd := HQ.out.symm
    rw [digs, Bool.and_eq_true, Bool.and_eq_true, decide_eq_true_iff, decide_eq_true_iff, List.all_eq_true] at hd
    obtain ⟨⟨hd1, hd2⟩, hd3⟩ := hd
    have HA := hid (show ∀ j, j < (Lg.bytes t).length → Lg.isDigit ((Lg.bytes t).getD j 0) = true from fun j hj => by
      rw [List.getD_eq_getElem?_getD, List.getElem?_eq_getElem hj]
      exact hd3 _ (List.getElem_mem hj))
    clear hd3 HQ
    have hb0 := Lg.bytes_at t 0 hd1
    have hd1' : (0 : Int) < (t.size : Int) := by omega
    obtain ⟨x, hx⟩ : ∃ x, x = (Lg.bytes t).getD 0 0 := ⟨_, rfl⟩
    rw [← hx] at hb0 HF
    clear hx
    have CM := hid (parseMag_c t y.w hd2 HA.out)
    have HF2 := hid (show (decide (x = 48) && !(decide (Lg.bytes s = [48]))) = false → Lg.formOk (Lg.signOf (Lg.bytes s)) (Lg.restOf (Lg.bytes s)) = true from fun h => by rw [HF.out, h]; rfl)
    by_cases hx : x = 48
    · subst hx
      by_cases hz : Lg.bytes s = [48]
      · rw [decide_eq_true hz] at hzt
        have hf := hid (HF2.out (by rw [decide_eq_true hz]; rfl))
        clear HF HF2 hz
        go_wp2_with fail
        refine CM.out.mono ?_
        rintro e w3 ⟨A3, c3, M3, rfl, hO3, hl3, hv3, hm3, hg3⟩
        have CL := hid (plimited_c g A3 c3 M3 w1 w3 (hO3.mono y.grew) hl3 (by omega))
        obtain ⟨y3, rfl⟩ := y.grew.trans hg3
        have HV := hid (show Lg.sgn g (Dg.val 4294967296 M3) = Lg.numOf (Lg.bytes s) by rw [hv3, HG.out, Lg.numOf, dvs, HR.out])
        clear CM hO3 hl3 hv3 hg3 r0 r1 rf
        go_wp2_with fail
        refine CL.out.mono ?_
        rintro e w4 ⟨A4, c4, n4, L4, k4, rfl, hO4, hU4, hG4⟩
        rw [HV.out] at hU4
        obtain ⟨y4, rfl⟩ := y3.grew.trans hG4
        have q0 := (y4.cell _ (by show w.heap.size < _; omega)).trans HWB.out.2.2.1
        have q1 := (y4.cell _ (by show w.heap.size < _; omega)).trans HWB.out.2.2.2.1
        have qf : ∀ i, y4.w.frozen? ⟨w.heap.size, i, none⟩ = false := fun i => (y4.frozen _ (by show w.heap.size < _; omega)).trans (HWB.out.2.2.2.2 i)
        have HO4 := hid hO4
        have HU4 := hid hU4
        clear CL hO4 hU4 hG4
        go_wp2_with fail
        have HOO := hid HO4.out
        refine bodyPost_ret (v := .tuple #[.agg #[.bool n4, .slice A4 L4.length c4], errVal k4]) (by simp [results, Tryz.results22, go_sem, *]) rfl ?_
        obtain ⟨h1, h2⟩ := own_back2 HW HO4.out y4.grew w.heap.size (Nat.le_refl _) (by omega) (.bool n4) (.slice A4 L4.length c4)
        exact ⟨A4, c4, n4, L4, k4, rfl, h1, ⟨fun h => (by rw [hf.out] at h; cases h), fun _ => HU4.out⟩, h2⟩
      · rw [decide_eq_false hz] at hzt
        have hf := hid (show Lg.formOk (Lg.signOf (Lg.bytes s)) (Lg.restOf (Lg.bytes s)) = false by rw [HF.out, decide_eq_false hz]; rfl)
        have HG := hid (HW.trans y.grew)
        clear HF HF2 hz CM
        go_wp2_with fail
        refine bodyPost_ret (v := .tuple #[.agg #[.bool false, .slice none 0 0], .iface 56 (.int .i64 2)]) (by simp [results, Tryz.results22, go_sem, *]) rfl ?_
        exact ReadPost.bad hf.out ((HG.out.setCell (Nat.le_refl _) _).setCell (Nat.le_refl _) _)
    · have hf := hid (HF2.out (by rw [decide_eq_false hx]; rfl))
      clear HF HF2
      go_wp2_with fail
      refine CM.out.mono ?_
      rintro e w3 ⟨A3, c3, M3, rfl, hO3, hl3, hv3, hm3, hg3⟩
      have CL := hid (plimited_c g A3 c3 M3 w1 w3 (hO3.mono y.grew) hl3 (by omega))
      obtain ⟨y3, rfl⟩ := y.grew.trans hg3
      have HV := hid (show Lg.sgn g (Dg.val 4294967296 M3) = Lg.numOf (Lg.bytes s) by rw [hv3, HG.out, Lg.numOf, dvs, HR.out])
      clear CM hO3 hl3 hv3 hg3 r0 r1 rf
      go_wp2_with fail
      refine CL.out.mono ?_
      rintro e w4 ⟨A4, c4, n4, L4, k4, rfl, hO4, hU4, hG4⟩
      rw [HV.out] at hU4
      obtain ⟨y4, rfl⟩ := y3.grew.trans hG4
      have q0 := (y4.cell _ (by show w.heap.size < _; omega)).trans HWB.out.2.2.1
      have q1 := (y4.cell _ (by show w.heap.size < _; omega)).trans HWB.out.2.2.2.1
      have qf : ∀ i, y4.w.frozen? ⟨w.heap.size, i, none⟩ = false := fun i => (y4.frozen _ (by show w.heap.size < _; omega)).trans (HWB.out.2.2.2.2 i)
      have HO4 := hid hO4
      have HU4 := hid hU4
      clear CL hO4 hU4 hG4
      go_wp2_with fail
      have HOO := hid HO4.out
      refine bodyPost_ret (v := .tuple #[.agg #[.bool n4, .slice A4 L4.length c4], errVal k4]) (by simp [results, Tryz.results22, go_sem, *]) rfl ?_
      obtain ⟨h1, h2⟩ := own_back2 HW HO4.out y4.grew w.heap.size (Nat.le_refl _) (by omega) (.bool n4) (.slice A4 L4.length c4)
      exact ⟨A4, c4, n4, L4, k4, rfl, h1, ⟨fun h => (by rw [hf.out] at h; cases h), fun _ => HU4.out⟩, h2⟩
end Go.Proofs.YtmcfciifjgdgoaaGreatDoor
end

section
/- The law's own 'num' at nil and at an api.Errno. -/
namespace Go.Proofs.YtmcfciifjgdgoaaGreatDoor
open Go.RowKit

set_option maxHeartbeats 1000000 in
theorem num_c (k : Nat) (w : World) (hg : HandleAt w) : Calls Tryz.prog 13 #[errVal k] w fun e w' => e = .returned (.int .i64 k) ∧ Grew w w' := by
  unfold errVal
  by_cases hk : k = 0
  · subst hk
    rw [if_pos rfl]
    go_enter Tryz.func13, Tryz.ntmps13
    go_wp2_with fail
    go_ret
    exact ⟨rfl, (Grew.refl _).alloc _⟩
  · rw [if_neg hk]
    have h1 := hid (as_hit k w.heap.size (.int .i64 0) (w.alloc (.cells #[.int .i64 0] 56)) (hg.grew ((Grew.refl _).alloc _)) (by simp) (by simp))
    go_enter Tryz.func13, Tryz.ntmps13
    go_wp2_with fail
    refine h1.out.mono ?_
    rintro e w' ⟨rfl, hw⟩
    have hgr : Grew w w' := by
      rw [hw]
      exact ((((((Grew.refl w).alloc _).alloc _).alloc _).alloc _).alloc _).setCell (Nat.le_refl _) _
    have hc : w'.cell? ⟨w.heap.size, 0, none⟩ = some (.int .i64 k) := by
      rw [hw]
      refine World.cell?_setCell_same _ _ _ (u := .int .i64 0) ?_
      rw [World.cell?_alloc_lt _ _ _ (by simp <;> omega), World.cell?_alloc_lt _ _ _ (by simp <;> omega), World.cell?_alloc_lt _ _ _ (by simp <;> omega), World.cell?_alloc_lt _ _ _ (by simp)]
      simp
    clear hw
    go_wp2_with fail
    go_ret
    exact ⟨rfl, hgr⟩
end Go.Proofs.YtmcfciifjgdgoaaGreatDoor
end

section
/- Law 03's own 'sure': its fixed examples. -/
namespace Go.Proofs.YtmcfciifjgdgoaaGreatDoor
open Go.RowKit

theorem one_rep {x : Nat} (h0 : 0 < x) (h : x < 4294967296) (neg : Bool) : Lg.Rep neg [x] (Lg.sgn neg x) :=
  ⟨one_low h, by simp [Dg.Top]; omega, by rw [one_val, Lg.sgn_abs], by rw [← Lg.sgn_neg, decide_eq_true (by omega), Bool.and_true]⟩
theorem out_is {z : Int} {ng neg : Bool} {L xs : List Nat} {k : Nat} (h : Lg.Out z ng L k) (r : Lg.Rep neg xs z) (hl : xs.length ≤ 64) : ng = neg ∧ L = xs ∧ k = 0 := h.inj (Lg.Out.of_rep r hl)
theorem two_rep {x y : Nat} (h0 : x < 4294967296) (h1 : 0 < y) (h : y < 4294967296) (neg : Bool) : Lg.Rep neg [x, y] (Lg.sgn neg (x + 4294967296 * y)) :=
  ⟨Dg.Low.cons h0 (one_low h), by simp [Dg.Top]; omega, by rw [Dg.val_cons, one_val, Lg.sgn_abs], by rw [← Lg.sgn_neg, decide_eq_true (by omega), Bool.and_true]⟩

theorem sure_a (w : World) : Calls Tryz.prog 22 #[.string ⟨#[52, 50, 57, 52, 57, 54, 55, 50, 57, 54]⟩] w fun e w' => ∃ A c, e = .returned (.tuple #[.agg #[.bool false, .slice A 2 c], .nilIface]) ∧ OwnNums .u32 w w' 55 A c [0, 1] ∧ Grew w w' := by
  refine (pparse_c _ w (by decide)).mono ?_
  rintro e w' ⟨A, c, ng, L, k, rfl, hO, hP, hg⟩
  have h := hP.yes (by decide +kernel)
  rw [show Lg.numOf (Lg.bytes ⟨#[52, 50, 57, 52, 57, 54, 55, 50, 57, 54]⟩) = Lg.sgn false (0 + 4294967296 * 1) by decide +kernel] at h
  obtain ⟨rfl, rfl, rfl⟩ := out_is h (two_rep (by decide) (by decide) (by decide) false) (by decide)
  exact ⟨A, c, rfl, hO, hg⟩
theorem sure_j (w : World) : Calls Tryz.prog 22 #[.string ⟨#[45, 48]⟩] w fun e w' => ∃ A c, e = .returned (.tuple #[.agg #[.bool false, .slice A 0 c], errVal 2]) ∧ Grew w w' := by
  refine (pparse_c _ w (by decide)).mono ?_
  rintro e w' ⟨A, c, ng, L, k, rfl, hO, hP, hg⟩
  obtain ⟨rfl, rfl, rfl⟩ := hP.no (by decide +kernel)
  exact ⟨_, _, rfl, hg⟩
theorem of_is {n : Int} (x : Nat) (h0 : 0 < x) (hx : x < 4294967296) (hn : n = Lg.sgn (decide (n < 0)) x) (w : World) (h1 : -9223372036854775808 ≤ n) (h2 : n ≤ 9223372036854775807) :
    Calls Tryz.prog 23 #[.int .i64 n] w fun e w' => ∃ A c, e = .returned (.agg #[.bool (decide (n < 0)), .slice A 1 c]) ∧ OwnNums .u32 w w' 55 A c [x] ∧ Grew w w' := by
  refine (pof_c n w h1 h2).mono ?_
  rintro e w' ⟨A, c, xs, rfl, hO, hr, hg⟩
  have h := one_rep h0 hx (decide (n < 0))
  rw [← hn] at h
  obtain ⟨_, rfl⟩ := hr.inj h
  exact ⟨A, c, rfl, hO, hg⟩
theorem sure_m3 (w : World) : Calls Tryz.prog 23 #[.int .i64 (-3)] w fun e w' => ∃ A c, e = .returned (.agg #[.bool true, .slice A 1 c]) ∧ OwnNums .u32 w w' 55 A c [3] ∧ Grew w w' := of_is (n := -3) 3 (by decide) (by decide) (by decide) w (by decide) (by decide)
theorem sure_m7 (w : World) : Calls Tryz.prog 23 #[.int .i64 (-7)] w fun e w' => ∃ A c, e = .returned (.agg #[.bool true, .slice A 1 c]) ∧ OwnNums .u32 w w' 55 A c [7] ∧ Grew w w' := of_is (n := -7) 7 (by decide) (by decide) (by decide) w (by decide) (by decide)
theorem sure_2 (w : World) : Calls Tryz.prog 23 #[.int .i64 2] w fun e w' => ∃ A c, e = .returned (.agg #[.bool false, .slice A 1 c]) ∧ OwnNums .u32 w w' 55 A c [2] ∧ Grew w w' := of_is (n := 2) 2 (by decide) (by decide) (by decide) w (by decide) (by decide)
theorem sure_b (A : Option Addr) (c : Nat) (B : Option Addr) (d : Nat) (w : World) (ha : NumsAt .u32 w w.heap.size A [0, 1]) (hb : NumsAt .u32 w w.heap.size B [3]) :
    Calls Tryz.prog 10 #[.agg #[.bool false, .slice A 2 c], .agg #[.bool true, .slice B 1 d]] w fun e w' => ∃ A c, e = .returned (.tuple #[.agg #[.bool true, .slice A 2 c], .nilIface]) ∧ OwnNums .u32 w w' 55 A c [0, 3] ∧ Grew w w' := by
  refine (pmul_c false A c [0, 1] true B d [3] w ha hb (Dg.Low.cons (by decide) (one_low (by decide))) (one_low (by decide)) (by decide) (by decide)).mono ?_
  rintro e w' ⟨A, c, ng, L, k, rfl, hO, hP, hg⟩
  have h := hP.yes (by decide +kernel)
  rw [show Lg.num false [0, 1] * Lg.num true [3] = Lg.sgn true (0 + 4294967296 * 3) by decide +kernel] at h
  obtain ⟨rfl, rfl, rfl⟩ := out_is h (two_rep (by decide) (by decide) (by decide) true) (by decide)
  exact ⟨A, c, rfl, hO, hg⟩
theorem sure_t (A : Option Addr) (c : Nat) (w : World) (ha : NumsAt .u32 w w.heap.size A [0, 3]) :
    Calls Tryz.prog 24 #[.agg #[.bool true, .slice A 2 c]] w fun e w' => e = .returned (.tuple #[.string ⟨#[45, 49, 50, 56, 56, 52, 57, 48, 49, 56, 56, 56]⟩, .nilIface]) ∧ Grew w w' := by
  refine (ptext_c true A c [0, 3] w ha (Dg.Low.cons (by decide) (one_low (by decide))) (by decide)).mono ?_
  rintro e w' ⟨s, k, rfl, hT, hg⟩
  obtain ⟨rfl, D, hD, rfl⟩ := hT.yes (by decide +kernel)
  have hE : Lg.Dec [8, 8, 8, 1, 0, 9, 4, 8, 8, 2, 1] (Dg.val 4294967296 [0, 3]) := ⟨by intro x hx; simp at hx; omega, by decide +kernel, .inr ⟨by simp [Dg.Top], by simp⟩⟩
  obtain rfl := hD.inj hE
  exact ⟨rfl, hg⟩
theorem sure_d (A : Option Addr) (c : Nat) (B : Option Addr) (d : Nat) (w : World) (ha : NumsAt .u32 w w.heap.size A [7]) (hb : NumsAt .u32 w w.heap.size B [2]) :
    Calls Tryz.prog 14 #[.agg #[.bool true, .slice A 1 c], .agg #[.bool false, .slice B 1 d]] w fun e w' => ∃ A c B d, e = .returned (.tuple #[.agg #[.bool true, .slice A 1 c], .agg #[.bool false, .slice B 1 d], .nilIface]) ∧ OwnNums .u32 w w' 55 A c [4] ∧ OwnNums .u32 w w' 55 B d [1] ∧ Grew w w' := by
  refine (pdiv_c true A c [7] false B d [2] w ha hb (one_low (by decide)) (by decide) (by decide) (fun _ _ _ W hg => ?_)).mono ?_
  · have h := pdivMags_1 A c [7] B d 2 W (ha.grew hg) (hb.grew hg) (one_low (by decide)) (by decide) (by decide) (by decide) (by decide)
    rwa [← one_val 2] at h
  · rintro e w' ⟨A1, c1, n1, L1, A2, c2, n2, L2, k, rfl, h1, h2, hU, hg⟩
    obtain ⟨rfl, r1, r2⟩ := hU.yes (by decide +kernel) (by decide +kernel)
    rw [show (Lg.num true [7]).fdiv (Lg.num false [2]) = Lg.sgn true 4 by decide +kernel] at r1
    rw [show (Lg.num true [7]).fmod (Lg.num false [2]) = Lg.sgn false 1 by decide +kernel] at r2
    obtain ⟨rfl, rfl⟩ := r1.inj (one_rep (by decide) (by decide) true)
    obtain ⟨rfl, rfl⟩ := r2.inj (one_rep (by decide) (by decide) false)
    exact ⟨A1, c1, A2, c2, rfl, h1, h2, hg⟩
theorem sure_z (A : Option Addr) (c : Nat) (w : World) (ha : NumsAt .u32 w w.heap.size A [0, 1]) :
    Calls Tryz.prog 14 #[.agg #[.bool false, .slice A 2 c], .agg #[.bool false, .slice none 0 0]] w fun e w' => ∃ A1 c1 A2 c2, e = .returned (.tuple #[.agg #[.bool false, .slice A1 0 c1], .agg #[.bool false, .slice A2 0 c2], errVal 10]) ∧ Grew w w' := by
  refine (pdiv_c false A c [0, 1] false none 0 [] w ha (fun h => absurd h (by decide)) (Dg.Low.nil _) (by decide) (by decide) (fun _ _ h => absurd h (by decide))).mono ?_
  rintro e w' ⟨A1, c1, n1, L1, A2, c2, n2, L2, k, rfl, h1, h2, hU, hg⟩
  obtain ⟨rfl, ⟨rfl, rfl⟩, rfl, rfl⟩ := hU.zero (by decide +kernel) (by decide +kernel)
  exact ⟨_, _, _, _, rfl, hg⟩
theorem sure_q (A : Option Addr) (c : Nat) (w : World) (ha : NumsAt .u32 w w.heap.size A [4]) :
    Calls Tryz.prog 18 #[.agg #[.bool true, .slice A 1 c]] w fun e w' => e = .returned (.tuple #[.int .i64 (-4), .bool true]) ∧ Grew w w' := by
  have h := pint_c true A c [4] w ha (one_low (by decide)) (by decide)
  rwa [show intVal true [4] = -4 by decide +kernel, show intOk true [4] = true by decide +kernel] at h
theorem sure_r (A : Option Addr) (c : Nat) (w : World) (ha : NumsAt .u32 w w.heap.size A [1]) :
    Calls Tryz.prog 18 #[.agg #[.bool false, .slice A 1 c]] w fun e w' => e = .returned (.tuple #[.int .i64 1, .bool true]) ∧ Grew w w' := by
  have h := pint_c false A c [1] w ha (one_low (by decide)) (by decide)
  rwa [show intVal false [1] = 1 by decide +kernel, show intOk false [1] = true by decide +kernel] at h
theorem sure_is (A : Option Addr) (c : Nat) (B : Option Addr) (d : Nat) (w : World) (ha : NumsAt .u32 w w.heap.size A [0, 1]) (hb : NumsAt .u32 w w.heap.size B [0, 1]) :
    Calls Tryz.prog 12 #[.agg #[.bool false, .slice A 2 c], .agg #[.bool false, .slice B 2 d]] w fun e w' => e = .returned (.bool true) ∧ Grew w w' := by
  have h := isNum_c false A c [0, 1] false B d [0, 1] w ha hb (by decide)
  rwa [show decide (false = false ∧ [0, 1] = [0, 1]) = true by decide] at h

theorem cell_alloc_far {W : World} {o : Obj} {q : Addr} (h : q.block < W.heap.size) : (W.alloc o).cell? q = W.cell? q := World.cell?_alloc_lt _ _ _ h
theorem two_new {w0 w : World} (hg : Grew w0 w) : NumsAt .u32 (w.alloc (.cells #[.int .u32 0, .int .u32 1] 55)) (w.alloc (.cells #[.int .u32 0, .int .u32 1] 55)).heap.size (some ⟨w.heap.size, 0, none⟩) [0, 1] := by
  have h := (OwnNums.new .u32 55 [0, 1] hg (by decide)).at
  rw [numCells2] at h
  exact h
/-- A number in a box, its words the call's own. -/
structure BoxAt (w0 wx : World) (g : Nat) (ng : Bool) (A : Option Addr) (c : Nat) (xs : List Nat) : Prop where
  grew : Grew w0 wx
  lt : g < wx.heap.size
  c0 : wx.cell? ⟨g, 0, none⟩ = some (.bool ng)
  c1 : wx.cell? ⟨g, 1, none⟩ = some (.slice A xs.length c)
  own : OwnNums .u32 w0 wx 55 A c xs
theorem BoxAt.mk' {w0 w : World} (hg : Grew w0 w) (ng : Bool) {A : Option Addr} {c : Nat} {xs : List Nat} (ho : OwnNums .u32 w0 w 55 A c xs) : BoxAt w0 (w.alloc (.cells #[.bool ng, .slice A xs.length c] 27)) w.heap.size ng A c xs :=
  ⟨hg.alloc _, by simp, by simp, by simp, ho.alloc _⟩
theorem BoxAt.on {w0 w w' : World} {g : Nat} {ng : Bool} {A : Option Addr} {c : Nat} {xs : List Nat} (h : BoxAt w0 w g ng A c xs) (hg : Grew w w') : BoxAt w0 w' g ng A c xs := by
  obtain ⟨y, rfl⟩ := hg
  exact ⟨h.grew.trans y.grew, Nat.lt_of_lt_of_le h.lt y.b.size, (y.cell _ h.lt).trans h.c0, (y.cell _ h.lt).trans h.c1, h.own.grew y.grew⟩
theorem BoxAt.put {w0 X w1 : World} (h0 : Grew w0 X) (hX : Grew X w1) {g : Nat} {u v : Value} (hge : w0.heap.size ≤ g) (hlt : g < X.heap.size) (e0 : X.cell? ⟨g, 0, none⟩ = some u) (e1 : X.cell? ⟨g, 1, none⟩ = some v) {A : Option Addr} {c : Nat} {xs : List Nat} (ho : OwnNums .u32 X w1 55 A c xs) (ng : Bool) :
    BoxAt w0 ((w1.setCell ⟨g, 0, none⟩ (.bool ng)).setCell ⟨g, 1, none⟩ (.slice A xs.length c)) g ng A c xs := by
  have hf : ∀ q, A = some ⟨q, 0, none⟩ → q ≠ g := fun q hA => by
    have := (World.ownsRow.lt ho) q (by rw [hA]; rfl)
    omega
  have f0 := (hX.below.cell (p := ⟨g, 0, none⟩) hlt).trans e0
  have f1 := (hX.below.cell (p := ⟨g, 1, none⟩) hlt).trans e1
  obtain ⟨y, rfl⟩ := hX
  refine ⟨((h0.trans y.grew).setCell hge _).setCell hge _, by have := y.b.size; simp; omega, ?_, ?_, ((ho.mono h0).far (fun q hA => hf q hA) _).far (fun q hA => hf q hA) _⟩
  · rw [World.cell?_setCell_other _ _ _ _ (by simp)]
    exact World.cell?_setCell_same' _ _ _ (by rw [f0]; rfl)
  · exact World.cell?_setCell_same' _ _ _ (by rw [World.cell?_setCell_other _ _ _ _ (by simp), f1]; rfl)
set_option maxRecDepth 100000 in
set_option maxHeartbeats 4000000 in
theorem sure_c (w : World) (hg : HandleAt w) : Calls Tryz.prog 5 #[] w fun e w' => e = .returned (.bool true) ∧ Grew w w' := by
  have Hg := hid hg
  clear hg
  go_enter Tryz.func5, Tryz.ntmps5
  go_wp2_with fail
  refine (sure_a _).mono ?_
  rintro e w1 ⟨A, c, rfl, hA, y1, rfl⟩
  have BA := hid (BoxAt.mk' y1.grew false hA)
  clear hA
  go_wp2_with fail
  obtain ⟨g, hg⟩ : ∃ g, g = y1.w.heap.size := ⟨_, rfl⟩
  obtain ⟨wa, hwa⟩ : ∃ wa, wa = y1.w.alloc (.cells #[.bool false, .slice A 2 c] 27) := ⟨_, rfl⟩
  replace BA := hid (show BoxAt w wa g false A c [0, 1] by rw [hwa, hg]; exact BA.out)
  rw [← hwa, ← hg]
  clear hwa hg
  go_cut [3, 4] (fun s3 s4 wx => ∃ (gb : Nat) (A3 : Option Addr) (c3 : Nat), s3 = .pointer (some ⟨gb, 0, none⟩) ∧ s4 = .nilIface ∧ Hid (BoxAt w wx gb true A3 c3 [0, 3]) ∧ Hid (Grew wa wx))
  case first =>
    have hlt := BA.out.lt
    have hlt1 : g < wa.heap.size + 1 := Nat.lt_succ_of_lt hlt
    have a0 := BA.out.c0
    have a1 : wa.cell? ⟨g, 1, none⟩ = some (.slice A 2 c) := BA.out.c1
    go_region_held3 (fun w' => w'.cell? ⟨g, 0, none⟩ = some (.bool false) ∧ w'.cell? ⟨g, 1, none⟩ = some (.slice A 2 c))
      (first
        | exact ⟨(BA.out.on k3).c0, (BA.out.on k3).c1⟩
        | exact ⟨(BA.out.on (k3.alloc _)).c0, (BA.out.on (k3.alloc _)).c1⟩
        | exact ⟨(BA.out.on ((k3.setCell (Nat.le_refl _) _).setCell (Nat.le_refl _) _)).c0, (BA.out.on ((k3.setCell (Nat.le_refl _) _).setCell (Nat.le_refl _) _)).c1⟩
        | exact ⟨(BA.out.on ((k3.setCell k2.below.size _).setCell k2.below.size _)).c0, (BA.out.on ((k3.setCell k2.below.size _).setCell k2.below.size _)).c1⟩
        | exact ⟨(BA.out.on k2).c0, (BA.out.on k2).c1⟩
        | exact ⟨(BA.out.on (k2.alloc _)).c0, (BA.out.on (k2.alloc _)).c1⟩
        | go_keep)
      (first
        | (go_at_call 23; ((with_reducible refine (sure_m3 _).mono ?_); rintro e w2 ⟨A2, c2, rfl, h2, hg2⟩; have k2 : Grew wa w2 := (by first | exact (Grew.refl _).drew.trans hg2 | exact ((Grew.refl _).drew.alloc _).trans hg2 | exact ((Grew.refl _).alloc _).drew.trans hg2); obtain ⟨y2, rfl⟩ := hg2))
        | (go_at_call 10; ((with_reducible refine (sure_b A c A2 c2 _ (by first | exact (BA.out.own.grew k2).at | exact ((BA.out.own.grew k2).alloc _).at) (by first | exact h2.at | exact (h2.alloc _).at)).mono ?_); rintro e w3 ⟨A3, c3, rfl, h3, hg3⟩; have k3 : Grew wa w3 := (by first | exact k2.trans hg3 | exact (k2.alloc _).trans hg3); obtain ⟨y3, rfl⟩ := hg3)))
    all_goals
      have GA := BA.out.grew
      go_wp2_with fail
      go_meet
      case rel =>
        first
          | exact ⟨_, _, _, rfl, rfl, hid (BoxAt.mk' (GA.trans k3) true (h3.mono (GA.trans k2))), hid (k3.alloc _)⟩
          | exact ⟨_, _, _, rfl, rfl, hid (BoxAt.put (u := .bool false) (v := .slice none 0 0) ((GA.trans k2).alloc _) y3.grew (GA.trans k2).below.size (by simp) (by simp) (by simp) h3 true), hid ((k3.setCell k2.below.size _).setCell k2.below.size _)⟩
          | exact ⟨_, _, _, rfl, rfl, hid (BoxAt.put (u := .bool false) (v := .slice none 0 0) (GA.trans k2) y3.grew GA.below.size (y2.lt _ (by simp)) ((y2.cell _ (by simp)).trans (by simp)) ((y2.cell _ (by simp)).trans (by simp)) h3 true), hid ((k3.setCell (Nat.le_refl _) _).setCell (Nat.le_refl _) _)⟩
  case rest =>
    obtain ⟨gb, A3, c3, rfl, rfl, BB, GB⟩ := hcut
    replace BA := hid (BA.out.on GB.out)
    have b0 := BB.out.c0
    have b1 : wc.cell? ⟨gb, 1, none⟩ = some (.slice A3 2 c3) := BB.out.c1
    go_wp2_with fail
    refine (sure_t A3 c3 _ BB.out.own.at).mono ?_
    rintro e w4 ⟨rfl, hg4⟩
    replace BA := hid (BA.out.on hg4)
    clear BB GB b0 b1 hg4
    go_wp2_with fail
    refine (sure_m7 _).mono ?_
    rintro e w5 ⟨A5, c5, rfl, h5, hg5⟩
    have H5 := hid h5
    have G5 := hid hg5
    clear h5 hg5
    go_wp2_with fail
    refine (sure_2 _).mono ?_
    rintro e w6 ⟨A6, c6, rfl, h6, hg6⟩
    have H6 := hid h6
    replace H5 := hid (H5.out.grew hg6)
    replace BA := hid (BA.out.on (G5.out.trans hg6))
    clear h6 hg6 G5
    go_wp2_with fail
    refine (sure_d A5 c5 A6 c6 _ H5.out.at H6.out.at).mono ?_
    rintro e w7 ⟨A7, c7, B7, d7, rfl, h7, k7, hg7⟩
    have H7 := hid (OwnNums.mono h7 BA.out.grew)
    have K7 := hid (OwnNums.mono k7 BA.out.grew)
    replace BA := hid (BA.out.on hg7)
    clear h7 k7 hg7 H5 H6
    have a0 := BA.out.c0
    have a1 : w7.cell? ⟨g, 1, none⟩ = some (.slice A 2 c) := BA.out.c1
    have hlt := BA.out.lt
    go_wp2_with fail
    have BQ := hid ((BoxAt.mk' BA.out.grew true H7.out).on ((Grew.refl _).alloc (.cells #[.bool false, .slice B7 1 d7] 27)))
    have BR := BoxAt.mk' (BA.out.grew.alloc (.cells #[.bool true, .slice A7 1 c7] 27)) false (K7.out.alloc (.cells #[.bool true, .slice A7 1 c7] 27))
    rw [World.size_alloc] at BR
    replace BR := hid BR
    replace BA := hid (BA.out.on (((Grew.refl _).alloc (.cells #[.bool true, .slice A7 1 c7] 27)).alloc (.cells #[.bool false, .slice B7 1 d7] 27)))
    generalize w7.heap.size + 1 = gr at *
    generalize w7.heap.size = gq at *
    obtain ⟨w8, hw8⟩ : ∃ w8, w8 = (w7.alloc (.cells #[.bool true, .slice A7 1 c7] 27)).alloc (.cells #[.bool false, .slice B7 1 d7] 27) := ⟨_, rfl⟩
    replace BQ := hid (show BoxAt w w8 gq true A7 c7 [4] by rw [hw8]; exact BQ.out)
    replace BR := hid (show BoxAt w w8 gr false B7 d7 [1] by rw [hw8]; exact BR.out)
    replace BA := hid (show BoxAt w w8 g false A c [0, 1] by rw [hw8]; exact BA.out)
    rw [← hw8]
    clear hw8 a0 a1 hlt H7 K7
    refine (sure_z A c _ BA.out.own.at).mono ?_
    rintro e w9 ⟨A9, c9, B9, d9, rfl, hg9⟩
    replace BA := hid (BA.out.on hg9)
    replace BQ := hid (BQ.out.on hg9)
    replace BR := hid (BR.out.on hg9)
    clear hg9
    have q0 := BQ.out.c0
    have q1 : w9.cell? ⟨gq, 1, none⟩ = some (.slice A7 1 c7) := BQ.out.c1
    have ql := BQ.out.lt
    go_wp2_with fail
    obtain ⟨w10, hw10⟩ : ∃ w10, w10 = (w9.alloc (.cells #[.bool false, .slice A9 0 c9] 27)).alloc (.cells #[.bool false, .slice B9 0 d9] 27) := ⟨_, rfl⟩
    have G10 := hid (show Grew w9 w10 by rw [hw10]; exact ((Grew.refl _).alloc _).alloc _)
    rw [← hw10]
    clear hw10 q0 q1 ql
    replace BA := hid (BA.out.on G10.out)
    replace BQ := hid (BQ.out.on G10.out)
    replace BR := hid (BR.out.on G10.out)
    refine (sure_q A7 c7 _ BQ.out.own.at).mono ?_
    rintro e w11 ⟨rfl, hg11⟩
    replace BA := hid (BA.out.on hg11)
    replace BR := hid (BR.out.on hg11)
    clear hg11 G10 BQ
    have q0 := BR.out.c0
    have q1 : w11.cell? ⟨gr, 1, none⟩ = some (.slice B7 1 d7) := BR.out.c1
    go_wp2_with fail
    refine (sure_r B7 d7 _ BR.out.own.at).mono ?_
    rintro e w12 ⟨rfl, hg12⟩
    replace BA := hid (BA.out.on hg12)
    clear hg12 BR q0 q1
    go_wp2_with fail
    refine (sure_j _).mono ?_
    rintro e w13 ⟨A13, c13, rfl, hg13⟩
    replace BA := hid (BA.out.on hg13)
    clear hg13
    have a0 := BA.out.c0
    have a1 : w13.cell? ⟨g, 1, none⟩ = some (.slice A 2 c) := BA.out.c1
    have hlt := BA.out.lt
    go_wp2_with fail
    have hB := two_new (BA.out.grew.alloc (.cells #[.bool false, .slice A13 0 c13] 27))
    rw [World.size_alloc w13] at hB
    have HGf := hid (show Grew w ((w13.alloc (.cells #[.bool false, .slice A13 0 c13] 27)).alloc (.cells #[.int .u32 0, .int .u32 1] 55)) from (BA.out.grew.alloc _).alloc _)
    have HAf := hid ((BA.out.own.alloc (.cells #[.bool false, .slice A13 0 c13] 27)).alloc (.cells #[.int .u32 0, .int .u32 1] 55)).at
    refine (sure_is A c _ 2 _ HAf.out hB).mono ?_
    rintro e w14 ⟨rfl, hg14⟩
    have G14 := hid (HGf.out.trans hg14)
    clear hB HAf HGf hg14 a0 a1 hlt BA
    go_wp2_with fail
    refine (num_c 10 _ (Hg.out.grew G14.out)).mono ?_
    rintro e w15 ⟨rfl, hg15⟩
    have G15 := hid (G14.out.trans hg15)
    clear G14 hg15
    go_wp2_with fail
    refine (num_c 2 _ (Hg.out.grew G15.out)).mono ?_
    rintro e w16 ⟨rfl, hg16⟩
    have G16 := hid (G15.out.trans hg16)
    clear G15 hg16
    go_wp2_with fail
    go_ret
    exact ⟨rfl, G16.out⟩
end Go.Proofs.YtmcfciifjgdgoaaGreatDoor
end

section
/- Law 03's own helpers, part 3: are two numbers the same? -/
namespace Go.Proofs.YtmcfciifjgdgoaaGreatDoor
open Go.RowKit
end Go.Proofs.YtmcfciifjgdgoaaGreatDoor
end

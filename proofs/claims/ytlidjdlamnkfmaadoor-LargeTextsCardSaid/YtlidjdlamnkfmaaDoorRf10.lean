/- The walks of the document's own large numbers, part 10: numerals. -/
import Derived.Test.YtlidjdlamnkfmaaDoorRf8
import Derived.Test.YtlidjdlamnkfmaaDoorLgT
namespace Go.Proofs.YtlidjdlamnkfmaaDoor
open Go.RowKit

set_option maxRecDepth 100000 in
set_option maxHeartbeats 8000000 in
theorem rtext_c (na : Bool) (A : Option Addr) (c : Nat) (xs : List Nat) (w : World) (ha : NumsAt .u32 w w.heap.size A xs) (lx : Dg.Low 4294967296 xs) (hn : xs.length ≤ 1000000000000) :
    Calls Tryd.prog 12 #[.agg #[.bool na, .slice A xs.length c]] w fun e w' => ∃ s k, e = .returned (.tuple #[.string s, .int .i64 ((k : Nat) : Int)]) ∧ Lg.TextOut (Lg.may na xs) na (Dg.val 4294967296 xs) s k ∧ Grew w w' := by
  have HA := hid ha
  clear ha
  go_enter Tryd.func12, Tryd.ntmps12
  go_wp2_with fail
  have hg0 : Grew w (w.alloc (.cells #[.bool na, .slice A xs.length c] 24)) := (Grew.refl _).alloc _
  have l0 : w.heap.size < (w.alloc (.cells #[.bool na, .slice A xs.length c] 24)).heap.size := by simp only [World.size_alloc]; omega
  have a0 : (w.alloc (.cells #[.bool na, .slice A xs.length c] 24)).cell? ⟨w.heap.size, 0, none⟩ = some (.bool na) := by simp
  have a1 : (w.alloc (.cells #[.bool na, .slice A xs.length c] 24)).cell? ⟨w.heap.size, 1, none⟩ = some (.slice A xs.length c) := by simp
  generalize w.alloc (.cells #[.bool na, .slice A xs.length c] 24) = wb at *
  have HG := hid hg0
  clear hg0
  refine (may_c na A c xs wb (HA.out.grew HG.out) hn).mono ?_
  cases hma : Lg.may na xs
  · rintro e w1 ⟨rfl, y1, rfl⟩
    go_wp2_with fail
    go_ret2
    exact ⟨ByteArray.empty, 1, rfl, Lg.TextOut.mk (fun _ => ⟨rfl, rfl⟩) (fun h => by rw [hma] at h; cases h), HG.out.trans y1.grew⟩
  · rintro e w1 ⟨rfl, y1, rfl⟩
    have hlx := (Lg.may_iff.1 hma).1
    go_wp2_with fail
    refine (bits_c A c xs _ (HA.out.grew (HG.out.trans y1.grew)) (by omega)).mono ?_
    obtain ⟨bl, bt, bv, bn⟩ := bits_of xs lx
    generalize Dg.cut (flat xs) = bs at *
    rintro e w2 ⟨B, d, rfl, hB, hg2⟩
    have HBt := hid hB.at
    have HBV := hid bv
    have hbl : bs.length ≤ 2048 := by omega
    obtain ⟨y2, rfl⟩ := y1.grew.trans hg2
    clear hB hg2 bv bn
    go_wp2_with fail
    have hD0 := OwnNums.made1 .u8 y2.w y2.w 5 0 (Grew.refl _)
    rw [show ((0 : Nat) : Int) = 0 from rfl] at hD0
    have HD0 := hid hD0
    have HG0 := hid ((Grew.refl y2.w).alloc (.cells #[.int .u8 0] 5))
    clear hD0
    go_loopw [5, 6, 7, 8] (fun s i _ _ wr => ∃ (k : Nat) (E : Option Addr) (f : Nat) (D : List Nat), i = .int .i64 ((k : Int) - 1) ∧ s = .slice E D.length f ∧ OwnNums .u8 y2.w wr 5 E f D ∧ Grew y2.w wr ∧ k ≤ bs.length ∧ D.length ≤ 1 + (bs.length - k) ∧ Hid (Lg.Dec D (Dg.val 2 (bs.drop k)))) (fun _ i _ _ _ => (intOf i + 1).toNat)
    case atStart => exact ⟨bs.length, _, _, [0], by go_num, rfl, HD0.out, HG0.out, Nat.le_refl _, by simp, hid (by simpa using Lg.Dec.zero)⟩
    case round =>
      clear HD0 HG0
      obtain ⟨k, E, f, D, rfl, rfl, hD, hg, hk, hDl, HD⟩ := hrel
      rcases Nat.eq_zero_or_pos k with h0 | h0
      · subst h0
        have HD1 := hid (show Lg.Dec D (Dg.val 2 bs) by simpa using HD.out)
        rw [show ((0 : Nat) : Int) - 1 = -1 from rfl]
        obtain ⟨w3, rfl⟩ : ∃ w3 : World, w3 = wr := ⟨_, rfl⟩
        have HDat := hid hD.at
        have b0 : w3.cell? ⟨w.heap.size, 0, none⟩ = some (.bool na) := by rw [hg.below.cell (by have := y2.b.size; simp; omega), y2.cell _ (by simp; omega)]; exact a0
        have HG3 := hid ((HG.out.trans y2.grew).trans hg)
        have hDl2 : D.length ≤ 3000 := by omega
        have HDl := HD1.out.low
        clear hD hg HD hk hDl a0 a1
        cases na
        · go_wp2_with fail
          go_loopw [9, 10] (fun s i wr => ∃ (k : Nat) (E' : Option Addr) (f' : Nat) (O : List Nat), i = .int .i64 ((k : Int) - 1) ∧ s = .slice E' O.length f' ∧ OwnNums .u8 w3 wr 5 E' f' O ∧ Grew w3 wr ∧ k ≤ D.length ∧ O.length ≤ 2 + (D.length - k) ∧ Hid (O = [] ++ (D.drop k).reverse.map (48 + ·))) (fun _ i _ => (intOf i + 1).toNat)
          case atStart => exact ⟨D.length, none, 0, [], by go_num, rfl, OwnNums.nil _ _ _ _, Grew.refl _, Nat.le_refl _, by simp, hid (by simp)⟩
          case round =>
            obtain ⟨k, E', f', O, rfl, rfl, hO, hg, hk, hOl, HO⟩ := hrel
            rcases Nat.eq_zero_or_pos k with h0 | h0
            · subst h0
              have HO2 := hid (show O = Lg.numeral false D by simpa [Lg.numeral] using HO.out)
              have hne : 0 < O.length := by
                rw [HO2.out]
                have := HD1.out.ne
                have : 0 < D.length := by rcases Nat.eq_zero_or_pos D.length with h | h; exact absurd (List.eq_nil_of_length_eq_zero h) this; exact h
                simp [Lg.numeral] <;> omega
              rcases hO.cases with ⟨_, _, e⟩ | ⟨g, rfl, _, _, hcell, _, _⟩
              · rw [e] at hne; simp at hne
              have hconv := run_convert_bytes_arg (P := Tryd.prog) wr 55 5 Tryd.underlying55 Tryd.underlying5 g 0 O.length f' (O.map fun x : Nat => (x : Int)) (by simp) (fun j hj => by rw [Nat.zero_add, hcell j hj]; simp [List.getD_eq_getElem?_getD, List.getElem?_eq_getElem hj]) 9 Tryd.underlying9
              have HOK := hid (show Lg.TextOut (Lg.may false xs) false (Dg.val 4294967296 xs) (strOfNums (O.map fun x : Nat => (x : Int))) 0 from Lg.TextOut.mk (fun h => by rw [hma] at h; cases h) (fun _ => ⟨rfl, D, by rw [← HBV.out]; exact HD1.out, by rw [HO2.out]; rfl⟩))
              have HGG := hid (HG3.out.trans hg)
              clear hcell hO hg HO hne
              go_wp2_with fail
              go_ret2
              exact ⟨_, 0, rfl, HOK.out, HGG.out⟩
            · obtain ⟨m, rfl⟩ : ∃ m, k = m + 1 := ⟨k - 1, by omega⟩
              obtain ⟨ad, rfl, had, hca⟩ := HDat.out (by omega)
              have hcm : wr.cell? (ad.add m) = some (.int .u8 ((D.getD m 0 : Nat) : Int)) := (hg.below.cell (by rw [block_add]; exact had)).trans (hca m (by omega))
              have hx := Dg.Low.getD (by decide) HDl m
              have hdr := hid (Dg.drop_at (show m < D.length by omega))
              clear hca
              generalize D.getD m 0 = x at *
              go_wp2_with (at_builtin; refine wpList_push .u8 1 w3 _ rfl _ _ 55 5 rfl Tryd.underlying55 Tryd.info_u8 hg E' f' O rfl hO (48 + x) _ rfl rfl _ (by first | rfl | (congr 1; omega)) (by omega) (by omega) ?_; rintro A' c' W1 hO1 hG1)
              go_roundw
              case rel => exact ⟨m, A', c', O ++ [48 + x], by go_num, by simp, hO1, hG1, by omega, by simp; omega, hid (by rw [HO.out, hdr.out]; simp)⟩
              case measure => simp [intOf]
        · go_wp2_with (at_builtin; refine wpList_push .u8 1 w3 w3 rfl _ _ 55 5 rfl Tryd.underlying55 Tryd.info_u8 (Grew.refl _) none 0 [] rfl (OwnNums.nil _ _ _ _) 45 _ rfl rfl _ rfl (by decide) (by decide) ?_; rintro A' c' W1 hO1 hG1; have HO1 := hid hO1; have HG1 := hid hG1; clear hO1 hG1)
          go_loopw [9, 10] (fun s i wr => ∃ (k : Nat) (E' : Option Addr) (f' : Nat) (O : List Nat), i = .int .i64 ((k : Int) - 1) ∧ s = .slice E' O.length f' ∧ OwnNums .u8 w3 wr 5 E' f' O ∧ Grew w3 wr ∧ k ≤ D.length ∧ O.length ≤ 2 + (D.length - k) ∧ Hid (O = [45] ++ (D.drop k).reverse.map (48 + ·))) (fun _ i _ => (intOf i + 1).toNat)
          case atStart => exact ⟨D.length, A', c', [45], by go_num, rfl, HO1.out, HG1.out, Nat.le_refl _, by simp, hid (by simp)⟩
          case round =>
            clear HO1 HG1
            obtain ⟨k, E', f', O, rfl, rfl, hO, hg, hk, hOl, HO⟩ := hrel
            rcases Nat.eq_zero_or_pos k with h0 | h0
            · subst h0
              have HO2 := hid (show O = Lg.numeral true D by simpa [Lg.numeral] using HO.out)
              have hne : 0 < O.length := by
                rw [HO2.out]
                have := HD1.out.ne
                have : 0 < D.length := by rcases Nat.eq_zero_or_pos D.length with h | h; exact absurd (List.eq_nil_of_length_eq_zero h) this; exact h
                simp [Lg.numeral] <;> omega
              rcases hO.cases with ⟨_, _, e⟩ | ⟨g, rfl, _, _, hcell, _, _⟩
              · rw [e] at hne; simp at hne
              have hconv := run_convert_bytes_arg (P := Tryd.prog) wr 55 5 Tryd.underlying55 Tryd.underlying5 g 0 O.length f' (O.map fun x : Nat => (x : Int)) (by simp) (fun j hj => by rw [Nat.zero_add, hcell j hj]; simp [List.getD_eq_getElem?_getD, List.getElem?_eq_getElem hj]) 9 Tryd.underlying9
              have HOK := hid (show Lg.TextOut (Lg.may true xs) true (Dg.val 4294967296 xs) (strOfNums (O.map fun x : Nat => (x : Int))) 0 from Lg.TextOut.mk (fun h => by rw [hma] at h; cases h) (fun _ => ⟨rfl, D, by rw [← HBV.out]; exact HD1.out, by rw [HO2.out]; rfl⟩))
              have HGG := hid (HG3.out.trans hg)
              clear hcell hO hg HO hne
              go_wp2_with fail
              go_ret2
              exact ⟨_, 0, rfl, HOK.out, HGG.out⟩
            · obtain ⟨m, rfl⟩ : ∃ m, k = m + 1 := ⟨k - 1, by omega⟩
              obtain ⟨ad, rfl, had, hca⟩ := HDat.out (by omega)
              have hcm : wr.cell? (ad.add m) = some (.int .u8 ((D.getD m 0 : Nat) : Int)) := (hg.below.cell (by rw [block_add]; exact had)).trans (hca m (by omega))
              have hx := Dg.Low.getD (by decide) HDl m
              have hdr := hid (Dg.drop_at (show m < D.length by omega))
              clear hca
              generalize D.getD m 0 = x at *
              go_wp2_with (at_builtin; refine wpList_push .u8 1 w3 _ rfl _ _ 55 5 rfl Tryd.underlying55 Tryd.info_u8 hg E' f' O rfl hO (48 + x) _ rfl rfl _ (by first | rfl | (congr 1; omega)) (by omega) (by omega) ?_; rintro A' c' W1 hO1 hG1)
              go_roundw
              case rel => exact ⟨m, A', c', O ++ [48 + x], by go_num, by simp, hO1, hG1, by omega, by simp; omega, hid (by rw [HO.out, hdr.out]; simp)⟩
              case measure => simp [intOf]
      · obtain ⟨m, rfl⟩ : ∃ m, k = m + 1 := ⟨k - 1, by omega⟩
        obtain ⟨ad, rfl, had, hca⟩ := HBt.out (by omega)
        have hcm : wr.cell? (ad.add m) = some (.int .u8 ((bs.getD m 0 : Nat) : Int)) := (hg.below.cell (by rw [block_add]; exact had)).trans (hca m (by omega))
        have hx := Dg.Low.getD (by decide) bl m
        have hst := hid (Dg.val_drop 2 (show m < bs.length by omega))
        clear hca
        generalize bs.getD m 0 = x at *
        rcases hD.cases with ⟨_, _, e⟩ | ⟨g, rfl, hg1, hg2, _, _, _⟩
        · exact absurd e HD.out.ne
        have HDD := hid hD
        have HGG := hid hg
        clear hD hg hg2
        obtain ⟨wo, rfl⟩ : ∃ wo : World, wo = wr := ⟨_, rfl⟩
        go_wp2_with fail
        go_loopw [7, 8] (fun cv i wr => ∃ (j cy : Nat) (F : List Nat), i = .int .i64 ((j : Nat) : Int) ∧ cv = .int .u8 ((cy : Nat) : Int) ∧ OwnNums .u8 y2.w wr 5 (some ⟨g, 0, none⟩) f F ∧ Grew y2.w wr ∧ cy ≤ 1 ∧ j ≤ D.length ∧ F.length = D.length ∧ Hid (Dg.Low 10 F ∧ Dg.val 10 (F.take j) + 10 ^ j * cy = x + 2 * Dg.val 10 (D.take j) ∧ F.drop j = D.drop j)) (fun _ i _ => D.length - (intOf i).toNat)
        case atStart => exact ⟨0, x, D, rfl, rfl, HDD.out, HGG.out, by omega, Nat.zero_le _, rfl, hid ⟨HD.out.low, by simp, rfl⟩⟩
        case round =>
          clear HDD HGG hcm
          obtain ⟨j, cy, F, rfl, rfl, hF, hg, hcy, hj, hFl, HF⟩ := hrel
          by_cases hlt : j < D.length
          · have hlt' : (j : Int) < (D.length : Int) := by omega
            rcases hF.cases with ⟨h, _⟩ | ⟨g', eg, _, hlt2, hcell, hfro, _⟩
            · cases h
            have eg2 : g' = g := (congrArg Addr.block (Option.some.inj eg)).symm
            subst eg2
            have c1 := hcell j (by omega)
            have f1 := hfro j
            have hv10 := Dg.Low.getD (by decide) HF.out.1 j
            have hsame : F.getD j 0 = D.getD j 0 := by
              have h1 := HF.out.2.2
              rw [Dg.drop_at (show j < F.length by omega), Dg.drop_at hlt] at h1
              exact (List.cons.inj h1).1
            have hR := hid (Lg.dbl_round (x := x) (cy := cy) hlt hFl HF.out.2.1 HF.out.2.2 (t := cy + 2 * F.getD j 0) (by rw [hsame]))
            have HFO := hid hF
            have HFl := hid hFl
            clear hsame hcell hfro eg hF hFl
            generalize F.getD j 0 = v at *
            go_wp2_with fail
            rw [show Value.int .u8 ((((cy : Nat) : Int) + 2 * ((v : Nat) : Int)) % 10) = .int .u8 (((cy + 2 * v) % 10 : Nat) : Int) by first | rfl | (congr 1; omega)]
            go_roundw
            case rel => exact ⟨j + 1, (cy + 2 * v) / 10, F.set j ((cy + 2 * v) % 10), by go_num, by first | rfl | (congr 1; omega), OwnNums.set HFO.out j _, hg.setCell hg1 _, by omega, by omega, by rw [List.length_set]; exact HFl.out, hid ⟨HF.out.1.set (by omega) _, hR.out.1, hR.out.2⟩⟩
            case measure => simp [intOf] <;> omega
          · obtain rfl : j = D.length := by omega
            have HE := hid (Lg.dbl_done (cy := cy) (x := x) HD.out hFl HF.out.1 hcy (by omega) (by have := HF.out.2.1; rwa [List.take_length, ← hFl, List.take_length, hFl, HD.out.val] at this))
            rw [← hFl]
            have hFb : F.length ≤ 1 + (bs.length - (m + 1)) := by omega
            clear hDl hFl hlt hj
            rcases Nat.eq_zero_or_pos cy with h1 | h1
            · subst h1
              have HE0 := hid (HE.out.1 rfl)
              clear HE
              go_wp2_with fail
              go_roundw
              case rel => exact ⟨m, some ⟨g, 0, none⟩, f, F, by go_num, rfl, hF, hg, by omega, by omega, hid (by rw [hst.out]; exact HE0.out)⟩
              case measure => simp [intOf]
            · have HE1 := hid (HE.out.2 h1)
              clear HE
              have t1 : decide (0 < ((cy : Nat) : Int)) = true := by simp; omega
              go_wp2_with (at_builtin; refine wpList_push .u8 1 y2.w _ rfl _ _ 55 5 rfl Tryd.underlying55 Tryd.info_u8 hg (some ⟨g, 0, none⟩) f F rfl hF cy _ rfl rfl _ rfl (by omega) (by omega) ?_; rintro A' c' W1 hO hG)
              go_roundw
              case rel => exact ⟨m, A', c', F ++ [cy], by go_num, by simp, hO, hG, by omega, by simp; omega, hid (by rw [hst.out]; exact HE1.out)⟩
              case measure => simp [intOf]
end Go.Proofs.YtlidjdlamnkfmaaDoor

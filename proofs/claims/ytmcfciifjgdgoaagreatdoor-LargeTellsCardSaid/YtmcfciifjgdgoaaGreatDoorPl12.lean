/- The developers' large numbers, part 12: the words of a numeral. -/
import Derived.Test.YtmcfciifjgdgoaaGreatDoorPl11
import Derived.Test.YtmcfciifjgdgoaaGreatDoorPl7
import Derived.Test.YtmcfciifjgdgoaaGreatDoorRf11
namespace Go.Proofs.YtmcfciifjgdgoaaGreatDoor
open Go.RowKit

def MagPost (w : World) (s : ByteArray) (e : Ending) (w' : World) : Prop := ∃ A' c' M, e = .returned (.slice A' (List.length M) c') ∧ OwnNums .u32 w w' 55 A' c' M ∧ Dg.Low 4294967296 M ∧ Dg.val 4294967296 M = dvs s ∧ M.length ≤ 100 ∧ Grew w w'
theorem one_val (x : Nat) : Dg.val 4294967296 [x] = x := by simp [Dg.val]
theorem one_low {x : Nat} (h : x < 4294967296) : Dg.Low 4294967296 [x] := Dg.Low.cons h (Dg.Low.nil _)
theorem one_cells (x : Nat) : (numCells .u32 [x]).toArray = #[.int .u32 ((x : Nat) : Int)] := rfl
/-- A row of one new word. -/
theorem one_new {w0 w : World} (hg : Grew w0 w) (x : Nat) : NumsAt .u32 (w.alloc (.cells #[.int .u32 ((x : Nat) : Int)] 55)) (w.heap.size + 1) (some ⟨w.heap.size, 0, none⟩) [x] := by
  have h := (OwnNums.new .u32 55 [x] hg (by simp)).at
  rw [one_cells] at h
  simpa using h

set_option maxRecDepth 100000 in
set_option maxHeartbeats 2000000 in
theorem parseMag_c (s : ByteArray) (w : World) (hs : s.size ≤ 700) (hd : ∀ j, j < (Lg.bytes s).length → Lg.isDigit ((Lg.bytes s).getD j 0) = true) :
    Calls Tryz.prog 45 #[.string s] w (MagPost w s) := by
  have HL := hid (digits_low hd)
  have HD := hid hd
  clear hd
  go_enter Tryz.func45, Tryz.ntmps45
  go_wp2_with fail
  go_loopg [0, 3] s.size (fun gf s0 s2 wx => ∃ (t : ByteArray) (E : Option Addr) (f : Nat) (M : List Nat) (k : Nat), s0 = .string t ∧ s2 = .slice E M.length f ∧ gf = t.size ∧ t.size ≤ 700 ∧ OwnNums .u32 w wx 55 E f M ∧ Grew w wx ∧ Hid (MagInv s k t M))
  case atStart => exact ⟨s, none, 0, [], 0, rfl, rfl, rfl, hs, OwnNums.nil _ _ _ _, Grew.refl _, hid ⟨rfl, Nat.zero_le _, Dg.Low.nil _, Dg.Top.nil, rfl, .inl ⟨rfl, rfl⟩⟩⟩
  case round =>
    obtain ⟨t, E, f, M, k, rfl, rfl, rfl, ht, hown, hg, HI⟩ := hrel
    have hMl := mag_short HI.out hs HL.out
    rcases Nat.eq_zero_or_pos t.size with h0 | h0
    · have h0' : ¬ (0 : Int) < (t.size : Int) := by omega
      go_wp2_with fail
      go_ret
      refine ⟨E, f, M, rfl, hown, HI.out.low, ?_, hMl, hg⟩
      have h1 := mag_size HI.out
      have h2 := HI.out.at'
      rw [HI.out.val, dvs, List.take_of_length_le (by rw [Lg.bytes_len]; omega)]
    · have h0' : (0 : Int) < (t.size : Int) := by omega
      obtain ⟨n, hn⟩ : ∃ n, n = (t.size - 1) % 9 + 1 := ⟨_, rfl⟩
      have hni : ((t.size : Int) - 1) % 9 + 1 = (n : Int) := by omega
      have hn1 : n ≤ t.size := by omega
      have hn9 : n ≤ 9 := by omega
      have hnp : 0 < n := by omega
      have HN := hid hn
      clear hn
      have HO := hid hown
      have HG := hid hg
      have HDt := hid (show ∀ j, j < (t.extract 0 n).size → Lg.isDigit ((Lg.bytes (t.extract 0 n)).getD j 0) = true from fun j hj => by
        have e1 : (t.extract 0 n).size = n := by rw [ByteArray.size_extract]; omega
        have e2 : (Lg.bytes (t.extract 0 n)).getD j 0 = (Lg.bytes s).getD (k + j) 0 := by
          rw [bytes_extract, List.drop_zero, HI.out.rest, List.getD_eq_getElem?_getD, List.getD_eq_getElem?_getD, List.getElem?_take_of_lt (by omega), List.getElem?_drop]
        rw [e2]
        refine HD.out _ ?_
        have h1 := mag_size HI.out
        rw [Lg.bytes_len]
        omega)
      have hts : (t.extract 0 n).size ≤ 9 := by rw [ByteArray.size_extract]; omega
      have CM := pmulMags_c E f M (some ⟨wr.heap.size, 0, none⟩) 1 [1000000000] (wr.alloc (.cells #[.int .u32 1000000000] 55)) (by have h := (hown.alloc (.cells #[.int .u32 1000000000] 55)).at; rwa [World.size_alloc] at h ⊢) (by rw [World.size_alloc]; exact one_new hg 1000000000) HI.out.low (one_low (by decide)) (by omega) (by decide)
      replace CM := hid CM
      clear hown hg
      go_wp2_with fail
      refine CM.out.mono ?_
      rintro e w1 ⟨A1, c1, M1, rfl, hO1, hl1, hv1, hm1, hg1⟩
      have HM1 := hid hm1
      have hm2 : M1.length ≤ 101 := by rw [hm1]; simp; omega
      have HV1 := hid hv1
      have HG1 := hid (show Grew w w1 from (HG.out.alloc _).trans hg1)
      have HO1 := hid (hO1.mono (HG.out.alloc _))
      have HL1 := hid hl1
      clear hO1 hl1 hv1 hm1 hg1 CM
      obtain ⟨x, hx⟩ : ∃ x, x = dvs (t.extract 0 n) := ⟨_, rfl⟩
      have hxb : x < 4294967296 := by
        have h1 := Lg.dv_lt (digits_low (l := Lg.bytes (t.extract 0 n)) (fun j hj => HDt.out j (by rwa [Lg.bytes_len] at hj)))
        rw [List.length_map, Lg.bytes_len] at h1
        have h2 : (10 : Nat) ^ (t.extract 0 n).size ≤ 10 ^ 9 := Nat.pow_le_pow_right (by decide) hts
        rw [hx, dvs]
        omega
      have CG := pgroup_c (t.extract 0 n) w1 hts HDt.out
      rw [← hx] at CG
      replace CG := hid CG
      have HX := hid hx
      clear hx HDt hts
      go_wp2_with fail
      refine CG.out.mono ?_
      rintro e w2 ⟨rfl, hg2⟩
      have HG2 := hid (HG1.out.trans hg2)
      have HO2 := hid (HO1.out.grew hg2)
      clear CG HO1 HG1 hg2
      have CA := hid (paddMags_c A1 c1 M1 (some ⟨w2.heap.size, 0, none⟩) 1 [x] (w2.alloc (.cells #[.int .u32 ((x : Nat) : Int)] 55)) (by have h := (HO2.out.alloc (.cells #[.int .u32 ((x : Nat) : Int)] 55)).at; rwa [World.size_alloc] at h ⊢) (by rw [World.size_alloc]; exact one_new HG2.out x) HL1.out (one_low hxb) (by omega) (by simp))
      go_wp2_with fail
      refine CA.out.mono ?_
      rintro e w3 ⟨A2, c2, M2, rfl, hO2, hl2, hv2, hm3, hg3⟩
      have hm4 : M2.length ≤ 102 := by rw [hm3]; simp; omega
      have HG3 := hid (show Grew w w3 from (HG2.out.alloc _).trans hg3)
      have HO3 := hid (hO2.mono (HG2.out.alloc _))
      have HL3 := hid hl2
      have HV3 := hid hv2
      clear CA HO2 HG2 hO2 hl2 hv2 hm3 hg3
      have CT := hid (ptrim_c A2 c2 M2 w3 HO3.out.at (by omega) HO3.out.cap.1 HO3.out.cap.2)
      have HM2 := hid (show MagInv s (k + n) (t.extract n t.size) (Dg.cut M2) from HI.out.step HN.out h0 (Dg.cut_low HL3.out) (Dg.cut_top _) (by rw [Dg.cut_val, HV3.out, HV1.out, one_val, one_val, HX.out]))
      have HOT := hid (show OwnNums .u32 w w3 55 A2 c2 (Dg.cut M2) by rw [Dg.cut_take]; exact HO3.out.take _)
      generalize Dg.cut M2 = M3 at *
      have hsz : (t.extract n t.size).size = t.size - n := by rw [ByteArray.size_extract]; omega
      have HSZ := hid hsz
      clear hsz HX HV1 HL1 HM1 HV3 HL3
      go_wp2_with fail
      refine CT.out.mono ?_
      rintro e w4 ⟨rfl, rfl⟩
      go_wp2_with fail
      go_roundg (t.size - n)
      case rel => exact ⟨t.extract n t.size, A2, c2, M3, k + n, rfl, rfl, HSZ.out.symm, by rw [HSZ.out]; omega, HOT.out, HG3.out, HM2⟩
      case measure => omega
end Go.Proofs.YtmcfciifjgdgoaaGreatDoor

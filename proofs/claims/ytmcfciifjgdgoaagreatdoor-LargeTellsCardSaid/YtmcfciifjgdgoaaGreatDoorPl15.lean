/- The developers' large numbers, part 15: a number divided by another, where its magnitudes are. -/
import Derived.Test.YtmcfciifjgdgoaaGreatDoorPl14
import Derived.Test.YtmcfciifjgdgoaaGreatDoorPl8
import Derived.Test.YtmcfciifjgdgoaaGreatDoorLgQ
namespace Go.Proofs.YtmcfciifjgdgoaaGreatDoor
open Go.RowKit

theorem one_drew (w : World) : NumsAt .u32 (w.alloc (.cells #[.int .u32 1] 55)).drew (w.alloc (.cells #[.int .u32 1] 55)).drew.heap.size (some ⟨w.heap.size, 0, none⟩) [1] := by
  have h := (one_new (Grew.refl w) 1)
  have e : (w.alloc (.cells #[.int .u32 1] 55)).drew.heap.size = w.heap.size + 1 := by
    rw [← World.size_alloc]; rfl
  rw [e]
  exact h
theorem own_back4 {k : IntKind} {w wz w1 : World} {e : TypeId} {A : Option Addr} {c : Nat} {xs : List Nat} (hG : Grew w wz) (h : OwnNums k wz w1 e A c xs) (h2 : w.heap.size + 1 + 1 + 1 < wz.heap.size) (u v x y : Value) :
    OwnNums k w ((((w1.setCell ⟨w.heap.size + 1 + 1, 0, none⟩ u).setCell ⟨w.heap.size + 1 + 1, 1, none⟩ v).setCell ⟨w.heap.size + 1 + 1 + 1, 0, none⟩ x).setCell ⟨w.heap.size + 1 + 1 + 1, 1, none⟩ y) e A c xs := by
  have hf : ∀ b, b ≤ w.heap.size + 1 + 1 + 1 → ∀ g, A = some ⟨g, 0, none⟩ → g ≠ b := fun b hb g hA => by
    have := (World.ownsRow.lt h) g (by rw [hA]; rfl)
    omega
  have f2 : ∀ g, A = some ⟨g, 0, none⟩ → g ≠ w.heap.size + 1 + 1 := hf _ (by omega)
  have f3 : ∀ g, A = some ⟨g, 0, none⟩ → g ≠ w.heap.size + 1 + 1 + 1 := hf _ (Nat.le_refl _)
  exact ((((h.mono hG).far f2 u).far f2 v).far f3 x).far f3 y
theorem grew_back4 {w w1 : World} (h : Grew w w1) (u v x y : Value) :
    Grew w ((((w1.setCell ⟨w.heap.size + 1 + 1, 0, none⟩ u).setCell ⟨w.heap.size + 1 + 1, 1, none⟩ v).setCell ⟨w.heap.size + 1 + 1 + 1, 0, none⟩ x).setCell ⟨w.heap.size + 1 + 1 + 1, 1, none⟩ y) := by
  have e2 : w.heap.size ≤ w.heap.size + 1 + 1 := by omega
  have e3 : w.heap.size ≤ w.heap.size + 1 + 1 + 1 := by omega
  exact (((h.setCell (p := ⟨w.heap.size + 1 + 1, 0, none⟩) e2 u).setCell (p := ⟨w.heap.size + 1 + 1, 1, none⟩) e2 v).setCell (p := ⟨w.heap.size + 1 + 1 + 1, 0, none⟩) e3 x).setCell (p := ⟨w.heap.size + 1 + 1 + 1, 1, none⟩) e3 y
theorem ne_three (n : Nat) : n + 1 ≠ n + 1 + 1 + 1 := by omega
/-- Two numbers and an error. -/
def GaveD (w : World) (ok : Bool) (a b : Int) (e : Ending) (w' : World) : Prop := ∃ A1 c1 n1 L1 A2 c2 n2 L2 k, e = .returned (.tuple #[.agg #[.bool n1, .slice A1 (List.length L1) c1], .agg #[.bool n2, .slice A2 (List.length L2) c2], errVal k]) ∧ OwnNums .u32 w w' 55 A1 c1 L1 ∧ OwnNums .u32 w w' 55 A2 c2 L2 ∧ OutD ok a b n1 L1 n2 L2 k ∧ Grew w w'

set_option maxRecDepth 100000 in
set_option maxHeartbeats 4000000 in
theorem pdiv_c (na : Bool) (A : Option Addr) (c : Nat) (xs : List Nat) (nb : Bool) (B : Option Addr) (d : Nat) (ys : List Nat) (w : World) (ha : NumsAt .u32 w w.heap.size A xs) (hb : NumsAt .u32 w w.heap.size B ys) (ly : Dg.Low 4294967296 ys) (hn : xs.length ≤ 1000000000000) (hm : ys.length ≤ 1000000000000)
    (hdiv : Lg.may na xs = true → Lg.may nb ys = true → 0 < ys.length → ∀ W, Grew w W → Calls Tryz.prog 35 #[.slice A xs.length c, .slice B ys.length d] W (DmPost W (Dg.val 4294967296 xs) (Dg.val 4294967296 ys))) :
    Calls Tryz.prog 14 #[.agg #[.bool na, .slice A xs.length c], .agg #[.bool nb, .slice B ys.length d]] w (GaveD w (Lg.may na xs && Lg.may nb ys) (Lg.num na xs) (Lg.num nb ys)) := by
  have HA := hid ha
  have HB := hid hb
  have HD := hid hdiv
  clear ha hb hdiv
  have hbox := Box4.mk' w 27 27 27 na A xs.length c nb B ys.length d
  have CA := hid (pvalid_c na A c xs)
  have CB := hid (pvalid_c nb B d ys)
  go_enter Tryz.func14, Tryz.ntmps14
  go_wp2_with fail
  generalize (((w.alloc (.cells #[.bool na, .slice A xs.length c] 27)).alloc (.cells #[.bool nb, .slice B ys.length d] 27)).alloc (.cells #[.bool false, .slice none 0 0] 27)).alloc (.cells #[.bool false, .slice none 0 0] 27) = wb at *
  obtain ⟨hg, l0, l1, l2, l3, a0, a1, b0, b1, r0, r1, fr, s0, s1, fs⟩ := hbox
  have HG := hid hg
  clear hg
  refine (CA.out wb (HA.out.grew HG.out) hn).mono ?_
  cases hma : Lg.may na xs
  · rintro e w1 ⟨rfl, y, rfl⟩
    go_wp2_with fail
    refine bodyPost_ret (v := .tuple #[.agg #[.bool false, .slice none 0 0], .agg #[.bool false, .slice none 0 0], .iface 56 (.int .i64 1)]) (by simp [results, Tryz.results14, go_sem, *]) rfl ?_
    exact ⟨none, 0, false, [], none, 0, false, [], 1, rfl, OwnNums.nil _ _ _ _, OwnNums.nil _ _ _ _, OutD.mk (fun _ => ⟨rfl, ⟨rfl, rfl⟩, rfl, rfl⟩) (fun h => by simp [*] at h) (fun h => by simp [*] at h), ((((HG.out.trans y.grew).setCell (by simp <;> omega) _).setCell (by simp <;> omega) _).setCell (by simp <;> omega) _).setCell (by simp <;> omega) _⟩
  · rintro e w1 ⟨rfl, y, rfl⟩
    go_wp2_with fail
    refine (Calls.grew y.grew (CB.out y.w (HB.out.grew (HG.out.trans y.grew)) hm)).mono ?_
    cases hmb : Lg.may nb ys
    · rintro e w1 ⟨rfl, y2, rfl⟩
      go_wp2_with fail
      refine bodyPost_ret (v := .tuple #[.agg #[.bool false, .slice none 0 0], .agg #[.bool false, .slice none 0 0], .iface 56 (.int .i64 1)]) (by simp [results, Tryz.results14, go_sem, *]) rfl ?_
      exact ⟨none, 0, false, [], none, 0, false, [], 1, rfl, OwnNums.nil _ _ _ _, OwnNums.nil _ _ _ _, OutD.mk (fun _ => ⟨rfl, ⟨rfl, rfl⟩, rfl, rfl⟩) (fun h => by simp [*] at h) (fun h => by simp [*] at h), ((((HG.out.trans y2.grew).setCell (by simp <;> omega) _).setCell (by simp <;> omega) _).setCell (by simp <;> omega) _).setCell (by simp <;> omega) _⟩
    · rintro e w1 ⟨rfl, y2, rfl⟩
      have HM := hid (And.intro hma hmb)
      rcases Nat.eq_zero_or_pos ys.length with h0 | h0
      · have e := List.eq_nil_of_length_eq_zero h0
        subst e
        have HZ := hid (show Lg.num nb [] = 0 by cases nb <;> simp [Lg.num, Lg.sgn])
        clear h0 ly hn hm CA CB
        go_wp2_with fail
        refine bodyPost_ret (v := .tuple #[.agg #[.bool false, .slice none 0 0], .agg #[.bool false, .slice none 0 0], .iface 56 (.int .i64 10)]) (by simp [results, Tryz.results14, go_sem, *]) rfl ?_
        exact ⟨none, 0, false, [], none, 0, false, [], 10, rfl, OwnNums.nil _ _ _ _, OwnNums.nil _ _ _ _, OutD.mk (fun h => by simp [*] at h) (fun _ _ => ⟨rfl, ⟨rfl, rfl⟩, rfl, rfl⟩) (fun _ h => absurd HZ.out h), ((((HG.out.trans y2.grew).setCell (by simp <;> omega) _).setCell (by simp <;> omega) _).setCell (by simp <;> omega) _).setCell (by simp <;> omega) _⟩
      · have hl0 : ¬ (ys.length : Int) = 0 := by omega
        have A0 := (y2.cell _ l0).trans a0
        have A1 := (y2.cell _ l0).trans a1
        have B0 := (y2.cell _ l1).trans b0
        have B1 := (y2.cell _ l1).trans b1
        have L0 := Nat.lt_of_lt_of_le l0 y2.b.size
        have L1 := Nat.lt_of_lt_of_le l1 y2.b.size
        have L2 := Nat.lt_of_lt_of_le l2 y2.b.size
        have L3 := Nat.lt_of_lt_of_le l3 y2.b.size
        have R0 := (y2.cell _ l2).trans r0
        have R1 := (y2.cell _ l2).trans r1
        have FR : ∀ i, y2.w.frozen? ⟨w.heap.size + 1 + 1, i, none⟩ = false := fun i => (y2.frozen _ l2).trans (fr i)
        have S0 := (y2.cell _ l3).trans s0
        have S1 := (y2.cell _ l3).trans s1
        have FS : ∀ i, y2.w.frozen? ⟨w.heap.size + 1 + 1 + 1, i, none⟩ = false := fun i => (y2.frozen _ l3).trans (fs i)
        have HG2 := hid (HG.out.trans y2.grew)
        clear a0 a1 b0 b1 r0 r1 fr s0 s1 fs l0 l1 l2 l3 HG hma hmb CA CB
        generalize y2.w = wz at *
        have CD := HD.out HM.out.1 HM.out.2 h0 wz HG2.out
        replace CD := hid CD
        go_wp2_with fail
        refine CD.out.mono ?_
        rintro e w3 ⟨A3, c3, Q, B3, d3, R, rfl, hQ, hR, hl3, hv3, hn3, y3, rfl⟩
        have a0 := (y3.cell _ L0).trans A0
        have a1 := (y3.cell _ L0).trans A1
        have b0 := (y3.cell _ L1).trans B0
        have b1 := (y3.cell _ L1).trans B1
        have l0 := Nat.lt_of_lt_of_le L0 y3.b.size
        have l1 := Nat.lt_of_lt_of_le L1 y3.b.size
        have l2 := Nat.lt_of_lt_of_le L2 y3.b.size
        have l3 := Nat.lt_of_lt_of_le L3 y3.b.size
        have r0 := (y3.cell _ L2).trans R0
        have r1 := (y3.cell _ L2).trans R1
        have fr : ∀ i, y3.w.frozen? ⟨w.heap.size + 1 + 1, i, none⟩ = false := fun i => (y3.frozen _ L2).trans (FR i)
        have s0 := (y3.cell _ L3).trans S0
        have s1 := (y3.cell _ L3).trans S1
        have fs : ∀ i, y3.w.frozen? ⟨w.heap.size + 1 + 1 + 1, i, none⟩ = false := fun i => (y3.frozen _ L3).trans (FS i)
        have HG3 := hid (HG2.out.trans y3.grew)
        have HQ := hid hQ
        have HR := hid hR
        have HGz := hid y3.grew
        have hwz := L3
        have HY := hid (Nat.lt_of_le_of_lt (Nat.zero_le _) hv3.2)
        clear A0 A1 B0 B1 L0 L1 L2 L3 R0 R1 FR S0 S1 FS hQ hR CD HD
        generalize y3.w = wy at *
        generalize hnn : (!na == nb) = t0
        have HNN := hid hnn
        clear hnn
        go_upto_region 7 with fail
        go_cut [46] (fun s46 wx => ∃ t : Bool, s46 = .bool t ∧ Hid (t = (t0 && decide (0 < R.length))) ∧ wx = wy)
        case first =>
          clear HNN
          cases t0
          · go_wp2_with fail
            go_meet
            case rel => exact ⟨_, rfl, hid (by simp), rfl⟩
          · go_wp2_with fail
            go_meet
            case rel => exact ⟨_, rfl, hid (by simp), rfl⟩
        case rest =>
          obtain ⟨t, rfl, HT, hwx⟩ := hcut
          rw [hwx]
          clear hwx
          rw [← HNN.out] at HT
          go_upto_if 46 with fail
          go_cut [8, 9] (fun s8 s9 wx => ∃ (A5 : Option Addr) (c5 : Nat) (N5 : List Nat) (A6 : Option Addr) (c6 : Nat) (R6 : List Nat) (z5 : After wy), s8 = .slice A5 N5.length c5 ∧ s9 = .slice A6 R6.length c6 ∧ OwnNums .u32 wz z5.w 55 A5 c5 N5 ∧ OwnNums .u32 wz z5.w 55 A6 c6 R6 ∧ wx = z5.w ∧ N5.length ≤ 100001 ∧ R6.length ≤ 100001 ∧ Hid (Dg.Low 4294967296 N5 ∧ Dg.Low 4294967296 R6 ∧ (Lg.num na xs).fdiv (Lg.num nb ys) = Lg.sgn (!(na == nb)) (Dg.val 4294967296 N5) ∧ (Lg.num na xs).fmod (Lg.num nb ys) = Lg.sgn nb (Dg.val 4294967296 R6)))
          case first =>
            have HS := Lg.div_signs (na := na) (nb := nb) hv3.1.symm hv3.2
            cases t
            · have HH := hid (show (Lg.num na xs).fdiv (Lg.num nb ys) = Lg.sgn (!(na == nb)) (Dg.val 4294967296 Q) ∧ (Lg.num na xs).fmod (Lg.num nb ys) = Lg.sgn nb (Dg.val 4294967296 R) by
                rw [Lg.num, Lg.num]
                by_cases hab : na = nb
                · have := HS.1 hab
                  rw [this.1, this.2]
                  subst hab
                  simp
                · have h1 := HT.out
                  have h2 : (na == nb) = false := by simpa using hab
                  rw [h2] at h1 ⊢
                  have hl : R.length = 0 := by
                    have : ¬ 0 < R.length := by simpa using h1
                    omega
                  have hz : Dg.val 4294967296 R = 0 := by rw [List.eq_nil_of_length_eq_zero hl]; rfl
                  have := HS.2.1 hab hz
                  rw [this.1, this.2, hz]
                  exact ⟨rfl, rfl⟩)
              have H3 := hid hl3
              have HN3 := hid hn3
              clear HS hv3 hl3 hn3
              go_wp2_with fail
              go_meet
              case rel => exact ⟨A3, c3, Q, B3, d3, R, ⟨wy, Below.refl _ _⟩, rfl, rfl, HQ.out, HR.out, rfl, by have := HN3.out.1; omega, by have := HN3.out.2; omega, hid ⟨H3.out.1, H3.out.2.1, HH.out.1, HH.out.2⟩⟩
            · have hT2 := HT.out
              have hab : na ≠ nb ∧ 0 < R.length := by
                have h1 : (!(na == nb)) = true ∧ decide (0 < R.length) = true := by
                  rw [← Bool.and_eq_true]; exact hT2.symm
                exact ⟨by simpa using h1.1, by simpa using h1.2⟩
              have hRp : 0 < Dg.val 4294967296 R := Dg.val_pos (by decide) hl3.2.2 (by intro h; rw [h] at hab; simp at hab)
              have h3 := HS.2.2 hab.1 hRp
              have hbn : (na == nb) = false := by simpa using hab.1
              have HH := hid (show (Lg.num na xs).fdiv (Lg.num nb ys) = Lg.sgn (!(na == nb)) (Dg.val 4294967296 Q + 1) ∧ (Lg.num na xs).fmod (Lg.num nb ys) = Lg.sgn nb (Dg.val 4294967296 ys - Dg.val 4294967296 R) by
                rw [Lg.num, Lg.num, h3.1, h3.2, hbn]
                exact ⟨rfl, rfl⟩)
              have hRQ := hid (Nat.le_of_lt hv3.2)
              have H3 := hid hl3
              have HN3 := hid hn3
              clear HS hT2 hab hRp h3 hbn hl3 hv3 hn3
              have hRl : R.length ≤ ys.length := Dg.len_le (B := 4294967296) (by decide) ly H3.out.2.2 hRQ.out
              have hYl : ys.length ≤ 64 := (Lg.may_iff.1 HM.out.2).1
              have hQl : Q.length ≤ 100000 := HN3.out.1
              have HS := hid b1
              go_wp2_with fail
              have CA := paddMags_c A3 c3 Q (some ⟨wy.heap.size, 0, none⟩) 1 [1] (wy.alloc (.cells #[.int .u32 1] 55)).drew (HQ.out.grew ((Grew.refl _).alloc _).drew).at (one_drew wy) H3.out.1 (one_low (by decide)) hQl (by decide)
              rw [show [1].length = 1 from rfl] at CA
              replace CA := hid CA
              go_region_held3 (fun w' => w'.cell? ⟨w.heap.size + 1, 1, none⟩ = some (.slice B ys.length d))
                (first
                  | exact (y5.cell _ l1).trans HS.out
                  | exact (y6.cell _ l1).trans HS.out
                  | go_keep)
                (first
                  | (go_at_call 36; ((with_reducible refine CA.out.mono ?_); rintro e w5 ⟨A5, c5, N5, rfl, hO5, hL5, hv5, hl5, hG5⟩; obtain ⟨y5, rfl⟩ := Grew.trans (show Grew wy (wy.alloc (.cells #[.int .u32 1] 55)).drew from ((Grew.refl _).alloc _).drew) hG5; replace hv5 := hid hv5; replace hl5 := hid hl5))
                  | (go_at_call 37; ((with_reducible refine (psubMags_c B d ys B3 d3 R y5.w (HB.out.grew (HG3.out.trans y5.grew)) (HR.out.grew y5.grew).at ly H3.out.2.1 (by omega) hRl hRQ.out).mono ?_); rintro e w6 ⟨A6, c6, N6, rfl, hO6, hL6, hv6, hl6, hG6⟩; replace hv6 := hid hv6; replace hl6 := hid hl6; obtain ⟨y6, rfl⟩ := Grew.trans y5.grew hG6)))
              go_wp2_with fail
              go_meet
              case rel =>
                refine ⟨A5, c5, N5, A6, c6, N6, y6, rfl, rfl, (hO5.mono (HGz.out.alloc _).drew).grew hG6, hO6.mono (HGz.out.trans y5.grew), rfl, ?_, ?_, hid ⟨hL5, hL6, ?_, ?_⟩⟩
                · rw [hl5.out]; simp; omega
                · rw [hl6.out]; omega
                · rw [hv5.out, one_val]; exact HH.out.1
                · rw [show Dg.val 4294967296 N6 = Dg.val 4294967296 ys - Dg.val 4294967296 R by have := hv6.out; omega]; exact HH.out.2
          case rest =>
            obtain ⟨A5, c5, N5, A6, c6, R6, z5, rfl, rfl, hO5, hO6, rfl, hN5, hN6, HH⟩ := hcut
            clear hl3 hv3 hn3 HT HQ HR
            have HO5 := hid hO5
            have HO6 := hid hO6
            clear hO5 hO6
            have C7 := hid (psigned_c t0 A5 c5 N5 wz z5.w.drew (HO5.out.grew (Grew.refl _).drew) (by omega))
            have C8 := hid (fun W (h : Grew z5.w W) => psigned_c nb A6 c6 R6 wz W (HO6.out.grew h) (by omega))
            have HE7 := hid (show (t0 && decide (0 < (Dg.cut N5).length)) = (t0 && decide (0 < (Dg.cut N5).length)) from rfl)
            have H7 := hid (cut_rep t0 HH.out.1)
            have H8 := hid (cut_rep nb HH.out.2.1)
            have HC5 := hid (show OwnNums .u32 wz z5.w 55 A5 c5 (Dg.cut N5) by rw [Dg.cut_take]; exact HO5.out.take _)
            have HC6 := hid (show OwnNums .u32 wz z5.w 55 A6 c6 (Dg.cut R6) by rw [Dg.cut_take]; exact HO6.out.take _)
            generalize (t0 && decide (0 < (Dg.cut N5).length)) = n7 at *
            generalize (nb && decide (0 < (Dg.cut R6).length)) = n8 at *
            generalize Dg.cut N5 = L7 at *
            generalize Dg.cut R6 = L8 at *
            clear HE7
            have HS := hid b0
            go_wp2_with fail
            go_region_held3 (fun w' => w'.cell? ⟨w.heap.size + 1, 0, none⟩ = some (.bool nb))
              (first
                | exact (z5.cell _ l1).trans HS.out
                | exact (y7.cell _ l1).trans HS.out
                | exact (y8.cell _ l1).trans HS.out
                | exact (cell_far2 (ne_two _).2).trans ((y8.cell _ l1).trans HS.out)
                | exact (cell_far2 (ne_three _)).trans ((cell_far2 (ne_two _).2).trans ((y8.cell _ l1).trans HS.out))
                | go_keep)
              (first
                | (go_at_call 38; ((with_reducible refine C7.out.mono ?_); rintro e w7 ⟨rfl, hG7⟩; obtain ⟨y7, rfl⟩ := Grew.trans (show Grew wy z5.w.drew from z5.grew.drew) hG7; have HK7 := hid (show Grew z5.w y7.w from Grew.trans (Grew.refl _).drew hG7); clear hG7))
                | (go_at_call 38; ((with_reducible refine (C8.out y7.w HK7.out).mono ?_); rintro e w8 ⟨rfl, hG8⟩; obtain ⟨y8, rfl⟩ := Grew.trans y7.grew hG8; have HK8 := hid (show Grew z5.w y8.w from HK7.out.trans hG8); clear hG8)))
            have q0 := (y8.cell _ l2).trans r0
            have q1 := (y8.cell _ l2).trans r1
            have qf : ∀ i, y8.w.frozen? ⟨w.heap.size + 1 + 1, i, none⟩ = false := fun i => (y8.frozen _ l2).trans (fr i)
            have p0 := (y8.cell _ l3).trans s0
            have p1 := (y8.cell _ l3).trans s1
            have pf : ∀ i, y8.w.frozen? ⟨w.heap.size + 1 + 1 + 1, i, none⟩ = false := fun i => (y8.frozen _ l3).trans (fs i)
            have hz : Lg.num nb ys ≠ 0 := by
              intro h
              have h1 := HY.out
              cases nb <;> simp [Lg.num, Lg.sgn] at h <;> omega
            have HU := hid (show OutD (Lg.may na xs && Lg.may nb ys) (Lg.num na xs) (Lg.num nb ys) n7 L7 n8 L8 0 from
              OutD.mk (fun h => by rw [HM.out.1, HM.out.2] at h; cases h) (fun _ h => absurd h hz) (fun _ _ => ⟨rfl, by rw [HH.out.2.2.1, HNN.out]; exact H7.out, by rw [HH.out.2.2.2]; exact H8.out⟩))
            have HGo := hid ((HG3.out.trans y8.grew))
            have HO7 := hid (HC5.out.grew HK8.out)
            have HO8 := hid (HC6.out.grew HK8.out)
            clear hz HO5 HO6 C7 C8 HC5 HC6
            go_wp2_with fail
            refine bodyPost_ret (v := .tuple #[.agg #[.bool n7, .slice A5 L7.length c5], .agg #[.bool n8, .slice A6 L8.length c6], .nilIface]) (by simp [results, Tryz.results14, go_sem, *]) rfl ?_
            exact ⟨A5, c5, n7, L7, A6, c6, n8, L8, 0, rfl, own_back4 HG2.out HO7.out hwz _ _ _ _, own_back4 HG2.out HO8.out hwz _ _ _ _, HU.out, grew_back4 HGo.out _ _ _ _⟩
end Go.Proofs.YtmcfciifjgdgoaaGreatDoor

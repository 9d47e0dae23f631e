/- Stage 7: the program's own valid and put. -/
import Derived.Test.YtilikjfjbnabfaaGreatDoorOp9
import Derived.Test.YtilikjfjbnabfaaGreatDoorOp4
namespace Go.Proofs.YtilikjfjbnabfaaGreatDoor
open Go.RowKit

set_option maxRecDepth 100000 in
set_option maxHeartbeats 2000000 in
theorem valid_c (o : Op7.Ins) (w : World) (hm : o.code < 256) (hT : TabAt w) :
    Calls Tryz.prog 37 #[.agg (opCells o)] w (fun e w' => e = .returned (.bool (decide (Op7.valid o))) ∧ Grew w w') := by
  obtain ⟨c, a, b⟩ := o
  change c < 256 at hm
  have HT := hid hT
  clear hT
  show Calls _ _ #[.agg #[.int .u8 ((c : Nat) : Int), .int .i64 a, .int .i64 b]] w _
  by_cases h : c < 21
  · have HV : Hid (decide (Op7.valid ⟨c, a, b⟩) = (decide (Op7.fits a (Op7.wid c).1) && decide (Op7.fits b (Op7.wid c).2))) := hid (by
      rw [← Bool.decide_and, decide_eq_decide]
      exact ⟨fun h => ⟨h.2.1, h.2.2⟩, fun h' => ⟨h, h'.1, h'.2⟩⟩)
    have HX := hid (fun w' => exists_c c w' hm)
    rw [decide_eq_true h] at HX
    have HW := hid (fun w' (hg : Grew w w') => owidths_c c w' h (HT.out.grew hg))
    have hw2 := Op7.wid_le c
    have HA := hid (fun w' => ofits_c a (Op7.wid c).1 w' hw2.1)
    have HB := hid (fun w' => ofits_c b (Op7.wid c).2 w' hw2.2)
    generalize decide (Op7.fits a (Op7.wid c).1) = fa at *
    generalize decide (Op7.fits b (Op7.wid c).2) = fb at *
    generalize (Op7.wid c).1 = x at *
    generalize (Op7.wid c).2 = y at *
    go_enter Tryz.func37, Tryz.ntmps37
    go_wp2_with fail
    have hb0 := hid ((Grew.refl w).alloc (.cells #[.int .u8 ((c : Nat) : Int), .int .i64 a, .int .i64 b] 51))
    refine (Calls.after (Grew.refl _) (HX.out _)).mono ?_
    rintro e w1 ⟨rfl, y1, rfl⟩
    go_wp2_with fail
    refine (Calls.after y1.grew (HW.out _ (hb0.out.trans y1.grew))).mono ?_
    rintro e w2 ⟨rfl, y2, rfl⟩
    go_wp2_with fail
    refine (Calls.after y2.grew (HA.out _)).mono ?_
    rintro e w3 ⟨rfl, y3, rfl⟩
    cases fa
    · go_wp2_with fail
      go_ret
      exact ⟨by rw [HV.out]; rfl, hb0.out.trans y3.grew⟩
    · go_wp2_with fail
      refine (HB.out _).mono ?_
      rintro e w4 ⟨rfl, hg4⟩
      go_wp2_with fail
      go_ret
      exact ⟨by rw [HV.out]; rfl, (hb0.out.trans y3.grew).trans hg4⟩
  · have HV : Hid (decide (Op7.valid ⟨c, a, b⟩) = false) := hid (decide_eq_false (fun hv => h hv.1))
    have HX := hid (fun w' => exists_c c w' hm)
    rw [decide_eq_false h] at HX
    go_enter Tryz.func37, Tryz.ntmps37
    go_wp2_with fail
    refine (HX.out _).mono ?_
    rintro e w1 ⟨rfl, hg1⟩
    go_wp2_with fail
    go_ret
    exact ⟨by rw [HV.out]; rfl, ((Grew.refl w).alloc _).trans hg1⟩
theorem Blk.of_alloc (w : World) (cs : Array Value) (t : TypeId) : Blk (w.alloc (.cells cs t)) w.heap.size t cs := heap_alloc_new w _
theorem Row.atRow {w : World} {B : Nat} {e : TypeId} {s : Nat} {A : Option Addr} {n c : Nat} {vs : List Value} (h : Row w B e s A n c vs) {g : Nat} (hg : w.heap.size ≤ g) : ¬ AtRow A g := by
  rintro ⟨ad, rfl, rfl⟩
  rcases h.cases with ⟨_, _, _, ⟨h1, _⟩ | ⟨g, h1, _, hlt, _⟩⟩
  · cases h1
  · obtain rfl := Option.some.inj h1
    simp only at hg
    omega
theorem RowTo.not_at {w : World} {A A' : Option Addr} {g : Nat} (r : RowTo w A A') (h : ¬ AtRow A g) (hg : g < w.heap.size) : ¬ AtRow A' g := by
  rcases r with rfl | ⟨k, rfl, hk⟩
  · exact h
  · rintro ⟨ad, h1, rfl⟩
    obtain rfl := Option.some.inj h1
    simp only at hg
    omega
set_option maxRecDepth 100000 in
set_option maxHeartbeats 2000000 in
theorem oput_c (o : Op7.Ins) (A : Option Addr) (k : Nat) (xs : List Nat) (B : Nat) (w : World) (hB : B ≤ w.heap.size) (hv : Op7.valid o) (hT : TabAt w) (h : Row8 w B A k xs) (hl : xs.length ≤ 10000000) :
    Calls Tryz.prog 39 #[.agg (opCells o), .slice A xs.length k] w (OPutPost w B A xs (Op7.enc o)) := by
  obtain ⟨c, a, b⟩ := o
  obtain ⟨h21, va, vb⟩ := hv
  change c < 21 at h21
  obtain ⟨a, rfl⟩ := Int.eq_ofNat_of_zero_le va.1
  obtain ⟨b, rfl⟩ := Int.eq_ofNat_of_zero_le vb.1
  show Calls _ _ #[.agg #[.int .u8 ((c : Nat) : Int), .int .i64 (a : Nat), .int .i64 (b : Nat)], _] w _
  have HE : Hid (Op7.enc ⟨c, (a : Nat), (b : Nat)⟩ = c :: (Op7.be a (Op7.wid c).1 ++ Op7.be b (Op7.wid c).2)) := hid rfl
  have ha : a < 256 ^ (Op7.wid c).1 := by have := va.2; rw [← Int.ofNat_lt, Int.natCast_pow]; exact this
  have hb : b < 256 ^ (Op7.wid c).2 := by have := vb.2; rw [← Int.ofNat_lt, Int.natCast_pow]; exact this
  have hw2 := Op7.wid_le c
  have hL1 := Op7.be_len a _ hw2.1
  have HT := hid hT
  have HW := hid (fun w' (hg : Grew w w') => owidths_c c w' h21 (HT.out.grew hg))
  have HA := hid (fun (A : Option Addr) k (xs : List Nat) w' hB hl ho => oputN_c A k xs a (Op7.wid c).1 B w' hB hw2.1 ha ho hl)
  have HC := hid (fun (A : Option Addr) k (xs : List Nat) w' hB hl ho => oputN_c A k xs b (Op7.wid c).2 B w' hB hw2.2 hb ho hl)
  have HL := hid (show (Op7.be a (Op7.wid c).1).length ≤ 2 by omega)
  have HB := hid hB
  have H := hid h
  have HN := hid (Row.atRow h (Nat.le_refl _))
  clear ha hb hL1 hw2 hT va vb h hB
  generalize Op7.be a (Op7.wid c).1 = ea at *
  generalize Op7.be b (Op7.wid c).2 = eb at *
  generalize (Op7.wid c).1 = x at *
  generalize (Op7.wid c).2 = y at *
  go_enter Tryz.func39, Tryz.ntmps39
  go_wp2_with fail
  have HG1 := hid ((Grew.refl w).alloc (.cells #[.int .u8 ((c : Nat) : Int), .int .i64 (a : Nat), .int .i64 (b : Nat)] 51))
  have HB1 := hid (Blk.of_alloc w #[.int .u8 ((c : Nat) : Int), .int .i64 (a : Nat), .int .i64 (b : Nat)] 51)
  refine (HW.out _ HG1.out).mono ?_
  rintro e w2 ⟨rfl, y2, rfl⟩
  have HG2 := hid (HG1.out.trans y2.grew)
  have HB2 := hid (HB1.out.kept (F := fun _ => False) (.of_grew y2.grew) (fun h => h))
  have HO2 := hid (H.out.grew HG2.out)
  have s2 := HB2.out.lt
  go_wp2_with (at_builtin; refine wpList_push8 _ rfl _ _ rfl B (Nat.le_trans HB.out HG2.out.below.size) A k xs rfl HO2.out c _ rfl rfl _ rfl (by omega) (by omega) ?_; rintro A3 c3 M3 W3 hM3 hO3 hK3 hT3; have HB3 := hid (HB2.out.kept hK3 HN.out); have HK3 := hid hK3; have HT3 := hid hT3; have HO3 := hid hO3; clear hK3 hT3 hO3; obtain q1 := HB3.out.cell 1; simp only [List.getElem?_toArray, List.getElem?_cons_zero, List.getElem?_cons_succ] at q1)
  refine (HA.out A3 c3 M3 _ (Nat.le_trans HB.out (Nat.le_trans HG2.out.below.size HK3.out.size)) (by rw [hM3.out]; simp; omega) HO3.out).mono ?_
  rintro e W4 ⟨A4, c4, M4, rfl, hM4, hO4, hK4, hT4⟩
  replace hM4 := hid hM4
  have HB4 := hid (HB3.out.kept hK4 (HT3.out.not_at HN.out s2))
  have HK4 := hid (HK3.out.row_next HT3.out hK4)
  have HT4 := hid (HT3.out.next HK3.out.size hT4)
  have HO4 := hid hO4
  clear hO4 hK4 hT4 HB3 HK3 HT3 HO3 HA q1
  obtain q2 := HB4.out.cell 2
  simp only [List.getElem?_toArray, List.getElem?_cons_zero, List.getElem?_cons_succ] at q2
  go_wp2_with fail
  refine (HC.out A4 c4 M4 _ (Nat.le_trans HB.out (Nat.le_trans HG2.out.below.size HK4.out.size)) (by rw [hM4.out, hM3.out]; have := HL.out; simp; omega) HO4.out).mono ?_
  rintro e W5 ⟨A5, c5, M5, rfl, hM5, hO5, hK5, hT5⟩
  replace hM5 := hid hM5
  have HK5 := hid (HK4.out.row_next HT4.out hK5)
  have HT5 := hid (HT4.out.next HK4.out.size hT5)
  have HO5 := hid hO5
  clear hO5 hK5 hT5 HK4 HT4 HO4 HC q2
  go_wp2_with fail
  go_ret
  exact ⟨A5, c5, M5, rfl, by rw [hM5.out, hM4.out, hM3.out, HE.out]; simp, HO5.out, (Kept.of_grew HG2.out).trans HK5.out, RowTo.next (.inl rfl) HG2.out.below.size HT5.out⟩
end Go.Proofs.YtilikjfjbnabfaaGreatDoor

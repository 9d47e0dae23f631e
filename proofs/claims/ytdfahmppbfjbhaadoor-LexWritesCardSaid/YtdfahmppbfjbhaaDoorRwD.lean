/- Stage 13, the document's own: One. -/
import Derived.Test.YtdfahmppbfjbhaaDoorRwC
namespace Go.Proofs.YtdfahmppbfjbhaaDoor
open Go.RowKit

theorem dbl_take {l : List UInt8} {i : Nat} {c : UInt8} (h : l[i]? = some c) : Lx.dbl (l.take (i + 1)) = Lx.dbl (l.take i) ++ Lx.dbl [c] := by
  rw [List.take_add_one, h, dbl_app]
  rfl
theorem may_size {k : Nat} {t : List UInt8} (h : Lx.mayT k t = true) : t.length ≤ 1024 ∧ k ≤ 16 := by
  unfold Lx.mayT at h
  split at h
  · rename_i h0
    simp only [Bool.and_eq_true, decide_eq_true_eq] at h
    omega
  · split at h
    · simp only [Bool.and_eq_true, decide_eq_true_eq] at h
      omega
    · split at h
      · simp only [Bool.and_eq_true, decide_eq_true_eq] at h
        omega
      · split at h
        · simp only [decide_eq_true_eq] at h
          omega
        · simp only [Bool.and_eq_true, decide_eq_true_eq, List.isEmpty_iff] at h
          rw [h.2]
          exact ⟨by decide, h.1⟩
theorem rmark_c2 {k : Nat} {c : UInt8} (h7 : 7 ≤ k) (h16 : k ≤ 16) (hc : Lx.mark k = [c]) (w : World) : Calls Tryd.prog 22 #[.int .i64 ((k : Nat) : Int)] w fun e w' => e = .returned (.int .u8 ((c.toNat : Nat) : Int)) ∧ Grew w w' := by
  obtain ⟨c2, h, hw⟩ := rmark_c k h7 h16 w
  rw [hc] at h
  cases h
  exact hw
/-- What One gives. -/
def OneV (l : List UInt8) (w : World) (e : Ending) (w' : World) : Prop := ∃ A c, e = .returned (.slice A l.length c) ∧ NumsAt .u8 w' w'.heap.size A (ns l) ∧ Grew w w'
theorem nums_new1 (w : World) (x : Nat) : NumsAt .u8 (w.alloc (.cells #[.int .u8 ((x : Nat) : Int)] 5)) (w.alloc (.cells #[.int .u8 ((x : Nat) : Int)] 5)).heap.size (some ⟨w.heap.size, 0, none⟩) [x] :=
  Row.nums (B := w.heap.size) (e := 5) (c := 1) (Row.of_blk (Blk.new w 5 #[.int .u8 ((x : Nat) : Int)]) (Nat.le_refl _) rfl (by simp))
theorem nums_new2 (w : World) (x y : Nat) : NumsAt .u8 (w.alloc (.cells #[.int .u8 ((x : Nat) : Int), .int .u8 ((y : Nat) : Int)] 5)) (w.alloc (.cells #[.int .u8 ((x : Nat) : Int), .int .u8 ((y : Nat) : Int)] 5)).heap.size (some ⟨w.heap.size, 0, none⟩) [x, y] :=
  Row.nums (B := w.heap.size) (e := 5) (c := 2) (Row.of_blk (Blk.new w 5 #[.int .u8 ((x : Nat) : Int), .int .u8 ((y : Nat) : Int)]) (Nat.le_refl _) rfl (by simp))
set_option maxRecDepth 100000 in
set_option maxHeartbeats 4000000 in
theorem rone_c (k : Nat) (s : ByteArray) (o : Int) (hm : Lx.mayT k (bs s) = true) (w : World) : Calls Tryd.prog 33 #[.agg #[.int .u8 ((k : Nat) : Int), .string s, .int .i64 o]] w (OneV (Lx.src k (bs s)) w) := by
  obtain ⟨hs, hk⟩ := may_size hm
  rw [bs_len] at hs
  clear hm
  have HL := hid (bs_len s)
  have G1 := (Grew.refl w).alloc (.cells #[.int .u8 ((k : Nat) : Int), .string s, .int .i64 o] 35)
  have HG := hid G1
  have HB := hid (Blk.new w 35 #[.int .u8 ((k : Nat) : Int), .string s, .int .i64 o])
  clear G1
  by_cases h1 : k = 1
  · subst h1
    rw [show ((1 : Nat) : Int) = 1 from rfl] at *
    have hr := bW_conv (w.alloc (.cells #[.int .u8 1, .string s, .int .i64 o] 35)) s
    clear HB
    go_enter Tryd.func33, Tryd.ntmps33
    go_upto_region 2 with fail
    go_wp2_with (at_builtin; go_loud (refine wpList_conv_push (w.alloc (.cells #[.int .u8 1, .string s, .int .i64 o] 35)) rfl _ _ rfl s (by omega) _ (World.size_alloc w _) rfl 58 _ rfl rfl ?_; rintro A2 c2 w2 hN2 hG2; have HN2 := hid hN2; have HG2 := hid (HG.out.trans hG2); clear hN2 hG2))
    go_ret
    refine ⟨A2, c2, ?_, ?_, HG2.out⟩
    · rw [show Lx.src 1 (bs s) = bs s ++ [58] from rfl, List.length_append, HL.out]
      rfl
    · rw [show Lx.src 1 (bs s) = bs s ++ [58] from rfl, ns_app]
      exact HN2.out
  by_cases h5 : k = 5
  · subst h5
    rw [show ((5 : Nat) : Int) = 5 from rfl] at *
    go_enter Tryd.func33, Tryd.ntmps33
    go_upto_region 4 with fail
    have hwB : (w.alloc (.cells #[.int .u8 5, .string s, .int .i64 o] 35)).heap.size = w.heap.size + 1 := World.size_alloc _ _
    generalize (w.alloc (.cells #[.int .u8 5, .string s, .int .i64 o] 35)) = wB at *
    generalize w.heap.size = g at *
    have hg1 := (Grew.refl wB).alloc (.cells #[.int .u8 58] 5)
    have q1 := HB.out.cell 1
    simp only [List.getElem?_toArray, List.getElem?_cons_succ, List.getElem?_cons_zero] at q1
    have qb := HB.out.lt
    have hr := bW_conv (wB.alloc (.cells #[.int .u8 58] 5)) s
    have hs1 : (wB.alloc (.cells #[.int .u8 58] 5)).heap.size = wB.heap.size + 1 := World.size_alloc _ _
    have hg2 := bW_grew (wB.alloc (.cells #[.int .u8 58] 5)) s
    have hR := (Row.of_blk (Blk.new wB 5 #[.int .u8 58]) (Nat.le_refl _) rfl (by simp) : Row _ wB.heap.size 5 1 (some ⟨wB.heap.size, 0, none⟩) 1 1 [.int .u8 58]).grew hg2
    have HG1 := hid (hg1.trans hg2)
    have HH := hid (show (numCells .u8 (ns (bs s))).length = s.size * 1 by rw [numCells_length, ns_len, bs_len, Nat.mul_one])
    have hN := bW_nums (wB.alloc (.cells #[.int .u8 58] 5)) s
    rw [hs1, hwB] at hr hN
    rw [hwB] at hR
    have HR := hid hR
    have HN := hid hN
    generalize bW (wB.alloc (.cells #[.int .u8 58] 5)) s = w2 at *
    have HSz := hid (show g + 1 ≤ w2.heap.size by rw [← hwB]; exact HG1.out.below.size)
    have HGe := hid (show ∀ k, AtRow (some ⟨g + 1, 0, none⟩) k → wB.heap.size ≤ k by rintro k ⟨ad, e, rfl⟩; cases e; rw [hwB]; exact Nat.le_refl _)
    clear hg1 hg2 HB hR hN
    go_wp2_with (at_builtin; (refine wpList_catR (.int .u8 0) 1 1 w2 rfl _ _ 54 5 rfl Tryd.underlying54 u8_info13 rfl (by decide) (g + 1) HSz.out (some ⟨g + 1, 0, none⟩) 1 1 [.int .u8 58] rfl HR.out (some ⟨g + 1 + 1, 0, none⟩) s.size _ (numCells .u8 (ns (bs s))) rfl HH.out (numCells_one _ _) (by intro h; cases h) HN.out.cells.2 (by omega) (by omega) ?_); rintro A3 c3 w3 hR3 hK3 hT3; have HR3 := hid hR3; have HG3 := hid (HG.out.trans (hK3.grew HG1.out HGe.out)); clear hR3 hK3 hT3)
    go_ret
    refine ⟨A3, c3, ?_, ?_, HG3.out⟩
    · rw [show Lx.src 5 (bs s) = 58 :: bs s from rfl, List.length_cons, HL.out, Nat.add_comm]
      rfl
    · rw [show Lx.src 5 (bs s) = 58 :: bs s from rfl]
      exact Row.nums (B := g + 1) (e := 5) (c := c3) (by
        rw [ns_len, List.length_cons, HL.out, Nat.add_comm s.size 1]
        exact HR3.out)
  by_cases h6 : k = 6
  · subst h6
    rw [show ((6 : Nat) : Int) = 6 from rfl] at *
    clear HB
    have HN := hid (nums_new2 (w.alloc (.cells #[.int .u8 6, .string s, .int .i64 o] 35)) 58 61)
    have HG2 := hid (HG.out.trans ((Grew.refl _).alloc (.cells #[.int .u8 58, .int .u8 61] 5)))
    go_enter Tryd.func33, Tryd.ntmps33
    go_wp2_with fail
    go_ret
    refine ⟨_, 2, rfl, ?_, HG2.out⟩
    have h := HN.out
    rw [World.size_alloc w] at h
    exact h
  by_cases h7 : 7 ≤ k
  · obtain ⟨c, hc, _⟩ := rmark_c k h7 hk w
    have hcm : Lx.src k (bs s) = [c] := by
      unfold Lx.src
      rw [if_neg h1, if_neg h5, if_neg (by omega), if_neg (by omega), hc]
    rw [hcm]
    have HC := hid (fun W => rmark_c2 h7 hk hc W)
    have f0 : (((k : Nat) : Int) == 1) = false := by rw [beq_eq_false_iff_ne]; omega
    have f5 : (((k : Nat) : Int) == 5) = false := by rw [beq_eq_false_iff_ne]; omega
    have f6 : (((k : Nat) : Int) == 6) = false := by rw [beq_eq_false_iff_ne]; omega
    have f7 : (6 : Int) < ((k : Nat) : Int) := by omega
    have f8 : ((k : Nat) : Int) ≤ 16 := by omega
    clear HB hcm hc h1 h5 h6
    go_enter Tryd.func33, Tryd.ntmps33
    go_wp2_with fail
    refine (HC.out _).mono ?_
    rintro e w1 ⟨rfl, hg1⟩
    have HN := hid (nums_new1 w1 c.toNat)
    have HG2 := hid (HG.out.trans (hg1.trans ((Grew.refl _).alloc (.cells #[.int .u8 ((c.toNat : Nat) : Int)] 5))))
    clear hg1
    go_wp2_with fail
    go_ret
    exact ⟨_, 1, rfl, HN.out, HG2.out⟩
  by_cases h4 : k = 4
  · subst h4
    rw [show ((4 : Nat) : Int) = 4 from rfl] at *
    rw [show Lx.src 4 (bs s) = 39 :: (Lx.dbl (bs s) ++ [39]) from rfl]
    go_enter Tryd.func33, Tryd.ntmps33
    go_upto_region 10 with fail
    have hwB : (w.alloc (.cells #[.int .u8 4, .string s, .int .i64 o] 35)).heap.size = w.heap.size + 1 := World.size_alloc _ _
    generalize (w.alloc (.cells #[.int .u8 4, .string s, .int .i64 o] 35)) = wB at *
    generalize w.heap.size = g at *
    have hR := (Row.of_blk (Blk.new wB 5 #[.int .u8 39]) (Nat.le_refl _) rfl (by simp) : Row _ wB.heap.size 5 1 (some ⟨wB.heap.size, 0, none⟩) 1 1 (numCells .u8 [39]))
    rw [hwB] at hR
    have HR : Hid (Row (wB.alloc (.cells #[.int .u8 39] 5)) (g + 1) 5 1 (some ⟨g + 1, 0, none⟩) 1 1 (numCells .u8 (39 :: ns (Lx.dbl ((bs s).take 0))))) := hid hR
    clear hR
    have HG1 := hid ((Grew.refl wB).alloc (.cells #[.int .u8 39] 5))
    obtain ⟨n, hn⟩ : ∃ n, n = s.size := ⟨_, rfl⟩
    have HNn := hid hn
    rw [← hn] at hs
    clear hn
    go_wp2_with fail
    go_loopw [3, 4] (fun s3 s4 wr => ∃ (i m : Nat) (A : Option Addr) (c : Nat), s3 = .slice A m c ∧ s4 = .int .i64 ((i : Nat) : Int) ∧ i ≤ n ∧ m ≤ 2 * i + 1 ∧ Hid (m = (39 :: ns (Lx.dbl ((bs s).take i))).length) ∧ Hid (Row wr (g + 1) 5 1 A m c (numCells .u8 (39 :: ns (Lx.dbl ((bs s).take i))))) ∧ Hid (Grew wB wr)) (fun _ s4 _ => n - (intOf s4).toNat)
    case atStart => exact ⟨0, 1, _, _, rfl, rfl, Nat.zero_le _, Nat.le_refl _, hid rfl, HR, HG1⟩
    case round =>
      obtain ⟨i, m, A, c, rfl, rfl, hi, hm, HM, HRr, HGr⟩ := hrel
      have q1 := (HGr.out.below.cell HB.out.lt).trans (HB.out.cell 1)
      simp only [List.getElem?_toArray, List.getElem?_cons_succ, List.getElem?_cons_zero] at q1
      have qb := Nat.lt_of_lt_of_le HB.out.lt HGr.out.below.size
      have HSz := hid (show g + 1 ≤ wr.heap.size by rw [← hwB]; exact HGr.out.below.size)
      by_cases hlt : i < n
      · have hlt2 : i < s.size := by rw [← HNn.out]; exact hlt
        have f1 : (i : Int) < ((s.size : Nat) : Int) := by omega
        obtain ⟨ch, hc, hb⟩ := bs_at s i hlt2
        have HD := hid (dbl_take hc)
        clear hc
        by_cases h39 : ch = 39
        · subst h39
          rw [show UInt8.toNat 39 = 39 from rfl] at hb
          have HF := hid (show numCells .u8 (39 :: ns (Lx.dbl ((bs s).take (i + 1)))) = numCells .u8 (39 :: ns (Lx.dbl ((bs s).take i))) ++ [.int .u8 39] ++ [.int .u8 39] by
            rw [HD.out, ns_app, ← List.cons_append, numCells_append, List.append_assoc]
            rfl)
          have HM2 := hid (show m + 1 + 1 = (39 :: ns (Lx.dbl ((bs s).take (i + 1)))).length by
            rw [HD.out, ns_app, ← List.cons_append, List.length_append, ← HM.out]
            rfl)
          go_wp2_with (at_builtin; first | (refine wpList_pushR (.int .u8 0) 1 wr rfl _ _ 54 5 rfl Tryd.underlying54 u8_info13 rfl (g + 1) HSz.out A m c _ rfl HRr.out _ rfl rfl (.int .u8 39) rfl (by omega) (by omega) ?_; rintro A8 k8 w8 hR8 hK8 hT8; have hG8 := hK8.grew HGr.out (fun k e => by rw [hwB]; exact Row.at_base HRr.out k e); have q8 := (hG8.below.cell HB.out.lt).trans (HB.out.cell 1); simp only [List.getElem?_toArray, List.getElem?_cons_succ, List.getElem?_cons_zero] at q8; have qb8 := Nat.lt_of_lt_of_le HB.out.lt hG8.below.size; have HS8 := hid (show g + 1 ≤ w8.heap.size by rw [← hwB]; exact hG8.below.size); have HR8 := hid hR8; have HG8 := hid hG8; clear hR8 hK8 hT8 hG8) | (refine wpList_pushR (.int .u8 0) 1 w8 rfl _ _ 54 5 rfl Tryd.underlying54 u8_info13 rfl (g + 1) HS8.out A8 (m + 1) k8 _ rfl HR8.out _ rfl rfl (.int .u8 39) rfl (by omega) (by omega) ?_; rintro A9 k9 w9 hR9 hK9 hT9; have hG9 := hK9.grew HG8.out (fun k e => by rw [hwB]; exact Row.at_base HR8.out k e); have q9 := (hG9.below.cell HB.out.lt).trans (HB.out.cell 1); simp only [List.getElem?_toArray, List.getElem?_cons_succ, List.getElem?_cons_zero] at q9; have qb9 := Nat.lt_of_lt_of_le HB.out.lt hG9.below.size; have HS9 := hid (show g + 1 ≤ w9.heap.size by rw [← hwB]; exact hG9.below.size); have HR9 := hid hR9; have HG9 := hid hG9; clear hR9 hK9 hT9 hG9))
          go_round
          case rel => exact ⟨i + 1, m + 1 + 1, A9, k9, rfl, by go_num, by omega, by omega, HM2, hid (by rw [HF.out]; exact HR9.out), HG9⟩
          case measure => simp [intOf]; omega
        · have f39 : (((ch.toNat : Nat) : Int) == 39) = false := by
            have := u8_beq ch 39
            rw [show (((39 : UInt8).toNat : Nat) : Int) = 39 from rfl] at this
            rw [this, beq_eq_false_iff_ne]
            exact h39
          have HF := hid (show numCells .u8 (39 :: ns (Lx.dbl ((bs s).take (i + 1)))) = numCells .u8 (39 :: ns (Lx.dbl ((bs s).take i))) ++ [.int .u8 ((ch.toNat : Nat) : Int)] by
            rw [HD.out, ns_app, ← List.cons_append, numCells_append]
            unfold Lx.dbl
            rw [if_neg h39]
            rfl)
          have HM2 := hid (show m + 1 = (39 :: ns (Lx.dbl ((bs s).take (i + 1)))).length by
            rw [HD.out, ns_app, ← List.cons_append, List.length_append, ← HM.out]
            unfold Lx.dbl
            rw [if_neg h39]
            rfl)
          go_wp2_with (at_builtin; refine wpList_pushR (.int .u8 0) 1 wr rfl _ _ 54 5 rfl Tryd.underlying54 u8_info13 rfl (g + 1) HSz.out A m c _ rfl HRr.out _ rfl rfl (.int .u8 ((ch.toNat : Nat) : Int)) rfl (by omega) (by omega) ?_; rintro A8 k8 w8 hR8 hK8 hT8; have hG8 := hK8.grew HGr.out (fun k e => by rw [hwB]; exact Row.at_base HRr.out k e); have q8 := (hG8.below.cell HB.out.lt).trans (HB.out.cell 1); simp only [List.getElem?_toArray, List.getElem?_cons_succ, List.getElem?_cons_zero] at q8; have qb8 := Nat.lt_of_lt_of_le HB.out.lt hG8.below.size; have HS8 := hid (show g + 1 ≤ w8.heap.size by rw [← hwB]; exact hG8.below.size); have HR8 := hid hR8; have HG8 := hid hG8; clear hR8 hK8 hT8 hG8)
          go_round
          case rel => exact ⟨i + 1, m + 1, A8, k8, rfl, by go_num, by omega, by omega, HM2, hid (by rw [HF.out]; exact HR8.out), HG8⟩
          case measure => simp [intOf]; omega
      · have hin : i = s.size := by have := HNn.out; omega
        have f1 : ¬ (i : Int) < ((s.size : Nat) : Int) := by omega
        have HT := hid (show (bs s).take i = bs s by rw [hin, ← bs_len, List.take_length])
        clear hin
        go_wp2_with (at_builtin; refine wpList_pushR (.int .u8 0) 1 wr rfl _ _ 54 5 rfl Tryd.underlying54 u8_info13 rfl (g + 1) HSz.out A m c _ rfl HRr.out _ rfl rfl (.int .u8 39) rfl (by omega) (by omega) ?_; rintro A8 k8 w8 hR8 hK8 hT8; have hG8 := hK8.grew HGr.out (fun k e => by rw [hwB]; exact Row.at_base HRr.out k e); have q8 := (hG8.below.cell HB.out.lt).trans (HB.out.cell 1); simp only [List.getElem?_toArray, List.getElem?_cons_succ, List.getElem?_cons_zero] at q8; have qb8 := Nat.lt_of_lt_of_le HB.out.lt hG8.below.size; have HS8 := hid (show g + 1 ≤ w8.heap.size by rw [← hwB]; exact hG8.below.size); have HR8 := hid hR8; have HG8 := hid hG8; clear hR8 hK8 hT8 hG8)
        go_ret
        rw [HT.out] at HR8 HM
        refine ⟨A8, k8, ?_, ?_, HG.out.trans HG8.out⟩
        · rw [HM.out]
          simp [ns]
        · exact Row.nums (B := g + 1) (e := 5) (c := k8) (by
            rw [show ns (39 :: (Lx.dbl (bs s) ++ [39])) = (39 :: ns (Lx.dbl (bs s))) ++ [39] by rw [show (39 :: (Lx.dbl (bs s) ++ [39]) : List UInt8) = [39] ++ Lx.dbl (bs s) ++ [39] by simp]; simp [ns], List.length_append, ← HM.out, numCells_append]
            exact HR8.out)
  have h023 : k = 0 ∨ k = 2 ∨ k = 3 := by omega
  have HSrc := hid (show Lx.src k (bs s) = bs s by
    unfold Lx.src
    rw [if_neg h1, if_neg h5, if_neg h4, if_pos (by omega)])
  rw [HSrc.out]
  have hr := bW_conv (w.alloc (.cells #[.int .u8 ((k : Nat) : Int), .string s, .int .i64 o] 35)) s
  have HN := hid (bW_nums (w.alloc (.cells #[.int .u8 ((k : Nat) : Int), .string s, .int .i64 o] 35)) s)
  have HG2 := hid (HG.out.trans (bW_grew (w.alloc (.cells #[.int .u8 ((k : Nat) : Int), .string s, .int .i64 o] 35)) s))
  clear HB HSrc h1 h5 h6 h7 h4
  rcases h023 with rfl | rfl | rfl
  all_goals
    first
    | rw [show ((0 : Nat) : Int) = 0 from rfl] at *
    | rw [show ((2 : Nat) : Int) = 2 from rfl] at *
    | rw [show ((3 : Nat) : Int) = 3 from rfl] at *
    go_enter Tryd.func33, Tryd.ntmps33
    go_wp2_with fail
    go_ret
    refine ⟨_, _, by rw [HL.out]; rfl, ?_, HG2.out⟩
    have h := HN.out
    rw [World.size_alloc w] at h
    exact h
end Go.Proofs.YtdfahmppbfjbhaaDoor

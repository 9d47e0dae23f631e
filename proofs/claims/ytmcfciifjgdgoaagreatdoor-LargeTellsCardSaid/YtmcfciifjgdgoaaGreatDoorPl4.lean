/- The developers' large numbers, part 4: a magnitude divided by one word. -/
import Derived.Test.YtmcfciifjgdgoaaGreatDoorPl3
import Derived.Test.YtmcfciifjgdgoaaGreatDoorIter2
import Derived.Test.YtmcfciifjgdgoaaGreatDoorRound
namespace Go.Proofs.YtmcfciifjgdgoaaGreatDoor
open Go.RowKit Go.Shelf
attribute [local go_sem] Oper.semAt_some

theorem wdiv_round {xs L : List Nat} {i r b v : Nat} (hi : i < xs.length) (hl : L.length = xs.length) (hv : v = xs.getD i 0) (h : Dg.val 4294967296 (xs.drop (i + 1)) = Dg.val 4294967296 (L.drop (i + 1)) * b + r) :
    Dg.val 4294967296 (xs.drop i) = Dg.val 4294967296 ((L.set i ((v + 4294967296 * r) / b)).drop i) * b + (v + 4294967296 * r) % b := by
  have hl2 : i < (L.set i ((v + 4294967296 * r) / b)).length := by rw [List.length_set]; omega
  rw [Dg.val_drop 4294967296 hi, Dg.val_drop 4294967296 hl2, h, List.drop_set_of_lt (by omega), ← hv]
  have e : (L.set i ((v + 4294967296 * r) / b)).getD i 0 = (v + 4294967296 * r) / b := by
    simp [List.getD_eq_getElem?_getD, show i < L.length by omega]
  rw [e]
  have e2 := Nat.div_add_mod (v + 4294967296 * r) b
  generalize (v + 4294967296 * r) / b = q at *
  generalize (v + 4294967296 * r) % b = s at *
  generalize Dg.val 4294967296 (L.drop (i + 1)) = z at *
  rw [Nat.add_mul, Nat.mul_comm q b, Nat.mul_assoc]
  omega
def DivInv (xs L : List Nat) (b r : Nat) (pre : List (Nat × Nat)) : Prop :=
  BwCame xs.length (isWord xs) pre → Dg.val 4294967296 (xs.drop (xs.length - pre.length)) = Dg.val 4294967296 (L.drop (xs.length - pre.length)) * b + r
theorem DivInv.step {xs L : List Nat} {b r : Nat} {pre : List (Nat × Nat)} {x : Nat × Nat} (hl : L.length = xs.length) (h : DivInv xs L b r pre) :
    DivInv xs (L.set (xs.length - 1 - x.1) ((wordOf x.2 + 4294967296 * r) / b)) b ((wordOf x.2 + 4294967296 * r) % b) (pre ++ [x]) := by
  intro hc
  obtain ⟨h1, h2, h3, h4, h5⟩ := hc.of_snoc
  have h6 := h h1
  rw [wordOf_eq h4]
  have e : xs.length - (pre ++ [x]).length = xs.length - 1 - x.1 := by simp; omega
  have e2 : xs.length - pre.length = xs.length - 1 - x.1 + 1 := by omega
  rw [e]
  rw [e2] at h6
  exact wdiv_round (by omega) hl h5 h6
/-- What the loop's own memory holds. -/
def DivMem (H n b : Nat) (L : List Nat) (r : Nat) (W : World) : Prop :=
  Blk W H 55 #[.int .u32 ((b : Nat) : Int)] ∧ Blk W (H + 1) 55 (numCells .u32 L).toArray ∧ Blk W (H + 1 + 1) 22 #[.slice (some ⟨H + 1, 0, none⟩) n n] ∧ Blk W (H + 1 + 1 + 1) 55 #[.int .u32 ((r : Nat) : Int)]
/-- What holds between two rounds. -/
def DivI (w : World) (n b : Nat) (xs : List Nat) (pre : List (Nat × Nat)) (W : World) : Prop :=
  (∃ L r, DivMem w.heap.size n b L r W ∧ L.length = n ∧ Dg.Low 4294967296 L ∧ r < b ∧ Hid (DivInv xs L b r pre)) ∧ Below w.heap.size w W
def DivK (Bs n : Nat) (A : Option Addr) (c : Nat) (xs : List Nat) (W W' : World) : Prop := BwRd Bs n A c (isWord xs) W → BwRd Bs n A c (isWord xs) W'

set_option maxRecDepth 100000 in
set_option maxHeartbeats 4000000 in
theorem pdivWord_c (A : Option Addr) (c : Nat) (xs : List Nat) (b : Nat) (w : World) (ha : NumsAt .u32 w w.heap.size A xs) (lx : Dg.Low 4294967296 xs) (hb0 : 0 < b) (hb : b < 4294967296) (hn : xs.length ≤ 100000) :
    Calls Tryz.prog 56 #[.slice A xs.length c, .int .u32 ((b : Nat) : Int)] w fun e w' => ∃ A' c' L r, e = .returned (.tuple #[.slice A' L.length c', .int .u32 ((r : Nat) : Int)]) ∧ OwnNums .u32 w w' 55 A' c' L ∧ Dg.Low 4294967296 L ∧ Dg.Top L ∧ Dg.val 4294967296 L * b + r = Dg.val 4294967296 xs ∧ r < b ∧ Grew w w' := by
  have HA := hid ha
  clear ha
  obtain ⟨n, en⟩ : ∃ n, n = xs.length := ⟨_, rfl⟩
  have EN := hid en
  rw [← en] at hn ⊢
  clear en
  have hmk := make_u32 Tryz.underlying22 Tryz.info_u32 n (by omega)
  refine (callsIn_wide (n := 5)).1 ?_
  refine callsIn_of_wp_marks Tryz.func56 rfl trivial ?_ rfl
  simp only [Tryz.ntmps56, List.size_toArray, List.length_cons, List.length_nil, Nat.reduceAdd, Nat.reduceSub, Array.replicate_succ, Array.replicate_zero, List.push_toArray, List.append_toArray, List.nil_append, List.cons_append]
  gi_wp2_with (refine ⟨trivial, ?_⟩; gi_at_call 62; refine (back_in Fence.wide _ trivial rfl _ _ _ _).mono ?_; rintro e w' ⟨rfl, rfl⟩)
  clear hmk
  obtain ⟨wx, hwx⟩ : ∃ wx, wx = ((((w.alloc (.cells #[.int .u32 ((b : Nat) : Int)] 55)).alloc (.cells (numCells .u32 (List.replicate n 0)).toArray 55)).alloc (.cells #[.slice (some ⟨w.heap.size + 1, 0, none⟩) n n] 22)).alloc (.cells #[.int .u32 0] 55)).alloc (.cells #[.slice A n c] 22) := ⟨_, rfl⟩
  have hM : DivMem w.heap.size n b (List.replicate n 0) 0 wx ∧ Blk wx (w.heap.size + 1 + 1 + 1 + 1) 22 #[.slice A n c] ∧ wx.heap.size = w.heap.size + 1 + 1 + 1 + 1 + 1 ∧ Grew w wx := by
    have b1 := Blk.new w 55 #[.int .u32 ((b : Nat) : Int)]
    have g1 := (Grew.refl w).alloc (.cells #[.int .u32 ((b : Nat) : Int)] 55)
    have s1 : (w.alloc (.cells #[.int .u32 ((b : Nat) : Int)] 55)).heap.size = w.heap.size + 1 := by simp
    generalize w.alloc (.cells #[.int .u32 ((b : Nat) : Int)] 55) = w1 at *
    have b2 := Blk.new w1 55 (numCells .u32 (List.replicate n 0)).toArray
    have g2 := (Grew.refl w1).alloc (.cells (numCells .u32 (List.replicate n 0)).toArray 55)
    have s2 : (w1.alloc (.cells (numCells .u32 (List.replicate n 0)).toArray 55)).heap.size = w1.heap.size + 1 := by simp
    generalize w1.alloc (.cells (numCells .u32 (List.replicate n 0)).toArray 55) = w2 at *
    have b3 := Blk.new w2 22 #[.slice (some ⟨w.heap.size + 1, 0, none⟩) n n]
    have g3 := (Grew.refl w2).alloc (.cells #[.slice (some ⟨w.heap.size + 1, 0, none⟩) n n] 22)
    have s3 : (w2.alloc (.cells #[.slice (some ⟨w.heap.size + 1, 0, none⟩) n n] 22)).heap.size = w2.heap.size + 1 := by simp
    generalize w2.alloc (.cells #[.slice (some ⟨w.heap.size + 1, 0, none⟩) n n] 22) = w3 at *
    have b4 := Blk.new w3 55 #[.int .u32 ((0 : Nat) : Int)]
    have g4 := (Grew.refl w3).alloc (.cells #[.int .u32 ((0 : Nat) : Int)] 55)
    have s4 : (w3.alloc (.cells #[.int .u32 ((0 : Nat) : Int)] 55)).heap.size = w3.heap.size + 1 := by simp
    change wx = (w3.alloc (.cells #[.int .u32 ((0 : Nat) : Int)] 55)).alloc _ at hwx
    generalize w3.alloc (.cells #[.int .u32 ((0 : Nat) : Int)] 55) = w4 at *
    have b5 := Blk.new w4 22 #[.slice A n c]
    have g5 := (Grew.refl w4).alloc (.cells #[.slice A n c] 22)
    have s5 : (w4.alloc (.cells #[.slice A n c] 22)).heap.size = w4.heap.size + 1 := by simp
    rw [← hwx] at b5 g5 s5
    rw [s4, s3, s2, s1] at b5 s5
    rw [s3, s2, s1] at b4
    rw [s2, s1] at b3
    rw [s1] at b2
    exact ⟨⟨(((b1.grew g2).grew g3).grew g4).grew g5, ((b2.grew g3).grew g4).grew g5, (b3.grew g4).grew g5, b4.grew g5⟩, b5, s5, (((g1.trans g2).trans g3).trans g4).trans g5⟩
  rw [← hwx]
  obtain ⟨hM, hS, hsz, hG⟩ := hM
  clear hwx
  have HS := hid hS
  have hGt := hid hG
  have HM := hid hM
  clear hS hM hG
  refine wpIn_rangeFunc_ownG rfl (by omega) (gf := 76) (lb := #[.pointer (some ⟨w.heap.size + 1 + 1 + 1 + 1, 0, none⟩)]) rfl trivial (enters_of Tryz.func76 (by kernel_rfl) rfl)
    (back_stops Fence.wide _ trivial rfl (by omega) (w.heap.size + 1 + 1 + 1 + 1) n c A (isWord xs) hn wx (fun W hW => by
      rw [EN.out]
      exact BwRd.of_nums (by rw [← EN.out, hW.cell (by simp only [hsz]; omega), HS.out.cell]; rfl) (HA.out.grew (hGt.out.trans (Grew.mk hW))) lx)) bw_t (fun W l o o' h1 h2 h3 h4 => bw_b (w := wx) W l o o' h1 h2 h3 h4) (Below.refl _ _) (fun _ => rfl)
    (DivI w n b xs)
    (fun _ _ _ => False)
    (fun s W W' row hs hg hr => by
      obtain ⟨⟨L, r, ⟨m1, m2, m3, m4⟩, h2, h3, h4, h5⟩, hB⟩ := hs
      have hr' := fun r e => (hr r e).2
      exact ⟨⟨L, r, ⟨m1.kept hg hr', m2.kept hg hr', m3.kept hg hr', m4.kept hg hr'⟩, h2, h3, h4, h5⟩, below_kept hB (Nat.le_refl _) (by omega) hg hr⟩)
    (fun _ _ _ _ _ hs _ _ => hs)
    ⟨⟨List.replicate n 0, 0, HM.out, by simp, Dg.low_zeros _ _ (by decide), hb0, hid (fun _ => by simp [EN.out])⟩, hGt.out.below⟩
    ?a1 ?assign ?body ?done ?stop
  case assign =>
    intro l x W K hK
    unfold bwEnc
    gi_wp2
    exact hK
  case body =>
    rintro l pre ⟨x1, x2⟩ W ⟨⟨L, r, ⟨m1, m2, m3, m4⟩, hLn, hLl, hrb, HI⟩, hB⟩ hpn
    have hmx : Tryz.prog.follows .mixedOrders = true := by kernel_rfl
    dsimp only
    have hxn : n - 1 - x1 < n := by omega
    have HI2 := hid (DivInv.step (x := (x1, x2)) (by rw [hLn, EN.out]) HI.out)
    dsimp only at HI2
    rw [← EN.out] at HI2
    have hx2 := wordOf_lt x2
    generalize wordOf x2 = v at *
    generalize n - 1 - x1 = i at *
    have cb := m1.cell 0
    have cq := m2.cell i
    rw [show (numCells .u32 L).toArray[i]? = some (.int .u32 ((L.getD i 0 : Nat) : Int)) by rw [List.getElem?_toArray]; exact numCells_get _ _ _ (by omega)] at cq
    have cp := m3.cell 0
    have cr := m4.cell 0
    have fq := m2.frozen i
    have fr := m4.frozen 0
    simp only [List.getElem?_toArray, List.getElem?_cons_zero] at cb cp cr
    generalize L.getD i 0 = old at *
    have hin : (i : Int) < (n : Int) := by omega
    have CD := fun W' => div32_c r v b W' hrb hb hx2
    have hq4 : (v + 4294967296 * r) / b < 4294967296 := by rw [Nat.div_lt_iff_lt_mul (by omega)]; omega
    have hsb : (v + 4294967296 * r) % b < b := Nat.mod_lt _ (by omega)
    generalize (v + 4294967296 * r) / b = q at *
    generalize (v + 4294967296 * r) % b = s at *
    gi_wp2
    refine region_round hmx (by kernel_rfl) ?_
    repeat (any_goals (first
      | (refine wpAnyIn_done (by decide +kernel) ?_ _)
      | (refine wpAnyIn_take (i := 1) (v := ?_) rfl rfl (by decide +kernel) (by decide +kernel) (by decide +kernel) (fun _ _ _ h => h) ⟨Or.inl ⟨by rfl, (by intro w; go_simp; with_reducible rfl)⟩, fun _ => rfl⟩ ?_)
      | (refine wpAnyIn_take (i := 3) (v := ?_) rfl rfl (by decide +kernel) (by decide +kernel) (by decide +kernel) (fun _ _ _ h => h) ⟨Or.inl ⟨by rfl, (by intro w; go_simp; with_reducible rfl)⟩, fun _ => rfl⟩ ?_)
      | (refine wpAnyIn_take (i := 6) (v := ?_) rfl rfl (by decide +kernel) (by decide +kernel) (by decide +kernel) (fun _ _ _ h => h) ⟨Or.inl ⟨by rfl, (by intro w; go_simp; with_reducible rfl)⟩, fun _ => rfl⟩ ?_)
      | (refine wpAnyIn_take (i := 7) (v := ?_) rfl rfl (by decide +kernel) (by decide +kernel) (by decide +kernel) (fun _ _ _ h => h) ⟨Or.inl ⟨by rfl, (by intro w; go_simp; with_reducible rfl)⟩, fun _ => rfl⟩ ?_)
      | (refine wpAnyIn_take (i := 8) (v := ?_) rfl rfl (by decide +kernel) (by decide +kernel) (by decide +kernel) (fun _ _ _ h => h) ⟨Or.inl ⟨by rfl, (by intro w; go_simp; with_reducible rfl)⟩, fun _ => rfl⟩ ?_)
      | (refine wpAnyIn_take (i := 9) (v := ?_) rfl rfl (by decide +kernel) (by decide +kernel) (by decide +kernel) (fun _ _ _ h => h) ⟨Or.inl ⟨by rfl, (by intro w; go_simp; with_reducible rfl)⟩, fun _ => rfl⟩ ?_)
      | (refine wpAnyIn_ready (rs := [0, 2, 4]) (by decide +kernel) (by simp) (AllReadyIn.cons rfl (fun K hK => ?_) (AllReadyIn.cons rfl (fun K hK => ?_) (AllReadyIn.cons rfl (fun K hK => ?_) AllReadyIn.nil))))
      | (refine wpAnyIn_ready (rs := [2, 4]) (by decide +kernel) (by simp) (AllReadyIn.cons rfl (fun K hK => ?_) (AllReadyIn.cons rfl (fun K hK => ?_) AllReadyIn.nil)))
      | (refine wpAnyIn_ready (rs := [0, 4]) (by decide +kernel) (by simp) (AllReadyIn.cons rfl (fun K hK => ?_) (AllReadyIn.cons rfl (fun K hK => ?_) AllReadyIn.nil)))
      | (refine wpAnyIn_ready (rs := [0, 2]) (by decide +kernel) (by simp) (AllReadyIn.cons rfl (fun K hK => ?_) (AllReadyIn.cons rfl (fun K hK => ?_) AllReadyIn.nil)))
      | (refine wpAnyIn_ready (rs := [4]) (by decide +kernel) (by simp) (AllReadyIn.cons rfl (fun K hK => ?_) AllReadyIn.nil))
      | (refine wpAnyIn_ready (rs := [2]) (by decide +kernel) (by simp) (AllReadyIn.cons rfl (fun K hK => ?_) AllReadyIn.nil))
      | (refine wpAnyIn_ready (rs := [0]) (by decide +kernel) (by simp) (AllReadyIn.cons rfl (fun K hK => ?_) AllReadyIn.nil))
      | (refine wpAnyIn_ready (rs := [5]) (by decide +kernel) (by simp) (AllReadyIn.cons rfl (fun K hK => ?_) AllReadyIn.nil))
      | (refine wpAnyIn_ready (rs := [0, 5]) (by decide +kernel) (by simp) (AllReadyIn.cons rfl (fun K hK => ?_) (AllReadyIn.cons rfl (fun K hK => ?_) AllReadyIn.nil)))
      | (refine wpAnyIn_ready (rs := [10]) (by decide +kernel) (by simp) (AllReadyIn.cons rfl (fun K hK => ?_) AllReadyIn.nil))
      | (refine wpAnyIn_ready (rs := [11]) (by decide +kernel) (by simp) (AllReadyIn.cons rfl (fun K hK => ?_) AllReadyIn.nil))
      | (go_simp; refine hK _ _ ?_; clear hK K)
      | (go_simp; refine ⟨trivial, ?_⟩; gi_at_call 72; ((with_reducible refine (callsIn_wide.2 (CD _)).mono ?_); rintro e w' ⟨rfl, nn, rfl⟩); refine hK _ _ ?_; clear hK K)))
    all_goals
      gi_wp2
      refine ⟨(((KeepsOthers.drewN W _).trans (KeepsOthers.setCell _ _ _)).trans (KeepsOthers.setCell _ _ _)).from _, fun h => ?_, ⟨L.set i q, s, ⟨?_, ?_, ?_, ?_⟩, by rw [List.length_set]; exact hLn, hLl.set hq4 _, hsb, HI2⟩, ?_⟩
      · exact ((h.drewN _).far (by simp <;> omega) (fun h0 ad ea => by obtain ⟨ad', ea', hlt, _⟩ := HA.out (by have := EN.out; omega); rw [ea] at ea'; cases ea'; simp; omega) _).far (by simp <;> omega) (fun h0 ad ea => by obtain ⟨ad', ea', hlt, _⟩ := HA.out (by have := EN.out; omega); rw [ea] at ea'; cases ea'; simp; omega) _
      · exact ((m1.drewN _).far (by simp <;> omega) _).far (by simp <;> omega) _
      · have := ((m2.drewN (1 + nn)).put i (.int .u32 ((q : Nat) : Int))).far (p := ⟨w.heap.size + 1 + 1 + 1, 0, none⟩) (by simp <;> omega) (.int .u32 ((s : Nat) : Int))
        rwa [numCells_setA] at this
      · exact ((m3.drewN _).far (by simp <;> omega) _).far (by simp <;> omega) _
      · exact ((m4.drewN _).far (by simp <;> omega) _).put 0 _
      · exact ((below_drewN hB _).setCell (by simp <;> omega) _).setCell (by simp <;> omega) _
  case done =>
    rintro D pre W hD ⟨hc, hl⟩ ⟨⟨L, r, ⟨m1, m2, m3, m4⟩, hLn, hLl, hrb, HI⟩, hB⟩ hK
    have HE := hid (show Dg.val 4294967296 L * b + r = Dg.val 4294967296 xs by
      have h1 := HI.out (by rw [← EN.out]; exact hc)
      rw [show xs.length - pre.length = 0 by have := EN.out; omega, List.drop_zero, List.drop_zero] at h1
      exact h1.symm)
    have cp := m3.cell 0
    have cr := m4.cell 0
    simp only [List.getElem?_toArray, List.getElem?_cons_zero] at cp cr
    have CT := fun W' (h : NumsAt .u32 W' W'.heap.size (some ⟨w.heap.size + 1, 0, none⟩) L) => ptrim_c (some ⟨w.heap.size + 1, 0, none⟩) n L W' h (by omega) (by omega) (by omega)
    rw [hLn] at CT
    gi_wp2
    refine wpIn_wide.2 ?_
    go_quiet ((go_at_call 57; exact Calls.quiet_of_same (CT _ (NumsAt.of_blk (m2.drewN _)))))
    gi_wp2
    refine ⟨by simp, .inl ⟨_, _, rfl, run_takeDeferred (w := W.drewN nq) hK, ?_⟩⟩
    have hr' : ∀ r, some D = some r → ∃ o : Obj, (W.drewN nq).heap[r]? = some o ∧ o.isCells = false := fun r e => by cases e; exact ⟨_, hK, rfl⟩
    have hO := (OwnNums.of_blk (w0 := w) ((m2.drewN nq).kept (grownBy_putObj' _ D (.deferred none)) hr') (by omega) (by omega)).take (Dg.cut L).length
    rw [← Dg.cut_take, hLn] at hO
    refine ⟨_, results_tmp2 rfl _ _ _, _, _, Dg.cut L, r, rfl, hO, Dg.cut_low hLl, Dg.cut_top L, by rw [Dg.cut_val]; exact HE.out, hrb, Grew.mk ((below_drewN hB nq).trans (belowK_b (w := wx) (by omega) (W.drewN nq) D _ _ hD hK rfl rfl))⟩
  case stop =>
    rintro D c pre W _ _ h _
    exact h.elim
end Go.Proofs.YtmcfciifjgdgoaaGreatDoor

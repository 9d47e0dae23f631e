/- Stage 8: the program's own sets: all, with, without, and. -/
import Derived.Test.YtilikjfjbnabfaaGreatDoorKept2
import Derived.Test.YtilikjfjbnabfaaGreatDoorFlS
import Derived.Test.YtilikjfjbnabfaaGreatDoorProg
import Derived.StillTailTactics
import Derived.IntWalk
import Derived.Laws.BitsAllLaws
import Derived.Deep.MidRow
import Derived.Deep.WholeRow
namespace Go.Proofs.YtilikjfjbnabfaaGreatDoor
open Go.RowKit

theorem set_under : Tryz.prog.underlying 66 = some (.array 9 64) := by kernel_rfl
theorem set_size : (Tryz.prog.info? 66).map (·.size) = some 9 := by kernel_rfl
/-- A set's cells, and it as a value. -/
def setCs (s : List Nat) : Array Value := (numCells .u64 s).toArray
def setVal (s : List Nat) : Value := .agg (setCs s)
theorem setCs_size {s : List Nat} (h : s.length = 9) : (setCs s).size = 9 := by simp [setCs, numCells, h]
theorem setCs_one (s : List Nat) : (setCs s).all (·.oneCell') = true := by
  simp [setCs, numCells, Value.oneCell']
theorem setCs_at (s : List Nat) (i : Nat) (hi : i < s.length) : (setCs s)[i]? = some (.int .u64 ((s.getD i 0 : Nat) : Int)) := by
  unfold setCs
  rw [List.getElem?_toArray]
  exact numCells_get _ _ _ hi
theorem setCs_set (s : List Nat) (i x : Nat) : (setCs s).setIfInBounds i (.int .u64 ((x : Nat) : Int)) = setCs (s.set i x) := by
  simp [setCs, numCells, List.map_set]
/-- A whole set out of its block, and into it. -/
theorem wpList_loadS {ops : Array Oper} {rest : List Oper} {o : Oper} {a : Act} {w : World} {Q : Exit → Act → World → Prop} (x : Operand) (ho : o.op = .load 66 x) (hgd : o.guard = none) (g : Nat) (s : List Nat) (hx : a.eval x = .pointer (some ⟨g, 0, none⟩)) (hl : s.length = 9) (h : Blk w g 66 (setCs s))
    (hk : wpList Tryz.prog ops Q rest (a.put o.dst (setVal s)) w) : wpList Tryz.prog ops Q (o :: rest) a w :=
  wpList_load_row hgd 66 x ho g hx _ (setCs s) (0, 0) _ h set_under rfl (by rw [setCs_size hl]; exact set_size) hk
theorem wpList_storeS {ops : Array Oper} {rest : List Oper} {o : Oper} {a : Act} {w : World} {Q : Exit → Act → World → Prop} (x y : Operand) (ho : o.op = .store 66 x y) (hgd : o.guard = none) (g : Nat) (s t : List Nat) (hx : a.eval x = .pointer (some ⟨g, 0, none⟩)) (hy : a.eval y = setVal t) (hl : s.length = 9) (ht : t.length = 9) (h : Blk w g 66 (setCs s))
    (hk : wpList Tryz.prog ops Q rest (a.put o.dst undef) (w.setRow g (setCs t))) : wpList Tryz.prog ops Q (o :: rest) a w := by
  refine wpList_plain hgd fun K hK => ?_
  unfold Oper.wp execOp
  simp only [ho, hx, hy, setVal, Instr.storeAt, Instr.sureAddr, Sem.run_bind, Sem.run_pure, Result.andThen_ok, run_storeVar_row w g 66 66 (setCs s) (setCs t) h (by rw [setCs_size ht]; exact set_size) (by rw [setCs_size hl, setCs_size ht]) (setCs_one t)]
  exact hK _ _ hk
theorem Blk.setRow {w : World} {g : Nat} {t : TypeId} {cs : Array Value} (h : Blk w g t cs) (ds : Array Value) : Blk (w.setRow g ds) g t ds := by
  unfold Blk at h ⊢
  simp [World.setRow, Array.getElem?_modify, h]
theorem Grew.setRow {a b : World} (h : Grew a b) {g : Nat} (hg : a.heap.size ≤ g) (ds : Array Value) : Grew a (b.setRow g ds) :=
  .mk ⟨h.below.os, h.below.tape, h.below.output, by simpa [World.setRow] using h.below.size, fun k hk => by
    have hne : g ≠ k := by omega
    simp only [World.setRow, Array.getElem?_modify, if_neg hne]
    exact h.below.block k hk⟩
theorem res_set {fn : Func} {a : Tmp} (hr : fn.results = #[ResultVar.cell a 66]) (tmps : Array Value) (g : Nat) (ha : tmps.getD a undef = .pointer (some ⟨g, 0, none⟩)) (w : World) {s : List Nat} (hl : s.length = 9) (hb : Blk w g 66 (setCs s)) :
    (results fn tmps).run Tryz.prog w = .ok (setVal s) w :=
  results_cell_row hr tmps w g _ _ (0, 0) _ ha hb set_under rfl (by rw [setCs_size hl]; exact set_size)
def zeroCs : Array Value := #[.int .u64 0, .int .u64 0, .int .u64 0, .int .u64 0, .int .u64 0, .int .u64 0, .int .u64 0, .int .u64 0, .int .u64 0]
theorem zeroCs_eq : zeroCs = setCs Fl.zero := rfl
/-- Two sets that the call has made. -/
theorem two_sets (w : World) (s t : List Nat) : ∃ w', (w.alloc (.cells (setCs s) 66)).alloc (.cells (setCs t) 66) = w' ∧ Blk w' w.heap.size 66 (setCs s) ∧ Blk w' (w.heap.size + 1) 66 (setCs t) ∧ Grew w w' ∧ w'.heap.size = w.heap.size + 2 := by
  refine ⟨_, rfl, ?_, ?_, ((Grew.refl w).alloc _).alloc _, by simp⟩
  · exact (Blk.new w _ _).grew ((Grew.refl _).alloc _)
  · have := Blk.new (w.alloc (.cells (setCs s) 66)) 66 (setCs t)
    rwa [World.size_alloc] at this
theorem fill_eq {L : List Nat} (h1 : L.length = 9) (h2 : ∀ j, j < 9 → L.getD j 0 = Fl.M64) : L = Fl.full := by
  apply List.ext_getElem (h1.trans rfl)
  intro j k1 k2
  have := h2 j (by omega)
  rw [List.getD_eq_getElem?_getD, List.getElem?_eq_getElem k1] at this
  rw [show L[j] = Fl.M64 from this]
  have : ∀ j (h : j < 9), Fl.full[j]'h = Fl.M64 := by decide
  exact (this j (by omega)).symm
set_option maxRecDepth 100000 in
set_option maxHeartbeats 2000000 in
theorem all_c (w : World) : Calls Tryz.prog 49 #[] w (fun e w' => e = .returned (setVal Fl.full) ∧ Grew w w') := by
  obtain ⟨wb, hwb, hb0, hb1, hgb, hsz⟩ := two_sets w Fl.zero Fl.zero
  have HB0 := hid hb0
  have HB1 := hid hb1
  have HGB := hid hgb
  have HSZ := hid hsz
  have HW := hid hwb
  clear hb0 hb1 hgb hsz hwb
  go_enter Tryz.func49, Tryz.ntmps49
  go_wp2_with fail
  have HW' := HW.out
  rw [← zeroCs_eq] at HW'
  unfold zeroCs at HW'
  rw [HW']
  clear HW HW'
  go_loopw [3] (fun s3 wr => ∃ (i : Nat) (L : List Nat), s3 = .int .i64 ((i : Nat) : Int) ∧ i ≤ 9 ∧ Hid (L.length = 9 ∧ (∀ j, j < i → L.getD j 0 = Fl.M64) ∧ Blk wr (w.heap.size + 1) 66 (setCs L) ∧ Blk wr w.heap.size 66 (setCs Fl.zero)) ∧ Hid (Grew w wr)) (fun s3 _ => 9 - (intOf s3).toNat)
  case atStart => exact ⟨0, Fl.zero, rfl, by omega, hid ⟨rfl, fun j h => by omega, HB1.out, HB0.out⟩, HGB⟩
  case round =>
    clear HB0 HB1 HGB HSZ
    obtain ⟨i, L, rfl, hi, HI, HG⟩ := hrel
    by_cases hlt : i < 9
    · have f1 : (i : Int) < 9 := by omega
      have q0 := HI.out.2.2.1.cell i
      rw [setCs_at L i (by rw [HI.out.1]; exact hlt)] at q0
      have q1 := HI.out.2.2.1.frozen i
      generalize L.getD i 0 = x at *
      go_wp2_with fail
      go_round
      case rel =>
        refine ⟨i + 1, L.set i Fl.M64, by go_num, by omega, hid ⟨by rw [List.length_set]; exact HI.out.1, fun j hj => ?_, ?_, ?_⟩, hid (HG.out.setCell (by simp) _)⟩
        · rw [Fl.getD_set]
          split
          · rfl
          · rename_i h
            exact HI.out.2.1 j (by have := HI.out.1; omega)
        · have := HI.out.2.2.1.put i (.int .u64 ((Fl.M64 : Nat) : Int))
          rw [setCs_set] at this
          exact this
        · exact HI.out.2.2.2.far (by simp) _
      case measure => simp [intOf]; omega
    · obtain rfl : i = 9 := by omega
      have hL := fill_eq HI.out.1 HI.out.2.1
      have HB1 := hid (hL ▸ HI.out.2.2.1)
      have HZ := hid HI.out.2.2.2
      have HB0 := hid (HI.out.2.2.2.setRow (setCs Fl.full))
      have HG' := hid (HG.out.setRow (g := w.heap.size) (Nat.le_refl _) (setCs Fl.full))
      clear hL HI HG
      go_wp2_with (first | (refine wpList_loadS _ rfl rfl (w.heap.size + 1) Fl.full rfl rfl HB1.out ?_) | (refine wpList_storeS _ _ rfl rfl w.heap.size Fl.zero Fl.full rfl rfl rfl rfl HZ.out ?_))
      refine bodyPost_ret (v := setVal Fl.full) ?_ rfl ?_
      · exact res_set Tryz.results49 _ w.heap.size rfl _ rfl HB0.out
      · exact ⟨rfl, HG'.out⟩
set_option maxRecDepth 100000 in
set_option maxHeartbeats 2000000 in
theorem with_c (s : List Nat) (i : Nat) (w : World) (hs : Fl.Ok s) (hi : i < 576) : Calls Tryz.prog 52 #[setVal s, .int .i64 (i : Nat)] w (fun e w' => e = .returned (setVal (Fl.put s i)) ∧ Grew w w') := by
  obtain ⟨wb, hwb, hb0, hb1, hgb, hsz⟩ := two_sets w s Fl.zero
  have HB0 := hid hb0
  have HB1 := hid hb1
  have HGB := hid hgb
  have HSZ := hid hsz
  have HW := hid hwb
  clear hb0 hb1 hgb hsz hwb
  obtain ⟨k, hk⟩ : ∃ k, k = i / 64 := ⟨_, rfl⟩
  have hbit := Fl.bit_lt i
  obtain ⟨b, hb⟩ : ∃ b, b = i % 64 := ⟨_, rfl⟩
  have hk9 : k < 9 := by omega
  have hb64 : b < 64 := by omega
  have hx := hs.at k
  have q0 := HB0.out.cell k
  rw [setCs_at s k (by rw [hs.1]; exact hk9)] at q0
  have q1 := HB0.out.frozen k
  obtain ⟨y, hy⟩ : ∃ y, y = Fl.bit i := ⟨_, rfl⟩
  rw [← hy] at hbit
  have hy2 : ((2 : Int) ^ b) = (y : Int) := by rw [hy, hb]; unfold Fl.bit; push_cast; rfl
  have HP : Hid (Fl.put s i = s.set k (s.getD k 0 ||| y)) := hid (by unfold Fl.put; rw [hk, hy])
  have HL := hid hs.1
  have e1 : (i : Int) / 64 = k := by omega
  have e2 : (i : Int).tmod 64 = b := by rw [Int.tmod_eq_emod_of_nonneg (by omega)]; omega
  have f0 : (0 : Int) ≤ i := by omega
  have f1 : (k : Int) < 9 := by omega
  have f2 : (b : Int) < 64 := by omega
  clear hk hb hs hy
  generalize s.getD k 0 = x at *
  show Calls _ _ #[.agg (setCs s), .int .i64 (i : Nat)] w _
  go_enter Tryz.func52, Tryz.ntmps52
  go_wp2_with fail
  have HW' := HW.out
  rw [← zeroCs_eq] at HW'
  unfold zeroCs at HW'
  rw [HW']
  clear HW HW'
  have e3 : IntKind.i64.wrap (k : Int) = k := IntWalk.i64_in _ (by omega)
  have e4 : IntKind.i64.wrap (b : Int) = b := IntWalk.i64_in _ (by omega)
  have e5 : IntKind.u64.wrap (2 ^ b) = (y : Int) := by rw [hy2, IntKind.wrap_u64]; omega
  have e6 := u64_or_nat x y hx hbit
  generalize x ||| y = z at *
  clear hy2 hx hbit
  go_still_tail 9, (by kernel_rfl)
  change wpList _ _ _ _ _ wb.drew
  clear e1 e2 e3 e4 e5 e6
  have HB0' := hid ((HB0.out.drew).put k (.int .u64 (z : Nat)))
  rw [setCs_set, ← HP.out] at HB0'
  have HB1' := hid ((HB1.out.drew).far (p := ⟨w.heap.size, k, none⟩) (by simp) (.int .u64 (z : Nat)))
  have HL' := hid (show (Fl.put s i).length = 9 by rw [HP.out, List.length_set]; exact HL.out)
  have HG' := hid (((HGB.out.drew).setCell (p := ⟨w.heap.size, k, none⟩) (by simp) (.int .u64 (z : Nat))).setRow (g := w.heap.size + 1) (by omega) (setCs (Fl.put s i)))
  have HB2 := hid (HB1'.out.setRow (setCs (Fl.put s i)))
  clear HP HL HGB
  go_wp2_with (first | (refine wpList_loadS _ rfl rfl w.heap.size (Fl.put s i) rfl HL'.out HB0'.out ?_) | (refine wpList_storeS _ _ rfl rfl (w.heap.size + 1) Fl.zero (Fl.put s i) rfl rfl rfl HL'.out HB1'.out ?_))
  refine bodyPost_ret (v := setVal (Fl.put s i)) ?_ rfl ?_
  · exact res_set Tryz.results52 _ (w.heap.size + 1) rfl _ HL'.out HB2.out
  · exact ⟨rfl, HG'.out⟩
set_option maxRecDepth 100000 in
set_option maxHeartbeats 2000000 in
theorem without_c (s : List Nat) (i : Nat) (w : World) (hs : Fl.Ok s) (hi : i < 576) : Calls Tryz.prog 26 #[setVal s, .int .i64 (i : Nat)] w (fun e w' => e = .returned (setVal (Fl.rem s i)) ∧ Grew w w') := by
  obtain ⟨wb, hwb, hb0, hb1, hgb, hsz⟩ := two_sets w s Fl.zero
  have HB0 := hid hb0
  have HB1 := hid hb1
  have HGB := hid hgb
  have HSZ := hid hsz
  have HW := hid hwb
  clear hb0 hb1 hgb hsz hwb
  obtain ⟨k, hk⟩ : ∃ k, k = i / 64 := ⟨_, rfl⟩
  have hbit := Fl.bit_lt i
  obtain ⟨b, hb⟩ : ∃ b, b = i % 64 := ⟨_, rfl⟩
  have hk9 : k < 9 := by omega
  have hb64 : b < 64 := by omega
  have hx := hs.at k
  have q0 := HB0.out.cell k
  rw [setCs_at s k (by rw [hs.1]; exact hk9)] at q0
  have q1 := HB0.out.frozen k
  obtain ⟨y, hy⟩ : ∃ y, y = Fl.bit i := ⟨_, rfl⟩
  rw [← hy] at hbit
  have hy2 : ((2 : Int) ^ b) = (y : Int) := by rw [hy, hb]; unfold Fl.bit; push_cast; rfl
  have HP : Hid (Fl.rem s i = s.set k (s.getD k 0 &&& (Fl.M64 - y))) := hid (by unfold Fl.rem; rw [hk, hy])
  have HL := hid hs.1
  have e1 : (i : Int) / 64 = k := by omega
  have e2 : (i : Int).tmod 64 = b := by rw [Int.tmod_eq_emod_of_nonneg (by omega)]; omega
  have f0 : (0 : Int) ≤ i := by omega
  have f1 : (k : Int) < 9 := by omega
  have f2 : (b : Int) < 64 := by omega
  clear hk hb hs hy
  generalize s.getD k 0 = x at *
  show Calls _ _ #[.agg (setCs s), .int .i64 (i : Nat)] w _
  go_enter Tryz.func26, Tryz.ntmps26
  go_wp2_with fail
  have HW' := HW.out
  rw [← zeroCs_eq] at HW'
  unfold zeroCs at HW'
  rw [HW']
  clear HW HW'
  have e3 : IntKind.i64.wrap (k : Int) = k := IntWalk.i64_in _ (by omega)
  have e4 : IntKind.i64.wrap (b : Int) = b := IntWalk.i64_in _ (by omega)
  have e5 : IntKind.u64.wrap (2 ^ b) = (y : Int) := by rw [hy2, IntKind.wrap_u64]; omega
  have e6 := u64_andNot_nat x y hx hbit
  rw [show (18446744073709551615 : Nat) = Fl.M64 from rfl] at e6
  generalize x &&& (Fl.M64 - y) = z at *
  clear hy2 hx hbit
  go_still_tail 9, (by kernel_rfl)
  change wpList _ _ _ _ _ wb.drew
  clear e1 e2 e3 e4 e5 e6
  have HB0' := hid ((HB0.out.drew).put k (.int .u64 (z : Nat)))
  rw [setCs_set, ← HP.out] at HB0'
  have HB1' := hid ((HB1.out.drew).far (p := ⟨w.heap.size, k, none⟩) (by simp) (.int .u64 (z : Nat)))
  have HL' := hid (show (Fl.rem s i).length = 9 by rw [HP.out, List.length_set]; exact HL.out)
  have HG' := hid (((HGB.out.drew).setCell (p := ⟨w.heap.size, k, none⟩) (by simp) (.int .u64 (z : Nat))).setRow (g := w.heap.size + 1) (by omega) (setCs (Fl.rem s i)))
  have HB2 := hid (HB1'.out.setRow (setCs (Fl.rem s i)))
  clear HP HL HGB
  go_wp2_with (first | (refine wpList_loadS _ rfl rfl w.heap.size (Fl.rem s i) rfl HL'.out HB0'.out ?_) | (refine wpList_storeS _ _ rfl rfl (w.heap.size + 1) Fl.zero (Fl.rem s i) rfl rfl rfl HL'.out HB1'.out ?_))
  refine bodyPost_ret (v := setVal (Fl.rem s i)) ?_ rfl ?_
  · exact res_set Tryz.results26 _ (w.heap.size + 1) rfl _ HL'.out HB2.out
  · exact ⟨rfl, HG'.out⟩
/-- Three sets that the call has made. -/
theorem three_sets (w : World) (s t u : List Nat) : ∃ w', ((w.alloc (.cells (setCs s) 66)).alloc (.cells (setCs t) 66)).alloc (.cells (setCs u) 66) = w' ∧ Blk w' w.heap.size 66 (setCs s) ∧ Blk w' (w.heap.size + 1) 66 (setCs t) ∧ Blk w' (w.heap.size + 1 + 1) 66 (setCs u) ∧ Grew w w' := by
  refine ⟨_, rfl, ?_, ?_, ?_, (((Grew.refl w).alloc _).alloc _).alloc _⟩
  · exact ((Blk.new w _ _).grew ((Grew.refl _).alloc _)).grew ((Grew.refl _).alloc _)
  · have := (Blk.new (w.alloc (.cells (setCs s) 66)) 66 (setCs t)).grew ((Grew.refl _).alloc (.cells (setCs u) 66))
    rwa [World.size_alloc] at this
  · have := Blk.new ((w.alloc (.cells (setCs s) 66)).alloc (.cells (setCs t) 66)) 66 (setCs u)
    rwa [World.size_alloc, World.size_alloc] at this
theorem meet_eq {s t L : List Nat} (hs : s.length = 9) (ht : t.length = 9) (h1 : L.length = 9) (h2 : ∀ j, j < 9 → L.getD j 0 = s.getD j 0 &&& t.getD j 0) : L = Fl.meet s t := by
  unfold Fl.meet
  apply List.ext_getElem (by rw [List.length_zipWith]; omega)
  intro j k1 k2
  have := h2 j (by omega)
  simp only [List.getD_eq_getElem?_getD, List.getElem?_eq_getElem k1, List.getElem?_eq_getElem (show j < s.length by omega), List.getElem?_eq_getElem (show j < t.length by omega), Option.getD_some] at this
  rw [List.getElem_zipWith]
  exact this
set_option maxRecDepth 100000 in
set_option maxHeartbeats 2000000 in
theorem and_c (s t : List Nat) (w : World) (hs : Fl.Ok s) (ht : Fl.Ok t) : Calls Tryz.prog 67 #[setVal s, setVal t] w (fun e w' => e = .returned (setVal (Fl.meet s t)) ∧ Grew w w') := by
  obtain ⟨wb, hwb, hb0, hb1, hb2, hgb⟩ := three_sets w s t Fl.zero
  have HB0 := hid hb0
  have HB1 := hid hb1
  have HB2 := hid hb2
  have HGB := hid hgb
  have HW := hid hwb
  have HS := hid hs
  have HT := hid ht
  clear hb0 hb1 hb2 hgb hwb hs ht
  show Calls _ _ #[.agg (setCs s), .agg (setCs t)] w _
  go_enter Tryz.func67, Tryz.ntmps67
  go_wp2_with fail
  have HW' := HW.out
  rw [← zeroCs_eq] at HW'
  unfold zeroCs at HW'
  rw [HW']
  clear HW HW'
  go_loopw [6] (fun s6 wr => ∃ (i : Nat) (L : List Nat), s6 = .int .i64 ((i : Nat) : Int) ∧ i ≤ 9 ∧ Hid (L.length = 9 ∧ (∀ j, L.getD j 0 = if j < i then s.getD j 0 &&& t.getD j 0 else s.getD j 0) ∧ Blk wr w.heap.size 66 (setCs L) ∧ Blk wr (w.heap.size + 1) 66 (setCs t) ∧ Blk wr (w.heap.size + 1 + 1) 66 (setCs Fl.zero)) ∧ Hid (Grew w wr)) (fun s6 _ => 9 - (intOf s6).toNat)
  case atStart => exact ⟨0, s, rfl, by omega, hid ⟨HS.out.1, fun j => by simp, HB0.out, HB1.out, HB2.out⟩, HGB⟩
  case round =>
    clear HB0 HB1 HB2 HGB
    obtain ⟨i, L, rfl, hi, HI, HG⟩ := hrel
    by_cases hlt : i < 9
    · have f1 : (i : Int) < 9 := by omega
      have q0 := HI.out.2.2.1.cell i
      rw [setCs_at L i (by rw [HI.out.1]; exact hlt)] at q0
      have q1 := HI.out.2.2.1.frozen i
      have q2 := HI.out.2.2.2.1.cell i
      rw [setCs_at t i (by rw [HT.out.1]; exact hlt)] at q2
      have hx : L.getD i 0 < 18446744073709551616 := by rw [HI.out.2.1 i, if_neg (Nat.lt_irrefl _)]; exact HS.out.at i
      have hy := HT.out.at i
      have e6 := u64_and_nat _ _ hx hy
      have HZ : Hid (∀ k, k = i → L.getD i 0 &&& t.getD i 0 = s.getD k 0 &&& t.getD k 0) := hid (by rintro k rfl; rw [HI.out.2.1 k, if_neg (Nat.lt_irrefl _)])
      generalize L.getD i 0 &&& t.getD i 0 = z at *
      generalize L.getD i 0 = x at *
      generalize t.getD i 0 = y at *
      clear hx hy
      go_wp2_with fail
      go_still_tail 8, (by kernel_rfl)
      change wpList _ _ _ _ _ wr.drew
      go_wp2_with fail
      go_round
      case rel =>
        refine ⟨i + 1, L.set i z, by go_num, by omega, hid ⟨by rw [List.length_set]; exact HI.out.1, fun j => ?_, ?_, ?_, ?_⟩, hid (HG.out.drew.setCell (by simp) _)⟩
        · rw [Fl.getD_set]
          have hL := HI.out.1
          by_cases h : i = j
          · subst h
            rw [if_pos ⟨rfl, by omega⟩, if_pos (by omega)]; exact HZ.out i rfl
          · rw [if_neg (fun h' => h h'.1), HI.out.2.1 j]
            by_cases h2 : j < i
            · rw [if_pos h2, if_pos (by omega)]
            · rw [if_neg h2, if_neg (by omega)]
        · have := HI.out.2.2.1.drew.put i (.int .u64 ((z : Nat) : Int))
          rw [setCs_set] at this
          exact this
        · exact HI.out.2.2.2.1.drew.far (by simp) _
        · exact HI.out.2.2.2.2.drew.far (by simp <;> omega) _
      case measure => simp [intOf]; omega
    · obtain rfl : i = 9 := by omega
      have hL := meet_eq HS.out.1 HT.out.1 HI.out.1 (fun j hj => by rw [HI.out.2.1 j, if_pos hj])
      have HB1 := hid (hL ▸ HI.out.2.2.1)
      have HZ := hid HI.out.2.2.2.2
      have HL' := hid (Fl.meet_ok HS.out HT.out).1
      have HB0 := hid (HI.out.2.2.2.2.setRow (setCs (Fl.meet s t)))
      have HG' := hid (HG.out.setRow (g := w.heap.size + 1 + 1) (by omega) (setCs (Fl.meet s t)))
      clear hL HI HG
      go_wp2_with (first | (refine wpList_loadS _ rfl rfl w.heap.size (Fl.meet s t) rfl HL'.out HB1.out ?_) | (refine wpList_storeS _ _ rfl rfl (w.heap.size + 1 + 1) Fl.zero (Fl.meet s t) rfl rfl rfl HL'.out HZ.out ?_))
      refine bodyPost_ret (v := setVal (Fl.meet s t)) ?_ rfl ?_
      · exact res_set Tryz.results67 _ (w.heap.size + 1 + 1) rfl _ HL'.out HB0.out
      · exact ⟨rfl, HG'.out⟩
end Go.Proofs.YtilikjfjbnabfaaGreatDoor

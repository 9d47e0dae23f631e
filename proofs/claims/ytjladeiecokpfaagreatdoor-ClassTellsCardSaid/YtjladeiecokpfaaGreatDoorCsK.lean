/- Stage 10: First. -/
import Derived.Test.YtjladeiecokpfaaGreatDoorCsJ
namespace Go.Proofs.YtjladeiecokpfaaGreatDoor
open Go.RowKit

def firstB : List ByteArray := [⟨#[79, 98, 106, 101, 99, 116]⟩, ⟨#[73, 110, 116, 101, 103, 101, 114]⟩, ⟨#[76, 97, 114, 103, 101, 73, 110, 116, 101, 103, 101, 114]⟩, ⟨#[85, 110, 100, 101, 102, 105, 110, 101, 100]⟩, ⟨#[66, 111, 111, 108, 101, 97, 110]⟩, ⟨#[83, 116, 114, 105, 110, 103]⟩, ⟨#[65, 114, 114, 97, 121]⟩, ⟨#[66, 108, 111, 99, 107]⟩, ⟨#[69, 110, 118]⟩, ⟨#[67, 108, 97, 115, 115]⟩, ⟨#[83, 101, 109, 97, 112, 104, 111, 114, 101]⟩]
def zeroC : List Value := [.string ⟨#[]⟩, .int .i64 0, .slice none 0 0, .slice none 0 0]
def nameC (k : Nat) : List Value := [.string (firstB.getD k ⟨#[]⟩), .int .i64 0, .slice none 0 0, .slice none 0 0]
/-- The cells behind i rounds. -/
def firstC (i : Nat) : List Value := (List.range 11).flatMap fun k => if k < i then nameC k else zeroC
/-- The built-in classes. -/
def firstL : List Cs.Cls := (List.range 11).map fun k => ⟨firstB.getD k ⟨#[]⟩, if k = 0 then -1 else 0, [], []⟩
def firstV : List CV := firstL.map fun x => ⟨x, none, 0, none, 0⟩
theorem class_info : (Tryz.prog.info? 60).map (fun i => (i.zero, i.size, i.bytes)) = some (some (.agg #[.string ⟨#[]⟩, .int .i64 0, .slice none 0 0, .slice none 0 0]), 4, 72) := by kernel_rfl
/-- What 'First' answers. -/
def FirstPost (w : World) (e : Ending) (w' : World) : Prop := ∃ g, e = .returned (.slice (some ⟨g, 0, none⟩) 11 11) ∧ Blk w' g 60 ((firstC 11).set 1 (.int .i64 (-1))).toArray ∧ w.heap.size ≤ g ∧ Grew w w'
theorem made_first : madeCells (Value.agg #[.string ⟨#[]⟩, .int .i64 0, .slice none 0 0, .slice none 0 0]).cells 44 = (firstC 0).toArray := by kernel_rfl
theorem make_first (W : World) : (Instr.makeSlice 28 (.int .i64 11) (.int .i64 11)).run Tryz.prog W = .ok (.slice (some ⟨W.heap.size, 0, none⟩) 11 11) (W.alloc (.cells (firstC 0).toArray 60)) := by
  obtain ⟨i, hi, hz0, hz1, hz2⟩ := info_parts class_info
  have hr := run_make (P := Tryz.prog) W 28 60 i _ Tryz.underlying28 hi hz0 .i64 .i64 11 11 (by omega) (by omega) (by rw [hz2]; omega) (by omega)
  rw [hr, ← made_first, show (11 : Int).toNat * i.size = 44 by rw [hz1]; rfl]
  rfl
def namesV : Value := .agg #[Value.string ⟨#[79, 98, 106, 101, 99, 116]⟩, Value.string ⟨#[73, 110, 116, 101, 103, 101, 114]⟩, Value.string ⟨#[76, 97, 114, 103, 101, 73, 110, 116, 101, 103, 101, 114]⟩, Value.string ⟨#[85, 110, 100, 101, 102, 105, 110, 101, 100]⟩, Value.string ⟨#[66, 111, 111, 108, 101, 97, 110]⟩, Value.string ⟨#[83, 116, 114, 105, 110, 103]⟩, Value.string ⟨#[65, 114, 114, 97, 121]⟩, Value.string ⟨#[66, 108, 111, 99, 107]⟩, Value.string ⟨#[69, 110, 118]⟩, Value.string ⟨#[67, 108, 97, 115, 115]⟩, Value.string ⟨#[83, 101, 109, 97, 112, 104, 111, 114, 101]⟩]
theorem index_first : (∀ W, (Instr.index 98 namesV (.int .i64 0)).run Tryz.prog W = .ok (.string ⟨#[79, 98, 106, 101, 99, 116]⟩) W) ∧ (∀ W, (Instr.index 98 namesV (.int .i64 1)).run Tryz.prog W = .ok (.string ⟨#[73, 110, 116, 101, 103, 101, 114]⟩) W) ∧ (∀ W, (Instr.index 98 namesV (.int .i64 2)).run Tryz.prog W = .ok (.string ⟨#[76, 97, 114, 103, 101, 73, 110, 116, 101, 103, 101, 114]⟩) W) ∧ (∀ W, (Instr.index 98 namesV (.int .i64 3)).run Tryz.prog W = .ok (.string ⟨#[85, 110, 100, 101, 102, 105, 110, 101, 100]⟩) W) ∧ (∀ W, (Instr.index 98 namesV (.int .i64 4)).run Tryz.prog W = .ok (.string ⟨#[66, 111, 111, 108, 101, 97, 110]⟩) W) ∧ (∀ W, (Instr.index 98 namesV (.int .i64 5)).run Tryz.prog W = .ok (.string ⟨#[83, 116, 114, 105, 110, 103]⟩) W) ∧ (∀ W, (Instr.index 98 namesV (.int .i64 6)).run Tryz.prog W = .ok (.string ⟨#[65, 114, 114, 97, 121]⟩) W) ∧ (∀ W, (Instr.index 98 namesV (.int .i64 7)).run Tryz.prog W = .ok (.string ⟨#[66, 108, 111, 99, 107]⟩) W) ∧ (∀ W, (Instr.index 98 namesV (.int .i64 8)).run Tryz.prog W = .ok (.string ⟨#[69, 110, 118]⟩) W) ∧ (∀ W, (Instr.index 98 namesV (.int .i64 9)).run Tryz.prog W = .ok (.string ⟨#[67, 108, 97, 115, 115]⟩) W) ∧ (∀ W, (Instr.index 98 namesV (.int .i64 10)).run Tryz.prog W = .ok (.string ⟨#[83, 101, 109, 97, 112, 104, 111, 114, 101]⟩) W) := by
  refine ⟨?_, ?_, ?_, ?_, ?_, ?_, ?_, ?_, ?_, ?_, ?_⟩ <;> (intro W; kernel_rfl)
set_option maxRecDepth 100000 in
set_option maxHeartbeats 8000000 in
theorem first_c (w : World) : Calls Tryz.prog 28 #[] w (FirstPost w) := by
  have hmk := make_first
  go_enter Tryz.func28, Tryz.ntmps28
  go_upto_region 4 with fail
  clear hmk
  generalize hw1 : w.alloc (Obj.cells _ _) = w1
  have s1 : w1.heap.size = w.heap.size + 1 := by rw [← hw1]; simp
  have hB := Blk.new w1 60 (firstC 0).toArray
  have hG : Grew w (w1.alloc (.cells (firstC 0).toArray 60)) := by rw [← hw1]; exact ((Grew.refl w).alloc _).alloc _
  rw [s1] at hB
  have HB := hid hB
  have HG := hid hG
  clear hB hG s1 hw1
  generalize w1.alloc (.cells (firstC 0).toArray 60) = w2 at *
  have HI := index_first
  unfold namesV at HI
  generalize Value.agg #[Value.string ⟨#[79, 98, 106, 101, 99, 116]⟩, Value.string ⟨#[73, 110, 116, 101, 103, 101, 114]⟩, Value.string ⟨#[76, 97, 114, 103, 101, 73, 110, 116, 101, 103, 101, 114]⟩, Value.string ⟨#[85, 110, 100, 101, 102, 105, 110, 101, 100]⟩, Value.string ⟨#[66, 111, 111, 108, 101, 97, 110]⟩, Value.string ⟨#[83, 116, 114, 105, 110, 103]⟩, Value.string ⟨#[65, 114, 114, 97, 121]⟩, Value.string ⟨#[66, 108, 111, 99, 107]⟩, Value.string ⟨#[69, 110, 118]⟩, Value.string ⟨#[67, 108, 97, 115, 115]⟩, Value.string ⟨#[83, 101, 109, 97, 112, 104, 111, 114, 101]⟩] = V at *
  replace HI := hid HI
  go_loopw [3, 4, 8] (fun _ _ s8 wr => ∃ (i : Nat) (z : Int), s8 = .int .i64 z ∧ z = ((i : Nat) : Int) ∧ i ≤ 11 ∧ Hid (Blk wr (w.heap.size + 1) 60 (firstC i).toArray) ∧ Hid (Grew w wr)) (fun _ _ s8 _ => 11 - (intOf s8).toNat)
  case atStart => exact ⟨0, 0, rfl, rfl, Nat.zero_le _, HB, HG⟩
  case round =>
    clear HB HG
    obtain ⟨i, z, rfl, hz, hi, HB, HG⟩ := hrel
    by_cases hlt : i < 11
    · rcases (show i = 0 ∨ i = 1 ∨ i = 2 ∨ i = 3 ∨ i = 4 ∨ i = 5 ∨ i = 6 ∨ i = 7 ∨ i = 8 ∨ i = 9 ∨ i = 10 by omega) with rfl | rfl | rfl | rfl | rfl | rfl | rfl | rfl | rfl | rfl | rfl
      · obtain rfl : z = 0 := by omega
        clear hz
        have q0 := HB.out.cell 0
        have k0 := HB.out.frozen 0
        rw [show (firstC 0).toArray[0]? = some (.string ⟨#[]⟩) from by kernel_rfl] at q0
        have q1 := HB.out.cell 1
        have k1 := HB.out.frozen 1
        rw [show (firstC 0).toArray[1]? = some (.int .i64 0) from by kernel_rfl] at q1
        have q2 := HB.out.cell 2
        have k2 := HB.out.frozen 2
        rw [show (firstC 0).toArray[2]? = some (.slice none 0 0) from by kernel_rfl] at q2
        have q3 := HB.out.cell 3
        have k3 := HB.out.frozen 3
        rw [show (firstC 0).toArray[3]? = some (.slice none 0 0) from by kernel_rfl] at q3
        have hl := HB.out.lt
        have HP := hid ((((HB.out.put 0 (.string ⟨#[79, 98, 106, 101, 99, 116]⟩)).put 1 (.int .i64 0)).put 2 (.slice none 0 0)).put 3 (.slice none 0 0))
        have HS := hid ((((HG.out.setCell (p := ⟨w.heap.size + 1, 0, none⟩) (Nat.le_succ _) (.string ⟨#[79, 98, 106, 101, 99, 116]⟩)).setCell (p := ⟨w.heap.size + 1, 1, none⟩) (Nat.le_succ _) (.int .i64 0)).setCell (p := ⟨w.heap.size + 1, 2, none⟩) (Nat.le_succ _) (.slice none 0 0)).setCell (p := ⟨w.heap.size + 1, 3, none⟩) (Nat.le_succ _) (.slice none 0 0))
        rw [List.setIfInBounds_toArray, List.setIfInBounds_toArray, List.setIfInBounds_toArray, List.setIfInBounds_toArray, show ((((firstC 0).set 0 (.string ⟨#[79, 98, 106, 101, 99, 116]⟩)).set 1 (.int .i64 0)).set 2 (.slice none 0 0)).set 3 (.slice none 0 0) = firstC 1 from by kernel_rfl] at HP
        have hix := HI.out.1
        have d1 : decide ((0 : Int) < 11) = true := rfl
        have d2 : (0 : Int) + 1 = 1 := rfl
        clear HB HG
        go_wp2_with fail
        go_round
        case rel => exact ⟨1, 1, rfl, rfl, by decide, HP, HS⟩
        case measure => exact (by decide : 11 - (1 : Int).toNat < 11 - (0 : Int).toNat)
      · obtain rfl : z = 1 := by omega
        clear hz
        have q0 := HB.out.cell 4
        have k0 := HB.out.frozen 4
        rw [show (firstC 1).toArray[4]? = some (.string ⟨#[]⟩) from by kernel_rfl] at q0
        have q1 := HB.out.cell 5
        have k1 := HB.out.frozen 5
        rw [show (firstC 1).toArray[5]? = some (.int .i64 0) from by kernel_rfl] at q1
        have q2 := HB.out.cell 6
        have k2 := HB.out.frozen 6
        rw [show (firstC 1).toArray[6]? = some (.slice none 0 0) from by kernel_rfl] at q2
        have q3 := HB.out.cell 7
        have k3 := HB.out.frozen 7
        rw [show (firstC 1).toArray[7]? = some (.slice none 0 0) from by kernel_rfl] at q3
        have hl := HB.out.lt
        have HP := hid ((((HB.out.put 4 (.string ⟨#[73, 110, 116, 101, 103, 101, 114]⟩)).put 5 (.int .i64 0)).put 6 (.slice none 0 0)).put 7 (.slice none 0 0))
        have HS := hid ((((HG.out.setCell (p := ⟨w.heap.size + 1, 4, none⟩) (Nat.le_succ _) (.string ⟨#[73, 110, 116, 101, 103, 101, 114]⟩)).setCell (p := ⟨w.heap.size + 1, 5, none⟩) (Nat.le_succ _) (.int .i64 0)).setCell (p := ⟨w.heap.size + 1, 6, none⟩) (Nat.le_succ _) (.slice none 0 0)).setCell (p := ⟨w.heap.size + 1, 7, none⟩) (Nat.le_succ _) (.slice none 0 0))
        rw [List.setIfInBounds_toArray, List.setIfInBounds_toArray, List.setIfInBounds_toArray, List.setIfInBounds_toArray, show ((((firstC 1).set 4 (.string ⟨#[73, 110, 116, 101, 103, 101, 114]⟩)).set 5 (.int .i64 0)).set 6 (.slice none 0 0)).set 7 (.slice none 0 0) = firstC 2 from by kernel_rfl] at HP
        have hix := HI.out.2.1
        have d1 : decide ((1 : Int) < 11) = true := rfl
        have d2 : (1 : Int) + 1 = 2 := rfl
        clear HB HG
        go_wp2_with fail
        go_round
        case rel => exact ⟨2, 2, rfl, rfl, by decide, HP, HS⟩
        case measure => exact (by decide : 11 - (2 : Int).toNat < 11 - (1 : Int).toNat)
      · obtain rfl : z = 2 := by omega
        clear hz
        have q0 := HB.out.cell 8
        have k0 := HB.out.frozen 8
        rw [show (firstC 2).toArray[8]? = some (.string ⟨#[]⟩) from by kernel_rfl] at q0
        have q1 := HB.out.cell 9
        have k1 := HB.out.frozen 9
        rw [show (firstC 2).toArray[9]? = some (.int .i64 0) from by kernel_rfl] at q1
        have q2 := HB.out.cell 10
        have k2 := HB.out.frozen 10
        rw [show (firstC 2).toArray[10]? = some (.slice none 0 0) from by kernel_rfl] at q2
        have q3 := HB.out.cell 11
        have k3 := HB.out.frozen 11
        rw [show (firstC 2).toArray[11]? = some (.slice none 0 0) from by kernel_rfl] at q3
        have hl := HB.out.lt
        have HP := hid ((((HB.out.put 8 (.string ⟨#[76, 97, 114, 103, 101, 73, 110, 116, 101, 103, 101, 114]⟩)).put 9 (.int .i64 0)).put 10 (.slice none 0 0)).put 11 (.slice none 0 0))
        have HS := hid ((((HG.out.setCell (p := ⟨w.heap.size + 1, 8, none⟩) (Nat.le_succ _) (.string ⟨#[76, 97, 114, 103, 101, 73, 110, 116, 101, 103, 101, 114]⟩)).setCell (p := ⟨w.heap.size + 1, 9, none⟩) (Nat.le_succ _) (.int .i64 0)).setCell (p := ⟨w.heap.size + 1, 10, none⟩) (Nat.le_succ _) (.slice none 0 0)).setCell (p := ⟨w.heap.size + 1, 11, none⟩) (Nat.le_succ _) (.slice none 0 0))
        rw [List.setIfInBounds_toArray, List.setIfInBounds_toArray, List.setIfInBounds_toArray, List.setIfInBounds_toArray, show ((((firstC 2).set 8 (.string ⟨#[76, 97, 114, 103, 101, 73, 110, 116, 101, 103, 101, 114]⟩)).set 9 (.int .i64 0)).set 10 (.slice none 0 0)).set 11 (.slice none 0 0) = firstC 3 from by kernel_rfl] at HP
        have hix := HI.out.2.2.1
        have d1 : decide ((2 : Int) < 11) = true := rfl
        have d2 : (2 : Int) + 1 = 3 := rfl
        clear HB HG
        go_wp2_with fail
        go_round
        case rel => exact ⟨3, 3, rfl, rfl, by decide, HP, HS⟩
        case measure => exact (by decide : 11 - (3 : Int).toNat < 11 - (2 : Int).toNat)
      · obtain rfl : z = 3 := by omega
        clear hz
        have q0 := HB.out.cell 12
        have k0 := HB.out.frozen 12
        rw [show (firstC 3).toArray[12]? = some (.string ⟨#[]⟩) from by kernel_rfl] at q0
        have q1 := HB.out.cell 13
        have k1 := HB.out.frozen 13
        rw [show (firstC 3).toArray[13]? = some (.int .i64 0) from by kernel_rfl] at q1
        have q2 := HB.out.cell 14
        have k2 := HB.out.frozen 14
        rw [show (firstC 3).toArray[14]? = some (.slice none 0 0) from by kernel_rfl] at q2
        have q3 := HB.out.cell 15
        have k3 := HB.out.frozen 15
        rw [show (firstC 3).toArray[15]? = some (.slice none 0 0) from by kernel_rfl] at q3
        have hl := HB.out.lt
        have HP := hid ((((HB.out.put 12 (.string ⟨#[85, 110, 100, 101, 102, 105, 110, 101, 100]⟩)).put 13 (.int .i64 0)).put 14 (.slice none 0 0)).put 15 (.slice none 0 0))
        have HS := hid ((((HG.out.setCell (p := ⟨w.heap.size + 1, 12, none⟩) (Nat.le_succ _) (.string ⟨#[85, 110, 100, 101, 102, 105, 110, 101, 100]⟩)).setCell (p := ⟨w.heap.size + 1, 13, none⟩) (Nat.le_succ _) (.int .i64 0)).setCell (p := ⟨w.heap.size + 1, 14, none⟩) (Nat.le_succ _) (.slice none 0 0)).setCell (p := ⟨w.heap.size + 1, 15, none⟩) (Nat.le_succ _) (.slice none 0 0))
        rw [List.setIfInBounds_toArray, List.setIfInBounds_toArray, List.setIfInBounds_toArray, List.setIfInBounds_toArray, show ((((firstC 3).set 12 (.string ⟨#[85, 110, 100, 101, 102, 105, 110, 101, 100]⟩)).set 13 (.int .i64 0)).set 14 (.slice none 0 0)).set 15 (.slice none 0 0) = firstC 4 from by kernel_rfl] at HP
        have hix := HI.out.2.2.2.1
        have d1 : decide ((3 : Int) < 11) = true := rfl
        have d2 : (3 : Int) + 1 = 4 := rfl
        clear HB HG
        go_wp2_with fail
        go_round
        case rel => exact ⟨4, 4, rfl, rfl, by decide, HP, HS⟩
        case measure => exact (by decide : 11 - (4 : Int).toNat < 11 - (3 : Int).toNat)
      · obtain rfl : z = 4 := by omega
        clear hz
        have q0 := HB.out.cell 16
        have k0 := HB.out.frozen 16
        rw [show (firstC 4).toArray[16]? = some (.string ⟨#[]⟩) from by kernel_rfl] at q0
        have q1 := HB.out.cell 17
        have k1 := HB.out.frozen 17
        rw [show (firstC 4).toArray[17]? = some (.int .i64 0) from by kernel_rfl] at q1
        have q2 := HB.out.cell 18
        have k2 := HB.out.frozen 18
        rw [show (firstC 4).toArray[18]? = some (.slice none 0 0) from by kernel_rfl] at q2
        have q3 := HB.out.cell 19
        have k3 := HB.out.frozen 19
        rw [show (firstC 4).toArray[19]? = some (.slice none 0 0) from by kernel_rfl] at q3
        have hl := HB.out.lt
        have HP := hid ((((HB.out.put 16 (.string ⟨#[66, 111, 111, 108, 101, 97, 110]⟩)).put 17 (.int .i64 0)).put 18 (.slice none 0 0)).put 19 (.slice none 0 0))
        have HS := hid ((((HG.out.setCell (p := ⟨w.heap.size + 1, 16, none⟩) (Nat.le_succ _) (.string ⟨#[66, 111, 111, 108, 101, 97, 110]⟩)).setCell (p := ⟨w.heap.size + 1, 17, none⟩) (Nat.le_succ _) (.int .i64 0)).setCell (p := ⟨w.heap.size + 1, 18, none⟩) (Nat.le_succ _) (.slice none 0 0)).setCell (p := ⟨w.heap.size + 1, 19, none⟩) (Nat.le_succ _) (.slice none 0 0))
        rw [List.setIfInBounds_toArray, List.setIfInBounds_toArray, List.setIfInBounds_toArray, List.setIfInBounds_toArray, show ((((firstC 4).set 16 (.string ⟨#[66, 111, 111, 108, 101, 97, 110]⟩)).set 17 (.int .i64 0)).set 18 (.slice none 0 0)).set 19 (.slice none 0 0) = firstC 5 from by kernel_rfl] at HP
        have hix := HI.out.2.2.2.2.1
        have d1 : decide ((4 : Int) < 11) = true := rfl
        have d2 : (4 : Int) + 1 = 5 := rfl
        clear HB HG
        go_wp2_with fail
        go_round
        case rel => exact ⟨5, 5, rfl, rfl, by decide, HP, HS⟩
        case measure => exact (by decide : 11 - (5 : Int).toNat < 11 - (4 : Int).toNat)
      · obtain rfl : z = 5 := by omega
        clear hz
        have q0 := HB.out.cell 20
        have k0 := HB.out.frozen 20
        rw [show (firstC 5).toArray[20]? = some (.string ⟨#[]⟩) from by kernel_rfl] at q0
        have q1 := HB.out.cell 21
        have k1 := HB.out.frozen 21
        rw [show (firstC 5).toArray[21]? = some (.int .i64 0) from by kernel_rfl] at q1
        have q2 := HB.out.cell 22
        have k2 := HB.out.frozen 22
        rw [show (firstC 5).toArray[22]? = some (.slice none 0 0) from by kernel_rfl] at q2
        have q3 := HB.out.cell 23
        have k3 := HB.out.frozen 23
        rw [show (firstC 5).toArray[23]? = some (.slice none 0 0) from by kernel_rfl] at q3
        have hl := HB.out.lt
        have HP := hid ((((HB.out.put 20 (.string ⟨#[83, 116, 114, 105, 110, 103]⟩)).put 21 (.int .i64 0)).put 22 (.slice none 0 0)).put 23 (.slice none 0 0))
        have HS := hid ((((HG.out.setCell (p := ⟨w.heap.size + 1, 20, none⟩) (Nat.le_succ _) (.string ⟨#[83, 116, 114, 105, 110, 103]⟩)).setCell (p := ⟨w.heap.size + 1, 21, none⟩) (Nat.le_succ _) (.int .i64 0)).setCell (p := ⟨w.heap.size + 1, 22, none⟩) (Nat.le_succ _) (.slice none 0 0)).setCell (p := ⟨w.heap.size + 1, 23, none⟩) (Nat.le_succ _) (.slice none 0 0))
        rw [List.setIfInBounds_toArray, List.setIfInBounds_toArray, List.setIfInBounds_toArray, List.setIfInBounds_toArray, show ((((firstC 5).set 20 (.string ⟨#[83, 116, 114, 105, 110, 103]⟩)).set 21 (.int .i64 0)).set 22 (.slice none 0 0)).set 23 (.slice none 0 0) = firstC 6 from by kernel_rfl] at HP
        have hix := HI.out.2.2.2.2.2.1
        have d1 : decide ((5 : Int) < 11) = true := rfl
        have d2 : (5 : Int) + 1 = 6 := rfl
        clear HB HG
        go_wp2_with fail
        go_round
        case rel => exact ⟨6, 6, rfl, rfl, by decide, HP, HS⟩
        case measure => exact (by decide : 11 - (6 : Int).toNat < 11 - (5 : Int).toNat)
      · obtain rfl : z = 6 := by omega
        clear hz
        have q0 := HB.out.cell 24
        have k0 := HB.out.frozen 24
        rw [show (firstC 6).toArray[24]? = some (.string ⟨#[]⟩) from by kernel_rfl] at q0
        have q1 := HB.out.cell 25
        have k1 := HB.out.frozen 25
        rw [show (firstC 6).toArray[25]? = some (.int .i64 0) from by kernel_rfl] at q1
        have q2 := HB.out.cell 26
        have k2 := HB.out.frozen 26
        rw [show (firstC 6).toArray[26]? = some (.slice none 0 0) from by kernel_rfl] at q2
        have q3 := HB.out.cell 27
        have k3 := HB.out.frozen 27
        rw [show (firstC 6).toArray[27]? = some (.slice none 0 0) from by kernel_rfl] at q3
        have hl := HB.out.lt
        have HP := hid ((((HB.out.put 24 (.string ⟨#[65, 114, 114, 97, 121]⟩)).put 25 (.int .i64 0)).put 26 (.slice none 0 0)).put 27 (.slice none 0 0))
        have HS := hid ((((HG.out.setCell (p := ⟨w.heap.size + 1, 24, none⟩) (Nat.le_succ _) (.string ⟨#[65, 114, 114, 97, 121]⟩)).setCell (p := ⟨w.heap.size + 1, 25, none⟩) (Nat.le_succ _) (.int .i64 0)).setCell (p := ⟨w.heap.size + 1, 26, none⟩) (Nat.le_succ _) (.slice none 0 0)).setCell (p := ⟨w.heap.size + 1, 27, none⟩) (Nat.le_succ _) (.slice none 0 0))
        rw [List.setIfInBounds_toArray, List.setIfInBounds_toArray, List.setIfInBounds_toArray, List.setIfInBounds_toArray, show ((((firstC 6).set 24 (.string ⟨#[65, 114, 114, 97, 121]⟩)).set 25 (.int .i64 0)).set 26 (.slice none 0 0)).set 27 (.slice none 0 0) = firstC 7 from by kernel_rfl] at HP
        have hix := HI.out.2.2.2.2.2.2.1
        have d1 : decide ((6 : Int) < 11) = true := rfl
        have d2 : (6 : Int) + 1 = 7 := rfl
        clear HB HG
        go_wp2_with fail
        go_round
        case rel => exact ⟨7, 7, rfl, rfl, by decide, HP, HS⟩
        case measure => exact (by decide : 11 - (7 : Int).toNat < 11 - (6 : Int).toNat)
      · obtain rfl : z = 7 := by omega
        clear hz
        have q0 := HB.out.cell 28
        have k0 := HB.out.frozen 28
        rw [show (firstC 7).toArray[28]? = some (.string ⟨#[]⟩) from by kernel_rfl] at q0
        have q1 := HB.out.cell 29
        have k1 := HB.out.frozen 29
        rw [show (firstC 7).toArray[29]? = some (.int .i64 0) from by kernel_rfl] at q1
        have q2 := HB.out.cell 30
        have k2 := HB.out.frozen 30
        rw [show (firstC 7).toArray[30]? = some (.slice none 0 0) from by kernel_rfl] at q2
        have q3 := HB.out.cell 31
        have k3 := HB.out.frozen 31
        rw [show (firstC 7).toArray[31]? = some (.slice none 0 0) from by kernel_rfl] at q3
        have hl := HB.out.lt
        have HP := hid ((((HB.out.put 28 (.string ⟨#[66, 108, 111, 99, 107]⟩)).put 29 (.int .i64 0)).put 30 (.slice none 0 0)).put 31 (.slice none 0 0))
        have HS := hid ((((HG.out.setCell (p := ⟨w.heap.size + 1, 28, none⟩) (Nat.le_succ _) (.string ⟨#[66, 108, 111, 99, 107]⟩)).setCell (p := ⟨w.heap.size + 1, 29, none⟩) (Nat.le_succ _) (.int .i64 0)).setCell (p := ⟨w.heap.size + 1, 30, none⟩) (Nat.le_succ _) (.slice none 0 0)).setCell (p := ⟨w.heap.size + 1, 31, none⟩) (Nat.le_succ _) (.slice none 0 0))
        rw [List.setIfInBounds_toArray, List.setIfInBounds_toArray, List.setIfInBounds_toArray, List.setIfInBounds_toArray, show ((((firstC 7).set 28 (.string ⟨#[66, 108, 111, 99, 107]⟩)).set 29 (.int .i64 0)).set 30 (.slice none 0 0)).set 31 (.slice none 0 0) = firstC 8 from by kernel_rfl] at HP
        have hix := HI.out.2.2.2.2.2.2.2.1
        have d1 : decide ((7 : Int) < 11) = true := rfl
        have d2 : (7 : Int) + 1 = 8 := rfl
        clear HB HG
        go_wp2_with fail
        go_round
        case rel => exact ⟨8, 8, rfl, rfl, by decide, HP, HS⟩
        case measure => exact (by decide : 11 - (8 : Int).toNat < 11 - (7 : Int).toNat)
      · obtain rfl : z = 8 := by omega
        clear hz
        have q0 := HB.out.cell 32
        have k0 := HB.out.frozen 32
        rw [show (firstC 8).toArray[32]? = some (.string ⟨#[]⟩) from by kernel_rfl] at q0
        have q1 := HB.out.cell 33
        have k1 := HB.out.frozen 33
        rw [show (firstC 8).toArray[33]? = some (.int .i64 0) from by kernel_rfl] at q1
        have q2 := HB.out.cell 34
        have k2 := HB.out.frozen 34
        rw [show (firstC 8).toArray[34]? = some (.slice none 0 0) from by kernel_rfl] at q2
        have q3 := HB.out.cell 35
        have k3 := HB.out.frozen 35
        rw [show (firstC 8).toArray[35]? = some (.slice none 0 0) from by kernel_rfl] at q3
        have hl := HB.out.lt
        have HP := hid ((((HB.out.put 32 (.string ⟨#[69, 110, 118]⟩)).put 33 (.int .i64 0)).put 34 (.slice none 0 0)).put 35 (.slice none 0 0))
        have HS := hid ((((HG.out.setCell (p := ⟨w.heap.size + 1, 32, none⟩) (Nat.le_succ _) (.string ⟨#[69, 110, 118]⟩)).setCell (p := ⟨w.heap.size + 1, 33, none⟩) (Nat.le_succ _) (.int .i64 0)).setCell (p := ⟨w.heap.size + 1, 34, none⟩) (Nat.le_succ _) (.slice none 0 0)).setCell (p := ⟨w.heap.size + 1, 35, none⟩) (Nat.le_succ _) (.slice none 0 0))
        rw [List.setIfInBounds_toArray, List.setIfInBounds_toArray, List.setIfInBounds_toArray, List.setIfInBounds_toArray, show ((((firstC 8).set 32 (.string ⟨#[69, 110, 118]⟩)).set 33 (.int .i64 0)).set 34 (.slice none 0 0)).set 35 (.slice none 0 0) = firstC 9 from by kernel_rfl] at HP
        have hix := HI.out.2.2.2.2.2.2.2.2.1
        have d1 : decide ((8 : Int) < 11) = true := rfl
        have d2 : (8 : Int) + 1 = 9 := rfl
        clear HB HG
        go_wp2_with fail
        go_round
        case rel => exact ⟨9, 9, rfl, rfl, by decide, HP, HS⟩
        case measure => exact (by decide : 11 - (9 : Int).toNat < 11 - (8 : Int).toNat)
      · obtain rfl : z = 9 := by omega
        clear hz
        have q0 := HB.out.cell 36
        have k0 := HB.out.frozen 36
        rw [show (firstC 9).toArray[36]? = some (.string ⟨#[]⟩) from by kernel_rfl] at q0
        have q1 := HB.out.cell 37
        have k1 := HB.out.frozen 37
        rw [show (firstC 9).toArray[37]? = some (.int .i64 0) from by kernel_rfl] at q1
        have q2 := HB.out.cell 38
        have k2 := HB.out.frozen 38
        rw [show (firstC 9).toArray[38]? = some (.slice none 0 0) from by kernel_rfl] at q2
        have q3 := HB.out.cell 39
        have k3 := HB.out.frozen 39
        rw [show (firstC 9).toArray[39]? = some (.slice none 0 0) from by kernel_rfl] at q3
        have hl := HB.out.lt
        have HP := hid ((((HB.out.put 36 (.string ⟨#[67, 108, 97, 115, 115]⟩)).put 37 (.int .i64 0)).put 38 (.slice none 0 0)).put 39 (.slice none 0 0))
        have HS := hid ((((HG.out.setCell (p := ⟨w.heap.size + 1, 36, none⟩) (Nat.le_succ _) (.string ⟨#[67, 108, 97, 115, 115]⟩)).setCell (p := ⟨w.heap.size + 1, 37, none⟩) (Nat.le_succ _) (.int .i64 0)).setCell (p := ⟨w.heap.size + 1, 38, none⟩) (Nat.le_succ _) (.slice none 0 0)).setCell (p := ⟨w.heap.size + 1, 39, none⟩) (Nat.le_succ _) (.slice none 0 0))
        rw [List.setIfInBounds_toArray, List.setIfInBounds_toArray, List.setIfInBounds_toArray, List.setIfInBounds_toArray, show ((((firstC 9).set 36 (.string ⟨#[67, 108, 97, 115, 115]⟩)).set 37 (.int .i64 0)).set 38 (.slice none 0 0)).set 39 (.slice none 0 0) = firstC 10 from by kernel_rfl] at HP
        have hix := HI.out.2.2.2.2.2.2.2.2.2.1
        have d1 : decide ((9 : Int) < 11) = true := rfl
        have d2 : (9 : Int) + 1 = 10 := rfl
        clear HB HG
        go_wp2_with fail
        go_round
        case rel => exact ⟨10, 10, rfl, rfl, by decide, HP, HS⟩
        case measure => exact (by decide : 11 - (10 : Int).toNat < 11 - (9 : Int).toNat)
      · obtain rfl : z = 10 := by omega
        clear hz
        have q0 := HB.out.cell 40
        have k0 := HB.out.frozen 40
        rw [show (firstC 10).toArray[40]? = some (.string ⟨#[]⟩) from by kernel_rfl] at q0
        have q1 := HB.out.cell 41
        have k1 := HB.out.frozen 41
        rw [show (firstC 10).toArray[41]? = some (.int .i64 0) from by kernel_rfl] at q1
        have q2 := HB.out.cell 42
        have k2 := HB.out.frozen 42
        rw [show (firstC 10).toArray[42]? = some (.slice none 0 0) from by kernel_rfl] at q2
        have q3 := HB.out.cell 43
        have k3 := HB.out.frozen 43
        rw [show (firstC 10).toArray[43]? = some (.slice none 0 0) from by kernel_rfl] at q3
        have hl := HB.out.lt
        have HP := hid ((((HB.out.put 40 (.string ⟨#[83, 101, 109, 97, 112, 104, 111, 114, 101]⟩)).put 41 (.int .i64 0)).put 42 (.slice none 0 0)).put 43 (.slice none 0 0))
        have HS := hid ((((HG.out.setCell (p := ⟨w.heap.size + 1, 40, none⟩) (Nat.le_succ _) (.string ⟨#[83, 101, 109, 97, 112, 104, 111, 114, 101]⟩)).setCell (p := ⟨w.heap.size + 1, 41, none⟩) (Nat.le_succ _) (.int .i64 0)).setCell (p := ⟨w.heap.size + 1, 42, none⟩) (Nat.le_succ _) (.slice none 0 0)).setCell (p := ⟨w.heap.size + 1, 43, none⟩) (Nat.le_succ _) (.slice none 0 0))
        rw [List.setIfInBounds_toArray, List.setIfInBounds_toArray, List.setIfInBounds_toArray, List.setIfInBounds_toArray, show ((((firstC 10).set 40 (.string ⟨#[83, 101, 109, 97, 112, 104, 111, 114, 101]⟩)).set 41 (.int .i64 0)).set 42 (.slice none 0 0)).set 43 (.slice none 0 0) = firstC 11 from by kernel_rfl] at HP
        have hix := HI.out.2.2.2.2.2.2.2.2.2.2
        have d1 : decide ((10 : Int) < 11) = true := rfl
        have d2 : (10 : Int) + 1 = 11 := rfl
        clear HB HG
        go_wp2_with fail
        go_round
        case rel => exact ⟨11, 11, rfl, rfl, by decide, HP, HS⟩
        case measure => exact (by decide : 11 - (11 : Int).toNat < 11 - (10 : Int).toNat)
    · obtain rfl : i = 11 := by omega
      obtain rfl : z = 11 := by omega
      clear hz
      have q1 := HB.out.cell 1
      have k1 := HB.out.frozen 1
      have hl := HB.out.lt
      rw [show (firstC 11).toArray[1]? = some (.int .i64 0) from by kernel_rfl] at q1
      go_wp2_with fail
      go_ret
      refine ⟨_, rfl, ?_, Nat.le_succ _, HG.out.setCell (p := ⟨w.heap.size + 1, 1, none⟩) (Nat.le_succ _) _⟩
      have := HB.out.put 1 (.int .i64 (-1))
      rwa [List.setIfInBounds_toArray] at this
end Go.Proofs.YtjladeiecokpfaaGreatDoor

/- Parts of elder texts that this layer needs, joined: XYOpA XYOpB. -/
import Derived.Test.YtjladeiecokpfaaGreatDoorProg
import Derived.Test.YtjladeiecokpfaaGreatDoorZBase
import Derived.Test.YtjladeiecokpfaaGreatDoorZOpM
import Derived.LoopN
import Derived.Lib.ConvBytes
namespace Go.Proofs.YtjladeiecokpfaaGreatDoor
open Go.RowKit

/-- The text of a form: the digits of its widths. -/
def formP (p : Nat × Nat) : ByteArray := match p with
  | (0, _) => ⟨#[]⟩
  | (a, 0) => ⟨#[UInt8.ofNat (48 + a)]⟩
  | (a, b) => ⟨#[UInt8.ofNat (48 + a), UInt8.ofNat (48 + b)]⟩
def formB (c : Nat) : ByteArray := formP (Op7.wid c)
theorem wid_cases (c : Nat) : Op7.wid c = (0, 0) ∨ Op7.wid c = (1, 0) ∨ Op7.wid c = (1, 1) ∨ Op7.wid c = (2, 0) ∨ Op7.wid c = (2, 2) := by
  unfold Op7.wid
  rcases Nat.lt_or_ge c 21 with h | h
  · revert c
    decide
  · rw [List.getD_eq_getElem?_getD, List.getElem?_eq_none (by simpa [Op7.widths] using h)]
    exact .inl rfl
set_option maxRecDepth 100000 in
set_option maxHeartbeats 4000000 in
theorem form_no (c : Nat) (w : World) (hc : 21 ≤ c) (hm : c < 256) :
    Calls Tryz.prog 87 #[.int .u8 (c : Nat)] w (fun e w' => e = .returned (.tuple #[.string ⟨#[]⟩, .bool false]) ∧ Grew w w') := by
  go_enter Tryz.func87, Tryz.ntmps87
  go_wp2_with fail
  go_ret2
  exact ⟨rfl, (Grew.refl _).alloc _⟩
set_option maxRecDepth 100000 in
set_option maxHeartbeats 4000000 in
theorem form_yes (c : Nat) (w : World) (hc : c < 21) :
    Calls Tryz.prog 87 #[.int .u8 (c : Nat)] w (fun e w' => e = .returned (.tuple #[.string (formB c), .bool true]) ∧ Grew w w') := by
  rcases (by omega : c = 0 ∨ c = 1 ∨ c = 2 ∨ c = 3 ∨ c = 4 ∨ c = 5 ∨ c = 6 ∨ c = 7 ∨ c = 8 ∨ c = 9 ∨ c = 10 ∨ c = 11 ∨ c = 12 ∨ c = 13 ∨ c = 14 ∨ c = 15 ∨ c = 16 ∨ c = 17 ∨ c = 18 ∨ c = 19 ∨ c = 20) with rfl | rfl | rfl | rfl | rfl | rfl | rfl | rfl | rfl | rfl | rfl | rfl | rfl | rfl | rfl | rfl | rfl | rfl | rfl | rfl | rfl
  all_goals
    go_enter Tryz.func87, Tryz.ntmps87
    go_wp2_with fail
    go_ret2
    exact ⟨rfl, (Grew.refl _).alloc _⟩
theorem form_c (c : Nat) (w : World) (hm : c < 256) :
    Calls Tryz.prog 87 #[.int .u8 (c : Nat)] w (fun e w' => e = .returned (.tuple #[.string (if c < 21 then formB c else ⟨#[]⟩), .bool (decide (c < 21))]) ∧ Grew w w') := by
  by_cases h : c < 21
  · rw [if_pos h, decide_eq_true h]
    exact form_yes c w h
  · rw [if_neg h, decide_eq_false h]
    exact form_no c w (by omega) hm
end Go.Proofs.YtjladeiecokpfaaGreatDoor
namespace Go.Proofs.YtjladeiecokpfaaGreatDoor
open Go.RowKit

set_option maxRecDepth 100000 in
set_option maxHeartbeats 2000000 in
theorem wide_c (p : Nat × Nat) (w : World) (hp : p = (0, 0) ∨ p = (1, 0) ∨ p = (1, 1) ∨ p = (2, 0) ∨ p = (2, 2)) :
    Calls Tryz.prog 88 #[.string (formP p)] w (fun e w' => e = .returned (.tuple #[.int .i64 (p.1 : Nat), .int .i64 (p.2 : Nat)]) ∧ Grew w w') := by
  rcases hp with rfl | rfl | rfl | rfl | rfl
  all_goals
    go_enter Tryz.func88, Tryz.ntmps88
    go_wp2_with fail
    go_ret2
    exact ⟨rfl, Grew.refl _⟩
theorem wide_of (c : Nat) (w : World) : Calls Tryz.prog 88 #[.string (formB c)] w (fun e w' => e = .returned (.tuple #[.int .i64 ((Op7.wid c).1 : Nat), .int .i64 ((Op7.wid c).2 : Nat)]) ∧ Grew w w') :=
  wide_c _ w (wid_cases c)
set_option maxRecDepth 100000 in
set_option maxHeartbeats 2000000 in
theorem size_c (c : Nat) (w : World) (hm : c < 256) :
    Calls Tryz.prog 86 #[.int .u8 (c : Nat)] w (fun e w' => e = .returned (.int .i64 ((if c < 21 then Op7.size c else 0 : Nat) : Int)) ∧ Grew w w') := by
  have HF := hid (form_c c w hm)
  have HW := hid (wide_of c)
  have HZ := hid (show Op7.size c = 1 + (Op7.wid c).1 + (Op7.wid c).2 from rfl)
  obtain ⟨h1, h2⟩ := Op7.wid_le c
  generalize (Op7.wid c).1 = x at *
  generalize (Op7.wid c).2 = y at *
  generalize Op7.size c = z at *
  generalize formB c = s at *
  by_cases h : c < 21
  · rw [if_pos h, decide_eq_true h] at HF
    rw [if_pos h]
    go_enter Tryz.func86, Tryz.ntmps86
    go_wp2_with fail
    refine HF.out.mono ?_
    rintro e w1 ⟨rfl, hg1⟩
    go_wp2_with fail
    refine (HW.out w1).mono ?_
    rintro e w2 ⟨rfl, hg2⟩
    go_wp2_with fail
    go_ret
    exact ⟨ret_int (by rw [HZ.out]; omega), hg1.trans hg2⟩
  · rw [if_neg h, decide_eq_false h] at HF
    rw [if_neg h]
    go_enter Tryz.func86, Tryz.ntmps86
    go_wp2_with fail
    refine HF.out.mono ?_
    rintro e w1 ⟨rfl, hg1⟩
    go_wp2_with fail
    go_ret
    exact ⟨rfl, hg1⟩
end Go.Proofs.YtjladeiecokpfaaGreatDoor
namespace Go.Proofs.YtjladeiecokpfaaGreatDoor
open Go.RowKit

/-- The instructions' names. -/
def nameBs : List ByteArray := [⟨#[115, 101, 108, 102]⟩, ⟨#[110, 105, 108]⟩, ⟨#[116, 114, 117, 101]⟩, ⟨#[102, 97, 108, 115, 101]⟩, ⟨#[108, 105, 116]⟩, ⟨#[116, 101, 109, 112]⟩, ⟨#[115, 101, 116]⟩, ⟨#[118, 97, 114]⟩, ⟨#[112, 117, 116]⟩, ⟨#[112, 111, 112]⟩, ⟨#[100, 117, 112]⟩, ⟨#[115, 101, 110, 100]⟩, ⟨#[115, 117, 112, 101, 114]⟩, ⟨#[106, 117, 109, 112]⟩, ⟨#[101, 108, 115, 101]⟩, ⟨#[106, 111, 105, 110]⟩, ⟨#[98, 108, 111, 99, 107]⟩, ⟨#[97, 110, 115, 119, 101, 114]⟩, ⟨#[109, 101]⟩, ⟨#[104, 111, 109, 101]⟩, ⟨#[99, 108, 97, 115, 115]⟩]
def nameB (c : Nat) : ByteArray := nameBs.getD c ⟨#[]⟩
end Go.Proofs.YtjladeiecokpfaaGreatDoor
namespace Go.Proofs.YtjladeiecokpfaaGreatDoor
open Go.RowKit

/-- The table of the instructions, as the program's start lays it. -/
def TabAt (w : World) : Prop := ∀ c, c < 21 → w.cell? ⟨2, c * 2, none⟩ = some (.string (nameB c)) ∧ w.cell? ⟨2, c * 2 + 1, none⟩ = some (.string (formB c))
theorem TabAt.grew {w w' : World} (h : TabAt w) (hg : Grew w w') : TabAt w' := fun c hc => by
  obtain ⟨h1, h2⟩ := h c hc
  have hb : 2 < w.heap.size := World.block_lt_of_cell? w _ h1
  exact ⟨(hg.below.cell (p := ⟨2, c * 2, none⟩) hb).trans h1, (hg.below.cell (p := ⟨2, c * 2 + 1, none⟩) hb).trans h2⟩

set_option maxRecDepth 100000 in
theorem exists_c (c : Nat) (w : World) (hm : c < 256) :
    Calls Tryz.prog 154 #[.int .u8 (c : Nat)] w (fun e w' => e = .returned (.bool (decide (c < 21))) ∧ Grew w w') := by
  go_enter Tryz.func154, Tryz.ntmps154
  go_wp2_with fail
  go_ret
  exact ⟨ret_bool (by first | rfl | (rw [decide_eq_decide]; omega)), Grew.refl _⟩

end Go.Proofs.YtjladeiecokpfaaGreatDoor
namespace Go.Proofs.YtjladeiecokpfaaGreatDoor
open Go.RowKit

theorem OwnNums.two {W : World} {e : TypeId} {k : IntKind} {u v : Value} {x y : Nat} (hu : u = .int k (x : Nat)) (hv : v = .int k (y : Nat)) : NumsAt k (W.alloc (.cells #[u, v] e)) (W.alloc (.cells #[u, v] e)).heap.size (some ⟨W.heap.size, 0, none⟩) [x, y] := by
  subst hu hv
  intro _
  refine ⟨_, rfl, by simp, fun j hj => ?_⟩
  rcases (by simpa using hj : j < 2) with h
  rcases (by omega : j = 0 ∨ j = 1) with rfl | rfl
  · rw [add_zero]; simp
  · simp [Addr.add]

end Go.Proofs.YtjladeiecokpfaaGreatDoor
namespace Go.Proofs.YtjladeiecokpfaaGreatDoor
open Go.RowKit

theorem Grew.drewN {a b : World} (h : Grew a b) (n : Nat) : Grew a (b.drewN n) := .mk ⟨h.below.os, h.below.tape, h.below.output, h.below.size, h.below.block⟩

theorem conv_str (w : World) (s : ByteArray) : ∃ (k : Nat) (y : After w), (convert 9 69 (.string s)).run Tryz.prog w = .ok (.slice (some ⟨w.heap.size, 0, none⟩) s.size k) y.w ∧ y.w.heap.size = w.heap.size + 1 ∧
    ∀ j, j < s.size → y.w.cell? ⟨w.heap.size, j, none⟩ = some (.int .u8 ((s.data.toList.getD j 0).toNat : Nat)) :=
  ⟨_, ⟨Lib.bytesWorld w 5 s, ⟨by simp [Lib.bytesWorld, World.freeze, World.alloc, World.drew, -World.alloc_eq, -World.drew_eq], by simp [Lib.bytesWorld, World.freeze, World.alloc, World.drew, -World.alloc_eq, -World.drew_eq], by simp [Lib.bytesWorld, World.freeze, World.alloc, World.drew, -World.alloc_eq, -World.drew_eq], by rw [Lib.bytesWorld_size]; omega, fun j hj => Lib.bytesWorld_at_old w _ s j hj⟩⟩, Lib.run_convert_string_bytes w 9 69 5 s Tryz.underlying9 Tryz.underlying69 Tryz.underlying5, Lib.bytesWorld_size _ _ _, Lib.bytesWorld_cell w _ s⟩

set_option maxRecDepth 100000 in
set_option maxHeartbeats 2000000 in
theorem widths_0 (c : Nat) (w : World) (h : c < 21) (q : w.cell? ⟨2, c * 2 + 1, none⟩ = some (.string ⟨#[]⟩)) :
    Calls Tryz.prog 155 #[.int .u8 (c : Nat)] w (fun e w' => e = .returned (.tuple #[.int .i64 0, .int .i64 0]) ∧ Grew w w') := by
  have hb : 2 < w.heap.size := World.block_lt_of_cell? w _ q
  obtain ⟨k, y, hr, hz, hc⟩ := conv_str (w.alloc (.cells #[.int .i64 0, .int .i64 0] 239)) ⟨#[]⟩
  clear hz hc
  rw [show ByteArray.size ⟨#[]⟩ = 0 from rfl] at hr
  go_enter Tryz.func155, Tryz.ntmps155
  go_wp2_with fail
  refine wp_loop_rounds 3 ?_
  rw [rounds_succ]
  go_wp2_with fail
  go_quiet (fail)
  go_wp2_with fail
  go_ret2
  exact ⟨rfl, (((Grew.refl w).alloc _).trans y.grew).drewN _⟩
set_option maxRecDepth 100000 in
set_option maxHeartbeats 2000000 in
theorem widths_1 (c : Nat) (a : UInt8) (x : Nat) (hx : ((a.toNat : Nat) : Int) = x + 48) (hx2 : x ≤ 2) (w : World) (h : c < 21) (q : w.cell? ⟨2, c * 2 + 1, none⟩ = some (.string ⟨#[a]⟩)) :
    Calls Tryz.prog 155 #[.int .u8 (c : Nat)] w (fun e w' => e = .returned (.tuple #[.int .i64 (x : Nat), .int .i64 0]) ∧ Grew w w') := by
  have hb : 2 < w.heap.size := World.block_lt_of_cell? w _ q
  obtain ⟨k, y, hr, hz, hc⟩ := conv_str (w.alloc (.cells #[.int .i64 0, .int .i64 0] 239)) ⟨#[a]⟩
  have c0 := hc 0 (Nat.lt_succ_self 0)
  clear hz hc
  rw [show ByteArray.size ⟨#[a]⟩ = 1 from rfl] at hr
  rw [World.size_alloc] at c0
  change _ = some (Value.int .u8 ((a.toNat : Nat) : Int)) at c0
  rw [hx] at c0
  clear hx
  go_enter Tryz.func155, Tryz.ntmps155
  go_wp2_with fail
  refine wp_loop_rounds 3 ?_
  rw [rounds_succ]
  go_wp2_with fail
  rw [rounds_succ]
  go_wp2_with fail
  go_quiet (fail)
  go_wp2_with fail
  go_ret2
  exact ⟨rfl, ((((Grew.refl w).alloc _).trans y.grew).setCell (Nat.le_refl _) _).drewN _⟩
set_option maxRecDepth 100000 in
set_option maxHeartbeats 2000000 in
theorem widths_2 (c : Nat) (a b : UInt8) (x z : Nat) (hx : ((a.toNat : Nat) : Int) = x + 48) (hx2 : x ≤ 2) (hz : ((b.toNat : Nat) : Int) = z + 48) (hz2 : z ≤ 2) (w : World) (h : c < 21) (q : w.cell? ⟨2, c * 2 + 1, none⟩ = some (.string ⟨#[a, b]⟩)) :
    Calls Tryz.prog 155 #[.int .u8 (c : Nat)] w (fun e w' => e = .returned (.tuple #[.int .i64 (x : Nat), .int .i64 (z : Nat)]) ∧ Grew w w') := by
  have hb : 2 < w.heap.size := World.block_lt_of_cell? w _ q
  obtain ⟨k, y, hr, hy, hc⟩ := conv_str (w.alloc (.cells #[.int .i64 0, .int .i64 0] 239)) ⟨#[a, b]⟩
  have c0 := hc 0 (Nat.succ_pos 1)
  have c1 := hc 1 (Nat.lt_succ_self 1)
  clear hy hc
  rw [show ByteArray.size ⟨#[a, b]⟩ = 2 from rfl] at hr
  rw [World.size_alloc] at c0 c1
  change _ = some (Value.int .u8 ((a.toNat : Nat) : Int)) at c0
  change _ = some (Value.int .u8 ((b.toNat : Nat) : Int)) at c1
  rw [hx] at c0
  rw [hz] at c1
  clear hx hz
  go_enter Tryz.func155, Tryz.ntmps155
  go_wp2_with fail
  refine wp_loop_rounds 3 ?_
  rw [rounds_succ]
  go_wp2_with fail
  rw [rounds_succ]
  go_wp2_with fail
  rw [rounds_succ]
  go_wp2_with fail
  go_quiet (fail)
  go_wp2_with fail
  go_ret2
  exact ⟨rfl, (((((Grew.refl w).alloc _).trans y.grew).setCell (Nat.le_refl _) _).setCell (Nat.le_refl _) _).drewN _⟩
theorem owidths_c (c : Nat) (w : World) (h : c < 21) (hT : TabAt w) :
    Calls Tryz.prog 155 #[.int .u8 (c : Nat)] w (fun e w' => e = .returned (.tuple #[.int .i64 ((Op7.wid c).1 : Nat), .int .i64 ((Op7.wid c).2 : Nat)]) ∧ Grew w w') := by
  have q := (hT c h).2
  unfold formB at q
  rcases wid_cases c with e | e | e | e | e
  all_goals
    rw [e] at q
    rw [e]
  · exact widths_0 c w h q
  · exact widths_1 c 49 1 rfl (by decide) w h q
  · exact widths_2 c 49 49 1 1 rfl (by decide) rfl (by decide) w h q
  · exact widths_1 c 50 2 rfl (by decide) w h q
  · exact widths_2 c 50 50 2 2 rfl (by decide) rfl (by decide) w h q
set_option maxRecDepth 100000 in
set_option maxHeartbeats 2000000 in
theorem osize_c (c : Nat) (w : World) (hm : c < 256) (hT : TabAt w) :
    Calls Tryz.prog 131 #[.int .u8 (c : Nat)] w (fun e w' => e = .returned (.int .i64 ((if c < 21 then Op7.size c else 0 : Nat) : Int)) ∧ Grew w w') := by
  have HX := hid (exists_c c w hm)
  have HT := hid hT
  clear hT
  by_cases h : c < 21
  · rw [decide_eq_true h] at HX
    rw [if_pos h]
    have HW := hid (fun w' (hg : Grew w w') => owidths_c c w' h (HT.out.grew hg))
    have HZ := hid (show Op7.size c = 1 + (Op7.wid c).1 + (Op7.wid c).2 from rfl)
    obtain ⟨h1, h2⟩ := Op7.wid_le c
    generalize (Op7.wid c).1 = x at *
    generalize (Op7.wid c).2 = y at *
    generalize Op7.size c = z at *
    go_enter Tryz.func131, Tryz.ntmps131
    go_wp2_with fail
    refine HX.out.mono ?_
    rintro e w1 ⟨rfl, hg1⟩
    go_wp2_with fail
    refine (HW.out w1 hg1).mono ?_
    rintro e w2 ⟨rfl, hg2⟩
    go_wp2_with fail
    go_ret
    exact ⟨ret_int (by rw [HZ.out]; omega), hg1.trans hg2⟩
  · rw [decide_eq_false h] at HX
    rw [if_neg h]
    go_enter Tryz.func131, Tryz.ntmps131
    go_wp2_with fail
    refine HX.out.mono ?_
    rintro e w1 ⟨rfl, hg1⟩
    go_wp2_with fail
    go_ret
    exact ⟨rfl, hg1⟩
end Go.Proofs.YtjladeiecokpfaaGreatDoor

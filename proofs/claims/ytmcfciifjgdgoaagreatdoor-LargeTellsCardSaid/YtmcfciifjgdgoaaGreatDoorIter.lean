/- slices.Backward over words: whatever a round keeps of what the iterator reads, the rounds come from the last word down to the first one. -/
import Derived.RangeFuncNested
import Derived.RangeFuncBound
import Derived.RangeFuncCalls
import Derived.RangeFuncLeaves
import Derived.Shelf.Abstract
import Derived.Shelf.RegionOpen
import Derived.WalkKit
import Derived.OwnWalkIn
import Derived.TacticsInMore
import Derived.LoopNIn
import Derived.LoopIn
import Derived.Test.YtmcfciifjgdgoaaGreatDoorOwn
import Derived.Test.YtmcfciifjgdgoaaGreatDoorProg
namespace Go.Proofs.YtmcfciifjgdgoaaGreatDoor
open Go.RowKit Go.Shelf
attribute [local go_sem] Oper.semAt_some

/-- A number as a word. -/
def wordOf (v : Nat) : Nat := v % 4294967296
theorem wordOf_lt (v : Nat) : wordOf v < 4294967296 := Nat.mod_lt _ (by decide)
theorem wordOf_eq {v : Nat} (h : v < 4294967296) : wordOf v = v := Nat.mod_eq_of_lt h
/-- What a round is handed: the word's place, from the end, and the word. -/
def bwEnc (n : Nat) (x : Nat × Nat) : Array Value := #[.int .i64 ((n - 1 - x.1 : Nat) : Int), .int .u32 ((wordOf x.2 : Nat) : Int)]
/-- What the iterator reads: its box, and words that may stand there. -/
def BwRd (Bs n : Nat) (A : Option Addr) (c : Nat) (Val : Nat → Nat → Prop) (W : World) : Prop :=
  W.cell? ⟨Bs, 0, none⟩ = some (.slice A n c) ∧ ∀ j, j < n → ∃ ad v, A = some ad ∧ v < 4294967296 ∧ Val j v ∧ W.cell? (ad.add j) = some (.int .u32 ((v : Nat) : Int))
/-- What has come. -/
def BwCame (n : Nat) (Val : Nat → Nat → Prop) (pre : List (Nat × Nat)) : Prop := pre.map (·.1) = List.range pre.length ∧ pre.length ≤ n ∧ ∀ y ∈ pre, y.2 < 4294967296 ∧ Val (n - 1 - y.1) y.2
theorem BwCame.nil (n : Nat) (Val : Nat → Nat → Prop) : BwCame n Val [] := ⟨rfl, Nat.zero_le _, by simp⟩
theorem BwCame.snoc {n : Nat} {Val : Nat → Nat → Prop} {pre : List (Nat × Nat)} (h : BwCame n Val pre) {v : Nat} (hn : pre.length < n) (hv : v < 4294967296) (hV : Val (n - 1 - pre.length) v) : BwCame n Val (pre ++ [(pre.length, v)]) := by
  refine ⟨by simp [h.1, List.range_succ], by simp; omega, fun y hy => ?_⟩
  rcases List.mem_append.1 hy with h1 | h1
  · exact h.2.2 y h1
  · obtain rfl := List.mem_singleton.1 h1
    exact ⟨hv, hV⟩
def BwEnd (n : Nat) (Val : Nat → Nat → Prop) (J Jx : List (Nat × Nat) → World → Prop) (e : Ending) (W' : World) : Prop :=
  (∃ v, e = .returned v) ∧ ((∃ ys, (BwCame n Val ys ∧ ys.length = n) ∧ J ys W') ∨ (∃ pre, BwCame n Val pre ∧ Jx pre W'))

set_option maxRecDepth 100000 in
set_option maxHeartbeats 2000000 in
theorem back1_in (F : Fence) (m : Nat) (hF : F.fn 76) (hro : F.round = none) (hm : 1 ≤ m) (l Bs n c : Nat) (A : Option Addr) (Val : Nat → Nat → Prop) (hn : n ≤ 100000) (J Jx : List (Nat × Nat) → World → Prop)
    (hY : ∀ pre x W, J pre W → pre.length < n → YieldAt F (m - 1) Tryz.prog l (bwEnc n x) W fun e W' =>
      (e = .returned (.bool true) ∧ J (pre ++ [x]) W' ∧ (BwRd Bs n A c Val W → BwRd Bs n A c Val W')) ∨ (e = .returned (.bool false) ∧ Jx (pre ++ [x]) W'))
    (W : World) (hR : BwRd Bs n A c Val W) (h0 : J [] W) :
    CallsIn F m Tryz.prog 76 #[.func (.yield l) #[] #[], .pointer (some ⟨Bs, 0, none⟩)] W (BwEnd n Val J Jx) := by
  have HY := hid hY
  have HR := hid hR
  have hbx := hR.1
  clear hY hR
  refine callsIn_of_wp Tryz.func76 rfl hF ?_ hro
  simp only [Tryz.ntmps76, List.size_toArray, List.length_cons, List.length_nil, Nat.reduceAdd, Nat.reduceSub, Array.replicate_succ, Array.replicate_zero, List.push_toArray, List.append_toArray, List.nil_append, List.cons_append]
  gi_wp2
  gi_loopw [3] (fun i wr => ∃ (k : Nat) (pre : List (Nat × Nat)), i = .int .i64 ((k : Int) - 1) ∧ k + pre.length = n ∧ J pre wr ∧ Hid (BwRd Bs n A c Val wr) ∧ Hid (BwCame n Val pre))
    (fun i _ => (intOf i + 1).toNat)
  case atStart => exact ⟨n, [], rfl, by simp, h0, HR, hid (BwCame.nil _ _)⟩
  case round =>
    clear HR h0 hbx
    obtain ⟨k, pre, rfl, hk, hJs, HRd, HC⟩ := hrel
    have hbx := HRd.out.1
    rcases Nat.eq_zero_or_pos k with h0 | h0
    · subst h0
      have HE := hid (show pre.length = n by omega)
      gi_wp2
      go_end0
      exact ⟨⟨_, rfl⟩, .inl ⟨pre, ⟨HC.out, HE.out⟩, hJs⟩⟩
    · obtain ⟨q, rfl⟩ : ∃ q, k = q + 1 := ⟨k - 1, by omega⟩
      obtain ⟨ad, v, rfl, hv, hV, hc⟩ := HRd.out.2 q (by omega)
      obtain ⟨fn, tmps, assign, body, hy, hRr⟩ := HY.out _ (pre.length, v) wr hJs (by omega)
      have e1 : n - 1 - pre.length = q := by omega
      unfold bwEnc at hy
      dsimp only at hy
      rw [e1, wordOf_eq hv] at hy
      have HC2 := hid (HC.out.snoc (v := v) (by omega) hv (by rw [e1]; exact hV))
      have HL := hid (show q + (pre ++ [(pre.length, v)]).length = n by simp; omega)
      have hqn : (q : Int) < (n : Int) := by omega
      have HV := hid hV
      clear hV e1 hk h0
      gi_wp2
      refine hRr.mono ?_
      rintro e W3 (⟨rfl, hJ3, hk3⟩ | ⟨rfl, hJx3⟩)
      · have HK := hid (hk3 HRd.out)
        clear hk3
        gi_wp2
        go_roundw
        case rel => exact ⟨q, _, by simp, HL.out, hJ3, HK, HC2⟩
        case measure => simp [intOf]
      · clear hy hRr
        gi_wp2
        refine bodyPost_ret (results_none rfl _ _ _) rfl ?_
        exact ⟨⟨_, rfl⟩, .inr ⟨_, HC2.out, hJx3⟩⟩

set_option maxHeartbeats 1000000 in
/-- The slice value is boxed; the function value captures the box. -/
theorem back_in (F : Fence) (m : Nat) (hF : F.fn 62) (hro : F.round = none) (a : Option Addr) (n c : Nat) (w : World) :
    CallsIn F m Tryz.prog 62 #[.slice a n c] w fun e w' => e = .returned (.func (.func 76) #[] #[.pointer (some ⟨w.heap.size, 0, none⟩)]) ∧ w' = w.alloc (.cells #[.slice a n c] 22) := by
  refine callsIn_of_wp Tryz.func62 rfl hF ?_ hro
  simp only [Tryz.ntmps62, List.size_toArray, List.length_cons, List.length_nil, Nat.reduceAdd, Nat.reduceSub, Array.replicate_succ, Array.replicate_zero, List.push_toArray, List.append_toArray, List.nil_append, List.cons_append]
  gi_wp2
  go_ret
  exact ⟨rfl, rfl⟩

theorem BwRd.kept {Bs n c : Nat} {A : Option Addr} {Val : Nat → Nat → Prop} {W W' : World} {row : Option Nat} (h : BwRd Bs n A c Val W) (hg : W.grownBy W' row) (hr : ∀ r, row = some r → ∃ o : Obj, W.heap[r]? = some o ∧ o.isCells = false) : BwRd Bs n A c Val W' := by
  refine ⟨cell_kept h.1 hg hr, fun j hj => ?_⟩
  obtain ⟨ad, v, e1, e2, e3, e4⟩ := h.2 j hj
  exact ⟨ad, v, e1, e2, e3, cell_kept e4 hg hr⟩

theorem back_stops (F : Fence) (m : Nat) (hF : F.fn 76) (hro : F.round = none) (hm : 1 ≤ m) (Bs n c : Nat) (A : Option Addr) (Val : Nat → Nat → Prop) (hn : n ≤ 100000) (w : World) (hR : ∀ W, Below w.heap.size w W → BwRd Bs n A c Val W) :
    SeqStopsK F m Tryz.prog 76 #[.pointer (some ⟨Bs, 0, none⟩)] (bwEnc n) (fun W W' => BwRd Bs n A c Val W → BwRd Bs n A c Val W') (fun ys => BwCame n Val ys ∧ ys.length = n)
      (fun pre => BwCame n Val pre) n w := fun l J Jx W hW _ _ hY h0 =>
  back1_in F m hF hro hm l Bs n c A Val hn J Jx hY W (hR W hW) h0
theorem bw_t {R : World → Prop} {A B C : World} (h : R A → R B) (k : R B → R C) : R A → R C := fun x => k (h x)
theorem bw_b {Bs n c : Nat} {A : Option Addr} {Val : Nat → Nat → Prop} {w : World} (W : World) (l : Nat) (o o' : Obj) (_ : w.heap.size ≤ l) (h : W.heap[l]? = some o) (ho : o.isCells = false) (_ : o.isWalk = false) : BwRd Bs n A c Val W → BwRd Bs n A c Val (W.putObj l o') :=
  fun x => x.kept (grownBy_putObj' W l o') (fun r e => by cases e; exact ⟨o, h, ho⟩)

/-- Block 'g' is just these cells: it abides. -/
theorem Blk.kept {W W' : World} {row : Option Nat} {g : Nat} {t : TypeId} {cs : Array Value} (h : Blk W g t cs) (hg : W.grownBy W' row) (hr : ∀ r, row = some r → ∃ o : Obj, W.heap[r]? = some o ∧ o.isCells = false) : Blk W' g t cs :=
  (grownBy_keeps_cells hg hr h rfl).trans h
theorem below_kept {n0 B : Nat} {w0 W W' : World} {row : Option Nat} (h : Below n0 w0 W) (hn : n0 ≤ w0.heap.size) (hB : n0 ≤ B) (hg : W.grownBy W' row) (hr : ∀ r, row = some r → B ≤ r ∧ ∃ o : Obj, W.heap[r]? = some o ∧ o.isCells = false) : Below n0 w0 W' :=
  ownFrom_below (β := Unit) hn hB () W W' row h hg hr
end Go.Proofs.YtmcfciifjgdgoaaGreatDoor

/- Stage 8: slices.Backward over slices: the rounds come from the last one down to the first one. -/
import Derived.RangeFuncNested
import Derived.RangeFuncBound
import Derived.RangeFuncCalls
import Derived.RangeFuncLeaves
import Derived.Shelf.Abstract
import Derived.Shelf.RegionOpen
import Derived.WalkKit
import Derived.OwnWalkIn
import Derived.TacticsInMore
import Derived.LoopNIn
import Derived.LoopIn
import Derived.Test.YtilikjfjbnabfaaGreatDoorOwn
import Derived.Test.YtilikjfjbnabfaaGreatDoorProg
namespace Go.Proofs.YtilikjfjbnabfaaGreatDoor
open Go.RowKit Go.Shelf
attribute [local go_sem] Oper.semAt_some

/-- The element at a place. -/
def elOf (vs : List Value) (j : Nat) : Value := vs.getD j (.slice none 0 0)
/-- What a round is handed: the place, from the end, and the element. -/
def bkEnc (n : Nat) (vs : List Value) (x : Nat) : Array Value := #[.int .i64 ((n - 1 - x : Nat) : Int), elOf vs (n - 1 - x)]
/-- What the iterator reads: its box, and the elements. -/
def BkRd (Bs g n : Nat) (vs : List Value) (W : World) : Prop :=
  W.cell? ⟨Bs, 0, none⟩ = some (.slice (some ⟨g, 0, none⟩) n n) ∧ ∀ j, j < n → W.cell? ⟨g, j, none⟩ = some (elOf vs j)
/-- What has come. -/
def BkCame (n : Nat) (pre : List Nat) : Prop := pre = List.range pre.length ∧ pre.length ≤ n
theorem BkCame.nil (n : Nat) : BkCame n [] := ⟨rfl, Nat.zero_le _⟩
theorem BkCame.snoc {n : Nat} {pre : List Nat} (h : BkCame n pre) (hn : pre.length < n) : BkCame n (pre ++ [pre.length]) :=
  ⟨by rw [List.length_append, List.length_singleton, List.range_succ, ← h.1], by rw [List.length_append, List.length_singleton]; omega⟩
theorem BkCame.of_snoc {n : Nat} {pre : List Nat} {x : Nat} (h : BkCame n (pre ++ [x])) : BkCame n pre ∧ x = pre.length ∧ pre.length < n := by
  obtain ⟨h1, h2⟩ := h
  rw [List.length_append, List.length_singleton] at h2
  rw [List.length_append, List.length_singleton, List.range_succ] at h1
  have h3 := List.append_inj h1 (by simp)
  exact ⟨⟨h3.1, by omega⟩, by simpa using h3.2, by omega⟩
def BkEnd (n : Nat) (J Jx : List Nat → World → Prop) (e : Ending) (W' : World) : Prop :=
  (∃ v, e = .returned v) ∧ ((∃ ys, (BkCame n ys ∧ ys.length = n) ∧ J ys W') ∨ (∃ pre, BkCame n pre ∧ Jx pre W'))

set_option maxRecDepth 100000 in
set_option maxHeartbeats 2000000 in
theorem bk1_in (F : Fence) (m : Nat) (hF : F.fn 66) (hro : F.round = none) (hm : 1 ≤ m) (l Bs g n : Nat) (vs : List Value) (hn : n ≤ 100000) (J Jx : List Nat → World → Prop)
    (hY : ∀ pre x W, J pre W → pre.length < n → YieldAt F (m - 1) Tryz.prog l (bkEnc n vs x) W fun e W' =>
      (e = .returned (.bool true) ∧ J (pre ++ [x]) W' ∧ (BkRd Bs g n vs W → BkRd Bs g n vs W')) ∨ (e = .returned (.bool false) ∧ Jx (pre ++ [x]) W'))
    (W : World) (hR : BkRd Bs g n vs W) (h0 : J [] W) :
    CallsIn F m Tryz.prog 66 #[.func (.yield l) #[] #[], .pointer (some ⟨Bs, 0, none⟩)] W (BkEnd n J Jx) := by
  have HY := hid hY
  have HR := hid hR
  have hbx := hR.1
  clear hY hR
  refine callsIn_of_wp Tryz.func66 rfl hF ?_ hro
  simp only [Tryz.ntmps66, List.size_toArray, List.length_cons, List.length_nil, Nat.reduceAdd, Nat.reduceSub, Array.replicate_succ, Array.replicate_zero, List.push_toArray, List.append_toArray, List.nil_append, List.cons_append]
  gi_wp2
  gi_loopw [3] (fun i wr => ∃ (k : Nat) (pre : List Nat), i = .int .i64 ((k : Int) - 1) ∧ k + pre.length = n ∧ J pre wr ∧ Hid (BkRd Bs g n vs wr) ∧ Hid (BkCame n pre))
    (fun i _ => (intOf i + 1).toNat)
  case atStart => exact ⟨n, [], rfl, by simp, h0, HR, hid (BkCame.nil _)⟩
  case round =>
    clear HR h0 hbx
    obtain ⟨k, pre, rfl, hk, hJs, HRd, HC⟩ := hrel
    have hbx := HRd.out.1
    rcases Nat.eq_zero_or_pos k with h0 | h0
    · subst h0
      have HE := hid (show pre.length = n by omega)
      gi_wp2
      go_end0
      exact ⟨⟨_, rfl⟩, .inl ⟨pre, ⟨HC.out, HE.out⟩, hJs⟩⟩
    · obtain ⟨q, rfl⟩ : ∃ q, k = q + 1 := ⟨k - 1, by omega⟩
      have hc := HRd.out.2 q (by omega)
      obtain ⟨fn, tmps, assign, body, hy, hRr⟩ := HY.out _ pre.length wr hJs (by omega)
      have e1 : n - 1 - pre.length = q := by omega
      unfold bkEnc at hy
      rw [e1] at hy
      generalize elOf vs q = v at *
      have HC2 := hid (HC.out.snoc (by omega))
      have HL := hid (show q + (pre ++ [pre.length]).length = n by simp; omega)
      have hqn : (q : Int) < (n : Int) := by omega
      clear e1 hk h0
      gi_wp2
      refine hRr.mono ?_
      rintro e W3 (⟨rfl, hJ3, hk3⟩ | ⟨rfl, hJx3⟩)
      · have HK := hid (hk3 HRd.out)
        clear hk3
        gi_wp2
        go_roundw
        case rel => exact ⟨q, _, by simp, HL.out, hJ3, HK, HC2⟩
        case measure => simp [intOf]
      · clear hy hRr
        gi_wp2
        refine bodyPost_ret (results_none rfl _ _ _) rfl ?_
        exact ⟨⟨_, rfl⟩, .inr ⟨_, HC2.out, hJx3⟩⟩

set_option maxHeartbeats 1000000 in
/-- The slice value is boxed; the function value captures the box. -/
theorem bk_in (F : Fence) (m : Nat) (hF : F.fn 50) (hro : F.round = none) (a : Option Addr) (n c : Nat) (w : World) :
    CallsIn F m Tryz.prog 50 #[.slice a n c] w fun e w' => e = .returned (.func (.func 66) #[] #[.pointer (some ⟨w.heap.size, 0, none⟩)]) ∧ w' = w.alloc (.cells #[.slice a n c] 37) := by
  refine callsIn_of_wp Tryz.func50 rfl hF ?_ hro
  simp only [Tryz.ntmps50, List.size_toArray, List.length_cons, List.length_nil, Nat.reduceAdd, Nat.reduceSub, Array.replicate_succ, Array.replicate_zero, List.push_toArray, List.append_toArray, List.nil_append, List.cons_append]
  gi_wp2
  go_ret
  exact ⟨rfl, rfl⟩

theorem BkRd.kept {Bs g n : Nat} {vs : List Value} {W W' : World} {row : Option Nat} (h : BkRd Bs g n vs W) (hg : W.grownBy W' row) (hr : ∀ r, row = some r → ∃ o : Obj, W.heap[r]? = some o ∧ o.isCells = false) : BkRd Bs g n vs W' :=
  ⟨cell_kept h.1 hg hr, fun j hj => cell_kept (h.2 j hj) hg hr⟩
theorem bk_stops (F : Fence) (m : Nat) (hF : F.fn 66) (hro : F.round = none) (hm : 1 ≤ m) (Bs g n : Nat) (vs : List Value) (hn : n ≤ 100000) (w : World) (hR : ∀ W, Below w.heap.size w W → BkRd Bs g n vs W) :
    SeqStopsK F m Tryz.prog 66 #[.pointer (some ⟨Bs, 0, none⟩)] (bkEnc n vs) (fun W W' => BkRd Bs g n vs W → BkRd Bs g n vs W') (fun ys => BkCame n ys ∧ ys.length = n)
      (fun pre => BkCame n pre) n w := fun l J Jx W hW _ _ hY h0 =>
  bk1_in F m hF hro hm l Bs g n vs hn J Jx hY W (hR W hW) h0
theorem bk_t {R : World → Prop} {A B C : World} (h : R A → R B) (k : R B → R C) : R A → R C := fun x => k (h x)
theorem bk_b {Bs g n : Nat} {vs : List Value} {w : World} (W : World) (l : Nat) (o o' : Obj) (_ : w.heap.size ≤ l) (h : W.heap[l]? = some o) (ho : o.isCells = false) (_ : o.isWalk = false) : BkRd Bs g n vs W → BkRd Bs g n vs (W.putObj l o') :=
  fun x => x.kept (grownBy_putObj' W l o') (fun r e => by cases e; exact ⟨o, h, ho⟩)
/-- Block 'g' is just these cells: it abides. -/
theorem Blk.keptR {W W' : World} {row : Option Nat} {g : Nat} {t : TypeId} {cs : Array Value} (h : Blk W g t cs) (hg : W.grownBy W' row) (hr : ∀ r, row = some r → ∃ o : Obj, W.heap[r]? = some o ∧ o.isCells = false) : Blk W' g t cs :=
  (grownBy_keeps_cells hg hr h rfl).trans h
theorem below_keptR {n0 B : Nat} {w0 W W' : World} {row : Option Nat} (h : Below n0 w0 W) (hn : n0 ≤ w0.heap.size) (hB : n0 ≤ B) (hg : W.grownBy W' row) (hr : ∀ r, row = some r → B ≤ r ∧ ∃ o : Obj, W.heap[r]? = some o ∧ o.isCells = false) : Below n0 w0 W' :=
  ownFrom_below (β := Unit) hn hB () W W' row h hg hr

/-! ### Marks among the deferred calls -/
/-- Marks of loops that have ended, from block B on. -/
def Marks (B : Nat) (ds : List Deferred) (w : World) : Prop := ∃ bs : List Nat, ds = bs.map (fun D => { target := .collected D, args := #[] }) ∧ bs.Nodup ∧ ∀ D ∈ bs, B ≤ D ∧ w.heap[D]? = some (.deferred (some []))
theorem Marks.nil (B : Nat) (w : World) : Marks B [] w := ⟨[], rfl, List.nodup_nil, by simp⟩
theorem Marks.keep {B : Nat} {ds : List Deferred} {w w' : World} (h : Marks B ds w) (hk : ∀ D, B ≤ D → w.heap[D]? = some (.deferred (some [])) → w'.heap[D]? = some (.deferred (some []))) : Marks B ds w' := by
  obtain ⟨bs, h1, h2, h3⟩ := h
  exact ⟨bs, h1, h2, fun D hD => ⟨(h3 D hD).1, hk D (h3 D hD).1 (h3 D hD).2⟩⟩
theorem Marks.next {B D : Nat} {ds : List Deferred} {w0 w : World} (h : Marks B ds w0) (hB : B ≤ w0.heap.size) (hD0 : w0.heap.size ≤ D) (hD : w.heap[D]? = some (.deferred (some []))) (hk : ∀ k : Nat, k < w0.heap.size → w0.heap[k]? = some (.deferred (some [])) → w.heap[k]? = some (.deferred (some []))) : Marks B ({ target := .collected D, args := #[] } :: ds) w := by
  obtain ⟨bs, h1, h2, h3⟩ := h
  have hlt : ∀ k ∈ bs, k < w0.heap.size := fun k hk' => (Array.getElem?_eq_some_iff.1 (h3 k hk').2).1
  refine ⟨D :: bs, by rw [h1]; rfl, List.nodup_cons.2 ⟨fun hm => by have := hlt D hm; omega, h2⟩, fun k hk' => ?_⟩
  rcases List.mem_cons.1 hk' with rfl | hk'
  · exact ⟨by omega, hD⟩
  · exact ⟨(h3 k hk').1, hk k (hlt k hk') (h3 k hk').2⟩
/-- All marks are taken; the frame leaves. -/
theorem leaves_marks {F : Fence} {n : Nat} {P : Program} {fn : Func} {tmps : Array Value} {R : Ending → World → Prop} {B : Nat} : ∀ (bs : List Nat) (w : World), bs.Nodup → (∀ D ∈ bs, B ≤ D ∧ w.heap[D]? = some (.deferred (some []))) →
    (∀ w', Below B w w' → w'.heap.size = w.heap.size → (∀ k : Nat, (∀ D, w.heap[k]? ≠ some (Obj.deferred D)) → w'.heap[k]? = w.heap[k]?) → LeavesIn F n P fn tmps R [] .returning w') → LeavesInM F n P fn tmps R (bs.map (fun D => { target := .collected D, args := #[] })) .returning w
  | [], w, _, _, h => h w (Below.refl _ _) rfl (fun _ _ => rfl)
  | D :: bs, w, hn, hb, h => by
    obtain ⟨n1, n2⟩ := List.nodup_cons.1 hn
    obtain ⟨b1, b2⟩ := hb D (by simp)
    have hne : ∀ k, k ≠ D → (w.putObj D (.deferred none)).heap[k]? = w.heap[k]? := fun k hk => by
      simp only [World.putObj]
      rw [Array.getElem?_setIfInBounds_ne (fun e => hk e.symm)]
    have hlt : D < w.heap.size := (Array.getElem?_eq_some_iff.1 b2).1
    have hself : (w.putObj D (.deferred none)).heap[D]? = some (.deferred none) := by simp [World.putObj, hlt]
    refine ⟨by simp, .inl ⟨D, w.putObj D (.deferred none), rfl, run_takeDeferred b2, ?_⟩⟩
    refine leaves_marks (B := B) bs _ n2 (fun k hk => ?_) fun w' h1 h2 h3 => ?_
    · obtain ⟨c1, c2⟩ := hb k (by simp [hk])
      exact ⟨c1, by rw [hne k (fun e => n1 (e ▸ hk))]; exact c2⟩
    · refine h w' ?_ ?_ fun k hk => ?_
      · exact Below.trans ((Below.refl B w).grown (grownBy_putObj' w D _) (by omega) (fun k e => by cases e; exact b1)) h1
      · rw [h2]; simp [World.putObj]
      · have hkD : k ≠ D := fun e => by subst e; exact hk _ b2
        rw [h3 k (fun E => by rw [hne k hkD]; exact hk E), hne k hkD]
end Go.Proofs.YtilikjfjbnabfaaGreatDoor

/- The walks of package pack, reading: bytes.Clone, Read, fail, Int. -/
import Derived.Test.YtglekjhbpdoofaaDoorProg
import Derived.Test.YtglekjhbpdoofaaDoorKept2
import Derived.Test.YtglekjhbpdoofaaDoorPkP
import Derived.Test.YtglekjhbpdoofaaDoorVi3
namespace Go.Proofs.YtglekjhbpdoofaaDoor
open Go.RowKit

theorem v6_u8 : (Tryd.prog.info? 5).map (fun i => (i.zero, i.size, i.bytes)) = some (some (.int .u8 0), 1, 1) := by kernel_rfl

def ClonePost (w : World) (xs : List Nat) (e : Ending) (w' : World) : Prop :=
  ∃ A' c', e = .returned (.slice A' xs.length c') ∧ Row w' w.heap.size 5 1 A' xs.length c' (numCells .u8 xs) ∧ Grew w w'
set_option maxRecDepth 100000 in
set_option maxHeartbeats 1000000 in
theorem clone_c (A : Option Addr) (c : Nat) (xs : List Nat) (w : World) (ha : NumsAt .u8 w w.heap.size A xs) (hl : xs.length ≤ 140737488355328) :
    Calls Tryd.prog 25 #[.slice A xs.length c] w (ClonePost w xs) := by
  have HA := hid ha
  have HL := hid hl
  have q22 : ∀ (w : World) (a : Option Addr) (n c n' c' : Nat), (binOp .eql 23 (.slice a n c) (.slice none n' c')).run Tryd.prog w = .ok (.bool a.isNone) w := fun w a n c n' c' => Lib.run_eql_slice_nil w _ _ a n c n' c' Tryd.underlying23
  clear ha hl
  cases A with
  | none =>
    have h0 : xs = [] := List.eq_nil_of_length_eq_zero (HA.out.cells.1 rfl)
    subst h0
    go_enter Tryd.func25, Tryd.ntmps25
    go_wp2_with fail
    go_ret
    exact ⟨none, 0, rfl, Row.nil _ _ _ _, Grew.refl _⟩
  | some ad =>
    go_enter Tryd.func25, Tryd.ntmps25
    go_wp2_with (at_builtin; refine wpList_catR (.int .u8 0) 1 1 (w.alloc (.cells #[] 5)) rfl _ _ 23 5 rfl Tryd.underlying23 v6_u8 rfl (by decide) w.heap.size (by simp) _ 0 0 [] rfl (Row.made (Nat.le_refl _)) (some ad) xs.length c (numCells .u8 xs) rfl (by simp [numCells]) (numCells_one _ _) (by intro h; cases h) (HA.out.grew ((Grew.refl w).alloc _)).cells.2 (by have := HL.out; omega) (by have := HL.out; omega) ?_; rintro A1 c1 w1 hR hK _)
    go_ret
    refine ⟨A1, c1, by simp, by simpa using hR, ?_⟩
    exact hK.grew ((Grew.refl w).alloc _) (fun k hk => by obtain ⟨ad, h1, h2⟩ := hk; cases h1; rw [← h2]; exact Nat.le_refl _)

/-- A Reader at block 'g'; its bytes lie between the blocks 'lo' and 'g'. -/
def RdAt (w : World) (lo g : Nat) (st : Pk.St) : Prop :=
  ∃ A c, Blk w g 64 #[.slice A (Pk.rest st).length c, .bool st.isNone] ∧ BytesAt w g A (Pk.rest st) ∧ (∀ ad, A = some ad → lo ≤ ad.block ∧ ad.block < g) ∧ (Pk.rest st).length ≤ c ∧ c ≤ 9223372036854775807
theorem RdAt.lt {w : World} {lo g : Nat} {st : Pk.St} (h : RdAt w lo g st) : g < w.heap.size := by
  obtain ⟨A, c, h1, _⟩ := h
  exact h1.lt
theorem RdAt.kept {F : Nat → Prop} {w w' : World} {lo g : Nat} {st : Pk.St} (h : RdAt w lo g st) (hk : Kept F w w') (hF : ∀ k, lo ≤ k → k ≤ g → ¬ F k) (hlo : lo ≤ g) : RdAt w' lo g st := by
  have hlt := h.lt
  obtain ⟨A, c, h1, h2, h3, h4, h5⟩ := h
  exact ⟨A, c, h1.kept hk (hF g hlo (Nat.le_refl _)), ⟨h2.1, NumsAt.kept (NumsAt.of_bytes h2) hk (by omega) (fun ad e => hF _ (h3 ad e).1 (Nat.le_of_lt (h3 ad e).2))⟩, h3, h4, h5⟩
theorem RdAt.grew {w w' : World} {lo g : Nat} {st : Pk.St} (h : RdAt w lo g st) (hg : Grew w w') (hlo : lo ≤ g) : RdAt w' lo g st := h.kept (F := fun _ => False) (.of_grew hg) (fun _ _ _ h => h) hlo

def ReadPost (w : World) (xs : List Nat) (e : Ending) (w' : World) : Prop :=
  ∃ g, e = .returned (.pointer (some ⟨g, 0, none⟩)) ∧ w.heap.size ≤ g ∧ RdAt w' w.heap.size g (some xs) ∧ Grew w w'
set_option maxRecDepth 100000 in
set_option maxHeartbeats 1000000 in
theorem read_c (A : Option Addr) (c : Nat) (xs : List Nat) (w : World) (ha : BytesAt w w.heap.size A xs) (hl : xs.length ≤ 140737488355328) :
    Calls Tryd.prog 16 #[.slice A xs.length c] w (ReadPost w xs) := by
  have HA := hid ha
  have HC := hid (clone_c A c xs w (NumsAt.of_bytes ha) hl)
  clear ha hl
  go_enter Tryd.func16, Tryd.ntmps16
  go_wp2_with fail
  refine HC.out.mono ?_
  rintro e w1 ⟨A1, c1, rfl, hR, hG⟩
  have HR := hid hR
  have HG := hid hG
  clear hR hG HC
  go_wp2_with fail
  go_ret
  refine ⟨w1.heap.size, rfl, HG.out.below.size, ⟨A1, c1, Blk.new _ _ _, ⟨HA.out.1, fun hn => ?_⟩, fun ad had => ?_, HR.out.cases.2.1, HR.out.cases.2.2.1⟩, HG.out.alloc _⟩
  · obtain ⟨ad, e, hb, hc⟩ := HR.out.nums hn
    exact ⟨ad, e, hb, fun j hj => by rw [World.cell?_alloc_lt _ _ _ (by rw [block_add]; exact hb)]; exact hc j hj⟩
  · rcases HR.out.cases with ⟨_, _, _, ⟨h0, _⟩ | ⟨g, h1, h2, h3, _⟩⟩
    · rw [h0] at had; cases had
    · rw [h1] at had
      cases had
      exact ⟨h2, h3⟩

def FailPost (w : World) (g : Nat) (e : Ending) (w' : World) : Prop :=
  e = .returned (.tuple #[]) ∧ Blk w' g 64 #[.slice none 0 0, .bool true] ∧ Kept (· = g) w w'
set_option maxRecDepth 100000 in
set_option maxHeartbeats 1000000 in
theorem fail_c (g : Nat) (v0 v1 : Value) (w : World) (h : Blk w g 64 #[v0, v1]) :
    Calls Tryd.prog 27 #[.pointer (some ⟨g, 0, none⟩)] w (FailPost w g) := by
  have HB := hid h
  have c0 := h.cell 0
  have c1 := h.cell 1
  have f0 := h.frozen 0
  have f1 := h.frozen 1
  simp only [List.getElem?_toArray, List.getElem?_cons_zero, List.getElem?_cons_succ] at c0 c1
  have hlt := h.lt
  clear h
  go_enter Tryd.func27, Tryd.ntmps27
  go_wp2_with fail
  go_end0
  refine ⟨rfl, ?_, ?_⟩
  · have := (HB.out.put 0 (.slice none 0 0)).put 1 (.bool true)
    simpa using this
  · exact Kept.setCell (F := (· = g)) (Kept.setCell (F := (· = g)) (Kept.refl _ _) (p := ⟨g, 0, none⟩) (fun _ => rfl) _) (p := ⟨g, 1, none⟩) (fun _ => rfl) _
end Go.Proofs.YtglekjhbpdoofaaDoor

/- Texts of this claim in one: Rng Iter3. -/
import Derived.RangeFuncNested
import Derived.RangeFuncCalls
import Derived.RangeFuncLeaves
import Derived.WalkKit
import Derived.Test.YtmcfciifjgdgoaaDoorMg18
section
/- A range over a function whose rounds come in a known order: each round may rely on what has come before it. Every round ends at its end. No program is named here. -/
namespace Go.Proofs.YtmcfciifjgdgoaaDoor
open Go.RowKit

/-- What an iterator owes: it hands on only what is due ('X'), and ends when all has come ('S'); whatever is kept between the rounds implies 'I'. -/
def SeqX {α : Type} (n : Nat) (P : Program) (gf : Nat) (lb : Array Value) (encs : α → Array Value) (X : List α → α → Prop) (S : List α → Prop) (I : List α → World → Prop) : Prop :=
  ∀ (l : Nat) (J : List α → World → Prop) (W : World), (∀ pre W', J pre W' → I pre W') →
    (∀ pre x W1, J pre W1 → X pre x → YieldAt Fence.wide (n - 1) P l (encs x) W1 fun e W' => e = .returned (.bool true) ∧ J (pre ++ [x]) W') →
    J [] W → CallsIn Fence.wide n P gf (#[.func (.yield l) #[] #[]] ++ lb) W fun e W' => (∃ v, e = .returned v) ∧ ∃ xs, S xs ∧ J xs W'

/-- How a round may end: at its end; what is no cells from 'b' on is as it was, and what is kept is kept. -/
def RoundPost {α : Type} (b : Nat) (I : List α → World → Prop) (xs : List α) (W : World) (e : Exit) (_ : Act) (W' : World) : Prop := e = .normal ∧ KeepsFrom b W W' ∧ I xs W'

theorem wpIn_rangeX {α : Type} {dp : Nat} {P : Program} {g : Operand} {ps : Array Tmp} {assign body : Code} {Q : Exit → Act → World → Prop} {a : Act} {w : World} {gf : Nat} {lb : Array Value}
    (hg : a.eval g = .func (.func gf) #[] lb) (eg : ∀ args w, (callFunc gf args).run P w = .ok (.enter gf args) w) {encs : α → Array Value} {X : List α → α → Prop} {S : List α → Prop}
    (I : List α → World → Prop) (hI : OwnFrom w.heap.size I) (h0 : I [] w) (hps : ∀ x, (encs x).size = ps.size) (hseq : SeqX (dp - 1) P gf lb encs X S I) (a₁ : α → Act)
    (hassign : ∀ (l : Nat) (x : α) (W : World) (K : Act → World → Prop), K (a₁ x) W →
      assign.wpIn (Fence.wide.inRound l) (dp - 1 - 1) P (Exit.then K (fun _ _ _ => False)) { tmps := (ps.zip (encs x)).foldl (fun t (p, v) => t.setIfInBounds p v) a.tmps, defers := [] } W)
    (hbody : ∀ (l : Nat) (pre : List α) (x : α) (W : World), I pre W → X pre x → body.wpIn (Fence.wide.inRound l) (dp - 1 - 1) P (RoundPost w.heap.size I (pre ++ [x]) W) (a₁ x) W)
    (hdone : ∀ (D : Nat) (xs : List α) (W : World), w.heap.size ≤ D → S xs → I xs W → W.heap[D]? = some (.deferred (some [])) → Q .normal { a with defers := { target := .collected D, args := #[] } :: a.defers } W) :
    (Code.rangeFunc g ps assign body).wpIn Fence.wide dp P Q a w := by
  have hnd : ∀ {p : Prop}, (Fence.wide.depth.isSome = true → p) := fun h => by simp [Fence.wide] at h
  refine wpIn_rangeFunc fun fn _ => ?_
  -- the loop's record, as it stands at any time
  obtain ⟨rc, hrc⟩ : ∃ rc : LoopState → Loop, rc = fun st => { state := st, pending := none, fn := fn, tmps := a.tmps, params := ps, assign := assign, body := body, defers := w.heap.size } := ⟨_, rfl⟩
  obtain ⟨V, hV⟩ : ∃ V, V = (w.alloc (.deferred (some []))).alloc (.loop (rc .ready)) := ⟨_, rfl⟩
  have vD : V.heap[w.heap.size]? = some (.deferred (some [])) := by
    rw [hV]
    exact (Below.heap_alloc _ _ _ (by simp)).trans (World.alloc_heap_new w _)
  have vL : V.heap[w.heap.size + 1]? = some (.loop (rc .ready)) := by
    rw [hV]
    have := World.alloc_heap_new (w.alloc (.deferred (some []))) (.loop (rc .ready))
    rwa [World.size_alloc] at this
  have vI : I [] V := by rw [hV]; exact hI.alloc _ (hI.alloc _ h0)
  have hent := run_enterLoop_outer (P := P) (w := w) fn a.tmps ps assign body
  refine ⟨w.heap.size + 1, _, V, { target := .fn (.func gf) lb, args := #[.func (.yield (w.heap.size + 1)) #[] #[]] }, V, gf, #[.func (.yield (w.heap.size + 1)) #[] #[]] ++ lb, V, by rw [hV, hrc]; exact hent, ?_, fun _ _ => trivial, ?_, hnd, ?_⟩
  · simp only [resolve, hg]; simp [go_sem]
  · simp [invoke, go_sem, eg]
  refine (hseq (w.heap.size + 1) (fun pre W => I pre W ∧ W.heap[w.heap.size + 1]? = some (.loop (rc .ready)) ∧ W.heap[w.heap.size]? = some (.deferred (some []))) V (fun _ _ h => h.1) ?_ ⟨vI, vL, vD⟩).mono ?_
  · rintro pre x W ⟨hi, hl, hk⟩ hX
    have hy := run_yield (P := P) (args := encs x) hl (by rw [hrc]; exact hps x)
    rw [hrc] at hy
    refine ⟨fn, _, assign, body, hy, roundIn_of_wpIn trivial (hassign _ x W _ ?_)⟩
    refine ⟨_, run_beginRound hl (by rw [hrc]), ?_⟩
    have hlt : w.heap.size + 1 < W.heap.size := (Array.getElem?_eq_some_iff.1 hl).1
    have bL := World.putObj_heap_same (w := W) (o := .loop { rc .ready with state := .busy }) hlt
    have bD : (W.putObj (w.heap.size + 1) (.loop { rc .ready with state := .busy })).heap[w.heap.size]? = some (.deferred (some [])) := (World.putObj_heap_other (by omega)).trans hk
    refine wpIn_mono (hbody _ pre x _ (hI.putObj _ hi (by omega) hl rfl) hX) ?_
    rintro e a3 W3 ⟨rfl, hk3, hi3⟩
    have cL := hk3.same _ _ (by omega) bL rfl
    have cD := hk3.same _ _ (Nat.le_refl _) bD rfl
    have hr := run_endRound (P := P) none cL
    refine ⟨_, _, hr, rfl, hI.putObj _ hi3 (by omega) cL rfl, ?_, (World.putObj_heap_other (by omega)).trans cD⟩
    rw [World.putObj_heap_same (Array.getElem?_eq_some_iff.1 cL).1, hrc]
    rfl
  · rintro e W2 ⟨⟨v, rfl⟩, xs, hS, hi, hl, hk⟩
    have hr := run_endLoop (P := P) hl (by rw [hrc]; simp)
    rw [hrc] at hr
    exact ⟨none, _, hr, hdone _ xs _ (Nat.le_refl _) hS (hI.putObj _ hi (by omega) (by rw [hrc] at hl; exact hl) rfl) ((World.putObj_heap_other (by omega)).trans hk)⟩
end Go.Proofs.YtmcfciifjgdgoaaDoor
end

section
/- slices.Backward over words, each round's place known to the round. -/
namespace Go.Proofs.YtmcfciifjgdgoaaDoor
open Go.RowKit Go.Shelf
attribute [local go_sem] Oper.semAt_some

def anyWord (_ _ : Nat) : Prop := True
/-- The next place is due. -/
def BwX (n : Nat) (pre : List (Nat × Nat)) (x : Nat × Nat) : Prop := x.1 = pre.length ∧ pre.length < n

set_option maxRecDepth 100000 in
set_option maxHeartbeats 2000000 in
theorem back_x (m Bs n c : Nat) (A : Option Addr) (hm : 1 ≤ m) (hn : n ≤ 100000) (I : List (Nat × Nat) → World → Prop) (hR : ∀ pre W, I pre W → BwRd Bs n A c anyWord W) :
    SeqX m Tryd.prog 71 #[.pointer (some ⟨Bs, 0, none⟩)] (bwEnc n) (BwX n) (fun ys => ys.length = n) I := by
  intro l J W hJI hY h0
  have HY := hid hY
  have HI := hid (fun pre W' (h : J pre W') => hR pre W' (hJI pre W' h))
  have hbx := (HI.out _ _ h0).1
  clear hY hJI hR
  refine callsIn_of_wp Tryd.func71 rfl trivial ?_ rfl
  simp only [Tryd.ntmps71, List.size_toArray, List.length_cons, List.length_nil, Nat.reduceAdd, Nat.reduceSub, Array.replicate_succ, Array.replicate_zero, List.push_toArray, List.append_toArray, List.nil_append, List.cons_append]
  gi_wp2
  gi_loopw [3] (fun i wr => ∃ (k : Nat) (pre : List (Nat × Nat)), i = .int .i64 ((k : Int) - 1) ∧ k + pre.length = n ∧ J pre wr)
    (fun i _ => (intOf i + 1).toNat)
  case atStart => exact ⟨n, [], rfl, by simp, h0⟩
  case round =>
    clear h0 hbx
    obtain ⟨k, pre, rfl, hk, hJs⟩ := hrel
    have HRd := hid (HI.out _ _ hJs)
    have hbx := HRd.out.1
    rcases Nat.eq_zero_or_pos k with h0 | h0
    · subst h0
      have HE := hid (show pre.length = n by omega)
      gi_wp2
      go_end0
      exact ⟨⟨_, rfl⟩, pre, HE.out, hJs⟩
    · obtain ⟨q, rfl⟩ : ∃ q, k = q + 1 := ⟨k - 1, by omega⟩
      obtain ⟨ad, v, rfl, hv, _, hc⟩ := HRd.out.2 q (by omega)
      obtain ⟨fn, tmps, assign, body, hy, hRr⟩ := HY.out pre (pre.length, v) wr hJs ⟨rfl, by omega⟩
      have e1 : n - 1 - pre.length = q := by omega
      unfold bwEnc at hy
      dsimp only at hy
      rw [e1, wordOf_eq hv] at hy
      have HL := hid (show q + (pre ++ [(pre.length, v)]).length = n by simp; omega)
      have hqn : (q : Int) < (n : Int) := by omega
      clear e1 hk h0
      gi_wp2
      refine hRr.mono ?_
      rintro e W3 ⟨rfl, hJ3⟩
      gi_wp2
      go_roundw
      case rel => exact ⟨q, _, by simp, HL.out, hJ3⟩
      case measure => simp [intOf]
end Go.Proofs.YtmcfciifjgdgoaaDoor
end

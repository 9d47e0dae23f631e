/- A range over a function whose rounds come in a known order; plain regions within a round; slices.Backward over numbers. -/
import Derived.RangeFuncNested
import Derived.RangeFuncBound
import Derived.RangeFuncCalls
import Derived.RangeFuncLeaves
import Derived.Shelf.Abstract
import Derived.Shelf.RegionOpen
import Derived.WalkKit
import Derived.OwnWalkIn
import Derived.TacticsInMore
import Derived.LoopNIn
import Derived.LoopIn
import Derived.Test.YtjladeiecokpfaaGreatDoorZBase
import Derived.Test.YtjladeiecokpfaaGreatDoorProg
namespace Go.Proofs.YtjladeiecokpfaaGreatDoor
open Go.RowKit Go.Shelf
attribute [local go_sem] Oper.semAt_some



def noDefer (ops : Array Oper) : Bool := ops.toList.all fun o => match o.op with | .defer _ => false | _ => true
theorem noDefer_at {ops : Array Oper} (h : noDefer ops = true) {i : Nat} {o : Oper} (ho : ops[i]? = some o) (c : Call) : o.op ≠ .defer c := by
  intro e
  have hm : o ∈ ops.toList := by
    have := Array.mem_of_getElem? ho
    simpa using this
  have := List.all_eq_true.1 h o hm
  rw [e] at this
  cases this

variable {P : Program} {ops : Array Oper} {md : Region.Mode} {Q : Exit → Act → World → Prop} {n : Nat}
theorem oper_round {l : Nat} {o : Oper} {a : Act} {w : World} {K : Act → World → Prop} (hd : ∀ c, o.op ≠ .defer c) (h : o.wpIn Fence.wide n P a w K Q) : o.wpIn (Fence.wide.inRound l) n P a w K Q := by
  unfold Oper.wpIn at *
  refine ⟨h.1, ?_⟩
  have h2 := h.2
  have e : (o.semAt (Fence.wide.inRound l).round a.eval) = (o.semAt Fence.wide.round a.eval) := by
    show Oper.semAt (some l) a.eval o = Oper.semAt none a.eval o
    rw [Oper.semAt_some l a.eval o hd]
    rfl
  rw [e]
  exact h2
theorem wpAnyIn_round {l : Nat} (hd : noDefer ops = true) : ∀ (fuel : Nat) (listed : Array Bool) (a : Act) (w : World), wpAnyIn Fence.wide n P md ops Q fuel listed a w → wpAnyIn (Fence.wide.inRound l) n P md ops Q fuel listed a w
  | 0, _, _, _, h => h
  | fuel + 1, listed, a, w, h => ⟨h.1, fun i hi => by
    have h2 := wpOpIn_mono (fun a' w' hk => wpAnyIn_round (l := l) hd fuel _ a' w' hk) (h.2 i hi)
    unfold wpOpIn at *
    cases ho : ops[i]? with
    | none => simpa only [ho] using h2
    | some o =>
      simp only [ho] at h2 ⊢
      by_cases hw : Region.wanted o (yielded ops a.tmps) = true
      · simp only [hw, if_true] at h2 ⊢
        exact oper_round (noDefer_at hd ho) h2
      · simp only [hw] at h2 ⊢
        exact h2⟩
theorem region_round {l id : Nat} {a : Act} {w : World} (hm : P.follows .mixedOrders = true) (hd : noDefer ops = true) (h : wpAnyIn Fence.wide n P .any ops Q ops.size (Array.replicate ops.size false) a w.drew) : (Code.region id ops true).wpIn (Fence.wide.inRound l) n P Q a w :=
  wpIn_region_any hm (wpAnyIn_round hd _ _ _ _ h)

/-- What an iterator owes: it hands on only what is due ('X'), and ends when all has come ('S'); whatever is kept between the rounds implies 'I'. -/
def SeqX {α : Type} (n : Nat) (P : Program) (gf : Nat) (lb : Array Value) (encs : α → Array Value) (X : List α → α → Prop) (S : List α → Prop) (I : List α → World → Prop) : Prop :=
  ∀ (l : Nat) (J : List α → World → Prop) (W : World), (∀ pre W', J pre W' → I pre W') →
    (∀ pre x W1, J pre W1 → X pre x → YieldAt Fence.wide (n - 1) P l (encs x) W1 fun e W' => e = .returned (.bool true) ∧ J (pre ++ [x]) W') →
    J [] W → CallsIn Fence.wide n P gf (#[.func (.yield l) #[] #[]] ++ lb) W fun e W' => (∃ v, e = .returned v) ∧ ∃ xs, S xs ∧ J xs W'

/-- How a round may end: at its end; what is no cells from 'b' on is as it was, and what is kept is kept. -/
def RoundPost {α : Type} (b : Nat) (I : List α → World → Prop) (xs : List α) (W : World) (e : Exit) (_ : Act) (W' : World) : Prop := e = .normal ∧ KeepsFrom b W W' ∧ I xs W'

theorem wpIn_rangeX {α : Type} {dp : Nat} {P : Program} {g : Operand} {ps : Array Tmp} {assign body : Code} {Q : Exit → Act → World → Prop} {a : Act} {w : World} {gf : Nat} {lb : Array Value}
    (hg : a.eval g = .func (.func gf) #[] lb) (eg : ∀ args w, (callFunc gf args).run P w = .ok (.enter gf args) w) {encs : α → Array Value} {X : List α → α → Prop} {S : List α → Prop}
    (I : List α → World → Prop) (hI : OwnFrom w.heap.size I) (h0 : I [] w) (hps : ∀ x, (encs x).size = ps.size) (hseq : SeqX (dp - 1) P gf lb encs X S I) (a₁ : α → Act)
    (hassign : ∀ (l : Nat) (x : α) (W : World) (K : Act → World → Prop), K (a₁ x) W →
      assign.wpIn (Fence.wide.inRound l) (dp - 1 - 1) P (Exit.then K (fun _ _ _ => False)) { tmps := (ps.zip (encs x)).foldl (fun t (p, v) => t.setIfInBounds p v) a.tmps, defers := [] } W)
    (hbody : ∀ (l : Nat) (pre : List α) (x : α) (W : World), I pre W → X pre x → body.wpIn (Fence.wide.inRound l) (dp - 1 - 1) P (RoundPost w.heap.size I (pre ++ [x]) W) (a₁ x) W)
    (hdone : ∀ (D : Nat) (xs : List α) (W : World), w.heap.size ≤ D → S xs → I xs W → W.heap[D]? = some (.deferred (some [])) → Q .normal { a with defers := { target := .collected D, args := #[] } :: a.defers } W) :
    (Code.rangeFunc g ps assign body).wpIn Fence.wide dp P Q a w := by
  have hnd : ∀ {p : Prop}, (Fence.wide.depth.isSome = true → p) := fun h => by simp [Fence.wide] at h
  refine wpIn_rangeFunc fun fn _ => ?_
  -- the loop's record, as it stands at any time
  obtain ⟨rc, hrc⟩ : ∃ rc : LoopState → Loop, rc = fun st => { state := st, pending := none, fn := fn, tmps := a.tmps, params := ps, assign := assign, body := body, defers := w.heap.size } := ⟨_, rfl⟩
  obtain ⟨V, hV⟩ : ∃ V, V = (w.alloc (.deferred (some []))).alloc (.loop (rc .ready)) := ⟨_, rfl⟩
  have vD : V.heap[w.heap.size]? = some (.deferred (some [])) := by
    rw [hV]
    exact (Below.heap_alloc _ _ _ (by simp)).trans (World.alloc_heap_new w _)
  have vL : V.heap[w.heap.size + 1]? = some (.loop (rc .ready)) := by
    rw [hV]
    have := World.alloc_heap_new (w.alloc (.deferred (some []))) (.loop (rc .ready))
    rwa [World.size_alloc] at this
  have vI : I [] V := by rw [hV]; exact hI.alloc _ (hI.alloc _ h0)
  have hent := run_enterLoop_outer (P := P) (w := w) fn a.tmps ps assign body
  refine ⟨w.heap.size + 1, _, V, { target := .fn (.func gf) lb, args := #[.func (.yield (w.heap.size + 1)) #[] #[]] }, V, gf, #[.func (.yield (w.heap.size + 1)) #[] #[]] ++ lb, V, by rw [hV, hrc]; exact hent, ?_, fun _ _ => trivial, ?_, hnd, ?_⟩
  · simp only [resolve, hg]; simp [go_sem]
  · simp [invoke, go_sem, eg]
  refine (hseq (w.heap.size + 1) (fun pre W => I pre W ∧ W.heap[w.heap.size + 1]? = some (.loop (rc .ready)) ∧ W.heap[w.heap.size]? = some (.deferred (some []))) V (fun _ _ h => h.1) ?_ ⟨vI, vL, vD⟩).mono ?_
  · rintro pre x W ⟨hi, hl, hk⟩ hX
    have hy := run_yield (P := P) (args := encs x) hl (by rw [hrc]; exact hps x)
    rw [hrc] at hy
    refine ⟨fn, _, assign, body, hy, roundIn_of_wpIn trivial (hassign _ x W _ ?_)⟩
    refine ⟨_, run_beginRound hl (by rw [hrc]), ?_⟩
    have hlt : w.heap.size + 1 < W.heap.size := (Array.getElem?_eq_some_iff.1 hl).1
    have bL := World.putObj_heap_same (w := W) (o := .loop { rc .ready with state := .busy }) hlt
    have bD : (W.putObj (w.heap.size + 1) (.loop { rc .ready with state := .busy })).heap[w.heap.size]? = some (.deferred (some [])) := (World.putObj_heap_other (by omega)).trans hk
    refine wpIn_mono (hbody _ pre x _ (hI.putObj _ hi (by omega) hl rfl) hX) ?_
    rintro e a3 W3 ⟨rfl, hk3, hi3⟩
    have cL := hk3.same _ _ (by omega) bL rfl
    have cD := hk3.same _ _ (Nat.le_refl _) bD rfl
    have hr := run_endRound (P := P) none cL
    refine ⟨_, _, hr, rfl, hI.putObj _ hi3 (by omega) cL rfl, ?_, (World.putObj_heap_other (by omega)).trans cD⟩
    rw [World.putObj_heap_same (Array.getElem?_eq_some_iff.1 cL).1, hrc]
    rfl
  · rintro e W2 ⟨⟨v, rfl⟩, xs, hS, hi, hl, hk⟩
    have hr := run_endLoop (P := P) hl (by rw [hrc]; simp)
    rw [hrc] at hr
    exact ⟨none, _, hr, hdone _ xs _ (Nat.le_refl _) hS (hI.putObj _ hi (by omega) (by rw [hrc] at hl; exact hl) rfl) ((World.putObj_heap_other (by omega)).trans hk)⟩
theorem rowsIn_of {P : Program} {row : String} {args : Array Value} {w : World} {R : Value → World → Prop} {dp : Nat} (h : Rows P row args w R) : RowsIn Fence.wide dp P row args w R := fun c cs _ =>
  let ⟨v, w', r, s⟩ := h c cs
  ⟨v, w', r, stepsIn_wide.2 s⟩
theorem oper_in {P : Program} {o : Oper} {a : Act} {w : World} {K : Act → World → Prop} {Q : Exit → Act → World → Prop} {dp : Nat} (h : o.wp P a w K Q) : o.wpIn Fence.wide dp P a w K Q := by
  unfold Oper.wpIn
  refine ⟨fun _ _ => trivial, ?_⟩
  rw [show (o.semAt Fence.wide.round a.eval) = execOp a.eval o by simp [Oper.semAt]]
  unfold Oper.wp at h
  generalize (execOp a.eval o).run P w = r at *
  have hn : ∀ {p : Prop}, (Fence.wide.depth.isSome = true → p) := fun h => by simp [Fence.wide] at h
  cases r with
  | ok x w' =>
    cases x with
    | enter f args => exact ⟨hn, callsIn_wide.2 h⟩
    | row row args => exact ⟨hn, rowsIn_of h⟩
    | _ => first | exact h | exact h.elim
  | halt x w' => cases x <;> first | exact h | exact h.elim

/-! ### Plain regions within a round -/
/-- It goes on, and nowhere else. -/
def onlyN (K : Act → World → Prop) : Exit → Act → World → Prop
  | .normal, a, w => K a w
  | _, _, _ => False
section
variable {P : Program} {ops : Array Oper} {Q : Exit → Act → World → Prop} {dp l : Nat}
theorem oper_onlyN {K K0 : Act → World → Prop} {o : Oper} {a : Act} {w : World} (h : o.wp P a w K (onlyN K0)) : o.wp P a w K Q := by
  unfold Oper.wp at *
  generalize (execOp a.eval o).run P w = r at *
  cases r with
  | ok x w' =>
    cases x with
    | enter f args =>
      rw [Oper.upon_enter] at *
      refine h.mono fun e w'' he => ?_
      cases e with
      | returned v => exact he
      | panicked c => exact he.elim
      | outgrown => obtain ⟨a, w, h⟩ := he; exact h.elim
    | _ => exact h
  | halt x w' => cases x <;> first | exact h | exact h.elim
theorem oper_in_round {K K0 : Act → World → Prop} {o : Oper} {a : Act} {w : World} (hd : ∀ c, o.op ≠ .defer c) (h : o.wp P a w K (onlyN K0)) : o.wpIn (Fence.wide.inRound l) dp P a w K Q :=
  oper_round hd (oper_in (oper_onlyN h))
theorem outN {K : Act → World → Prop} : ¬ LetsOut (onlyN K) := fun ⟨_, _, h⟩ => h
theorem list_in_round (hd : noDefer ops = true) : ∀ (r : List Oper) (a : Act) (w : World), (∀ o ∈ r, o ∈ ops.toList) → wpList P ops (onlyN (Q .normal)) r a w → wpListIn (Fence.wide.inRound l) dp P ops Q r a w
  | [], _, _, _, h => h
  | o :: r, a, w, hm, h => by
    have hdo : ∀ c, o.op ≠ .defer c := fun c e => by
      have h1 := List.all_eq_true.1 hd o (hm o (by simp))
      rw [e] at h1
      cases h1
    have ih := fun a' w' => list_in_round hd r a' w' (fun o ho => hm o (by simp [ho]))
    unfold wpList at h
    unfold wpListIn
    split at h
    · rename_i hw
      rw [if_pos hw]
      rcases h with h | ⟨_, h⟩
      · exact Oper.wpIn_mono (fun a' w' h' => ih a' w' h') (oper_in_round hdo h)
      · exact absurd h outN
    · rename_i hw
      rw [if_neg hw]
      exact ⟨fun _ _ => trivial, ih _ _ h⟩
theorem region_list_round {id : Nat} {a : Act} {w : World} {r : List Oper} (hd : noDefer r.toArray = true) (h : wpList P r.toArray (onlyN (Q .normal)) r a w) : (Code.region id r.toArray false).wpIn (Fence.wide.inRound l) dp P Q a w :=
  wpIn_region_lit (list_in_round hd r a w (fun o ho => by simpa using ho) h)
theorem any_in_round {md : Region.Mode} (hd : noDefer ops = true) : ∀ (fuel : Nat) (listed : Array Bool) (a : Act) (w : World), wpAny P md ops (onlyN (Q .normal)) fuel listed a w → wpAnyIn (Fence.wide.inRound l) dp P md ops Q fuel listed a w
  | 0, _, _, _, h => h
  | fuel + 1, listed, a, w, h => ⟨h.1, fun i hi => by
    have h2 := h.2 i hi
    unfold wpOp at h2
    unfold wpOpIn
    cases ho : ops[i]? with
    | none =>
      simp only [ho] at h2 ⊢
      exact any_in_round hd fuel _ a w h2
    | some o =>
      simp only [ho] at h2 ⊢
      split at h2
      · rename_i hw
        rw [if_pos hw]
        rcases h2 with h2 | ⟨_, h2⟩
        · exact Oper.wpIn_mono (fun a' w' h' => any_in_round hd fuel _ a' w' h') (oper_in_round (noDefer_at hd ho) h2)
        · exact absurd h2 outN
      · rename_i hw
        rw [if_neg hw]
        exact ⟨fun _ _ => trivial, any_in_round hd fuel _ _ w h2⟩⟩
theorem region_still_round {id : Nat} {a : Act} {w : World} {r : List Oper} (n : Nat) (hm : P.follows .mixedOrders = true) (hB : Region.lexTailB .any r.toArray n = true) (hd : noDefer r.toArray = true)
    (h : wpStill P r.toArray w.drew (fun a' => wpList P r.toArray (onlyN (Q .normal)) (r.drop n) a' w.drew) (r.take n) a) : (Code.region id r.toArray true).wpIn (Fence.wide.inRound l) dp P Q a w := by
  refine wpIn_region_any hm (any_in_round hd _ _ _ _ ?_)
  simp only [Region.lexTailB, Bool.and_eq_true, decide_eq_true_eq] at hB
  obtain ⟨⟨⟨⟨hsel, hn⟩, hs⟩, hc⟩, hlex⟩ := hB
  have hn' : n < r.length := by simpa using hn
  have htl : (r.take n).length = n := by simp; omega
  have hdl : (r.drop n).length = r.toArray.size - n := by simp
  have inv0 : HeadInv .any r.toArray n (Array.replicate r.toArray.size false) :=
    ⟨by simp, fun j oj _ hl => (by rw [getD_replicate_false] at hl; cases hl), fun t _ ht => getD_in (by simpa using ht) (getD_replicate_false _ _)⟩
  have H := wpAnyL_lex (md := .any) (g := r.toArray.size - n) hsel hs hc hn (r.take n) 0 _ a (fun j hj => by
    have hj' : j < n := by rw [htl] at hj; exact hj
    simp [hj']) (by simpa using htl) inv0 (by rw [htl]; exact hlex) h
  have := wpAny_of_head (Q' := onlyN (Q .normal)) (g := r.toArray.size - n) (fun listed a' hL => by
    have := wpAny_of_seq (md := .any) (Q' := onlyN (Q .normal)) (r.drop n) n listed a' w.drew (fun j => by simp [List.getElem?_drop]) (by rw [hdl]; exact hL.1) hL.2
    rwa [hdl] at this) _ _ _ H
  rw [htl, show n + (r.toArray.size - n) = r.toArray.size by omega] at this
  exact this
end
theorem kf_grew10 {W W' : World} {b : Nat} (h : Grew W W') : KeepsFrom b W W' := ⟨h.below.size, fun k _ _ ho _ => (h.below.block k (Array.getElem?_eq_some_iff.1 ho).1).trans ho⟩
theorem kf_kept10 {F : Nat → Prop} {W W' : World} {b : Nat} (h : Kept F W W') (hF : ∀ k, F k → ∃ t cs, Blk W k t cs) : KeepsFrom b W W' :=
  ⟨h.size, fun k o _ ho hc => (h.block k (Array.getElem?_eq_some_iff.1 ho).1 (fun hf => by
    obtain ⟨t, cs, hb⟩ := hF k hf
    unfold Blk at hb
    rw [hb] at ho
    cases ho
    cases hc)).trans ho⟩
/-- What a round is handed: the place, from the end, and the number. -/
def biEnc (xs : List Nat) (x : Nat) : Array Value := #[.int .i64 ((xs.length - 1 - x : Nat) : Int), .int .i64 ((xs.getD (xs.length - 1 - x) 0 : Nat) : Int)]
/-- What the iterator reads: its box, and the numbers. -/
def BiRd (Bs c : Nat) (A : Option Addr) (xs : List Nat) (W : World) : Prop :=
  W.cell? ⟨Bs, 0, none⟩ = some (.slice A xs.length c) ∧ ∀ j, j < xs.length → ∃ ad, A = some ad ∧ W.cell? (ad.add j) = some (.int .i64 ((xs.getD j 0 : Nat) : Int))
/-- The next place is due. -/
def BiX (n : Nat) (pre : List Nat) (x : Nat) : Prop := x = pre.length ∧ pre.length < n
set_option maxRecDepth 100000 in
set_option maxHeartbeats 2000000 in
theorem bi_x (m Bs c : Nat) (A : Option Addr) (xs : List Nat) (hm : 1 ≤ m) (hn : xs.length ≤ 100000) (I : List Nat → World → Prop) (hR : ∀ pre W, I pre W → BiRd Bs c A xs W) :
    SeqX m Tryz.prog 71 #[.pointer (some ⟨Bs, 0, none⟩)] (biEnc xs) (BiX xs.length) (fun ys => ys.length = xs.length) I := by
  intro l J W hJI hY h0
  obtain ⟨n, en⟩ : ∃ n, n = xs.length := ⟨_, rfl⟩
  rw [← en] at hY hn ⊢
  have EN := hid en
  have HY := hid hY
  have HI := hid (fun pre W' (h : J pre W') => hR pre W' (hJI pre W' h))
  have hbx := (HI.out _ _ h0).1
  rw [← en] at hbx
  clear hY hJI hR en
  refine callsIn_of_wp Tryz.func71 rfl trivial ?_ rfl
  simp only [Tryz.ntmps71, List.size_toArray, List.length_cons, List.length_nil, Nat.reduceAdd, Nat.reduceSub, Array.replicate_succ, Array.replicate_zero, List.push_toArray, List.append_toArray, List.nil_append, List.cons_append]
  gi_wp2
  gi_loopw [3] (fun i wr => ∃ (k : Nat) (pre : List Nat), i = .int .i64 ((k : Int) - 1) ∧ k + pre.length = n ∧ J pre wr)
    (fun i _ => (intOf i + 1).toNat)
  case atStart => exact ⟨n, [], rfl, by simp, h0⟩
  case round =>
    clear h0 hbx
    obtain ⟨k, pre, rfl, hk, hJs⟩ := hrel
    have HRd := hid (HI.out _ _ hJs)
    have hbx := HRd.out.1
    rw [← EN.out] at hbx
    rcases Nat.eq_zero_or_pos k with h0 | h0
    · subst h0
      have HE := hid (show pre.length = n by omega)
      gi_wp2
      go_end0
      exact ⟨⟨_, rfl⟩, pre, HE.out, hJs⟩
    · obtain ⟨q, rfl⟩ : ∃ q, k = q + 1 := ⟨k - 1, by omega⟩
      obtain ⟨ad, rfl, hc⟩ := HRd.out.2 q (by rw [← EN.out]; omega)
      obtain ⟨fn, tmps, assign, body, hy, hRr⟩ := HY.out pre pre.length wr hJs ⟨rfl, by omega⟩
      have e1 : n - 1 - pre.length = q := by omega
      unfold biEnc at hy
      rw [← EN.out, e1] at hy
      have HL := hid (show q + (pre ++ [pre.length]).length = n by simp; omega)
      have hqn : (q : Int) < (n : Int) := by omega
      clear e1 hk h0
      generalize xs.getD q 0 = v at *
      gi_wp2
      refine hRr.mono ?_
      rintro e W3 ⟨rfl, hJ3⟩
      gi_wp2
      go_roundw
      case rel => exact ⟨q, _, by simp, HL.out, hJ3⟩
      case measure => simp [intOf]
set_option maxHeartbeats 1000000 in
/-- The slice value is boxed; the function value captures the box. -/
theorem bi_in (F : Fence) (m : Nat) (hF : F.fn 48) (hro : F.round = none) (a : Option Addr) (n c : Nat) (w : World) :
    CallsIn F m Tryz.prog 48 #[.slice a n c] w fun e w' => e = .returned (.func (.func 71) #[] #[.pointer (some ⟨w.heap.size, 0, none⟩)]) ∧ w' = w.alloc (.cells #[.slice a n c] 58) := by
  refine callsIn_of_wp Tryz.func48 rfl hF ?_ hro
  simp only [Tryz.ntmps48, List.size_toArray, List.length_cons, List.length_nil, Nat.reduceAdd, Nat.reduceSub, Array.replicate_succ, Array.replicate_zero, List.push_toArray, List.append_toArray, List.nil_append, List.cons_append]
  gi_wp2
  go_ret
  exact ⟨rfl, rfl⟩
end Go.Proofs.YtjladeiecokpfaaGreatDoor

/- Stage 8: two sets compared; plain regions within a round. -/
import Derived.Test.YtilikjfjbnabfaaGreatDoorFl9
import Derived.Test.YtilikjfjbnabfaaGreatDoorFlA
import Derived.Test.YtilikjfjbnabfaaGreatDoorFactsIn
import Derived.Laws.StructEq
namespace Go.Proofs.YtilikjfjbnabfaaGreatDoor
open Go.RowKit

theorem nine {s : List Nat} (h : s.length = 9) : ∃ a0 a1 a2 a3 a4 a5 a6 a7 a8, s = [a0, a1, a2, a3, a4, a5, a6, a7, a8] := by
  match s, h with
  | [a0, a1, a2, a3, a4, a5, a6, a7, a8], _ => exact ⟨a0, a1, a2, a3, a4, a5, a6, a7, a8, rfl⟩
theorem u64_under : Tryz.prog.underlying 64 = some (.int .u64) := by kernel_rfl
theorem u64_size : (Tryz.prog.info? 64).map (·.size) = some 1 := by kernel_rfl
theorem part_set (w : World) (cs : Array Value) (i : Nat) (v : Value) (h : cs[i]? = some v) : (part 64 cs i).run Tryz.prog w = .ok v w := by
  have hg : (isAgg 64).run Tryz.prog w = .ok false w := by
    unfold isAgg
    rw [Sem.run_bind, run_underlying u64_under w]
    rfl
  simp [part, Sem.run_bind, hg, h]
theorem size_u64 (w : World) : (sizeOf 64).run Tryz.prog w = .ok 1 w := by
  have h := u64_size
  cases hq : Tryz.prog.info? 64 with
  | none => simp [hq] at h
  | some i =>
    have : i.size = 1 := by simpa [hq] using h
    simp [sizeOf, typeInfo, hq, this]
set_option maxHeartbeats 1000000 in
theorem equal_set (w : World) (e : Nat) (s t : List Nat) (hs : s.length = 9) (ht : t.length = 9) (he : ∀ a b : Int, (Op.equalIn e 64 (.int .u64 a) (.int .u64 b)).run Tryz.prog w = .ok (a == b) w) : (Op.equalIn (e + 1) 66 (setVal s) (setVal t)).run Tryz.prog w = .ok (decide (s = t)) w := by
  obtain ⟨a0, a1, a2, a3, a4, a5, a6, a7, a8, rfl⟩ := nine hs
  obtain ⟨b0, b1, b2, b3, b4, b5, b6, b7, b8, rfl⟩ := nine ht
  unfold setVal
  have p0 := part_set w (setCs [a0, a1, a2, a3, a4, a5, a6, a7, a8]) 0 (.int .u64 (a0 : Nat)) rfl
  have q0 := part_set w (setCs [b0, b1, b2, b3, b4, b5, b6, b7, b8]) 0 (.int .u64 (b0 : Nat)) rfl
  have p1 := part_set w (setCs [a0, a1, a2, a3, a4, a5, a6, a7, a8]) 1 (.int .u64 (a1 : Nat)) rfl
  have q1 := part_set w (setCs [b0, b1, b2, b3, b4, b5, b6, b7, b8]) 1 (.int .u64 (b1 : Nat)) rfl
  have p2 := part_set w (setCs [a0, a1, a2, a3, a4, a5, a6, a7, a8]) 2 (.int .u64 (a2 : Nat)) rfl
  have q2 := part_set w (setCs [b0, b1, b2, b3, b4, b5, b6, b7, b8]) 2 (.int .u64 (b2 : Nat)) rfl
  have p3 := part_set w (setCs [a0, a1, a2, a3, a4, a5, a6, a7, a8]) 3 (.int .u64 (a3 : Nat)) rfl
  have q3 := part_set w (setCs [b0, b1, b2, b3, b4, b5, b6, b7, b8]) 3 (.int .u64 (b3 : Nat)) rfl
  have p4 := part_set w (setCs [a0, a1, a2, a3, a4, a5, a6, a7, a8]) 4 (.int .u64 (a4 : Nat)) rfl
  have q4 := part_set w (setCs [b0, b1, b2, b3, b4, b5, b6, b7, b8]) 4 (.int .u64 (b4 : Nat)) rfl
  have p5 := part_set w (setCs [a0, a1, a2, a3, a4, a5, a6, a7, a8]) 5 (.int .u64 (a5 : Nat)) rfl
  have q5 := part_set w (setCs [b0, b1, b2, b3, b4, b5, b6, b7, b8]) 5 (.int .u64 (b5 : Nat)) rfl
  have p6 := part_set w (setCs [a0, a1, a2, a3, a4, a5, a6, a7, a8]) 6 (.int .u64 (a6 : Nat)) rfl
  have q6 := part_set w (setCs [b0, b1, b2, b3, b4, b5, b6, b7, b8]) 6 (.int .u64 (b6 : Nat)) rfl
  have p7 := part_set w (setCs [a0, a1, a2, a3, a4, a5, a6, a7, a8]) 7 (.int .u64 (a7 : Nat)) rfl
  have q7 := part_set w (setCs [b0, b1, b2, b3, b4, b5, b6, b7, b8]) 7 (.int .u64 (b7 : Nat)) rfl
  have p8 := part_set w (setCs [a0, a1, a2, a3, a4, a5, a6, a7, a8]) 8 (.int .u64 (a8 : Nat)) rfl
  have q8 := part_set w (setCs [b0, b1, b2, b3, b4, b5, b6, b7, b8]) 8 (.int .u64 (b8 : Nat)) rfl
  simp only [Op.equalIn, Sem.run_bind, run_underlying set_under, Result.andThen_ok, size_u64, Std.Legacy.Range.forIn_eq_forIn_range', Std.Legacy.Range.size]
  simp only [show List.range' 0 ((9 - 0 + 1 - 1) / 1) 1 = [0, 1, 2, 3, 4, 5, 6, 7, 8] from rfl, List.forIn_cons, List.forIn_nil, Sem.run_bind, Result.andThen_ok, p0, q0, he]
  by_cases h0 : a0 = b0
  · subst h0
    by_cases h1 : a1 = b1
    · subst h1
      by_cases h2 : a2 = b2
      · subst h2
        by_cases h3 : a3 = b3
        · subst h3
          by_cases h4 : a4 = b4
          · subst h4
            by_cases h5 : a5 = b5
            · subst h5
              by_cases h6 : a6 = b6
              · subst h6
                by_cases h7 : a7 = b7
                · subst h7
                  by_cases h8 : a8 = b8
                  · subst h8
                    simp [p1, p2, p3, p4, p5, p6, p7, p8, he]
                  · have k8 : ¬ ((a8 : Nat) : Int) = (b8 : Nat) := by omega
                    simp [p1, q1, p2, q2, p3, q3, p4, q4, p5, q5, p6, q6, p7, q7, p8, q8, he, h8, k8]
                · have k7 : ¬ ((a7 : Nat) : Int) = (b7 : Nat) := by omega
                  simp [p1, q1, p2, q2, p3, q3, p4, q4, p5, q5, p6, q6, p7, q7, he, h7, k7]
              · have k6 : ¬ ((a6 : Nat) : Int) = (b6 : Nat) := by omega
                simp [p1, q1, p2, q2, p3, q3, p4, q4, p5, q5, p6, q6, he, h6, k6]
            · have k5 : ¬ ((a5 : Nat) : Int) = (b5 : Nat) := by omega
              simp [p1, q1, p2, q2, p3, q3, p4, q4, p5, q5, he, h5, k5]
          · have k4 : ¬ ((a4 : Nat) : Int) = (b4 : Nat) := by omega
            simp [p1, q1, p2, q2, p3, q3, p4, q4, he, h4, k4]
        · have k3 : ¬ ((a3 : Nat) : Int) = (b3 : Nat) := by omega
          simp [p1, q1, p2, q2, p3, q3, he, h3, k3]
      · have k2 : ¬ ((a2 : Nat) : Int) = (b2 : Nat) := by omega
        simp [p1, q1, p2, q2, he, h2, k2]
    · have k1 : ¬ ((a1 : Nat) : Int) = (b1 : Nat) := by omega
      simp [p1, q1, he, h1, k1]
  · have k0 : ¬ ((a0 : Nat) : Int) = (b0 : Nat) := by omega
    simp [h0, k0]
theorem guard_set (w : World) (x y : Operand) (s t : List Nat) : (eqGuard .neq 66 x y (setVal s) (setVal t)).run Tryz.prog w = .ok () w :=
  run_eqGuard_agg w .neq 66 x y _ _ (by kernel_rfl)
theorem neq_set (w : World) (s t : List Nat) (hs : s.length = 9) (ht : t.length = 9) : (binOp .neq 66 (setVal s) (setVal t)).run Tryz.prog w = .ok (.bool (decide (s ≠ t))) w := by
  have h := equal_set w 9999 s t hs ht (fun a b => run_equalIn_int w 9998 _ _ _ a b u64_under)
  have h2 := run_neq_struct (P := Tryz.prog) w 66 (setCs s) (setCs t)
  unfold setVal at h ⊢
  rw [h2, h]
  by_cases e : s = t <;> simp [Result.andThen, e]
theorem eql_set (w : World) (s t : List Nat) (hs : s.length = 9) (ht : t.length = 9) : (binOp .eql 66 (setVal s) (setVal t)).run Tryz.prog w = .ok (.bool (decide (s = t))) w := by
  have h := equal_set w 9999 s t hs ht (fun a b => run_equalIn_int w 9998 _ _ _ a b u64_under)
  have h2 := run_eql_struct (P := Tryz.prog) w 66 (setCs s) (setCs t)
  unfold setVal at h ⊢
  rw [h2, h]
  rfl
theorem guard_eql (w : World) (x y : Operand) (s t : List Nat) : (eqGuard .eql 66 x y (setVal s) (setVal t)).run Tryz.prog w = .ok () w :=
  run_eqGuard_agg w .eql 66 x y _ _ (by kernel_rfl)

theorem wpStill_loadW {ops : Array Oper} {rest : List Oper} {o : Oper} {a : Act} {w : World} {Q : Act → Prop} (x : Operand) (ho : o.op = .load 66 x) (hw : Region.wanted o (yielded ops a.tmps) = true) (g f : Nat) (s : List Nat) (hx : a.eval x = .pointer (some ⟨g, f, none⟩)) (hl : s.length = 9) (h : w.rangeAt g f (numCells .u64 s))
    (hk : wpStill Tryz.prog ops w Q rest (a.put o.dst (setVal s))) : wpStill Tryz.prog ops w Q (o :: rest) a := by
  refine wpStill_step fun K hK => ?_
  rw [if_pos hw]
  unfold Oper.still execOp
  simp only [ho, hx, Instr.loadAt, Instr.sureAddr, Sem.run_bind, Sem.run_pure, Result.andThen_ok, run_loadVar_mid (P := Tryz.prog) w g f 66 _ _ h set_under rfl (by rw [numCells_length, hl]; exact set_size)]
  exact ⟨rfl, hK _ hk⟩
theorem wpStill_neqW {ops : Array Oper} {rest : List Oper} {o : Oper} {a : Act} {w : World} {Q : Act → Prop} (x y : Operand) (ho : o.op = .binOp .neq 66 x y 66) (hw : Region.wanted o (yielded ops a.tmps) = true) (s t : List Nat) (hx : a.eval x = setVal s) (hy : a.eval y = setVal t) (hs : s.length = 9) (ht : t.length = 9) (d : Bool) (hd : d = decide (s ≠ t))
    (hk : wpStill Tryz.prog ops w Q rest (a.put o.dst (.bool d))) : wpStill Tryz.prog ops w Q (o :: rest) a := by
  subst hd
  refine wpStill_step fun K hK => ?_
  rw [if_pos hw]
  unfold Oper.still execOp
  simp only [ho, hx, hy, Sem.run_bind, Sem.run_pure, Result.andThen_ok, guard_set, neq_set w s t hs ht]
  exact ⟨rfl, hK _ hk⟩
theorem wpStill_eqlW {ops : Array Oper} {rest : List Oper} {o : Oper} {a : Act} {w : World} {Q : Act → Prop} (x y : Operand) (ho : o.op = .binOp .eql 66 x y 66) (hw : Region.wanted o (yielded ops a.tmps) = true) (s t : List Nat) (hx : a.eval x = setVal s) (hy : a.eval y = setVal t) (hs : s.length = 9) (ht : t.length = 9) (d : Bool) (hd : d = decide (s = t))
    (hk : wpStill Tryz.prog ops w Q rest (a.put o.dst (.bool d))) : wpStill Tryz.prog ops w Q (o :: rest) a := by
  subst hd
  refine wpStill_step fun K hK => ?_
  rw [if_pos hw]
  unfold Oper.still execOp
  simp only [ho, hx, hy, Sem.run_bind, Sem.run_pure, Result.andThen_ok, guard_eql, eql_set w s t hs ht]
  exact ⟨rfl, hK _ hk⟩

/-! ### Plain regions within a round -/
/-- It goes on, and nowhere else. -/
def onlyN (K : Act → World → Prop) : Exit → Act → World → Prop
  | .normal, a, w => K a w
  | _, _, _ => False
section
variable {P : Program} {ops : Array Oper} {Q : Exit → Act → World → Prop} {dp l : Nat}
theorem oper_onlyN {K K0 : Act → World → Prop} {o : Oper} {a : Act} {w : World} (h : o.wp P a w K (onlyN K0)) : o.wp P a w K Q := by
  unfold Oper.wp at *
  generalize (execOp a.eval o).run P w = r at *
  cases r with
  | ok x w' =>
    cases x with
    | enter f args =>
      rw [Oper.upon_enter] at *
      refine h.mono fun e w'' he => ?_
      cases e with
      | returned v => exact he
      | panicked c => exact he.elim
      | outgrown => obtain ⟨a, w, h⟩ := he; exact h.elim
    | _ => exact h
  | halt x w' => cases x <;> first | exact h | exact h.elim
theorem oper_in_round {K K0 : Act → World → Prop} {o : Oper} {a : Act} {w : World} (hd : ∀ c, o.op ≠ .defer c) (h : o.wp P a w K (onlyN K0)) : o.wpIn (Fence.wide.inRound l) dp P a w K Q :=
  oper_round hd (oper_in (oper_onlyN h))
theorem outN {K : Act → World → Prop} : ¬ LetsOut (onlyN K) := fun ⟨_, _, h⟩ => h
theorem list_in_round (hd : noDefer ops = true) : ∀ (r : List Oper) (a : Act) (w : World), (∀ o ∈ r, o ∈ ops.toList) → wpList P ops (onlyN (Q .normal)) r a w → wpListIn (Fence.wide.inRound l) dp P ops Q r a w
  | [], _, _, _, h => h
  | o :: r, a, w, hm, h => by
    have hdo : ∀ c, o.op ≠ .defer c := fun c e => by
      have h1 := List.all_eq_true.1 hd o (hm o (by simp))
      rw [e] at h1
      cases h1
    have ih := fun a' w' => list_in_round hd r a' w' (fun o ho => hm o (by simp [ho]))
    unfold wpList at h
    unfold wpListIn
    split at h
    · rename_i hw
      rw [if_pos hw]
      rcases h with h | ⟨_, h⟩
      · exact Oper.wpIn_mono (fun a' w' h' => ih a' w' h') (oper_in_round hdo h)
      · exact absurd h outN
    · rename_i hw
      rw [if_neg hw]
      exact ⟨fun _ _ => trivial, ih _ _ h⟩
theorem region_list_round {id : Nat} {a : Act} {w : World} {r : List Oper} (hd : noDefer r.toArray = true) (h : wpList P r.toArray (onlyN (Q .normal)) r a w) : (Code.region id r.toArray false).wpIn (Fence.wide.inRound l) dp P Q a w :=
  wpIn_region_lit (list_in_round hd r a w (fun o ho => by simpa using ho) h)
theorem any_in_round {md : Region.Mode} (hd : noDefer ops = true) : ∀ (fuel : Nat) (listed : Array Bool) (a : Act) (w : World), wpAny P md ops (onlyN (Q .normal)) fuel listed a w → wpAnyIn (Fence.wide.inRound l) dp P md ops Q fuel listed a w
  | 0, _, _, _, h => h
  | fuel + 1, listed, a, w, h => ⟨h.1, fun i hi => by
    have h2 := h.2 i hi
    unfold wpOp at h2
    unfold wpOpIn
    cases ho : ops[i]? with
    | none =>
      simp only [ho] at h2 ⊢
      exact any_in_round hd fuel _ a w h2
    | some o =>
      simp only [ho] at h2 ⊢
      split at h2
      · rename_i hw
        rw [if_pos hw]
        rcases h2 with h2 | ⟨_, h2⟩
        · exact Oper.wpIn_mono (fun a' w' h' => any_in_round hd fuel _ a' w' h') (oper_in_round (noDefer_at hd ho) h2)
        · exact absurd h2 outN
      · rename_i hw
        rw [if_neg hw]
        exact ⟨fun _ _ => trivial, any_in_round hd fuel _ _ w h2⟩⟩
theorem region_still_round {id : Nat} {a : Act} {w : World} {r : List Oper} (n : Nat) (hm : P.follows .mixedOrders = true) (hB : Region.lexTailB .any r.toArray n = true) (hd : noDefer r.toArray = true)
    (h : wpStill P r.toArray w.drew (fun a' => wpList P r.toArray (onlyN (Q .normal)) (r.drop n) a' w.drew) (r.take n) a) : (Code.region id r.toArray true).wpIn (Fence.wide.inRound l) dp P Q a w := by
  refine wpIn_region_any hm (any_in_round hd _ _ _ _ ?_)
  simp only [Region.lexTailB, Bool.and_eq_true, decide_eq_true_eq] at hB
  obtain ⟨⟨⟨⟨hsel, hn⟩, hs⟩, hc⟩, hlex⟩ := hB
  have hn' : n < r.length := by simpa using hn
  have htl : (r.take n).length = n := by simp; omega
  have hdl : (r.drop n).length = r.toArray.size - n := by simp
  have inv0 : HeadInv .any r.toArray n (Array.replicate r.toArray.size false) :=
    ⟨by simp, fun j oj _ hl => (by rw [getD_replicate_false] at hl; cases hl), fun t _ ht => getD_in (by simpa using ht) (getD_replicate_false _ _)⟩
  have H := wpAnyL_lex (md := .any) (g := r.toArray.size - n) hsel hs hc hn (r.take n) 0 _ a (fun j hj => by
    have hj' : j < n := by rw [htl] at hj; exact hj
    simp [hj']) (by simpa using htl) inv0 (by rw [htl]; exact hlex) h
  have := wpAny_of_head (Q' := onlyN (Q .normal)) (g := r.toArray.size - n) (fun listed a' hL => by
    have := wpAny_of_seq (md := .any) (Q' := onlyN (Q .normal)) (r.drop n) n listed a' w.drew (fun j => by simp [List.getElem?_drop]) (by rw [hdl]; exact hL.1) hL.2
    rwa [hdl] at this) _ _ _ H
  rw [htl, show n + (r.toArray.size - n) = r.toArray.size by omega] at this
  exact this
end
end Go.Proofs.YtilikjfjbnabfaaGreatDoor

/- Texts of this claim in one: YFr Frame9 Open9. -/
import Derived.Test.YtjdgcgpidhljpaaGreatDoorYBase
import Derived.Test.YtjdgcgpidhljpaaGreatDoorYNum
import Derived.Test.YtjdgcgpidhljpaaGreatDoorRows
import Derived.Test.YtjdgcgpidhljpaaGreatDoorCards
import Derived.Test.YtjdgcgpidhljpaaGreatDoorTie
import Derived.ProofKit
import Derived.OpenShut
import Derived.ChangeVars
import Derived.JoinedOf
import Derived.RowKitTokens
import Derived.LaidLaws
import Derived.LaidHandle
import Derived.Stop.Joined
import Derived.SevenTiedAt
import Derived.Laws.IdiomArrays
import Derived.Lib.SmallJoins
import Derived.SizedLaws
import Derived.Test.YtjdgcgpidhljpaaGreatDoorYOpB
import Derived.Test.YtjdgcgpidhljpaaGreatDoorMtF
import Derived.Test.YtjdgcgpidhljpaaGreatDoorMtJ
import Derived.Shelf.Vars
import Derived.Test.YtjdgcgpidhljpaaGreatDoorMg51
import Derived.Deep.Slices
import Derived.Deep.Fields
import Derived.ChangeSame
section
namespace Go.Proofs.YtjdgcgpidhljpaaGreatDoor
open Go.ChangeShapes Go.WideShapes Go.ChangeAt Go.RowKit

theorem Tryz.own : ownKnob Tryz.prog.godebug = none := by kernel_rfl
theorem Tryz.laidOut : laidOutB Tryz.prog = true := by kernel_rfl
theorem Tryz.et : Tryz.prog.globalNamed "errors.errorType" = some 0 := by kernel_rfl
theorem Tryz.oneRow : ((List.range 292).filter fun t => Tryz.prog.rowNamed t [101, 114, 114, 111, 114]) = [32] := by kernel_rfl
theorem Tryz.size : Tryz.prog.types.size = 292 := by kernel_rfl
theorem Tryz.cells_u8 : Tryz.prog.cellsOf 5 = 1 := by kernel_rfl
theorem handle_of_met {W : World} {laid : List (String × DataW Unit)} (hm : ("errors.errorType", Rows.laid_errors_errorType) ∈ laid.filter fun x => x.2.handleName?.isSome) (h : laidMetH Tryz.prog laid W) : HandleAt W := by
  have h' : handlesMet Tryz.prog (laid.filter fun x => x.2.handleName?.isSome) W := by
    unfold laidMetH at h
    generalize hl : laid.filter (fun x => x.2.handleName?.isSome) = l at h hm ⊢
    cases l with
    | nil => cases hm
    | cons a r => exact h.2
  obtain ⟨name, u, ty, e1, e2, e3, e4, e5⟩ := h' _ hm
  have en : name = [101, 114, 114, 111, 114] := (Option.some.inj e1).symm
  subst en
  obtain rfl : u = 182 := Option.some.inj (e2.symm.trans (by kernel_rfl))
  have hm2 : ty ∈ (List.range 292).filter fun t => Tryz.prog.rowNamed t [101, 114, 114, 111, 114] := List.mem_filter.2 ⟨List.mem_range.2 (by rw [← Tryz.size]; exact e3), e4⟩
  rw [Tryz.oneRow] at hm2
  obtain rfl := List.mem_singleton.1 hm2
  have hh : typeHandle Tryz.prog 32 = .pointer (some ⟨5, 32, none⟩) := by kernel_rfl
  rw [hh] at e5
  unfold HandleAt
  simpa using World.var?_cell Tryz.et e5 0

theorem trodAll_below {H : Type} {enc : TypeId × Value → H} {P : Program} (hl : laidOutB P = true) {W W' : World} (hb : Below W.heap.size W W') : ∀ (ts : List TypeId) {vs : List Value} {ds : List (DataW H)} {ps : List MemPlace},
    (ts.all fun t => P.readableRec t && decide (t < P.types.size)) = true → DataW.TrodAll enc P W 0 (fun _ => true) true ts vs ds ps → DataW.TrodAll enc P W' 0 (fun b => decide (b < W.heap.size)) true ts vs ds ps
  | [], _, _, _, _, h => by
    obtain ⟨rfl, rfl, rfl⟩ := trodAll_nil h
    exact trodAll_mk0
  | t :: ts, _, _, _, hr, h => by
    obtain ⟨v, vs, d, ds, p, q, rfl, rfl, rfl, h0, r0⟩ := trodAll_cons h
    simp only [List.all_cons, Bool.and_eq_true, decide_eq_true_eq] at hr
    have lt : ∀ x ∈ p, x.block < W.heap.size := by
      have k := h0
      obtain ⟨m, hm⟩ := k
      exact DataW.trod_lt m _ _ _ hm
    exact trodAll_cons_mk (Below.trod hl hr.1.1 hr.1.2 h0 hb lt) (trodAll_below hl hb ts (by simpa using hr.2) r0)

section
variable {H : Type} {enc : TypeId × Value → H} {P : Program} {w : World} {base : Nat} {spare : Nat → Bool} {held : Bool}
theorem u8_bounds {n : Int} (h : (Lit.int .u8 n).wf = true) : 0 ≤ n ∧ n ≤ 255 := by
  simp [Lit.wf, IntKind.min, IntKind.max, IntKind.signed, IntKind.bits] at h
  exact h
end

noncomputable def laidWorld (os : Os) : World :=
  let w0 := World.holding Tryz.prog os ⟨#[], #[], []⟩
  { w0 with heap := w0.heap.modify 0 fun
      | .cells _ t frozen => .cells #[.iface 182 (.agg #[.pointer (some ⟨5, 32, none⟩)])] t frozen
      | o => o }
end Go.Proofs.YtjdgcgpidhljpaaGreatDoor
namespace Go.Proofs.YtjdgcgpidhljpaaGreatDoor
open Go.RowKit

def litCells : Nat → DataW Unit → List Value
  | 0, _ => []
  | k + 1, .agg ds => ds.flatMap (litCells k)
  | _ + 1, .lit (.int k n) => [.int k n]
  | _ + 1, _ => []
noncomputable def laidWorld3 (os : Os) : World :=
  let w0 := laidWorld os
  { w0 with heap := (w0.heap.modify 4 fun
      | .cells _ t frozen => .cells (litCells 4 Rows.laid_unicode_utf8_acceptRanges).toArray t frozen
      | o => o).modify 3 fun
      | .cells _ t frozen => .cells (litCells 4 Rows.laid_unicode_utf8_first).toArray t frozen
      | o => o }
end Go.Proofs.YtjdgcgpidhljpaaGreatDoor
namespace Go.Proofs.YtjdgcgpidhljpaaGreatDoor
open Go.ChangeShapes Go.WideShapes Go.ChangeAt Go.RowKit

theorem Tryz.gi : Tryz.prog.globalNamed "colloquy/op.instructions" = some 1 := by kernel_rfl
theorem Tryz.giType : (Tryz.prog.globals[1]?).map (·.type) = some 225 := by kernel_rfl
theorem tab_data : Rows.laid_colloquy_op_instructions (H := Unit) = .agg ((List.range 21).map fun i => .agg [.lit (.string (nameB i).data.toList), .lit (.string (formB i).data.toList)]) := by kernel_rfl
theorem bytes_eq {s t : ByteArray} (h : s.data.toList = t.data.toList) : s = t := by
  cases s; cases t
  have := Array.toList_inj.1 h
  simp only at this
  rw [this]
theorem tab_cells {w : World} {sp : Nat → Bool} {held : Bool} {fuel : Nat} {cs : List Value} {p : List MemPlace}
    (h : DataW.trod (fun _ => ()) Tryz.prog w 0 sp held fuel 225 cs = some (Rows.laid_colloquy_op_instructions, p)) (i : Nat) (hi : i < 21) :
    cs[i * 2]? = some (.string (nameB i)) ∧ cs[i * 2 + 1]? = some (.string (formB i)) := by
  obtain ⟨xs, m, _, hx, hl, hlen, hall⟩ := DataW.trod_array Tryz.underlying225 h
  rw [show Tryz.prog.cellsOf 225 = 42 by kernel_rfl] at hl
  have hd := hall i hi
  rw [show Tryz.prog.cellsOf 224 = 2 by kernel_rfl] at hd
  have hxs : xs.map (·.1) = (List.range 21).map fun i => .agg [.lit (.string (nameB i).data.toList), .lit (.string (formB i).data.toList)] := by
    have := congrArg Prod.fst hx
    rw [tab_data] at this
    simpa using this.symm
  obtain ⟨y, hy⟩ : ∃ y, xs[i]? = some y := ⟨_, List.getElem?_eq_getElem (by omega)⟩
  have hy1 : y.1 = .agg [.lit (.string (nameB i).data.toList), .lit (.string (formB i).data.toList)] := by
    have h1 : (xs.map (·.1))[i]? = some y.1 := by simp [hy]
    rw [hxs] at h1
    simpa [hi] using h1.symm
  rw [hy] at hd
  obtain ⟨y0, y1, n, hyy, _, h0, h1⟩ := trod_struct2 Tryz.underlying224 hd
  rw [hyy] at hy1
  simp only [DataW.agg.injEq, List.cons.injEq, and_true] at hy1
  obtain ⟨e0, e1⟩ := hy1
  obtain ⟨s0, c0, z0, _⟩ := DataW.trod_string Tryz.underlying9 h0
  obtain ⟨s1, c1, z1, _⟩ := DataW.trod_string Tryz.underlying9 h1
  rw [z0] at e0
  rw [z1] at e1
  simp only [DataW.lit.injEq, Lit.string.injEq] at e0 e1
  rw [bytes_eq e0] at c0
  rw [bytes_eq e1] at c1
  rw [show Tryz.prog.cellsOf 9 = 1 by kernel_rfl] at c0 c1
  refine ⟨?_, ?_⟩
  · have := congrArg (·[0]?) c0
    simpa [List.getElem?_take, List.getElem?_drop] using this
  · have := congrArg (·[0]?) c1
    simpa [List.getElem?_take, List.getElem?_drop, Nat.add_comm] using this
end Go.Proofs.YtjdgcgpidhljpaaGreatDoor
namespace Go.Proofs.YtjdgcgpidhljpaaGreatDoor
open Go.ChangeShapes Go.WideShapes Go.ChangeAt Go.RowKit
section
variable {H : Type} {enc : TypeId × Value → H} {P : Program} {w : World} {base : Nat} {spare : Nat → Bool} {held : Bool}
end
end Go.Proofs.YtjdgcgpidhljpaaGreatDoor
end

section
namespace Go.Proofs.YtjdgcgpidhljpaaGreatDoor
open Go.ChangeShapes Go.WideShapes Go.ChangeAt Go.RowKit

theorem returns9 {H : Type} {enc : TypeId × Value → H} {a : Assume} {C : Checked} {os : Os} {f : FuncId} {fn : Func} {s : ChangeSpec} {conds : List PathCond} {apart fresh handsOn again : Bool} {X : World → Array Value → Prop}
    (hX : ∀ (w w' : World) (args : Array Value), w.heap = w'.heap → X w args → X w' args)
    (own : ownKnob C.prog.godebug = none) (started : os.Started) (noInit : C.prog.inits.idxOf? f = none) (hfn : C.prog.funcs[f]? = some fn)
    (witness : ∃ (w : World) (tape : Tape) (i : Input), w.os = os ∧ (w.forCall tape i).Shaped C.prog ∧ i.vars = [] ∧ Input.okWide C.prog (w.forCall tape i) .any w.heap.size f i ∧
      ((s.pre enc C.prog fn conds apart (w.forCall tape i).memory i.args ∧ X (w.forCall tape i).memory i.args) ∧ sizedMet enc C.prog fn (OpenSpec.ofChange s) apart (w.forCall tape i).memory i.args) ∧ a.holds C.prog (lone (Frame.enter C.prog f i.args .normal) [] (w.forCall tape i)))
    (walk : ∀ (W : World) (base : Nat) (args : Array Value) (ds gs : List (DataW H)) (before : List MemPlace),
      (∀ (j : Nat) t v, fn.params[j]? = some t → args[j]? = some v → Value.okWide C.prog W .any base t v) →
      DataW.Whole enc C.prog fn.params.toList s.vars apart W args.toList ds gs before →
      (DataW.weightsEach C.prog (fn.params.toList ++ s.plain.varTypes C.prog) (ds ++ gs)).all (· ≤ reachBytes) = true → X W args → W.ShapedOpen C.prog →
      Calls C.prog f args W fun e W' => ∃ v, e = .returned v ∧ s.post enc C.prog fn apart fresh handsOn again W args v W') :
    ReturnsInHanded a C os f .any (fun w args => (s.pre enc C.prog fn conds apart w args ∧ X w args) ∧ sizedMet enc C.prog fn (OpenSpec.ofChange s) apart w args) (s.post enc C.prog fn apart fresh handsOn again) :=
  returnsInHanded_of_calls own started noInit witness fun w tape i _ shape _ ok pre _ => by
    obtain ⟨_, _, _, g, hg, _, _, _, _, hval⟩ := ok
    obtain rfl := Option.some.inj (hg.symm.trans hfn)
    obtain ⟨⟨⟨ds, gs, before, whole, _⟩, hx⟩, hz⟩ := pre
    exact (walk _ w.heap.size i.args ds gs before hval (DataW.Whole.of_heap (w' := w.forCall tape i) (by rfl) whole) (hz.weights whole) (hX _ _ _ (by rfl) hx) shape).mono fun e W' ⟨v, he, hp⟩ => by
      subst he
      exact ChangeSpec.post_blind hp
theorem max_of_shape {W : World} (h : W.ShapedOpen Tryz.prog) : MaxAt W :=
  cell_of_shapedOpen_int (t := 3) (zero := #[.int .i64 0]) (k := .i64) h (of_decide_eq_true (by kernel_rfl)) (by kernel_rfl) rfl (by kernel_rfl) (by kernel_rfl) Tryz.underlying3
theorem laid_mem {w : World} : ∀ {l : List (String × DataW Unit)} {ps : List MemPlace} {n : String} {d : DataW Unit}, DataW.LaidVars Tryz.prog w l ps → (n, d) ∈ l →
    ∃ g t cs fuel p, Tryz.prog.globalNamed n = some g ∧ (Tryz.prog.globals[g]?).map (·.type) = some t ∧ w.var? Tryz.prog n = some cs ∧ DataW.trod (fun _ => ()) Tryz.prog w 0 (fun _ => true) false fuel t cs.toList = some (d, p)
  | [], _, _, _, _, h => absurd h (by simp)
  | (n0, d0) :: r, ps, n, d, hl, h => by
    obtain ⟨g, t, cs, fuel, p, q, h1, h2, h3, h4, h5, _⟩ := hl
    rcases List.mem_cons.1 h with h | h
    · obtain ⟨rfl, rfl⟩ := Prod.mk.inj h
      exact ⟨g, t, cs, fuel, p, h1, h2, h3, h4⟩
    · exact laid_mem h5 h
theorem tab_of_laid9 {W : World} {l : List (String × DataW Unit)} (hs : l.filter (fun x => x.2.handleName?.isSome) = [("errors.errorType", Rows.laid_errors_errorType)]) (hl : ("colloquy/op.instructions", Rows.laid_colloquy_op_instructions) ∈ l.filter fun x => x.2.handleName?.isNone) (h : laidMetH Tryz.prog l W) : TabAt W := by
  unfold laidMetH at h
  rw [hs] at h
  obtain ⟨⟨ps, h', _⟩, _⟩ := h
  obtain ⟨g, t, cs, fuel, p, hg, ht, hvar, hd⟩ := laid_mem h' hl
  obtain rfl := Option.some.inj (Tryz.gi.symm.trans hg)
  obtain rfl := Option.some.inj (Tryz.giType.symm.trans ht)
  intro c hc
  obtain ⟨h1, h2⟩ := tab_cells hd c hc
  rw [Array.getElem?_toList] at h1 h2
  exact ⟨(World.var?_cell Tryz.gi hvar (c * 2)).trans h1, (World.var?_cell Tryz.gi hvar (c * 2 + 1)).trans h2⟩
noncomputable def laidWorld9 (os : Os) : World :=
  let w0 := laidWorld3 os
  { w0 with heap := w0.heap.modify 1 fun
      | .cells _ t frozen => .cells ((List.range 21).flatMap fun i => [.string (nameB i), .string (formB i)]).toArray t frozen
      | o => o }
end Go.Proofs.YtjdgcgpidhljpaaGreatDoor
end

section
namespace Go.Proofs.YtjdgcgpidhljpaaGreatDoor
open Go.ChangeShapes Go.WideShapes Go.ChangeAt Go.RowKit Go.Deep
section
variable {H : Type} {enc : TypeId × Value → H} {P : Program} {w : World} {base : Nat} {spare : Nat → Bool} {held : Bool}
theorem okWide_struct {r : Reach} {b0 : Nat} {t : TypeId} {fs : Array Field} {v : Value} (ht : P.underlying t = some (.struct fs)) (h : Value.okWide P w r b0 t v) : ∃ cs, v = .agg cs ∧ cs.size = P.cellsOf t := by
  simp only [Value.okWide, ht] at h
  obtain ⟨cs, h1, h2, _⟩ := h
  exact ⟨cs, h1, h2⟩
theorem row_cell {e : TypeId} {fs : Array Field} {n : Nat} {cs : List Value} {D : DataW H} {Pl : List MemPlace} (he : P.underlying e = some (.struct fs)) (hone : oneCellFields P fs = true) (hC : P.cellsOf e = fs.size)
    (ht : DataW.trod enc P w base spare held n e cs = some (D, Pl)) (j : Nat) (f : Field) (hj : fs[j]? = some f) :
    ∃ (v : Value) (m : Nat) (y : DataW H × List MemPlace), cs[j]? = some v ∧ DataW.trod enc P w base spare held m f.type [v] = some y := by
  obtain ⟨xs, m, _, _, hlen, hxl, hx⟩ := DataW.trod_struct he ht
  have hjl : j < fs.size := (Array.getElem?_eq_some_iff.1 hj).1
  obtain ⟨ho, hk⟩ := hone_of hone j f hj
  have h1 := hx j f hj
  rw [ho, hk, List.drop_eq_getElem_cons (by omega), List.getElem?_eq_getElem (by omega)] at h1
  exact ⟨cs[j]'(by omega), m, _, List.getElem?_eq_getElem (by omega), h1⟩
theorem open_list {α : Type} (k : Nat) (cells : α → Array Value) (Ok : α → Prop) (z : α) (hz : ∀ x, 0 < (cells x).size) {t e : TypeId} {fuel : Nat} {c0 : Value} {y : DataW H × List MemPlace} (ht : P.underlying t = some (.slice e)) (hC : P.cellsOf e = k)
    (el : ∀ n b cs D Pl, w.cells? base b (P.cellsOf e) = some cs → DataW.trod enc P w base spare held n e cs = some (D, Pl) → ∃ v : α, Ok v ∧ ∀ j u, (cells v)[j]? = some u → w.cell? (b.add j) = some u)
    (hf : DataW.trod enc P w base spare held fuel t [c0] = some y) (hsp : ∀ b, spare b = true) :
    ∃ (A : Option Addr) (c : Nat) (vs : List α), c0 = .slice A vs.length c ∧ (∀ v ∈ vs, Ok v) ∧ (0 < vs.length → ∃ ad, A = some ad ∧ ad.block < w.heap.size ∧ ∀ i v, vs[i]? = some v → ∀ j u, (cells v)[j]? = some u → w.cell? (ad.add (i * k + j)) = some u) := by
  rcases open_slice ht hf with ⟨hcs, _⟩ | ⟨a, len, cap, m, n, D, Pl, hcs, _, hl, hmx, hm, _, hi⟩
  · simp only [List.cons.injEq, and_true] at hcs
    exact ⟨none, 0, [], hcs, (by simp), fun h => absurd h (by simp)⟩
  · simp only [List.cons.injEq, and_true] at hcs
    rw [hsp, if_pos rfl] at hm
    have hex : ∀ i, ∃ v : α, i < len → Ok v ∧ ∀ j u, (cells v)[j]? = some u → w.cell? ((a.add (i * k)).add j) = some u := by
      intro i
      by_cases hil : i < len
      · obtain ⟨cs, hc, hct⟩ := hi i (by omega)
        rw [hC] at hc
        obtain ⟨v, k1, k2⟩ := el _ _ _ _ _ (by rw [hC]; exact hc) hct
        exact ⟨v, fun _ => ⟨k1, k2⟩⟩
      · exact ⟨z, fun h => absurd h hil⟩
    obtain ⟨V, hV⟩ := Classical.axiomOfChoice hex
    refine ⟨some a, cap, (List.range len).map V, by simpa using hcs, fun v hv => ?_, fun hn => ⟨a, rfl, ?_, fun i v hv j u hu => ?_⟩⟩
    · obtain ⟨i, hi2, rfl⟩ := List.mem_map.1 hv
      exact (hV i (List.mem_range.1 hi2)).1
    · have hpos : 0 < len := by simpa using hn
      have := World.block_lt_of_cell? w _ ((hV 0 hpos).2 0 _ (Array.getElem?_eq_getElem (hz _)))
      rwa [block_add, block_add] at this
    · obtain ⟨hil, rfl⟩ : i < len ∧ V i = v := by
        rw [List.getElem?_map] at hv
        obtain ⟨k, hk, rfl⟩ := Option.map_eq_some_iff.1 hv
        obtain ⟨h1, h2⟩ := List.getElem?_eq_some_iff.1 hk
        simp at h1 h2
        subst h2
        exact ⟨h1, rfl⟩
      rw [← add_add]
      exact (hV i hil).2 j u hu
theorem open_cell8 {s e : TypeId} {fuel : Nat} {c0 : Value} {x : DataW H × List MemPlace} (hs : P.underlying s = some (.slice e)) (he : P.underlying e = some (.int .u8)) (hc : P.cellsOf e = 1) (hf : DataW.trod enc P w base spare held fuel s [c0] = some x) (hsp : ∀ b, spare b = true) :
    ∃ (A : Option Addr) (c : Nat) (up : List Nat), c0 = .slice A up.length c ∧ BytesAt w w.heap.size A up ∧ up.length ≤ c ∧ c ≤ 9223372036854775807 := by
  rcases open_ints hs he hc hf with ⟨hcs, _⟩ | ⟨a, len, cap, zs, hcs, _, hl, hmx, hz, hx, hcell, hwz⟩
  · simp only [List.cons.injEq, and_true] at hcs
    exact ⟨none, 0, [], hcs, BytesAt.nil _ _ _, by simp, by decide⟩
  · simp only [List.cons.injEq, and_true] at hcs
    rw [hsp, if_pos rfl] at hz
    simp only [maxLen] at hmx
    have hlen : ((zs.take len).map Int.toNat).length = len := by simp [hz]; omega
    have hget : ∀ j, j < len → (((zs.take len).map Int.toNat).getD j 0 : Nat) = (zs.getD j 0).toNat := by
      intro j hj
      have h1 : j < zs.length := by omega
      simp [List.getD_eq_getElem?_getD, hj, h1]
    refine ⟨some a, cap, (zs.take len).map Int.toNat, by rw [hlen]; exact hcs, ⟨?_, fun hpos => ⟨a, rfl, ?_, ?_⟩⟩, by omega, by omega⟩
    · intro y hy
      obtain ⟨z, hz1, rfl⟩ := List.mem_map.1 hy
      have := u8_bounds (hwz z (List.mem_of_mem_take hz1))
      omega
    · rw [hlen] at hpos
      have := World.block_lt_of_cell? w _ (hcell 0 (by omega))
      rwa [block_add] at this
    · intro j hj
      rw [hlen] at hj
      rw [hcell j (by omega), hget j hj]
      have hmem : zs.getD j 0 ∈ zs := by
        rw [List.getD_eq_getElem?_getD, List.getElem?_eq_getElem (by omega)]
        exact List.getElem_mem _
      have := u8_bounds (hwz _ hmem)
      rw [Int.toNat_of_nonneg this.1]
theorem open_lit9 {e : TypeId} {f0 f1 : Field} {n : Nat} {b : Addr} {cs : List Value} {D : DataW H} {Pl : List MemPlace} (he : P.underlying e = some (.struct #[f0, f1])) (hone : oneCellFields P #[f0, f1] = true) (hC : P.cellsOf e = 2)
    (h0 : P.underlying f0.type = some (.int .u8)) (h1 : P.underlying f1.type = some .string)
    (hc : w.cells? base b (P.cellsOf e) = some cs) (ht : DataW.trod enc P w base spare held n e cs = some (D, Pl)) :
    ∃ x : Mt.Lit, x.k < 256 ∧ ∀ j u, (litCells2 x)[j]? = some u → w.cell? (b.add j) = some u := by
  obtain ⟨_, hlen, hcell⟩ := World.cells?_some hc
  have hs : P.cellsOf e = (#[f0, f1] : Array Field).size := hC
  obtain ⟨v0, m0, y0, c0, t0⟩ := row_cell he hone hs ht 0 f0 rfl
  obtain ⟨v1, m1, y1, c1, t1⟩ := row_cell he hone hs ht 1 f1 rfl
  obtain ⟨x0, e0, _, w0⟩ := DataW.trod_int h0 t0
  obtain ⟨x1, e1, _, _⟩ := DataW.trod_string h1 t1
  simp only [List.cons.injEq, and_true] at e0 e1
  subst e0 e1
  have b0 := u8_bounds w0
  have hk : (((x0.toNat : Nat) : Nat) : Int) = x0 := by omega
  refine ⟨⟨x0.toNat, x1⟩, by show x0.toNat < 256; omega, fun j u hu => ?_⟩
  unfold litCells2 at hu
  rcases j with _ | _ | j
  · have e : Value.int .u8 ((x0.toNat : Nat) : Int) = u := by simpa using hu
    rw [← e, hk, hcell 0 (by omega)]; exact c0
  · have e : Value.string x1 = u := by simpa using hu
    rw [← e, hcell 1 (by omega)]; exact c1
  · simp at hu
theorem open_part9 {e e8 : TypeId} {f0 f1 f2 f3 : Field} {n : Nat} {b : Addr} {cs : List Value} {D : DataW H} {Pl : List MemPlace} (he : P.underlying e = some (.struct #[f0, f1, f2, f3])) (hone : oneCellFields P #[f0, f1, f2, f3] = true) (hC : P.cellsOf e = 4)
    (h0 : P.underlying f0.type = some (.int .i64)) (h1 : P.underlying f1.type = some (.int .i64)) (h2 : P.underlying f2.type = some (.int .i64)) (h3 : P.underlying f3.type = some (.slice e8)) (h8 : P.underlying e8 = some (.int .u8)) (hc8 : P.cellsOf e8 = 1)
    (hc : w.cells? base b (P.cellsOf e) = some cs) (ht : DataW.trod enc P w base spare held n e cs = some (D, Pl)) (hsp : ∀ b, spare b = true) :
    ∃ v : PV, (BytesAt w w.heap.size v.A v.p.code ∧ v.p.code.length ≤ v.c ∧ v.c ≤ 9223372036854775807) ∧ ∀ j u, (pvCells v)[j]? = some u → w.cell? (b.add j) = some u := by
  obtain ⟨_, hlen, hcell⟩ := World.cells?_some hc
  have hs : P.cellsOf e = (#[f0, f1, f2, f3] : Array Field).size := hC
  obtain ⟨v0, m0, y0, c0, t0⟩ := row_cell he hone hs ht 0 f0 rfl
  obtain ⟨v1, m1, y1, c1, t1⟩ := row_cell he hone hs ht 1 f1 rfl
  obtain ⟨v2, m2, y2, c2, t2⟩ := row_cell he hone hs ht 2 f2 rfl
  obtain ⟨v3, m3, y3, c3, t3⟩ := row_cell he hone hs ht 3 f3 rfl
  obtain ⟨x0, e0, _, _⟩ := DataW.trod_int h0 t0
  obtain ⟨x1, e1, _, _⟩ := DataW.trod_int h1 t1
  obtain ⟨x2, e2, _, _⟩ := DataW.trod_int h2 t2
  obtain ⟨A, c, up, e3, hb, hl, hm⟩ := open_cell8 h3 h8 hc8 t3 hsp
  simp only [List.cons.injEq, and_true] at e0 e1 e2
  subst e0 e1 e2 e3
  refine ⟨⟨⟨x0, x1, x2, up⟩, A, c⟩, ⟨hb, hl, hm⟩, fun j u hu => ?_⟩
  unfold pvCells at hu
  rcases j with _ | _ | _ | _ | j
  · have e : Value.int .i64 x0 = u := by simpa using hu
    rw [← e, hcell 0 (by omega)]; exact c0
  · have e : Value.int .i64 x1 = u := by simpa using hu
    rw [← e, hcell 1 (by omega)]; exact c1
  · have e : Value.int .i64 x2 = u := by simpa using hu
    rw [← e, hcell 2 (by omega)]; exact c2
  · have e : Value.slice A up.length c = u := by simpa using hu
    rw [← e, hcell 3 (by omega)]; exact c3
  · simp at hu
theorem open_meth9 {t tl tp el ep e8 : TypeId} {f0 f1 f2 g0 g1 h0 h1 h2 h3 : Field} {r : Reach} {b0 : Nat} {v : Value} {d : DataW H} {ps : List MemPlace}
    (ht : P.underlying t = some (.struct #[f0, f1, f2])) (hone : oneCellFields P #[f0, f1, f2] = true) (hC : P.cellsOf t = 3) (hf0 : P.underlying f0.type = some .string) (hf1 : f1.type = tl) (hf2 : f2.type = tp)
    (hl : P.underlying tl = some (.slice el)) (hel : P.underlying el = some (.struct #[g0, g1])) (hol : oneCellFields P #[g0, g1] = true) (hCl : P.cellsOf el = 2) (hg0 : P.underlying g0.type = some (.int .u8)) (hg1 : P.underlying g1.type = some .string)
    (hp : P.underlying tp = some (.slice ep)) (hep : P.underlying ep = some (.struct #[h0, h1, h2, h3])) (hop : oneCellFields P #[h0, h1, h2, h3] = true) (hCp : P.cellsOf ep = 4) (hh0 : P.underlying h0.type = some (.int .i64)) (hh1 : P.underlying h1.type = some (.int .i64)) (hh2 : P.underlying h2.type = some (.int .i64)) (hh3 : P.underlying h3.type = some (.slice e8)) (h8 : P.underlying e8 = some (.int .u8)) (hc8 : P.cellsOf e8 = 1)
    (hval : Value.okWide P w r b0 t v) (h : DataW.Trod enc P w base spare held t v d ps) (hsp : ∀ b, spare b = true) :
    ∃ u : MV, v = .agg (mvCells u) ∧ MethArg w u := by
  obtain ⟨cs, rfl, hsz⟩ := okWide_struct ht hval
  rw [hC] at hsz
  obtain ⟨fuel, hf⟩ := h
  have hf' : DataW.trod enc P w base spare held fuel t cs.toList = some (d, ps) := by simpa [Value.cells] using hf
  obtain ⟨v0, m0, y0, c0, t0⟩ := row_cell ht hone hC hf' 0 f0 rfl
  obtain ⟨v1, m1, y1, c1, t1⟩ := row_cell ht hone hC hf' 1 f1 rfl
  obtain ⟨v2, m2, y2, c2, t2⟩ := row_cell ht hone hC hf' 2 f2 rfl
  rw [hf1] at t1
  rw [hf2] at t2
  obtain ⟨x0, e0, _, _⟩ := DataW.trod_string hf0 t0
  simp only [List.cons.injEq, and_true] at e0
  obtain ⟨A1, k1, ls, e1, o1, a1⟩ := open_list (α := Mt.Lit) 2 litCells2 (fun x => x.k < 256) ⟨0, ⟨#[]⟩⟩ (fun x => (by decide : 0 < 2)) hl hCl (fun n b cs D Pl hc ht => open_lit9 hel hol hCl hg0 hg1 hc ht) t1 hsp
  obtain ⟨A2, k2, vs, e2, o2, a2⟩ := open_list (α := PV) 4 pvCells (fun v => BytesAt w w.heap.size v.A v.p.code ∧ v.p.code.length ≤ v.c ∧ v.c ≤ 9223372036854775807) ⟨⟨0, 0, 0, []⟩, none, 0⟩ (fun x => (by decide : 0 < 4)) hp hCp (fun n b cs D Pl hc ht => open_part9 hep hop hCp hh0 hh1 hh2 hh3 h8 hc8 hc ht hsp) t2 hsp
  refine ⟨⟨x0, ls, A1, k1, vs, A2, k2⟩, ?_, ⟨⟨o1, a1⟩, ⟨o2, a2⟩⟩⟩
  subst e0 e1 e2
  unfold mvCells
  rw [Array.getElem?_toList] at c0 c1 c2
  congr 1
  apply Array.ext (by rw [hsz]; rfl)
  intro i h1 h2
  rcases i with _ | _ | _ | i
  · exact (Array.getElem?_eq_some_iff.1 c0).2
  · exact (Array.getElem?_eq_some_iff.1 c1).2
  · exact (Array.getElem?_eq_some_iff.1 c2).2
  · simp at h2; omega
theorem open_ask9 {t e8 : TypeId} {f0 f1 f2 : Field} {r : Reach} {b0 : Nat} {v : Value} {d : DataW H} {ps : List MemPlace}
    (ht : P.underlying t = some (.struct #[f0, f1, f2])) (hone : oneCellFields P #[f0, f1, f2] = true) (hC : P.cellsOf t = 3) (hf0 : P.underlying f0.type = some (.int .i64)) (hf1 : P.underlying f1.type = some (.int .i64)) (hf2 : P.underlying f2.type = some (.slice e8)) (h8 : P.underlying e8 = some (.int .u8)) (hc8 : P.cellsOf e8 = 1)
    (hval : Value.okWide P w r b0 t v) (h : DataW.Trod enc P w base spare held t v d ps) (hsp : ∀ b, spare b = true) :
    ∃ (x y : Int) (A : Option Addr) (c : Nat) (up : List Nat), v = .agg #[.int .i64 x, .int .i64 y, .slice A up.length c] ∧ BytesAt w w.heap.size A up ∧ up.length ≤ c ∧ c ≤ 9223372036854775807 := by
  obtain ⟨cs, rfl, hsz⟩ := okWide_struct ht hval
  rw [hC] at hsz
  obtain ⟨fuel, hf⟩ := h
  have hf' : DataW.trod enc P w base spare held fuel t cs.toList = some (d, ps) := by simpa [Value.cells] using hf
  obtain ⟨v0, m0, y0, c0, t0⟩ := row_cell ht hone hC hf' 0 f0 rfl
  obtain ⟨v1, m1, y1, c1, t1⟩ := row_cell ht hone hC hf' 1 f1 rfl
  obtain ⟨v2, m2, y2, c2, t2⟩ := row_cell ht hone hC hf' 2 f2 rfl
  obtain ⟨x0, e0, _, _⟩ := DataW.trod_int hf0 t0
  obtain ⟨x1, e1, _, _⟩ := DataW.trod_int hf1 t1
  simp only [List.cons.injEq, and_true] at e0 e1
  obtain ⟨A, c, up, e2, o1, o2, o3⟩ := open_cell8 hf2 h8 hc8 t2 hsp
  refine ⟨x0, x1, A, c, up, ?_, o1, o2, o3⟩
  subst e0 e1 e2
  rw [Array.getElem?_toList] at c0 c1 c2
  congr 1
  apply Array.ext (by rw [hsz]; rfl)
  intro i h1 h2
  rcases i with _ | _ | _ | i
  · exact (Array.getElem?_eq_some_iff.1 c0).2
  · exact (Array.getElem?_eq_some_iff.1 c1).2
  · exact (Array.getElem?_eq_some_iff.1 c2).2
  · simp at h2; omega
end
end Go.Proofs.YtjdgcgpidhljpaaGreatDoor
end

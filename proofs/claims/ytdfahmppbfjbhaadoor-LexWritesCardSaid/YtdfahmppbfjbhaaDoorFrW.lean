/- From a walk to a row of layer 13: the world's shape is kept; a witness world that lays the handle, the tables of unicode/utf8 and the table of the marks. -/
import Derived.Test.YtdfahmppbfjbhaaDoorZFr
import Derived.Test.YtdfahmppbfjbhaaDoorWxG
import Derived.Shelf.Vars
namespace Go.Proofs.YtdfahmppbfjbhaaDoor
open Go.ChangeShapes Go.WideShapes Go.ChangeAt Go.RowKit

def litCells : Nat → DataW Unit → List Value
  | 0, _ => []
  | k + 1, .agg ds => ds.flatMap (litCells k)
  | _ + 1, .lit (.int k n) => [.int k n]
  | _ + 1, _ => []
noncomputable def laidWorld3 (os : Os) : World :=
  let w0 := laidWorld os
  { w0 with heap := (w0.heap.modify 4 fun
      | .cells _ t frozen => .cells (litCells 4 Rows.laid_unicode_utf8_acceptRanges).toArray t frozen
      | o => o).modify 3 fun
      | .cells _ t frozen => .cells (litCells 4 Rows.laid_unicode_utf8_first).toArray t frozen
      | o => o }
theorem returns9 {H : Type} {enc : TypeId × Value → H} {a : Assume} {C : Checked} {os : Os} {f : FuncId} {fn : Func} {s : ChangeSpec} {conds : List PathCond} {apart fresh handsOn again : Bool} {X : World → Array Value → Prop}
    (hX : ∀ (w w' : World) (args : Array Value), w.heap = w'.heap → X w args → X w' args)
    (own : ownKnob C.prog.godebug = none) (started : os.Started) (noInit : C.prog.inits.idxOf? f = none) (hfn : C.prog.funcs[f]? = some fn)
    (witness : ∃ (w : World) (tape : Tape) (i : Input), w.os = os ∧ (w.forCall tape i).Shaped C.prog ∧ i.vars = [] ∧ Input.okWide C.prog (w.forCall tape i) .any w.heap.size f i ∧
      ((s.pre enc C.prog fn conds apart (w.forCall tape i).memory i.args ∧ X (w.forCall tape i).memory i.args) ∧ sizedMet enc C.prog fn (OpenSpec.ofChange s) apart (w.forCall tape i).memory i.args) ∧ a.holds C.prog (lone (Frame.enter C.prog f i.args .normal) [] (w.forCall tape i)))
    (walk : ∀ (W : World) (base : Nat) (args : Array Value) (ds gs : List (DataW H)) (before : List MemPlace),
      (∀ (j : Nat) t v, fn.params[j]? = some t → args[j]? = some v → Value.okWide C.prog W .any base t v) →
      DataW.Whole enc C.prog fn.params.toList s.vars apart W args.toList ds gs before →
      (DataW.weightsEach C.prog (fn.params.toList ++ s.plain.varTypes C.prog) (ds ++ gs)).all (· ≤ reachBytes) = true → X W args → W.ShapedOpen C.prog →
      Calls C.prog f args W fun e W' => ∃ v, e = .returned v ∧ s.post enc C.prog fn apart fresh handsOn again W args v W') :
    ReturnsInHanded a C os f .any (fun w args => (s.pre enc C.prog fn conds apart w args ∧ X w args) ∧ sizedMet enc C.prog fn (OpenSpec.ofChange s) apart w args) (s.post enc C.prog fn apart fresh handsOn again) :=
  returnsInHanded_of_calls own started noInit witness fun w tape i _ shape _ ok pre _ => by
    obtain ⟨_, _, _, g, hg, _, _, _, _, hval⟩ := ok
    obtain rfl := Option.some.inj (hg.symm.trans hfn)
    obtain ⟨⟨⟨ds, gs, before, whole, _⟩, hx⟩, hz⟩ := pre
    exact (walk _ w.heap.size i.args ds gs before hval (DataW.Whole.of_heap (w' := w.forCall tape i) (by rfl) whole) (hz.weights whole) (hX _ _ _ (by rfl) hx) shape).mono fun e W' ⟨v, he, hp⟩ => by
      subst he
      exact ChangeSpec.post_blind hp
theorem max_of_shape {W : World} (h : W.ShapedOpen Tryd.prog) : MaxAt W :=
  cell_of_shapedOpen_int (t := 3) (zero := #[.int .i64 0]) (k := .i64) h (of_decide_eq_true (by kernel_rfl)) (by kernel_rfl) rfl (by kernel_rfl) (by kernel_rfl) Tryd.underlying3
theorem laid_mem {w : World} : ∀ {l : List (String × DataW Unit)} {ps : List MemPlace} {n : String} {d : DataW Unit}, DataW.LaidVars Tryd.prog w l ps → (n, d) ∈ l →
    ∃ g t cs fuel p, Tryd.prog.globalNamed n = some g ∧ (Tryd.prog.globals[g]?).map (·.type) = some t ∧ w.var? Tryd.prog n = some cs ∧ DataW.trod (fun _ => ()) Tryd.prog w 0 (fun _ => true) false fuel t cs.toList = some (d, p)
  | [], _, _, _, _, h => absurd h (by simp)
  | (n0, d0) :: r, ps, n, d, hl, h => by
    obtain ⟨g, t, cs, fuel, p, q, h1, h2, h3, h4, h5, _⟩ := hl
    rcases List.mem_cons.1 h with h | h
    · obtain ⟨rfl, rfl⟩ := Prod.mk.inj h
      exact ⟨g, t, cs, fuel, p, h1, h2, h3, h4⟩
    · exact laid_mem h5 h
theorem Tryd.gm : Tryd.prog.globalNamed "colloquy/lex.marks" = some 1 := by kernel_rfl
theorem Tryd.gmType : (Tryd.prog.globals[1]?).map (·.type) = some 90 := by kernel_rfl
theorem mark_data : Rows.laid_colloquy_lex_marks (H := Unit) = .agg ((List.range 17).map fun i => .lit (.string (Lx.mark i))) := by kernel_rfl
/-- The table's cells. -/
theorem mark_cells {w : World} {sp : Nat → Bool} {held : Bool} {fuel : Nat} {cs : List Value} {p : List MemPlace}
    (h : DataW.trod (fun _ => ()) Tryd.prog w 0 sp held fuel 90 cs = some (Rows.laid_colloquy_lex_marks, p)) (i : Nat) (hi : i < 17) :
    cs[i]? = some (.string (ofL (Lx.mark i))) := by
  obtain ⟨xs, m, _, hx, hl, hlen, hall⟩ := DataW.trod_array Tryd.underlying90 h
  rw [show Tryd.prog.cellsOf 90 = 17 by kernel_rfl] at hl
  have hd := hall i hi
  rw [show Tryd.prog.cellsOf 9 = 1 by kernel_rfl] at hd
  have hxs : xs.map (·.1) = (List.range 17).map fun i => .lit (.string (Lx.mark i)) := by
    have := congrArg Prod.fst hx
    rw [mark_data] at this
    simpa using this.symm
  obtain ⟨y, hy⟩ : ∃ y, xs[i]? = some y := ⟨_, List.getElem?_eq_getElem (by omega)⟩
  have hy1 : y.1 = .lit (.string (Lx.mark i)) := by
    have h1 : (xs.map (·.1))[i]? = some y.1 := by simp [hy]
    rw [hxs] at h1
    simpa [hi] using h1.symm
  rw [hy] at hd
  obtain ⟨s0, c0, z0, _⟩ := DataW.trod_string Tryd.underlying9 hd
  rw [z0] at hy1
  simp only [DataW.lit.injEq, Lit.string.injEq] at hy1
  have hs : s0 = ofL (Lx.mark i) := bs_ext hy1
  have hci : (cs.drop (i * 1))[0]? = some (.string s0) := by
    have h1 := congrArg (fun l => l[0]?) c0
    simpa using h1
  rw [← hs]
  rw [List.getElem?_drop] at hci
  simpa using hci
theorem marks_of_laid {W : World} {l : List (String × DataW Unit)} (hs : l.filter (fun x => x.2.handleName?.isSome) = [("errors.errorType", Rows.laid_errors_errorType)]) (hl : ("colloquy/lex.marks", Rows.laid_colloquy_lex_marks) ∈ l.filter fun x => x.2.handleName?.isNone) (h : laidMetH Tryd.prog l W) : MarksAt W := by
  unfold laidMetH at h
  rw [hs] at h
  obtain ⟨⟨ps, h', _⟩, _⟩ := h
  obtain ⟨g, t, cs, fuel, p, hg, ht, hvar, hd⟩ := laid_mem h' hl
  obtain rfl := Option.some.inj (Tryd.gm.symm.trans hg)
  obtain rfl := Option.some.inj (Tryd.gmType.symm.trans ht)
  intro c hc
  have h1 := mark_cells hd c hc
  rw [Array.getElem?_toList] at h1
  exact (World.var?_cell Tryd.gm hvar c).trans h1
/-- A world in which all that the row lists is laid: for the witness. -/
noncomputable def laidWorld13 (os : Os) : World :=
  let w0 := laidWorld3 os
  { w0 with heap := w0.heap.modify 1 fun
      | .cells _ t frozen => .cells ((List.range 17).map fun i => .string (ofL (Lx.mark i))).toArray t frozen
      | o => o }
end Go.Proofs.YtdfahmppbfjbhaaDoor

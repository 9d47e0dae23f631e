/- Texts of this claim in one: ZF9 Open10. -/
import Derived.Test.YtjladeiecokpfaaGreatDoorZFr
import Derived.Test.YtjladeiecokpfaaGreatDoorZMtF
import Derived.Test.YtjladeiecokpfaaGreatDoorZMtJ
import Derived.Shelf.Vars
import Derived.Test.YtjladeiecokpfaaGreatDoorZMtR
import Derived.Deep.Slices
import Derived.Deep.Fields
import Derived.ChangeSame
import Derived.Test.YtjladeiecokpfaaGreatDoorMg51
section
/- Parts of elder texts that this layer needs, joined: XFrame9 XOpen9. -/
namespace Go.Proofs.YtjladeiecokpfaaGreatDoor
open Go.ChangeShapes Go.WideShapes Go.ChangeAt Go.RowKit

theorem returns9 {H : Type} {enc : TypeId × Value → H} {a : Assume} {C : Checked} {os : Os} {f : FuncId} {fn : Func} {s : ChangeSpec} {conds : List PathCond} {apart fresh handsOn again : Bool} {X : World → Array Value → Prop}
    (hX : ∀ (w w' : World) (args : Array Value), w.heap = w'.heap → X w args → X w' args)
    (own : ownKnob C.prog.godebug = none) (started : os.Started) (noInit : C.prog.inits.idxOf? f = none) (hfn : C.prog.funcs[f]? = some fn)
    (witness : ∃ (w : World) (tape : Tape) (i : Input), w.os = os ∧ (w.forCall tape i).Shaped C.prog ∧ i.vars = [] ∧ Input.okWide C.prog (w.forCall tape i) .any w.heap.size f i ∧
      ((s.pre enc C.prog fn conds apart (w.forCall tape i).memory i.args ∧ X (w.forCall tape i).memory i.args) ∧ sizedMet enc C.prog fn (OpenSpec.ofChange s) apart (w.forCall tape i).memory i.args) ∧ a.holds C.prog (lone (Frame.enter C.prog f i.args .normal) [] (w.forCall tape i)))
    (walk : ∀ (W : World) (base : Nat) (args : Array Value) (ds gs : List (DataW H)) (before : List MemPlace),
      (∀ (j : Nat) t v, fn.params[j]? = some t → args[j]? = some v → Value.okWide C.prog W .any base t v) →
      DataW.Whole enc C.prog fn.params.toList s.vars apart W args.toList ds gs before →
      (DataW.weightsEach C.prog (fn.params.toList ++ s.plain.varTypes C.prog) (ds ++ gs)).all (· ≤ reachBytes) = true → X W args → W.ShapedOpen C.prog →
      Calls C.prog f args W fun e W' => ∃ v, e = .returned v ∧ s.post enc C.prog fn apart fresh handsOn again W args v W') :
    ReturnsInHanded a C os f .any (fun w args => (s.pre enc C.prog fn conds apart w args ∧ X w args) ∧ sizedMet enc C.prog fn (OpenSpec.ofChange s) apart w args) (s.post enc C.prog fn apart fresh handsOn again) :=
  returnsInHanded_of_calls own started noInit witness fun w tape i _ shape _ ok pre _ => by
    obtain ⟨_, _, _, g, hg, _, _, _, _, hval⟩ := ok
    obtain rfl := Option.some.inj (hg.symm.trans hfn)
    obtain ⟨⟨⟨ds, gs, before, whole, _⟩, hx⟩, hz⟩ := pre
    exact (walk _ w.heap.size i.args ds gs before hval (DataW.Whole.of_heap (w' := w.forCall tape i) (by rfl) whole) (hz.weights whole) (hX _ _ _ (by rfl) hx) shape).mono fun e W' ⟨v, he, hp⟩ => by
      subst he
      exact ChangeSpec.post_blind hp
theorem max_of_shape {W : World} (h : W.ShapedOpen Tryz.prog) : MaxAt W :=
  cell_of_shapedOpen_int (t := 3) (zero := #[.int .i64 0]) (k := .i64) h (of_decide_eq_true (by kernel_rfl)) (by kernel_rfl) rfl (by kernel_rfl) (by kernel_rfl) Tryz.underlying3
theorem laid_mem {w : World} : ∀ {l : List (String × DataW Unit)} {ps : List MemPlace} {n : String} {d : DataW Unit}, DataW.LaidVars Tryz.prog w l ps → (n, d) ∈ l →
    ∃ g t cs fuel p, Tryz.prog.globalNamed n = some g ∧ (Tryz.prog.globals[g]?).map (·.type) = some t ∧ w.var? Tryz.prog n = some cs ∧ DataW.trod (fun _ => ()) Tryz.prog w 0 (fun _ => true) false fuel t cs.toList = some (d, p)
  | [], _, _, _, _, h => absurd h (by simp)
  | (n0, d0) :: r, ps, n, d, hl, h => by
    obtain ⟨g, t, cs, fuel, p, q, h1, h2, h3, h4, h5, _⟩ := hl
    rcases List.mem_cons.1 h with h | h
    · obtain ⟨rfl, rfl⟩ := Prod.mk.inj h
      exact ⟨g, t, cs, fuel, p, h1, h2, h3, h4⟩
    · exact laid_mem h5 h
/-- The listed table of the instructions, in a row that lists other variables, too. -/
theorem tab_of_laid9 {W : World} {l : List (String × DataW Unit)} (hs : l.filter (fun x => x.2.handleName?.isSome) = [("errors.errorType", Rows.laid_errors_errorType)]) (hl : ("colloquy/op.instructions", Rows.laid_colloquy_op_instructions) ∈ l.filter fun x => x.2.handleName?.isNone) (h : laidMetH Tryz.prog l W) : TabAt W := by
  unfold laidMetH at h
  rw [hs] at h
  obtain ⟨⟨ps, h', _⟩, _⟩ := h
  obtain ⟨g, t, cs, fuel, p, hg, ht, hvar, hd⟩ := laid_mem h' hl
  obtain rfl := Option.some.inj (Tryz.gi.symm.trans hg)
  obtain rfl := Option.some.inj (Tryz.giType.symm.trans ht)
  intro c hc
  obtain ⟨h1, h2⟩ := tab_cells hd c hc
  rw [Array.getElem?_toList] at h1 h2
  exact ⟨(World.var?_cell Tryz.gi hvar (c * 2)).trans h1, (World.var?_cell Tryz.gi hvar (c * 2 + 1)).trans h2⟩
/-- A world in which all that the row lists is laid: for the witness. -/
noncomputable def laidWorld9 (os : Os) : World :=
  let w0 := laidWorld3 os
  { w0 with heap := w0.heap.modify 2 fun
      | .cells _ t frozen => .cells ((List.range 21).flatMap fun i => [.string (nameB i), .string (formB i)]).toArray t frozen
      | o => o }
end Go.Proofs.YtjladeiecokpfaaGreatDoor
namespace Go.Proofs.YtjladeiecokpfaaGreatDoor
open Go.ChangeShapes Go.WideShapes Go.ChangeAt Go.RowKit Go.Deep
section
variable {H : Type} {enc : TypeId × Value → H} {P : Program} {w : World} {base : Nat} {spare : Nat → Bool} {held : Bool}
theorem okWide_struct {r : Reach} {b0 : Nat} {t : TypeId} {fs : Array Field} {v : Value} (ht : P.underlying t = some (.struct fs)) (h : Value.okWide P w r b0 t v) : ∃ cs, v = .agg cs ∧ cs.size = P.cellsOf t := by
  simp only [Value.okWide, ht] at h
  obtain ⟨cs, h1, h2, _⟩ := h
  exact ⟨cs, h1, h2⟩
/-- One cell of a struct whose fields have one cell each. -/
theorem row_cell {e : TypeId} {fs : Array Field} {n : Nat} {cs : List Value} {D : DataW H} {Pl : List MemPlace} (he : P.underlying e = some (.struct fs)) (hone : oneCellFields P fs = true) (hC : P.cellsOf e = fs.size)
    (ht : DataW.trod enc P w base spare held n e cs = some (D, Pl)) (j : Nat) (f : Field) (hj : fs[j]? = some f) :
    ∃ (v : Value) (m : Nat) (y : DataW H × List MemPlace), cs[j]? = some v ∧ DataW.trod enc P w base spare held m f.type [v] = some y := by
  obtain ⟨xs, m, _, _, hlen, hxl, hx⟩ := DataW.trod_struct he ht
  have hjl : j < fs.size := (Array.getElem?_eq_some_iff.1 hj).1
  obtain ⟨ho, hk⟩ := hone_of hone j f hj
  have h1 := hx j f hj
  rw [ho, hk, List.drop_eq_getElem_cons (by omega), List.getElem?_eq_getElem (by omega)] at h1
  exact ⟨cs[j]'(by omega), m, _, List.getElem?_eq_getElem (by omega), h1⟩
/-- A slice of structs that came in. -/
theorem open_list {α : Type} (k : Nat) (cells : α → Array Value) (Ok : α → Prop) (z : α) (hz : ∀ x, 0 < (cells x).size) {t e : TypeId} {fuel : Nat} {c0 : Value} {y : DataW H × List MemPlace} (ht : P.underlying t = some (.slice e)) (hC : P.cellsOf e = k)
    (el : ∀ n b cs D Pl, w.cells? base b (P.cellsOf e) = some cs → DataW.trod enc P w base spare held n e cs = some (D, Pl) → ∃ v : α, Ok v ∧ ∀ j u, (cells v)[j]? = some u → w.cell? (b.add j) = some u)
    (hf : DataW.trod enc P w base spare held fuel t [c0] = some y) (hsp : ∀ b, spare b = true) :
    ∃ (A : Option Addr) (c : Nat) (vs : List α), c0 = .slice A vs.length c ∧ (∀ v ∈ vs, Ok v) ∧ (0 < vs.length → ∃ ad, A = some ad ∧ ad.block < w.heap.size ∧ ∀ i v, vs[i]? = some v → ∀ j u, (cells v)[j]? = some u → w.cell? (ad.add (i * k + j)) = some u) := by
  rcases open_slice ht hf with ⟨hcs, _⟩ | ⟨a, len, cap, m, n, D, Pl, hcs, _, hl, hmx, hm, _, hi⟩
  · simp only [List.cons.injEq, and_true] at hcs
    exact ⟨none, 0, [], hcs, (by simp), fun h => absurd h (by simp)⟩
  · simp only [List.cons.injEq, and_true] at hcs
    rw [hsp, if_pos rfl] at hm
    have hex : ∀ i, ∃ v : α, i < len → Ok v ∧ ∀ j u, (cells v)[j]? = some u → w.cell? ((a.add (i * k)).add j) = some u := by
      intro i
      by_cases hil : i < len
      · obtain ⟨cs, hc, hct⟩ := hi i (by omega)
        rw [hC] at hc
        obtain ⟨v, k1, k2⟩ := el _ _ _ _ _ (by rw [hC]; exact hc) hct
        exact ⟨v, fun _ => ⟨k1, k2⟩⟩
      · exact ⟨z, fun h => absurd h hil⟩
    obtain ⟨V, hV⟩ := Classical.axiomOfChoice hex
    refine ⟨some a, cap, (List.range len).map V, by simpa using hcs, fun v hv => ?_, fun hn => ⟨a, rfl, ?_, fun i v hv j u hu => ?_⟩⟩
    · obtain ⟨i, hi2, rfl⟩ := List.mem_map.1 hv
      exact (hV i (List.mem_range.1 hi2)).1
    · have hpos : 0 < len := by simpa using hn
      have := World.block_lt_of_cell? w _ ((hV 0 hpos).2 0 _ (Array.getElem?_eq_getElem (hz _)))
      rwa [block_add, block_add] at this
    · obtain ⟨hil, rfl⟩ : i < len ∧ V i = v := by
        rw [List.getElem?_map] at hv
        obtain ⟨k, hk, rfl⟩ := Option.map_eq_some_iff.1 hv
        obtain ⟨h1, h2⟩ := List.getElem?_eq_some_iff.1 hk
        simp at h1 h2
        subst h2
        exact ⟨h1, rfl⟩
      rw [← add_add]
      exact (hV i hil).2 j u hu
/-- A slice of bytes in a cell. -/
theorem open_cell8 {s e : TypeId} {fuel : Nat} {c0 : Value} {x : DataW H × List MemPlace} (hs : P.underlying s = some (.slice e)) (he : P.underlying e = some (.int .u8)) (hc : P.cellsOf e = 1) (hf : DataW.trod enc P w base spare held fuel s [c0] = some x) (hsp : ∀ b, spare b = true) :
    ∃ (A : Option Addr) (c : Nat) (up : List Nat), c0 = .slice A up.length c ∧ BytesAt w w.heap.size A up ∧ up.length ≤ c ∧ c ≤ 9223372036854775807 := by
  rcases open_ints hs he hc hf with ⟨hcs, _⟩ | ⟨a, len, cap, zs, hcs, _, hl, hmx, hz, hx, hcell, hwz⟩
  · simp only [List.cons.injEq, and_true] at hcs
    exact ⟨none, 0, [], hcs, BytesAt.nil _ _ _, by simp, by decide⟩
  · simp only [List.cons.injEq, and_true] at hcs
    rw [hsp, if_pos rfl] at hz
    simp only [maxLen] at hmx
    have hlen : ((zs.take len).map Int.toNat).length = len := by simp [hz]; omega
    have hget : ∀ j, j < len → (((zs.take len).map Int.toNat).getD j 0 : Nat) = (zs.getD j 0).toNat := by
      intro j hj
      have h1 : j < zs.length := by omega
      simp [List.getD_eq_getElem?_getD, hj, h1]
    refine ⟨some a, cap, (zs.take len).map Int.toNat, by rw [hlen]; exact hcs, ⟨?_, fun hpos => ⟨a, rfl, ?_, ?_⟩⟩, by omega, by omega⟩
    · intro y hy
      obtain ⟨z, hz1, rfl⟩ := List.mem_map.1 hy
      have := u8_bounds (hwz z (List.mem_of_mem_take hz1))
      omega
    · rw [hlen] at hpos
      have := World.block_lt_of_cell? w _ (hcell 0 (by omega))
      rwa [block_add] at this
    · intro j hj
      rw [hlen] at hj
      rw [hcell j (by omega), hget j hj]
      have hmem : zs.getD j 0 ∈ zs := by
        rw [List.getD_eq_getElem?_getD, List.getElem?_eq_getElem (by omega)]
        exact List.getElem_mem _
      have := u8_bounds (hwz _ hmem)
      rw [Int.toNat_of_nonneg this.1]
/-- A literal that came in. -/
theorem open_lit9 {e : TypeId} {f0 f1 : Field} {n : Nat} {b : Addr} {cs : List Value} {D : DataW H} {Pl : List MemPlace} (he : P.underlying e = some (.struct #[f0, f1])) (hone : oneCellFields P #[f0, f1] = true) (hC : P.cellsOf e = 2)
    (h0 : P.underlying f0.type = some (.int .u8)) (h1 : P.underlying f1.type = some .string)
    (hc : w.cells? base b (P.cellsOf e) = some cs) (ht : DataW.trod enc P w base spare held n e cs = some (D, Pl)) :
    ∃ x : Mt.Lit, x.k < 256 ∧ ∀ j u, (litCells2 x)[j]? = some u → w.cell? (b.add j) = some u := by
  obtain ⟨_, hlen, hcell⟩ := World.cells?_some hc
  have hs : P.cellsOf e = (#[f0, f1] : Array Field).size := hC
  obtain ⟨v0, m0, y0, c0, t0⟩ := row_cell he hone hs ht 0 f0 rfl
  obtain ⟨v1, m1, y1, c1, t1⟩ := row_cell he hone hs ht 1 f1 rfl
  obtain ⟨x0, e0, _, w0⟩ := DataW.trod_int h0 t0
  obtain ⟨x1, e1, _, _⟩ := DataW.trod_string h1 t1
  simp only [List.cons.injEq, and_true] at e0 e1
  subst e0 e1
  have b0 := u8_bounds w0
  have hk : (((x0.toNat : Nat) : Nat) : Int) = x0 := by omega
  refine ⟨⟨x0.toNat, x1⟩, by show x0.toNat < 256; omega, fun j u hu => ?_⟩
  unfold litCells2 at hu
  rcases j with _ | _ | j
  · have e : Value.int .u8 ((x0.toNat : Nat) : Int) = u := by simpa using hu
    rw [← e, hk, hcell 0 (by omega)]; exact c0
  · have e : Value.string x1 = u := by simpa using hu
    rw [← e, hcell 1 (by omega)]; exact c1
  · simp at hu
/-- A part that came in. -/
theorem open_part9 {e e8 : TypeId} {f0 f1 f2 f3 : Field} {n : Nat} {b : Addr} {cs : List Value} {D : DataW H} {Pl : List MemPlace} (he : P.underlying e = some (.struct #[f0, f1, f2, f3])) (hone : oneCellFields P #[f0, f1, f2, f3] = true) (hC : P.cellsOf e = 4)
    (h0 : P.underlying f0.type = some (.int .i64)) (h1 : P.underlying f1.type = some (.int .i64)) (h2 : P.underlying f2.type = some (.int .i64)) (h3 : P.underlying f3.type = some (.slice e8)) (h8 : P.underlying e8 = some (.int .u8)) (hc8 : P.cellsOf e8 = 1)
    (hc : w.cells? base b (P.cellsOf e) = some cs) (ht : DataW.trod enc P w base spare held n e cs = some (D, Pl)) (hsp : ∀ b, spare b = true) :
    ∃ v : PV, (BytesAt w w.heap.size v.A v.p.code ∧ v.p.code.length ≤ v.c ∧ v.c ≤ 9223372036854775807) ∧ ∀ j u, (pvCells v)[j]? = some u → w.cell? (b.add j) = some u := by
  obtain ⟨_, hlen, hcell⟩ := World.cells?_some hc
  have hs : P.cellsOf e = (#[f0, f1, f2, f3] : Array Field).size := hC
  obtain ⟨v0, m0, y0, c0, t0⟩ := row_cell he hone hs ht 0 f0 rfl
  obtain ⟨v1, m1, y1, c1, t1⟩ := row_cell he hone hs ht 1 f1 rfl
  obtain ⟨v2, m2, y2, c2, t2⟩ := row_cell he hone hs ht 2 f2 rfl
  obtain ⟨v3, m3, y3, c3, t3⟩ := row_cell he hone hs ht 3 f3 rfl
  obtain ⟨x0, e0, _, _⟩ := DataW.trod_int h0 t0
  obtain ⟨x1, e1, _, _⟩ := DataW.trod_int h1 t1
  obtain ⟨x2, e2, _, _⟩ := DataW.trod_int h2 t2
  obtain ⟨A, c, up, e3, hb, hl, hm⟩ := open_cell8 h3 h8 hc8 t3 hsp
  simp only [List.cons.injEq, and_true] at e0 e1 e2
  subst e0 e1 e2 e3
  refine ⟨⟨⟨x0, x1, x2, up⟩, A, c⟩, ⟨hb, hl, hm⟩, fun j u hu => ?_⟩
  unfold pvCells at hu
  rcases j with _ | _ | _ | _ | j
  · have e : Value.int .i64 x0 = u := by simpa using hu
    rw [← e, hcell 0 (by omega)]; exact c0
  · have e : Value.int .i64 x1 = u := by simpa using hu
    rw [← e, hcell 1 (by omega)]; exact c1
  · have e : Value.int .i64 x2 = u := by simpa using hu
    rw [← e, hcell 2 (by omega)]; exact c2
  · have e : Value.slice A up.length c = u := by simpa using hu
    rw [← e, hcell 3 (by omega)]; exact c3
  · simp at hu
end
end Go.Proofs.YtjladeiecokpfaaGreatDoor
end

section
/- Arguments opened: classes, methods in a slice, what is asked of them. -/
namespace Go.Proofs.YtjladeiecokpfaaGreatDoor
open Go.ChangeShapes Go.WideShapes Go.ChangeAt Go.RowKit Go.Deep
section
variable {H : Type} {enc : TypeId × Value → H} {P : Program} {w : World} {base : Nat} {spare : Nat → Bool} {held : Bool}
/-- A slice of structs that came in, with its capacity. -/
theorem open_listc {α : Type} (k : Nat) (cells : α → Array Value) (Ok : α → Prop) (z : α) (hz : ∀ x, 0 < (cells x).size) {t e : TypeId} {fuel : Nat} {c0 : Value} {y : DataW H × List MemPlace} (ht : P.underlying t = some (.slice e)) (hC : P.cellsOf e = k)
    (el : ∀ n b cs D Pl, w.cells? base b (P.cellsOf e) = some cs → DataW.trod enc P w base spare held n e cs = some (D, Pl) → ∃ v : α, Ok v ∧ ∀ j u, (cells v)[j]? = some u → w.cell? (b.add j) = some u)
    (hf : DataW.trod enc P w base spare held fuel t [c0] = some y) (hsp : ∀ b, spare b = true) :
    ∃ (A : Option Addr) (c : Nat) (vs : List α), c0 = .slice A vs.length c ∧ vs.length ≤ c ∧ (∀ v ∈ vs, Ok v) ∧ (0 < vs.length → ∃ ad, A = some ad ∧ ad.block < w.heap.size ∧ ∀ i v, vs[i]? = some v → ∀ j u, (cells v)[j]? = some u → w.cell? (ad.add (i * k + j)) = some u) := by
  rcases open_slice ht hf with ⟨hcs, _⟩ | ⟨a, len, cap, m, n, D, Pl, hcs, _, hl, hmx, hm, _, hi⟩
  · simp only [List.cons.injEq, and_true] at hcs
    exact ⟨none, 0, [], hcs, by simp, (by simp), fun h => absurd h (by simp)⟩
  · simp only [List.cons.injEq, and_true] at hcs
    rw [hsp, if_pos rfl] at hm
    have hex : ∀ i, ∃ v : α, i < len → Ok v ∧ ∀ j u, (cells v)[j]? = some u → w.cell? ((a.add (i * k)).add j) = some u := by
      intro i
      by_cases hil : i < len
      · obtain ⟨cs, hc, hct⟩ := hi i (by omega)
        rw [hC] at hc
        obtain ⟨v, k1, k2⟩ := el _ _ _ _ _ (by rw [hC]; exact hc) hct
        exact ⟨v, fun _ => ⟨k1, k2⟩⟩
      · exact ⟨z, fun h => absurd h hil⟩
    obtain ⟨V, hV⟩ := Classical.axiomOfChoice hex
    refine ⟨some a, cap, (List.range len).map V, by simpa using hcs, by simp; omega, fun v hv => ?_, fun hn => ⟨a, rfl, ?_, fun i v hv j u hu => ?_⟩⟩
    · obtain ⟨i, hi2, rfl⟩ := List.mem_map.1 hv
      exact (hV i (List.mem_range.1 hi2)).1
    · have hpos : 0 < len := by simpa using hn
      have := World.block_lt_of_cell? w _ ((hV 0 hpos).2 0 _ (Array.getElem?_eq_getElem (hz _)))
      rwa [block_add, block_add] at this
    · obtain ⟨hil, rfl⟩ : i < len ∧ V i = v := by
        rw [List.getElem?_map] at hv
        obtain ⟨k, hk, rfl⟩ := Option.map_eq_some_iff.1 hv
        obtain ⟨h1, h2⟩ := List.getElem?_eq_some_iff.1 hk
        simp at h1 h2
        subst h2
        exact ⟨h1, rfl⟩
      rw [← add_add]
      exact (hV i hil).2 j u hu
/-- A slice of texts in a cell. -/
theorem open_cellS {s e : TypeId} {fuel : Nat} {c0 : Value} {x : DataW H × List MemPlace} (hs : P.underlying s = some (.slice e)) (he : P.underlying e = some .string) (hc : P.cellsOf e = 1) (hf : DataW.trod enc P w base spare held fuel s [c0] = some x) (hsp : ∀ b, spare b = true) :
    ∃ (A : Option Addr) (c : Nat) (l : List ByteArray), c0 = .slice A l.length c ∧ StrsAt w w.heap.size A l ∧ l.length ≤ c := by
  obtain ⟨A, c, vs, h1, h2, _, h4⟩ := open_listc (α := ByteArray) 1 (fun s => #[.string s]) (fun _ => True) ⟨#[]⟩ (fun x => (by decide : 0 < 1)) hs hc (fun n b cs D Pl hcs ht => by
    obtain ⟨_, hlen, hcell⟩ := World.cells?_some hcs
    obtain ⟨x0, e0, _, _⟩ := DataW.trod_string he ht
    refine ⟨x0, trivial, fun j u hu => ?_⟩
    rcases j with _ | j
    · have e : Value.string x0 = u := by simpa using hu
      rw [hcell 0 (by rw [hc]; decide), e0, ← e]; rfl
    · simp at hu) hf hsp
  refine ⟨A, c, vs, h1, fun hn => ?_, h2⟩
  obtain ⟨ad, k1, k2, k3⟩ := h4 hn
  exact ⟨ad, k1, k2, fun i s hi => by have := k3 i s hi 0 (.string s) rfl; simpa using this⟩
/-- A slice of ints in a cell. -/
theorem open_cellI {s e : TypeId} {fuel : Nat} {c0 : Value} {x : DataW H × List MemPlace} (hs : P.underlying s = some (.slice e)) (he : P.underlying e = some (.int .i64)) (hc : P.cellsOf e = 1) (hf : DataW.trod enc P w base spare held fuel s [c0] = some x) (hsp : ∀ b, spare b = true) :
    ∃ (A : Option Addr) (c : Nat) (l : List Int), c0 = .slice A l.length c ∧ IntsAt w w.heap.size A l ∧ l.length ≤ c := by
  rcases open_ints hs he hc hf with ⟨hcs, _⟩ | ⟨a, len, cap, zs, hcs, _, hl, hmx, hz, hx, hcell, hwz⟩
  · simp only [List.cons.injEq, and_true] at hcs
    exact ⟨none, 0, [], hcs, ⟨by simp, fun h => absurd h (by simp)⟩, by simp⟩
  · simp only [List.cons.injEq, and_true] at hcs
    rw [hsp, if_pos rfl] at hz
    have hlen : (zs.take len).length = len := by simp [hz]; omega
    have hget : ∀ j, j < len → (zs.take len).getD j 0 = zs.getD j 0 := by
      intro j hj
      have h1 : j < zs.length := by omega
      simp [List.getD_eq_getElem?_getD, hj]
    refine ⟨some a, cap, zs.take len, by rw [hlen]; exact hcs, ⟨?_, fun hpos => ⟨a, rfl, ?_, ?_⟩⟩, by omega⟩
    · intro y hy
      exact i64_bounds (hwz y (List.mem_of_mem_take hy))
    · rw [hlen] at hpos
      have := World.block_lt_of_cell? w _ (hcell 0 (by omega))
      rwa [block_add] at this
    · intro j hj
      rw [hlen] at hj
      rw [hcell j (by omega), hget j hj]
/-- A class that came in. -/
theorem open_cls10 {e s1 e1 s2 e2 : TypeId} {f0 f1 f2 f3 : Field} {n : Nat} {b : Addr} {cs : List Value} {D : DataW H} {Pl : List MemPlace} (he : P.underlying e = some (.struct #[f0, f1, f2, f3])) (hone : oneCellFields P #[f0, f1, f2, f3] = true) (hC : P.cellsOf e = 4)
    (h0 : P.underlying f0.type = some .string) (h1 : P.underlying f1.type = some (.int .i64)) (hf2 : f2.type = s1) (hf3 : f3.type = s2) (h2 : P.underlying s1 = some (.slice e1)) (k2 : P.underlying e1 = some .string) (l2 : P.cellsOf e1 = 1) (h3 : P.underlying s2 = some (.slice e2)) (k3 : P.underlying e2 = some (.int .i64)) (l3 : P.cellsOf e2 = 1)
    (hc : w.cells? base b (P.cellsOf e) = some cs) (ht : DataW.trod enc P w base spare held n e cs = some (D, Pl)) (hsp : ∀ b, spare b = true) :
    ∃ v : CV, CvOk w v ∧ ∀ j u, (cvCells v)[j]? = some u → w.cell? (b.add j) = some u := by
  obtain ⟨_, hlen, hcell⟩ := World.cells?_some hc
  have hs : P.cellsOf e = (#[f0, f1, f2, f3] : Array Field).size := hC
  obtain ⟨v0, m0, y0, c0, t0⟩ := row_cell he hone hs ht 0 f0 rfl
  obtain ⟨v1, m1, y1, c1, t1⟩ := row_cell he hone hs ht 1 f1 rfl
  obtain ⟨v2, m2, y2, c2, t2⟩ := row_cell he hone hs ht 2 f2 rfl
  obtain ⟨v3, m3, y3, c3, t3⟩ := row_cell he hone hs ht 3 f3 rfl
  rw [hf2] at t2
  rw [hf3] at t3
  obtain ⟨x0, e0, _, _⟩ := DataW.trod_string h0 t0
  obtain ⟨x1, e1, _, w1⟩ := DataW.trod_int h1 t1
  obtain ⟨A1, k1, ss, e2, a2, b2⟩ := open_cellS h2 k2 l2 t2 hsp
  obtain ⟨A2, k2, is, e3, a3, b3⟩ := open_cellI h3 k3 l3 t3 hsp
  simp only [List.cons.injEq, and_true] at e0 e1
  subst e0 e1 e2 e3
  refine ⟨⟨⟨x0, x1, ss, is⟩, A1, k1, A2, k2⟩, ⟨a2, a3, i64_bounds w1, b2, b3⟩, fun j u hu => ?_⟩
  unfold cvCells at hu
  rcases j with _ | _ | _ | _ | j
  · have e : Value.string x0 = u := by simpa using hu
    rw [← e, hcell 0 (by omega)]; exact c0
  · have e : Value.int .i64 x1 = u := by simpa using hu
    rw [← e, hcell 1 (by omega)]; exact c1
  · have e : Value.slice A1 ss.length k1 = u := by simpa using hu
    rw [← e, hcell 2 (by omega)]; exact c2
  · have e : Value.slice A2 is.length k2 = u := by simpa using hu
    rw [← e, hcell 3 (by omega)]; exact c3
  · simp at hu
/-- A method that came in, in a slice. -/
theorem open_methc {t tl tp el ep e8 : TypeId} {f0 f1 f2 g0 g1 h0 h1 h2 h3 : Field} {n : Nat} {b : Addr} {cs : List Value} {D : DataW H} {Pl : List MemPlace}
    (ht : P.underlying t = some (.struct #[f0, f1, f2])) (hone : oneCellFields P #[f0, f1, f2] = true) (hC : P.cellsOf t = 3) (hf0 : P.underlying f0.type = some .string) (hf1 : f1.type = tl) (hf2 : f2.type = tp)
    (hl : P.underlying tl = some (.slice el)) (hel : P.underlying el = some (.struct #[g0, g1])) (hol : oneCellFields P #[g0, g1] = true) (hCl : P.cellsOf el = 2) (hg0 : P.underlying g0.type = some (.int .u8)) (hg1 : P.underlying g1.type = some .string)
    (hp : P.underlying tp = some (.slice ep)) (hep : P.underlying ep = some (.struct #[h0, h1, h2, h3])) (hop : oneCellFields P #[h0, h1, h2, h3] = true) (hCp : P.cellsOf ep = 4) (hh0 : P.underlying h0.type = some (.int .i64)) (hh1 : P.underlying h1.type = some (.int .i64)) (hh2 : P.underlying h2.type = some (.int .i64)) (hh3 : P.underlying h3.type = some (.slice e8)) (h8 : P.underlying e8 = some (.int .u8)) (hc8 : P.cellsOf e8 = 1)
    (hc : w.cells? base b (P.cellsOf t) = some cs) (hf' : DataW.trod enc P w base spare held n t cs = some (D, Pl)) (hsp : ∀ b, spare b = true) :
    ∃ u : MV, MethArg w u ∧ ∀ j x, (mvCells u)[j]? = some x → w.cell? (b.add j) = some x := by
  obtain ⟨_, hlen, hcell⟩ := World.cells?_some hc
  obtain ⟨v0, m0, y0, c0, t0⟩ := row_cell ht hone hC hf' 0 f0 rfl
  obtain ⟨v1, m1, y1, c1, t1⟩ := row_cell ht hone hC hf' 1 f1 rfl
  obtain ⟨v2, m2, y2, c2, t2⟩ := row_cell ht hone hC hf' 2 f2 rfl
  rw [hf1] at t1
  rw [hf2] at t2
  obtain ⟨x0, e0, _, _⟩ := DataW.trod_string hf0 t0
  simp only [List.cons.injEq, and_true] at e0
  obtain ⟨A1, k1, ls, e1, o1, a1⟩ := open_list (α := Mt.Lit) 2 litCells2 (fun x => x.k < 256) ⟨0, ⟨#[]⟩⟩ (fun x => (by decide : 0 < 2)) hl hCl (fun n b cs D Pl hc ht => open_lit9 hel hol hCl hg0 hg1 hc ht) t1 hsp
  obtain ⟨A2, k2, vs, e2, o2, a2⟩ := open_list (α := PV) 4 pvCells (fun v => BytesAt w w.heap.size v.A v.p.code ∧ v.p.code.length ≤ v.c ∧ v.c ≤ 9223372036854775807) ⟨⟨0, 0, 0, []⟩, none, 0⟩ (fun x => (by decide : 0 < 4)) hp hCp (fun n b cs D Pl hc ht => open_part9 hep hop hCp hh0 hh1 hh2 hh3 h8 hc8 hc ht hsp) t2 hsp
  refine ⟨⟨x0, ls, A1, k1, vs, A2, k2⟩, ⟨⟨o1, a1⟩, ⟨o2, a2⟩⟩, fun j u hu => ?_⟩
  subst e0 e1 e2
  unfold mvCells at hu
  rcases j with _ | _ | _ | j
  · have e : Value.string x0 = u := by simpa using hu
    rw [← e, hcell 0 (by omega)]; exact c0
  · have e : Value.slice A1 ls.length k1 = u := by simpa using hu
    rw [← e, hcell 1 (by omega)]; exact c1
  · have e : Value.slice A2 vs.length k2 = u := by simpa using hu
    rw [← e, hcell 2 (by omega)]; exact c2
  · simp at hu
/-- Classes that came in. -/
theorem open_classes {s e s1 e1 s2 e2 : TypeId} {f0 f1 f2 f3 : Field} {r : Reach} {b0 : Nat} {v : Value} {d : DataW H} {ps : List MemPlace} (hs : P.underlying s = some (.slice e)) (he : P.underlying e = some (.struct #[f0, f1, f2, f3])) (hone : oneCellFields P #[f0, f1, f2, f3] = true) (hC : P.cellsOf e = 4)
    (h0 : P.underlying f0.type = some .string) (h1 : P.underlying f1.type = some (.int .i64)) (hf2 : f2.type = s1) (hf3 : f3.type = s2) (h2 : P.underlying s1 = some (.slice e1)) (k2 : P.underlying e1 = some .string) (l2 : P.cellsOf e1 = 1) (h3 : P.underlying s2 = some (.slice e2)) (k3 : P.underlying e2 = some (.int .i64)) (l3 : P.cellsOf e2 = 1)
    (hval : Value.okWide P w r b0 s v) (h : DataW.Trod enc P w base spare held s v d ps) (hsp : ∀ b, spare b = true) :
    ∃ (A : Option Addr) (c : Nat) (l : List CV), v = .slice A l.length c ∧ ClsArg w A l ∧ l.length ≤ c := by
  obtain ⟨A, len, cap, rfl⟩ := okWide_slice hs hval
  obtain ⟨fuel, hf⟩ := h
  obtain ⟨A', c', vs, k1, k2', k3', k4⟩ := open_listc (α := CV) 4 cvCells (CvOk w) ⟨⟨⟨#[]⟩, 0, [], []⟩, none, 0, none, 0⟩ (fun x => (by decide : 0 < 4)) hs hC (fun n b cs D Pl hc ht => open_cls10 he hone hC h0 h1 hf2 hf3 h2 k2 l2 h3 k3 l3 hc ht hsp) (by simpa [Value.cells] using hf) hsp
  exact ⟨A', c', vs, k1, ⟨k3', k4⟩, k2'⟩
/-- Methods that came in. -/
theorem open_meths {s t tl tp el ep e8 : TypeId} {f0 f1 f2 g0 g1 h0 h1 h2 h3 : Field} {r : Reach} {b0 : Nat} {v : Value} {d : DataW H} {ps : List MemPlace} (hs : P.underlying s = some (.slice t))
    (ht : P.underlying t = some (.struct #[f0, f1, f2])) (hone : oneCellFields P #[f0, f1, f2] = true) (hC : P.cellsOf t = 3) (hf0 : P.underlying f0.type = some .string) (hf1 : f1.type = tl) (hf2 : f2.type = tp)
    (hl : P.underlying tl = some (.slice el)) (hel : P.underlying el = some (.struct #[g0, g1])) (hol : oneCellFields P #[g0, g1] = true) (hCl : P.cellsOf el = 2) (hg0 : P.underlying g0.type = some (.int .u8)) (hg1 : P.underlying g1.type = some .string)
    (hp : P.underlying tp = some (.slice ep)) (hep : P.underlying ep = some (.struct #[h0, h1, h2, h3])) (hop : oneCellFields P #[h0, h1, h2, h3] = true) (hCp : P.cellsOf ep = 4) (hh0 : P.underlying h0.type = some (.int .i64)) (hh1 : P.underlying h1.type = some (.int .i64)) (hh2 : P.underlying h2.type = some (.int .i64)) (hh3 : P.underlying h3.type = some (.slice e8)) (h8 : P.underlying e8 = some (.int .u8)) (hc8 : P.cellsOf e8 = 1)
    (hval : Value.okWide P w r b0 s v) (h : DataW.Trod enc P w base spare held s v d ps) (hsp : ∀ b, spare b = true) :
    ∃ (A : Option Addr) (c : Nat) (l : List MV), v = .slice A l.length c ∧ MethsArg w A l ∧ l.length ≤ c := by
  obtain ⟨A, len, cap, rfl⟩ := okWide_slice hs hval
  obtain ⟨fuel, hf⟩ := h
  obtain ⟨A', c', vs, k1, k2', k3', k4⟩ := open_listc (α := MV) 3 mvCells (MethArg w) ⟨⟨#[]⟩, [], none, 0, [], none, 0⟩ (fun x => (by decide : 0 < 3)) hs hC (fun n b cs D Pl hc hd => open_methc ht hone hC hf0 hf1 hf2 hl hel hol hCl hg0 hg1 hp hep hop hCp hh0 hh1 hh2 hh3 h8 hc8 hc hd hsp) (by simpa [Value.cells] using hf) hsp
  exact ⟨A', c', vs, k1, ⟨k3', k4⟩, k2'⟩
/-- What is asked. -/
theorem open_ask10 {t : TypeId} {f0 f1 f2 f3 f4 : Field} {r : Reach} {b0 : Nat} {v : Value} {d : DataW H} {ps : List MemPlace}
    (ht : P.underlying t = some (.struct #[f0, f1, f2, f3, f4])) (hone : oneCellFields P #[f0, f1, f2, f3, f4] = true) (hC : P.cellsOf t = 5) (hf0 : P.underlying f0.type = some (.int .i64)) (hf1 : P.underlying f1.type = some (.int .i64)) (hf2 : P.underlying f2.type = some (.int .i64)) (hf3 : P.underlying f3.type = some .string) (hf4 : P.underlying f4.type = some .string)
    (hval : Value.okWide P w r b0 t v) (h : DataW.Trod enc P w base spare held t v d ps) :
    ∃ (x y z : Int) (s n : ByteArray), v = .agg #[.int .i64 x, .int .i64 y, .int .i64 z, .string s, .string n] ∧ Vi.I64 x ∧ Vi.I64 y ∧ Vi.I64 z := by
  obtain ⟨cs, rfl, hsz⟩ := okWide_struct ht hval
  rw [hC] at hsz
  obtain ⟨fuel, hf⟩ := h
  have hf' : DataW.trod enc P w base spare held fuel t cs.toList = some (d, ps) := by simpa [Value.cells] using hf
  obtain ⟨v0, m0, y0, c0, t0⟩ := row_cell ht hone hC hf' 0 f0 rfl
  obtain ⟨v1, m1, y1, c1, t1⟩ := row_cell ht hone hC hf' 1 f1 rfl
  obtain ⟨v2, m2, y2, c2, t2⟩ := row_cell ht hone hC hf' 2 f2 rfl
  obtain ⟨v3, m3, y3, c3, t3⟩ := row_cell ht hone hC hf' 3 f3 rfl
  obtain ⟨v4, m4, y4, c4, t4⟩ := row_cell ht hone hC hf' 4 f4 rfl
  obtain ⟨x0, e0, _, w0⟩ := DataW.trod_int hf0 t0
  obtain ⟨x1, e1, _, w1⟩ := DataW.trod_int hf1 t1
  obtain ⟨x2, e2, _, w2⟩ := DataW.trod_int hf2 t2
  obtain ⟨x3, e3, _, _⟩ := DataW.trod_string hf3 t3
  obtain ⟨x4, e4, _, _⟩ := DataW.trod_string hf4 t4
  simp only [List.cons.injEq, and_true] at e0 e1 e2 e3 e4
  refine ⟨x0, x1, x2, x3, x4, ?_, i64_bounds w0, i64_bounds w1, i64_bounds w2⟩
  subst e0 e1 e2 e3 e4
  rw [Array.getElem?_toList] at c0 c1 c2 c3 c4
  congr 1
  apply Array.ext (by rw [hsz]; rfl)
  intro i h1 h2
  rcases i with _ | _ | _ | _ | _ | i
  · exact (Array.getElem?_eq_some_iff.1 c0).2
  · exact (Array.getElem?_eq_some_iff.1 c1).2
  · exact (Array.getElem?_eq_some_iff.1 c2).2
  · exact (Array.getElem?_eq_some_iff.1 c3).2
  · exact (Array.getElem?_eq_some_iff.1 c4).2
  · simp at h2; omega
end
end Go.Proofs.YtjladeiecokpfaaGreatDoor
end

/- General words for all proofs of this seat: a world that has only grown ('After'), a region that draws its order and whose calls only make memory, a slice that reads as a list. No program is named here. -/
import Derived.WalkKit
import Derived.WalkSpells
import Derived.WalkLawsBesides
import Derived.BigQuiet
namespace Go.Proofs.YtilikjfjbnabfaaGreatDoor
open Go.RowKit

theorem ret_bool {a b : Bool} (h : a = b) : Ending.returned (.bool a) = .returned (.bool b) := by rw [h]
theorem ret_int {k : IntKind} {a b : Int} (h : a = b) : Ending.returned (.int k a) = .returned (.int k b) := by rw [h]
theorem hid {p : Prop} (h : p) : Hid p := h
@[go_sem] theorem block_add (a : Addr) (n : Nat) : (a.add n).block = a.block := by unfold Addr.add; split <;> rfl
theorem add_add (a : Addr) (i j : Nat) : (a.add i).add j = a.add (i + j) := by
  unfold Addr.add
  by_cases hi : i = 0 <;> by_cases hj : j = 0 <;> simp [hi, hj, Nat.add_assoc]
theorem add_zero (a : Addr) : a.add 0 = a := by simp [Addr.add]

/-- A world in which all blocks of 'W' are as they were; there may be new ones. -/
structure After (W : World) where
  w : World
  b : Below W.heap.size W w

instance After.some_ (W : World) : Nonempty (After W) := ⟨⟨W, Below.refl _ _⟩⟩

/-- The world has only grown. -/
def Grew (W w' : World) : Prop := ∃ y : After W, w' = y.w

theorem Grew.mk {W w' : World} (h : Below W.heap.size W w') : Grew W w' := ⟨⟨w', h⟩, rfl⟩
theorem Grew.below {W w' : World} (h : Grew W w') : Below W.heap.size W w' := by obtain ⟨y, rfl⟩ := h; exact y.b
theorem Grew.refl (W : World) : Grew W W := .mk (Below.refl _ _)
theorem Grew.trans {a b c : World} (h : Grew a b) (k : Grew b c) : Grew a c := .mk (h.below.trans (k.below.mono h.below.size))
theorem Grew.alloc {a b : World} (h : Grew a b) (o : Obj) : Grew a (b.alloc o) := .mk (h.below.alloc h.below.size o)
theorem Grew.drew {a b : World} (h : Grew a b) : Grew a b.drew := .mk h.below.drew
theorem Grew.setCell {a b : World} (h : Grew a b) {p : Addr} (hp : a.heap.size ≤ p.block) (u : Value) : Grew a (b.setCell p u) := .mk (h.below.setCell hp u)
theorem After.grew {a : World} (y : After a) : Grew a y.w := ⟨y, rfl⟩
theorem After.grew_of {a b : World} (h : Grew a b) (y : After b) : Grew a y.w := h.trans y.grew

@[go_sem] theorem After.cell {W : World} (y : After W) (a : Addr) (h : a.block < W.heap.size) : y.w.cell? a = W.cell? a := y.b.cell h
@[go_sem] theorem After.frozen {W : World} (y : After W) (a : Addr) (h : a.block < W.heap.size) : y.w.frozen? a = W.frozen? a := y.b.frozen h
@[go_sem] theorem After.lt {W : World} (y : After W) (n : Nat) (h : n < W.heap.size) : n < y.w.heap.size := Nat.lt_of_lt_of_le h y.b.size
@[go_sem] theorem After.le {W : World} (y : After W) (n : Nat) (h : n ≤ W.heap.size) : n ≤ y.w.heap.size := Nat.le_trans h y.b.size
@[go_sem] theorem After.self_le {W : World} (y : After W) : W.heap.size ≤ y.w.heap.size := y.b.size

theorem Calls.grew {P : Program} {f : FuncId} {args : Array Value} {w w0 : World} {v : Value} (hg : Grew w0 w)
    (h : Calls P f args w fun e w' => e = .returned v ∧ Grew w w') : Calls P f args w fun e w'' => e = .returned v ∧ Grew w0 w'' :=
  h.mono fun _ _ ⟨he, hw⟩ => ⟨he, hg.trans hw⟩

theorem Calls.after {P : Program} {f : FuncId} {args : Array Value} {w w0 : World} {v : Value} (hg : Grew w0 w)
    (h : Calls P f args w fun e w' => e = .returned v ∧ Grew w w') : Calls P f args w fun e w'' => e = .returned v ∧ ∃ y : After w0, w'' = y.w :=
  Calls.grew hg h

theorem Calls.grew_same {P : Program} {f : FuncId} {args : Array Value} {w w0 : World} {v : Value} (hg : Grew w0 w)
    (h : Calls P f args w fun e w' => e = .returned v ∧ w' = w) : Calls P f args w fun e w'' => e = .returned v ∧ Grew w0 w'' :=
  h.mono fun _ _ ⟨he, hw⟩ => ⟨he, by rw [hw]; exact hg⟩

/-- One walk in the order of the text serves every order, where operations only read and calls only make memory. -/
theorem wp_region_grew {P : Program} {id : Nat} {Q : Exit → Act → World → Prop} {a : Act} {w : World} {l : List Oper} (hm : P.follows .mixedOrders = true) (hB : Region.lexB .any l.toArray = true)
    (h : wpQuiet P l.toArray (fun w' => ∃ y : After w, w' = y.w) (fun a' => ∀ w', (∃ y : After w, w' = y.w) → Q .normal a' w') l a) : (Code.region id l.toArray true).wp P Q a w :=
  wp_region_quiet (C := fun w' => ∃ y : After w, w' = y.w) hm hB (Grew.refl w).drew (by simpa using h)

/-- The same, told of an earlier world. -/
theorem wp_region_grew_from {P : Program} {id : Nat} {Q : Exit → Act → World → Prop} {a : Act} {w w0 : World} {l : List Oper} (hg : Grew w0 w) (hm : P.follows .mixedOrders = true) (hB : Region.lexB .any l.toArray = true)
    (h : wpQuiet P l.toArray (fun w' => ∃ y : After w0, w' = y.w) (fun a' => ∀ w', (∃ y : After w0, w' = y.w) → Q .normal a' w') l a) : (Code.region id l.toArray true).wp P Q a w :=
  wp_region_quiet (C := fun w' => ∃ y : After w0, w' = y.w) hm hB hg.drew (by simpa using h)

/-! ### A slice of bytes that reads as a list of numbers -/
/-- 'n' cells of kind u8 from address 'A' on hold 'xs'; they lie below block 'B'. -/
def BytesAt (w : World) (B : Nat) (A : Option Addr) (xs : List Nat) : Prop :=
  (∀ x ∈ xs, x < 256) ∧ (0 < xs.length → ∃ ad, A = some ad ∧ ad.block < B ∧ ∀ j, j < xs.length → w.cell? (ad.add j) = some (.int .u8 ((xs.getD j 0 : Nat) : Int)))
theorem BytesAt.nil (w : World) (B : Nat) (A : Option Addr) : BytesAt w B A [] := ⟨by simp, fun h => absurd h (by simp)⟩
theorem BytesAt.lt {w : World} {B : Nat} {A : Option Addr} {xs : List Nat} (h : BytesAt w B A xs) (j : Nat) : xs.getD j 0 < 256 := by
  rcases Nat.lt_or_ge j xs.length with hj | hj
  · exact h.1 _ (by rw [List.getD_eq_getElem?_getD, List.getElem?_eq_getElem hj]; exact List.getElem_mem hj)
  · rw [List.getD_eq_getElem?_getD, List.getElem?_eq_none hj]; decide
theorem BytesAt.grew {w w' : World} {A : Option Addr} {xs : List Nat} (h : BytesAt w w.heap.size A xs) (hg : Grew w w') : BytesAt w' w'.heap.size A xs := by
  refine ⟨h.1, fun hn => ?_⟩
  obtain ⟨ad, e, hb, hc⟩ := h.2 hn
  exact ⟨ad, e, Nat.lt_of_lt_of_le hb hg.below.size, fun j hj => by rw [hg.below.cell (by rw [block_add]; exact hb)]; exact hc j hj⟩

/-! ### A block that is known whole -/
/-- Block 'g' is just the cells 'cs' of element type 't'; none of them is frozen. -/
def Blk (w : World) (g : Nat) (t : TypeId) (cs : Array Value) : Prop := w.heap[g]? = some (.cells cs t (0, 0))
theorem Blk.lt {w : World} {g : Nat} {t : TypeId} {cs : Array Value} (h : Blk w g t cs) : g < w.heap.size := by
  rcases Nat.lt_or_ge g w.heap.size with hlt | hge
  · exact hlt
  · unfold Blk at h; rw [Array.getElem?_eq_none hge] at h; cases h
theorem Blk.cell {w : World} {g : Nat} {t : TypeId} {cs : Array Value} (h : Blk w g t cs) (i : Nat) : w.cell? ⟨g, i, none⟩ = cs[i]? := by
  unfold Blk at h
  simp [World.cell?, h]
theorem Blk.frozen {w : World} {g : Nat} {t : TypeId} {cs : Array Value} (h : Blk w g t cs) (i : Nat) : w.frozen? ⟨g, i, none⟩ = false := by
  unfold Blk at h
  simp [World.frozen?, h]
theorem Blk.grew {w w' : World} {g : Nat} {t : TypeId} {cs : Array Value} (h : Blk w g t cs) (hg : Grew w w') : Blk w' g t cs := (hg.below.block g h.lt).trans h
theorem Blk.put {w : World} {g : Nat} {t : TypeId} {cs : Array Value} (h : Blk w g t cs) (i : Nat) (u : Value) : Blk (w.setCell ⟨g, i, none⟩ u) g t (cs.setIfInBounds i u) := by
  unfold Blk at h ⊢
  simp [World.setCell, Array.getElem?_modify, h]
theorem Blk.far {w : World} {g : Nat} {t : TypeId} {cs : Array Value} (h : Blk w g t cs) {p : Addr} (hp : g ≠ p.block) (u : Value) : Blk (w.setCell p u) g t cs := (Below.heap_setCell w p u g hp).trans h
theorem Blk.new (w : World) (t : TypeId) (cs : Array Value) : Blk (w.alloc (.cells cs t)) w.heap.size t cs := heap_alloc_new w _
theorem Blk.drew {w : World} {g : Nat} {t : TypeId} {cs : Array Value} (h : Blk w g t cs) : Blk w.drew g t cs := h
theorem blk_of_own {w : World} {base g n : Nat} {e : TypeId} {xs : List Value} (h : w.ownsRow base e 1 (.slice (some ⟨g, 0, none⟩) n n) n xs) : Blk w g e xs.toArray := by
  rcases h.2 with ⟨h0, _⟩ | ⟨g', cap, cur, hv, _, hh, _, _, hs, ht⟩
  · cases h0
  · injection hv with h1 h2 h3
    injection h1 with h1
    injection h1 with h1 _ _
    subst h1; subst h3
    have : xs.toArray = cur := by
      rw [← ht, List.take_of_length_le (by simp [hs])]
    unfold Blk
    rw [hh, this]
/-- The cells of a list of bytes. -/
def byteCells (d : List Nat) : Array Value := (d.map fun x : Nat => Value.int .u8 ((x : Nat) : Int)).toArray
theorem byteCells_at (d : List Nat) (i : Nat) (hi : i < d.length) : (byteCells d)[i]? = some (.int .u8 ((d.getD i 0 : Nat) : Int)) := by
  simp [byteCells, List.getD_eq_getElem?_getD, List.getElem?_eq_getElem hi]
theorem byteCells_set (d : List Nat) (i x : Nat) : (byteCells d).setIfInBounds i (.int .u8 ((x : Nat) : Int)) = byteCells (d.set i x) := by
  simp [byteCells]
theorem BytesAt.of_blk {w : World} {g : Nat} {t : TypeId} {d : List Nat} (h : Blk w g t (byteCells d)) (hd : ∀ x ∈ d, x < 256) : BytesAt w w.heap.size (some ⟨g, 0, none⟩) d :=
  ⟨hd, fun _ => ⟨⟨g, 0, none⟩, rfl, h.lt, fun j hj => by
    have : (⟨g, 0, none⟩ : Addr).add j = ⟨g, j, none⟩ := by simp [Addr.add]; omega
    rw [this, h.cell, byteCells_at d j hj]⟩⟩
/-- 'make([]uint8, n)': a new block of n zeros. -/
theorem make_bytes {P : Program} {t e : TypeId} (ht : P.underlying t = some (.slice e)) (he : (P.info? e).map (fun i => (i.zero, i.size, i.bytes)) = some (some (.int .u8 0), 1, 1))
    (n : Nat) (hn : n ≤ 1048576) (W : World) : (Instr.makeSlice t (.int .i64 n) (.int .i64 n)).run P W = .ok (.slice (some ⟨W.heap.size, 0, none⟩) n n) (W.alloc (.cells (byteCells (List.replicate n 0)) e)) := by
  obtain ⟨i, hi, hz0, hz1, hz2⟩ := info_parts he
  have h := run_make (P := P) W t e i (.int .u8 0) ht hi hz0 .i64 .i64 n n (by omega) (by omega) (by rw [hz2]; omega) (by omega)
  rw [h]
  have e1 : madeCells (Value.int IntKind.u8 0).cells ((n : Int).toNat * i.size) = byteCells (List.replicate n 0) := by
    apply Array.toList_inj.1
    rw [hz1, Int.toNat_natCast, Nat.mul_one]
    show (madeCells #[Value.int IntKind.u8 0] n).toList = _
    rw [toList_madeCells_one]
    simp [byteCells]
  rw [e1]
  simp

/-- 'append([]uint8{}, up...)': a copy in new memory. -/
theorem run_copy_bytes {P : Program} (t ty e : TypeId) (ht : P.underlying t = some (.slice e)) (he : (P.info? e).map (fun i => (i.zero, i.size, i.bytes)) = some (some (.int .u8 0), 1, 1))
    (w0 : World) (A : Option Addr) (c : Nat) (xs : List Nat) (hb : BytesAt w0 w0.heap.size A xs) (hlen : (xs.length : Int) ≤ 140737488355328) :
    ∃ A' c' w', (Builtin.append_ #[t, t] ty #[.slice (some ⟨w0.heap.size, 0, none⟩) 0 0, .slice A xs.length c]).run P (w0.alloc (.cells #[] e)) = .ok (.slice A' xs.length c') w' ∧ BytesAt w' w'.heap.size A' xs ∧ Grew w0 w' := by
  obtain ⟨i, hi, hz0, hz1, hz2⟩ := info_parts he
  have hown : (w0.alloc (.cells #[] e)).ownsRow w0.heap.size e 1 (.slice (some ⟨w0.heap.size, 0, none⟩) 0 0) 0 [] := World.ownsRow_made w0 #[] 0 (Nat.le_refl _) (by decide) (by simp)
  rcases Nat.eq_zero_or_pos xs.length with h0 | h0
  · obtain rfl := List.eq_nil_of_length_eq_zero h0
    refine ⟨some ⟨w0.heap.size, 0, none⟩, 0, w0.alloc (.cells #[] e), ?_, BytesAt.nil _ _ _, (Grew.refl _).alloc _⟩
    cases A with
    | none =>
      have hb0 : (w0.alloc (.cells #[] e)).heap[w0.heap.size]? = some (.cells #[] e (0, 0)) := heap_alloc_new w0 _
      simp [Builtin.append_, run_underlying ht, sizeOf, typeInfo, hi, Builtin.lenOf, Builtin.firstCells, storeCells]
    | some ad =>
      simp [Builtin.append_, run_underlying ht, sizeOf, typeInfo, hi, Builtin.lenOf, Builtin.firstCells, storeCells, loadCells, loadCellsFrom]
  · obtain ⟨ad, rfl, hbk, hc⟩ := hb.2 h0
    obtain ⟨v', w', hrun, hown', hg, hiff⟩ := run_append_own (P := P) (w0.alloc (.cells #[] e)) w0.heap.size t ty e i (.int .u8 0) 1 1 ht hi hz0 hz1 hz2 rfl (by decide) _ 0 [] hown ad xs.length c
      (xs.map fun x : Nat => Value.int .u8 ((x : Nat) : Int)) (by simp) (fun j u hu => by
        have hj : j < xs.length := by
          have := (List.getElem?_eq_some_iff.1 hu).1
          simpa using this
        rw [World.cell?_alloc_lt _ _ _ (by rw [block_add]; exact hbk), hc j hj, ← hu]
        simp [List.getD_eq_getElem?_getD, hj]) (fun u hu => by
        obtain ⟨_, _, rfl⟩ := List.mem_map.1 hu
        rfl) (by simp only [maxLen]; omega) (by omega) (by simp)
    have hlt := hown'.lt
    rcases hown'.2 with ⟨rfl, hz⟩ | ⟨g, cap, cur, rfl, hbg, hgg, hnc, hcm, hcs, htake⟩
    · omega
    · rw [Nat.zero_add] at hrun
      refine ⟨some ⟨g, 0, none⟩, cap, w', hrun, ⟨hb.1, fun _ => ⟨⟨g, 0, none⟩, rfl, (hlt g rfl).2, fun j hj => ?_⟩⟩, ?_⟩
      · have := hown'.cells (g := g) rfl j (.int .u8 ((xs.getD j 0 : Nat) : Int)) (by simp [List.getD_eq_getElem?_getD, hj])
        exact this
      · exact .mk (((Below.refl _ _).alloc (Nat.le_refl _) _).grown hg (by simp) (fun k hk => by
          simp [Value.ownBlock] at hk; omega))

theorem wpList_copy_bytes {P : Program} {ops : Array Oper} {rest : List Oper} {o : Oper} {a : Act} {Q : Exit → Act → World → Prop} (w0 : World) (hgd : o.guard = none) (s x : Operand) (t e : TypeId)
    (ho : o.op = .call { callee := .builtin .append, args := #[s, x], argTypes := #[t, t] })
    (ht : P.underlying t = some (.slice e)) (he : (P.info? e).map (fun i => (i.zero, i.size, i.bytes)) = some (some (.int .u8 0), 1, 1))
    (A : Option Addr) (c : Nat) (xs : List Nat) (H : Nat) (hH : w0.heap.size = H) (hs : a.eval s = .slice (some ⟨H, 0, none⟩) 0 0) (hx : a.eval x = .slice A xs.length c) (hb : BytesAt w0 w0.heap.size A xs) (hlen : (xs.length : Int) ≤ 140737488355328)
    (h : ∀ A' c' w', BytesAt w' w'.heap.size A' xs → Grew w0 w' → wpList P ops Q rest (a.put o.dst (.slice A' xs.length c')) w') : wpList P ops Q (o :: rest) a (w0.alloc (.cells #[] e)) := by
  refine wpList_plain hgd fun K hK => ?_
  subst hH
  obtain ⟨A', c', w', hrun, h1, h2⟩ := run_copy_bytes (P := P) t o.type e ht he w0 A c xs hb hlen
  unfold Oper.wp
  simp only [execOp, ho, resolve, invoke, builtin, Sem.run_bind, Sem.run_pure, Result.andThen_ok, List.map_toArray, List.map_cons, List.map_nil, hs, hx, hrun]
  exact hK _ _ (h A' c' w' h1 h2)
end Go.Proofs.YtilikjfjbnabfaaGreatDoor

/- Parts of elder texts that this layer needs, joined: XYBase. -/
import Derived.WalkKit
import Derived.WalkSpells
import Derived.WalkLawsBesides
import Derived.BigQuiet
import Derived.Laws.AppendOwnNone
import Derived.Laws.OwnMore
import Derived.Deep.RegionLaw
import Derived.StillTail
import Derived.OrdersIn
import Derived.RangeFuncCalls
import Derived.TacticsIn
import Derived.TacticsInMore
import Derived.OwnWalkIn
import Derived.Shelf.RegionOpen
namespace Go.Proofs.YtdfahmppbfjbhaaDoor
open Go.RowKit

theorem ret_bool {a b : Bool} (h : a = b) : Ending.returned (.bool a) = .returned (.bool b) := by rw [h]
theorem ret_int {k : IntKind} {a b : Int} (h : a = b) : Ending.returned (.int k a) = .returned (.int k b) := by rw [h]
theorem hid {p : Prop} (h : p) : Hid p := h
@[go_sem] theorem block_add (a : Addr) (n : Nat) : (a.add n).block = a.block := by unfold Addr.add; split <;> rfl
theorem add_add (a : Addr) (i j : Nat) : (a.add i).add j = a.add (i + j) := by
  unfold Addr.add
  by_cases hi : i = 0 <;> by_cases hj : j = 0 <;> simp [hi, hj, Nat.add_assoc]
theorem add_zero (a : Addr) : a.add 0 = a := by simp [Addr.add]

/-- A world in which all blocks of 'W' are as they were; there may be new ones. -/
structure After (W : World) where
  w : World
  b : Below W.heap.size W w

instance After.some_ (W : World) : Nonempty (After W) := ⟨⟨W, Below.refl _ _⟩⟩

/-- The world has only grown. -/
def Grew (W w' : World) : Prop := ∃ y : After W, w' = y.w

theorem Grew.mk {W w' : World} (h : Below W.heap.size W w') : Grew W w' := ⟨⟨w', h⟩, rfl⟩
theorem Grew.below {W w' : World} (h : Grew W w') : Below W.heap.size W w' := by obtain ⟨y, rfl⟩ := h; exact y.b
theorem Grew.refl (W : World) : Grew W W := .mk (Below.refl _ _)
theorem Grew.trans {a b c : World} (h : Grew a b) (k : Grew b c) : Grew a c := .mk (h.below.trans (k.below.mono h.below.size))
theorem Grew.alloc {a b : World} (h : Grew a b) (o : Obj) : Grew a (b.alloc o) := .mk (h.below.alloc h.below.size o)
theorem Grew.drew {a b : World} (h : Grew a b) : Grew a b.drew := .mk h.below.drew
theorem Grew.setCell {a b : World} (h : Grew a b) {p : Addr} (hp : a.heap.size ≤ p.block) (u : Value) : Grew a (b.setCell p u) := .mk (h.below.setCell hp u)
theorem After.grew {a : World} (y : After a) : Grew a y.w := ⟨y, rfl⟩
theorem After.grew_of {a b : World} (h : Grew a b) (y : After b) : Grew a y.w := h.trans y.grew

@[go_sem] theorem After.cell {W : World} (y : After W) (a : Addr) (h : a.block < W.heap.size) : y.w.cell? a = W.cell? a := y.b.cell h
@[go_sem] theorem After.frozen {W : World} (y : After W) (a : Addr) (h : a.block < W.heap.size) : y.w.frozen? a = W.frozen? a := y.b.frozen h
@[go_sem] theorem After.lt {W : World} (y : After W) (n : Nat) (h : n < W.heap.size) : n < y.w.heap.size := Nat.lt_of_lt_of_le h y.b.size
@[go_sem] theorem After.le {W : World} (y : After W) (n : Nat) (h : n ≤ W.heap.size) : n ≤ y.w.heap.size := Nat.le_trans h y.b.size
@[go_sem] theorem After.self_le {W : World} (y : After W) : W.heap.size ≤ y.w.heap.size := y.b.size

theorem Calls.grew {P : Program} {f : FuncId} {args : Array Value} {w w0 : World} {v : Value} (hg : Grew w0 w)
    (h : Calls P f args w fun e w' => e = .returned v ∧ Grew w w') : Calls P f args w fun e w'' => e = .returned v ∧ Grew w0 w'' :=
  h.mono fun _ _ ⟨he, hw⟩ => ⟨he, hg.trans hw⟩

theorem Calls.after {P : Program} {f : FuncId} {args : Array Value} {w w0 : World} {v : Value} (hg : Grew w0 w)
    (h : Calls P f args w fun e w' => e = .returned v ∧ Grew w w') : Calls P f args w fun e w'' => e = .returned v ∧ ∃ y : After w0, w'' = y.w :=
  Calls.grew hg h

theorem Calls.grew_same {P : Program} {f : FuncId} {args : Array Value} {w w0 : World} {v : Value} (hg : Grew w0 w)
    (h : Calls P f args w fun e w' => e = .returned v ∧ w' = w) : Calls P f args w fun e w'' => e = .returned v ∧ Grew w0 w'' :=
  h.mono fun _ _ ⟨he, hw⟩ => ⟨he, by rw [hw]; exact hg⟩

/-- One walk in the order of the text serves every order, where operations only read and calls only make memory. -/
theorem wp_region_grew {P : Program} {id : Nat} {Q : Exit → Act → World → Prop} {a : Act} {w : World} {l : List Oper} (hm : P.follows .mixedOrders = true) (hB : Region.lexB .any l.toArray = true)
    (h : wpQuiet P l.toArray (fun w' => ∃ y : After w, w' = y.w) (fun a' => ∀ w', (∃ y : After w, w' = y.w) → Q .normal a' w') l a) : (Code.region id l.toArray true).wp P Q a w :=
  wp_region_quiet (C := fun w' => ∃ y : After w, w' = y.w) hm hB (Grew.refl w).drew (by simpa using h)

/-- The same, told of an earlier world. -/
theorem wp_region_grew_from {P : Program} {id : Nat} {Q : Exit → Act → World → Prop} {a : Act} {w w0 : World} {l : List Oper} (hg : Grew w0 w) (hm : P.follows .mixedOrders = true) (hB : Region.lexB .any l.toArray = true)
    (h : wpQuiet P l.toArray (fun w' => ∃ y : After w0, w' = y.w) (fun a' => ∀ w', (∃ y : After w0, w' = y.w) → Q .normal a' w') l a) : (Code.region id l.toArray true).wp P Q a w :=
  wp_region_quiet (C := fun w' => ∃ y : After w0, w' = y.w) hm hB hg.drew (by simpa using h)

/-- 'n' cells of kind u8 from address 'A' on hold 'xs'; they lie below block 'B'. -/
def BytesAt (w : World) (B : Nat) (A : Option Addr) (xs : List Nat) : Prop :=
  (∀ x ∈ xs, x < 256) ∧ (0 < xs.length → ∃ ad, A = some ad ∧ ad.block < B ∧ ∀ j, j < xs.length → w.cell? (ad.add j) = some (.int .u8 ((xs.getD j 0 : Nat) : Int)))
theorem BytesAt.nil (w : World) (B : Nat) (A : Option Addr) : BytesAt w B A [] := ⟨by simp, fun h => absurd h (by simp)⟩
theorem BytesAt.lt {w : World} {B : Nat} {A : Option Addr} {xs : List Nat} (h : BytesAt w B A xs) (j : Nat) : xs.getD j 0 < 256 := by
  rcases Nat.lt_or_ge j xs.length with hj | hj
  · exact h.1 _ (by rw [List.getD_eq_getElem?_getD, List.getElem?_eq_getElem hj]; exact List.getElem_mem hj)
  · rw [List.getD_eq_getElem?_getD, List.getElem?_eq_none hj]; decide
theorem BytesAt.grew {w w' : World} {A : Option Addr} {xs : List Nat} (h : BytesAt w w.heap.size A xs) (hg : Grew w w') : BytesAt w' w'.heap.size A xs := by
  refine ⟨h.1, fun hn => ?_⟩
  obtain ⟨ad, e, hb, hc⟩ := h.2 hn
  exact ⟨ad, e, Nat.lt_of_lt_of_le hb hg.below.size, fun j hj => by rw [hg.below.cell (by rw [block_add]; exact hb)]; exact hc j hj⟩

/-- Block 'g' is just the cells 'cs' of element type 't'; none of them is frozen. -/
def Blk (w : World) (g : Nat) (t : TypeId) (cs : Array Value) : Prop := w.heap[g]? = some (.cells cs t (0, 0))
theorem Blk.lt {w : World} {g : Nat} {t : TypeId} {cs : Array Value} (h : Blk w g t cs) : g < w.heap.size := by
  rcases Nat.lt_or_ge g w.heap.size with hlt | hge
  · exact hlt
  · unfold Blk at h; rw [Array.getElem?_eq_none hge] at h; cases h
theorem Blk.cell {w : World} {g : Nat} {t : TypeId} {cs : Array Value} (h : Blk w g t cs) (i : Nat) : w.cell? ⟨g, i, none⟩ = cs[i]? := by
  unfold Blk at h
  simp [World.cell?, h]
theorem Blk.frozen {w : World} {g : Nat} {t : TypeId} {cs : Array Value} (h : Blk w g t cs) (i : Nat) : w.frozen? ⟨g, i, none⟩ = false := by
  unfold Blk at h
  simp [World.frozen?, h]
theorem Blk.grew {w w' : World} {g : Nat} {t : TypeId} {cs : Array Value} (h : Blk w g t cs) (hg : Grew w w') : Blk w' g t cs := (hg.below.block g h.lt).trans h
theorem Blk.put {w : World} {g : Nat} {t : TypeId} {cs : Array Value} (h : Blk w g t cs) (i : Nat) (u : Value) : Blk (w.setCell ⟨g, i, none⟩ u) g t (cs.setIfInBounds i u) := by
  unfold Blk at h ⊢
  simp [World.setCell, Array.getElem?_modify, h]
theorem Blk.far {w : World} {g : Nat} {t : TypeId} {cs : Array Value} (h : Blk w g t cs) {p : Addr} (hp : g ≠ p.block) (u : Value) : Blk (w.setCell p u) g t cs := (Below.heap_setCell w p u g hp).trans h
theorem Blk.new (w : World) (t : TypeId) (cs : Array Value) : Blk (w.alloc (.cells cs t)) w.heap.size t cs := heap_alloc_new w _
theorem Blk.drew {w : World} {g : Nat} {t : TypeId} {cs : Array Value} (h : Blk w g t cs) : Blk w.drew g t cs := h
theorem blk_of_own {w : World} {base g n : Nat} {e : TypeId} {xs : List Value} (h : w.ownsRow base e 1 (.slice (some ⟨g, 0, none⟩) n n) n xs) : Blk w g e xs.toArray := by
  rcases h.2 with ⟨h0, _⟩ | ⟨g', cap, cur, hv, _, hh, _, _, hs, ht⟩
  · cases h0
  · injection hv with h1 h2 h3
    injection h1 with h1
    injection h1 with h1 _ _
    subst h1; subst h3
    have : xs.toArray = cur := by
      rw [← ht, List.take_of_length_le (by simp [hs])]
    unfold Blk
    rw [hh, this]
/-- The cells of a list of bytes. -/
def byteCells (d : List Nat) : Array Value := (d.map fun x : Nat => Value.int .u8 ((x : Nat) : Int)).toArray
theorem byteCells_at (d : List Nat) (i : Nat) (hi : i < d.length) : (byteCells d)[i]? = some (.int .u8 ((d.getD i 0 : Nat) : Int)) := by
  simp [byteCells, List.getD_eq_getElem?_getD, List.getElem?_eq_getElem hi]
theorem byteCells_set (d : List Nat) (i x : Nat) : (byteCells d).setIfInBounds i (.int .u8 ((x : Nat) : Int)) = byteCells (d.set i x) := by
  simp [byteCells]
theorem BytesAt.of_blk {w : World} {g : Nat} {t : TypeId} {d : List Nat} (h : Blk w g t (byteCells d)) (hd : ∀ x ∈ d, x < 256) : BytesAt w w.heap.size (some ⟨g, 0, none⟩) d :=
  ⟨hd, fun _ => ⟨⟨g, 0, none⟩, rfl, h.lt, fun j hj => by
    have : (⟨g, 0, none⟩ : Addr).add j = ⟨g, j, none⟩ := by simp [Addr.add]; omega
    rw [this, h.cell, byteCells_at d j hj]⟩⟩
/-- 'make([]uint8, n)': a new block of n zeros. -/
theorem make_bytes {P : Program} {t e : TypeId} (ht : P.underlying t = some (.slice e)) (he : (P.info? e).map (fun i => (i.zero, i.size, i.bytes)) = some (some (.int .u8 0), 1, 1))
    (n : Nat) (hn : n ≤ 1048576) (W : World) : (Instr.makeSlice t (.int .i64 n) (.int .i64 n)).run P W = .ok (.slice (some ⟨W.heap.size, 0, none⟩) n n) (W.alloc (.cells (byteCells (List.replicate n 0)) e)) := by
  obtain ⟨i, hi, hz0, hz1, hz2⟩ := info_parts he
  have h := run_make (P := P) W t e i (.int .u8 0) ht hi hz0 .i64 .i64 n n (by omega) (by omega) (by rw [hz2]; omega) (by omega)
  rw [h]
  have e1 : madeCells (Value.int IntKind.u8 0).cells ((n : Int).toNat * i.size) = byteCells (List.replicate n 0) := by
    apply Array.toList_inj.1
    rw [hz1, Int.toNat_natCast, Nat.mul_one]
    show (madeCells #[Value.int IntKind.u8 0] n).toList = _
    rw [toList_madeCells_one]
    simp [byteCells]
  rw [e1]
  simp

/-- 'append([]uint8{}, up...)': a copy in new memory. -/
theorem run_copy_bytes {P : Program} (t ty e : TypeId) (ht : P.underlying t = some (.slice e)) (he : (P.info? e).map (fun i => (i.zero, i.size, i.bytes)) = some (some (.int .u8 0), 1, 1))
    (w0 : World) (A : Option Addr) (c : Nat) (xs : List Nat) (hb : BytesAt w0 w0.heap.size A xs) (hlen : (xs.length : Int) ≤ 140737488355328) :
    ∃ A' c' w', (Builtin.append_ #[t, t] ty #[.slice (some ⟨w0.heap.size, 0, none⟩) 0 0, .slice A xs.length c]).run P (w0.alloc (.cells #[] e)) = .ok (.slice A' xs.length c') w' ∧ BytesAt w' w'.heap.size A' xs ∧ Grew w0 w' := by
  obtain ⟨i, hi, hz0, hz1, hz2⟩ := info_parts he
  have hown : (w0.alloc (.cells #[] e)).ownsRow w0.heap.size e 1 (.slice (some ⟨w0.heap.size, 0, none⟩) 0 0) 0 [] := World.ownsRow_made w0 #[] 0 (Nat.le_refl _) (by decide) (by simp)
  rcases Nat.eq_zero_or_pos xs.length with h0 | h0
  · obtain rfl := List.eq_nil_of_length_eq_zero h0
    refine ⟨some ⟨w0.heap.size, 0, none⟩, 0, w0.alloc (.cells #[] e), ?_, BytesAt.nil _ _ _, (Grew.refl _).alloc _⟩
    cases A with
    | none =>
      have hb0 : (w0.alloc (.cells #[] e)).heap[w0.heap.size]? = some (.cells #[] e (0, 0)) := heap_alloc_new w0 _
      simp [Builtin.append_, run_underlying ht, sizeOf, typeInfo, hi, Builtin.lenOf, Builtin.firstCells, storeCells]
    | some ad =>
      simp [Builtin.append_, run_underlying ht, sizeOf, typeInfo, hi, Builtin.lenOf, Builtin.firstCells, storeCells, loadCells, loadCellsFrom]
  · obtain ⟨ad, rfl, hbk, hc⟩ := hb.2 h0
    obtain ⟨v', w', hrun, hown', hg, hiff⟩ := run_append_own (P := P) (w0.alloc (.cells #[] e)) w0.heap.size t ty e i (.int .u8 0) 1 1 ht hi hz0 hz1 hz2 rfl (by decide) _ 0 [] hown ad xs.length c
      (xs.map fun x : Nat => Value.int .u8 ((x : Nat) : Int)) (by simp) (fun j u hu => by
        have hj : j < xs.length := by
          have := (List.getElem?_eq_some_iff.1 hu).1
          simpa using this
        rw [World.cell?_alloc_lt _ _ _ (by rw [block_add]; exact hbk), hc j hj, ← hu]
        simp [List.getD_eq_getElem?_getD, hj]) (fun u hu => by
        obtain ⟨_, _, rfl⟩ := List.mem_map.1 hu
        rfl) (by simp only [maxLen]; omega) (by omega) (by simp)
    have hlt := hown'.lt
    rcases hown'.2 with ⟨rfl, hz⟩ | ⟨g, cap, cur, rfl, hbg, hgg, hnc, hcm, hcs, htake⟩
    · omega
    · rw [Nat.zero_add] at hrun
      refine ⟨some ⟨g, 0, none⟩, cap, w', hrun, ⟨hb.1, fun _ => ⟨⟨g, 0, none⟩, rfl, (hlt g rfl).2, fun j hj => ?_⟩⟩, ?_⟩
      · have := hown'.cells (g := g) rfl j (.int .u8 ((xs.getD j 0 : Nat) : Int)) (by simp [List.getD_eq_getElem?_getD, hj])
        exact this
      · exact .mk (((Below.refl _ _).alloc (Nat.le_refl _) _).grown hg (by simp) (fun k hk => by
          simp [Value.ownBlock] at hk; omega))

theorem wpList_copy_bytes {P : Program} {ops : Array Oper} {rest : List Oper} {o : Oper} {a : Act} {Q : Exit → Act → World → Prop} (w0 : World) (hgd : o.guard = none) (s x : Operand) (t e : TypeId)
    (ho : o.op = .call { callee := .builtin .append, args := #[s, x], argTypes := #[t, t] })
    (ht : P.underlying t = some (.slice e)) (he : (P.info? e).map (fun i => (i.zero, i.size, i.bytes)) = some (some (.int .u8 0), 1, 1))
    (A : Option Addr) (c : Nat) (xs : List Nat) (H : Nat) (hH : w0.heap.size = H) (hs : a.eval s = .slice (some ⟨H, 0, none⟩) 0 0) (hx : a.eval x = .slice A xs.length c) (hb : BytesAt w0 w0.heap.size A xs) (hlen : (xs.length : Int) ≤ 140737488355328)
    (h : ∀ A' c' w', BytesAt w' w'.heap.size A' xs → Grew w0 w' → wpList P ops Q rest (a.put o.dst (.slice A' xs.length c')) w') : wpList P ops Q (o :: rest) a (w0.alloc (.cells #[] e)) := by
  refine wpList_plain hgd fun K hK => ?_
  subst hH
  obtain ⟨A', c', w', hrun, h1, h2⟩ := run_copy_bytes (P := P) t o.type e ht he w0 A c xs hb hlen
  unfold Oper.wp
  simp only [execOp, ho, resolve, invoke, builtin, Sem.run_bind, Sem.run_pure, Result.andThen_ok, List.map_toArray, List.map_cons, List.map_nil, hs, hx, hrun]
  exact hK _ _ (h A' c' w' h1 h2)
end Go.Proofs.YtdfahmppbfjbhaaDoor
namespace Go.Proofs.YtdfahmppbfjbhaaDoor
open Go.RowKit

def numCells (k : IntKind) (xs : List Nat) : List Value := xs.map fun x : Nat => Value.int k ((x : Nat) : Int)
theorem numCells_length (k : IntKind) (xs : List Nat) : (numCells k xs).length = xs.length := by simp [numCells]
theorem numCells_append (k : IntKind) (xs ys : List Nat) : numCells k (xs ++ ys) = numCells k xs ++ numCells k ys := by simp [numCells]
theorem numCells_get (k : IntKind) (xs : List Nat) (j : Nat) (hj : j < xs.length) : (numCells k xs)[j]? = some (.int k ((xs.getD j 0 : Nat) : Int)) := by
  simp [numCells, List.getD_eq_getElem?_getD, List.getElem?_eq_getElem hj]
theorem numCells_set (k : IntKind) (xs : List Nat) (j x : Nat) : (numCells k xs).set j (.int k ((x : Nat) : Int)) = numCells k (xs.set j x) := by
  simp [numCells, List.map_set]

/-- 'xs.length' cells of kind k from address 'A' on hold 'xs'; they lie below block 'B'. -/
def NumsAt (k : IntKind) (w : World) (B : Nat) (A : Option Addr) (xs : List Nat) : Prop :=
  0 < xs.length → ∃ ad, A = some ad ∧ ad.block < B ∧ ∀ j, j < xs.length → w.cell? (ad.add j) = some (.int k ((xs.getD j 0 : Nat) : Int))
theorem NumsAt.nil (k : IntKind) (w : World) (B : Nat) (A : Option Addr) : NumsAt k w B A [] := fun h => absurd h (by simp)
theorem NumsAt.grew {k : IntKind} {w w' : World} {A : Option Addr} {xs : List Nat} (h : NumsAt k w w.heap.size A xs) (hg : Grew w w') : NumsAt k w' w'.heap.size A xs := by
  intro hn
  obtain ⟨ad, e, hb, hc⟩ := h hn
  exact ⟨ad, e, Nat.lt_of_lt_of_le hb hg.below.size, fun j hj => by rw [hg.below.cell (by rw [block_add]; exact hb)]; exact hc j hj⟩
theorem NumsAt.take {k : IntKind} {w : World} {B : Nat} {A : Option Addr} {xs : List Nat} (h : NumsAt k w B A xs) (n : Nat) : NumsAt k w B A (xs.take n) := by
  intro hn
  have hlen : (xs.take n).length ≤ xs.length := List.length_take_le' n xs
  obtain ⟨ad, e, hb, hc⟩ := h (by omega)
  refine ⟨ad, e, hb, fun j hj => ?_⟩
  rw [hc j (by omega)]
  have : j < n := by have := List.length_take_le n xs; omega
  simp [List.getD_eq_getElem?_getD, this]
theorem NumsAt.of_bytes {w : World} {B : Nat} {A : Option Addr} {xs : List Nat} (h : BytesAt w B A xs) : NumsAt .u8 w B A xs := h.2
theorem NumsAt.to_bytes {w : World} {B : Nat} {A : Option Addr} {xs : List Nat} (h : NumsAt .u8 w B A xs) (hx : ∀ x ∈ xs, x < 256) : BytesAt w B A xs := ⟨hx, h⟩
theorem NumsAt.one (k : IntKind) (w : World) (e : TypeId) (x : Nat) : NumsAt k (w.alloc (.cells #[.int k ((x : Nat) : Int)] e)) (w.alloc (.cells #[.int k ((x : Nat) : Int)] e)).heap.size (some ⟨w.heap.size, 0, none⟩) [x] := by
  intro _
  refine ⟨_, rfl, by simp, fun j hj => ?_⟩
  obtain rfl : j = 0 := by simpa using hj
  rw [add_zero]
  simp

/-- The slice that starts at 'A', of capacity 'c', is nil or made since 'w0' began, and holds 'xs'. -/
def OwnNums (k : IntKind) (w0 w : World) (e : TypeId) (A : Option Addr) (c : Nat) (xs : List Nat) : Prop := w.ownsRow w0.heap.size e 1 (.slice A xs.length c) xs.length (numCells k xs)
theorem OwnNums.nil (k : IntKind) (w0 w : World) (e : TypeId) : OwnNums k w0 w e none 0 [] := World.ownsRow_nil w _ e 1
theorem OwnNums.alloc {k : IntKind} {w0 w : World} {e : TypeId} {A : Option Addr} {c : Nat} {xs : List Nat} (h : OwnNums k w0 w e A c xs) (o : Obj) : OwnNums k w0 (w.alloc o) e A c xs := World.ownsRow.alloc h o
theorem OwnNums.drew {k : IntKind} {w0 w : World} {e : TypeId} {A : Option Addr} {c : Nat} {xs : List Nat} (h : OwnNums k w0 w e A c xs) : OwnNums k w0 w.drew e A c xs := h
theorem OwnNums.cases {k : IntKind} {w0 w : World} {e : TypeId} {A : Option Addr} {c : Nat} {xs : List Nat} (h : OwnNums k w0 w e A c xs) :
    (A = none ∧ c = 0 ∧ xs = []) ∨ ∃ g, A = some ⟨g, 0, none⟩ ∧ w0.heap.size ≤ g ∧ g < w.heap.size ∧ (∀ j, j < xs.length → w.cell? ⟨g, j, none⟩ = some (.int k ((xs.getD j 0 : Nat) : Int))) ∧ (∀ j, w.frozen? ⟨g, j, none⟩ = false) ∧ xs.length ≤ c := by
  rcases h.2 with ⟨h1, h2⟩ | ⟨g, cap, cur, hv, hb, hh, hnc, hcm, hs, ht⟩
  · simp only [Value.slice.injEq] at h1
    exact .inl ⟨h1.1, h1.2.2, List.eq_nil_of_length_eq_zero h2⟩
  · simp only [Value.slice.injEq] at hv
    obtain ⟨rfl, _, rfl⟩ := hv
    refine .inr ⟨g, rfl, hb, ((World.ownsRow.lt h) g rfl).2, fun j hj => ?_, fun j => World.ownsRow.frozenAt h j, hnc⟩
    rw [World.ownsRow.cellAt h j (by omega), numCells_get k xs j hj]
theorem OwnNums.at {k : IntKind} {w0 w : World} {e : TypeId} {A : Option Addr} {c : Nat} {xs : List Nat} (h : OwnNums k w0 w e A c xs) : NumsAt k w w.heap.size A xs := by
  intro hn
  rcases h.cases with ⟨_, _, rfl⟩ | ⟨g, rfl, _, hlt, hc, _⟩
  · simp at hn
  · refine ⟨_, rfl, hlt, fun j hj => ?_⟩
    rw [← hc j hj]
    congr 1
    simp [Addr.add]; omega
theorem OwnNums.cap {k : IntKind} {w0 w : World} {e : TypeId} {A : Option Addr} {c : Nat} {xs : List Nat} (h : OwnNums k w0 w e A c xs) : xs.length ≤ c ∧ c ≤ 9223372036854775807 := by
  rcases h.2 with ⟨h1, h2⟩ | ⟨g, cap, cur, hv, hb, hh, hnc, hcm, hs, ht⟩
  · simp only [Value.slice.injEq] at h1
    omega
  · simp only [Value.slice.injEq] at hv
    simp only [maxLen] at hcm
    omega
/-- A shorter one on the same cells. -/
theorem OwnNums.take {k : IntKind} {w0 w : World} {e : TypeId} {A : Option Addr} {c : Nat} {xs : List Nat} (h : OwnNums k w0 w e A c xs) (n : Nat) : OwnNums k w0 w e A c (xs.take n) := by
  have hl : (xs.take n).length ≤ xs.length := List.length_take_le' n xs
  refine ⟨by rw [numCells_length, Nat.mul_one], ?_⟩
  rcases h.2 with ⟨h1, h2⟩ | ⟨g, cap, cur, hv, hb, hh, hnc, hcm, hs, ht⟩
  · simp only [Value.slice.injEq] at h1
    refine .inl ⟨?_, by omega⟩
    rw [h1.1, h1.2.2, show (xs.take n).length = 0 by omega]
  · simp only [Value.slice.injEq] at hv
    refine .inr ⟨g, cap, cur, by rw [hv.1, hv.2.2], hb, hh, by omega, hcm, hs, ?_⟩
    have e1 : numCells k (xs.take n) = (numCells k xs).take (xs.take n).length := by
      rw [numCells, List.map_take, numCells, List.take_eq_take_iff]
      simp
    rw [e1, ← ht, List.take_take]
    congr 1
    omega
/-- What the call does elsewhere leaves it as it is. -/
theorem OwnNums.grew {k : IntKind} {w0 w w' : World} {e : TypeId} {A : Option Addr} {c : Nat} {xs : List Nat} (h : OwnNums k w0 w e A c xs) (hg : Grew w w') : OwnNums k w0 w' e A c xs := by
  refine ⟨h.1, ?_⟩
  rcases h.2 with ⟨h1, h2⟩ | ⟨g, cap, cur, hv, hb, hh, hnc, hcm, hs, ht⟩
  · exact .inl ⟨h1, h2⟩
  · refine .inr ⟨g, cap, cur, hv, hb, ?_, hnc, hcm, hs, ht⟩
    rw [hg.below.block g]
    · exact hh
    · exact ((World.ownsRow.lt h) g (by rw [hv]; rfl)).2
theorem OwnNums.mono {k : IntKind} {w0 w1 w : World} {e : TypeId} {A : Option Addr} {c : Nat} {xs : List Nat} (h : OwnNums k w1 w e A c xs) (hg : Grew w0 w1) : OwnNums k w0 w e A c xs := by
  refine ⟨h.1, ?_⟩
  rcases h.2 with h1 | ⟨g, cap, cur, hv, hb, hr⟩
  · exact .inl h1
  · exact .inr ⟨g, cap, cur, hv, Nat.le_trans hg.below.size hb, hr⟩
theorem OwnNums.set {k : IntKind} {w0 w : World} {e : TypeId} {g c : Nat} {xs : List Nat} (h : OwnNums k w0 w e (some ⟨g, 0, none⟩) c xs) (j x : Nat) : OwnNums k w0 (w.setCell ⟨g, j, none⟩ (.int k ((x : Nat) : Int))) e (some ⟨g, 0, none⟩) c (xs.set j x) := by
  have := (World.ownsRow.stored h j (.int k ((x : Nat) : Int))).1
  unfold OwnNums
  rw [List.length_set, ← numCells_set]
  exact this
theorem OwnNums.far {k : IntKind} {w0 w : World} {e : TypeId} {A : Option Addr} {c : Nat} {xs : List Nat} (h : OwnNums k w0 w e A c xs) {p : Addr} (hp : ∀ g, A = some ⟨g, 0, none⟩ → g ≠ p.block) (u : Value) : OwnNums k w0 (w.setCell p u) e A c xs := by
  refine ⟨h.1, ?_⟩
  rcases h.2 with h1 | ⟨g, cap, cur, hv, hb, hh, hr⟩
  · exact .inl h1
  · refine .inr ⟨g, cap, cur, hv, hb, ?_, hr⟩
    simp only [Value.slice.injEq] at hv
    rw [Below.heap_setCell w p u g (hp g hv.1)]
    exact hh

/-- 'append(out, xs...)': 'out' is nil or the call's own; 'xs' lies anywhere. -/
theorem run_cat {P : Program} (k : IntKind) (t ty e : TypeId) (b : Nat) (ht : P.underlying t = some (.slice e)) (he : (P.info? e).map (fun i => (i.zero, i.size, i.bytes)) = some (some (.int k 0), 1, b))
    (w0 w : World) (hg : Grew w0 w) (A : Option Addr) (c : Nat) (ys : List Nat) (hown : OwnNums k w0 w e A c ys) (A2 : Option Addr) (c2 : Nat) (xs : List Nat) (hx : NumsAt k w w.heap.size A2 xs)
    (hlen : ys.length + xs.length ≤ 9223372036854775807) (hby : (ys.length + xs.length) * b ≤ 140737488355328) :
    ∃ A' c' w', (Builtin.append_ #[t, t] ty #[.slice A ys.length c, .slice A2 xs.length c2]).run P w = .ok (.slice A' (ys.length + xs.length) c') w' ∧ OwnNums k w0 w' e A' c' (ys ++ xs) ∧ Grew w0 w' := by
  obtain ⟨i, hi, hz0, hz1, hz2⟩ := info_parts he
  have fin : ∀ (ad : Addr) (_ : ∀ j u, (numCells k xs)[j]? = some u → w.cell? (ad.add j) = some u),
      ∃ A' c' w', (Builtin.append_ #[t, t] ty #[.slice A ys.length c, .slice (some ad) xs.length c2]).run P w = .ok (.slice A' (ys.length + xs.length) c') w' ∧ OwnNums k w0 w' e A' c' (ys ++ xs) ∧ Grew w0 w' := by
    intro ad hc
    obtain ⟨v', w', hrun, hown', hgr, _⟩ := run_append_own (P := P) (w := w) w0.heap.size t ty e i (.int k 0) 1 b ht hi hz0 hz1 hz2 rfl (by decide) _ ys.length (numCells k ys) hown ad xs.length c2
      (numCells k xs) (by simp [numCells]) hc (fun u hu => by
        obtain ⟨_, _, rfl⟩ := List.mem_map.1 hu
        rfl) (by simp only [maxLen]; exact hlen) hby hg.below.size
    have hG : Grew w0 w' := .mk (hg.below.grown hgr hg.below.size (fun g hgk => ((World.ownsRow.lt hown) g hgk).1))
    rw [← numCells_append] at hown'
    rcases hown'.2 with ⟨rfl, h0⟩ | ⟨g, cap, cur, rfl, hr⟩
    · refine ⟨none, 0, w', ?_, ?_, hG⟩
      · rw [hrun, h0]
      · unfold OwnNums
        rw [List.length_append, h0]
        rw [h0] at hown'
        exact hown'
    · refine ⟨some ⟨g, 0, none⟩, cap, w', hrun, ?_, hG⟩
      unfold OwnNums
      rw [List.length_append]
      exact hown'
  rcases Nat.eq_zero_or_pos xs.length with h0 | h0
  · obtain rfl := List.eq_nil_of_length_eq_zero h0
    cases A2 with
    | some ad => exact fin ad (fun j u hu => by simp [numCells] at hu)
    | none =>
      refine ⟨A, c, w, ?_, by simpa using hown, hg⟩
      rcases hown.cases with ⟨rfl, rfl, rfl⟩ | ⟨g, rfl, _, _, _, _, hle⟩
      · simp [Builtin.append_, run_underlying ht, sizeOf, typeInfo, hi, Builtin.lenOf, Builtin.firstCells]
      · simp [Builtin.append_, run_underlying ht, sizeOf, typeInfo, hi, Builtin.lenOf, Builtin.firstCells, storeCells, hle]
  · obtain ⟨ad, rfl, hb, hc⟩ := hx h0
    exact fin ad (fun j u hu => by
      have hj : j < xs.length := by
        have := (List.getElem?_eq_some_iff.1 hu).1
        simpa [numCells] using this
      rw [hc j hj, ← numCells_get k xs j hj]
      exact hu)

theorem wpList_cat {P : Program} {ops : Array Oper} {rest : List Oper} {o : Oper} {a : Act} {Q : Exit → Act → World → Prop} (k : IntKind) (b : Nat) (w0 w : World) (hgd : o.guard = none) (s x : Operand) (t e : TypeId)
    (ho : o.op = .call { callee := .builtin .append, args := #[s, x], argTypes := #[t, t] })
    (ht : P.underlying t = some (.slice e)) (he : (P.info? e).map (fun i => (i.zero, i.size, i.bytes)) = some (some (.int k 0), 1, b))
    (hg : Grew w0 w) (A : Option Addr) (c : Nat) (ys : List Nat) (hs : a.eval s = .slice A ys.length c) (hown : OwnNums k w0 w e A c ys) (A2 : Option Addr) (c2 : Nat) (xs : List Nat) (hxv : a.eval x = .slice A2 xs.length c2) (hx : NumsAt k w w.heap.size A2 xs)
    (hlen : ys.length + xs.length ≤ 9223372036854775807) (hby : (ys.length + xs.length) * b ≤ 140737488355328)
    (h : ∀ A' c' w', OwnNums k w0 w' e A' c' (ys ++ xs) → Grew w0 w' → wpList P ops Q rest (a.put o.dst (.slice A' (ys.length + xs.length) c')) w') : wpList P ops Q (o :: rest) a w := by
  refine wpList_plain hgd fun K hK => ?_
  obtain ⟨A', c', w', hrun, h1, h2⟩ := run_cat (P := P) k t o.type e b ht he w0 w hg A c ys hown A2 c2 xs hx hlen hby
  unfold Oper.wp
  simp only [execOp, ho, resolve, invoke, builtin, Sem.run_bind, Sem.run_pure, Result.andThen_ok, List.map_toArray, List.map_cons, List.map_nil, hs, hxv, hrun]
  exact hK _ _ (h A' c' w' h1 h2)

/-- The same; the new list has a name of its own. -/
theorem wpList_catM {P : Program} {ops : Array Oper} {rest : List Oper} {o : Oper} {a : Act} {Q : Exit → Act → World → Prop} (k : IntKind) (b : Nat) (w0 w : World) (hgd : o.guard = none) (s x : Operand) (t e : TypeId)
    (ho : o.op = .call { callee := .builtin .append, args := #[s, x], argTypes := #[t, t] })
    (ht : P.underlying t = some (.slice e)) (he : (P.info? e).map (fun i => (i.zero, i.size, i.bytes)) = some (some (.int k 0), 1, b))
    (hg : Grew w0 w) (A : Option Addr) (c : Nat) (ys : List Nat) (hs : a.eval s = .slice A ys.length c) (hown : OwnNums k w0 w e A c ys) (A2 : Option Addr) (c2 : Nat) (xs : List Nat) (hxv : a.eval x = .slice A2 xs.length c2) (hx : NumsAt k w w.heap.size A2 xs)
    (hlen : ys.length + xs.length ≤ 9223372036854775807) (hby : (ys.length + xs.length) * b ≤ 140737488355328)
    (h : ∀ A' c' M w', Hid (M = ys ++ xs) → OwnNums k w0 w' e A' c' M → Grew w0 w' → wpList P ops Q rest (a.put o.dst (.slice A' M.length c')) w') : wpList P ops Q (o :: rest) a w :=
  wpList_cat k b w0 w hgd s x t e ho ht he hg A c ys hs hown A2 c2 xs hxv hx hlen hby fun A' c' w' h1 h2 => by
    have := h A' c' (ys ++ xs) w' rfl h1 h2
    rwa [List.length_append] at this

/-- 'append(out, v)': the one new cell lies in a block of its own. -/
theorem wpList_push {P : Program} {ops : Array Oper} {rest : List Oper} {o : Oper} {a : Act} {Q : Exit → Act → World → Prop} (k : IntKind) (b : Nat) (w0 w : World) (hgd : o.guard = none) (s x : Operand) (t e : TypeId)
    (ho : o.op = .call { callee := .builtin .append, args := #[s, x], argTypes := #[t, t] })
    (ht : P.underlying t = some (.slice e)) (he : (P.info? e).map (fun i => (i.zero, i.size, i.bytes)) = some (some (.int k 0), 1, b))
    (hg : Grew w0 w) (A : Option Addr) (c : Nat) (ys : List Nat) (hs : a.eval s = .slice A ys.length c) (hown : OwnNums k w0 w e A c ys) (v : Nat) (H : Nat) (hH : w.heap.size = H) (hxv : a.eval x = .slice (some ⟨H, 0, none⟩) 1 1) (u : Value) (hu : u = .int k ((v : Nat) : Int))
    (hlen : ys.length + 1 ≤ 9223372036854775807) (hby : (ys.length + 1) * b ≤ 140737488355328)
    (h : ∀ A' c' w', OwnNums k w0 w' e A' c' (ys ++ [v]) → Grew w0 w' → wpList P ops Q rest (a.put o.dst (.slice A' (ys.length + 1) c')) w') : wpList P ops Q (o :: rest) a (w.alloc (.cells #[u] e)) := by
  subst hH
  subst hu
  exact wpList_cat k b w0 (w.alloc (.cells #[.int k ((v : Nat) : Int)] e)) hgd s x t e ho ht he (hg.alloc _) A c ys hs (hown.alloc _) (some ⟨w.heap.size, 0, none⟩) 1 [v] hxv (NumsAt.one k w e v) hlen hby h
end Go.Proofs.YtdfahmppbfjbhaaDoor
namespace Go.Proofs.YtdfahmppbfjbhaaDoor
open Go.RowKit

/-- What is not the slice that was appended to is as it was. -/
def KeptBut (w w' : World) (A : Option Addr) : Prop := ∀ g, g < w.heap.size → A ≠ some ⟨g, 0, none⟩ → w'.heap[g]? = w.heap[g]?
theorem OwnNums.keptBut {k : IntKind} {w0 w w' : World} {e : TypeId} {A A2 : Option Addr} {c : Nat} {xs : List Nat} (h : OwnNums k w0 w e A2 c xs) (hk : KeptBut w w' A) (hne : ∀ g, A2 = some ⟨g, 0, none⟩ → A ≠ some ⟨g, 0, none⟩) : OwnNums k w0 w' e A2 c xs := by
  refine ⟨h.1, ?_⟩
  rcases h.2 with h1 | ⟨g, cap, cur, hv, hb, hh, hr⟩
  · exact .inl h1
  · refine .inr ⟨g, cap, cur, hv, hb, ?_, hr⟩
    rw [hk g ((World.ownsRow.lt h) g (by rw [hv]; rfl)).2 (hne g (by simp only [Value.slice.injEq] at hv; exact hv.1))]
    exact hh
theorem KeptBut.alloc {w w' : World} {A : Option Addr} {o : Obj} (h : KeptBut (w.alloc o) w' A) : KeptBut w w' A := fun g hg hA => by
  rw [h g (by simp only [World.size_alloc]; omega) hA]
  exact Below.heap_alloc w o g hg

theorem wpList_pushK {P : Program} {ops : Array Oper} {rest : List Oper} {o : Oper} {a : Act} {Q : Exit → Act → World → Prop} (k : IntKind) (b : Nat) (w0 w : World) (hgd : o.guard = none) (s x : Operand) (t e : TypeId)
    (ho : o.op = .call { callee := .builtin .append, args := #[s, x], argTypes := #[t, t] })
    (ht : P.underlying t = some (.slice e)) (he : (P.info? e).map (fun i => (i.zero, i.size, i.bytes)) = some (some (.int k 0), 1, b))
    (hg : Grew w0 w) (A : Option Addr) (c : Nat) (ys : List Nat) (hs : a.eval s = .slice A ys.length c) (hown : OwnNums k w0 w e A c ys) (v : Nat) (H : Nat) (hH : w.heap.size = H) (hxv : a.eval x = .slice (some ⟨H, 0, none⟩) 1 1) (u : Value) (hu : u = .int k ((v : Nat) : Int))
    (hlen : ys.length + 1 ≤ 9223372036854775807) (hby : (ys.length + 1) * b ≤ 140737488355328)
    (h : ∀ A' c' M w', Hid (M = ys ++ [v]) → OwnNums k w0 w' e A' c' M → Grew w0 w' → KeptBut w w' A → wpList P ops Q rest (a.put o.dst (.slice A' M.length c')) w') : wpList P ops Q (o :: rest) a (w.alloc (.cells #[u] e)) := by
  subst hH
  subst hu
  refine wpList_plain hgd fun K hK => ?_
  obtain ⟨i, hi, hz0, hz1, hz2⟩ := info_parts he
  have hone := NumsAt.one k w e v
  obtain ⟨ad, ea, hb, hc⟩ := hone (by simp)
  have ea' := Option.some.inj ea
  subst ea'
  have hown2 : OwnNums k w0 (w.alloc (.cells #[.int k ((v : Nat) : Int)] e)) e A c ys := hown.alloc _
  have hg2 : Grew w0 (w.alloc (.cells #[.int k ((v : Nat) : Int)] e)) := hg.alloc _
  obtain ⟨v', w', hrun, hown', hgr, _⟩ := run_append_own (P := P) (w := w.alloc (.cells #[.int k ((v : Nat) : Int)] e)) w0.heap.size t o.type e i (.int k 0) 1 b ht hi hz0 hz1 hz2 rfl (by decide) _ ys.length (numCells k ys) hown2 ⟨w.heap.size, 0, none⟩ 1 1
    (numCells k [v]) (by simp [numCells]) (fun j u hu => by
      have hj : j < 1 := by
        have := (List.getElem?_eq_some_iff.1 hu).1
        simpa [numCells] using this
      rw [hc j hj, ← numCells_get k [v] j hj]
      exact hu) (fun u hu => by
      obtain ⟨_, _, rfl⟩ := List.mem_map.1 hu
      rfl) (by simp only [maxLen]; exact hlen) hby hg2.below.size
  have hG : Grew w0 w' := .mk (hg2.below.grown hgr hg2.below.size (fun g hgk => ((World.ownsRow.lt hown2) g hgk).1))
  rw [← numCells_append] at hown'
  have hK2 : KeptBut (w.alloc (.cells #[.int k ((v : Nat) : Int)] e)) w' A := fun g hgl hA => hgr.block g hgl (by
    intro hrow
    cases A with
    | none => simp [Value.ownBlock] at hrow
    | some ad =>
      rcases hown2.cases with ⟨h1, _⟩ | ⟨g', h1, _⟩
      · cases h1
      · have h1' := Option.some.inj h1
        subst h1'
        have h2 : g = g' := Option.some.inj hrow
        exact hA (by rw [h2]))
  rcases hown'.2 with ⟨rfl, h0⟩ | ⟨g, cap, cur, rfl, hr⟩
  · omega
  · unfold Oper.wp
    simp only [execOp, ho, resolve, invoke, builtin, Sem.run_bind, Sem.run_pure, Result.andThen_ok, List.map_toArray, List.map_cons, List.map_nil, hs, hxv, hrun]
    have := h (some ⟨g, 0, none⟩) cap (ys ++ [v]) w' rfl (by unfold OwnNums; rw [List.length_append]; exact hown') hG hK2.alloc
    rw [List.length_append] at this
    exact hK _ _ this
end Go.Proofs.YtdfahmppbfjbhaaDoor
namespace Go.Proofs.YtdfahmppbfjbhaaDoor
open Go.RowKit

/-- Outside of the blocks 'F' nothing that was there has changed; there may be new blocks. -/
structure Kept (F : Nat → Prop) (w w' : World) : Prop where
  os : w'.os = w.os
  tape : w'.tape = w.tape
  output : w'.output = w.output
  size : w.heap.size ≤ w'.heap.size
  block : ∀ k, k < w.heap.size → ¬ F k → w'.heap[k]? = w.heap[k]?

theorem Kept.of_grew {F : Nat → Prop} {w w' : World} (h : Grew w w') : Kept F w w' :=
  ⟨h.below.os, h.below.tape, h.below.output, h.below.size, fun k hk _ => h.below.block k hk⟩
theorem Kept.refl (F : Nat → Prop) (w : World) : Kept F w w := .of_grew (Grew.refl w)
/-- One behind the other: what the second one changes was not there, or lies in F. -/
theorem Kept.next {F G : Nat → Prop} {a b c : World} (h : Kept F a b) (k : Kept G b c) (hG : ∀ i, i < a.heap.size → G i → F i) : Kept F a c :=
  ⟨k.os.trans h.os, k.tape.trans h.tape, k.output.trans h.output, Nat.le_trans h.size k.size, fun i hi hF =>
    (k.block i (Nat.lt_of_lt_of_le hi h.size) (fun hg => hF (hG i hi hg))).trans (h.block i hi hF)⟩
theorem Kept.trans {F : Nat → Prop} {a b c : World} (h : Kept F a b) (k : Kept F b c) : Kept F a c := h.next k (fun _ _ h => h)
theorem Kept.mono {F G : Nat → Prop} {a b : World} (h : Kept F a b) (hG : ∀ i, i < a.heap.size → F i → G i) : Kept G a b :=
  (Kept.refl G a).next h hG
theorem Kept.grew {F : Nat → Prop} {w0 w w' : World} (h : Kept F w w') (hg : Grew w0 w) (hF : ∀ k, F k → w0.heap.size ≤ k) : Grew w0 w' :=
  .mk ⟨h.os.trans hg.below.os, h.tape.trans hg.below.tape, h.output.trans hg.below.output, Nat.le_trans hg.below.size h.size, fun k hk => (h.block k (Nat.lt_of_lt_of_le hk hg.below.size) (fun hf => by have := hF k hf; omega)).trans (hg.below.block k hk)⟩
theorem Kept.alloc {F : Nat → Prop} {a b : World} (h : Kept F a b) (o : Obj) : Kept F a (b.alloc o) := h.trans (.of_grew ((Grew.refl b).alloc o))
theorem Kept.drew {F : Nat → Prop} {a b : World} (h : Kept F a b) : Kept F a b.drew := h.trans (.of_grew (Grew.refl b).drew)
theorem Kept.setCell {F : Nat → Prop} {a b : World} (h : Kept F a b) {p : Addr} (hp : p.block < a.heap.size → F p.block) (u : Value) : Kept F a (b.setCell p u) :=
  h.next (G := fun k => k = p.block) ⟨rfl, rfl, rfl, by simp [World.setCell], fun k _ hk => Below.heap_setCell b p u k hk⟩ (fun i hi e => by subst e; exact hp hi)
theorem Kept.cell {F : Nat → Prop} {w w' : World} (h : Kept F w w') {p : Addr} (hp : p.block < w.heap.size) (hF : ¬ F p.block) : w'.cell? p = w.cell? p := World.cell?_of_block (w := w) (h.block p.block hp hF)
theorem Kept.frozen {F : Nat → Prop} {w w' : World} (h : Kept F w w') {p : Addr} (hp : p.block < w.heap.size) (hF : ¬ F p.block) : w'.frozen? p = w.frozen? p := World.frozen?_of_block (w := w) (h.block p.block hp hF)
theorem Blk.kept {F : Nat → Prop} {w w' : World} {g : Nat} {t : TypeId} {cs : Array Value} (h : Blk w g t cs) (k : Kept F w w') (hF : ¬ F g) : Blk w' g t cs := (k.block g h.lt hF).trans h
theorem NumsAt.kept {F : Nat → Prop} {k : IntKind} {w w' : World} {B : Nat} {A : Option Addr} {xs : List Nat} (h : NumsAt k w B A xs) (hk : Kept F w w') (hB : B ≤ w.heap.size) (hF : ∀ ad, A = some ad → ¬ F ad.block) : NumsAt k w' B A xs := by
  intro hn
  obtain ⟨ad, e, hb, hc⟩ := h hn
  refine ⟨ad, e, hb, fun j hj => ?_⟩
  rw [hk.cell (by rw [block_add]; omega) (by rw [block_add]; exact hF ad e)]
  exact hc j hj

/-- A value that is 'n' elements 'vs' in a block of its own (or nil), from block 'B' on. -/
def Row (w : World) (B : Nat) (e : TypeId) (s : Nat) (A : Option Addr) (n c : Nat) (vs : List Value) : Prop := w.ownsRow B e s (.slice A n c) n vs
theorem Row.nil (w : World) (B : Nat) (e : TypeId) (s : Nat) : Row w B e s none 0 0 [] := World.ownsRow_nil w _ e s
theorem Row.cases {w : World} {B : Nat} {e : TypeId} {s : Nat} {A : Option Addr} {n c : Nat} {vs : List Value} (h : Row w B e s A n c vs) :
    vs.length = n * s ∧ n ≤ c ∧ c ≤ 9223372036854775807 ∧ ((A = none ∧ n = 0 ∧ c = 0) ∨ ∃ g, A = some ⟨g, 0, none⟩ ∧ B ≤ g ∧ g < w.heap.size ∧ (∀ j u, vs[j]? = some u → w.cell? ⟨g, j, none⟩ = some u) ∧ (∀ j, w.frozen? ⟨g, j, none⟩ = false)) := by
  refine ⟨h.1, ?_⟩
  rcases h.2 with ⟨h1, h2⟩ | ⟨g, cap, cur, hv, hb, hh, hnc, hcm, hs, ht⟩
  · simp only [Value.slice.injEq] at h1
    exact ⟨by omega, by omega, .inl ⟨h1.1, by omega, by omega⟩⟩
  · simp only [Value.slice.injEq] at hv
    obtain ⟨rfl, _, rfl⟩ := hv
    simp only [maxLen] at hcm
    refine ⟨hnc, hcm, .inr ⟨g, rfl, hb, ((World.ownsRow.lt h) g rfl).2, fun j u hu => ?_, fun j => World.ownsRow.frozenAt h j⟩⟩
    have hj : j < vs.length := (List.getElem?_eq_some_iff.1 hu).1
    have := World.ownsRow.cellAt h j (by rw [← h.1]; exact hj)
    rw [this, hu]
/-- The block that it lies in. -/
def RowIn (A : Option Addr) (g : Nat) : Prop := A = some ⟨g, 0, none⟩
theorem Row.kept {F : Nat → Prop} {w w' : World} {B : Nat} {e : TypeId} {s : Nat} {A : Option Addr} {n c : Nat} {vs : List Value} (h : Row w B e s A n c vs) (hk : Kept F w w') (hF : ∀ g, A = some ⟨g, 0, none⟩ → ¬ F g) : Row w' B e s A n c vs := by
  refine ⟨h.1, ?_⟩
  rcases h.2 with h1 | ⟨g, cap, cur, hv, hb, hh, hr⟩
  · exact .inl h1
  · refine .inr ⟨g, cap, cur, hv, hb, ?_, hr⟩
    rw [hk.block g ((World.ownsRow.lt h) g (by rw [hv]; rfl)).2 (hF g (by simp only [Value.slice.injEq] at hv; exact hv.1))]
    exact hh
theorem Row.grew {w w' : World} {B : Nat} {e : TypeId} {s : Nat} {A : Option Addr} {n c : Nat} {vs : List Value} (h : Row w B e s A n c vs) (hg : Grew w w') : Row w' B e s A n c vs := h.kept (F := fun _ => False) (.of_grew hg) (fun _ _ h => h)
theorem Row.low {w : World} {B B' : Nat} {e : TypeId} {s : Nat} {A : Option Addr} {n c : Nat} {vs : List Value} (h : Row w B e s A n c vs) (hB : B' ≤ B) : Row w B' e s A n c vs := by
  refine ⟨h.1, ?_⟩
  rcases h.2 with h1 | ⟨g, cap, cur, hv, hb, hr⟩
  · exact .inl h1
  · exact .inr ⟨g, cap, cur, hv, Nat.le_trans hB hb, hr⟩
theorem Row.of_own {k : IntKind} {w0 w : World} {e : TypeId} {A : Option Addr} {c : Nat} {xs : List Nat} (h : OwnNums k w0 w e A c xs) : Row w w0.heap.size e 1 A xs.length c (numCells k xs) := h
theorem Row.to_own {k : IntKind} {w0 w : World} {e : TypeId} {A : Option Addr} {c : Nat} {xs : List Nat} (h : Row w w0.heap.size e 1 A xs.length c (numCells k xs)) : OwnNums k w0 w e A c xs := h

/-- The block that an append changes: the row's own. -/
def AtRow (A : Option Addr) (k : Nat) : Prop := ∃ ad, A = some ad ∧ ad.block = k
/-- 'append(out, xs...)': 'out' is nil or a row of the call's own; 'xs' lies anywhere. -/
theorem run_catR {P : Program} (t ty e : TypeId) (z : Value) (s b : Nat) (ht : P.underlying t = some (.slice e)) (he : (P.info? e).map (fun i => (i.zero, i.size, i.bytes)) = some (some z, s, b)) (hzs : z.cells.size = s) (hs : 0 < s)
    (w : World) (B : Nat) (hB : B ≤ w.heap.size) (A : Option Addr) (n c : Nat) (ys : List Value) (hown : Row w B e s A n c ys) (A2 : Option Addr) (m c2 : Nat) (xs : List Value) (hl : xs.length = m * s) (h1 : ∀ u ∈ xs, u.oneCell' = true) (hA : A2 = none → m = 0)
    (hx : ∀ ad, A2 = some ad → ∀ j u, xs[j]? = some u → w.cell? (ad.add j) = some u)
    (hlen : n + m ≤ 9223372036854775807) (hby : (n + m) * b ≤ 140737488355328) :
    ∃ A' c' w', (Builtin.append_ #[t, t] ty #[.slice A n c, .slice A2 m c2]).run P w = .ok (.slice A' (n + m) c') w' ∧ Row w' B e s A' (n + m) c' (ys ++ xs) ∧ Kept (AtRow A) w w' ∧ (A' = A ∨ ∃ g, A' = some ⟨g, 0, none⟩ ∧ w.heap.size ≤ g) := by
  obtain ⟨i, hi, hz0, hz1, hz2⟩ := info_parts he
  cases A2 with
  | none =>
    obtain rfl := hA rfl
    obtain rfl : xs = [] := List.eq_nil_of_length_eq_zero (by simpa using hl)
    refine ⟨A, c, w, ?_, by simpa using hown, Kept.refl _ _, .inl rfl⟩
    rcases hown.cases with ⟨_, hnc, _, ⟨rfl, rfl, rfl⟩ | ⟨g, rfl, _, _, _, _⟩⟩
    · simp [Builtin.append_, run_underlying ht, sizeOf, typeInfo, hi, Builtin.lenOf, Builtin.firstCells]
    · simp [Builtin.append_, run_underlying ht, sizeOf, typeInfo, hi, Builtin.lenOf, Builtin.firstCells, storeCells, hnc]
  | some ad =>
    obtain ⟨v', w', hrun, hown', hgr, hiff⟩ := run_append_own (P := P) (w := w) B t ty e i z s b ht hi hz0 hz1 hz2 hzs hs _ n ys hown ad m c2 xs hl (hx ad rfl) h1 (by simp only [maxLen]; exact hlen) hby hB
    have hK : Kept (AtRow A) w w' := ⟨hgr.os, hgr.tape, hgr.output, hgr.size, fun k hk hF => hgr.block k hk (by
      intro hrow
      cases A with
      | none => simp [Value.ownBlock] at hrow
      | some ad => exact hF ⟨ad, rfl, (Option.some.inj hrow).symm⟩)⟩
    have hN : ∀ g cap, v' = .slice (some ⟨g, 0, none⟩) (n + m) cap → (some ⟨g, 0, none⟩ = A ∨ w.heap.size ≤ g) := by
      intro g cap hv
      subst hz1
      subst hz2
      rcases hown.cases with ⟨hyl, hnc, _, ⟨rfl, rfl, rfl⟩ | ⟨g0, rfl, _, _, hc0, _⟩⟩
      · right
        have hownT : w.ownsRow w.heap.size e i.size (.slice none 0 0) 0 ys := ⟨hyl, .inl ⟨rfl, rfl⟩⟩
        obtain ⟨v2, w2, hrun2, hown2, _⟩ := run_append_own (P := P) (w := w) w.heap.size t ty e i z i.size i.bytes ht hi hz0 rfl rfl hzs hs _ 0 ys hownT ad m c2 xs hl (hx ad rfl) h1 (by simp only [maxLen]; exact hlen) hby (Nat.le_refl _)
        rw [hrun] at hrun2
        simp only [Result.ok.injEq] at hrun2
        obtain ⟨rfl, rfl⟩ := hrun2
        rcases hown2.2 with ⟨h3, _⟩ | ⟨g2, cap2, cur, h3, hb2, _⟩
        · rw [h3] at hv; simp at hv
        · rw [h3] at hv
          simp only [Value.slice.injEq, Option.some.injEq, Addr.mk.injEq] at hv
          omega
      · by_cases hroom : n + m ≤ c
        · obtain ⟨w2, hrun2, _⟩ := run_append_fits (P := P) w B t ty e i i.size ht hi rfl g0 n c ys hown ad m c2 xs hl (hx ad rfl) h1 hroom
          rw [hrun] at hrun2
          simp only [Result.ok.injEq] at hrun2
          rw [hv] at hrun2
          simp only [Value.slice.injEq, Option.some.injEq, Addr.mk.injEq] at hrun2
          left
          rw [hrun2.1.1.1]
        · have hrun2 := run_append_grow (P := P) w t ty e i z ht hi hz0 ⟨g0, 0, none⟩ n c ys hyl (fun j u hu => by
            have := hc0 j u hu
            simpa [Addr.add, Nat.pos_iff_ne_zero] using (show w.cell? ((⟨g0, 0, none⟩ : Addr).add j) = some u by
              rw [show (⟨g0, 0, none⟩ : Addr).add j = ⟨g0, j, none⟩ by simp [Addr.add]; omega]; exact this)) ad m c2 xs hl (hx ad rfl) (by omega) (by omega) (growslice_fits (by omega) hby)
          rw [hrun] at hrun2
          simp only [Result.ok.injEq] at hrun2
          rw [hv] at hrun2
          simp only [Value.slice.injEq, Option.some.injEq, Addr.mk.injEq] at hrun2
          right
          omega
    rcases hown'.2 with ⟨rfl, h0⟩ | ⟨g, cap, cur, rfl, hr⟩
    · refine ⟨none, 0, w', ?_, ?_, hK, .inl ?_⟩
      · rw [hrun, h0]
      · unfold Row
        rw [h0]
        rw [h0] at hown'
        exact hown'
      · have := (hiff.1 rfl).1
        simp only [Value.slice.injEq] at this
        exact this.1.symm
    · exact ⟨some ⟨g, 0, none⟩, cap, w', hrun, hown', hK, (hN g cap rfl).imp id (fun h => ⟨g, rfl, h⟩)⟩
end Go.Proofs.YtdfahmppbfjbhaaDoor
namespace Go.Proofs.YtdfahmppbfjbhaaDoor
open Go.RowKit

/-- The row is where it was, or in a new block. -/
def RowTo (w : World) (A A' : Option Addr) : Prop := A' = A ∨ ∃ g, A' = some ⟨g, 0, none⟩ ∧ w.heap.size ≤ g
theorem wpList_catR {P : Program} {ops : Array Oper} {rest : List Oper} {o : Oper} {a : Act} {Q : Exit → Act → World → Prop} (z : Value) (sz b : Nat) (w : World) (hgd : o.guard = none) (s x : Operand) (t e : TypeId)
    (ho : o.op = .call { callee := .builtin .append, args := #[s, x], argTypes := #[t, t] })
    (ht : P.underlying t = some (.slice e)) (he : (P.info? e).map (fun i => (i.zero, i.size, i.bytes)) = some (some z, sz, b)) (hzs : z.cells.size = sz) (hsz : 0 < sz)
    (B : Nat) (hB : B ≤ w.heap.size) (A : Option Addr) (n c : Nat) (ys : List Value) (hs : a.eval s = .slice A n c) (hown : Row w B e sz A n c ys) (A2 : Option Addr) (m c2 : Nat) (xs : List Value) (hxv : a.eval x = .slice A2 m c2)
    (hl : xs.length = m * sz) (h1 : ∀ u ∈ xs, u.oneCell' = true) (hA : A2 = none → m = 0) (hx : ∀ ad, A2 = some ad → ∀ j u, xs[j]? = some u → w.cell? (ad.add j) = some u)
    (hlen : n + m ≤ 9223372036854775807) (hby : (n + m) * b ≤ 140737488355328)
    (h : ∀ A' c' w', Row w' B e sz A' (n + m) c' (ys ++ xs) → Kept (AtRow A) w w' → RowTo w A A' → wpList P ops Q rest (a.put o.dst (.slice A' (n + m) c')) w') : wpList P ops Q (o :: rest) a w := by
  refine wpList_plain hgd fun K hK => ?_
  obtain ⟨A', c', w', hrun, r1, r2, r3⟩ := run_catR (P := P) t o.type e z sz b ht he hzs hsz w B hB A n c ys hown A2 m c2 xs hl h1 hA hx hlen hby
  unfold Oper.wp
  simp only [execOp, ho, resolve, invoke, builtin, Sem.run_bind, Sem.run_pure, Result.andThen_ok, List.map_toArray, List.map_cons, List.map_nil, hs, hxv, hrun]
  exact hK _ _ (h A' c' w' r1 r2 r3)
theorem Kept.of_alloc {F : Nat → Prop} {w w' : World} {o : Obj} (h : Kept F (w.alloc o) w') : Kept F w w' :=
  ((Kept.refl F w).alloc o).trans h
/-- 'append(out, v)': the one new element lies in a block of its own. -/
theorem wpList_pushR {P : Program} {ops : Array Oper} {rest : List Oper} {o : Oper} {a : Act} {Q : Exit → Act → World → Prop} (z : Value) (b : Nat) (w : World) (hgd : o.guard = none) (s x : Operand) (t e : TypeId)
    (ho : o.op = .call { callee := .builtin .append, args := #[s, x], argTypes := #[t, t] })
    (ht : P.underlying t = some (.slice e)) (he : (P.info? e).map (fun i => (i.zero, i.size, i.bytes)) = some (some z, 1, b)) (hzs : z.cells.size = 1)
    (B : Nat) (hB : B ≤ w.heap.size) (A : Option Addr) (n c : Nat) (ys : List Value) (hs : a.eval s = .slice A n c) (hown : Row w B e 1 A n c ys) (H : Nat) (hH : w.heap.size = H) (hxv : a.eval x = .slice (some ⟨H, 0, none⟩) 1 1) (u : Value) (h1 : u.oneCell' = true)
    (hlen : n + 1 ≤ 9223372036854775807) (hby : (n + 1) * b ≤ 140737488355328)
    (h : ∀ A' c' w', Row w' B e 1 A' (n + 1) c' (ys ++ [u]) → Kept (AtRow A) w w' → RowTo w A A' → wpList P ops Q rest (a.put o.dst (.slice A' (n + 1) c')) w') : wpList P ops Q (o :: rest) a (w.alloc (.cells #[u] e)) := by
  subst hH
  refine wpList_catR z 1 b (w.alloc (.cells #[u] e)) hgd s x t e ho ht he hzs (by decide) B (by simp only [World.size_alloc]; omega) A n c ys hs (hown.grew ((Grew.refl w).alloc _)) _ 1 1 [u] hxv (by simp) (by simpa using h1) (by intro h; cases h) (fun ad had j v hv => ?_) hlen hby (fun A' c' w' r1 r2 r3 => h A' c' w' r1 (r2.of_alloc) (r3.imp id (fun ⟨g, h1, h2⟩ => ⟨g, h1, by simp only [World.size_alloc] at h2; omega⟩)))
  obtain rfl := Option.some.inj had
  have hj : j = 0 := by
    have := (List.getElem?_eq_some_iff.1 hv).1
    simpa using this
  subst hj
  obtain rfl : u = v := by simpa using hv
  rw [add_zero]
  simp
/-- The same law for a region that draws its order. -/
theorem step_catR {P : Program} {ops : Array Oper} {o : Oper} {a : Act} {w : World} {K : Act → World → Prop} {Q : Exit → Act → World → Prop} {E : Prop} (z : Value) (sz b : Nat) (hgd : o.guard = none) (s x : Operand) (t e : TypeId)
    (ho : o.op = .call { callee := .builtin .append, args := #[s, x], argTypes := #[t, t] })
    (ht : P.underlying t = some (.slice e)) (he : (P.info? e).map (fun i => (i.zero, i.size, i.bytes)) = some (some z, sz, b)) (hzs : z.cells.size = sz) (hsz : 0 < sz)
    (B : Nat) (hB : B ≤ w.heap.size) (A : Option Addr) (n c : Nat) (ys : List Value) (hs : a.eval s = .slice A n c) (hown : Row w B e sz A n c ys) (A2 : Option Addr) (m c2 : Nat) (xs : List Value) (hxv : a.eval x = .slice A2 m c2)
    (hl : xs.length = m * sz) (h1 : ∀ u ∈ xs, u.oneCell' = true) (hA : A2 = none → m = 0) (hx : ∀ ad, A2 = some ad → ∀ j u, xs[j]? = some u → w.cell? (ad.add j) = some u)
    (hlen : n + m ≤ 9223372036854775807) (hby : (n + m) * b ≤ 140737488355328)
    (h : ∀ A' c' w', Row w' B e sz A' (n + m) c' (ys ++ xs) → Kept (AtRow A) w w' → RowTo w A A' → K (a.put o.dst (.slice A' (n + m) c')) w') :
    if Region.wanted o (yielded ops a.tmps) = true then Oper.wp P o a w K Q else E := by
  have hw : Region.wanted o (yielded ops a.tmps) = true := by simp [Region.wanted, hgd]
  rw [if_pos hw]
  obtain ⟨A', c', w', hrun, r1, r2, r3⟩ := run_catR (P := P) t o.type e z sz b ht he hzs hsz w B hB A n c ys hown A2 m c2 xs hl h1 hA hx hlen hby
  unfold Oper.wp
  simp only [execOp, ho, resolve, invoke, builtin, Sem.run_bind, Sem.run_pure, Result.andThen_ok, List.map_toArray, List.map_cons, List.map_nil, hs, hxv, hrun]
  exact h A' c' w' r1 r2 r3
theorem numCells_one (k : IntKind) (xs : List Nat) : ∀ u ∈ numCells k xs, u.oneCell' = true := by
  intro u hu
  obtain ⟨_, _, rfl⟩ := List.mem_map.1 hu
  rfl
theorem NumsAt.cells {k : IntKind} {w : World} {B : Nat} {A : Option Addr} {xs : List Nat} (h : NumsAt k w B A xs) : (A = none → xs.length = 0) ∧ ∀ ad, A = some ad → ∀ j u, (numCells k xs)[j]? = some u → w.cell? (ad.add j) = some u := by
  refine ⟨fun hA => ?_, fun ad hA j u hu => ?_⟩
  · rcases Nat.eq_zero_or_pos xs.length with h0 | h0
    · exact h0
    · obtain ⟨ad, e, _⟩ := h h0
      rw [hA] at e; cases e
  · have hj : j < xs.length := by
      have := (List.getElem?_eq_some_iff.1 hu).1
      simpa [numCells] using this
    obtain ⟨ad', e, _, hc⟩ := h (by omega)
    obtain rfl := Option.some.inj (hA.symm.trans e)
    rw [hc j hj, ← numCells_get k xs j hj]
    exact hu
theorem Row.nums {k : IntKind} {w : World} {B : Nat} {e : TypeId} {A : Option Addr} {c : Nat} {xs : List Nat} (h : Row w B e 1 A xs.length c (numCells k xs)) : NumsAt k w w.heap.size A xs := by
  intro hn
  rcases h.cases with ⟨_, _, _, ⟨_, h0, _⟩ | ⟨g, rfl, _, hlt, hc, _⟩⟩
  · omega
  · refine ⟨_, rfl, hlt, fun j hj => ?_⟩
    rw [show (⟨g, 0, none⟩ : Addr).add j = ⟨g, j, none⟩ by simp [Addr.add]; omega]
    exact hc j _ (numCells_get k xs j hj)
theorem Row.made {w : World} {B : Nat} {e : TypeId} {sz : Nat} (hB : B ≤ w.heap.size) : Row (w.alloc (.cells #[] e)) B e sz (some ⟨w.heap.size, 0, none⟩) 0 0 [] :=
  ⟨by simp, .inr ⟨w.heap.size, 0, #[], rfl, hB, by simp only [World.alloc, Array.getElem?_push_size], by simp [maxLen]⟩⟩
end Go.Proofs.YtdfahmppbfjbhaaDoor
namespace Go.Proofs.YtdfahmppbfjbhaaDoor
namespace Dg
/-- The value of digits to the base 'B', the lowest first. -/
def val (B : Nat) : List Nat → Nat
  | [] => 0
  | x :: r => x + B * val B r
@[simp] theorem val_nil (B : Nat) : val B [] = 0 := rfl
@[simp] theorem val_cons (B x : Nat) (r : List Nat) : val B (x :: r) = x + B * val B r := rfl
theorem val_append (B : Nat) : ∀ xs ys : List Nat, val B (xs ++ ys) = val B xs + B ^ xs.length * val B ys
  | [], ys => by simp
  | x :: r, ys => by
    rw [List.cons_append, val_cons, val_append B r ys, val_cons, List.length_cons, Nat.pow_succ, Nat.mul_add, ← Nat.mul_assoc, Nat.mul_comm (B ^ r.length) B, Nat.add_assoc]
theorem val_snoc (B : Nat) (xs : List Nat) (x : Nat) : val B (xs ++ [x]) = val B xs + B ^ xs.length * x := by simp [val_append]
/-- All digits are less than the base. -/
def Low (B : Nat) (xs : List Nat) : Prop := ∀ x ∈ xs, x < B
theorem Low.nil (B : Nat) : Low B [] := by intro x hx; cases hx
theorem Low.cons {B x : Nat} {r : List Nat} (hx : x < B) (hr : Low B r) : Low B (x :: r) := by
  intro y hy
  rcases List.mem_cons.1 hy with rfl | h
  · exact hx
  · exact hr y h
theorem Low.append {B : Nat} {xs ys : List Nat} (h : Low B xs) (k : Low B ys) : Low B (xs ++ ys) := by
  intro y hy
  rcases List.mem_append.1 hy with h' | h'
  · exact h y h'
  · exact k y h'
theorem Low.snoc {B x : Nat} {xs : List Nat} (h : Low B xs) (hx : x < B) : Low B (xs ++ [x]) := h.append (Low.cons hx (Low.nil B))
theorem Low.tail {B x : Nat} {r : List Nat} (h : Low B (x :: r)) : Low B r := fun y hy => h y (List.mem_cons_of_mem _ hy)
theorem Low.head {B x : Nat} {r : List Nat} (h : Low B (x :: r)) : x < B := h x List.mem_cons_self
theorem Low.take {B : Nat} {xs : List Nat} (h : Low B xs) (n : Nat) : Low B (xs.take n) := fun y hy => h y (List.mem_of_mem_take hy)
theorem Low.drop {B : Nat} {xs : List Nat} (h : Low B xs) (n : Nat) : Low B (xs.drop n) := fun y hy => h y (List.mem_of_mem_drop hy)
theorem Low.getD {B : Nat} {xs : List Nat} (hB : 0 < B) (h : Low B xs) (j : Nat) : xs.getD j 0 < B := by
  rw [List.getD_eq_getElem?_getD]
  by_cases hj : j < xs.length
  · rw [List.getElem?_eq_getElem hj]; exact h _ (List.getElem_mem hj)
  · rw [List.getElem?_eq_none (by omega)]; exact hB
theorem Low.set {B x : Nat} {xs : List Nat} (h : Low B xs) (hx : x < B) (j : Nat) : Low B (xs.set j x) := by
  intro y hy
  rcases List.mem_or_eq_of_mem_set hy with h' | h'
  · exact h y h'
  · omega
theorem val_lt {B : Nat} : ∀ {xs : List Nat}, Low B xs → val B xs < B ^ xs.length
  | [], _ => by simp
  | x :: r, h => by
    have hx := h.head
    have hr := val_lt h.tail
    simp only [val_cons, List.length_cons, Nat.pow_succ]
    have := Nat.mul_le_mul_left B (Nat.succ_le_of_lt hr)
    rw [Nat.mul_comm (B ^ r.length) B]
    rw [Nat.succ_eq_add_one, Nat.mul_add, Nat.mul_one] at this
    omega
/-- No nought at the end. -/
def Top (xs : List Nat) : Prop := xs.getLast? ≠ some 0
theorem Top.nil : Top [] := by simp [Top]
theorem Top.snoc {xs : List Nat} {x : Nat} (h : x ≠ 0) : Top (xs ++ [x]) := by simp [Top, h]
theorem Top.tail {x : Nat} {r : List Nat} (h : Top (x :: r)) : Top r := by
  cases r with
  | nil => exact Top.nil
  | cons y s => simpa [Top] using h
theorem val_pos {B : Nat} (hB : 0 < B) : ∀ {xs : List Nat}, Top xs → xs ≠ [] → 0 < val B xs
  | [], _, h => absurd rfl h
  | [x], h, _ => by
    have : x ≠ 0 := by simpa [Top] using h
    simp; omega
  | x :: y :: r, h, _ => by
    have := val_pos hB (xs := y :: r) h.tail (by simp)
    have := Nat.mul_pos hB this
    rw [val_cons]
    omega
theorem val_ge {B : Nat} {xs : List Nat} (h : Top xs) (hne : xs ≠ []) : B ^ (xs.length - 1) ≤ val B xs := by
  rcases List.eq_nil_or_concat xs with rfl | ⟨r, x, rfl⟩
  · exact absurd rfl hne
  · have hx : x ≠ 0 := by simpa [Top] using h
    rw [List.concat_eq_append, val_snoc]
    simp only [List.length_append, List.length_cons, List.length_nil, Nat.zero_add, Nat.add_sub_cancel]
    have : B ^ r.length * 1 ≤ B ^ r.length * x := Nat.mul_le_mul_left _ (by omega)
    omega
/-- Digits without a nought at the end are told by their value. -/
theorem val_inj {B : Nat} (hB : 0 < B) : ∀ {xs ys : List Nat}, Low B xs → Low B ys → Top xs → Top ys → val B xs = val B ys → xs = ys
  | [], [], _, _, _, _, _ => rfl
  | [], y :: s, _, _, _, h, e => by
    have := val_pos hB h (by simp)
    rw [← e] at this
    simp at this
  | x :: r, [], _, _, h, _, e => by
    have := val_pos hB h (by simp)
    rw [e] at this
    simp at this
  | x :: r, y :: s, h1, h2, h3, h4, e => by
    simp only [val_cons] at e
    have hx := h1.head
    have hy := h2.head
    have e1 : x = y := by
      have := congrArg (· % B) e
      simp only [Nat.add_mul_mod_self_left] at this
      rwa [Nat.mod_eq_of_lt hx, Nat.mod_eq_of_lt hy] at this
    subst e1
    have e2 : val B r = val B s := Nat.eq_of_mul_eq_mul_left hB (by omega)
    rw [val_inj hB h1.tail h2.tail h3.tail h4.tail e2]
/-- Without the noughts at the end. -/
def cut : List Nat → List Nat
  | [] => []
  | x :: r => if cut r = [] ∧ x = 0 then [] else x :: cut r
theorem cut_top : ∀ xs : List Nat, Top (cut xs)
  | [] => Top.nil
  | x :: r => by
    unfold cut
    split
    · exact Top.nil
    · rename_i h
      have := cut_top r
      cases hc : cut r with
      | nil =>
        have : x ≠ 0 := fun h0 => h ⟨hc, h0⟩
        simp [Top, this]
      | cons y s => rw [hc] at this; simpa [Top] using this
theorem cut_val (B : Nat) : ∀ xs : List Nat, val B (cut xs) = val B xs
  | [] => rfl
  | x :: r => by
    have := cut_val B r
    unfold cut
    split
    · rename_i h
      rw [h.1] at this
      simp only [val_nil, val_cons] at this ⊢
      rw [← this, h.2]; simp
    · simp [this]
theorem cut_low {B : Nat} : ∀ {xs : List Nat}, Low B xs → Low B (cut xs)
  | [], _ => Low.nil B
  | x :: r, h => by
    unfold cut
    split
    · exact Low.nil B
    · exact Low.cons h.head (cut_low h.tail)
theorem cut_len : ∀ xs : List Nat, (cut xs).length ≤ xs.length
  | [] => Nat.le_refl _
  | x :: r => by
    have := cut_len r
    unfold cut
    split <;> simp <;> omega
theorem cut_take : ∀ xs : List Nat, cut xs = xs.take (cut xs).length
  | [] => rfl
  | x :: r => by
    have := cut_take r
    unfold cut
    split
    · simp
    · simp [← this]
theorem cut_of_top : ∀ {xs : List Nat}, Top xs → cut xs = xs
  | [], _ => rfl
  | x :: r, h => by
    unfold cut
    rw [cut_of_top h.tail]
    split
    · rename_i hc
      obtain ⟨rfl, rfl⟩ := hc
      simp [Top] at h
    · rfl
theorem cut_snoc_zero : ∀ xs : List Nat, cut (xs ++ [0]) = cut xs
  | [] => by simp [cut]
  | x :: r => by
    show cut (x :: (r ++ [0])) = _
    unfold cut
    rw [cut_snoc_zero r]
theorem top_of_last {xs : List Nat} (h : xs = [] ∨ xs.getD (xs.length - 1) 0 ≠ 0) : Top xs := by
  rcases List.eq_nil_or_concat xs with rfl | ⟨r, x, rfl⟩
  · exact Top.nil
  · rw [List.concat_eq_append] at h ⊢
    rcases h with h | h
    · simp at h
    · refine Top.snoc ?_
      simpa [List.getD_eq_getElem?_getD] using h
theorem take_succ {xs : List Nat} {k : Nat} (h : k < xs.length) : xs.take (k + 1) = xs.take k ++ [xs.getD k 0] := by
  rw [List.take_succ_eq_append_getElem h, List.getD_eq_getElem?_getD, List.getElem?_eq_getElem h]
  rfl
theorem drop_at {xs : List Nat} {k : Nat} (h : k < xs.length) : xs.drop k = xs.getD k 0 :: xs.drop (k + 1) := by
  rw [List.drop_eq_getElem_cons h, List.getD_eq_getElem?_getD, List.getElem?_eq_getElem h]
  rfl
theorem val_take_succ (B : Nat) {xs : List Nat} {k : Nat} (h : k < xs.length) : val B (xs.take (k + 1)) = val B (xs.take k) + B ^ k * xs.getD k 0 := by
  rw [take_succ h, val_snoc, List.length_take, Nat.min_eq_left (by omega)]
theorem getD_past {xs : List Nat} {k : Nat} (h : xs.length ≤ k) : xs.getD k 0 = 0 := by
  rw [List.getD_eq_getElem?_getD, List.getElem?_eq_none h]; rfl
/-- Whether there is such a digit or not. -/
theorem val_take_any (B : Nat) (xs : List Nat) (k : Nat) : val B (xs.take (k + 1)) = val B (xs.take k) + B ^ k * xs.getD k 0 := by
  by_cases h : k < xs.length
  · exact val_take_succ B h
  · rw [getD_past (by omega), List.take_of_length_le (by omega), List.take_of_length_le (by omega), Nat.mul_zero, Nat.add_zero]
theorem val_drop (B : Nat) {xs : List Nat} {k : Nat} (h : k < xs.length) : val B (xs.drop k) = xs.getD k 0 + B * val B (xs.drop (k + 1)) := by
  rw [drop_at h, val_cons]
/-- The greater number has as many digits, or more. -/
theorem len_le {B : Nat} (hB : 1 < B) {xs ys : List Nat} (hx : Low B xs) (hy : Top ys) (h : val B ys ≤ val B xs) : ys.length ≤ xs.length := by
  rcases Nat.lt_or_ge xs.length ys.length with hlt | hge
  · exfalso
    have hne : ys ≠ [] := by intro e; subst e; simp at hlt
    have h1 := val_lt hx
    have h2 := val_ge (B := B) hy hne
    have h3 : B ^ xs.length ≤ B ^ (ys.length - 1) := Nat.pow_le_pow_right (by omega) (by omega)
    exact absurd (Nat.le_trans h3 (Nat.le_trans h2 h)) (Nat.not_le_of_lt h1)
  · exact hge
end Dg
end Go.Proofs.YtdfahmppbfjbhaaDoor
namespace Go.Proofs.YtdfahmppbfjbhaaDoor
namespace Dg
theorem set_take {L : List Nat} {k v : Nat} (h : k < L.length) : (L.set k v).take (k + 1) = L.take k ++ [v] := by
  have hl : k < (L.set k v).length := by rw [List.length_set]; exact h
  rw [take_succ hl, List.take_set_of_le (Nat.le_refl k)]
  simp [List.getD_eq_getElem?_getD, h]
theorem val_set_take (B : Nat) {L : List Nat} {k v : Nat} (h : k < L.length) : val B ((L.set k v).take (k + 1)) = val B (L.take k) + B ^ k * v := by
  rw [set_take h, val_snoc, List.length_take, Nat.min_eq_left (by omega)]
theorem add_round {B : Nat} {xs ys L : List Nat} {k cy t : Nat} (hk : k < L.length) (hv : val B (L.take k) + B ^ k * cy = val B (xs.take k) + val B (ys.take k)) (ht : t = xs.getD k 0 + ys.getD k 0 + cy) :
    val B ((L.set k (t % B)).take (k + 1)) + B ^ (k + 1) * (t / B) = val B (xs.take (k + 1)) + val B (ys.take (k + 1)) := by
  rw [val_set_take B hk, val_take_any, val_take_any, Nat.pow_succ, Nat.mul_assoc, Nat.add_assoc, ← Nat.mul_add]
  have e : t % B + B * (t / B) = t := Nat.mod_add_div t B
  rw [e, ht, Nat.mul_add, Nat.mul_add]
  omega
theorem add_end {B : Nat} {xs ys L : List Nat} {N cy : Nat} (hB : 1 < B) (lx : Low B xs) (ly : Low B ys) (hx : xs.length < N) (hy : ys.length < N) (hl : L.length = N)
    (hv : val B (L.take N) + B ^ N * cy = val B (xs.take N) + val B (ys.take N)) : val B L = val B xs + val B ys := by
  rw [List.take_of_length_le (by omega), List.take_of_length_le (by omega), List.take_of_length_le (by omega)] at hv
  have h1 := val_lt lx
  have h2 := val_lt ly
  have h3 : B ^ xs.length ≤ B ^ (N - 1) := Nat.pow_le_pow_right (by omega) (by omega)
  have h4 : B ^ ys.length ≤ B ^ (N - 1) := Nat.pow_le_pow_right (by omega) (by omega)
  have h5 : B ^ N = B ^ (N - 1) * B := by rw [← Nat.pow_succ]; congr 1; omega
  have h6 : B ^ (N - 1) * 2 ≤ B ^ N := by rw [h5]; exact Nat.mul_le_mul_left _ hB
  rcases Nat.eq_zero_or_pos cy with h0 | h0
  · rw [h0, Nat.mul_zero, Nat.add_zero] at hv
    exact hv
  · exfalso
    have : B ^ N * 1 ≤ B ^ N * cy := Nat.mul_le_mul_left _ h0
    omega
theorem sub_round {B : Nat} {xs ys L : List Nat} {k bw bw' d : Nat} (hk : k < L.length) (hv : val B (L.take k) + val B (ys.take k) = val B (xs.take k) + B ^ k * bw) (hd : d + ys.getD k 0 + bw = xs.getD k 0 + B * bw') :
    val B ((L.set k d).take (k + 1)) + val B (ys.take (k + 1)) = val B (xs.take (k + 1)) + B ^ (k + 1) * bw' := by
  rw [val_set_take B hk, val_take_any, val_take_any, Nat.pow_succ, Nat.mul_assoc]
  have e : B ^ k * d + B ^ k * ys.getD k 0 + B ^ k * bw = B ^ k * xs.getD k 0 + B ^ k * (B * bw') := by
    rw [← Nat.mul_add, ← Nat.mul_add, ← Nat.mul_add, hd]
  omega
theorem sub_word {x y b : Nat} (hx : x < 4294967296) (hy : y < 4294967296) (hb : b ≤ 1) : (x + 8589934592 - y - b) % 4294967296 + y + b = x + 4294967296 * (if x < y + b then 1 else 0) := by
  by_cases h : x < y + b
  · rw [if_pos h]; omega
  · rw [if_neg h]; omega
theorem sub_end {B : Nat} {xs ys L : List Nat} {bw : Nat} (ll : Low B L) (hl : L.length = xs.length) (hy : ys.length ≤ xs.length) (hle : val B ys ≤ val B xs)
    (hv : val B (L.take xs.length) + val B (ys.take xs.length) = val B (xs.take xs.length) + B ^ xs.length * bw) : val B L + val B ys = val B xs := by
  rw [List.take_of_length_le (by omega), List.take_of_length_le (by omega), List.take_of_length_le (by omega)] at hv
  have h1 := val_lt ll
  rw [hl] at h1
  rcases Nat.eq_zero_or_pos bw with h0 | h0
  · rw [h0, Nat.mul_zero, Nat.add_zero] at hv
    exact hv
  · exfalso
    have : B ^ xs.length * 1 ≤ B ^ xs.length * bw := Nat.mul_le_mul_left _ h0
    omega
theorem val_zeros (B : Nat) : ∀ n : Nat, val B (List.replicate n 0) = 0
  | 0 => rfl
  | n + 1 => by rw [List.replicate_succ, val_cons, val_zeros B n]; simp
theorem getD_set_ne {P : List Nat} {a k v : Nat} (h : a ≠ k) : (P.set a v).getD k 0 = P.getD k 0 := by
  rw [List.getD_eq_getElem?_getD, List.getD_eq_getElem?_getD, List.getElem?_set_ne h]
theorem low_zeros (B n : Nat) (hB : 0 < B) : Low B (List.replicate n 0) := fun x hx => by rw [List.eq_of_mem_replicate hx]; exact hB
theorem split_at (B : Nat) {xs : List Nat} {i : Nat} (h : i < xs.length) : val B xs = val B (xs.take i) + B ^ i * (xs.getD i 0 + B * val B (xs.drop (i + 1))) := by
  have e := val_append B (xs.take i) (xs.drop i)
  rw [List.take_append_drop, List.length_take, Nat.min_eq_left (by omega), val_drop B h] at e
  exact e
theorem cmp_at {B : Nat} {xs ys : List Nat} {i : Nat} (lx : Low B xs) (hl : xs.length = ys.length) (hi : i < xs.length) (he : ∀ j, i < j → j < xs.length → xs.getD j 0 = ys.getD j 0) (h : xs.getD i 0 < ys.getD i 0) : val B xs < val B ys := by
  have hd : xs.drop (i + 1) = ys.drop (i + 1) := by
    refine List.ext_getElem (by simp [hl]) fun k h1 h2 => ?_
    have h3 : i + 1 + k < xs.length := by simp at h1; omega
    have := he (i + 1 + k) (by omega) h3
    rw [List.getElem_drop, List.getElem_drop]
    rwa [List.getD_eq_getElem?_getD, List.getD_eq_getElem?_getD, List.getElem?_eq_getElem h3, List.getElem?_eq_getElem (by omega), Option.getD_some, Option.getD_some] at this
  rw [split_at B hi, split_at B (xs := ys) (i := i) (by omega), hd]
  have h1 := val_lt (lx.take i)
  rw [List.length_take, Nat.min_eq_left (by omega)] at h1
  have h2 : B ^ i * (xs.getD i 0 + B * val B (ys.drop (i + 1)) + 1) ≤ B ^ i * (ys.getD i 0 + B * val B (ys.drop (i + 1))) := Nat.mul_le_mul_left _ (by omega)
  rw [Nat.mul_add, Nat.mul_one] at h2
  omega
theorem cmp_len {B : Nat} {xs ys : List Nat} (hB : 1 < B) (lx : Low B xs) (ty : Top ys) (h : xs.length < ys.length) : val B xs < val B ys := by
  rcases Nat.lt_or_ge (val B xs) (val B ys) with h1 | h1
  · exact h1
  · have := len_le hB lx ty h1
    omega
theorem eq_of_all {xs ys : List Nat} (hl : xs.length = ys.length) (h : ∀ j, j < xs.length → xs.getD j 0 = ys.getD j 0) : xs = ys := by
  refine List.ext_getElem hl fun i h1 h2 => ?_
  have := h i h1
  rwa [List.getD_eq_getElem?_getD, List.getD_eq_getElem?_getD, List.getElem?_eq_getElem h1, List.getElem?_eq_getElem h2] at this
theorem mul_round {B : Nat} {P P0 ys : List Nat} {i j w c t v : Nat} (hk : i + j < P.length) (hv : val B (P.take (i + j)) + B ^ (i + j) * c = val B (P0.take (i + j)) + B ^ i * (w * val B (ys.take j))) (hy : v = ys.getD j 0) (ht : t = c + (w * v + P0.getD (i + j) 0)) :
    val B ((P.set (i + j) (t % B)).take (i + (j + 1))) + B ^ (i + (j + 1)) * (t / B) = val B (P0.take (i + (j + 1))) + B ^ i * (w * val B (ys.take (j + 1))) := by
  rw [← Nat.add_assoc, val_set_take B hk, val_take_any B P0, val_take_any B ys, Nat.pow_succ, Nat.mul_assoc, Nat.add_assoc, ← Nat.mul_add]
  have e : t % B + B * (t / B) = t := Nat.mod_add_div t B
  rw [e, ht, ← hy, Nat.mul_add, Nat.mul_add, Nat.mul_add, Nat.mul_add]
  have e2 : B ^ i * (w * (B ^ j * v)) = B ^ (i + j) * (w * v) := by
    rw [Nat.pow_add, Nat.mul_assoc]
    congr 1
    rw [← Nat.mul_assoc, Nat.mul_comm w, Nat.mul_assoc]
  omega
theorem mul_carry {w v c p : Nat} (hw : w < 4294967296) (hv : v < 4294967296) (hc : c < 4294967296) (hp : p < 4294967296) : c + (w * v + p) < 18446744073709551616 := by
  have : w * v ≤ 4294967295 * 4294967295 := Nat.mul_le_mul (by omega) (by omega)
  omega
theorem mul_next {B : Nat} {P P0 xs ys : List Nat} {i w c : Nat} (hk : i + ys.length < P.length) (hw : w = xs.getD i 0) (h0 : val B (P0.take (i + ys.length)) = val B (xs.take i) * val B ys) (hv : val B (P.take (i + ys.length)) + B ^ (i + ys.length) * c = val B (P0.take (i + ys.length)) + B ^ i * (w * val B (ys.take ys.length))) :
    val B ((P.set (i + ys.length) c).take (i + 1 + ys.length)) = val B (xs.take (i + 1)) * val B ys := by
  rw [show i + 1 + ys.length = i + ys.length + 1 by omega, val_set_take B hk, hv, h0, List.take_length, val_take_any B xs, ← hw, Nat.add_mul, Nat.mul_assoc]
end Dg
end Go.Proofs.YtdfahmppbfjbhaaDoor
namespace Go.Proofs.YtdfahmppbfjbhaaDoor
open Go.RowKit
theorem ret_ib {k : IntKind} {a b : Int} {p q : Bool} (h : a = b) (h2 : p = q) : Ending.returned (.tuple #[.int k a, .bool p]) = .returned (.tuple #[.int k b, .bool q]) := by rw [h, h2]
theorem ret_iv {k : IntKind} {a b : Int} {p q : Value} (h : a = b) (h2 : p = q) : Ending.returned (.tuple #[.int k a, p]) = .returned (.tuple #[.int k b, q]) := by rw [h, h2]
theorem ret_ii {k l : IntKind} {a b c d : Int} (h : a = b) (h2 : c = d) : Ending.returned (.tuple #[.int k a, .int l c]) = .returned (.tuple #[.int k b, .int l d]) := by rw [h, h2]
end Go.Proofs.YtdfahmppbfjbhaaDoor
namespace Go.Proofs.YtdfahmppbfjbhaaDoor
open Go.RowKit

/-- Outside of the slots 'D' nothing has changed. -/
structure SameBut (D : List Tmp) (a0 a : Act) : Prop where
  defers : a.defers = a0.defers
  size : a.tmps.size = a0.tmps.size
  rest : ∀ t, t ∉ D → a.tmps[t]? = a0.tmps[t]?
def dstOf (ops : Array Oper) (i : Nat) : Tmp := ((ops[i]?).bind (·.dst)).getD 0
/-- What the operation 'i' has given. -/
def slotOf (D : List Tmp) (i : Nat) (a : Act) : Value := a.eval (.tmp (D.getD i 0))
def isBool (v : Value) (b : Bool) : Bool := match v with
  | .bool c => c == b
  | _ => false
/-- Is the operation run at all? -/
def wantedD (D : List Tmp) (o : Oper) (a : Act) : Bool := match o.guard with
  | none => true
  | some (g, b) => isBool (slotOf D g a) b
/-- The facts of what stands ahead. -/
def Ahead (D : List Tmp) (φ : Nat → Value → World → Prop) (a : Act) (w : World) : List Edge → Prop
  | [] => True
  | e :: r => (Region.binds .any e = true → φ e.on (slotOf D e.on a) w) ∧ Ahead D φ a w r
theorem ahead_of {D : List Tmp} {φ : Nat → Value → World → Prop} {a : Act} {w : World} : ∀ (l : List Edge), (∀ e ∈ l, Region.binds .any e = true → φ e.on (slotOf D e.on a) w) → Ahead D φ a w l
  | [], _ => trivial
  | e :: r, h => ⟨h e (by simp), ahead_of r (fun x hx => h x (by simp [hx]))⟩
/-- The head of a block that is new since 'w'. -/
def IsNew (v : Value) (w w' : World) : Prop := ∃ g, v = .pointer (some ⟨g, 0, none⟩) ∧ w.heap.size ≤ g ∧ g < w'.heap.size
/-- One operation's end: its slot is written, the world has only grown, and the fact holds. -/
def Gives (F : Value → World → Prop) (al : Bool) (dst : Option Tmp) (a : Act) (w : World) (a' : Act) (w' : World) : Prop := ∃ v, a' = a.put dst v ∧ Grew w w' ∧ F v w' ∧ (al = true → IsNew v w w')
theorem Gives.of {F : Value → World → Prop} {d : Tmp} {a : Act} {w w' : World} {v : Value} (hg : Grew w w') (h : F v w') : Gives F false (some d) a w { tmps := a.tmps.setIfInBounds d v, defers := a.defers } w' := ⟨v, rfl, hg, h, fun h => by cases h⟩
theorem Gives.of' {F : Value → World → Prop} {al : Bool} {d : Tmp} {a : Act} {w w' : World} {v : Value} (hal : al = false) (hg : Grew w w') (h : F v w') : Gives F al (some d) a w { tmps := a.tmps.setIfInBounds d v, defers := a.defers } w' := ⟨v, rfl, hg, h, fun h => by rw [hal] at h; cases h⟩
theorem Gives.al {F : Value → World → Prop} {al : Bool} {d : Tmp} {a : Act} {w w' : World} {g : Nat} (hg : Grew w w') (h1 : w.heap.size ≤ g) (h2 : g < w'.heap.size) (h : F (.pointer (some ⟨g, 0, none⟩)) w') : Gives F al (some d) a w { tmps := a.tmps.setIfInBounds d (.pointer (some ⟨g, 0, none⟩)), defers := a.defers } w' := ⟨_, rfl, hg, h, fun _ => ⟨g, rfl, h1, h2⟩⟩
theorem SameBut.eval {D : List Tmp} {a0 a : Act} (h : SameBut D a0 a) (t : Tmp) (ht : D.contains t = false) {v : Value} (hv : a0.eval (.tmp t) = v) : a.eval (.tmp t) = v := by
  rw [← hv]
  have := h.rest t (by simpa using ht)
  simp only [Act.eval, Array.getD_eq_getD_getElem?, this]
def StepOk (P : Program) (Q : Exit → Act → World → Prop) (D : List Tmp) (Al : List Nat) (φ : Nat → Value → World → Prop) (a0 : Act) (w0 : World) (i : Nat) (o : Oper) : Prop :=
  ∀ a w, Grew w0 w → SameBut D a0 a → Ahead D φ a w o.after.toList →
    if wantedD D o a = true then o.wp P a w (Gives (φ i) (Al.contains i) o.dst a w) Q else φ i undef w ∧ Al.contains i = false
/-- Does 'i' wait for 'j', at first or at last? -/
def reachB (ops : Array Oper) : Nat → Nat → Nat → Bool
  | 0, _, _ => false
  | f + 1, i, j => ((ops[i]?).map fun o => o.after.toList.any fun e => Region.binds .any e && (decide (e.on = j) || reachB ops f e.on j)).getD false
/-- Whoever is listed has those listed for whom he waits. -/
def Closed (ops : Array Oper) (listed : Array Bool) : Prop := ∀ j o, listed.getD j false = true → ops[j]? = some o → ∀ e ∈ o.after, Region.binds .any e = true → listed.getD e.on false = true
theorem Closed.reach {ops : Array Oper} {listed : Array Bool} (hc : Closed ops listed) : ∀ (f i j : Nat) (o : Oper), ops[i]? = some o → (∀ e ∈ o.after, Region.binds .any e = true → listed.getD e.on false = true) → reachB ops f i j = true → listed.getD j false = true
  | 0, _, _, _, _, _, h => by simp [reachB] at h
  | f + 1, i, j, o, ho, hd, h => by
    unfold reachB at h
    rw [ho] at h
    obtain ⟨e, he, h2⟩ := List.any_eq_true.1 h
    simp only [Bool.and_eq_true, Bool.or_eq_true, decide_eq_true_eq] at h2
    have hl := hd e (by simpa using he) h2.1
    rcases h2.2 with h3 | h3
    · rw [← h3]; exact hl
    · cases hoe : ops[e.on]? with
      | none =>
        cases f with
        | zero => simp [reachB] at h3
        | succ f => unfold reachB at h3; rw [hoe] at h3; simp at h3
      | some o2 => exact Closed.reach hc f e.on j o2 hoe (hc e.on o2 hl hoe) h3
/-- What is asked of the region's form: the first 'n' operations write slots of their own, wait for earlier ones alone, and all others wait for all of them and stand in one order. -/
def factsB (ops : Array Oper) (n N : Nat) (D : List Tmp) : Bool :=
  decide (n ≤ ops.size) &&
  ((List.range n).all fun i => ((ops[i]?).bind (·.dst)).isSome && decide (dstOf ops i < N) && decide (dstOf ops i = D.getD i 0) && (((ops[i]?).map fun o => (o.after.all fun e => !Region.binds .any e || decide (e.on < i)) && (o.guard.all fun g => decide (g.1 < n))).getD false)) && decide (D.length = n) &&
  ((List.range n).all fun i => (List.range n).all fun j => decide (i = j) || decide (dstOf ops i ≠ dstOf ops j)) &&
  ((List.range ops.size).all fun i => decide (i < n) || ((List.range n).all fun j => reachB ops 4 i j)) &&
  Region.seqB .any ops (ops.size - n) n ((List.range ops.size).map fun i => decide (i < n)).toArray
structure FactsOk (ops : Array Oper) (n N : Nat) (D : List Tmp) : Prop where
  le : n ≤ ops.size
  dst : ∀ i, i < n → ∃ o d, ops[i]? = some o ∧ o.dst = some d ∧ D.getD i 0 = d ∧ d < N ∧ d ∈ D
  guard : ∀ i o g, i < n → ops[i]? = some o → o.guard = some g → g.1 < n
  back : ∀ i o, i < n → ops[i]? = some o → ∀ e ∈ o.after, Region.binds .any e = true → e.on < i
  apart : ∀ i j, i < n → j < n → i ≠ j → D.getD i 0 ≠ D.getD j 0
  phase : ∀ i o, n ≤ i → ops[i]? = some o → ∀ j, j < n → reachB ops 4 i j = true
  seq : Region.seqB .any ops (ops.size - n) n ((List.range ops.size).map fun i => decide (i < n)).toArray = true
theorem factsB_ok {ops : Array Oper} {n N : Nat} {D : List Tmp} (h : factsB ops n N D = true) : FactsOk ops n N D := by
  unfold factsB at h
  simp only [Bool.and_eq_true, decide_eq_true_eq, List.all_eq_true, List.mem_range, Bool.or_eq_true] at h
  obtain ⟨⟨⟨⟨⟨h1, h2⟩, hl⟩, h3⟩, h4⟩, h5⟩ := h
  have h2' : ∀ i, i < n → ∃ o d, ops[i]? = some o ∧ o.dst = some d ∧ D.getD i 0 = d ∧ dstOf ops i = d ∧ d < N ∧ d ∈ D ∧ (∀ e ∈ o.after, Region.binds .any e = true → e.on < i) ∧ (∀ g, o.guard = some g → g.1 < n) := by
    intro i hi
    obtain ⟨⟨⟨a1, a2⟩, a3⟩, a4⟩ := h2 i hi
    obtain ⟨o, ho⟩ : ∃ o, ops[i]? = some o := ⟨_, Array.getElem?_eq_getElem (by omega)⟩
    rw [ho] at a1 a4
    obtain ⟨d, hd⟩ := Option.isSome_iff_exists.1 a1
    have hd' : o.dst = some d := hd
    have e : dstOf ops i = d := by simp [dstOf, ho, hd']
    have a4' : ((o.after.all fun e => !Region.binds .any e || decide (e.on < i)) && (o.guard.all fun g => decide (g.1 < n))) = true := a4
    rw [Bool.and_eq_true] at a4'
    refine ⟨o, d, ho, hd', by rw [← a3, e], e, by rw [← e]; exact a2, ?_, fun x hx hb => ?_, fun g hg => ?_⟩
    · rw [← e, a3]
      have : i < D.length := by omega
      rw [List.getD_eq_getElem?_getD, List.getElem?_eq_getElem this]
      exact List.getElem_mem this
    · have := (Array.all_eq_true_iff_forall_mem.1 a4'.1) x hx
      simpa [hb] using this
    · have := a4'.2
      rw [hg] at this
      simpa using this
  refine ⟨h1, fun i hi => ?_, fun i o g hi ho hg => ?_, fun i o hi ho e he hb => ?_, fun i j hi hj hne => ?_, fun i o hi ho j hj => ?_, h5⟩
  · obtain ⟨o, d, b1, b2, b3, _, b4, b5, _⟩ := h2' i hi
    exact ⟨o, d, b1, b2, b3, b4, b5⟩
  · obtain ⟨o', d, b1, _, _, _, _, _, _, b6⟩ := h2' i hi
    obtain rfl : o = o' := Option.some.inj (ho.symm.trans b1)
    exact b6 g hg
  · obtain ⟨o', d, b1, _, _, _, _, _, b6, _⟩ := h2' i hi
    obtain rfl : o = o' := Option.some.inj (ho.symm.trans b1)
    exact b6 e he hb
  · obtain ⟨_, _, _, _, c1, c2, _⟩ := h2' i hi
    obtain ⟨_, _, _, _, d1, d2, _⟩ := h2' j hj
    rw [c1, d1]
    rcases h3 i hi j hj with h | h
    · exact absurd h hne
    · rw [c2, d2] at h; exact h
  · have hs : i < ops.size := (Array.getElem?_eq_some_iff.1 ho).1
    rcases h4 i hs with h | h
    · omega
    · exact h j hj

/-- How many of the first 'n' are left. -/
def leftN (listed : Array Bool) : Nat → Nat
  | 0 => 0
  | n + 1 => leftN listed n + if listed.getD n true = false then 1 else 0
theorem leftN_set_ge {listed : Array Bool} {i : Nat} : ∀ (n : Nat), n ≤ i → leftN (listed.setIfInBounds i true) n = leftN listed n
  | 0, _ => rfl
  | n + 1, h => by
    unfold leftN
    rw [leftN_set_ge n (by omega), getD_set_ne true (by omega)]
theorem leftN_set {listed : Array Bool} {i : Nat} (hi : listed.getD i true = false) : ∀ (n : Nat), i < n → leftN listed n = leftN (listed.setIfInBounds i true) n + 1
  | 0, h => by omega
  | n + 1, h => by
    unfold leftN
    rcases Nat.lt_or_ge i n with hlt | hge
    · rw [leftN_set hi n hlt, getD_set_ne true (by omega)]; omega
    · obtain rfl : i = n := by omega
      rw [leftN_set_ge i (Nat.le_refl _), if_pos hi]
      have : (listed.setIfInBounds i true).getD i true = true := by
        rcases Nat.lt_or_ge i listed.size with h1 | h1
        · simp [h1]
        · simp [h1]
      rw [this]; simp
theorem leftN_zero {listed : Array Bool} : ∀ (n : Nat), leftN listed n = 0 → ∀ j, j < n → listed.getD j true = true
  | 0, _, j, h => by omega
  | n + 1, h, j, hj => by
    unfold leftN at h
    rcases Nat.lt_or_ge j n with hlt | hge
    · exact leftN_zero n (by omega) j hlt
    · obtain rfl : j = n := by omega
      cases hv : listed.getD j true
      · rw [if_pos hv] at h; omega
      · rfl
theorem leftN_least {listed : Array Bool} : ∀ (n : Nat), 0 < leftN listed n → ∃ i, i < n ∧ listed.getD i true = false ∧ ∀ j, j < i → listed.getD j true = true
  | 0, h => by simp [leftN] at h
  | n + 1, h => by
    rcases Nat.eq_zero_or_pos (leftN listed n) with h0 | h0
    · unfold leftN at h
      refine ⟨n, by omega, ?_, leftN_zero n h0⟩
      cases hv : listed.getD n true
      · rfl
      · rw [if_neg (by rw [hv]; decide)] at h; omega
    · obtain ⟨i, h1, h2, h3⟩ := leftN_least n h0
      exact ⟨i, by omega, h2, h3⟩
theorem leftN_none (m : Nat) : ∀ (n : Nat), n ≤ m → leftN (Array.replicate m false) n = n
  | 0, _ => rfl
  | n + 1, h => by
    unfold leftN
    rw [leftN_none m n (by omega), if_pos (by simp [show n < m by omega])]
theorem getD_flip {listed : Array Bool} {j : Nat} (hj : j < listed.size) : listed.getD j true = listed.getD j false := by
  simp [hj]

section
variable {P : Program} {ops : Array Oper} {Q : Exit → Act → World → Prop} {D : List Tmp} {Al : List Nat} {φ : Nat → Value → World → Prop} {a0 : Act} {w0 : World} {n : Nat}

structure FactsAt (ops : Array Oper) (D : List Tmp) (Al : List Nat) (φ : Nat → Value → World → Prop) (a0 : Act) (w0 : World) (n : Nat) (listed : Array Bool) (a : Act) (w : World) : Prop where
  grew : Grew w0 w
  same : SameBut D a0 a
  fact : ∀ i, i < n → listed.getD i false = true → φ i (slotOf D i a) w
  made : ∀ i, i < n → Al.contains i = true → listed.getD i false = true → IsNew (slotOf D i a) w0 w
  parted : ∀ i j, i < n → j < n → i ≠ j → Al.contains i = true → Al.contains j = true → listed.getD i false = true → listed.getD j false = true → slotOf D i a ≠ slotOf D j a

theorem FactsAt.step {listed : Array Bool} {a : Act} {w w' : World} {i : Nat} {v : Value} {d : Tmp} (hO : FactsOk ops n a0.tmps.size D) (hm : ∀ i v w w', φ i v w → Grew w w' → φ i v w')
    (h : FactsAt ops D Al φ a0 w0 n listed a w) (hi : i < n) (hd : D.getD i 0 = d) (hdN : d < a0.tmps.size) (hdD : d ∈ D) (hg : Grew w w') (hv : φ i v w') (hn : Al.contains i = true → IsNew v w w') : FactsAt ops D Al φ a0 w0 n (listed.setIfInBounds i true) (a.put (some d) v) w' := by
  have same_i : slotOf D i (a.put (some d) v) = v := by
    unfold slotOf Act.eval
    rw [hd]
    simp [Act.put, h.same.size, hdN]
  have same_j : ∀ j, j < n → i ≠ j → slotOf D j (a.put (some d) v) = slotOf D j a := fun j hj hij => by
    have hne : d ≠ D.getD j 0 := by rw [← hd]; exact hO.apart i j hi hj hij
    unfold slotOf Act.eval
    generalize D.getD j 0 = dj at *
    simp [Act.put, Array.getElem?_setIfInBounds_ne hne]
  have new_j : ∀ j, j < n → Al.contains j = true → listed.getD j false = true → IsNew (slotOf D j a) w0 w' := fun j hj hA hl => by
    obtain ⟨g, h1, h2, h3⟩ := h.made j hj hA hl
    exact ⟨g, h1, h2, Nat.lt_of_lt_of_le h3 hg.below.size⟩
  have apart_j : ∀ j, j < n → Al.contains i = true → Al.contains j = true → listed.getD j false = true → v ≠ slotOf D j a := fun j hj hA hB hl e => by
    obtain ⟨g, h1, h2, h3⟩ := h.made j hj hB hl
    obtain ⟨g', k1, k2, k3⟩ := hn hA
    rw [← e, k1] at h1
    simp only [Value.pointer.injEq, Option.some.injEq, Addr.mk.injEq] at h1
    omega
  refine ⟨h.grew.trans hg, ⟨h.same.defers, ?_, fun t ht => ?_⟩, fun j hj hl => ?_, fun j hj hA hl => ?_, fun j k hj hk hjk hA hB hl hl2 => ?_⟩
  · simp [Act.put, h.same.size]
  · have hne : d ≠ t := by rintro rfl; exact ht hdD
    simp only [Act.put]
    rw [Array.getElem?_setIfInBounds_ne hne]
    exact h.same.rest t ht
  · by_cases hij : i = j
    · subst hij
      rw [same_i]; exact hv
    · rw [same_j j hj hij]
      exact hm j _ _ _ (h.fact j hj (by rwa [getD_set_ne false hij] at hl)) hg
  · by_cases hij : i = j
    · subst hij
      rw [same_i]
      obtain ⟨g, k1, k2, k3⟩ := hn hA
      exact ⟨g, k1, Nat.le_trans h.grew.below.size k2, k3⟩
    · rw [same_j j hj hij]
      exact new_j j hj hA (by rwa [getD_set_ne false hij] at hl)
  · by_cases hij : i = j
    · subst hij
      rw [same_i, same_j k hk hjk]
      exact apart_j k hk hA hB (by rwa [getD_set_ne false hjk] at hl2)
    · rw [same_j j hj hij]
      by_cases hik : i = k
      · subst hik
        rw [same_i]
        exact fun e => apart_j j hj hB hA (by rwa [getD_set_ne false hij] at hl) e.symm
      · rw [same_j k hk hik]
        exact h.parted j k hj hk hjk hA hB (by rwa [getD_set_ne false hij] at hl) (by rwa [getD_set_ne false hik] at hl2)

theorem wpAny_facts (hO : FactsOk ops n a0.tmps.size D) (hm : ∀ i v w w', φ i v w → Grew w w' → φ i v w')
    (hstep : ∀ i o, i < n → ops[i]? = some o → StepOk P Q D Al φ a0 w0 i o)
    (hend : ∀ a w, Grew w0 w → SameBut D a0 a → (∀ i, i < n → φ i (slotOf D i a) w) → (∀ i, i < n → Al.contains i = true → IsNew (slotOf D i a) w0 w) → (∀ i j, i < n → j < n → i ≠ j → Al.contains i = true → Al.contains j = true → slotOf D i a ≠ slotOf D j a) → wpList P ops Q (ops.toList.drop n) a w) :
    ∀ (k : Nat) (listed : Array Bool) (a : Act) (w : World), listed.size = ops.size → (∀ j, n ≤ j → j < ops.size → listed.getD j true = false) → leftN listed n = k → Closed ops listed →
      FactsAt ops D Al φ a0 w0 n listed a w → wpAny P .any ops Q (k + (ops.size - n)) listed a w := by
  intro k
  induction k with
  | zero =>
    intro listed a w hs ht hk _ h
    have hall := leftN_zero n hk
    have e : listed = ((List.range ops.size).map fun i => decide (i < n)).toArray := by
      apply Array.ext (by simp [hs])
      intro j h1 h2
      rcases Nat.lt_or_ge j n with hlt | hge
      · have := hall j hlt
        simp [h1] at this
        simp [this, hlt]
      · have := ht j hge (by omega)
        simp [h1] at this
        simp [this]; omega
    have hl : (ops.toList.drop n).length = ops.size - n := by simp
    rw [Nat.zero_add, ← hl]
    refine wpAny_of_seq (ops.toList.drop n) n listed a w (fun j => by simp) ?_ ?_
    · rw [hl, e]; exact hO.seq
    · have hl : ∀ i, i < n → listed.getD i false = true := fun i hi => by
        rw [← getD_flip (by have := hO.le; omega)]
        exact hall i hi
      exact hend a w h.grew h.same (fun i hi => h.fact i hi (hl i hi)) (fun i hi hA => h.made i hi hA (hl i hi)) (fun i j hi hj hij hA hB => h.parted i j hi hj hij hA hB (hl i hi) (hl j hj))
  | succ k ih =>
    intro listed a w hs ht hk hcl h
    obtain ⟨i0, hi0, hl0, hless⟩ := leftN_least n (by omega : 0 < leftN listed n)
    have hfalse : listed.getD i0 false = false := by rw [← getD_flip (by have := hO.le; omega)]; exact hl0
    rw [Nat.succ_add]
    refine ⟨fun hr => ?_, fun i hi => ?_⟩
    · exfalso
      obtain ⟨o, d, ho, _⟩ := hO.dst i0 hi0
      have : i0 ∈ Region.ready .any ops listed := mem_ready.2 ⟨hl0, o, ho, fun e he hb => by
        have hlt := hO.back i0 o hi0 ho e he hb
        rw [← getD_flip (by have := hO.le; omega)]
        exact hless _ hlt⟩
      rw [hr] at this
      cases this
    · obtain ⟨hli, o, ho, hdep⟩ := mem_ready.1 hi
      have hin : i < n := by
        rcases Nat.lt_or_ge i n with h1 | h1
        · exact h1
        · exfalso
          have := hcl.reach 4 i i0 o ho hdep (hO.phase i o h1 ho i0 hi0)
          rw [hfalse] at this
          cases this
      obtain ⟨o', d, ho', hd, hdd, hdN, hdD⟩ := hO.dst i hin
      obtain rfl : o = o' := Option.some.inj (ho.symm.trans ho')
      have hA : Ahead D φ a w o.after.toList := ahead_of _ (fun e he hb => by
        have he' : e ∈ o.after := by simpa using he
        exact h.fact e.on (Nat.lt_trans (hO.back i o hin ho e he' hb) hin) (hdep e he' hb))
      have hst := hstep i o hin ho a w h.grew h.same hA
      have hs' : (listed.setIfInBounds i true).size = ops.size := by simpa using hs
      have ht' : ∀ j, n ≤ j → j < ops.size → (listed.setIfInBounds i true).getD j true = false := fun j h1 h2 => by
        rw [getD_set_ne true (by omega)]; exact ht j h1 h2
      have hcl' : Closed ops (listed.setIfInBounds i true) := fun j oj hj hoj e he hb => by
        by_cases hij : i = j
        · subst hij
          obtain rfl : o = oj := Option.some.inj (ho.symm.trans hoj)
          exact getD_set_true (hdep e he hb)
        · rw [getD_set_ne false hij] at hj
          exact getD_set_true (hcl j oj hj hoj e he hb)
      have hk' : leftN (listed.setIfInBounds i true) n = k := by
        have := leftN_set hli n hin
        omega
      have hwd : wantedD D o a = Region.wanted o (yielded ops a.tmps) := by
        unfold wantedD Region.wanted
        cases hgd : o.guard with
        | none => rfl
        | some g =>
          obtain ⟨g, b⟩ := g
          obtain ⟨og, dg, hog, hdg, hDg, hNg, _⟩ := hO.dst g (hO.guard i o _ hin ho hgd)
          have hsz : dg < a.tmps.size := by rw [h.same.size]; exact hNg
          simp only [yielded, hog, hdg, slotOf, Act.eval, hDg, Option.bind_some]
          rw [Array.getElem?_eq_getElem hsz]
          have : a.tmps.getD dg undef = a.tmps[dg] := by simp [hsz]
          rw [this]
          unfold isBool
          cases a.tmps[dg] <;> simp
      rw [hwd] at hst
      unfold wpOp
      simp only [ho]
      split
      · rename_i hw
        rw [if_pos hw] at hst
        refine .inl (Oper.wp_mono (fun a' w' h' => ?_) hst)
        obtain ⟨v, rfl, hg, hv, hn⟩ := h'
        rw [hd]
        exact ih _ _ _ hs' ht' hk' hcl' (h.step hO hm hin hdd hdN hdD hg hv hn)
      · rename_i hw
        rw [if_neg hw] at hst
        rw [hd]
        exact ih _ _ _ hs' ht' hk' hcl' (h.step hO hm hin hdd hdN hdD (Grew.refl _) hst.1 (fun h => by rw [hst.2] at h; cases h))

def StepAll (P : Program) (Q : Exit → Act → World → Prop) (D : List Tmp) (Al : List Nat) (φ : Nat → Value → World → Prop) (a0 : Act) (w0 : World) : Nat → List Oper → Prop
  | _, [] => True
  | k, o :: r => StepOk P Q D Al φ a0 w0 k o ∧ StepAll P Q D Al φ a0 w0 (k + 1) r
theorem StepAll.get : ∀ (l : List Oper) (k : Nat), StepAll P Q D Al φ a0 w0 k l → ∀ j o, l[j]? = some o → StepOk P Q D Al φ a0 w0 (k + j) o
  | [], _, _, j, o, h => by simp at h
  | x :: r, k, hs, 0, o, h => by
    obtain rfl : x = o := by simpa using h
    exact hs.1
  | x :: r, k, hs, j + 1, o, h => by
    have := StepAll.get r (k + 1) hs.2 j o (by simpa using h)
    rwa [show k + 1 + j = k + (j + 1) by omega] at this
/-- One walk for all orders. -/
theorem wp_region_facts {id : Nat} (w : World) (n : Nat) (D : List Tmp) (Al : List Nat) (φ : Nat → Value → World → Prop) (hf : P.follows .mixedOrders = true) (hB : factsB ops n a0.tmps.size D = true) (hg : Grew w0 w) (hm : ∀ i v w w', φ i v w → Grew w w' → φ i v w')
    (hstep : StepAll P Q D Al φ a0 w0 0 (ops.toList.take n))
    (hend : ∀ a w, Grew w0 w → SameBut D a0 a → (∀ i, i < n → φ i (slotOf D i a) w) → (∀ i, i < n → Al.contains i = true → IsNew (slotOf D i a) w0 w) → (∀ i j, i < n → j < n → i ≠ j → Al.contains i = true → Al.contains j = true → slotOf D i a ≠ slotOf D j a) → wpList P ops Q (ops.toList.drop n) a w) : (Code.region id ops true).wp P Q a0 w := by
  have hO := factsB_ok hB
  refine wp_region_any hf ?_
  have hstep' : ∀ i o, i < n → ops[i]? = some o → StepOk P Q D Al φ a0 w0 i o := fun i o hi ho => by
    have := StepAll.get _ 0 hstep i o (by rw [List.getElem?_take_of_lt hi]; simpa using ho)
    rwa [Nat.zero_add] at this
  have h := wpAny_facts hO hm hstep' hend n (Array.replicate ops.size false) a0 w.drew (by simp) (fun j _ h2 => by simp [h2]) (leftN_none _ _ hO.le) (fun j o hj ho => by
    simp [show j < ops.size from (Array.getElem?_eq_some_iff.1 ho).1] at hj) ⟨hg.drew, ⟨rfl, rfl, fun _ _ => rfl⟩, fun i hi hl => by
    simp [show i < ops.size by have := hO.le; omega] at hl, fun i hi _ hl => by
    simp [show i < ops.size by have := hO.le; omega] at hl, fun i j hi _ _ _ _ hl _ => by
    simp [show i < ops.size by have := hO.le; omega] at hl⟩
  have e : n + (ops.size - n) = ops.size := by have := hO.le; omega
  rw [e] at h
  exact h
end
/-- An act with slots put. -/
def putAll (f : Tmp → Value) (D : List Tmp) (b : Act) : Act := D.foldl (fun b d => b.put (some d) (f d)) b
theorem putAll_at (f : Tmp → Value) : ∀ (D : List Tmp) (b : Act), (putAll f D b).defers = b.defers ∧ (putAll f D b).tmps.size = b.tmps.size ∧
    ∀ t, (putAll f D b).tmps[t]? = if t ∈ D ∧ t < b.tmps.size then some (f t) else b.tmps[t]?
  | [], b => ⟨rfl, rfl, fun t => by simp [putAll]⟩
  | d :: D, b => by
    obtain ⟨h1, h2, h3⟩ := putAll_at f D (b.put (some d) (f d))
    have e : putAll f (d :: D) b = putAll f D (b.put (some d) (f d)) := rfl
    rw [e]
    refine ⟨h1, by rw [h2]; simp [Act.put], fun t => ?_⟩
    rw [h3]
    have hs : (b.put (some d) (f d)).tmps.size = b.tmps.size := by simp [Act.put]
    rw [hs]
    by_cases ht : t < b.tmps.size
    · by_cases hd : d = t
      · subst hd
        simp [Act.put, ht]
      · have : (b.put (some d) (f d)).tmps[t]? = b.tmps[t]? := by
          simp only [Act.put]
          rw [Array.getElem?_setIfInBounds_ne hd]
        rw [this]
        simp [ht, Ne.symm hd]
    · have h4 : b.tmps[t]? = none := Array.getElem?_eq_none (Nat.le_of_not_lt ht)
      have h5 : (b.put (some d) (f d)).tmps[t]? = none := Array.getElem?_eq_none (by rw [hs]; exact Nat.le_of_not_lt ht)
      rw [h4, h5]
      simp [ht]
theorem SameBut.eq {D : List Tmp} {a0 a : Act} (h : SameBut D a0 a) : a = putAll (fun d => a.tmps.getD d undef) D a0 := by
  obtain ⟨h1, h2, h3⟩ := putAll_at (fun d => a.tmps.getD d undef) D a0
  have e1 : a.tmps = (putAll (fun d => a.tmps.getD d undef) D a0).tmps := by
    apply Array.ext_getElem?
    intro t
    rw [h3 t]
    split
    · rename_i ht
      have : t < a.tmps.size := by rw [h.size]; exact ht.2
      simp [this]
    · rename_i ht
      by_cases hd : t ∈ D
      · have h4 : a0.tmps.size ≤ t := by
          rcases Nat.lt_or_ge t a0.tmps.size with h5 | h5
          · exact absurd ⟨hd, h5⟩ ht
          · exact h5
        rw [Array.getElem?_eq_none h4, Array.getElem?_eq_none (by rw [h.size]; exact h4)]
      · exact h.rest t hd
  have e2 : a.defers = (putAll (fun d => a.tmps.getD d undef) D a0).defers := h.defers.trans h1.symm
  generalize putAll (fun d => a.tmps.getD d undef) D a0 = b at *
  cases a; cases b
  simp only at e1 e2
  rw [e1, e2]
theorem SameBut.put {D : List Tmp} {a0 a : Act} (h : SameBut D a0 a) : ∃ f : Tmp → Value, a = putAll f D a0 ∧ ∀ t, a.eval (.tmp t) = f t := ⟨fun d => a.tmps.getD d undef, h.eq, fun _ => rfl⟩
end Go.Proofs.YtdfahmppbfjbhaaDoor
namespace Go.Proofs.YtdfahmppbfjbhaaDoor
open Go.RowKit

def factsB3 (ops : Array Oper) (dep n N : Nat) (D : List Tmp) : Bool :=
  decide (n ≤ ops.size) &&
  ((List.range n).all fun i => ((ops[i]?).bind (·.dst)).isSome && decide (dstOf ops i < N) && decide (dstOf ops i = D.getD i 0) && (((ops[i]?).map fun o => (o.after.all fun e => !Region.binds .any e || decide (e.on < i)) && (o.guard.all fun g => decide (g.1 < n))).getD false)) && decide (D.length = n) &&
  ((List.range n).all fun i => (List.range n).all fun j => decide (i = j) || decide (dstOf ops i ≠ dstOf ops j)) &&
  ((List.range ops.size).all fun i => decide (i < n) || ((List.range n).all fun j => reachB ops dep i j)) &&
  Region.seqB .any ops (ops.size - n) n ((List.range ops.size).map fun i => decide (i < n)).toArray
structure FactsOk3 (ops : Array Oper) (dep n N : Nat) (D : List Tmp) : Prop where
  le : n ≤ ops.size
  dst : ∀ i, i < n → ∃ o d, ops[i]? = some o ∧ o.dst = some d ∧ D.getD i 0 = d ∧ d < N ∧ d ∈ D
  guard : ∀ i o g, i < n → ops[i]? = some o → o.guard = some g → g.1 < n
  back : ∀ i o, i < n → ops[i]? = some o → ∀ e ∈ o.after, Region.binds .any e = true → e.on < i
  apart : ∀ i j, i < n → j < n → i ≠ j → D.getD i 0 ≠ D.getD j 0
  phase : ∀ i o, n ≤ i → ops[i]? = some o → ∀ j, j < n → reachB ops dep i j = true
  seq : Region.seqB .any ops (ops.size - n) n ((List.range ops.size).map fun i => decide (i < n)).toArray = true
theorem factsB3_ok {ops : Array Oper} {dep n N : Nat} {D : List Tmp} (h : factsB3 ops dep n N D = true) : FactsOk3 ops dep n N D := by
  unfold factsB3 at h
  simp only [Bool.and_eq_true, decide_eq_true_eq, List.all_eq_true, List.mem_range, Bool.or_eq_true] at h
  obtain ⟨⟨⟨⟨⟨h1, h2⟩, hl⟩, h3⟩, h4⟩, h5⟩ := h
  have h2' : ∀ i, i < n → ∃ o d, ops[i]? = some o ∧ o.dst = some d ∧ D.getD i 0 = d ∧ dstOf ops i = d ∧ d < N ∧ d ∈ D ∧ (∀ e ∈ o.after, Region.binds .any e = true → e.on < i) ∧ (∀ g, o.guard = some g → g.1 < n) := by
    intro i hi
    obtain ⟨⟨⟨a1, a2⟩, a3⟩, a4⟩ := h2 i hi
    obtain ⟨o, ho⟩ : ∃ o, ops[i]? = some o := ⟨_, Array.getElem?_eq_getElem (by omega)⟩
    rw [ho] at a1 a4
    obtain ⟨d, hd⟩ := Option.isSome_iff_exists.1 a1
    have hd' : o.dst = some d := hd
    have e : dstOf ops i = d := by simp [dstOf, ho, hd']
    have a4' : ((o.after.all fun e => !Region.binds .any e || decide (e.on < i)) && (o.guard.all fun g => decide (g.1 < n))) = true := a4
    rw [Bool.and_eq_true] at a4'
    refine ⟨o, d, ho, hd', by rw [← a3, e], e, by rw [← e]; exact a2, ?_, fun x hx hb => ?_, fun g hg => ?_⟩
    · rw [← e, a3]
      have : i < D.length := by omega
      rw [List.getD_eq_getElem?_getD, List.getElem?_eq_getElem this]
      exact List.getElem_mem this
    · have := (Array.all_eq_true_iff_forall_mem.1 a4'.1) x hx
      simpa [hb] using this
    · have := a4'.2
      rw [hg] at this
      simpa using this
  refine ⟨h1, fun i hi => ?_, fun i o g hi ho hg => ?_, fun i o hi ho e he hb => ?_, fun i j hi hj hne => ?_, fun i o hi ho j hj => ?_, h5⟩
  · obtain ⟨o, d, b1, b2, b3, _, b4, b5, _⟩ := h2' i hi
    exact ⟨o, d, b1, b2, b3, b4, b5⟩
  · obtain ⟨o', d, b1, _, _, _, _, _, _, b6⟩ := h2' i hi
    obtain rfl : o = o' := Option.some.inj (ho.symm.trans b1)
    exact b6 g hg
  · obtain ⟨o', d, b1, _, _, _, _, _, b6, _⟩ := h2' i hi
    obtain rfl : o = o' := Option.some.inj (ho.symm.trans b1)
    exact b6 e he hb
  · obtain ⟨_, _, _, _, c1, c2, _⟩ := h2' i hi
    obtain ⟨_, _, _, _, d1, d2, _⟩ := h2' j hj
    rw [c1, d1]
    rcases h3 i hi j hj with h | h
    · exact absurd h hne
    · rw [c2, d2] at h; exact h
  · have hs : i < ops.size := (Array.getElem?_eq_some_iff.1 ho).1
    rcases h4 i hs with h | h
    · omega
    · exact h j hj


/-- What a region may do to the world. -/
structure May (R : World → World → Prop) : Prop where
  refl : ∀ w, R w w
  trans : ∀ {a b c : World}, R a b → R b c → R a c
  drew : ∀ w : World, R w w.drew
  size : ∀ {a b : World}, R a b → a.heap.size ≤ b.heap.size
theorem May.grew : May Grew := ⟨Grew.refl, fun h k => h.trans k, fun w => (Grew.refl w).drew, fun h => h.below.size⟩
theorem May.kept (F : Nat → Prop) : May (Kept F) := ⟨Kept.refl F, fun h k => h.trans k, fun w => (Kept.refl F w).drew, fun h => h.size⟩

/-- One operation's end: its slot is written, the fact holds, and so does the invariant. -/
def Gives3 (R : World → World → Prop) (F : Value → World → Prop) (J : World → Prop) (al : Bool) (dst : Option Tmp) (a : Act) (w : World) (a' : Act) (w' : World) : Prop := ∃ v, a' = a.put dst v ∧ R w w' ∧ F v w' ∧ J w' ∧ (al = true → IsNew v w w')
theorem Gives3.of {R : World → World → Prop} {F : Value → World → Prop} {J : World → Prop} {al : Bool} {d : Tmp} {a : Act} {w w' : World} {v : Value} (hal : al = false) (hg : R w w') (h : F v w') (hJ : J w') : Gives3 R F J al (some d) a w { tmps := a.tmps.setIfInBounds d v, defers := a.defers } w' := ⟨v, rfl, hg, h, hJ, fun h => by rw [hal] at h; cases h⟩
theorem Gives3.al {R : World → World → Prop} {F : Value → World → Prop} {J : World → Prop} {al : Bool} {d : Tmp} {a : Act} {w w' : World} {g : Nat} (hg : R w w') (h1 : w.heap.size ≤ g) (h2 : g < w'.heap.size) (h : F (.pointer (some ⟨g, 0, none⟩)) w') (hJ : J w') : Gives3 R F J al (some d) a w { tmps := a.tmps.setIfInBounds d (.pointer (some ⟨g, 0, none⟩)), defers := a.defers } w' := ⟨_, rfl, hg, h, hJ, fun _ => ⟨g, rfl, h1, h2⟩⟩
def StepOk3 (P : Program) (Q : Exit → Act → World → Prop) (D : List Tmp) (Al : List Nat) (φ : Nat → Value → World → Prop) (R : World → World → Prop) (J : Bool → World → Prop) (m : Nat) (a0 : Act) (w0 : World) (i : Nat) (o : Oper) : Prop :=
  ∀ a w b, R w0 w → J b w → (i = m → b = false) → SameBut D a0 a → Ahead D φ a w o.after.toList →
    if wantedD D o a = true then o.wp P a w (Gives3 R (φ i) (J (b || decide (i = m))) (Al.contains i) o.dst a w) Q else φ i undef w ∧ J (b || decide (i = m)) w ∧ Al.contains i = false

section
variable {P : Program} {ops : Array Oper} {Q : Exit → Act → World → Prop} {D : List Tmp} {Al : List Nat} {φ : Nat → Value → World → Prop} {R : World → World → Prop} {J : Bool → World → Prop} {m : Nat} {a0 : Act} {w0 : World} {dep n : Nat}

structure FactsAt3 (ops : Array Oper) (D : List Tmp) (Al : List Nat) (φ : Nat → Value → World → Prop) (R : World → World → Prop) (J : Bool → World → Prop) (m : Nat) (a0 : Act) (w0 : World) (n : Nat) (listed : Array Bool) (a : Act) (w : World) : Prop where
  rel : R w0 w
  same : SameBut D a0 a
  fact : ∀ i, i < n → listed.getD i false = true → φ i (slotOf D i a) w
  inv : J (listed.getD m false) w
  made : ∀ i, i < n → Al.contains i = true → listed.getD i false = true → IsNew (slotOf D i a) w0 w
  parted : ∀ i j, i < n → j < n → i ≠ j → Al.contains i = true → Al.contains j = true → listed.getD i false = true → listed.getD j false = true → slotOf D i a ≠ slotOf D j a

theorem FactsAt3.step {listed : Array Bool} {a : Act} {w w' : World} {i : Nat} {v : Value} {d : Tmp} (hR : May R) (hO : FactsOk3 ops dep n a0.tmps.size D) (hm : ∀ i v w w', φ i v w → R w w' → φ i v w')
    (h : FactsAt3 ops D Al φ R J m a0 w0 n listed a w) (hi : i < n) (hsz : i < listed.size) (hd : D.getD i 0 = d) (hdN : d < a0.tmps.size) (hdD : d ∈ D) (hg : R w w') (hv : φ i v w') (hJ : J (listed.getD m false || decide (i = m)) w') (hn : Al.contains i = true → IsNew v w w') : FactsAt3 ops D Al φ R J m a0 w0 n (listed.setIfInBounds i true) (a.put (some d) v) w' := by
  have same_i : slotOf D i (a.put (some d) v) = v := by
    unfold slotOf Act.eval
    rw [hd]
    simp [Act.put, h.same.size, hdN]
  have same_j : ∀ j, j < n → i ≠ j → slotOf D j (a.put (some d) v) = slotOf D j a := fun j hj hij => by
    have hne : d ≠ D.getD j 0 := by rw [← hd]; exact hO.apart i j hi hj hij
    unfold slotOf Act.eval
    generalize D.getD j 0 = dj at *
    simp [Act.put, Array.getElem?_setIfInBounds_ne hne]
  have new_j : ∀ j, j < n → Al.contains j = true → listed.getD j false = true → IsNew (slotOf D j a) w0 w' := fun j hj hA hl => by
    obtain ⟨g, h1, h2, h3⟩ := h.made j hj hA hl
    exact ⟨g, h1, h2, Nat.lt_of_lt_of_le h3 (hR.size hg)⟩
  have apart_j : ∀ j, j < n → Al.contains i = true → Al.contains j = true → listed.getD j false = true → v ≠ slotOf D j a := fun j hj hA hB hl e => by
    obtain ⟨g, h1, h2, h3⟩ := h.made j hj hB hl
    obtain ⟨g', k1, k2, k3⟩ := hn hA
    rw [← e, k1] at h1
    simp only [Value.pointer.injEq, Option.some.injEq, Addr.mk.injEq] at h1
    omega
  refine ⟨hR.trans h.rel hg, ⟨h.same.defers, ?_, fun t ht => ?_⟩, fun j hj hl => ?_, ?_, fun j hj hA hl => ?_, fun j k hj hk hjk hA hB hl hl2 => ?_⟩
  · simp [Act.put, h.same.size]
  · have hne : d ≠ t := by rintro rfl; exact ht hdD
    simp only [Act.put]
    rw [Array.getElem?_setIfInBounds_ne hne]
    exact h.same.rest t ht
  · by_cases hij : i = j
    · subst hij
      rw [same_i]; exact hv
    · rw [same_j j hj hij]
      exact hm j _ _ _ (h.fact j hj (by rwa [getD_set_ne false hij] at hl)) hg
  · by_cases him : i = m
    · subst him
      have : (listed.setIfInBounds i true).getD i false = true := by simp [hsz]
      rw [this]
      simpa using hJ
    · rw [getD_set_ne false him]
      simpa [him] using hJ
  · by_cases hij : i = j
    · subst hij
      rw [same_i]
      obtain ⟨g, k1, k2, k3⟩ := hn hA
      exact ⟨g, k1, Nat.le_trans (hR.size h.rel) k2, k3⟩
    · rw [same_j j hj hij]
      exact new_j j hj hA (by rwa [getD_set_ne false hij] at hl)
  · by_cases hij : i = j
    · subst hij
      rw [same_i, same_j k hk hjk]
      exact apart_j k hk hA hB (by rwa [getD_set_ne false hjk] at hl2)
    · rw [same_j j hj hij]
      by_cases hik : i = k
      · subst hik
        rw [same_i]
        exact fun e => apart_j j hj hB hA (by rwa [getD_set_ne false hij] at hl) e.symm
      · rw [same_j k hk hik]
        exact h.parted j k hj hk hjk hA hB (by rwa [getD_set_ne false hij] at hl) (by rwa [getD_set_ne false hik] at hl2)

theorem wpAny_facts3 (hR : May R) (hO : FactsOk3 ops dep n a0.tmps.size D) (hm : ∀ i v w w', φ i v w → R w w' → φ i v w')
    (hstep : ∀ i o, i < n → ops[i]? = some o → StepOk3 P Q D Al φ R J m a0 w0 i o)
    (hend : ∀ a w, R w0 w → SameBut D a0 a → (∀ i, i < n → φ i (slotOf D i a) w) → J (decide (m < n)) w → (∀ i j, i < n → j < n → i ≠ j → Al.contains i = true → Al.contains j = true → slotOf D i a ≠ slotOf D j a) → wpList P ops Q (ops.toList.drop n) a w) :
    ∀ (k : Nat) (listed : Array Bool) (a : Act) (w : World), listed.size = ops.size → (∀ j, n ≤ j → j < ops.size → listed.getD j true = false) → leftN listed n = k → Closed ops listed →
      FactsAt3 ops D Al φ R J m a0 w0 n listed a w → wpAny P .any ops Q (k + (ops.size - n)) listed a w := by
  intro k
  induction k with
  | zero =>
    intro listed a w hs ht hk _ h
    have hall := leftN_zero n hk
    have e : listed = ((List.range ops.size).map fun i => decide (i < n)).toArray := by
      apply Array.ext (by simp [hs])
      intro j h1 h2
      rcases Nat.lt_or_ge j n with hlt | hge
      · have := hall j hlt
        simp [h1] at this
        simp [this, hlt]
      · have := ht j hge (by omega)
        simp [h1] at this
        simp [this]; omega
    have hl : (ops.toList.drop n).length = ops.size - n := by simp
    rw [Nat.zero_add, ← hl]
    refine wpAny_of_seq (ops.toList.drop n) n listed a w (fun j => by simp) ?_ ?_
    · rw [hl, e]; exact hO.seq
    · have hl : ∀ i, i < n → listed.getD i false = true := fun i hi => by
        rw [← getD_flip (by have := hO.le; omega)]
        exact hall i hi
      refine hend a w h.rel h.same (fun i hi => h.fact i hi (hl i hi)) ?_ (fun i j hi hj hij hA hB => h.parted i j hi hj hij hA hB (hl i hi) (hl j hj))
      have hJ := h.inv
      rcases Nat.lt_or_ge m n with hlt | hge
      · rw [hl m hlt] at hJ
        simpa [hlt] using hJ
      · have hf : listed.getD m false = false := by
          rcases Nat.lt_or_ge m ops.size with h1 | h1
          · rw [← getD_flip (by omega)]; exact ht m hge h1
          · simp [show ¬ m < listed.size by omega]
        rw [hf] at hJ
        simpa [Nat.not_lt.2 hge] using hJ
  | succ k ih =>
    intro listed a w hs ht hk hcl h
    obtain ⟨i0, hi0, hl0, hless⟩ := leftN_least n (by omega : 0 < leftN listed n)
    have hfalse : listed.getD i0 false = false := by rw [← getD_flip (by have := hO.le; omega)]; exact hl0
    rw [Nat.succ_add]
    refine ⟨fun hr => ?_, fun i hi => ?_⟩
    · exfalso
      obtain ⟨o, d, ho, _⟩ := hO.dst i0 hi0
      have : i0 ∈ Region.ready .any ops listed := mem_ready.2 ⟨hl0, o, ho, fun e he hb => by
        have hlt := hO.back i0 o hi0 ho e he hb
        rw [← getD_flip (by have := hO.le; omega)]
        exact hless _ hlt⟩
      rw [hr] at this
      cases this
    · obtain ⟨hli, o, ho, hdep⟩ := mem_ready.1 hi
      have hin : i < n := by
        rcases Nat.lt_or_ge i n with h1 | h1
        · exact h1
        · exfalso
          have := hcl.reach dep i i0 o ho hdep (hO.phase i o h1 ho i0 hi0)
          rw [hfalse] at this
          cases this
      obtain ⟨o', d, ho', hd, hdd, hdN, hdD⟩ := hO.dst i hin
      obtain rfl : o = o' := Option.some.inj (ho.symm.trans ho')
      have hA : Ahead D φ a w o.after.toList := ahead_of _ (fun e he hb => by
        have he' : e ∈ o.after := by simpa using he
        exact h.fact e.on (Nat.lt_trans (hO.back i o hin ho e he' hb) hin) (hdep e he' hb))
      have hisz : i < listed.size := by have := hO.le; omega
      have hst := hstep i o hin ho a w (listed.getD m false) h.rel h.inv (fun e => by
        subst e
        rw [← getD_flip hisz]; exact hli) h.same hA
      have hs' : (listed.setIfInBounds i true).size = ops.size := by simpa using hs
      have ht' : ∀ j, n ≤ j → j < ops.size → (listed.setIfInBounds i true).getD j true = false := fun j h1 h2 => by
        rw [getD_set_ne true (by omega)]; exact ht j h1 h2
      have hcl' : Closed ops (listed.setIfInBounds i true) := fun j oj hj hoj e he hb => by
        by_cases hij : i = j
        · subst hij
          obtain rfl : o = oj := Option.some.inj (ho.symm.trans hoj)
          exact getD_set_true (hdep e he hb)
        · rw [getD_set_ne false hij] at hj
          exact getD_set_true (hcl j oj hj hoj e he hb)
      have hk' : leftN (listed.setIfInBounds i true) n = k := by
        have := leftN_set hli n hin
        omega
      have hwd : wantedD D o a = Region.wanted o (yielded ops a.tmps) := by
        unfold wantedD Region.wanted
        cases hgd : o.guard with
        | none => rfl
        | some g =>
          obtain ⟨g, b⟩ := g
          obtain ⟨og, dg, hog, hdg, hDg, hNg, _⟩ := hO.dst g (hO.guard i o _ hin ho hgd)
          have hsz : dg < a.tmps.size := by rw [h.same.size]; exact hNg
          simp only [yielded, hog, hdg, slotOf, Act.eval, hDg, Option.bind_some]
          rw [Array.getElem?_eq_getElem hsz]
          have : a.tmps.getD dg undef = a.tmps[dg] := by simp [hsz]
          rw [this]
          unfold isBool
          cases a.tmps[dg] <;> simp
      rw [hwd] at hst
      unfold wpOp
      simp only [ho]
      split
      · rename_i hw
        rw [if_pos hw] at hst
        refine .inl (Oper.wp_mono (fun a' w' h' => ?_) hst)
        obtain ⟨v, rfl, hg, hv, hJ, hn⟩ := h'
        rw [hd]
        exact ih _ _ _ hs' ht' hk' hcl' (h.step hR hO hm hin hisz hdd hdN hdD hg hv hJ hn)
      · rename_i hw
        rw [if_neg hw] at hst
        rw [hd]
        exact ih _ _ _ hs' ht' hk' hcl' (h.step hR hO hm hin hisz hdd hdN hdD (hR.refl _) hst.1 hst.2.1 (fun h => by rw [hst.2.2] at h; cases h))

def StepAll3 (P : Program) (Q : Exit → Act → World → Prop) (D : List Tmp) (Al : List Nat) (φ : Nat → Value → World → Prop) (R : World → World → Prop) (J : Bool → World → Prop) (m : Nat) (a0 : Act) (w0 : World) : Nat → List Oper → Prop
  | _, [] => True
  | k, o :: r => StepOk3 P Q D Al φ R J m a0 w0 k o ∧ StepAll3 P Q D Al φ R J m a0 w0 (k + 1) r
theorem StepAll3.get : ∀ (l : List Oper) (k : Nat), StepAll3 P Q D Al φ R J m a0 w0 k l → ∀ j o, l[j]? = some o → StepOk3 P Q D Al φ R J m a0 w0 (k + j) o
  | [], _, _, j, o, h => by simp at h
  | x :: r, k, hs, 0, o, h => by
    obtain rfl : x = o := by simpa using h
    exact hs.1
  | x :: r, k, hs, j + 1, o, h => by
    have := StepAll3.get r (k + 1) hs.2 j o (by simpa using h)
    rwa [show k + 1 + j = k + (j + 1) by omega] at this
/-- One walk for all orders. 'dep': how many steps the form looks on to see that the last operations wait for all others. -/
theorem wp_region_facts3 {id : Nat} (w : World) (dep n : Nat) (D : List Tmp) (Al : List Nat) (φ : Nat → Value → World → Prop) (R : World → World → Prop) (J : Bool → World → Prop) (m : Nat) (hR : May R) (hf : P.follows .mixedOrders = true) (hB : factsB3 ops dep n a0.tmps.size D = true) (hg : R w0 w.drew) (hJ : J false w.drew) (hm : ∀ i v w w', φ i v w → R w w' → φ i v w')
    (hstep : StepAll3 P Q D Al φ R J m a0 w0 0 (ops.toList.take n))
    (hend : ∀ a w, R w0 w → SameBut D a0 a → (∀ i, i < n → φ i (slotOf D i a) w) → J (decide (m < n)) w → (∀ i j, i < n → j < n → i ≠ j → Al.contains i = true → Al.contains j = true → slotOf D i a ≠ slotOf D j a) → wpList P ops Q (ops.toList.drop n) a w) : (Code.region id ops true).wp P Q a0 w := by
  have hO := factsB3_ok hB
  refine wp_region_any hf ?_
  have hstep' : ∀ i o, i < n → ops[i]? = some o → StepOk3 P Q D Al φ R J m a0 w0 i o := fun i o hi ho => by
    have := StepAll3.get _ 0 hstep i o (by rw [List.getElem?_take_of_lt hi]; simpa using ho)
    rwa [Nat.zero_add] at this
  have h := wpAny_facts3 hR hO hm hstep' hend n (Array.replicate ops.size false) a0 w.drew (by simp) (fun j _ h2 => by simp [h2]) (leftN_none _ _ hO.le) (fun j o hj ho => by
    simp [show j < ops.size from (Array.getElem?_eq_some_iff.1 ho).1] at hj) ⟨hg, ⟨rfl, rfl, fun _ _ => rfl⟩, fun i hi hl => by
    simp [show i < ops.size by have := hO.le; omega] at hl, by
    have : (Array.replicate ops.size false).getD m false = false := by
      by_cases h : m < ops.size <;> simp [h]
    rw [this]; exact hJ, fun i hi _ hl => by
    simp [show i < ops.size by have := hO.le; omega] at hl, fun i j hi _ _ _ _ hl _ => by
    simp [show i < ops.size by have := hO.le; omega] at hl⟩
  have e : n + (ops.size - n) = ops.size := by have := hO.le; omega
  rw [e] at h
  exact h
end
end Go.Proofs.YtdfahmppbfjbhaaDoor

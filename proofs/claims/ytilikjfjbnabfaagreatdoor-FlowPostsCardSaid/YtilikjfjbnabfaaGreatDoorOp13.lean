/- Stage 7: the program's own Decode. -/
import Derived.Test.YtilikjfjbnabfaaGreatDoorOp12
import Derived.Test.YtilikjfjbnabfaaGreatDoorOpQ
namespace Go.Proofs.YtilikjfjbnabfaaGreatDoor
open Go.RowKit

theorem op_ins : (Tryz.prog.info? 51).map (fun i => (i.zero, i.size, i.bytes)) = some (some (.agg #[.int .u8 0, .int .i64 0, .int .i64 0]), 3, 24) := by kernel_rfl
theorem op_int : (Tryz.prog.info? 3).map (fun i => (i.zero, i.size, i.bytes)) = some (some (.int .i64 0), 1, 8) := by kernel_rfl
/-- The cells of instructions. -/
def insCells (l : List Op7.Ins) : List Value := l.flatMap fun o => (opCells o).toList
theorem insCells_snoc (l : List Op7.Ins) (o : Op7.Ins) : insCells (l ++ [o]) = insCells l ++ (opCells o).toList := by simp [insCells]
theorem insCells_len (l : List Op7.Ins) : (insCells l).length = l.length * 3 := by
  induction l with
  | nil => rfl
  | cons o l ih =>
    have : insCells (o :: l) = (opCells o).toList ++ insCells l := by simp [insCells]
    rw [this, List.length_append, ih, List.length_cons]
    simp [opCells]; omega
theorem insCells_at (l : List Op7.Ins) (i : Nat) (o : Op7.Ins) (h : l[i]? = some o) (j : Nat) (u : Value) (hu : (opCells o)[j]? = some u) : (insCells l)[i * 3 + j]? = some u := by
  induction l generalizing i with
  | nil => simp at h
  | cons p l ih =>
    have e : insCells (p :: l) = (opCells p).toList ++ insCells l := by simp [insCells]
    have e3 : ((opCells p).toList).length = 3 := by simp [opCells]
    rw [e]
    cases i with
    | zero =>
      obtain rfl : p = o := by simpa using h
      have hj : j < 3 := by
        have := (Array.getElem?_eq_some_iff.1 hu).1
        simpa [opCells] using this
      rw [Nat.zero_mul, Nat.zero_add, List.getElem?_append_left (by omega)]
      simpa using hu
    | succ i =>
      rw [List.getElem?_append_right (by omega), show (i + 1) * 3 + j - ((opCells p).toList).length = i * 3 + j by omega]
      exact ih i (by simpa using h)
/-- A row of instructions of the call's own; 'e': the elements' type. -/
def RowI (e : TypeId) (w : World) (B : Nat) (A : Option Addr) (c : Nat) (l : List Op7.Ins) : Prop := Row w B e 3 A l.length c (insCells l) ∧ ∀ o ∈ l, o.code < 256
theorem RowI.grew {e : TypeId} {w w' : World} {B : Nat} {A : Option Addr} {c : Nat} {l : List Op7.Ins} (h : RowI e w B A c l) (hg : Grew w w') : RowI e w' B A c l := ⟨h.1.grew hg, h.2⟩
theorem RowI.nil (e : TypeId) (w : World) (B : Nat) : RowI e w B none 0 [] := ⟨Row.nil _ _ _ _, by simp⟩
theorem RowI.ops {e : TypeId} {w : World} {B : Nat} {A : Option Addr} {c : Nat} {l : List Op7.Ins} (h : RowI e w B A c l) : OpsAt w w.heap.size A l := by
  refine ⟨h.2, fun hl => ?_⟩
  rcases h.1.cases with ⟨_, _, _, ⟨_, h0, _⟩ | ⟨g, rfl, _, hlt, hc, _⟩⟩
  · omega
  · refine ⟨_, rfl, hlt, fun i o ho j u hu => ?_⟩
    have := hc (i * 3 + j) u (insCells_at l i o ho j u hu)
    rw [show (⟨g, 0, none⟩ : Addr).add (i * 3 + j) = ⟨g, i * 3 + j, none⟩ by unfold Addr.add; split <;> simp_all]
    exact this
/-- A row of numbers of the call's own. -/
def RowN (w : World) (B : Nat) (A : Option Addr) (c : Nat) (xs : List Nat) : Prop := Row w B 3 1 A xs.length c (numCells .i64 xs)
theorem RowN.grew {w w' : World} {B : Nat} {A : Option Addr} {c : Nat} {xs : List Nat} (h : RowN w B A c xs) (hg : Grew w w') : RowN w' B A c xs := Row.grew h hg
theorem RowN.nil (w : World) (B : Nat) : RowN w B none 0 [] := Row.nil _ _ _ _
theorem RowN.nums {w : World} {B : Nat} {A : Option Addr} {c : Nat} {xs : List Nat} (h : RowN w B A c xs) : NumsAt .i64 w w.heap.size A xs := Row.nums h
theorem Row.at_base {w : World} {B : Nat} {e : TypeId} {s : Nat} {A : Option Addr} {n c : Nat} {vs : List Value} (h : Row w B e s A n c vs) : ∀ k, AtRow A k → B ≤ k := by
  rintro k ⟨ad, rfl, rfl⟩
  rcases h.cases with ⟨_, _, _, ⟨h1, _⟩ | ⟨g, h1, hb, _⟩⟩
  · cases h1
  · obtain rfl := Option.some.inj h1
    exact hb
theorem Row.at_lt {w : World} {B : Nat} {e : TypeId} {s : Nat} {A : Option Addr} {n c : Nat} {vs : List Value} (h : Row w B e s A n c vs) : ∀ k, AtRow A k → k < w.heap.size := by
  rintro k ⟨ad, rfl, rfl⟩
  rcases h.cases with ⟨_, _, _, ⟨h1, _⟩ | ⟨g, h1, hb, hl, _⟩⟩
  · cases h1
  · obtain rfl := Option.some.inj h1
    exact hl
/-- Two rows share no block. -/
def Apart (A A2 : Option Addr) : Prop := ∀ k, AtRow A k → ¬ AtRow A2 k
theorem Apart.symm {A A2 : Option Addr} (h : Apart A A2) : Apart A2 A := fun k h2 h1 => h k h1 h2
theorem Apart.to {w : World} {A A2 A' : Option Addr} (h : Apart A A2) (r : RowTo w A A') (hlt : ∀ k, AtRow A2 k → k < w.heap.size) : Apart A' A2 := by
  rcases r with rfl | ⟨g, rfl, hg⟩
  · exact h
  · rintro k ⟨ad, h1, rfl⟩ h2
    obtain rfl := Option.some.inj h1
    have := hlt _ h2
    simp only at this
    omega
theorem Apart.far {A A2 : Option Addr} (h : Apart A A2) : ∀ g, A2 = some ⟨g, 0, none⟩ → ¬ AtRow A g := fun g hg h1 => h g h1 ⟨_, hg, rfl⟩
/-- 'append(out, o)', o an instruction that lies in a block of its own. -/
theorem wpList_pushI {ops : Array Oper} {rest : List Oper} {o : Oper} {a : Act} {Q : Exit → Act → World → Prop} (t e : TypeId) (z : Value) (hz : z.cells.size = 3) (ht : Tryz.prog.underlying t = some (.slice e)) (he : (Tryz.prog.info? e).map (fun i => (i.zero, i.size, i.bytes)) = some (some z, 3, 24))
    (w : World) (hgd : o.guard = none) (s x : Operand)
    (ho : o.op = .call { callee := .builtin .append, args := #[s, x], argTypes := #[t, t] })
    (B : Nat) (hB : B ≤ w.heap.size) (A : Option Addr) (c : Nat) (l : List Op7.Ins) (hs : a.eval s = .slice A l.length c) (hown : RowI e w B A c l) (p : Op7.Ins) (hp : p.code < 256) (H : Nat) (hH : w.heap.size = H) (hxv : a.eval x = .slice (some ⟨H, 0, none⟩) 1 1) (cs : Array Value) (hu : cs = opCells p)
    (hlen : l.length + 1 ≤ 1000000000000)
    (h : ∀ A' c' M w', Hid (M = l ++ [p]) → RowI e w' B A' c' M → Kept (AtRow A) w w' → RowTo w A A' → wpList Tryz.prog ops Q rest (a.put o.dst (.slice A' M.length c')) w') : wpList Tryz.prog ops Q (o :: rest) a (w.alloc (.cells cs e)) := by
  subst hH hu
  refine wpList_catR z 3 24 (w.alloc (.cells (opCells p) e)) hgd s x t e ho ht he hz (by decide) B (by simp only [World.size_alloc]; omega) A l.length c (insCells l) hs (hown.1.grew ((Grew.refl w).alloc _)) _ 1 1 (opCells p).toList hxv (by simp [opCells]) (by simp [opCells, Value.oneCell']) (by intro h; cases h) (fun ad had j v hv => ?_) (by omega) (by omega) (fun A' c' w' r1 r2 r3 => ?_)
  · obtain rfl := Option.some.inj had
    rw [show (⟨w.heap.size, 0, none⟩ : Addr).add j = ⟨w.heap.size, j, none⟩ by unfold Addr.add; split <;> simp_all, (Blk.new w e (opCells p)).cell j]
    simpa using hv
  · have := h A' c' (l ++ [p]) w' rfl ⟨by rw [List.length_append, insCells_snoc]; exact r1, fun o ho => by
      rcases List.mem_append.1 ho with ho | ho
      · exact hown.2 o ho
      · rw [List.mem_singleton.1 ho]; exact hp⟩ r2.of_alloc (r3.imp id (fun ⟨g, h1, h2⟩ => ⟨g, h1, by simp only [World.size_alloc] at h2; omega⟩))
    rwa [List.length_append] at this
/-- 'append(out, n)'. -/
theorem wpList_pushN {ops : Array Oper} {rest : List Oper} {o : Oper} {a : Act} {Q : Exit → Act → World → Prop} (w : World) (hgd : o.guard = none) (s x : Operand)
    (ho : o.op = .call { callee := .builtin .append, args := #[s, x], argTypes := #[24, 24] })
    (B : Nat) (hB : B ≤ w.heap.size) (A : Option Addr) (c : Nat) (ys : List Nat) (n : Nat) (hn : n = ys.length) (hs : a.eval s = .slice A n c) (hown : RowN w B A c ys) (v H : Nat) (hH : w.heap.size = H) (hxv : a.eval x = .slice (some ⟨H, 0, none⟩) 1 1) (u : Value) (hu : u = .int .i64 ((v : Nat) : Int))
    (hlen : n + 1 ≤ 1000000000000)
    (h : ∀ A' c' w', RowN w' B A' c' (ys ++ [v]) → Kept (AtRow A) w w' → RowTo w A A' → wpList Tryz.prog ops Q rest (a.put o.dst (.slice A' (n + 1) c')) w') : wpList Tryz.prog ops Q (o :: rest) a (w.alloc (.cells #[u] 3)) := by
  subst hu hn
  refine wpList_pushR (.int .i64 0) 8 w hgd s x 24 3 ho Tryz.underlying24 op_int rfl B hB A ys.length c (numCells .i64 ys) hs hown H hH hxv _ rfl (by omega) (by omega) fun A' c' w' r1 r2 r3 => ?_
  exact h A' c' w' (by unfold RowN; rw [List.length_append, numCells_append]; exact r1) r2 r3
end Go.Proofs.YtilikjfjbnabfaaGreatDoor

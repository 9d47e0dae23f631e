/- Stage 11: acts; what Put left; what New's call gives. -/
import Derived.Test.YtcfknfiddadgbaaDoorHashes11
namespace Go.Proofs.YtcfknfiddadgbaaDoor
open Go.RowKit

/-- What is done: an act, as it lies in cells. -/
structure AV where
  put : Bool
  o : OV
  i : Int
  k : Int
  u : Int
  v : Ob.Val
def avF (x : AV) : List Value := [.bool x.put, .int .i64 x.o.o.cls, .int .i64 x.o.o.lev, .slice x.o.A x.o.o.f.length x.o.c, .string x.o.o.b, .int .i64 x.i, .int .i64 x.k, .int .i64 x.u, .int .u8 ((x.v.k : Nat) : Int), .int .i64 x.v.n, .int .i64 x.v.l]
structure AvOk (w : World) (x : AV) : Prop where
  o : OvOk w x.o
  i : N64 x.i
  k : N64 x.k
  u : N64 x.u
  v : ValOk x.v
theorem AvOk.grew {w w' : World} {x : AV} (h : AvOk w x) (hg : Grew w w') : AvOk w' x := ⟨h.o.grew hg, h.i, h.k, h.u, h.v⟩
/-- What Put left, field by field. -/
theorem put_field {up : List Nat} {l : List Ob.Obj} {i k under : Int} {v : Ob.Val} {a b : Nat} {o o' : Ob.Obj} {x y : Ob.Val} (h1 : l[a]? = some o) (h2 : (Ob.put up l i k under v)[a]? = some o') (h3 : o.f[b]? = some x) (h4 : o'.f[b]? = some y) :
    (Ob.putCode up l i k under v ≠ 0 ∨ (a : Int) ≠ i ∨ (b : Int) ≠ k) → y = x := by
  intro hq
  by_cases hc : Ob.putCode up l i k under v = 0
  · obtain ⟨_, _, a', b', _, _, rfl, rfl, _⟩ := Ob.code_zero hc
    rw [Ob.put_at hc, List.getElem?_modify, h1] at h2
    by_cases ha : a' = a
    · subst ha
      have hb : b' ≠ b := fun e => by
        subst e
        rcases hq with h | h | h
        · exact h hc
        · exact h rfl
        · exact h rfl
      have e2 : o' = Ob.setF o b' (Ob.putV up under v) := by simpa using h2.symm
      rw [e2, Ob.setF, List.getElem?_set_ne hb, h3] at h4
      exact (Option.some.inj h4).symm
    · have e2 : o' = o := by simpa [ha] using h2.symm
      rw [e2, h3] at h4
      exact (Option.some.inj h4).symm
  · rw [Ob.put_bad hc, h1] at h2
    obtain rfl := Option.some.inj h2
    rw [h3] at h4
    exact (Option.some.inj h4).symm
theorem put_head {up : List Nat} {l : List Ob.Obj} {i k under : Int} {v : Ob.Val} {a : Nat} {o o' : Ob.Obj} (h1 : l[a]? = some o) (h2 : (Ob.put up l i k under v)[a]? = some o') : o'.cls = o.cls ∧ o'.lev = o.lev ∧ o'.b = o.b ∧ o'.f.length = o.f.length := by
  by_cases hc : Ob.putCode up l i k under v = 0
  · obtain ⟨_, _, a', b', _, _, rfl, rfl, _⟩ := Ob.code_zero hc
    rw [Ob.put_at hc, List.getElem?_modify, h1] at h2
    by_cases ha : a' = a
    · have e2 : o' = Ob.setF o b' (Ob.putV up under v) := by simpa [ha] using h2.symm
      rw [e2]
      exact ⟨rfl, rfl, rfl, by simp [Ob.setF]⟩
    · have e2 : o' = o := by simpa [ha] using h2.symm
      rw [e2]
      exact ⟨rfl, rfl, rfl, rfl⟩
  · rw [Ob.put_bad hc, h1] at h2
    obtain rfl := Option.some.inj h2
    exact ⟨rfl, rfl, rfl, rfl⟩
/-- What was put, and at what level. -/
theorem put_there {up : List Nat} (h256 : ∀ x ∈ up, x < 256) (hv : La.valid up = true) {l : List Ob.Obj} {a b : Nat} {under : Int} {v x y : Ob.Val} {o o' : Ob.Obj} (h1 : l[a]? = some o) (h2 : (Ob.put up l (a : Int) (b : Int) under v)[a]? = some o') (h3 : o.f[b]? = some x) (h4 : o'.f[b]? = some y) (hc : Ob.putCode up l (a : Int) (b : Int) under v = 0) :
    y.k = v.k ∧ y.n = v.n ∧ La.leq up under y.l = true ∧ La.leq up v.l y.l = true ∧ La.leq up under x.l = true := by
  obtain ⟨hvl, hun, a', b', o2, x2, ea, eb, ho2, hx2, hr⟩ := Ob.code_zero hc
  obtain rfl : a = a' := by omega
  obtain rfl : b = b' := by omega
  rw [h1] at ho2
  obtain rfl := Option.some.inj ho2
  rw [h3] at hx2
  obtain rfl := Option.some.inj hx2
  rw [Ob.put_at hc, List.getElem?_modify, h1] at h2
  have e2 : o' = Ob.setF o b (Ob.putV up under v) := by simpa using h2.symm
  have hb := (List.getElem?_eq_some_iff.1 h3).1
  rw [e2, Ob.setF, List.getElem?_set_self hb] at h4
  obtain rfl := Option.some.inj h4
  have hvl2 : La.isLevel up v.l = true := by
    simp only [Ob.valueB, Bool.and_eq_true] at hvl
    exact hvl.1
  have hj := La.joinOf_level h256 hv hvl2 (show La.isLevel up under = true from hun)
  exact ⟨rfl, rfl, hj.2.2, hj.2.1, by rw [La.leq_rleq hv]; exact hr⟩
theorem StoreAt.base {w : World} {B B' : Nat} {s : SV} (h : StoreAt w B s) (hB : B' ≤ B) : StoreAt w B' s :=
  ⟨h.blk, Nat.le_trans hB h.low, h.up, h.upNe, h.valid, h.row.low hB, h.rowNe, fun x hx => ⟨Nat.le_trans hB (h.fb x hx).1, (h.fb x hx).2⟩, h.dis, h.hs, h.ok, h.len⟩
theorem err_neq (k : Nat) (w : World) : (binOp .neq 30 (errVal k) .nilIface).run Tryd.prog w = .ok (.bool (decide (k ≠ 0))) w := by
  unfold errVal
  by_cases h : k = 0
  · rw [if_pos h, decide_eq_false (by simpa using h)]
    go_simp
  · rw [if_neg h, decide_eq_true h]
    go_simp
theorem err_guard (k : Nat) (i : Tmp) (w : World) : (eqGuard .neq 30 (.tmp i) (.const .nilIface) (errVal k) .nilIface).run Tryd.prog w = .ok () w := by
  unfold errVal
  by_cases h : k = 0
  · rw [if_pos h]
    go_simp
  · rw [if_neg h]
    go_simp
/-- What the operations of the call of New give. -/
def NF (w0 : World) (A0 : Option Addr) (un c0 : Nat) (A1 : Option Addr) (n c1 : Nat) (up : List Nat) (l : List Ob.Obj) (ok : Bool) (k : Nat) (v : Value) (w : World) : Prop := match k with
  | 0 => v = .agg #[.slice A0 un c0]
  | 1 => v = .slice A1 n c1
  | 2 => ∃ (vs : List OV) (A : Option Addr) (c : Nat), v = .slice A vs.length c ∧ objs vs = l ∧ ObjsAt w A vs
  | 3 => if ok then ∃ s, v = .tuple #[.pointer (some ⟨s.g, 0, none⟩), .nilIface] ∧ StoreAt w w0.heap.size s ∧ s.up = up ∧ objsI s.its = l else ∃ x : Int, v = .tuple #[.pointer none, .iface 77 (.int .i64 x)]
  | 4 => if ok then ∃ s, v = .tuple #[.pointer (some ⟨s.g, 0, none⟩), .nilIface] ∧ StoreAt w w0.heap.size s ∧ s.up = up ∧ objsI s.its = l else ∃ x : Int, v = .tuple #[.pointer none, .iface 77 (.int .i64 x)]
  | 5 => if ok then ∃ s, v = .pointer (some ⟨s.g, 0, none⟩) ∧ StoreAt w w0.heap.size s ∧ s.up = up ∧ objsI s.its = l else v = .pointer none
  | 7 => if ok then ∃ s, v = .pointer (some ⟨s.g, 0, none⟩) ∧ StoreAt w w0.heap.size s ∧ s.up = up ∧ objsI s.its = l else v = .pointer none
  | _ => if ok then v = .nilIface else ∃ x : Int, v = .iface 77 (.int .i64 x)
theorem NF.grew {w0 : World} {A0 : Option Addr} {un c0 : Nat} {A1 : Option Addr} {n c1 : Nat} {up : List Nat} {l : List Ob.Obj} {ok : Bool} (k : Nat) (v : Value) (w w' : World) (h : NF w0 A0 un c0 A1 n c1 up l ok k v w) (hg : Grew w w') : NF w0 A0 un c0 A1 n c1 up l ok k v w' := by
  unfold NF at h ⊢
  cases ok
  · split at h
    all_goals first
      | exact h
      | (obtain ⟨vs, A, c, h1, h2, h3⟩ := h; exact ⟨vs, A, c, h1, h2, h3.grew hg⟩)
  · split at h
    all_goals first
      | (obtain ⟨vs, A, c, h1, h2, h3⟩ := h; exact ⟨vs, A, c, h1, h2, h3.grew hg⟩)
      | (rw [if_pos rfl] at h ⊢; obtain ⟨s, h1, h2, h3⟩ := h; exact ⟨s, h1, h2.grew hg, h3⟩)
      | exact h
theorem new_if {w w' : World} {up : List Nat} {l : List Ob.Obj} {e : Ending} (h : NewPost w up l e w') : if La.valid up && l.all (Ob.mayB up.length) then ∃ s, e = .returned (.tuple #[.pointer (some ⟨s.g, 0, none⟩), .nilIface]) ∧ StoreAt w' w.heap.size s ∧ s.up = up ∧ objsI s.its = l ∧ Grew w w' else ∃ k : Int, e = .returned (.tuple #[.pointer none, .iface 77 (.int .i64 k)]) ∧ Grew w w' := by
  unfold NewPost at h
  cases h1 : La.valid up
  · rw [h1, if_neg (by decide)] at h
    rw [Bool.false_and, if_neg (by decide)]
    exact ⟨7, h⟩
  · rw [h1, if_pos rfl] at h
    cases h2 : l.all (Ob.mayB up.length)
    · rw [h2, if_neg (by decide)] at h
      rw [Bool.and_false, if_neg (by decide)]
      exact ⟨1, h⟩
    · rw [h2, if_pos rfl] at h
      rw [Bool.and_true, if_pos rfl]
      exact h
end Go.Proofs.YtcfknfiddadgbaaDoor

/- Stage 11: what Put leaves. -/
import Derived.Test.YtcfknfiddadgbaaDoorObY
namespace Go.Proofs.YtcfknfiddadgbaaDoor
open Go.RowKit

/-- What Put answers, and leaves. -/
def PutPost (w : World) (B : Nat) (s : SV) (i k under : Int) (v : Ob.Val) (e : Ending) (w' : World) : Prop := ∃ s', e = .returned (errVal (Ob.putCode s.up (objsI s.its) i k under v)) ∧ StoreAt w' B s' ∧ s'.g = s.g ∧ s'.up = s.up ∧ s'.U = s.U ∧ objsI s'.its = Ob.put s.up (objsI s.its) i k under v ∧ Kept (Owns s) w w' ∧ ∀ k, Owns s' k → Owns s k ∨ w.heap.size ≤ k
theorem put_same {w w' : World} {B : Nat} {s : SV} (h : StoreAt w B s) (hg : Grew w w') {i k under : Int} {v : Ob.Val} (c : Nat) (h0 : c ≠ 0) (hc : Ob.putCode s.up (objsI s.its) i k under v = c) : PutPost w B s i k under v (.returned (errVal c)) w' :=
  ⟨s, by rw [hc], h.grew hg, rfl, rfl, rfl, (Ob.put_bad (by rw [hc]; exact h0)).symm, Kept.of_grew hg, fun _ hk => .inl hk⟩
def setI (x : IT) (b : Nat) (v : Ob.Val) : IT := { x with o := Ob.setF x.o b v }
theorem itF_set (x : IT) (b : Nat) (v : Ob.Val) : itF (setI x b v) = itF x := by simp [itF, setI, Ob.setF]
theorem flatMap_modify {α β : Type} (f : α → List β) (g : α → α) (hf : ∀ x, f (g x) = f x) : ∀ (l : List α) (i : Nat), (l.modify i g).flatMap f = l.flatMap f
  | [], i => by simp
  | x :: r, 0 => by simp [hf]
  | x :: r, i + 1 => by simp [flatMap_modify f g hf r i]
theorem modify_at {α : Type} {l : List α} {i j : Nat} {g : α → α} {y : α} (h : (l.modify i g)[j]? = some y) : ∃ x, l[j]? = some x ∧ y = if i = j then g x else x := by
  rw [List.getElem?_modify] at h
  cases hx : l[j]? with
  | none => rw [hx] at h; cases h
  | some x =>
    rw [hx] at h
    exact ⟨x, rfl, by simpa using h.symm⟩
theorem valueB_put {up : List Nat} (h256 : ∀ x ∈ up, x < 256) (hv : La.valid up = true) {v : Ob.Val} {under : Int} (h1 : Ob.valueB up.length v = true) (h2 : Ob.inB under up.length = true) : Ob.valueB up.length (Ob.putV up under v) = true := by
  have h1' := h1
  simp only [Ob.valueB, Bool.and_eq_true] at h1'
  have hl : La.isLevel up v.l = true := h1'.1
  have hu : La.isLevel up under = true := h2
  have hj := (La.joinOf_level h256 hv hl hu).1
  simp only [Ob.valueB, Ob.putV, Bool.and_eq_true]
  exact ⟨hj, h1'.2⟩
theorem mayB_set {n : Nat} {o : Ob.Obj} {b : Nat} {v : Ob.Val} (h : Ob.mayB n o = true) (hv : Ob.valueB n v = true) : Ob.mayB n (Ob.setF o b v) = true := by
  simp only [Ob.mayB, Bool.and_eq_true, List.all_eq_true] at h ⊢
  refine ⟨?_, fun x hx => ?_⟩
  · have e : Ob.headB n (Ob.setF o b v) = Ob.headB n o := by
      have hl : (Ob.setF o b v).f.length = o.f.length := by simp [Ob.setF]
      unfold Ob.headB
      rw [hl]
      rfl
    rw [e]
    exact h.1
  · rcases List.mem_or_eq_of_mem_set hx with hx | rfl
    · exact h.2 x hx
    · exact hv
theorem put_done {w w' : World} {B : Nat} {s : SV} (h : StoreAt w B s) {a b : Nat} {under : Int} {v : Ob.Val} {x : IT} (hx : s.its[a]? = some x) (hc : Ob.putCode s.up (objsI s.its) (a : Int) (b : Int) under v = 0)
    (hb : Blk w' x.b 39 ((x.o.f.set b (Ob.putV s.up under v)).flatMap valF).toArray) (hk : Kept (· = x.b) w w') : PutPost w B s (a : Int) (b : Int) under v (.returned .nilIface) w' := by
  have hm := List.mem_of_getElem? hx
  have hz := Ob.code_zero hc
  have hl : ∀ l : List IT, (l.map (·.o.lev)) = (objsI l).map (·.lev) := fun l => by rw [objsI, List.map_map]; rfl
  have hobj : objsI (s.its.modify a (fun y => setI y b (Ob.putV s.up under v))) = Ob.put s.up (objsI s.its) (a : Int) (b : Int) under v := by
    rw [Ob.put_at hc]
    apply List.ext_getElem?
    intro j
    simp only [objsI, List.getElem?_map, List.getElem?_modify]
    cases s.its[j]? with
    | none => rfl
    | some y =>
      by_cases e : a = j
      · simp [e, setI]
      · simp [e]
  have hlev : (objsI (s.its.modify a (fun y => setI y b (Ob.putV s.up under v)))).map (·.lev) = (objsI s.its).map (·.lev) := by rw [hobj, Ob.put_levs]
  have hcell : stCells { s with its := s.its.modify a (fun y => setI y b (Ob.putV s.up under v)) } = stCells s := by
    have e : ∀ j, cV { s with its := s.its.modify a (fun y => setI y b (Ob.putV s.up under v)) } j = cV s j := fun j => by
      unfold cV
      simp only [Ob.cnt_map, hlev]
    unfold stCells
    simp only [e, List.length_modify]
  have hown : ∀ k, Owns { s with its := s.its.modify a (fun y => setI y b (Ob.putV s.up under v)) } k → Owns s k := by
    intro k hk
    rcases hk with h1 | h1 | ⟨y, hy, h1⟩
    · exact .inl h1
    · exact .inr (.inl h1)
    · obtain ⟨j, hj⟩ := List.mem_iff_getElem?.1 hy
      obtain ⟨z, hz1, hz2⟩ := modify_at hj
      refine .inr (.inr ⟨z, List.mem_of_getElem? hz1, ?_⟩)
      rw [← h1, hz2]
      split <;> rfl
  have hkO : Kept (Owns s) w w' := hk.mono (fun k _ e => .inr (.inr ⟨x, hm, e.symm⟩))
  refine ⟨{ s with its := s.its.modify a (fun y => setI y b (Ob.putV s.up under v)) }, by rw [hc]; rfl, ⟨?_, h.low, ?_, ?_, h.valid, ?_, h.rowNe, ?_, ?_, ?_, ?_, ?_⟩, rfl, rfl, rfl, hobj, hkO, fun k hk => .inl (hown k hk)⟩
  · rw [hcell]
    exact h.blk.kept hk (fun e => (h.fb x hm).2.2.1 e.symm)
  · refine ⟨h.up.1, fun hl => ?_⟩
    obtain ⟨ad, h1, h2, h3⟩ := h.up.2 hl
    exact ⟨ad, h1, Nat.lt_of_lt_of_le h2 hk.size, fun j hj => (hkO.cell (by rw [block_add]; exact h2) (by rw [block_add]; exact h.upNe ad h1)).trans (h3 j hj)⟩
  · intro ad h1 h2
    exact h.upNe ad h1 (hown _ h2)
  · show Row w' B 71 5 s.A (s.its.modify a _).length s.ca ((s.its.modify a _).flatMap itF)
    rw [List.length_modify, flatMap_modify itF _ (fun y => itF_set y b _)]
    exact h.row.kept hk (fun g hA e => (h.fb x hm).2.2.2 ⟨_, hA, e⟩)
  · intro y hy
    obtain ⟨j, hj⟩ := List.mem_iff_getElem?.1 hy
    obtain ⟨z, hz1, hz2⟩ := modify_at hj
    by_cases e : a = j
    · rw [if_pos e] at hz2
      subst e
      rw [hx] at hz1
      obtain rfl := Option.some.inj hz1
      subst hz2
      have := h.fb x hm
      exact ⟨this.1, hb, this.2.2⟩
    · rw [if_neg e] at hz2
      subst hz2
      have h1 := h.fb y (List.mem_of_getElem? hz1)
      exact ⟨h1.1, h1.2.1.kept hk (fun e2 => e (h.dis a j x y hx hz1 e2.symm)), h1.2.2⟩
  · intro i j y z hy hz e
    obtain ⟨y', hy1, hy2⟩ := modify_at hy
    obtain ⟨z', hz1, hz2⟩ := modify_at hz
    have e1 : y.b = y'.b := by rw [hy2]; split <;> rfl
    have e2 : z.b = z'.b := by rw [hz2]; split <;> rfl
    exact h.dis i j y' z' hy1 hz1 (by rw [← e1, ← e2]; exact e)
  · intro i y hy
    obtain ⟨y', hy1, hy2⟩ := modify_at hy
    have e1 : y.h = y'.h := by rw [hy2]; split <;> rfl
    rw [e1, h.hs i y' hy1]
    exact (Ob.hash_map hlev i).symm
  · intro y hy
    obtain ⟨j, hj⟩ := List.mem_iff_getElem?.1 hy
    obtain ⟨z, hz1, hz2⟩ := modify_at hj
    have h1 := h.ok z (List.mem_of_getElem? hz1)
    show Ob.mayB s.up.length y.o = true
    rw [hz2]
    split
    · exact mayB_set h1 (valueB_put h.up.1 h.valid hz.1 hz.2.1)
    · exact h1
  · show (s.its.modify a _).length ≤ 65536
    rw [List.length_modify]
    exact h.len
end Go.Proofs.YtcfknfiddadgbaaDoor

/- Parts of elder texts that this layer needs, joined: XPk8 XPk9 XPk10 XPk11 XPk12. -/
import Derived.Test.YtjdgcgpidhljpaaGreatDoorYPkB
import Derived.Test.YtjdgcgpidhljpaaGreatDoorYPkA
import Derived.Test.YtjdgcgpidhljpaaGreatDoorYViA
import Derived.BigQuiet
import Derived.Test.YtjdgcgpidhljpaaGreatDoorYNum
namespace Go.Proofs.YtjdgcgpidhljpaaGreatDoor
open Go.RowKit

/-- A field as it lies in memory: its list's place and capacity. -/
structure FdV where
  f : Pk.Fd
  A : Option Addr
  c : Nat
instance FdV.some_ : Inhabited FdV := ⟨⟨⟨0, 0, [], ⟨#[]⟩, 0, 0, 0⟩, none, 0⟩⟩
def FdV.cells (v : FdV) : Array Value := #[.int .u8 ((v.f.kind : Nat) : Int), .int .i64 v.f.n, .slice v.A v.f.l.length v.c, .string v.f.s, .int .i64 v.f.many, .int .i64 v.f.lo, .int .i64 v.f.hi]
/-- Its numbers are of their kinds, its list lies below block 'B'. -/
structure FdOk (w : World) (B : Nat) (v : FdV) : Prop where
  kind : v.f.kind < 256
  n : Vi.I64 v.f.n
  l : IntsAt w B v.A v.f.l
  lc : v.f.l.length ≤ v.c
  lm : v.c ≤ 9223372036854775807
  lb : ∀ ad, v.A = some ad → 0 < v.f.l.length → ad.block < B
theorem FdOk.kept {F : Nat → Prop} {w w' : World} {B : Nat} {v : FdV} (h : FdOk w B v) (hk : Kept F w w') (hB : B ≤ w.heap.size) (hF : ∀ ad, v.A = some ad → 0 < v.f.l.length → ¬ F ad.block) : FdOk w' B v :=
  ⟨h.kind, h.n, h.l.kept hk hB hF, h.lc, h.lm, h.lb⟩
theorem FdOk.wide {w : World} {B B' : Nat} {v : FdV} (h : FdOk w B v) (hB : B ≤ B') : FdOk w B' v :=
  ⟨h.kind, h.n, h.l.wide hB, h.lc, h.lm, fun ad e hn => Nat.lt_of_lt_of_le (h.lb ad e hn) hB⟩

end Go.Proofs.YtjdgcgpidhljpaaGreatDoor
namespace Go.Proofs.YtjdgcgpidhljpaaGreatDoor
open Go.RowKit

/-- Fields that lie one behind the other from address 'A' on. -/
def FdsAt (w : World) (B : Nat) (A : Option Addr) (vs : List FdV) : Prop :=
  (∀ v ∈ vs, FdOk w B v) ∧ (0 < vs.length → ∃ ad, A = some ad ∧ ad.block < B ∧ ∀ i v, vs[i]? = some v → ∀ j u, v.cells[j]? = some u → w.cell? (ad.add (i * 7 + j)) = some u)
end Go.Proofs.YtjdgcgpidhljpaaGreatDoor
namespace Go.Proofs.YtjdgcgpidhljpaaGreatDoor
open Go.RowKit

theorem wrap64_i64 (x : Int) : Vi.I64 (wrap64 x) := by unfold Vi.I64 wrap64; omega
theorem getN_i64 (r : List Nat) : Vi.I64 (Vi.getN r) := by
  unfold Vi.getN
  split
  · unfold Vi.I64; omega
  · exact wrap64_i64 _
theorem int_i64 (st : Pk.St) (a b : Int) : Vi.I64 (Pk.int st a b).1 := by
  unfold Pk.int
  split
  · rename_i n r hb
    obtain ⟨r0, _, h⟩ := Option.bind_eq_some_iff.1 hb
    unfold Pk.num at h
    split at h
    · simp only [Option.some.injEq, Prod.mk.injEq] at h
      rw [← h.1]; exact getN_i64 _
    · cases h
  · unfold Vi.I64; simp
theorem Row.ints {w : World} {B : Nat} {e : TypeId} {A : Option Addr} {c : Nat} {l : List Int} (h : Row w B e 1 A l.length c (intCellsP l)) (hl : ∀ x ∈ l, Vi.I64 x) : IntsAt w w.heap.size A l := by
  refine ⟨hl, fun hn => ?_⟩
  rcases h.cases with ⟨_, _, _, ⟨_, h0, _⟩ | ⟨g, rfl, _, hlt, hc, _⟩⟩
  · omega
  · refine ⟨_, rfl, hlt, fun j hj => ?_⟩
    rw [show (⟨g, 0, none⟩ : Addr).add j = ⟨g, j, none⟩ by simp [Addr.add]; omega]
    refine hc j _ ?_
    simp [intCellsP, List.getD_eq_getElem?_getD, List.getElem?_eq_getElem hj]
theorem Row.in {w : World} {B : Nat} {e : TypeId} {s : Nat} {A : Option Addr} {n c : Nat} {vs : List Value} (h : Row w B e s A n c vs) : ∀ ad, A = some ad → B ≤ ad.block ∧ ad.block < w.heap.size := by
  intro ad had
  rcases h.cases with ⟨_, _, _, ⟨h0, _⟩ | ⟨g, h1, h2, h3, _⟩⟩
  · rw [h0] at had; cases had
  · rw [h1] at had; cases had; exact ⟨h2, h3⟩

theorem boxes3 (w : World) (t : TypeId) (X Y Z : Array Value) : Grew w (((w.alloc (.cells X t)).alloc (.cells Y t)).alloc (.cells Z t)) ∧ Blk (((w.alloc (.cells X t)).alloc (.cells Y t)).alloc (.cells Z t)) w.heap.size t X ∧ Blk (((w.alloc (.cells X t)).alloc (.cells Y t)).alloc (.cells Z t)) (w.heap.size + 1) t Y ∧ Blk (((w.alloc (.cells X t)).alloc (.cells Y t)).alloc (.cells Z t)) (w.heap.size + 1 + 1) t Z := by
  have b1 := Blk.new w t X
  have g1 := (Grew.refl w).alloc (.cells X t)
  have s1 : (w.alloc (.cells X t)).heap.size = w.heap.size + 1 := by simp
  generalize w.alloc (.cells X t) = w1 at *
  have b2 := Blk.new w1 t Y
  have g2 := (Grew.refl w1).alloc (.cells Y t)
  have s2 : (w1.alloc (.cells Y t)).heap.size = w1.heap.size + 1 := by simp
  generalize w1.alloc (.cells Y t) = w2 at *
  have b3 := Blk.new w2 t Z
  have g3 := (Grew.refl w2).alloc (.cells Z t)
  rw [s1] at b2 s2
  rw [s2] at b3
  exact ⟨(g1.trans g2).trans g3, b1.grew (g2.trans g3), b2.grew g3, b3⟩
/-- What a block of seven cells reads as. -/
theorem Blk.seven {w : World} {g : Nat} {t : TypeId} {a b c d e f h : Value} (k : Blk w g t #[a, b, c, d, e, f, h]) :
    w.cell? ⟨g, 0, none⟩ = some a ∧ w.cell? ⟨g, 1, none⟩ = some b ∧ w.cell? ⟨g, 2, none⟩ = some c ∧ w.cell? ⟨g, 3, none⟩ = some d ∧ w.cell? ⟨g, 4, none⟩ = some e ∧ w.cell? ⟨g, 5, none⟩ = some f ∧ w.cell? ⟨g, 6, none⟩ = some h ∧ ∀ i, w.frozen? ⟨g, i, none⟩ = false :=
  ⟨k.cell 0, k.cell 1, k.cell 2, k.cell 3, k.cell 4, k.cell 5, k.cell 6, fun i => k.frozen i⟩
set_option maxRecDepth 100000 in
/-- A result that is a struct of seven cells. -/
theorem res_field {fn : Func} {a : Tmp} (hr : fn.results = #[ResultVar.cell a 80]) (tmps : Array Value) (g : Nat) (ha : tmps.getD a undef = .pointer (some ⟨g, 0, none⟩)) (w : World) (c0 c1 c2 c3 c4 c5 c6 : Value) (hb : Blk w g 80 #[c0, c1, c2, c3, c4, c5, c6]) :
    (results fn tmps).run Tryz.prog w = .ok (.agg #[c0, c1, c2, c3, c4, c5, c6]) w := by
  obtain ⟨y0, y1, y2, y3, y4, y5, y6, _⟩ := hb.seven
  have ha' : tmps[a]?.getD undef = .pointer (some ⟨g, 0, none⟩) := by simpa using ha
  simp [results, go_sem, *]
theorem kept7 {F : Nat → Prop} {w w2 : World} {g : Nat} (h : Kept F w w2) (hg : F g) (c0 c1 c2 c3 c4 c5 c6 : Value) :
    Kept F w (((((((w2.setCell ⟨g, 0, none⟩ c0).setCell ⟨g, 1, none⟩ c1).setCell ⟨g, 2, none⟩ c2).setCell ⟨g, 3, none⟩ c3).setCell ⟨g, 4, none⟩ c4).setCell ⟨g, 5, none⟩ c5).setCell ⟨g, 6, none⟩ c6) :=
  ((((((h.setCell (p := ⟨g, 0, none⟩) (fun _ => hg) c0).setCell (p := ⟨g, 1, none⟩) (fun _ => hg) c1).setCell (p := ⟨g, 2, none⟩) (fun _ => hg) c2).setCell (p := ⟨g, 3, none⟩) (fun _ => hg) c3).setCell (p := ⟨g, 4, none⟩) (fun _ => hg) c4).setCell (p := ⟨g, 5, none⟩) (fun _ => hg) c5).setCell (p := ⟨g, 6, none⟩) (fun _ => hg) c6
theorem Blk.put7 {w : World} {g : Nat} {t : TypeId} {a0 a1 a2 a3 a4 a5 a6 : Value} (h : Blk w g t #[a0, a1, a2, a3, a4, a5, a6]) (c0 c1 c2 c3 c4 c5 c6 : Value) :
    Blk (((((((w.setCell ⟨g, 0, none⟩ c0).setCell ⟨g, 1, none⟩ c1).setCell ⟨g, 2, none⟩ c2).setCell ⟨g, 3, none⟩ c3).setCell ⟨g, 4, none⟩ c4).setCell ⟨g, 5, none⟩ c5).setCell ⟨g, 6, none⟩ c6) g t #[c0, c1, c2, c3, c4, c5, c6] := by
  have := ((((((h.put 0 c0).put 1 c1).put 2 c2).put 3 c3).put 4 c4).put 5 c5).put 6 c6
  simpa using this
end Go.Proofs.YtjdgcgpidhljpaaGreatDoor
namespace Go.Proofs.YtjdgcgpidhljpaaGreatDoor
open Go.RowKit

/-- A Writer made since 'W'. -/
def WS (W w : World) (g : Nat) (xs : List Nat) : Prop := ∃ Y, WrAt w W.heap.size g xs Y ∧ Grew W w
/-- A Reader made since 'W'. -/
def RS (W w : World) (lo g : Nat) (st : Pk.St) : Prop := RdAt w lo g st ∧ W.heap.size ≤ lo ∧ lo ≤ g ∧ Grew W w
theorem WS.above {W w : World} {g : Nat} {xs : List Nat} (h : WS W w g xs) : Grew W w := by obtain ⟨_, _, h⟩ := h; exact h
theorem WS.grew {W w w' : World} {g : Nat} {xs : List Nat} (h : WS W w g xs) (hg : Grew w w') : WS W w' g xs := by
  obtain ⟨Y, h1, h2⟩ := h
  exact ⟨Y, h1.grew hg, h2.trans hg⟩
theorem RS.grew {W w w' : World} {lo g : Nat} {st : Pk.St} (h : RS W w lo g st) (hg : Grew w w') : RS W w' lo g st :=
  ⟨h.1.grew hg h.2.2.1, h.2.1, h.2.2.1, h.2.2.2.trans hg⟩
theorem RS.done {W w w' : World} {lo g : Nat} {st st' : Pk.St} (h : RS W w lo g st) (hr : RdAt w' lo g st') (hk : Kept (· = g) w w') : RS W w' lo g st' :=
  ⟨hr, h.2.1, h.2.2.1, hk.grew h.2.2.2 (fun k e => by have := h.2.1; have := h.2.2.1; omega)⟩
theorem WS.new {W w : World} (hg : Grew W w) : WS W (w.alloc (.cells #[.pointer none, .int .i64 0] 73)) w.heap.size [] :=
  ⟨(· = w.heap.size), ⟨fun k e => by subst e; exact ⟨hg.below.size, by simp⟩, rfl, by simp, .inl ⟨Blk.new _ _ _, rfl⟩⟩, hg.alloc _⟩
def WSPost (W : World) (g : Nat) (xs : List Nat) (e : Ending) (w' : World) : Prop := e = .returned (.tuple #[]) ∧ WS W w' g xs
theorem WroteR.ws {W w w' : World} {g : Nat} {xs bs : List Nat} {Y : Nat → Prop} {e : Ending} (hg : Grew W w) (hY : ∀ k, Y k → W.heap.size ≤ k) (h : WroteR w W.heap.size g xs bs Y e w') : WSPost W g (xs ++ bs) e w' := by
  obtain ⟨he, Y2, h1, h2, h3⟩ := h
  exact ⟨he, Y2, h1, h3.grew hg hY⟩
theorem ints_lit (w : World) (t : TypeId) (L : List Int) (hL : ∀ x ∈ L, Vi.I64 x) : IntsAt (w.alloc (.cells (intCellsP L).toArray t)) (w.alloc (.cells (intCellsP L).toArray t)).heap.size (some ⟨w.heap.size, 0, none⟩) L := by
  refine ⟨hL, fun _ => ⟨_, rfl, by simp, fun j hj => ?_⟩⟩
  have e1 : (⟨w.heap.size, 0, none⟩ : Addr).add j = ⟨w.heap.size, j, none⟩ := by simp [Addr.add]; omega
  rw [e1]
  have := (Blk.new w t (intCellsP L).toArray).cell j
  rw [this, List.getElem?_toArray]
  simp [intCellsP, List.getD_eq_getElem?_getD, List.getElem?_eq_getElem hj]
theorem wint_lit {W w : World} {g : Nat} {xs : List Nat} (h : WS W w g xs) (L : List Int) (n H : Nat) (t : TypeId) (hn : L.length = n) (hH : w.heap.size = H) (hL : ∀ x ∈ L, Vi.I64 x) (hl : xs.length + 10 * L.length ≤ 1000000000000) :
    Calls Tryz.prog 26 #[.pointer (some ⟨g, 0, none⟩), .slice (some ⟨H, 0, none⟩) n n] (w.alloc (.cells (intCellsP L).toArray t)) (WSPost W g (xs ++ Pk.encs L)) := by
  obtain ⟨Y, h1, h2⟩ := h
  subst hn hH
  exact (wint_c W.heap.size g xs Y _ _ L _ (h1.grew ((Grew.refl w).alloc _)) (h2.alloc _).below.size (ints_lit w t L hL) (fun ad e _ hy => by cases e; have := (h1.1 _ hy).2; simp at this) hl).mono fun e w' hw => WroteR.ws (h2.alloc _) (fun k hk => (h1.1 k hk).1) hw
theorem wtext_ws {W w : World} {g : Nat} {xs : List Nat} (h : WS W w g xs) (s : ByteArray) (hl : xs.length + s.size + 10 ≤ 1000000000000) :
    Calls Tryz.prog 25 #[.pointer (some ⟨g, 0, none⟩), .string s] w (WSPost W g (xs ++ (Vi.enc (s.size : Int) ++ Pk.natsOf s))) := by
  obtain ⟨Y, h1, h2⟩ := h
  exact (wtext_c W.heap.size g xs Y s w h1 h2.below.size hl).mono fun e w' hw => WroteR.ws h2 (fun k hk => (h1.1 k hk).1) hw
theorem all_ws {W w : World} {g : Nat} {xs : List Nat} (h : WS W w g xs) (hl : xs.length ≤ 1000000000000) :
    Calls Tryz.prog 27 #[.pointer (some ⟨g, 0, none⟩)] w (AllPost w xs) := by
  obtain ⟨Y, h1, h2⟩ := h
  exact all_c W.heap.size g xs Y w h1 hl
theorem AllPost.bytes {w w' : World} {xs : List Nat} {A : Option Addr} {c : Nat} (hx : ∀ x ∈ xs, x < 256) (h : Row w' w.heap.size 5 1 A xs.length c (numCells .u8 xs)) : BytesAt w' w'.heap.size A xs := NumsAt.to_bytes h.nums hx

theorem rdone_ok {w : World} {lo g : Nat} (h : RdAt w lo g (some [])) : Calls Tryz.prog 34 #[.pointer (some ⟨g, 0, none⟩)] w fun e w' => e = .returned .nilIface ∧ w' = w :=
  (rdone_c lo g (some []) w h).mono fun _ _ h => h
theorem rdone_no {w : World} {lo g : Nat} {st : Pk.St} (h : RdAt w lo g st) (hne : st ≠ some []) : Calls Tryz.prog 34 #[.pointer (some ⟨g, 0, none⟩)] w fun e w' => e = .returned (errVal 2) ∧ w' = w :=
  (rdone_c lo g st w h).mono fun e w' h => by
    obtain ⟨h1, h2⟩ := h
    rw [if_neg hne] at h1
    exact ⟨h1, h2⟩

/-- The bytes of the fixed example. -/
def sure6 : List Nat := [172, 2, 127, 2, 97, 98, 2, 5, 6]

end Go.Proofs.YtjdgcgpidhljpaaGreatDoor

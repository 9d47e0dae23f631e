/- Arguments opened: words in a slice. -/
import Derived.Test.YtdfahmppbfjbhaaDoorZFr
import Derived.Test.YtdfahmppbfjbhaaDoorWxJ
import Derived.Deep.Slices
import Derived.Deep.Fields
import Derived.ChangeSame
namespace Go.Proofs.YtdfahmppbfjbhaaDoor
open Go.ChangeShapes Go.WideShapes Go.ChangeAt Go.RowKit Go.Deep
section
variable {H : Type} {enc : TypeId × Value → H} {P : Program} {w : World} {base : Nat} {spare : Nat → Bool} {held : Bool}
theorem trow_cell {e : TypeId} {fs : Array Field} {n : Nat} {cs : List Value} {D : DataW H} {Pl : List MemPlace} (he : P.underlying e = some (.struct fs)) (hone : oneCellFields P fs = true) (hC : P.cellsOf e = fs.size)
    (ht : DataW.trod enc P w base spare held n e cs = some (D, Pl)) (j : Nat) (f : Field) (hj : fs[j]? = some f) :
    ∃ (v : Value) (m : Nat) (y : DataW H × List MemPlace), cs[j]? = some v ∧ DataW.trod enc P w base spare held m f.type [v] = some y := by
  obtain ⟨xs, m, _, _, hlen, hxl, hx⟩ := DataW.trod_struct he ht
  have hjl : j < fs.size := (Array.getElem?_eq_some_iff.1 hj).1
  obtain ⟨ho, hk⟩ := hone_of hone j f hj
  have h1 := hx j f hj
  rw [ho, hk, List.drop_eq_getElem_cons (by omega), List.getElem?_eq_getElem (by omega)] at h1
  exact ⟨cs[j]'(by omega), m, _, List.getElem?_eq_getElem (by omega), h1⟩
/-- A slice of structs that came in, with its capacity. -/
theorem open_listc {α : Type} (k : Nat) (cells : α → Array Value) (Ok : α → Prop) (z : α) (hz : ∀ x, 0 < (cells x).size) {t e : TypeId} {fuel : Nat} {c0 : Value} {y : DataW H × List MemPlace} (ht : P.underlying t = some (.slice e)) (hC : P.cellsOf e = k)
    (el : ∀ n b cs D Pl, w.cells? base b (P.cellsOf e) = some cs → DataW.trod enc P w base spare held n e cs = some (D, Pl) → ∃ v : α, Ok v ∧ ∀ j u, (cells v)[j]? = some u → w.cell? (b.add j) = some u)
    (hf : DataW.trod enc P w base spare held fuel t [c0] = some y) (hsp : ∀ b, spare b = true) :
    ∃ (A : Option Addr) (c : Nat) (vs : List α), c0 = .slice A vs.length c ∧ vs.length ≤ c ∧ (∀ v ∈ vs, Ok v) ∧ (0 < vs.length → ∃ ad, A = some ad ∧ ad.block < w.heap.size ∧ ∀ i v, vs[i]? = some v → ∀ j u, (cells v)[j]? = some u → w.cell? (ad.add (i * k + j)) = some u) := by
  rcases open_slice ht hf with ⟨hcs, _⟩ | ⟨a, len, cap, m, n, D, Pl, hcs, _, hl, hmx, hm, _, hi⟩
  · simp only [List.cons.injEq, and_true] at hcs
    exact ⟨none, 0, [], hcs, by simp, (by simp), fun h => absurd h (by simp)⟩
  · simp only [List.cons.injEq, and_true] at hcs
    rw [hsp, if_pos rfl] at hm
    have hex : ∀ i, ∃ v : α, i < len → Ok v ∧ ∀ j u, (cells v)[j]? = some u → w.cell? ((a.add (i * k)).add j) = some u := by
      intro i
      by_cases hil : i < len
      · obtain ⟨cs, hc, hct⟩ := hi i (by omega)
        rw [hC] at hc
        obtain ⟨v, k1, k2⟩ := el _ _ _ _ _ (by rw [hC]; exact hc) hct
        exact ⟨v, fun _ => ⟨k1, k2⟩⟩
      · exact ⟨z, fun h => absurd h hil⟩
    obtain ⟨V, hV⟩ := Classical.axiomOfChoice hex
    refine ⟨some a, cap, (List.range len).map V, by simpa using hcs, by simp; omega, fun v hv => ?_, fun hn => ⟨a, rfl, ?_, fun i v hv j u hu => ?_⟩⟩
    · obtain ⟨i, hi2, rfl⟩ := List.mem_map.1 hv
      exact (hV i (List.mem_range.1 hi2)).1
    · have hpos : 0 < len := by simpa using hn
      have := World.block_lt_of_cell? w _ ((hV 0 hpos).2 0 _ (Array.getElem?_eq_getElem (hz _)))
      rwa [block_add, block_add] at this
    · obtain ⟨hil, rfl⟩ : i < len ∧ V i = v := by
        rw [List.getElem?_map] at hv
        obtain ⟨k, hk, rfl⟩ := Option.map_eq_some_iff.1 hv
        obtain ⟨h1, h2⟩ := List.getElem?_eq_some_iff.1 hk
        simp at h1 h2
        subst h2
        exact ⟨h1, rfl⟩
      rw [← add_add]
      exact (hV i hil).2 j u hu
/-- A word that came in. -/
theorem open_word {e : TypeId} {f0 f1 f2 : Field} {n : Nat} {b : Addr} {cs : List Value} {D : DataW H} {Pl : List MemPlace} (he : P.underlying e = some (.struct #[f0, f1, f2])) (hone : oneCellFields P #[f0, f1, f2] = true) (hC : P.cellsOf e = 3)
    (h0 : P.underlying f0.type = some (.int .u8)) (h1 : P.underlying f1.type = some .string) (h2 : P.underlying f2.type = some (.int .i64)) (hc : w.cells? base b (P.cellsOf e) = some cs) (ht : DataW.trod enc P w base spare held n e cs = some (D, Pl)) :
    ∃ v : Lx.Word, (v.k < 256 ∧ N64 v.o) ∧ ∀ j u, (wordF v).toArray[j]? = some u → w.cell? (b.add j) = some u := by
  have hs : P.cellsOf e = (#[f0, f1, f2] : Array Field).size := hC
  obtain ⟨_, hlen, hcell⟩ := World.cells?_some hc
  obtain ⟨v0, m0, y0, c0, t0⟩ := trow_cell he hone hs ht 0 f0 rfl
  obtain ⟨v1, m1, y1, c1, t1⟩ := trow_cell he hone hs ht 1 f1 rfl
  obtain ⟨v2, m2, y2, c2, t2⟩ := trow_cell he hone hs ht 2 f2 rfl
  obtain ⟨x0, e0, _, w0⟩ := DataW.trod_int h0 t0
  obtain ⟨x1, e1, _, _⟩ := DataW.trod_string h1 t1
  obtain ⟨x2, e2, _, w2⟩ := DataW.trod_int h2 t2
  simp only [List.cons.injEq, and_true] at e0 e1 e2
  subst e0 e1 e2
  have b0 := u8_bounds w0
  have hk : (((x0.toNat : Nat) : Nat) : Int) = x0 := by omega
  refine ⟨⟨x0.toNat, x1, x2⟩, ⟨by show x0.toNat < 256; omega, i64_bounds w2⟩, fun j u hu => ?_⟩
  have hj : j < 3 := by
    have := (Array.getElem?_eq_some_iff.1 hu).1
    simpa [wordF] using this
  rw [hcell j (by rw [hC]; exact hj)]
  unfold wordF at hu
  rcases (by omega : j = 0 ∨ j = 1 ∨ j = 2) with rfl | rfl | rfl
  · have e : Value.int .u8 ((x0.toNat : Nat) : Int) = u := by simpa using hu
    rw [c0, ← e, hk]
  · have e : Value.string x1 = u := by simpa using hu
    rw [c1, ← e]
  · have e : Value.int .i64 x2 = u := by simpa using hu
    rw [c2, ← e]
/-- A slice of words that came in. -/
theorem open_words {t e : TypeId} {f0 f1 f2 : Field} {r : Reach} {b0 : Nat} {v : Value} {d : DataW H} {ps : List MemPlace} (ht : P.underlying t = some (.slice e)) (he : P.underlying e = some (.struct #[f0, f1, f2])) (hone : oneCellFields P #[f0, f1, f2] = true) (hC : P.cellsOf e = 3)
    (h0 : P.underlying f0.type = some (.int .u8)) (h1 : P.underlying f1.type = some .string) (h2 : P.underlying f2.type = some (.int .i64))
    (hval : Value.okWide P w r b0 t v) (h : DataW.Trod enc P w base spare held t v d ps) (hsp : ∀ b, spare b = true) :
    ∃ (A : Option Addr) (c : Nat) (l : List Lx.Word), v = .slice A l.length c ∧ WordsAt w A l := by
  obtain ⟨A, len, cap, rfl⟩ := okWide_slice ht hval
  obtain ⟨fuel, hf⟩ := h
  obtain ⟨A2, c2, l, e1, _, hok, hcells⟩ := open_listc 3 (fun v => (wordF v).toArray) (fun v => v.k < 256 ∧ N64 v.o) ⟨0, ByteArray.empty, 0⟩ (fun x => by simp [wordF]) ht hC (fun n b cs D Pl hc htr => open_word he hone hC h0 h1 h2 hc htr) (c0 := .slice A len cap) (by simpa [Value.cells] using hf) hsp
  refine ⟨A2, c2, l, e1, ⟨fun x hx => (hok x hx).1, fun x hx => (hok x hx).2, fun hl => ?_⟩⟩
  obtain ⟨ad, h1, h2, h3⟩ := hcells hl
  exact ⟨ad, h1, h2, fun i v hi j u hu => h3 i v hi j u (by rw [List.getElem?_toArray]; exact hu)⟩
end
end Go.Proofs.YtdfahmppbfjbhaaDoor

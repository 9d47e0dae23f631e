/- Parts of elder texts that this layer needs, joined: XObM XOcD. -/
import Derived.Test.YtdfahmppbfjbhaaDoorZBase
namespace Go.Proofs.YtdfahmppbfjbhaaDoor
open Go.RowKit

theorem add_pos {a : Addr} {j : Nat} (hj : j ≠ 0) : a.add j = ⟨a.block, a.off + j, none⟩ := by simp [Addr.add, hj]
theorem Row.of_blk {w : World} {B g : Nat} {e : TypeId} {s n : Nat} {cs : Array Value} (h : Blk w g e cs) (hB : B ≤ g) (hn : cs.size = n * s) (hm : n ≤ 9223372036854775807) : Row w B e s (some ⟨g, 0, none⟩) n n cs.toList :=
  ⟨by simpa using hn, .inr ⟨g, n, cs, rfl, hB, h, Nat.le_refl _, by simp only [maxLen]; omega, hn, by rw [List.take_of_length_le (by simp; omega)]⟩⟩
theorem Row.at_base {w : World} {B : Nat} {e : TypeId} {s : Nat} {A : Option Addr} {n c : Nat} {vs : List Value} (h : Row w B e s A n c vs) : ∀ k, AtRow A k → B ≤ k := by
  rintro k ⟨ad, rfl, rfl⟩
  rcases h.cases with ⟨_, _, _, ⟨h1, _⟩ | ⟨g, h1, hb, _⟩⟩
  · cases h1
  · obtain rfl := Option.some.inj h1
    exact hb
theorem Row.at_lt {w : World} {B : Nat} {e : TypeId} {s : Nat} {A : Option Addr} {n c : Nat} {vs : List Value} (h : Row w B e s A n c vs) : ∀ k, AtRow A k → k < w.heap.size := by
  rintro k ⟨ad, rfl, rfl⟩
  rcases h.cases with ⟨_, _, _, ⟨h1, _⟩ | ⟨g, h1, hb, hl, _⟩⟩
  · cases h1
  · obtain rfl := Option.some.inj h1
    exact hl
theorem flat_at {α : Type} (f : α → List Value) (k : Nat) (hk : ∀ x, (f x).length = k) : ∀ (l : List α) (i : Nat) (x : α), l[i]? = some x → ∀ j u, (f x)[j]? = some u → (l.flatMap f)[i * k + j]? = some u
  | [], i, x, hx, _, _, _ => by simp at hx
  | y :: r, 0, x, hx, j, u, hu => by
    obtain rfl : y = x := by simpa using hx
    rw [List.flatMap_cons, Nat.zero_mul, Nat.zero_add, List.getElem?_append_left (List.getElem?_eq_some_iff.1 hu).1]
    exact hu
  | y :: r, i + 1, x, hx, j, u, hu => by
    have h2 := flat_at f k hk r i x (by simpa using hx) j u hu
    rw [List.flatMap_cons, List.getElem?_append_right (by rw [hk]; rw [Nat.add_mul]; omega), hk, show (i + 1) * k + j - k = i * k + j by rw [Nat.add_mul]; omega]
    exact h2
theorem blk_row {w : World} {H : Nat} {e : TypeId} {cs : List Value} (h : Blk w H e cs.toArray) : ∀ ad, some (⟨H, 0, none⟩ : Addr) = some ad → ∀ j u, cs[j]? = some u → w.cell? (ad.add j) = some u := fun ad e j u hu => by
  cases e
  rw [show (⟨H, 0, none⟩ : Addr).add j = ⟨H, j, none⟩ by unfold Addr.add; split <;> simp_all, h.cell j, List.getElem?_toArray]
  exact hu
theorem at_row_lt {w : World} {B : Nat} {e : TypeId} {s : Nat} {A : Option Addr} {n c : Nat} {vs : List Value} (h : Row w B e s A n c vs) (k : Nat) (hk : AtRow A k) : B ≤ k ∧ k < w.heap.size := ⟨Row.at_base h k hk, Row.at_lt h k hk⟩

/-- A number of 64 bits. -/
def N64 (n : Int) : Prop := -9223372036854775808 ≤ n ∧ n ≤ 9223372036854775807
/-- Cells of things of one size, one behind the other. -/
def CellsAt {α : Type} (s : Nat) (f : α → List Value) (w : World) (ad : Addr) (l : List α) : Prop := ∀ i v, l[i]? = some v → ∀ j u, (f v)[j]? = some u → w.cell? (ad.add (i * s + j)) = some u
theorem CellsAt.kept {α : Type} {s : Nat} {f : α → List Value} {F : Nat → Prop} {w w' : World} {ad : Addr} {l : List α} (h : CellsAt s f w ad l) (hk : Kept F w w') (hb : ad.block < w.heap.size) (hF : ¬ F ad.block) : CellsAt s f w' ad l :=
  fun i v hi j u hu => (hk.cell (by rw [block_add]; exact hb) (by rw [block_add]; exact hF)).trans (h i v hi j u hu)
theorem CellsAt.of_row {α : Type} {s : Nat} {f : α → List Value} (hf : ∀ x, (f x).length = s) {w : World} {B : Nat} {t : TypeId} {ad : Addr} {n c : Nat} {l : List α} (h : Row w B t s (some ad) n c (l.flatMap f)) : CellsAt s f w ad l := by
  rcases h.cases with ⟨_, _, _, ⟨h1, _⟩ | ⟨g, h1, hb, hl, hc, _⟩⟩
  · cases h1
  · intro i v hi j u hu
    cases h1
    have := hc (i * s + j) u (flat_at f s hf l i v hi j u hu)
    rwa [show (⟨g, 0, none⟩ : Addr).add (i * s + j) = ⟨g, i * s + j, none⟩ by unfold Addr.add; split <;> simp_all]
end Go.Proofs.YtdfahmppbfjbhaaDoor
namespace Go.Proofs.YtdfahmppbfjbhaaDoor
open Go.RowKit

/-- 'append(out, x)': x of several cells. -/
theorem wpList_pushS {P : Program} {ops : Array Oper} {rest : List Oper} {o : Oper} {a : Act} {Q : Exit → Act → World → Prop} (z : Value) (sz b : Nat) (w : World) (hgd : o.guard = none) (s x : Operand) (t e : TypeId)
    (ho : o.op = .call { callee := .builtin .append, args := #[s, x], argTypes := #[t, t] })
    (ht : P.underlying t = some (.slice e)) (he : (P.info? e).map (fun i => (i.zero, i.size, i.bytes)) = some (some z, sz, b)) (hzs : z.cells.size = sz) (hsz : 0 < sz)
    (B : Nat) (hB : B ≤ w.heap.size) (A : Option Addr) (n c : Nat) (ys : List Value) (hs : a.eval s = .slice A n c) (hown : Row w B e sz A n c ys) (H : Nat) (hH : w.heap.size = H) (hxv : a.eval x = .slice (some ⟨H, 0, none⟩) 1 1) (cs : List Value) (hl : cs.length = sz) (h1 : ∀ u ∈ cs, u.oneCell' = true)
    (hlen : n + 1 ≤ 9223372036854775807) (hby : (n + 1) * b ≤ 140737488355328)
    (h : ∀ A' c' w', Row w' B e sz A' (n + 1) c' (ys ++ cs) → Kept (AtRow A) w w' → RowTo w A A' → wpList P ops Q rest (a.put o.dst (.slice A' (n + 1) c')) w') : wpList P ops Q (o :: rest) a (w.alloc (.cells cs.toArray e)) := by
  subst hH
  refine wpList_catR z sz b (w.alloc (.cells cs.toArray e)) hgd s x t e ho ht he hzs hsz B (by simp only [World.size_alloc]; omega) A n c ys hs (hown.grew ((Grew.refl w).alloc _)) _ 1 1 cs hxv (by omega) h1 (by intro h; cases h) (blk_row (Blk.new w e cs.toArray)) hlen hby (fun A' c' w' r1 r2 r3 => h A' c' w' r1 (r2.of_alloc) (r3.imp id (fun ⟨g, h1, h2⟩ => ⟨g, h1, by simp only [World.size_alloc] at h2; omega⟩)))
end Go.Proofs.YtdfahmppbfjbhaaDoor

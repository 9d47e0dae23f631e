/- Stage 9: Decode, first part: what a drawn region may do that reads an element and appends it to a field of a struct. -/
import Derived.Test.YtjdgcgpidhljpaaGreatDoorMtR
import Derived.Test.YtjdgcgpidhljpaaGreatDoorFacts4
namespace Go.Proofs.YtjdgcgpidhljpaaGreatDoor
open Go.RowKit

theorem flat_at {α : Type} (f : α → List Value) (k : Nat) (hk : ∀ x, (f x).length = k) : ∀ (l : List α) (i : Nat) (x : α), l[i]? = some x → ∀ j u, (f x)[j]? = some u → (l.flatMap f)[i * k + j]? = some u
  | [], i, x, hx, _, _, _ => by simp at hx
  | y :: r, 0, x, hx, j, u, hu => by
    obtain rfl : y = x := by simpa using hx
    rw [List.flatMap_cons, Nat.zero_mul, Nat.zero_add, List.getElem?_append_left (List.getElem?_eq_some_iff.1 hu).1]
    exact hu
  | y :: r, i + 1, x, hx, j, u, hu => by
    have h2 := flat_at f k hk r i x (by simpa using hx) j u hu
    rw [List.flatMap_cons, List.getElem?_append_right (by rw [hk]; rw [Nat.add_mul]; omega), hk, show (i + 1) * k + j - k = i * k + j by rw [Nat.add_mul]; omega]
    exact h2
def litF (x : Mt.Lit) : List Value := [.int .u8 ((x.k : Nat) : Int), .string x.s]
def pvF (v : PV) : List Value := [.int .i64 v.p.outer, .int .i64 v.p.args, .int .i64 v.p.temps, .slice v.A v.p.code.length v.c]
theorem row_lits {w : World} {B : Nat} {t : TypeId} {A : Option Addr} {c n : Nat} {l : List Mt.Lit} (hn : n = l.length) (h : Row w B t 2 A n c (l.flatMap litF)) (hl : ∀ x ∈ l, x.k < 256 ∧ x.s.size ≤ 2000) : LitsAt w A l := by
  refine ⟨hl, fun h0 => ?_⟩
  rcases h.cases with ⟨_, _, _, ⟨_, h1, _⟩ | ⟨g, rfl, _, hlt, hc, _⟩⟩
  · omega
  · refine ⟨_, rfl, hlt, fun i x hx j u hu => ?_⟩
    rw [show (⟨g, 0, none⟩ : Addr).add (i * 2 + j) = ⟨g, i * 2 + j, none⟩ by unfold Addr.add; split <;> simp_all]
    exact hc _ _ (flat_at litF 2 (fun _ => rfl) l i x hx j u (by simpa [litF, litCells2] using hu))
theorem row_parts {w : World} {B : Nat} {t : TypeId} {A : Option Addr} {c n : Nat} {l : List PV} (hn : n = l.length) (h : Row w B t 4 A n c (l.flatMap pvF)) (hl : ∀ x ∈ l, PvOk w x) : PartsAt w A l := by
  refine ⟨hl, fun h0 => ?_⟩
  rcases h.cases with ⟨_, _, _, ⟨_, h1, _⟩ | ⟨g, rfl, _, hlt, hc, _⟩⟩
  · omega
  · refine ⟨_, rfl, hlt, fun i x hx j u hu => ?_⟩
    rw [show (⟨g, 0, none⟩ : Addr).add (i * 4 + j) = ⟨g, i * 4 + j, none⟩ by unfold Addr.add; split <;> simp_all]
    exact hc _ _ (flat_at pvF 4 (fun _ => rfl) l i x hx j u (by simpa [pvF, pvCells] using hu))
section
variable {α : Type}
/-- What each operation gives. -/
def DF (w0 : World) (M g k : Nat) (A : Option Addr) (i c : Nat) (e : TypeId) (s : Nat) (ys : List Value) (enc : α → List Value) (Good : α → World → Prop) (Cl : α → Nat → Prop) (j : Nat) (v : Value) (w : World) : Prop := match j with
  | 0 => v = .pointer (some ⟨M, k, none⟩)
  | 1 => v = .slice A i c
  | 2 => v = .pointer (some ⟨g, 0, none⟩)
  | 3 => ∃ x, Good x w ∧ v = .agg (enc x).toArray
  | 4 => ∃ x H, Good x w ∧ v = .slice (some ⟨H, 0, none⟩) 1 1 ∧ Blk w H e (enc x).toArray ∧ M < H ∧ ¬ AtRow A H
  | 5 => ∃ x A' c', Good x w ∧ v = .slice A' (i + 1) c' ∧ Row w (M + 1) e s A' (i + 1) c' (ys ++ enc x) ∧ RowTo w0 A A' ∧ ∀ q, Cl x q → ¬ AtRow A' q
  | _ => v = .pointer (some ⟨M, k, none⟩)
def DR (g : Nat) (A : Option Addr) (j : Nat) : World → World → Prop := if j = 3 then Kept (· = g) else if j = 5 then Kept (AtRow A) else Kept (fun _ => False)
def DR0 (g : Nat) (A : Option Addr) : World → World → Prop := Kept (fun k => k = g ∨ AtRow A k)
/-- The reader, the row as long as nothing was appended, the struct. -/
def DJ (lo g M : Nat) (st st' : Pk.St) (A : Option Addr) (i c : Nat) (e : TypeId) (s : Nat) (ys : List Value) (tM : TypeId) (bx : Array Value) (f : Nat → Bool) (w : World) : Prop :=
  RdAt w lo g (if f 3 = true then st' else st) ∧ (f 5 = false → Row w (M + 1) e s A i c ys) ∧ Blk w M tM bx
theorem DR.zero {g : Nat} {A : Option Addr} (j : Nat) (w w' : World) (h : DR g A j w w') : DR0 g A w w' := by
  unfold DR at h
  split at h
  · exact h.mono (fun _ _ h => .inl h)
  · split at h
    · exact h.mono (fun _ _ h => .inr h)
    · exact h.mono (fun _ _ h => h.elim)
theorem DR.refl {g : Nat} {A : Option Addr} (j : Nat) (w : World) : DR g A j w w := by
  unfold DR
  split
  · exact Kept.refl _ _
  · split <;> exact Kept.refl _ _
theorem DF.stable {w0 : World} {M g k : Nat} {A : Option Addr} {i c : Nat} {e : TypeId} {s : Nat} {ys : List Value} {enc : α → List Value} {Good : α → World → Prop} {Cl : α → Nat → Prop} (hgM : g < M) (hG : ∀ x w w', Good x w → DR0 g A w w' → Good x w')
    (a b : Nat) (v : Value) (w w' : World) (hab : a ≠ b) (h : DF w0 M g k A i c e s ys enc Good Cl a v w) (hr : DR g A b w w') : DF w0 M g k A i c e s ys enc Good Cl a v w' := by
  have h0 := DR.zero b w w' hr
  unfold DF at h ⊢
  split at h
  · exact h
  · exact h
  · exact h
  · obtain ⟨x, h1, h2⟩ := h
    exact ⟨x, hG x _ _ h1 h0, h2⟩
  · obtain ⟨x, H, h1, h2, h3, h4, h5⟩ := h
    exact ⟨x, H, hG x _ _ h1 h0, h2, h3.kept h0 (fun h => by rcases h with h | h; omega; exact h5 h), h4, h5⟩
  · obtain ⟨x, A', c', h1, h2, h3, h4⟩ := h
    refine ⟨x, A', c', hG x _ _ h1 h0, h2, ?_, h4⟩
    unfold DR at hr
    split at hr
    · exact h3.kept hr (fun q hq e => by have := Row.at_base h3 q ⟨_, hq, rfl⟩; omega)
    · split at hr
      · omega
      · exact h3.kept hr (fun q hq e => e)
  · exact h
theorem DJ.pure {lo g M : Nat} {st st' : Pk.St} {A : Option Addr} {i c : Nat} {e : TypeId} {s : Nat} {ys : List Value} {tM : TypeId} {bx : Array Value} {f : Nat → Bool} {w : World} (h : DJ lo g M st st' A i c e s ys tM bx f w) (j : Nat) (h3 : j ≠ 3) : DJ lo g M st st' A i c e s ys tM bx (updF f j) w := by
  refine ⟨?_, fun h5 => h.2.1 ?_, h.2.2⟩
  · rw [show updF f j 3 = f 3 by unfold updF; rw [if_neg (fun e => h3 e.symm)]]
    exact h.1
  · unfold updF at h5
    split at h5
    · cases h5
    · exact h5
theorem DJ.grew {lo g M : Nat} {st st' : Pk.St} {A : Option Addr} {i c : Nat} {e : TypeId} {s : Nat} {ys : List Value} {tM : TypeId} {bx : Array Value} {f : Nat → Bool} {w w' : World} (h : DJ lo g M st st' A i c e s ys tM bx f w) (hg : Grew w w') (hlo : lo ≤ g) : DJ lo g M st st' A i c e s ys tM bx f w' :=
  ⟨h.1.grew hg hlo, fun h5 => (h.2.1 h5).grew hg, h.2.2.grew hg⟩
/-- The call that reads. -/
theorem DJ.read {lo g M : Nat} {st st' : Pk.St} {A : Option Addr} {i c : Nat} {e : TypeId} {s : Nat} {ys : List Value} {tM : TypeId} {bx : Array Value} {f : Nat → Bool} {w w' : World} (h : DJ lo g M st st' A i c e s ys tM bx f w) (hr : RdAt w' lo g st') (hk : Kept (· = g) w w') (hgM : g < M) (hA : ∀ k, AtRow A k → M < k) : DJ lo g M st st' A i c e s ys tM bx (updF f 3) w' := by
  refine ⟨by rw [show updF f 3 3 = true from rfl, if_pos rfl]; exact hr, fun h5 => ?_, h.2.2.kept hk (by omega)⟩
  exact (h.2.1 h5).kept hk (fun q hq e => by have := hA q ⟨_, hq, rfl⟩; omega)
/-- The append. -/
theorem DJ.app {lo g M : Nat} {st st' : Pk.St} {A : Option Addr} {i c : Nat} {e : TypeId} {s : Nat} {ys : List Value} {tM : TypeId} {bx : Array Value} {f : Nat → Bool} {w w' : World} (h : DJ lo g M st st' A i c e s ys tM bx f w) (hk : Kept (AtRow A) w w') (hlo : lo ≤ g) (hgM : g < M) (hA : ∀ k, AtRow A k → M < k) : DJ lo g M st st' A i c e s ys tM bx (updF f 5) w' := by
  refine ⟨?_, fun (h5 : updF f 5 5 = false) => (by cases h5), h.2.2.kept hk (fun h => by have := hA _ h; omega)⟩
  rw [show updF f 5 3 = f 3 from rfl]
  exact h.1.kept hk (fun q _ h2 h3 => by have := hA _ h3; omega) hlo
theorem may_DR0 (g : Nat) (A : Option Addr) : May (DR0 g A) := May.kept _
end
end Go.Proofs.YtjdgcgpidhljpaaGreatDoor

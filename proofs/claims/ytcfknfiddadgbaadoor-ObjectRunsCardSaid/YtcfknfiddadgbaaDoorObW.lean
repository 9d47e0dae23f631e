/- Stage 11: an object added. -/
import Derived.Test.YtcfknfiddadgbaaDoorObU
import Derived.Test.YtcfknfiddadgbaaDoorZFa
namespace Go.Proofs.YtcfknfiddadgbaaDoor
open Go.RowKit

/-- Only the operation 'q' changes the row. -/
def GR (q : Nat) (A : Option Addr) (j : Nat) : World → World → Prop := if j = q then Kept (AtRow A) else Kept (fun _ => False)
theorem GR.zero {q : Nat} {A : Option Addr} (j : Nat) (w w' : World) (h : GR q A j w w') : Kept (AtRow A) w w' := by
  unfold GR at h
  split at h
  · exact h
  · exact h.mono (fun _ _ h => h.elim)
theorem GR.refl {q : Nat} {A : Option Addr} (j : Nat) (w : World) : GR q A j w w := by
  unfold GR
  split <;> exact Kept.refl _ _
theorem GR.grew {q : Nat} {A : Option Addr} {j : Nat} {w w' : World} (h : Grew w w') : GR q A j w w' := by
  unfold GR
  split <;> exact Kept.of_grew h
theorem item_info : (Tryd.prog.info? 71).map (fun i => (i.zero, i.size, i.bytes)) = some (some (.agg #[.int .i64 0, .int .i64 0, .slice none 0 0, .string ⟨#[]⟩, .int .i64 0]), 5, 64) := by kernel_rfl
/-- What lies in a new block: an object's fields. -/
def NewF (w0 w : World) (o : Ob.Obj) (b : Nat) : Prop := w0.heap.size ≤ b ∧ Blk w b 39 (o.f.flatMap valF).toArray
theorem NewF.kept {F : Nat → Prop} {w0 w w' : World} {o : Ob.Obj} {b : Nat} (h : NewF w0 w o b) (hk : Kept F w w') (hF : ∀ k, F k → k < w0.heap.size) : NewF w0 w' o b := ⟨h.1, h.2.kept hk (fun hf => by have h1 := hF _ hf; have h2 := h.1; omega)⟩
def AF (w0 : World) (B sg gx j cj : Nat) (A : Option Addr) (n ca : Nat) (o : Ob.Obj) (A0 : Option Addr) (m c0 : Nat) (ys : List Value) (k : Nat) (v : Value) (w : World) : Prop := match k with
  | 3 => v = .pointer (some ⟨sg, 1, none⟩)
  | 4 => v = .slice A n ca
  | 5 => v = .agg #[.int .i64 o.cls, .int .i64 o.lev, .slice A0 m c0, .string o.b]
  | 6 => ∃ b, v = .agg #[.int .i64 o.cls, .int .i64 o.lev, .slice (some ⟨b, 0, none⟩) m m, .string o.b] ∧ NewF w0 w o b
  | 8 => v = .pointer (some ⟨gx, 1, none⟩)
  | 9 => v = .int .i64 ((j : Nat) : Int)
  | 11 => v = .pointer (some ⟨sg, 2, none⟩)
  | 12 => v = .pointer (some ⟨sg, 2 + j, none⟩)
  | 13 => v = .int .i64 ((cj : Nat) : Int)
  | 14 => ∃ b, v = .agg #[.int .i64 o.cls, .int .i64 o.lev, .slice (some ⟨b, 0, none⟩) m m, .string o.b, .int .i64 ((cj : Nat) : Int)] ∧ NewF w0 w o b
  | 15 => ∃ b H, v = .slice (some ⟨H, 0, none⟩) 1 1 ∧ NewF w0 w o b ∧ Blk w H 71 #[.int .i64 o.cls, .int .i64 o.lev, .slice (some ⟨b, 0, none⟩) m m, .string o.b, .int .i64 ((cj : Nat) : Int)] ∧ w0.heap.size ≤ H
  | 16 => ∃ b A' c', v = .slice A' (n + 1) c' ∧ NewF w0 w o b ∧ Row w B 71 5 A' (n + 1) c' (ys ++ [.int .i64 o.cls, .int .i64 o.lev, .slice (some ⟨b, 0, none⟩) m m, .string o.b, .int .i64 ((cj : Nat) : Int)]) ∧ RowTo w0 A A' ∧ ¬ AtRow A' b
  | 18 => v = .pointer (some ⟨sg, 1, none⟩)
  | _ => v = .pointer (some ⟨sg, 0, none⟩)
theorem AF.stable {w0 : World} {B sg gx j cj : Nat} {A : Option Addr} {n ca : Nat} {o : Ob.Obj} {A0 : Option Addr} {m c0 : Nat} {ys : List Value} (hA : ∀ k, AtRow A k → k < w0.heap.size)
    (a b : Nat) (v : Value) (w w' : World) (hab : a ≠ b) (h : AF w0 B sg gx j cj A n ca o A0 m c0 ys a v w) (hr : GR 16 A b w w') : AF w0 B sg gx j cj A n ca o A0 m c0 ys a v w' := by
  have h0 := GR.zero b w w' hr
  unfold AF at h ⊢
  split at h
  · exact h
  · exact h
  · exact h
  · obtain ⟨x, h1, h2⟩ := h
    exact ⟨x, h1, h2.kept h0 hA⟩
  · exact h
  · exact h
  · exact h
  · exact h
  · exact h
  · obtain ⟨x, h1, h2⟩ := h
    exact ⟨x, h1, h2.kept h0 hA⟩
  · obtain ⟨x, H, h1, h2, h3, h4⟩ := h
    exact ⟨x, H, h1, h2.kept h0 hA, h3.kept h0 (fun hk => by have := hA _ hk; omega), h4⟩
  · obtain ⟨x, A', c', h1, h2, h3, h4, h5⟩ := h
    refine ⟨x, A', c', h1, h2.kept h0 hA, ?_, h4, h5⟩
    unfold GR at hr
    rw [if_neg (fun e => hab e.symm)] at hr
    exact h3.kept hr (fun q hq e => e)
  · exact h
  · exact h
def AJ (B sg gx : Nat) (A : Option Addr) (n ca : Nat) (ys : List Value) (bs bx : Array Value) (f : Nat → Bool) (w : World) : Prop :=
  (f 16 = false → Row w B 71 5 A n ca ys) ∧ Blk w sg 75 bs ∧ Blk w gx 28 bx
theorem AJ.pure {B sg gx : Nat} {A : Option Addr} {n ca : Nat} {ys : List Value} {bs bx : Array Value} {f : Nat → Bool} {w : World} (h : AJ B sg gx A n ca ys bs bx f w) (j : Nat) : AJ B sg gx A n ca ys bs bx (updF f j) w := by
  refine ⟨fun h5 => h.1 ?_, h.2⟩
  unfold updF at h5
  split at h5
  · cases h5
  · exact h5
theorem AJ.grew {B sg gx : Nat} {A : Option Addr} {n ca : Nat} {ys : List Value} {bs bx : Array Value} {f : Nat → Bool} {w w' : World} (h : AJ B sg gx A n ca ys bs bx f w) (hg : Grew w w') : AJ B sg gx A n ca ys bs bx f w' :=
  ⟨fun h5 => (h.1 h5).grew hg, h.2.1.grew hg, h.2.2.grew hg⟩
theorem AJ.app {B sg gx : Nat} {A : Option Addr} {n ca : Nat} {ys : List Value} {bs bx : Array Value} {f : Nat → Bool} {w w' : World} (h : AJ B sg gx A n ca ys bs bx f w) (hk : Kept (AtRow A) w w') (h1 : ¬ AtRow A sg) (h2 : ¬ AtRow A gx) : AJ B sg gx A n ca ys bs bx (updF f 16) w' := by
  refine ⟨fun (h5 : updF f 16 16 = false) => ?_, h.2.1.kept hk h1, h.2.2.kept hk h2⟩
  unfold updF at h5
  rw [if_pos rfl] at h5
  cases h5
/-- The Store with one more object. -/
def addS (s : SV) (A' : Option Addr) (c' : Nat) (o : Ob.Obj) (b : Nat) : SV := { s with A := A', ca := c', its := s.its ++ [⟨o, b, Ob.cnt (objsI s.its) o.lev⟩] }
/-- What 'add' leaves. -/
def AddIn (w : World) (B : Nat) (s : SV) (o : Ob.Obj) (w' : World) : Prop := ∃ s', StoreAt w' B s' ∧ s'.g = s.g ∧ s'.up = s.up ∧ s'.U = s.U ∧ objsI s'.its = objsI s.its ++ [o] ∧ Kept (Owns s) w w' ∧ ∀ k, Owns s' k → Owns s k ∨ w.heap.size ≤ k
theorem st_count (s : SV) (j : Nat) (hj : j < 8) : (stCells s)[2 + j]? = some (cV s j) := by
  rcases (by omega : j = 0 ∨ j = 1 ∨ j = 2 ∨ j = 3 ∨ j = 4 ∨ j = 5 ∨ j = 6 ∨ j = 7) with rfl | rfl | rfl | rfl | rfl | rfl | rfl | rfl <;> rfl
theorem st_len (s : SV) : (stCells s).size = 10 := rfl
/-- The cells of it, after the two stores. -/
theorem st_add (s : SV) (A' : Option Addr) (c' : Nat) (o : Ob.Obj) (b j : Nat) (hj : j < 8) (ho : o.lev = (j : Int)) : ((stCells s).setIfInBounds 1 (.slice A' (s.its.length + 1) c')).setIfInBounds (2 + j) (.int .i64 ((Ob.cnt (objsI s.its) (j : Int) + 1 : Nat) : Int)) = stCells (addS s A' c' o b) := by
  have e : ∀ i : Nat, cV (addS s A' c' o b) i = if i = j then .int .i64 ((Ob.cnt (objsI s.its) (j : Int) + 1 : Nat) : Int) else cV s i := by
    intro i
    unfold cV addS
    simp only [objsI_snoc, Ob.cnt_snoc, ho]
    by_cases h : i = j
    · subst h; simp
    · have h2 : ¬ (j : Int) = (i : Int) := by omega
      rw [if_neg h2, if_neg h, Nat.add_zero]
  unfold stCells
  simp only [e]
  rcases (by omega : j = 0 ∨ j = 1 ∨ j = 2 ∨ j = 3 ∨ j = 4 ∨ j = 5 ∨ j = 6 ∨ j = 7) with rfl | rfl | rfl | rfl | rfl | rfl | rfl | rfl <;> simp [addS]
/-- What is left is a Store. -/
theorem add_in {w w1 w2 : World} {B : Nat} {s : SV} (h : StoreAt w B s) {o : Ob.Obj} {A' : Option Addr} {c' b : Nat} (hm : Ob.mayB s.up.length o = true) (hn : s.its.length < 65536)
    (hk : Kept (AtRow s.A) w w1) (hb : NewF w w1 o b) (hr : Row w1 B 71 5 A' (s.its.length + 1) c' (s.its.flatMap itF ++ itF ⟨o, b, Ob.cnt (objsI s.its) o.lev⟩)) (ht : RowTo w s.A A') (hA : ¬ AtRow A' b)
    (hs : Blk w2 s.g 75 (stCells (addS s A' c' o b))) (hk2 : Kept (· = s.g) w1 w2) : AddIn w B s o w2 := by
  have hB : B ≤ w.heap.size := Nat.le_trans h.low (Nat.le_of_lt h.blk.lt)
  have hk3 : Kept (Owns s) w w2 := (hk.mono (fun k _ hk => .inr (.inl hk))).next hk2 (fun k _ e => .inl e)
  have hto : ∀ k, AtRow A' k → AtRow s.A k ∨ w.heap.size ≤ k := by
    intro k hk
    rcases ht with e | ⟨q, e1, e2⟩
    · rw [e] at hk; exact .inl hk
    · obtain ⟨ad, h1, h2⟩ := hk
      rw [e1] at h1
      cases h1
      exact .inr (by subst h2; exact e2)
  have hown : ∀ k, Owns (addS s A' c' o b) k → Owns s k ∨ w.heap.size ≤ k := by
    intro k hk
    rcases hk with h1 | h1 | ⟨x, hx, h1⟩
    · exact .inl (.inl h1)
    · rcases hto k h1 with h2 | h2
      · exact .inl (.inr (.inl h2))
      · exact .inr h2
    · rcases List.mem_append.1 hx with hx | hx
      · exact .inl (.inr (.inr ⟨x, hx, h1⟩))
      · obtain rfl := List.mem_singleton.1 hx
        exact .inr (by rw [← h1]; exact hb.1)
  have hne : ∀ k, AtRow A' k → k ≠ s.g := by
    intro k hk e
    subst e
    rcases hto _ hk with h1 | h1
    · exact h.rowNe h1
    · have := h.blk.lt; omega
  refine ⟨addS s A' c' o b, ⟨hs, h.low, ⟨h.up.1, fun hl => ?_⟩, ?_, h.valid, ?_, fun hk => hne _ hk rfl, ?_, ?_, ?_, ?_, ?_⟩, rfl, rfl, rfl, objsI_snoc _ _, hk3, hown⟩
  · obtain ⟨ad, h1, h2, h3⟩ := h.up.2 hl
    exact ⟨ad, h1, Nat.lt_of_lt_of_le h2 hk3.size, fun j hj => (hk3.cell (by rw [block_add]; exact h2) (by rw [block_add]; exact h.upNe ad h1)).trans (h3 j hj)⟩
  · intro ad h1 h2
    have h1' : s.U = some ad := h1
    rcases hown _ h2 with h3 | h3
    · exact h.upNe ad h1' h3
    · have hp : 0 < s.up.length := (La.valid_spec h.valid).1
      obtain ⟨ad', h4, h5, _⟩ := h.up.2 hp
      rw [h1'] at h4
      cases h4
      omega
  · show Row w2 B 71 5 A' (s.its ++ [_]).length c' ((s.its ++ [_]).flatMap itF)
    rw [List.length_append, List.flatMap_append]
    simpa using hr.kept hk2 (fun q hq e => hne q ⟨_, hq, rfl⟩ e)
  · intro x hx
    have hx' : x ∈ s.its ++ [⟨o, b, Ob.cnt (objsI s.its) o.lev⟩] := hx
    rcases List.mem_append.1 hx' with hx | hx
    · obtain ⟨h1, h2, h3, h4⟩ := h.fb x hx
      refine ⟨h1, (h2.kept hk h4).kept hk2 h3, h3, fun h5 => ?_⟩
      rcases hto _ h5 with h6 | h6
      · exact h4 h6
      · have := h2.lt; omega
    · obtain rfl := List.mem_singleton.1 hx
      have hbg : b ≠ s.g := by have := hb.1; have := h.blk.lt; omega
      exact ⟨Nat.le_trans hB hb.1, hb.2.kept hk2 hbg, hbg, hA⟩
  · intro i k x y hx hy he
    have hx' : (s.its ++ [⟨o, b, Ob.cnt (objsI s.its) o.lev⟩])[i]? = some x := hx
    have hy' : (s.its ++ [⟨o, b, Ob.cnt (objsI s.its) o.lev⟩])[k]? = some y := hy
    have hlast : ∀ (i : Nat) (x : IT), (s.its ++ [⟨o, b, Ob.cnt (objsI s.its) o.lev⟩])[i]? = some x → (s.its[i]? = some x ∧ x.b < w.heap.size) ∨ (i = s.its.length ∧ x.b = b) := by
      intro i x hx
      rcases Nat.lt_trichotomy i s.its.length with hl | hl | hl
      · rw [List.getElem?_append_left hl] at hx
        exact .inl ⟨hx, (h.fb x (List.mem_of_getElem? hx)).2.1.lt⟩
      · subst hl
        simp at hx
        exact .inr ⟨rfl, by rw [← hx]⟩
      · rw [List.getElem?_eq_none (by simp; omega)] at hx
        cases hx
    rcases hlast i x hx' with ⟨h1, h2⟩ | ⟨h1, h2⟩ <;> rcases hlast k y hy' with ⟨h3, h4⟩ | ⟨h3, h4⟩
    · exact h.dis i k x y h1 h3 he
    · have := hb.1; omega
    · have := hb.1; omega
    · omega
  · intro i x hx
    have hx' : (s.its ++ [⟨o, b, Ob.cnt (objsI s.its) o.lev⟩])[i]? = some x := hx
    show x.h = Ob.hash (objsI (s.its ++ [⟨o, b, Ob.cnt (objsI s.its) o.lev⟩])) i
    rw [objsI_snoc]
    rcases Nat.lt_trichotomy i s.its.length with hl | hl | hl
    · rw [List.getElem?_append_left hl] at hx'
      rw [Ob.hash_app _ (by rw [objsI_len]; exact hl)]
      exact h.hs i x hx'
    · subst hl
      simp at hx'
      rw [← objsI_len, Ob.hash_new, ← hx']
    · rw [List.getElem?_eq_none (by simp; omega)] at hx'
      cases hx'
  · intro x hx
    have hx' : x ∈ s.its ++ [⟨o, b, Ob.cnt (objsI s.its) o.lev⟩] := hx
    rcases List.mem_append.1 hx' with hx | hx
    · exact h.ok x hx
    · obtain rfl := List.mem_singleton.1 hx
      exact hm
  · show (s.its ++ [_]).length ≤ 65536
    rw [List.length_append]
    simp; omega
end Go.Proofs.YtcfknfiddadgbaaDoor

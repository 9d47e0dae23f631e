/- Plain mathematics of methods: which of them are valid. No program is named here. -/
import Derived.Test.YtjdgcgpidhljpaaGreatDoorMtP
import Derived.Test.YtjdgcgpidhljpaaGreatDoorMtE
import Derived.Test.YtjdgcgpidhljpaaGreatDoorYLgM
import Derived.Test.YtjdgcgpidhljpaaGreatDoorYOpM
namespace Go.Proofs.YtjdgcgpidhljpaaGreatDoor.Mt
open Go.RowKit Pk

/-- The numeral of a valid number. -/
def Numeral (s : ByteArray) : Prop := ∃ ng L, Lg.ParseOut (Lg.bytes s) ng L 0
def arityS (s : ByteArray) : Option Nat := arity (natsOf s)
def LitOk (x : Lit) : Prop := (x.k = 0 ∧ Numeral x.s) ∨ (x.k = 1 ∧ x.s.size ≤ 1024) ∨ (x.k = 2 ∧ (arityS x.s).isSome = true)
/-- The part that is so many steps outward; below 0: there is none. -/
def up (ps : List Part) : Nat → Int → Int
  | 0, p => p
  | k + 1, p => if p < 0 then p else up ps k ((ps[p.toNat]?).elim (-1) (·.outer))
/-- May an instruction stand in part p? -/
def fits (m : Meth) (p : Nat) (o : Op7.Ins) (vars classes : Int) : Bool :=
  if o.code = 4 then (m.lits[o.a.toNat]?).elim false (fun x => !(decide (x.k = 2)))
  else if o.code = 11 ∨ o.code = 12 then (m.lits[o.a.toNat]?).elim false (fun x => decide (x.k = 2) && decide (arityS x.s = some o.b.toNat))
  else if o.code = 5 ∨ o.code = 6 then (if up m.parts o.a.toNat p < 0 then false else (m.parts[(up m.parts o.a.toNat p).toNat]?).elim false (fun x => decide (o.b < x.temps)))
  else if o.code = 7 ∨ o.code = 8 then decide (o.a < vars)
  else if o.code = 20 then decide (o.a < classes)
  else if o.code = 16 then (m.parts[o.a.toNat]?).elim false (fun x => decide (x.outer = p))
  else if o.code = 19 then !(decide (p = 0))
  else if o.code = 18 then decide (p = 0)
  else true
def outerOk (outer : Int) (i : Nat) : Bool := if i = 0 then decide (outer = -1) else decide (0 ≤ outer) && decide (outer ≤ (i : Int) - 1)
def headOk (p : Part) (i : Nat) : Bool := outerOk p.outer i && (decide (0 ≤ p.args) && decide (p.args ≤ 8)) && (decide (p.args ≤ p.temps) && decide (p.temps ≤ 16))
/-- The fields of the parts other than Code. -/
def HeadsOk (ps : List Part) : Prop := ∀ i p, ps[i]? = some p → headOk p i = true
def PartsOk (ps : List Part) : Prop := 1 ≤ ps.length ∧ ps.length ≤ 64 ∧ HeadsOk ps
/-- The code of part p. -/
def CodeOk (m : Meth) (p : Nat) (code : List Nat) (vars classes : Int) : Prop := ∃ l os G D, Fl.Well code l os G D ∧ l.all (fun o => fits m p o vars classes) = true
/-- A method that is valid. -/
structure May (m : Meth) (vars classes : Int) : Prop where
  sel : (arityS m.sel).isSome = true
  few : m.lits.length ≤ 64
  lits : ∀ x ∈ m.lits, LitOk x
  parts : PartsOk m.parts
  args : (m.parts[0]?).map (·.args) = (arityS m.sel).map (fun n => (n : Int))
  code : ∀ i p, m.parts[i]? = some p → CodeOk m i p.code vars classes

theorem fits_more {m : Meth} {p : Nat} {o : Op7.Ins} {v c v' c' : Int} (hv : v ≤ v') (hc : c ≤ c') (h : fits m p o v c = true) : fits m p o v' c' = true := by
  unfold fits at h ⊢
  split at h
  · rw [if_pos (by assumption)]; exact h
  · rw [if_neg (by assumption)]
    split at h
    · rw [if_pos (by assumption)]; exact h
    · rw [if_neg (by assumption)]
      split at h
      · rw [if_pos (by assumption)]; exact h
      · rw [if_neg (by assumption)]
        split at h
        · rw [if_pos (by assumption)]; rw [decide_eq_true_iff] at h ⊢; omega
        · rw [if_neg (by assumption)]
          split at h
          · rw [if_pos (by assumption)]; rw [decide_eq_true_iff] at h ⊢; omega
          · rw [if_neg (by assumption)]; exact h
theorem May.more {m : Meth} {v c v' c' : Int} (h : May m v c) (hv : v ≤ v') (hc : c ≤ c') : May m v' c' :=
  ⟨h.sel, h.few, h.lits, h.parts, h.args, fun i p hp => by
    obtain ⟨l, os, G, D, h1, h2⟩ := h.code i p hp
    refine ⟨l, os, G, D, h1, List.all_eq_true.2 fun o ho => fits_more hv hc (List.all_eq_true.1 h2 o ho)⟩⟩
theorem Numeral.short {s : ByteArray} (h : Numeral s) : s.size ≤ 1024 := by
  obtain ⟨ng, L, h⟩ := h
  cases hf : Lg.formOk (Lg.signOf (Lg.bytes s)) (Lg.restOf (Lg.bytes s))
  · have := (h.no hf).1
    omega
  · simp only [Lg.formOk, Bool.and_eq_true, decide_eq_true_eq] at hf
    have h1 := hf.1.1.1.2
    have h2 := Lg.bytes_len s
    unfold Lg.restOf at h1
    split at h1
    · rw [List.length_drop] at h1; omega
    · omega
theorem arity_short {s : ByteArray} {n : Nat} (h : arityS s = some n) : s.size ≤ 64 := by
  have := (arity_some h).1
  rwa [natsOf_len] at this
theorem LitOk.fits {x : Lit} (h : LitOk x) : litFits x = true := by
  simp only [litFits, Bool.and_eq_true, decide_eq_true_eq]
  rcases h with ⟨h1, h2⟩ | ⟨h1, h2⟩ | ⟨h1, h2⟩
  · have := h2.short; omega
  · omega
  · obtain ⟨n, hn⟩ := Option.isSome_iff_exists.1 h2
    have := arity_short hn; omega
/-- What is valid is encodable. -/
theorem May.fits {m : Meth} {v c : Int} (h : May m v c) : fitsAll m = true := by
  obtain ⟨n, hn⟩ := Option.isSome_iff_exists.1 h.sel
  have h0 := arity_short hn
  have h1 := h.few
  have h2 := h.parts.2.1
  simp only [fitsAll, Bool.and_eq_true, decide_eq_true_eq]
  refine ⟨by omega, h1, List.all_eq_true.2 fun x hx => (h.lits x hx).fits, h2, List.all_eq_true.2 fun p hp => ?_⟩
  obtain ⟨i, hi, rfl⟩ := List.mem_iff_getElem.1 hp
  have hg : m.parts[i]? = some m.parts[i] := List.getElem?_eq_getElem hi
  have h3 := h.parts.2.2 i _ hg
  obtain ⟨l, os, G, D, h4, _⟩ := h.code i _ hg
  have h5 : m.parts[i].code.length ≤ 512 := by
    have h6 := h4.dec
    unfold Op7.decR at h6
    split at h6
    · cases h6
    · omega
  simp only [headOk, Bool.and_eq_true, decide_eq_true_eq] at h3
  obtain ⟨⟨h6, h7, h8⟩, h9, h10⟩ := h3
  have h11 : -1 ≤ m.parts[i].outer ∧ m.parts[i].outer ≤ 63 := by
    unfold outerOk at h6
    split at h6
    · rw [decide_eq_true_iff] at h6; omega
    · simp only [Bool.and_eq_true, decide_eq_true_eq] at h6
      omega
  simp only [partFits, Bool.and_eq_true, decide_eq_true_eq]
  omega
end Go.Proofs.YtjdgcgpidhljpaaGreatDoor.Mt

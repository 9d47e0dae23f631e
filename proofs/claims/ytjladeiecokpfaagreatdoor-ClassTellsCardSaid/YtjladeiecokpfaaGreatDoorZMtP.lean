/- Parts of elder texts that this layer needs, joined: XMtP XMtE XMtQ. -/
import Derived.Test.YtjladeiecokpfaaGreatDoorZBase
import Derived.Test.YtjladeiecokpfaaGreatDoorZViM
import Derived.Test.YtjladeiecokpfaaGreatDoorZLgM
import Derived.Test.YtjladeiecokpfaaGreatDoorZOpM
namespace Go.Proofs.YtjladeiecokpfaaGreatDoor.Mt
open Go.RowKit

def small (x : Nat) : Bool := decide (97 ≤ x) && decide (x ≤ 122)
def capital (x : Nat) : Bool := decide (65 ≤ x) && decide (x ≤ 90)
def digit (x : Nat) : Bool := decide (48 ≤ x) && decide (x ≤ 57)
def letter (x : Nat) : Bool := small x || capital x || digit x
/-- The characters of a binary selector. -/
def signs : List Nat := [43, 45, 42, 47, 92, 60, 62, 61, 126, 44]
def sign (x : Nat) : Bool := signs.contains x
def isName (l : List Nat) : Bool := match l with
  | [] => false
  | x :: r => small x && (x :: r).all letter
def isBin (l : List Nat) : Bool := decide (1 ≤ l.length) && decide (l.length ≤ 2) && l.all sign
/-- What stands between the colons. -/
def split : List Nat → List (List Nat)
  | [] => [[]]
  | x :: r => if x = 58 then [] :: split r else match split r with
    | [] => [[x]]
    | a :: t => (x :: a) :: t
def keys (l : List Nat) : Option Nat := if (split l).length ≤ 8 ∧ (split l).all isName = true then some (split l).length else none
/-- How many arguments a selector takes. -/
def arity (l : List Nat) : Option Nat :=
  if 64 < l.length then none
  else if l.getLast? = some 58 then keys l.dropLast
  else if isBin l then some 1
  else if isName l then some 0 else none

theorem split_ne (l : List Nat) : split l ≠ [] := by
  cases l with
  | nil => simp [split]
  | cons x r =>
    unfold split
    split
    · simp
    · split <;> simp
theorem letter_colon : letter 58 = false := by decide
theorem sign_colon : sign 58 = false := by decide
theorem small_letter {x : Nat} (h : small x = true) : letter x = true := by simp [letter, h]
theorem isName_all {l : List Nat} (h : isName l = true) : l.all letter = true ∧ l ≠ [] := by
  cases l with
  | nil => cases h
  | cons x r =>
    simp only [isName, Bool.and_eq_true] at h
    exact ⟨h.2, by simp⟩
theorem no_colon {l : List Nat} (h : l.all letter = true) : 58 ∉ l := fun hm => by
  have := List.all_eq_true.1 h 58 hm
  rw [letter_colon] at this
  cases this
theorem split_one {l : List Nat} (h : 58 ∉ l) : split l = [l] := by
  induction l with
  | nil => rfl
  | cons x r ih =>
    simp only [List.mem_cons, not_or] at h
    unfold split
    rw [if_neg (fun e => h.1 e.symm), ih h.2]
theorem split_two {a b : List Nat} (h : 58 ∉ a) : split (a ++ 58 :: b) = a :: split b := by
  induction a with
  | nil => simp [split]
  | cons x r ih =>
    simp only [List.mem_cons, not_or] at h
    rw [List.cons_append]
    show (if x = 58 then [] :: split (r ++ 58 :: b) else match split (r ++ 58 :: b) with
    | [] => [[x]]
    | a :: t => (x :: a) :: t) = _
    rw [if_neg (fun e => h.1 e.symm), ih h.2]
theorem arity_some {l : List Nat} {n : Nat} (h : arity l = some n) : l.length ≤ 64 ∧ n ≤ 8 := by
  unfold arity at h
  split at h
  · cases h
  · refine ⟨by omega, ?_⟩
    split at h
    · unfold keys at h
      split at h
      · rename_i hk; cases h; exact hk.1
      · cases h
    · split at h
      · cases h; decide
      · split at h
        · cases h; decide
        · cases h
/-- What takes no argument is a name. -/
theorem arity_zero {l : List Nat} (h : arity l = some 0) : isName l = true ∧ l.length ≤ 64 := by
  refine ⟨?_, (arity_some h).1⟩
  unfold arity at h
  split at h
  · cases h
  · split at h
    · unfold keys at h
      split at h
      · simp only [Option.some.injEq] at h
        exact absurd (List.length_eq_zero_iff.1 h) (split_ne _)
      · cases h
    · split at h
      · cases h
      · split at h
        · assumption
        · cases h
theorem arity_one {l : List Nat} (h : isName l = true) : arity (l ++ [58]) = if l.length < 64 then some 1 else none := by
  have h1 := isName_all h
  unfold arity
  rw [List.length_append, List.length_singleton, List.getLast?_concat, List.dropLast_concat]
  by_cases hl : l.length < 64
  · rw [if_neg (by omega), if_pos rfl, if_pos hl]
    unfold keys
    rw [split_one (no_colon h1.1)]
    simp [h]
  · rw [if_pos (by omega), if_neg hl]
theorem arity_two {s t : List Nat} (h : isName s = true) (g : isName t = true) : arity (s ++ [58] ++ t ++ [58]) = if s.length + t.length < 63 then some 2 else none := by
  have h1 := isName_all h
  have g1 := isName_all g
  unfold arity
  rw [List.getLast?_concat, List.dropLast_concat]
  have hl : (s ++ [58] ++ t ++ [58]).length = s.length + t.length + 2 := by simp; omega
  rw [hl]
  by_cases hl : s.length + t.length < 63
  · rw [if_neg (by omega), if_pos rfl, if_pos hl]
    unfold keys
    rw [List.append_assoc, List.singleton_append, split_two (no_colon h1.1), split_one (no_colon g1.1)]
    simp [h, g]
  · rw [if_pos (by omega), if_neg hl]
theorem arity_none {s t : List Nat} (_h : isName s = true) (g : isName t = true) : arity (s ++ [58] ++ t) = none := by
  have g1 := isName_all g
  unfold arity
  split
  · rfl
  · have hl : (s ++ [58] ++ t).getLast? ≠ some 58 := by
      intro e
      rw [List.getLast?_append] at e
      cases hg : t.getLast? with
      | none => exact g1.2 (List.getLast?_eq_none_iff.1 hg)
      | some y =>
        rw [hg] at e
        have e2 : y = 58 := Option.some.inj e
        subst e2
        exact no_colon g1.1 (List.mem_of_getLast? hg)
    rw [if_neg hl]
    have h58 : (58 : Nat) ∈ s ++ [58] ++ t := by simp
    have hb : isBin (s ++ [58] ++ t) = false := by
      cases hb : isBin (s ++ [58] ++ t)
      · rfl
      · simp only [isBin, Bool.and_eq_true] at hb
        have := List.all_eq_true.1 hb.2 58 h58
        rw [sign_colon] at this
        cases this
    have hn : isName (s ++ [58] ++ t) = false := by
      cases hn : isName (s ++ [58] ++ t)
      · rfl
      · exact absurd h58 (no_colon (isName_all hn).1)
    rw [hb, hn]
    rfl
end Go.Proofs.YtjladeiecokpfaaGreatDoor.Mt
namespace Go.Proofs.YtjladeiecokpfaaGreatDoor.Mt
open Go.RowKit Pk

/-- A literal. -/
structure Lit where
  k : Nat
  s : ByteArray
deriving DecidableEq
/-- A part. -/
structure Part where
  outer : Int
  args : Int
  temps : Int
  code : List Nat
deriving DecidableEq
/-- A method. -/
structure Meth where
  sel : ByteArray
  lits : List Lit
  parts : List Part
deriving DecidableEq
def encText (s : List Nat) : List Nat := Vi.enc (s.length : Int) ++ s
def encLit (x : Lit) : List Nat := Vi.enc (x.k : Int) ++ encText (natsOf x.s)
def encLits (l : List Lit) : List Nat := l.flatMap encLit
def encPart (p : Part) : List Nat := Vi.enc p.outer ++ (Vi.enc p.args ++ (Vi.enc p.temps ++ encText p.code))
def encParts (l : List Part) : List Nat := l.flatMap encPart
/-- The fields of a method. -/
def enc (m : Meth) : List Nat := encText (natsOf m.sel) ++ (Vi.enc (m.lits.length : Int) ++ (encLits m.lits ++ (Vi.enc (m.parts.length : Int) ++ encParts m.parts)))
def litFits (x : Lit) : Bool := decide (x.k ≤ 2) && decide (x.s.size ≤ 1024)
def partFits (p : Part) : Bool := decide (-1 ≤ p.outer) && decide (p.outer ≤ 63) && decide (0 ≤ p.args) && decide (p.args ≤ 16) && decide (0 ≤ p.temps) && decide (p.temps ≤ 16) && decide (p.code.length ≤ 512)
/-- Is it encodable? -/
def fitsAll (m : Meth) : Bool := decide (m.sel.size ≤ 1024) && (decide (m.lits.length ≤ 64) && (m.lits.all litFits && (decide (m.parts.length ≤ 64) && m.parts.all partFits)))
theorem num_sound {r r' : List Nat} {a b n : Int} (h : num r a b = some (n, r')) : Vi.I64 n ∧ a ≤ n ∧ n ≤ b ∧ r = Vi.enc n ++ r' := by
  unfold num at h
  split at h
  · rename_i hc
    simp only [Option.some.injEq, Prod.mk.injEq] at h
    obtain ⟨h1, h2⟩ := h
    have hne : Vi.getL r ≠ [] := by
      intro e
      have := hc.1
      unfold Vi.getE at this
      rw [if_pos e] at this
      cases this
    have hn : n = Vi.val (Vi.getL r) := by
      rw [← h1]; unfold Vi.getN; rw [if_neg hne]
    have he : Vi.enc (Vi.val (Vi.getL r)) = Vi.getL r := by
      cases hcut : Vi.cut 10 r with
      | none => exact absurd (Vi.getL_none hcut) hne
      | some l =>
        by_cases e : Vi.enc (Vi.val l) = l
        · rw [Vi.getL_yes hcut e]; exact e
        · exact absurd (Vi.getL_no hcut e) hne
    have hp : Vi.getL r <+: r := getL_prefix r
    refine ⟨?_, by omega, by omega, ?_⟩
    · rw [hn]; exact Vi.wrap64_bounds _
    · rw [hn, he, ← h2]
      exact (List.prefix_iff_eq_append.1 hp).symm
  · cases h
theorem int_some {st : St} {a b n : Int} {r : List Nat} (h : int st a b = (n, some r)) : Vi.I64 n ∧ a ≤ n ∧ n ≤ b ∧ st = some (Vi.enc n ++ r) := by
  unfold int at h
  split at h
  · rename_i n2 r2 hb
    simp only [Prod.mk.injEq, Option.some.injEq] at h
    obtain ⟨rfl, rfl⟩ := h
    obtain ⟨r0, h0, h1⟩ := Option.bind_eq_some_iff.1 hb
    obtain ⟨h2, h3, h4, h5⟩ := num_sound h1
    exact ⟨h2, h3, h4, by rw [h0, h5]⟩
  · cases h
theorem text_some {st : St} {m : Int} {s r : List Nat} (h : text st m = (s, some r)) : (s.length : Int) ≤ m ∧ st = some (encText s ++ r) := by
  unfold text at h
  split at h
  · rename_i n r0 hc
    simp only [Prod.mk.injEq, Option.some.injEq] at h
    obtain ⟨rfl, rfl⟩ := h
    have hr := count_range hc
    unfold count at hc
    split at hc
    · rename_i n' r' he
      split at hc
      · cases hc
      · simp only [Prod.mk.injEq, Option.some.injEq] at hc
        obtain ⟨rfl, rfl⟩ := hc
        obtain ⟨h1, h2, h3, h4⟩ := int_some he
        have hl : (r'.take n'.toNat).length = n'.toNat := by rw [List.length_take]; omega
        refine ⟨by rw [hl]; omega, ?_⟩
        rw [h4, encText, hl, show ((n'.toNat : Nat) : Int) = n' by omega, List.append_assoc, List.take_append_drop]
    · cases hc
  · cases h
/-- A literal read. -/
def litR (st : St) : Lit × St := (⟨(int st 0 2).1.toNat, strB (text (int st 0 2).2 1024).1⟩, (text (int st 0 2).2 1024).2)
def litsR : Nat → St → List Lit × St
  | 0, st => ([], st)
  | k + 1, st => ((litsR k st).1 ++ [(litR (litsR k st).2).1], (litR (litsR k st).2).2)
/-- A part read. -/
def partR (st : St) : Part × St :=
  let a := int st (-1) 63
  let b := int a.2 0 16
  let c := int b.2 0 16
  let d := text c.2 512
  (⟨a.1, b.1, c.1, d.1⟩, d.2)
def partsR : Nat → St → List Part × St
  | 0, st => ([], st)
  | k + 1, st => ((partsR k st).1 ++ [(partR (partsR k st).2).1], (partR (partsR k st).2).2)
/-- A method read: what was read, and what is left. -/
def dec (st : St) : Meth × St :=
  let s := text st 1024
  let n := int s.2 0 64
  let l := litsR n.1.toNat n.2
  let k := int l.2 0 64
  let p := partsR k.1.toNat k.2
  (⟨strB s.1, l.1, p.1⟩, p.2)

theorem strB_size (l : List Nat) : (strB l).size = l.length := by
  unfold strB ByteArray.size
  simp
def Low (st : St) : Prop := ∀ r, st = some r → ∀ x ∈ r, x < 256
/-- What bytes are the encoding of. -/
def decode (b : List Nat) : Option Meth := if (dec (some b)).2 = some [] then some (dec (some b)).1 else none
end Go.Proofs.YtjladeiecokpfaaGreatDoor.Mt
namespace Go.Proofs.YtjladeiecokpfaaGreatDoor.Mt
open Go.RowKit Pk

/-- The numeral of a valid number. -/
def Numeral (s : ByteArray) : Prop := ∃ ng L, Lg.ParseOut (Lg.bytes s) ng L 0
def arityS (s : ByteArray) : Option Nat := arity (natsOf s)
def LitOk (x : Lit) : Prop := (x.k = 0 ∧ Numeral x.s) ∨ (x.k = 1 ∧ x.s.size ≤ 1024) ∨ (x.k = 2 ∧ (arityS x.s).isSome = true)
/-- The part that is so many steps outward; below 0: there is none. -/
def up (ps : List Part) : Nat → Int → Int
  | 0, p => p
  | k + 1, p => if p < 0 then p else up ps k ((ps[p.toNat]?).elim (-1) (·.outer))
/-- May an instruction stand in part p? -/
def fits (m : Meth) (p : Nat) (o : Op7.Ins) (vars classes : Int) : Bool :=
  if o.code = 4 then (m.lits[o.a.toNat]?).elim false (fun x => !(decide (x.k = 2)))
  else if o.code = 11 ∨ o.code = 12 then (m.lits[o.a.toNat]?).elim false (fun x => decide (x.k = 2) && decide (arityS x.s = some o.b.toNat))
  else if o.code = 5 ∨ o.code = 6 then (if up m.parts o.a.toNat p < 0 then false else (m.parts[(up m.parts o.a.toNat p).toNat]?).elim false (fun x => decide (o.b < x.temps)))
  else if o.code = 7 ∨ o.code = 8 then decide (o.a < vars)
  else if o.code = 20 then decide (o.a < classes)
  else if o.code = 16 then (m.parts[o.a.toNat]?).elim false (fun x => decide (x.outer = p))
  else if o.code = 19 then !(decide (p = 0))
  else if o.code = 18 then decide (p = 0)
  else true
def outerOk (outer : Int) (i : Nat) : Bool := if i = 0 then decide (outer = -1) else decide (0 ≤ outer) && decide (outer ≤ (i : Int) - 1)
def headOk (p : Part) (i : Nat) : Bool := outerOk p.outer i && (decide (0 ≤ p.args) && decide (p.args ≤ 8)) && (decide (p.args ≤ p.temps) && decide (p.temps ≤ 16))
/-- The fields of the parts other than Code. -/
def HeadsOk (ps : List Part) : Prop := ∀ i p, ps[i]? = some p → headOk p i = true
def PartsOk (ps : List Part) : Prop := 1 ≤ ps.length ∧ ps.length ≤ 64 ∧ HeadsOk ps
/-- The code of part p. -/
def CodeOk (m : Meth) (p : Nat) (code : List Nat) (vars classes : Int) : Prop := ∃ l os G D, Fl.Well code l os G D ∧ l.all (fun o => fits m p o vars classes) = true
/-- A method that is valid. -/
structure May (m : Meth) (vars classes : Int) : Prop where
  sel : (arityS m.sel).isSome = true
  few : m.lits.length ≤ 64
  lits : ∀ x ∈ m.lits, LitOk x
  parts : PartsOk m.parts
  args : (m.parts[0]?).map (·.args) = (arityS m.sel).map (fun n => (n : Int))
  code : ∀ i p, m.parts[i]? = some p → CodeOk m i p.code vars classes

theorem fits_more {m : Meth} {p : Nat} {o : Op7.Ins} {v c v' c' : Int} (hv : v ≤ v') (hc : c ≤ c') (h : fits m p o v c = true) : fits m p o v' c' = true := by
  unfold fits at h ⊢
  split at h
  · rw [if_pos (by assumption)]; exact h
  · rw [if_neg (by assumption)]
    split at h
    · rw [if_pos (by assumption)]; exact h
    · rw [if_neg (by assumption)]
      split at h
      · rw [if_pos (by assumption)]; exact h
      · rw [if_neg (by assumption)]
        split at h
        · rw [if_pos (by assumption)]; rw [decide_eq_true_iff] at h ⊢; omega
        · rw [if_neg (by assumption)]
          split at h
          · rw [if_pos (by assumption)]; rw [decide_eq_true_iff] at h ⊢; omega
          · rw [if_neg (by assumption)]; exact h
theorem May.more {m : Meth} {v c v' c' : Int} (h : May m v c) (hv : v ≤ v') (hc : c ≤ c') : May m v' c' :=
  ⟨h.sel, h.few, h.lits, h.parts, h.args, fun i p hp => by
    obtain ⟨l, os, G, D, h1, h2⟩ := h.code i p hp
    refine ⟨l, os, G, D, h1, List.all_eq_true.2 fun o ho => fits_more hv hc (List.all_eq_true.1 h2 o ho)⟩⟩
theorem Numeral.short {s : ByteArray} (h : Numeral s) : s.size ≤ 1024 := by
  obtain ⟨ng, L, h⟩ := h
  cases hf : Lg.formOk (Lg.signOf (Lg.bytes s)) (Lg.restOf (Lg.bytes s))
  · have := (h.no hf).1
    omega
  · simp only [Lg.formOk, Bool.and_eq_true, decide_eq_true_eq] at hf
    have h1 := hf.1.1.1.2
    have h2 := Lg.bytes_len s
    unfold Lg.restOf at h1
    split at h1
    · rw [List.length_drop] at h1; omega
    · omega
theorem arity_short {s : ByteArray} {n : Nat} (h : arityS s = some n) : s.size ≤ 64 := by
  have := (arity_some h).1
  rwa [natsOf_len] at this
theorem LitOk.fits {x : Lit} (h : LitOk x) : litFits x = true := by
  simp only [litFits, Bool.and_eq_true, decide_eq_true_eq]
  rcases h with ⟨h1, h2⟩ | ⟨h1, h2⟩ | ⟨h1, h2⟩
  · have := h2.short; omega
  · omega
  · obtain ⟨n, hn⟩ := Option.isSome_iff_exists.1 h2
    have := arity_short hn; omega
/-- What is valid is encodable. -/
theorem May.fits {m : Meth} {v c : Int} (h : May m v c) : fitsAll m = true := by
  obtain ⟨n, hn⟩ := Option.isSome_iff_exists.1 h.sel
  have h0 := arity_short hn
  have h1 := h.few
  have h2 := h.parts.2.1
  simp only [fitsAll, Bool.and_eq_true, decide_eq_true_eq]
  refine ⟨by omega, h1, List.all_eq_true.2 fun x hx => (h.lits x hx).fits, h2, List.all_eq_true.2 fun p hp => ?_⟩
  obtain ⟨i, hi, rfl⟩ := List.mem_iff_getElem.1 hp
  have hg : m.parts[i]? = some m.parts[i] := List.getElem?_eq_getElem hi
  have h3 := h.parts.2.2 i _ hg
  obtain ⟨l, os, G, D, h4, _⟩ := h.code i _ hg
  have h5 : m.parts[i].code.length ≤ 512 := by
    have h6 := h4.dec
    unfold Op7.decR at h6
    split at h6
    · cases h6
    · omega
  simp only [headOk, Bool.and_eq_true, decide_eq_true_eq] at h3
  obtain ⟨⟨h6, h7, h8⟩, h9, h10⟩ := h3
  have h11 : -1 ≤ m.parts[i].outer ∧ m.parts[i].outer ≤ 63 := by
    unfold outerOk at h6
    split at h6
    · rw [decide_eq_true_iff] at h6; omega
    · simp only [Bool.and_eq_true, decide_eq_true_eq] at h6
      omega
  simp only [partFits, Bool.and_eq_true, decide_eq_true_eq]
  omega
end Go.Proofs.YtjladeiecokpfaaGreatDoor.Mt

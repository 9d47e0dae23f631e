/- Plain mathematics of methods: their data, their encoding, and how it is read. No program is named here. -/
import Derived.Test.YtjdgcgpidhljpaaGreatDoorYViM
namespace Go.Proofs.YtjdgcgpidhljpaaGreatDoor.Mt
open Go.RowKit Pk

/-- A literal. -/
structure Lit where
  k : Nat
  s : ByteArray
deriving DecidableEq
/-- A part. -/
structure Part where
  outer : Int
  args : Int
  temps : Int
  code : List Nat
deriving DecidableEq
/-- A method. -/
structure Meth where
  sel : ByteArray
  lits : List Lit
  parts : List Part
deriving DecidableEq
def encText (s : List Nat) : List Nat := Vi.enc (s.length : Int) ++ s
def encLit (x : Lit) : List Nat := Vi.enc (x.k : Int) ++ encText (natsOf x.s)
def encLits (l : List Lit) : List Nat := l.flatMap encLit
def encPart (p : Part) : List Nat := Vi.enc p.outer ++ (Vi.enc p.args ++ (Vi.enc p.temps ++ encText p.code))
def encParts (l : List Part) : List Nat := l.flatMap encPart
/-- The fields of a method. -/
def enc (m : Meth) : List Nat := encText (natsOf m.sel) ++ (Vi.enc (m.lits.length : Int) ++ (encLits m.lits ++ (Vi.enc (m.parts.length : Int) ++ encParts m.parts)))
def litFits (x : Lit) : Bool := decide (x.k ≤ 2) && decide (x.s.size ≤ 1024)
def partFits (p : Part) : Bool := decide (-1 ≤ p.outer) && decide (p.outer ≤ 63) && decide (0 ≤ p.args) && decide (p.args ≤ 16) && decide (0 ≤ p.temps) && decide (p.temps ≤ 16) && decide (p.code.length ≤ 512)
/-- Is it encodable? -/
def fitsAll (m : Meth) : Bool := decide (m.sel.size ≤ 1024) && (decide (m.lits.length ≤ 64) && (m.lits.all litFits && (decide (m.parts.length ≤ 64) && m.parts.all partFits)))
theorem encLits_snoc (l : List Lit) (x : Lit) : encLits (l ++ [x]) = encLits l ++ encLit x := by simp [encLits]
theorem encParts_snoc (l : List Part) (x : Part) : encParts (l ++ [x]) = encParts l ++ encPart x := by simp [encParts]

theorem num_sound {r r' : List Nat} {a b n : Int} (h : num r a b = some (n, r')) : Vi.I64 n ∧ a ≤ n ∧ n ≤ b ∧ r = Vi.enc n ++ r' := by
  unfold num at h
  split at h
  · rename_i hc
    simp only [Option.some.injEq, Prod.mk.injEq] at h
    obtain ⟨h1, h2⟩ := h
    have hne : Vi.getL r ≠ [] := by
      intro e
      have := hc.1
      unfold Vi.getE at this
      rw [if_pos e] at this
      cases this
    have hn : n = Vi.val (Vi.getL r) := by
      rw [← h1]; unfold Vi.getN; rw [if_neg hne]
    have he : Vi.enc (Vi.val (Vi.getL r)) = Vi.getL r := by
      cases hcut : Vi.cut 10 r with
      | none => exact absurd (Vi.getL_none hcut) hne
      | some l =>
        by_cases e : Vi.enc (Vi.val l) = l
        · rw [Vi.getL_yes hcut e]; exact e
        · exact absurd (Vi.getL_no hcut e) hne
    have hp : Vi.getL r <+: r := getL_prefix r
    refine ⟨?_, by omega, by omega, ?_⟩
    · rw [hn]; exact Vi.wrap64_bounds _
    · rw [hn, he, ← h2]
      exact (List.prefix_iff_eq_append.1 hp).symm
  · cases h
theorem int_some {st : St} {a b n : Int} {r : List Nat} (h : int st a b = (n, some r)) : Vi.I64 n ∧ a ≤ n ∧ n ≤ b ∧ st = some (Vi.enc n ++ r) := by
  unfold int at h
  split at h
  · rename_i n2 r2 hb
    simp only [Prod.mk.injEq, Option.some.injEq] at h
    obtain ⟨rfl, rfl⟩ := h
    obtain ⟨r0, h0, h1⟩ := Option.bind_eq_some_iff.1 hb
    obtain ⟨h2, h3, h4, h5⟩ := num_sound h1
    exact ⟨h2, h3, h4, by rw [h0, h5]⟩
  · cases h
theorem int_enc {n a b : Int} (hn : Vi.I64 n) (ha : a ≤ n) (hb : n ≤ b) (r : List Nat) : int (some (Vi.enc n ++ r)) a b = (n, some r) := by
  unfold int
  rw [Option.bind_some, num_enc hn r ha hb]
theorem text_some {st : St} {m : Int} {s r : List Nat} (h : text st m = (s, some r)) : (s.length : Int) ≤ m ∧ st = some (encText s ++ r) := by
  unfold text at h
  split at h
  · rename_i n r0 hc
    simp only [Prod.mk.injEq, Option.some.injEq] at h
    obtain ⟨rfl, rfl⟩ := h
    have hr := count_range hc
    unfold count at hc
    split at hc
    · rename_i n' r' he
      split at hc
      · cases hc
      · simp only [Prod.mk.injEq, Option.some.injEq] at hc
        obtain ⟨rfl, rfl⟩ := hc
        obtain ⟨h1, h2, h3, h4⟩ := int_some he
        have hl : (r'.take n'.toNat).length = n'.toNat := by rw [List.length_take]; omega
        refine ⟨by rw [hl]; omega, ?_⟩
        rw [h4, encText, hl, show ((n'.toNat : Nat) : Int) = n' by omega, List.append_assoc, List.take_append_drop]
    · cases hc
  · cases h
theorem text_enc {m : Int} (s r : List Nat) (h : (s.length : Int) ≤ m) (hm : m ≤ 9223372036854775807) : text (some (encText s ++ r)) m = (s, some r) := by
  have e : int (some (Vi.enc (s.length : Int) ++ (s ++ r))) 0 m = ((s.length : Int), some (s ++ r)) := int_enc (by unfold Vi.I64; omega) (by omega) h _
  unfold text count
  rw [encText, List.append_assoc, e]
  simp only
  rw [if_neg (by rw [List.length_append]; omega)]
  simp only [Int.toNat_natCast]
  rw [List.take_left, List.drop_left]

/-- A literal read. -/
def litR (st : St) : Lit × St := (⟨(int st 0 2).1.toNat, strB (text (int st 0 2).2 1024).1⟩, (text (int st 0 2).2 1024).2)
def litsR : Nat → St → List Lit × St
  | 0, st => ([], st)
  | k + 1, st => ((litsR k st).1 ++ [(litR (litsR k st).2).1], (litR (litsR k st).2).2)
/-- A part read. -/
def partR (st : St) : Part × St :=
  let a := int st (-1) 63
  let b := int a.2 0 16
  let c := int b.2 0 16
  let d := text c.2 512
  (⟨a.1, b.1, c.1, d.1⟩, d.2)
def partsR : Nat → St → List Part × St
  | 0, st => ([], st)
  | k + 1, st => ((partsR k st).1 ++ [(partR (partsR k st).2).1], (partR (partsR k st).2).2)
/-- A method read: what was read, and what is left. -/
def dec (st : St) : Meth × St :=
  let s := text st 1024
  let n := int s.2 0 64
  let l := litsR n.1.toNat n.2
  let k := int l.2 0 64
  let p := partsR k.1.toNat k.2
  (⟨strB s.1, l.1, p.1⟩, p.2)

theorem text_left {st : St} {m : Int} {r : List Nat} (h : (text st m).2 = some r) : ((text st m).1.length : Int) ≤ m ∧ st = some (encText (text st m).1 ++ r) := text_some (by rw [← h])
theorem int_left {st : St} {a b : Int} {r : List Nat} (h : (int st a b).2 = some r) : Vi.I64 (int st a b).1 ∧ a ≤ (int st a b).1 ∧ (int st a b).1 ≤ b ∧ st = some (Vi.enc (int st a b).1 ++ r) := int_some (by rw [← h])
theorem nats_of_str {l : List Nat} (h : ∀ x ∈ l, x < 256) : natsOf (strB l) = l := by
  unfold natsOf strB
  simp only [List.map_map]
  conv => rhs; rw [← List.map_id l]
  apply List.map_congr_left
  intro x hx
  have := h x hx
  simp only [Function.comp_apply, UInt8.toNat_ofNat', id_eq]
  omega
theorem strB_size (l : List Nat) : (strB l).size = l.length := by
  unfold strB ByteArray.size
  simp
def Low (st : St) : Prop := ∀ r, st = some r → ∀ x ∈ r, x < 256
theorem low_some {r : List Nat} (h : ∀ x ∈ r, x < 256) : Low (some r) := fun _ e => by cases e; exact h
theorem litR_sound {st : St} {r : List Nat} (hb : Low st) (h : (litR st).2 = some r) : litFits (litR st).1 = true ∧ st = some (encLit (litR st).1 ++ r) := by
  unfold litR at h ⊢
  simp only at h ⊢
  obtain ⟨h1, h2⟩ := text_left h
  obtain ⟨h3, h4, h5, h6⟩ := int_left h2
  generalize (text (int st 0 2).2 1024).1 = s at *
  generalize (int st 0 2).1 = n at *
  have hs : ∀ x ∈ s, x < 256 := fun x hx => hb _ h6 x (by simp [encText, hx])
  refine ⟨?_, ?_⟩
  · simp only [litFits, Bool.and_eq_true, decide_eq_true_eq, strB_size]
    omega
  · rw [h6, encLit]
    simp only
    rw [nats_of_str hs, show ((n.toNat : Nat) : Int) = n by omega, List.append_assoc]
theorem litR_enc {x : Lit} (h : litFits x = true) (r : List Nat) : litR (some (encLit x ++ r)) = (x, some r) := by
  simp only [litFits, Bool.and_eq_true, decide_eq_true_eq] at h
  unfold litR encLit
  have e1 : int (some (Vi.enc (x.k : Int) ++ encText (natsOf x.s) ++ r)) 0 2 = ((x.k : Int), some (encText (natsOf x.s) ++ r)) := by
    rw [List.append_assoc]
    exact int_enc (by unfold Vi.I64; omega) (by omega) (by omega) _
  rw [e1]
  simp only
  rw [text_enc _ _ (by rw [natsOf_len]; omega) (by decide)]
  simp only
  rw [nats_back]
  simp
theorem litsR_sound : ∀ (k : Nat) {st : St} {r : List Nat}, Low st → (litsR k st).2 = some r → (litsR k st).1.length = k ∧ (litsR k st).1.all litFits = true ∧ st = some (encLits (litsR k st).1 ++ r)
  | 0, st, r, hb, h => ⟨rfl, rfl, h⟩
  | k + 1, st, r, hb, h => by
    have h2 : (litR (litsR k st).2).2 = some r := h
    cases hr : (litsR k st).2 with
    | none =>
      rw [hr] at h2
      cases h2
    | some r0 =>
      obtain ⟨i1, i2, i3⟩ := litsR_sound k hb hr
      have hb0 : Low (some r0) := low_some fun x hx => hb _ i3 x (by simp [hx])
      rw [hr] at h2
      obtain ⟨j1, j2⟩ := litR_sound hb0 h2
      have e : (litsR (k + 1) st).1 = (litsR k st).1 ++ [(litR (some r0)).1] := by
        show (litsR k st).1 ++ [(litR (litsR k st).2).1] = _
        rw [hr]
      rw [e]
      refine ⟨by simp [i1], by simp [i2, j1], ?_⟩
      refine i3.trans ?_
      rw [encLits_snoc, List.append_assoc]
      exact congrArg (fun x => some (encLits (litsR k st).1 ++ x)) (Option.some.inj j2)
theorem snoc_cases {α : Type} {l : List α} {k : Nat} (h : l.length = k + 1) : ∃ m x, l = m ++ [x] ∧ m.length = k := by
  refine ⟨l.dropLast, l.getLast (by intro e; rw [e] at h; cases h), (List.dropLast_concat_getLast _).symm, by rw [List.length_dropLast]; omega⟩
theorem litsR_enc : ∀ (k : Nat) {l : List Lit}, l.length = k → l.all litFits = true → ∀ (r : List Nat), litsR k (some (encLits l ++ r)) = (l, some r)
  | 0, l, hl, _, r => by obtain rfl := List.length_eq_zero_iff.1 hl; rfl
  | k + 1, l, hl, h, r => by
    obtain ⟨m, x, rfl, hm⟩ := snoc_cases hl
    simp only [List.all_append, List.all_cons, List.all_nil, Bool.and_true, Bool.and_eq_true] at h
    have i := litsR_enc k hm h.1 (encLit x ++ r)
    rw [encLits_snoc, List.append_assoc]
    unfold litsR
    rw [i]
    simp only
    rw [litR_enc h.2]
theorem partR_sound {st : St} {r : List Nat} (h : (partR st).2 = some r) : partFits (partR st).1 = true ∧ st = some (encPart (partR st).1 ++ r) := by
  unfold partR at h ⊢
  simp only at h ⊢
  obtain ⟨h1, h2⟩ := text_left h
  obtain ⟨h3, h4, h5, h6⟩ := int_left h2
  obtain ⟨k3, k4, k5, k6⟩ := int_left h6
  obtain ⟨l3, l4, l5, l6⟩ := int_left k6
  refine ⟨?_, ?_⟩
  · simp only [partFits, Bool.and_eq_true, decide_eq_true_eq]
    omega
  · rw [encPart]
    simp only [List.append_assoc]
    exact l6
theorem partR_enc {x : Part} (h : partFits x = true) (r : List Nat) : partR (some (encPart x ++ r)) = (x, some r) := by
  simp only [partFits, Bool.and_eq_true, decide_eq_true_eq] at h
  obtain ⟨⟨⟨⟨⟨⟨h1, h2⟩, h3⟩, h4⟩, h5⟩, h6⟩, h7⟩ := h
  unfold partR encPart
  simp only [List.append_assoc]
  rw [int_enc (by unfold Vi.I64; omega) h1 h2]
  simp only
  rw [int_enc (by unfold Vi.I64; omega) h3 h4]
  simp only
  rw [int_enc (by unfold Vi.I64; omega) h5 h6]
  simp only
  rw [text_enc _ _ (by omega) (by decide)]
theorem partsR_sound : ∀ (k : Nat) {st : St} {r : List Nat}, (partsR k st).2 = some r → (partsR k st).1.length = k ∧ (partsR k st).1.all partFits = true ∧ st = some (encParts (partsR k st).1 ++ r)
  | 0, st, r, h => ⟨rfl, rfl, h⟩
  | k + 1, st, r, h => by
    have h2 : (partR (partsR k st).2).2 = some r := h
    cases hr : (partsR k st).2 with
    | none =>
      rw [hr] at h2
      cases h2
    | some r0 =>
      obtain ⟨i1, i2, i3⟩ := partsR_sound k hr
      rw [hr] at h2
      obtain ⟨j1, j2⟩ := partR_sound h2
      have e : (partsR (k + 1) st).1 = (partsR k st).1 ++ [(partR (some r0)).1] := by
        show (partsR k st).1 ++ [(partR (partsR k st).2).1] = _
        rw [hr]
      rw [e]
      refine ⟨by simp [i1], by simp [i2, j1], ?_⟩
      refine i3.trans ?_
      rw [encParts_snoc, List.append_assoc]
      exact congrArg (fun x => some (encParts (partsR k st).1 ++ x)) (Option.some.inj j2)
theorem partsR_enc : ∀ (k : Nat) {l : List Part}, l.length = k → l.all partFits = true → ∀ (r : List Nat), partsR k (some (encParts l ++ r)) = (l, some r)
  | 0, l, hl, _, r => by obtain rfl := List.length_eq_zero_iff.1 hl; rfl
  | k + 1, l, hl, h, r => by
    obtain ⟨m, x, rfl, hm⟩ := snoc_cases hl
    simp only [List.all_append, List.all_cons, List.all_nil, Bool.and_true, Bool.and_eq_true] at h
    have i := partsR_enc k hm h.1 (encPart x ++ r)
    rw [encParts_snoc, List.append_assoc]
    unfold partsR
    rw [i]
    simp only
    rw [partR_enc h.2]
theorem litsR_none : ∀ k, (litsR k none).2 = none
  | 0 => rfl
  | k + 1 => by
    show (litR (litsR k none).2).2 = none
    rw [litsR_none k]; rfl
/-- What is read whole is the encoding. -/
theorem dec_sound {st : St} {r : List Nat} (hb : Low st) (h : (dec st).2 = some r) : fitsAll (dec st).1 = true ∧ st = some (enc (dec st).1 ++ r) := by
  rcases hs : text st 1024 with ⟨s, st1⟩
  rcases hn : int st1 0 64 with ⟨n, st2⟩
  rcases hl : litsR n.toNat st2 with ⟨l, st3⟩
  rcases hk : int st3 0 64 with ⟨k, st4⟩
  rcases hp : partsR k.toNat st4 with ⟨p, st5⟩
  have e : dec st = (⟨strB s, l, p⟩, st5) := by
    unfold dec
    simp only [hs, hn, hl, hk, hp]
  rw [e] at h ⊢
  simp only at h ⊢
  subst h
  obtain ⟨p1, p2, p3⟩ := partsR_sound k.toNat (st := st4) (r := r) (by rw [hp])
  rw [hp] at p1 p2 p3
  simp only at p1 p2 p3
  subst p3
  obtain ⟨k1, k2, k3, k4⟩ := int_some hk
  subst k4
  cases st2 with
  | none =>
    have := litsR_none n.toNat
    rw [hl] at this
    cases this
  | some rn =>
    obtain ⟨n1, n2, n3, n4⟩ := int_some hn
    subst n4
    obtain ⟨s1, s2⟩ := text_some hs
    have hbs : ∀ x ∈ s, x < 256 := fun x hx => hb _ s2 x (by simp [encText, hx])
    have hb1 : Low (some rn) := low_some fun x hx => hb _ s2 x (by simp [hx])
    subst s2
    obtain ⟨l1, l2, l3⟩ := litsR_sound n.toNat (st := some rn) hb1 (by rw [hl])
    rw [hl] at l1 l2 l3
    simp only at l1 l2 l3
    have l4 := Option.some.inj l3
    subst l4
    refine ⟨?_, ?_⟩
    · simp only [fitsAll, Bool.and_eq_true, decide_eq_true_eq, strB_size]
      exact ⟨by omega, by omega, l2, by omega, p2⟩
    · rw [enc]
      simp only [List.append_assoc]
      rw [nats_of_str hbs, l1, p1, show ((n.toNat : Nat) : Int) = n by omega, show ((k.toNat : Nat) : Int) = k by omega]
theorem dec_enc {m : Meth} (h : fitsAll m = true) (r : List Nat) : dec (some (enc m ++ r)) = (m, some r) := by
  simp only [fitsAll, Bool.and_eq_true, decide_eq_true_eq] at h
  obtain ⟨h1, h2, h3, h4, h5⟩ := h
  unfold dec enc
  simp only [List.append_assoc]
  rw [text_enc _ _ (by rw [natsOf_len]; omega) (by decide)]
  simp only
  rw [int_enc (by unfold Vi.I64; omega) (by omega) (by omega)]
  simp only [Int.toNat_natCast]
  rw [litsR_enc _ rfl h3]
  simp only
  rw [int_enc (by unfold Vi.I64; omega) (by omega) (by omega)]
  simp only [Int.toNat_natCast]
  rw [partsR_enc _ rfl h5, nats_back]
/-- What bytes are the encoding of. -/
def decode (b : List Nat) : Option Meth := if (dec (some b)).2 = some [] then some (dec (some b)).1 else none
theorem decode_some {b : List Nat} {m : Meth} (hb : ∀ x ∈ b, x < 256) : decode b = some m ↔ fitsAll m = true ∧ b = enc m := by
  unfold decode
  constructor
  · intro h
    split at h
    · rename_i hr
      cases h
      obtain ⟨h1, h2⟩ := dec_sound (low_some hb) hr
      rw [List.append_nil] at h2
      exact ⟨h1, Option.some.inj h2⟩
    · cases h
  · rintro ⟨h1, rfl⟩
    have := dec_enc h1 []
    rw [List.append_nil] at this
    rw [this]
    rfl
theorem decode_enc {m : Meth} (h : fitsAll m = true) : decode (enc m) = some m := by
  unfold decode
  have := dec_enc h []
  rw [List.append_nil] at this
  rw [this]
  rfl
theorem enc_inj {m n : Meth} (h : fitsAll m = true) (g : fitsAll n = true) : enc m = enc n ↔ m = n := by
  constructor
  · intro e
    have h1 := decode_enc h
    rw [e, decode_enc g] at h1
    exact (Option.some.inj h1).symm
  · rintro rfl; rfl
/-- Longer by one, it is none's. -/
theorem decode_long {m : Meth} (h : fitsAll m = true) (x : Nat) : decode (enc m ++ [x]) = none := by
  unfold decode
  rw [dec_enc h [x]]
  rfl
theorem encText_ne (s : List Nat) : encText s ≠ [] := by
  unfold encText
  intro e
  exact Vi.enc_ne _ (List.append_eq_nil_iff.1 e).1
theorem enc_ne (m : Meth) : enc m ≠ [] := by
  unfold enc
  intro e
  exact encText_ne _ (List.append_eq_nil_iff.1 e).1
/-- Shorter by one, it is none's. -/
theorem decode_short {m : Meth} (h : fitsAll m = true) (hb : ∀ x ∈ enc m, x < 256) : decode ((enc m).take ((enc m).length - 1)) = none := by
  cases hd : decode ((enc m).take ((enc m).length - 1)) with
  | none => rfl
  | some n =>
    obtain ⟨h1, h2⟩ := (decode_some (fun x hx => hb x (List.mem_of_mem_take hx))).1 hd
    exfalso
    have hl := List.length_pos_iff.2 (enc_ne m)
    obtain ⟨p, y, hp, hpl⟩ := snoc_cases (l := enc m) (k := (enc m).length - 1) (by omega)
    have e : (enc m).take ((enc m).length - 1) = p := by
      rw [← hpl]
      conv => lhs; rw [hp]
      exact List.take_left
    rw [e] at h2
    have := decode_long h1 y
    rw [← h2, ← hp, decode_enc h] at this
    cases this
theorem encText_byte {s : List Nat} (h : ∀ x ∈ s, x < 256) : ∀ x ∈ encText s, x < 256 := by
  intro x hx
  rcases List.mem_append.1 hx with hx | hx
  · exact Vi.enc_byte _ _ hx
  · exact h x hx
theorem enc_bytes {m : Meth} (h : ∀ p ∈ m.parts, ∀ x ∈ p.code, x < 256) : ∀ x ∈ enc m, x < 256 := by
  intro x hx
  simp only [enc, List.mem_append] at hx
  rcases hx with hx | hx | hx | hx | hx
  · exact encText_byte (natsOf_byte _) x hx
  · exact Vi.enc_byte _ _ hx
  · obtain ⟨q, _, hq⟩ := List.mem_flatMap.1 hx
    rcases List.mem_append.1 hq with hq | hq
    · exact Vi.enc_byte _ _ hq
    · exact encText_byte (natsOf_byte _) x hq
  · exact Vi.enc_byte _ _ hx
  · obtain ⟨q, hq1, hq⟩ := List.mem_flatMap.1 hx
    simp only [encPart, List.mem_append] at hq
    rcases hq with hq | hq | hq | hq
    · exact Vi.enc_byte _ _ hq
    · exact Vi.enc_byte _ _ hq
    · exact Vi.enc_byte _ _ hq
    · exact encText_byte (h q hq1) x hq
end Go.Proofs.YtjdgcgpidhljpaaGreatDoor.Mt

/- Plain mathematics of the instructions: forms, what is valid, code, what code is decoded, and that each is the other's inverse. No program is named here. -/
import Derived.Test.YtilikjfjbnabfaaGreatDoorBase
namespace Go.Proofs.YtilikjfjbnabfaaGreatDoor.Op7
open Go.RowKit

/-- The widths of A and B by an instruction's code. -/
def widths : List (Nat × Nat) := [(0, 0), (0, 0), (0, 0), (0, 0), (1, 0), (1, 1), (1, 1), (1, 0), (1, 0), (0, 0), (0, 0), (1, 1), (1, 1), (2, 0), (2, 2), (0, 0), (1, 0), (0, 0), (0, 0), (0, 0), (1, 0)]
def wid (c : Nat) : Nat × Nat := widths.getD c (0, 0)
def size (c : Nat) : Nat := 1 + (wid c).1 + (wid c).2
theorem wid_le (c : Nat) : (wid c).1 ≤ 2 ∧ (wid c).2 ≤ 2 := by
  unfold wid
  rcases Nat.lt_or_ge c 21 with h | h
  · have : ∀ c, c < 21 → (widths.getD c (0, 0)).1 ≤ 2 ∧ (widths.getD c (0, 0)).2 ≤ 2 := by decide
    exact this c h
  · rw [List.getD_eq_getElem?_getD, List.getElem?_eq_none (by simpa [widths] using h)]
    decide

/-- An instruction. -/
structure Ins where
  code : Nat
  a : Int
  b : Int
deriving DecidableEq
/-- A number fits into so many bytes. -/
def fits (n : Int) (w : Nat) : Prop := 0 ≤ n ∧ n < 256 ^ w
instance (n : Int) (w : Nat) : Decidable (fits n w) := by unfold fits; exact inferInstance
def valid (o : Ins) : Prop := o.code < 21 ∧ fits o.a (wid o.code).1 ∧ fits o.b (wid o.code).2
instance (o : Ins) : Decidable (valid o) := by unfold valid; exact inferInstance
/-- A number in so many bytes, the most significant one first. -/
def be : Nat → Nat → List Nat
  | _, 0 => []
  | n, 1 => [n % 256]
  | n, _ => [n / 256 % 256, n % 256]
/-- The number of bytes. -/
def un : List Nat → Nat
  | [] => 0
  | [x] => x
  | x :: y :: _ => 256 * x + y
theorem be_len (n w : Nat) (h : w ≤ 2) : (be n w).length = w := by
  rcases (by omega : w = 0 ∨ w = 1 ∨ w = 2) with rfl | rfl | rfl <;> rfl
theorem be_byte (n w : Nat) : ∀ x ∈ be n w, x < 256 := by
  intro x hx
  unfold be at hx
  split at hx
  · simp at hx
  · simp at hx; omega
  · simp at hx; omega
theorem un_be {n : Int} {w : Nat} (h : w ≤ 2) (hf : fits n w) : ((un (be n.toNat w) : Nat) : Int) = n := by
  obtain ⟨h0, h1⟩ := hf
  rcases (by omega : w = 0 ∨ w = 1 ∨ w = 2) with rfl | rfl | rfl
  · simp only [Int.pow_zero] at h1
    simp only [be, un]; omega
  · simp only [be, un]
    have : (256 : Int) ^ 1 = 256 := by decide
    omega
  · simp only [be, un]
    have : (256 : Int) ^ 2 = 65536 := by decide
    omega
theorem be_un {l : List Nat} {w : Nat} (h : w ≤ 2) (hl : l.length = w) (hb : ∀ x ∈ l, x < 256) : be (un l) w = l ∧ fits ((un l : Nat) : Int) w := by
  rcases (by omega : w = 0 ∨ w = 1 ∨ w = 2) with rfl | rfl | rfl
  · obtain rfl := List.eq_nil_of_length_eq_zero hl
    exact ⟨rfl, by decide⟩
  · match l, hl with
    | [x], _ =>
      have := hb x (by simp)
      refine ⟨by simp only [be, un]; rw [Nat.mod_eq_of_lt this], ?_⟩
      unfold fits
      have h2 : (256 : Int) ^ 1 = 256 := by decide
      simp only [un]; omega
  · match l, hl with
    | [x, y], _ =>
      have h1 := hb x (by simp)
      have h2 := hb y (by simp)
      refine ⟨?_, ?_⟩
      · simp only [be, un]
        congr 1
        · omega
        · congr 1; omega
      · unfold fits
        have h3 : (256 : Int) ^ 2 = 65536 := by decide
        simp only [un]; omega

/-- OP2: the encoding of one. -/
def enc (o : Ins) : List Nat := o.code :: (be o.a.toNat (wid o.code).1 ++ be o.b.toNat (wid o.code).2)
def encs (l : List Ins) : List Nat := l.flatMap enc
theorem encs_nil : encs [] = [] := rfl
theorem encs_cons (o : Ins) (l : List Ins) : encs (o :: l) = enc o ++ encs l := by simp [encs]
theorem encs_snoc (l : List Ins) (o : Ins) : encs (l ++ [o]) = encs l ++ enc o := by simp [encs]
theorem encs_append (l m : List Ins) : encs (l ++ m) = encs l ++ encs m := by simp [encs]
theorem enc_len (o : Ins) : (enc o).length = size o.code := by
  unfold enc size
  rw [List.length_cons, List.length_append, be_len _ _ (wid_le _).1, be_len _ _ (wid_le _).2]
  omega
theorem size_pos (c : Nat) : 1 ≤ size c := by unfold size; omega
theorem size_le (c : Nat) : size c ≤ 5 := by have := wid_le c; unfold size; omega
theorem enc_byte {o : Ins} (h : o.code < 256) : ∀ x ∈ enc o, x < 256 := by
  intro x hx
  unfold enc at hx
  rcases List.mem_cons.1 hx with rfl | hx
  · exact h
  · rcases List.mem_append.1 hx with hx | hx
    · exact be_byte _ _ x hx
    · exact be_byte _ _ x hx
theorem encs_byte {l : List Ins} (h : ∀ o ∈ l, o.code < 256) : ∀ x ∈ encs l, x < 256 := by
  intro x hx
  obtain ⟨o, ho, h1⟩ := List.mem_flatMap.1 hx
  exact enc_byte (h o ho) x h1

/-- One instruction decoded, and what stands behind it. -/
def dec1 (b : List Nat) : Option (Ins × List Nat) := match b with
  | [] => none
  | c :: r => if c < 21 ∧ size c ≤ r.length + 1 then some (⟨c, (un (r.take (wid c).1) : Nat), (un ((r.drop (wid c).1).take (wid c).2) : Nat)⟩, r.drop (size c - 1)) else none
theorem dec1_enc {o : Ins} (h : valid o) (r : List Nat) : dec1 (enc o ++ r) = some (o, r) := by
  obtain ⟨hc, ha, hb⟩ := h
  have hw := wid_le o.code
  have h1 := be_len o.a.toNat _ hw.1
  have h2 := be_len o.b.toNat _ hw.2
  unfold enc
  rw [List.cons_append]
  unfold dec1
  simp only
  rw [if_pos ⟨hc, by rw [List.length_append, List.length_append, h1, h2]; unfold size; omega⟩]
  have e1 : (be o.a.toNat (wid o.code).1 ++ be o.b.toNat (wid o.code).2 ++ r).take (wid o.code).1 = be o.a.toNat (wid o.code).1 := by
    rw [List.append_assoc]
    conv => lhs; arg 1; rw [← h1]
    rw [List.take_left]
  have e2 : (be o.a.toNat (wid o.code).1 ++ be o.b.toNat (wid o.code).2 ++ r).drop (wid o.code).1 = be o.b.toNat (wid o.code).2 ++ r := by
    rw [List.append_assoc]
    conv => lhs; arg 1; rw [← h1]
    rw [List.drop_left]
  have e3 : (be o.b.toNat (wid o.code).2 ++ r).take (wid o.code).2 = be o.b.toNat (wid o.code).2 := by
    conv => lhs; arg 1; rw [← h2]
    rw [List.take_left]
  have e4 : (be o.a.toNat (wid o.code).1 ++ be o.b.toNat (wid o.code).2 ++ r).drop (size o.code - 1) = r := by
    have : size o.code - 1 = (be o.a.toNat (wid o.code).1 ++ be o.b.toNat (wid o.code).2).length := by
      rw [List.length_append, h1, h2]; unfold size; omega
    rw [this, List.drop_left]
  rw [e1, e2, e3, e4, un_be hw.1 ha, un_be hw.2 hb]
theorem dec1_some {b r : List Nat} {o : Ins} (hb : ∀ x ∈ b, x < 256) (h : dec1 b = some (o, r)) : valid o ∧ b = enc o ++ r := by
  cases b with
  | nil => cases h
  | cons c t =>
    unfold dec1 at h
    simp only at h
    split at h
    · rename_i hc
      simp only [Option.some.injEq, Prod.mk.injEq] at h
      obtain ⟨rfl, rfl⟩ := h
      have hw := wid_le c
      have hs : size c - 1 = (wid c).1 + (wid c).2 := by unfold size; omega
      have hl : (wid c).1 + (wid c).2 ≤ t.length := by have := hc.2; unfold size at this; omega
      have ht : ∀ x ∈ t, x < 256 := fun x hx => hb x (by simp [hx])
      have k1 := be_un hw.1 (l := t.take (wid c).1) (by rw [List.length_take]; omega) (fun x hx => ht x (List.mem_of_mem_take hx))
      have k2 := be_un hw.2 (l := (t.drop (wid c).1).take (wid c).2) (by rw [List.length_take, List.length_drop]; omega) (fun x hx => ht x (List.mem_of_mem_drop (List.mem_of_mem_take hx)))
      refine ⟨⟨hc.1, k1.2, k2.2⟩, ?_⟩
      unfold enc
      simp only [Int.toNat_natCast]
      rw [k1.1, k2.1, hs, List.cons_append, List.append_assoc, ← List.drop_drop, List.take_append_drop, List.take_append_drop]
    · cases h
theorem dec1_len {b r : List Nat} {o : Ins} (h : dec1 b = some (o, r)) : r.length + size o.code = b.length ∧ o.code < 21 := by
  cases b with
  | nil => cases h
  | cons c t =>
    unfold dec1 at h
    simp only at h
    split at h
    · rename_i hc
      simp only [Option.some.injEq, Prod.mk.injEq] at h
      obtain ⟨rfl, rfl⟩ := h
      have := size_pos c
      show (t.drop (size c - 1)).length + size c = t.length + 1 ∧ c < 21
      rw [List.length_drop]
      exact ⟨by have := hc.2; omega, hc.1⟩
    · cases h

/-- All of them. -/
def decF : Nat → List Nat → Option (List Ins)
  | _, [] => some []
  | 0, _ :: _ => none
  | f + 1, x :: r => (dec1 (x :: r)).bind fun y => (decF f y.2).map (y.1 :: ·)
def dec (b : List Nat) : Option (List Ins) := decF b.length b
theorem decF_enc : ∀ (l : List Ins) (f : Nat), (∀ o ∈ l, valid o) → l.length ≤ f → decF f (encs l) = some l
  | [], f, _, _ => by cases f <;> rfl
  | o :: l, 0, _, h => by simp at h
  | o :: l, f + 1, hv, h => by
    rw [encs_cons]
    obtain ⟨x, r, hx⟩ : ∃ x r, enc o ++ encs l = x :: r := ⟨_, _, rfl⟩
    have h1 := dec1_enc (hv o (by simp)) (encs l)
    rw [hx] at h1 ⊢
    unfold decF
    rw [h1, Option.bind_some]
    simp only
    rw [decF_enc l f (fun o ho => hv o (by simp [ho])) (by simpa using h)]
    rfl
theorem encs_long (l : List Ins) : l.length ≤ (encs l).length := by
  induction l with
  | nil => simp
  | cons o l ih =>
    rw [encs_cons, List.length_append, enc_len, List.length_cons]
    have := size_pos o.code
    omega
/-- OP3: instructions come back. -/
theorem dec_encs {l : List Ins} (h : ∀ o ∈ l, valid o) : dec (encs l) = some l := decF_enc l _ h (encs_long l)
theorem decF_some : ∀ (f : Nat) (b : List Nat) (l : List Ins), (∀ x ∈ b, x < 256) → decF f b = some l → (∀ o ∈ l, valid o) ∧ b = encs l
  | f, [], l, _, h => by
    have : l = [] := by
      cases f <;> (unfold decF at h; exact (Option.some.inj h).symm)
    subst this
    exact ⟨by simp, rfl⟩
  | 0, _ :: _, l, _, h => by cases h
  | f + 1, x :: r, l, hb, h => by
    unfold decF at h
    obtain ⟨y, h1, h2⟩ := Option.bind_eq_some_iff.1 h
    obtain ⟨o, r'⟩ := y
    obtain ⟨l', h3, rfl⟩ := Option.map_eq_some_iff.1 h2
    obtain ⟨hv, he⟩ := dec1_some hb h1
    have hb' : ∀ x ∈ r', x < 256 := fun z hz => hb z (by rw [he]; exact List.mem_append.2 (.inr hz))
    obtain ⟨k1, k2⟩ := decF_some f r' l' hb' h3
    refine ⟨fun p hp => ?_, by rw [he, k2, encs_cons]⟩
    rcases List.mem_cons.1 hp with rfl | hp
    · exact hv
    · exact k1 p hp
/-- OP3: code comes back. -/
theorem dec_some {b : List Nat} {l : List Ins} (hb : ∀ x ∈ b, x < 256) (h : dec b = some l) : (∀ o ∈ l, valid o) ∧ b = encs l := decF_some _ _ _ hb h
theorem dec_iff {b : List Nat} {l : List Ins} (hb : ∀ x ∈ b, x < 256) : dec b = some l ↔ (∀ o ∈ l, valid o) ∧ b = encs l :=
  ⟨dec_some hb, fun ⟨h1, h2⟩ => by rw [h2]; exact dec_encs h1⟩
/-- More fuel tells nothing else. -/
theorem decF_more : ∀ (f g : Nat) (b : List Nat), b.length ≤ f → b.length ≤ g → decF f b = decF g b
  | f, g, [], _, _ => by
    have h : ∀ n, decF n [] = some [] := fun n => by cases n <;> rfl
    rw [h, h]
  | 0, _, _ :: _, h, _ => by simp at h
  | _ + 1, 0, _ :: _, _, h => by simp at h
  | f + 1, g + 1, x :: r, h1, h2 => by
    unfold decF
    cases hd : dec1 (x :: r) with
    | none => rfl
    | some y =>
      obtain ⟨o, r'⟩ := y
      rw [Option.bind_some, Option.bind_some]
      have k1 := (dec1_len hd).1
      have k2 := size_pos o.code
      rw [List.length_cons] at h1 h2 k1
      rw [decF_more f g r' (by omega) (by omega)]
/-- How a loop goes on. -/
theorem dec_step {b r : List Nat} {o : Ins} (h : dec1 b = some (o, r)) : dec b = (dec r).map (o :: ·) := by
  have k1 := (dec1_len h).1
  have k2 := size_pos o.code
  cases b with
  | nil => cases h
  | cons x t =>
    show decF (t.length + 1) (x :: t) = (decF r.length r).map (o :: ·)
    rw [List.length_cons] at k1
    conv => lhs; unfold decF
    rw [h, Option.bind_some]
    show (decF t.length r).map (o :: ·) = _
    rw [decF_more t.length r.length r (by omega) (Nat.le_refl _)]
theorem dec_none {x : Nat} {r : List Nat} (h : dec1 (x :: r) = none) : dec (x :: r) = none := by
  unfold dec
  rw [List.length_cons]
  unfold decF
  rw [h]
  rfl
theorem dec_nil : dec [] = some [] := rfl
end Go.Proofs.YtilikjfjbnabfaaGreatDoor.Op7

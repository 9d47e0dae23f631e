/- Parts of elder texts that this layer needs, joined: XYOpM. -/
import Derived.Test.YtjladeiecokpfaaGreatDoorZBase
namespace Go.Proofs.YtjladeiecokpfaaGreatDoor.Op7
open Go.RowKit

/-- The widths of A and B by an instruction's code. -/
def widths : List (Nat × Nat) := [(0, 0), (0, 0), (0, 0), (0, 0), (1, 0), (1, 1), (1, 1), (1, 0), (1, 0), (0, 0), (0, 0), (1, 1), (1, 1), (2, 0), (2, 2), (0, 0), (1, 0), (0, 0), (0, 0), (0, 0), (1, 0)]
def wid (c : Nat) : Nat × Nat := widths.getD c (0, 0)
def size (c : Nat) : Nat := 1 + (wid c).1 + (wid c).2
theorem wid_le (c : Nat) : (wid c).1 ≤ 2 ∧ (wid c).2 ≤ 2 := by
  unfold wid
  rcases Nat.lt_or_ge c 21 with h | h
  · have : ∀ c, c < 21 → (widths.getD c (0, 0)).1 ≤ 2 ∧ (widths.getD c (0, 0)).2 ≤ 2 := by decide
    exact this c h
  · rw [List.getD_eq_getElem?_getD, List.getElem?_eq_none (by simpa [widths] using h)]
    decide

/-- An instruction. -/
structure Ins where
  code : Nat
  a : Int
  b : Int
deriving DecidableEq
/-- A number fits into so many bytes. -/
def fits (n : Int) (w : Nat) : Prop := 0 ≤ n ∧ n < 256 ^ w
instance (n : Int) (w : Nat) : Decidable (fits n w) := by unfold fits; exact inferInstance
def valid (o : Ins) : Prop := o.code < 21 ∧ fits o.a (wid o.code).1 ∧ fits o.b (wid o.code).2
instance (o : Ins) : Decidable (valid o) := by unfold valid; exact inferInstance
/-- A number in so many bytes, the most significant one first. -/
def be : Nat → Nat → List Nat
  | _, 0 => []
  | n, 1 => [n % 256]
  | n, _ => [n / 256 % 256, n % 256]
/-- The number of bytes. -/
def un : List Nat → Nat
  | [] => 0
  | [x] => x
  | x :: y :: _ => 256 * x + y
theorem be_len (n w : Nat) (h : w ≤ 2) : (be n w).length = w := by
  rcases (by omega : w = 0 ∨ w = 1 ∨ w = 2) with rfl | rfl | rfl <;> rfl
theorem be_un {l : List Nat} {w : Nat} (h : w ≤ 2) (hl : l.length = w) (hb : ∀ x ∈ l, x < 256) : be (un l) w = l ∧ fits ((un l : Nat) : Int) w := by
  rcases (by omega : w = 0 ∨ w = 1 ∨ w = 2) with rfl | rfl | rfl
  · obtain rfl := List.eq_nil_of_length_eq_zero hl
    exact ⟨rfl, by decide⟩
  · match l, hl with
    | [x], _ =>
      have := hb x (by simp)
      refine ⟨by simp only [be, un]; rw [Nat.mod_eq_of_lt this], ?_⟩
      unfold fits
      have h2 : (256 : Int) ^ 1 = 256 := by decide
      simp only [un]; omega
  · match l, hl with
    | [x, y], _ =>
      have h1 := hb x (by simp)
      have h2 := hb y (by simp)
      refine ⟨?_, ?_⟩
      · simp only [be, un]
        congr 1
        · omega
        · congr 1; omega
      · unfold fits
        have h3 : (256 : Int) ^ 2 = 65536 := by decide
        simp only [un]; omega

/-- OP2: the encoding of one. -/
def enc (o : Ins) : List Nat := o.code :: (be o.a.toNat (wid o.code).1 ++ be o.b.toNat (wid o.code).2)
def encs (l : List Ins) : List Nat := l.flatMap enc
theorem encs_cons (o : Ins) (l : List Ins) : encs (o :: l) = enc o ++ encs l := by simp [encs]
theorem encs_snoc (l : List Ins) (o : Ins) : encs (l ++ [o]) = encs l ++ enc o := by simp [encs]
theorem enc_len (o : Ins) : (enc o).length = size o.code := by
  unfold enc size
  rw [List.length_cons, List.length_append, be_len _ _ (wid_le _).1, be_len _ _ (wid_le _).2]
  omega
theorem size_pos (c : Nat) : 1 ≤ size c := by unfold size; omega
theorem size_le (c : Nat) : size c ≤ 5 := by have := wid_le c; unfold size; omega
/-- One instruction decoded, and what stands behind it. -/
def dec1 (b : List Nat) : Option (Ins × List Nat) := match b with
  | [] => none
  | c :: r => if c < 21 ∧ size c ≤ r.length + 1 then some (⟨c, (un (r.take (wid c).1) : Nat), (un ((r.drop (wid c).1).take (wid c).2) : Nat)⟩, r.drop (size c - 1)) else none
theorem dec1_some {b r : List Nat} {o : Ins} (hb : ∀ x ∈ b, x < 256) (h : dec1 b = some (o, r)) : valid o ∧ b = enc o ++ r := by
  cases b with
  | nil => cases h
  | cons c t =>
    unfold dec1 at h
    simp only at h
    split at h
    · rename_i hc
      simp only [Option.some.injEq, Prod.mk.injEq] at h
      obtain ⟨rfl, rfl⟩ := h
      have hw := wid_le c
      have hs : size c - 1 = (wid c).1 + (wid c).2 := by unfold size; omega
      have hl : (wid c).1 + (wid c).2 ≤ t.length := by have := hc.2; unfold size at this; omega
      have ht : ∀ x ∈ t, x < 256 := fun x hx => hb x (by simp [hx])
      have k1 := be_un hw.1 (l := t.take (wid c).1) (by rw [List.length_take]; omega) (fun x hx => ht x (List.mem_of_mem_take hx))
      have k2 := be_un hw.2 (l := (t.drop (wid c).1).take (wid c).2) (by rw [List.length_take, List.length_drop]; omega) (fun x hx => ht x (List.mem_of_mem_drop (List.mem_of_mem_take hx)))
      refine ⟨⟨hc.1, k1.2, k2.2⟩, ?_⟩
      unfold enc
      simp only [Int.toNat_natCast]
      rw [k1.1, k2.1, hs, List.cons_append, List.append_assoc, ← List.drop_drop, List.take_append_drop, List.take_append_drop]
    · cases h
theorem dec1_len {b r : List Nat} {o : Ins} (h : dec1 b = some (o, r)) : r.length + size o.code = b.length ∧ o.code < 21 := by
  cases b with
  | nil => cases h
  | cons c t =>
    unfold dec1 at h
    simp only at h
    split at h
    · rename_i hc
      simp only [Option.some.injEq, Prod.mk.injEq] at h
      obtain ⟨rfl, rfl⟩ := h
      have := size_pos c
      show (t.drop (size c - 1)).length + size c = t.length + 1 ∧ c < 21
      rw [List.length_drop]
      exact ⟨by have := hc.2; omega, hc.1⟩
    · cases h

/-- All of them. -/
def decF : Nat → List Nat → Option (List Ins)
  | _, [] => some []
  | 0, _ :: _ => none
  | f + 1, x :: r => (dec1 (x :: r)).bind fun y => (decF f y.2).map (y.1 :: ·)
def dec (b : List Nat) : Option (List Ins) := decF b.length b
theorem encs_long (l : List Ins) : l.length ≤ (encs l).length := by
  induction l with
  | nil => simp
  | cons o l ih =>
    rw [encs_cons, List.length_append, enc_len, List.length_cons]
    have := size_pos o.code
    omega
theorem decF_some : ∀ (f : Nat) (b : List Nat) (l : List Ins), (∀ x ∈ b, x < 256) → decF f b = some l → (∀ o ∈ l, valid o) ∧ b = encs l
  | f, [], l, _, h => by
    have : l = [] := by
      cases f <;> (unfold decF at h; exact (Option.some.inj h).symm)
    subst this
    exact ⟨by simp, rfl⟩
  | 0, _ :: _, l, _, h => by cases h
  | f + 1, x :: r, l, hb, h => by
    unfold decF at h
    obtain ⟨y, h1, h2⟩ := Option.bind_eq_some_iff.1 h
    obtain ⟨o, r'⟩ := y
    obtain ⟨l', h3, rfl⟩ := Option.map_eq_some_iff.1 h2
    obtain ⟨hv, he⟩ := dec1_some hb h1
    have hb' : ∀ x ∈ r', x < 256 := fun z hz => hb z (by rw [he]; exact List.mem_append.2 (.inr hz))
    obtain ⟨k1, k2⟩ := decF_some f r' l' hb' h3
    refine ⟨fun p hp => ?_, by rw [he, k2, encs_cons]⟩
    rcases List.mem_cons.1 hp with rfl | hp
    · exact hv
    · exact k1 p hp
/-- OP3: code comes back. -/
theorem dec_some {b : List Nat} {l : List Ins} (hb : ∀ x ∈ b, x < 256) (h : dec b = some l) : (∀ o ∈ l, valid o) ∧ b = encs l := decF_some _ _ _ hb h
/-- More fuel tells nothing else. -/
theorem decF_more : ∀ (f g : Nat) (b : List Nat), b.length ≤ f → b.length ≤ g → decF f b = decF g b
  | f, g, [], _, _ => by
    have h : ∀ n, decF n [] = some [] := fun n => by cases n <;> rfl
    rw [h, h]
  | 0, _, _ :: _, h, _ => by simp at h
  | _ + 1, 0, _ :: _, _, h => by simp at h
  | f + 1, g + 1, x :: r, h1, h2 => by
    unfold decF
    cases hd : dec1 (x :: r) with
    | none => rfl
    | some y =>
      obtain ⟨o, r'⟩ := y
      rw [Option.bind_some, Option.bind_some]
      have k1 := (dec1_len hd).1
      have k2 := size_pos o.code
      rw [List.length_cons] at h1 h2 k1
      rw [decF_more f g r' (by omega) (by omega)]
/-- How a loop goes on. -/
theorem dec_step {b r : List Nat} {o : Ins} (h : dec1 b = some (o, r)) : dec b = (dec r).map (o :: ·) := by
  have k1 := (dec1_len h).1
  have k2 := size_pos o.code
  cases b with
  | nil => cases h
  | cons x t =>
    show decF (t.length + 1) (x :: t) = (decF r.length r).map (o :: ·)
    rw [List.length_cons] at k1
    conv => lhs; unfold decF
    rw [h, Option.bind_some]
    show (decF t.length r).map (o :: ·) = _
    rw [decF_more t.length r.length r (by omega) (Nat.le_refl _)]
theorem dec_none {x : Nat} {r : List Nat} (h : dec1 (x :: r) = none) : dec (x :: r) = none := by
  unfold dec
  rw [List.length_cons]
  unfold decF
  rw [h]
  rfl
theorem dec_nil : dec [] = some [] := rfl
end Go.Proofs.YtjladeiecokpfaaGreatDoor.Op7
namespace Go.Proofs.YtjladeiecokpfaaGreatDoor.Op7
open Go.RowKit

/-- Where each instruction begins, the first one at 'k'. -/
def offsF : Nat → List Ins → List Nat
  | _, [] => []
  | k, o :: l => k :: offsF (k + size o.code) l
def offs (l : List Ins) : List Nat := offsF 0 l
theorem offsF_len (k : Nat) (l : List Ins) : (offsF k l).length = l.length := by
  induction l generalizing k with
  | nil => rfl
  | cons o l ih => simp [offsF, ih]
theorem offs_len (l : List Ins) : (offs l).length = l.length := offsF_len 0 l
theorem offsF_snoc (k : Nat) (l : List Ins) (o : Ins) : offsF k (l ++ [o]) = offsF k l ++ [k + (encs l).length] := by
  induction l generalizing k with
  | nil => simp [offsF, encs]
  | cons p l ih =>
    rw [List.cons_append]
    simp only [offsF]
    rw [ih, encs_cons, List.length_append, enc_len, List.cons_append]
    simp [Nat.add_assoc]
theorem offs_snoc (l : List Ins) (o : Ins) : offs (l ++ [o]) = offs l ++ [(encs l).length] := by
  unfold offs
  rw [offsF_snoc, Nat.zero_add]
/-- What Decode answers: the instructions, where each begins, the error. -/
def decR (b : List Nat) : List Ins × List Nat × Nat := if 512 < b.length then ([], [], 4) else match dec b with
  | none => ([], [], 8)
  | some l => (l, offs l, 0)
/-- As far as the loop has come: 'l' is done, the rest begins at 'i'. -/
def Done (b : List Nat) (i : Nat) (l : List Ins) : Prop := i ≤ b.length ∧ i = (encs l).length ∧ l.length ≤ i ∧ dec b = (dec (b.drop i)).map (l ++ ·) ∧ ∀ o ∈ l, o.code < 21
theorem done_start (b : List Nat) : Done b 0 [] := ⟨Nat.zero_le _, rfl, Nat.le_refl _, by cases h : dec b <;> simp [h], by simp⟩
def insAt (b : List Nat) (i x : Nat) : Ins := ⟨x, (un ((b.drop (i + 1)).take (wid x).1) : Nat), (un (((b.drop (i + 1)).drop (wid x).1).take (wid x).2) : Nat)⟩
theorem drop_at {b : List Nat} {i x : Nat} (h : b[i]? = some x) : b.drop i = x :: b.drop (i + 1) := by
  obtain ⟨hi, rfl⟩ := List.getElem?_eq_some_iff.1 h
  exact List.drop_eq_getElem_cons hi
theorem done_next {b : List Nat} {i x : Nat} {l : List Ins} (h : Done b i l) (hx : b[i]? = some x) (h21 : x < 21) (hs : i + size x ≤ b.length) : Done b (i + size x) (l ++ [insAt b i x]) := by
  obtain ⟨h1, h2, h3, h4, h5⟩ := h
  have hi : i < b.length := (List.getElem?_eq_some_iff.1 hx).1
  have hp := size_pos x
  have hd : dec1 (b.drop i) = some (insAt b i x, b.drop (i + size x)) := by
    rw [drop_at hx]
    unfold dec1
    simp only
    rw [if_pos ⟨h21, by rw [List.length_drop]; omega⟩, show (b.drop (i + 1)).drop (size x - 1) = b.drop (i + size x) by rw [List.drop_drop]; congr 1; omega]
    rfl
  refine ⟨hs, ?_, ?_, ?_, ?_⟩
  · rw [encs_snoc, List.length_append, enc_len, ← h2]; rfl
  · simp; omega
  · rw [h4, dec_step hd, Option.map_map]
    congr 1
    funext z
    simp
  · intro o ho
    rcases List.mem_append.1 ho with ho | ho
    · exact h5 o ho
    · rw [List.mem_singleton.1 ho]; exact h21
theorem done_end {b : List Nat} {l : List Ins} (h : Done b b.length l) (h5 : ¬ 512 < b.length) : decR b = (l, offs l, 0) := by
  obtain ⟨_, _, _, h4, _⟩ := h
  rw [List.drop_length, dec_nil] at h4
  unfold decR
  rw [if_neg h5, h4]
  simp
theorem done_none {b : List Nat} {i x : Nat} {l : List Ins} (h : Done b i l) (hx : b[i]? = some x) (hn : ¬ (x < 21 ∧ i + size x ≤ b.length)) (h5 : ¬ 512 < b.length) : decR b = ([], [], 8) := by
  obtain ⟨_, _, _, h4, _⟩ := h
  have hi : i < b.length := (List.getElem?_eq_some_iff.1 hx).1
  have hd : dec (b.drop i) = none := by
    rw [drop_at hx]
    refine dec_none ?_
    unfold dec1
    simp only
    rw [if_neg (fun hc => hn ⟨hc.1, by have := hc.2; rw [List.length_drop] at this; omega⟩)]
  rw [hd] at h4
  unfold decR
  rw [if_neg h5, h4]
  rfl
theorem decR_long {b : List Nat} (h5 : 512 < b.length) : decR b = ([], [], 4) := by
  unfold decR
  rw [if_pos h5]
/-- What stands in an instruction's bytes. -/
theorem insAt_row {b : List Nat} {i x : Nat} (hx : b[i]? = some x) (hs : i + size x ≤ b.length) :
    (b.drop i).take (size x) = x :: (b.drop (i + 1)).take (size x - 1) ∧ ((b.drop (i + 1)).take (size x - 1)).length = size x - 1 ∧
    ((b.drop (i + 1)).take (size x - 1)).take (wid x).1 = (b.drop (i + 1)).take (wid x).1 ∧ ((b.drop (i + 1)).take (size x - 1)).drop (wid x).1 = ((b.drop (i + 1)).drop (wid x).1).take (wid x).2 := by
  have e : size x = (wid x).1 + (wid x).2 + 1 := by unfold size; omega
  refine ⟨?_, ?_, ?_, ?_⟩
  · rw [drop_at hx, e, List.take_succ_cons]; rfl
  · rw [List.length_take, List.length_drop]; omega
  · rw [List.take_take, show min (wid x).1 (size x - 1) = (wid x).1 by omega]
  · rw [List.drop_take, show size x - 1 - (wid x).1 = (wid x).2 by omega]
end Go.Proofs.YtjladeiecokpfaaGreatDoor.Op7
namespace Go.Proofs.YtjladeiecokpfaaGreatDoor.Fl
open Go.RowKit Op7

/-- Does the next instruction come behind? -/
def cont (c : Nat) : Bool := !(c == 17 || c == 18 || c == 19 || c == 13)
def jumps (c : Nat) : Bool := c == 13 || c == 14
def toI (os : List Nat) : List Int := os.map fun x : Nat => (x : Int)
/-- The number of the instruction that begins at x. -/
def place (os : List Nat) (x : Int) : Option Nat := if (toI os).contains x then some ((toI os).countP (· < x)) else none
/-- In increasing order, each once (for two at most). -/
def norm : List Nat → List Nat
  | [x, y] => if x < y then [x, y] else if x = y then [x] else [y, x]
  | l => l
def nextOf (n i : Nat) (o : Ins) : Option (List Nat) := if cont o.code then (if i + 1 = n then none else some [i + 1]) else some []
def succO (os : List Nat) (n i : Nat) (o : Ins) : Option (List Nat) := (nextOf n i o).bind fun p => if jumps o.code then (place os o.a).map fun t => norm (p ++ [t]) else some (norm p)
/-- Those that can come behind instruction i. -/
def succ (l : List Ins) (os : List Nat) (i : Nat) : Option (List Nat) := (l[i]?).bind (succO os l.length i)
def isJoin (l : List Ins) (os : List Nat) (x : Int) : Bool := match place os x with
  | none => false
  | some k => ((l[k]?).map (·.code)).getD 0 == 15
def node (l : List Ins) (os : List Nat) (i : Nat) : Option (List Nat) := (succ l os i).bind fun s => match l[i]? with
  | none => none
  | some o => if o.code = 14 ∧ isJoin l os o.b = false then none else some s
def graphTo (l : List Ins) (os : List Nat) : Nat → Option (List (List Nat))
  | 0 => some []
  | k + 1 => (graphTo l os k).bind fun g => (node l os k).map fun s => g ++ [s]
def graph (l : List Ins) (os : List Nat) : Option (List (List Nat)) := if l = [] then none else graphTo l os l.length

theorem graphTo_len {l : List Ins} {os : List Nat} : ∀ {k : Nat} {g : List (List Nat)}, graphTo l os k = some g → g.length = k
  | 0, g, h => by cases h; rfl
  | k + 1, g, h => by
    unfold graphTo at h
    obtain ⟨g', h1, h2⟩ := Option.bind_eq_some_iff.1 h
    obtain ⟨s, _, rfl⟩ := Option.map_eq_some_iff.1 h2
    rw [List.length_append, graphTo_len h1]; rfl
theorem graphTo_none {l : List Ins} {os : List Nat} {k : Nat} (h : graphTo l os k = none) : ∀ n, k ≤ n → graphTo l os n = none
  | 0, hk => by obtain rfl : k = 0 := by omega
                exact h
  | n + 1, hk => by
    rcases Nat.eq_or_lt_of_le hk with e | e
    · rw [← e]; exact h
    · unfold graphTo
      rw [graphTo_none h n (by omega)]; rfl
theorem graphTo_at {l : List Ins} {os : List Nat} : ∀ {k : Nat} {g : List (List Nat)}, graphTo l os k = some g → ∀ i, i < k → node l os i = g[i]?
  | 0, g, _, i, hi => by omega
  | k + 1, g, h, i, hi => by
    unfold graphTo at h
    obtain ⟨g', h1, h2⟩ := Option.bind_eq_some_iff.1 h
    obtain ⟨s, h3, rfl⟩ := Option.map_eq_some_iff.1 h2
    have hl := graphTo_len h1
    rcases Nat.lt_or_ge i k with h4 | h4
    · rw [List.getElem?_append_left (by omega)]; exact graphTo_at h1 i h4
    · obtain rfl : i = k := by omega
      rw [List.getElem?_append_right (by omega), hl, Nat.sub_self, h3]; rfl
theorem graph_parts {l : List Ins} {os : List Nat} {g : List (List Nat)} (h : graph l os = some g) : l ≠ [] ∧ g.length = l.length ∧ ∀ i, i < l.length → node l os i = g[i]? := by
  unfold graph at h
  split at h
  · cases h
  · rename_i hl
    exact ⟨hl, graphTo_len h, graphTo_at h⟩
theorem node_succ {l : List Ins} {os : List Nat} {i : Nat} {s : List Nat} (h : node l os i = some s) : succ l os i = some s := by
  unfold node at h
  obtain ⟨s', h1, h2⟩ := Option.bind_eq_some_iff.1 h
  split at h2
  · cases h2
  · split at h2
    · cases h2
    · cases h2; exact h1

/-- What one takes, and puts. -/
def effect (o : Ins) : Int × Int :=
  if o.code = 10 then (1, 2) else if o.code = 11 ∨ o.code = 12 then (o.b + 1, 1)
  else if o.code = 6 ∨ o.code = 8 ∨ o.code = 9 ∨ o.code = 14 ∨ o.code = 17 ∨ o.code = 19 then (1, 0)
  else if o.code = 13 ∨ o.code = 15 ∨ o.code = 18 ∨ 20 < o.code then (0, 0) else (0, 1)
def after (o : Ins) (d : Int) : Int := d - (effect o).1 + (effect o).2
def may (o : Ins) (d : Int) : Bool := decide ((effect o).1 ≤ d) && decide (after o d ≤ 32)
/-- One way on after another. -/
def visit (a : Int) : List Nat → List Int → List Nat → Option (List Int × List Nat)
  | [], D, W => some (D, W)
  | s :: r, D, W => if D.getD s 0 = -1 then visit a r (D.set s a) (s :: W) else if D.getD s 0 = a then visit a r D W else none
/-- From the work that is left, the last one first. -/
def run (l : List Ins) (g : List (List Nat)) : Nat → List Int → List Nat → Option (List Int)
  | 0, _, _ => none
  | _ + 1, D, [] => some D
  | f + 1, D, i :: W => if may (l.getD i ⟨0, 0, 0⟩) (D.getD i 0) then (visit (after (l.getD i ⟨0, 0, 0⟩) (D.getD i 0)) (g.getD i []) D W).bind fun p => run l g f p.1 p.2 else none
def depths (l : List Ins) (g : List (List Nat)) : Option (List Int) := run l g (2 * l.length + 2) ((List.replicate l.length (-1)).set 0 0) [0]

theorem may_nonneg {o : Ins} {d : Int} (h : may o d = true) : 0 ≤ after o d ∧ after o d ≤ 32 ∧ (effect o).1 ≤ d := by
  unfold may at h
  simp only [Bool.and_eq_true, decide_eq_true_eq] at h
  have : 0 ≤ (effect o).2 := by
    unfold effect
    split
    · decide
    · split
      · simp
      · split
        · decide
        · split <;> decide
  unfold after at h ⊢
  omega
/-- How much is left to be done. -/
def left (D : List Int) (W : List Nat) : Nat := 2 * D.count (-1) + W.length
theorem count_set {D : List Int} {s : Nat} {a : Int} (hs : s < D.length) (h : D.getD s 0 = -1) (ha : a ≠ -1) : (D.set s a).count (-1) + 1 = D.count (-1) := by
  have e : D[s] = -1 := by
    rw [List.getD_eq_getElem?_getD, List.getElem?_eq_getElem hs] at h
    exact h
  have hm : 0 < D.count (-1) := List.count_pos_iff.2 (e ▸ List.getElem_mem hs)
  rw [List.count_set hs, e]
  simp [ha]
  omega
theorem visit_left {a : Int} (ha : a ≠ -1) : ∀ {r : List Nat} {D : List Int} {W : List Nat} {p : List Int × List Nat}, (∀ s ∈ r, s < D.length) → visit a r D W = some p → left p.1 p.2 ≤ left D W ∧ p.1.length = D.length
  | [], D, W, p, _, h => by cases h; exact ⟨Nat.le_refl _, rfl⟩
  | s :: r, D, W, p, hr, h => by
    unfold visit at h
    split at h
    · rename_i h1
      have h2 := visit_left ha (fun x hx => by rw [List.length_set]; exact hr x (by simp [hx])) h
      have h3 := count_set (hr s (by simp)) h1 ha
      unfold left at h2 ⊢
      simp only [List.length_cons, List.length_set] at h2
      omega
    · split at h
      · exact visit_left ha (fun x hx => hr x (by simp [hx])) h
      · cases h
/-- What is so in the end: the first one at 0, each one that is come to has room, and all behind it stand as it says. -/
structure Settled (l : List Ins) (g : List (List Nat)) (D : List Int) (W : List Nat) : Prop where
  len : D.length = l.length
  work : ∀ i ∈ W, i < l.length ∧ D.getD i 0 ≠ -1
  low : ∀ i, i < l.length → -1 ≤ D.getD i 0
  done : ∀ i, i < l.length → D.getD i 0 ≠ -1 → i ∉ W → may (l.getD i ⟨0, 0, 0⟩) (D.getD i 0) = true ∧ ∀ s ∈ g.getD i [], D.getD s 0 = after (l.getD i ⟨0, 0, 0⟩) (D.getD i 0)
theorem getD_set {α : Type} (D : List α) (s i : Nat) (a z : α) : (D.set s a).getD i z = if s = i ∧ i < D.length then a else D.getD i z := by
  simp only [List.getD_eq_getElem?_getD, List.getElem?_set]
  by_cases h1 : s = i
  · subst h1
    by_cases h2 : s < D.length
    · simp [h2]
    · simp [h2]
  · simp [h1]
theorem visit_grows {a : Int} (ha : a ≠ -1) : ∀ {r : List Nat} {D : List Int} {W : List Nat} {p : List Int × List Nat}, (∀ s ∈ r, s < D.length) → visit a r D W = some p →
    (∀ i, D.getD i 0 ≠ -1 → p.1.getD i 0 = D.getD i 0) ∧ (∀ i, p.1.getD i 0 ≠ -1 → D.getD i 0 = -1 → p.1.getD i 0 = a ∧ i ∈ p.2 ∧ i ∈ r) ∧ (∀ i ∈ W, i ∈ p.2) ∧ (∀ i ∈ p.2, i ∈ W ∨ (i ∈ r ∧ p.1.getD i 0 = a)) ∧ ∀ s ∈ r, p.1.getD s 0 = a
  | [], D, W, p, _, h => by
    cases h
    exact ⟨fun _ _ => rfl, fun i h1 h2 => absurd h2 h1, fun _ h => h, fun _ h => .inl h, by simp⟩
  | s :: r, D, W, p, hr, h => by
    have hs := hr s (by simp)
    unfold visit at h
    split at h
    · rename_i h1
      obtain ⟨k1, k2, k3, k4, k5⟩ := visit_grows ha (fun x hx => by rw [List.length_set]; exact hr x (by simp [hx])) h
      have e : ∀ i, (D.set s a).getD i 0 = if s = i then a else D.getD i 0 := fun i => by
        rw [getD_set]
        by_cases h2 : s = i
        · subst h2; simp [hs]
        · simp [h2]
      have ps : p.1.getD s 0 = a := by
        have := k1 s (by rw [e, if_pos rfl]; exact ha)
        rw [this, e, if_pos rfl]
      refine ⟨fun i hi => ?_, fun i hi1 hi2 => ?_, fun i hi => k3 i (by simp [hi]), fun i hi => ?_, fun x hx => ?_⟩
      · have hne : s ≠ i := fun h => by subst h; exact hi h1
        have := k1 i (by rw [e, if_neg hne]; exact hi)
        rw [this, e, if_neg hne]
      · by_cases h2 : s = i
        · subst h2
          exact ⟨ps, k3 s (by simp), by simp⟩
        · obtain ⟨q1, q2, q3⟩ := k2 i hi1 (by rw [e, if_neg h2]; exact hi2)
          exact ⟨q1, q2, by simp [q3]⟩
      · rcases k4 i hi with h2 | h2
        · rcases List.mem_cons.1 h2 with rfl | h2
          · exact .inr ⟨by simp, ps⟩
          · exact .inl h2
        · exact .inr ⟨by simp [h2.1], h2.2⟩
      · rcases List.mem_cons.1 hx with rfl | hx
        · exact ps
        · exact k5 x hx
    · rename_i h1
      split at h
      · rename_i h2
        obtain ⟨k1, k2, k3, k4, k5⟩ := visit_grows ha (fun x hx => hr x (by simp [hx])) h
        refine ⟨k1, fun i a1 a2 => ?_, k3, fun i hi => ?_, fun x hx => ?_⟩
        · obtain ⟨q1, q2, q3⟩ := k2 i a1 a2
          exact ⟨q1, q2, by simp [q3]⟩
        · rcases k4 i hi with h2 | h2
          · exact .inl h2
          · exact .inr ⟨by simp [h2.1], h2.2⟩
        · rcases List.mem_cons.1 hx with rfl | hx
          · rw [k1 x h1, h2]
          · exact k5 x hx
      · cases h
theorem run_settled {l : List Ins} {g : List (List Nat)} (hg : ∀ i, ∀ s ∈ g.getD i [], s < l.length) : ∀ {f : Nat} {D : List Int} {W : List Nat} {E : List Int}, Settled l g D W → run l g f D W = some E → Settled l g E [] ∧ ∀ i, D.getD i 0 ≠ -1 → E.getD i 0 = D.getD i 0
  | 0, _, _, _, _, h => by cases h
  | f + 1, D, [], E, hS, h => by cases h; exact ⟨hS, fun _ _ => rfl⟩
  | f + 1, D, i :: W, E, hS, h => by
    unfold run at h
    split at h
    · rename_i hm
      obtain ⟨p, h1, h2⟩ := Option.bind_eq_some_iff.1 h
      have hmn := may_nonneg hm
      have ha : after (l.getD i ⟨0, 0, 0⟩) (D.getD i 0) ≠ -1 := by omega
      have hlen : ∀ s ∈ g.getD i [], s < D.length := fun s hs => by rw [hS.len]; exact hg i s hs
      obtain ⟨k1, k2, k3, k4, k5⟩ := visit_grows ha hlen h1
      obtain ⟨hi1, hi2⟩ := hS.work i (by simp)
      have hS2 : Settled l g p.1 p.2 := by
        refine ⟨(visit_left ha hlen h1).2.trans hS.len, fun j hj => ?_, fun j hj => ?_, fun j hj hj1 hj2 => ?_⟩
        · rcases k4 j hj with h3 | h3
          · obtain ⟨q1, q2⟩ := hS.work j (by simp [h3])
            exact ⟨q1, by rw [k1 j q2]; exact q2⟩
          · exact ⟨hg i j h3.1, by rw [h3.2]; exact ha⟩
        · by_cases h3 : D.getD j 0 = -1
          · by_cases h4 : p.1.getD j 0 = -1
            · rw [h4]; omega
            · rw [(k2 j h4 h3).1]; omega
          · rw [k1 j h3]; exact hS.low j hj
        · by_cases h3 : D.getD j 0 = -1
          · exact absurd (k2 j hj1 h3).2.1 hj2
          · rw [k1 j h3]
            by_cases h4 : j = i
            · subst h4
              exact ⟨hm, k5⟩
            · have h5 : j ∉ i :: W := by
                intro h6
                rcases List.mem_cons.1 h6 with h6 | h6
                · exact h4 h6
                · exact hj2 (k3 j h6)
              obtain ⟨q1, q2⟩ := hS.done j hj h3 h5
              refine ⟨q1, fun s hs => ?_⟩
              have q3 := q2 s hs
              have q4 := (may_nonneg q1).1
              rw [k1 s (by omega)]; exact q3
      obtain ⟨r1, r2⟩ := run_settled hg hS2 h2
      refine ⟨r1, fun j hj => ?_⟩
      have := k1 j hj
      rw [r2 j (by rw [this]; exact hj), this]
    · cases h
theorem start_getD (n i : Nat) : ((List.replicate n (-1 : Int)).set 0 0).getD i 0 = if i < n ∧ i ≠ 0 then -1 else 0 := by
  rw [getD_set]
  by_cases h0 : i = 0
  · subst h0
    by_cases hn : 0 < n
    · simp [hn]
    · obtain rfl : n = 0 := by omega
      rfl
  · by_cases hi : i < n
    · have : ¬ (0 = i ∧ i < (List.replicate n (-1 : Int)).length) := fun h => h0 h.1.symm
      rw [if_neg this, if_pos ⟨hi, h0⟩]
      simp [List.getD_eq_getElem?_getD, hi]
    · have : ¬ (0 = i ∧ i < (List.replicate n (-1 : Int)).length) := fun h => h0 h.1.symm
      rw [if_neg this, if_neg (fun h => hi h.1)]
      simp [List.getD_eq_getElem?_getD, hi]
theorem settled_start (l : List Ins) (g : List (List Nat)) (hl : l ≠ []) : Settled l g ((List.replicate l.length (-1)).set 0 0) [0] := by
  have hp := List.length_pos_iff.2 hl
  refine ⟨by simp, fun i hi => ?_, fun i hi => ?_, fun i hi h1 h2 => ?_⟩
  · obtain rfl := List.mem_singleton.1 hi
    exact ⟨hp, by rw [start_getD]; simp⟩
  · rw [start_getD]; split <;> omega
  · exfalso
    apply h1
    rw [start_getD, if_pos ⟨hi, fun h => h2 (by simp [h])⟩]
/-- FL1: what the depths are. -/
theorem depths_settled {l : List Ins} {g : List (List Nat)} {D : List Int} (hl : l ≠ []) (hg : ∀ i, ∀ s ∈ g.getD i [], s < l.length) (h : depths l g = some D) : Settled l g D [] ∧ D.getD 0 0 = 0 := by
  obtain ⟨h1, h2⟩ := run_settled hg (settled_start l g hl) h
  refine ⟨h1, ?_⟩
  rw [h2 0 (by rw [start_getD]; simp), start_getD]
  simp
end Go.Proofs.YtjladeiecokpfaaGreatDoor.Fl
namespace Go.Proofs.YtjladeiecokpfaaGreatDoor.Fl
open Go.RowKit Op7

def M64 : Nat := 18446744073709551615
def full : List Nat := [M64, M64, M64, M64, M64, M64, M64, M64, M64]
def zero : List Nat := [0, 0, 0, 0, 0, 0, 0, 0, 0]
def bit (i : Nat) : Nat := 2 ^ (i % 64)
def put (s : List Nat) (i : Nat) : List Nat := s.set (i / 64) (s.getD (i / 64) 0 ||| bit i)
def meet (s t : List Nat) : List Nat := List.zipWith (· &&& ·) s t
def Ok (s : List Nat) : Prop := s.length = 9 ∧ ∀ x ∈ s, x < 18446744073709551616
theorem Ok.at {s : List Nat} (h : Ok s) (k : Nat) : s.getD k 0 < 18446744073709551616 := by
  rcases Nat.lt_or_ge k s.length with hk | hk
  · rw [List.getD_eq_getElem?_getD, List.getElem?_eq_getElem hk]
    exact h.2 _ (List.getElem_mem hk)
  · rw [List.getD_eq_getElem?_getD, List.getElem?_eq_none hk]; decide
theorem Ok.set {s : List Nat} (h : Ok s) (k x : Nat) (hx : x < 18446744073709551616) : Ok (s.set k x) := by
  refine ⟨by rw [List.length_set]; exact h.1, fun y hy => ?_⟩
  rcases List.mem_or_eq_of_mem_set hy with h1 | h1
  · exact h.2 y h1
  · rw [h1]; exact hx
def common (S : List (List Nat)) : List Nat → List Nat → List Nat
  | c, [] => c
  | c, k :: r => common S (meet c (S.getD k full)) r
def behind (S : List (List Nat)) (ks : List Nat) : List Nat := if ks = [] then zero else common S full ks
end Go.Proofs.YtjladeiecokpfaaGreatDoor.Fl
namespace Go.Proofs.YtjladeiecokpfaaGreatDoor.Fl
open Go.RowKit Op7

theorem mem_getD_lt {g : List (List Nat)} {i k : Nat} (h : k ∈ g.getD i []) : i < g.length := by
  rcases Nat.lt_or_ge i g.length with h1 | h1
  · exact h1
  · rw [List.getD_eq_getElem?_getD, List.getElem?_eq_none h1] at h
    simp at h
end Go.Proofs.YtjladeiecokpfaaGreatDoor.Fl
namespace Go.Proofs.YtjladeiecokpfaaGreatDoor.Fl
open Go.RowKit Op7

theorem placeLt {os : List Nat} {x : Int} {k : Nat} (h : place os x = some k) : k < os.length := by
  unfold place at h
  split at h
  · rename_i hc
    cases h
    have hm : x ∈ toI os := by simpa using hc
    have hl : (toI os).length = os.length := by simp [toI]
    rw [← hl]
    rcases Nat.lt_or_ge ((toI os).countP (· < x)) (toI os).length with h1 | h1
    · exact h1
    · have h2 := List.countP_eq_length.1 (Nat.le_antisymm List.countP_le_length h1) x hm
      simp at h2
  · cases h
theorem norm_mem {l : List Nat} {x : Nat} : x ∈ norm l ↔ x ∈ l := by
  unfold norm
  split
  · rename_i a b
    split
    · rfl
    · split
      · rename_i h; subst h; simp
      · simp [Or.comm]
  · rfl
theorem nextOf_len {n i : Nat} {o : Ins} {p : List Nat} (h : nextOf n i o = some p) : p.length ≤ 1 := by
  unfold nextOf at h
  split at h
  · split at h
    · cases h
    · cases h; exact Nat.le_refl _
  · cases h; exact Nat.zero_le _
theorem succ_parts {l : List Ins} {os : List Nat} {i : Nat} {s : List Nat} (h : succ l os i = some s) : ∃ o, l[i]? = some o ∧ ∃ p, nextOf l.length i o = some p ∧ ((jumps o.code = true ∧ ∃ t, place os o.a = some t ∧ s = norm (p ++ [t])) ∨ (jumps o.code = false ∧ s = norm p)) := by
  unfold succ at h
  obtain ⟨o, h1, h2⟩ := Option.bind_eq_some_iff.1 h
  unfold succO at h2
  obtain ⟨p, h3, h4⟩ := Option.bind_eq_some_iff.1 h2
  refine ⟨o, h1, p, h3, ?_⟩
  split at h4
  · rename_i hj
    obtain ⟨t, h5, h6⟩ := Option.map_eq_some_iff.1 h4
    exact .inl ⟨hj, t, h5, h6.symm⟩
  · rename_i hj
    cases h4
    exact .inr ⟨by simpa using hj, rfl⟩
theorem succ_lt {l : List Ins} {os : List Nat} (hl : os.length = l.length) {i : Nat} {s : List Nat} (h : succ l os i = some s) : ∀ x ∈ s, x < l.length := by
  obtain ⟨o, ho, p, h1, h2⟩ := succ_parts h
  have hi := (List.getElem?_eq_some_iff.1 ho).1
  have hp : ∀ x ∈ p, x < l.length := by
    unfold nextOf at h1
    split at h1
    · split at h1
      · cases h1
      · cases h1
        intro x hx
        obtain rfl := List.mem_singleton.1 hx
        omega
    · cases h1; simp
  intro x hx
  rcases h2 with ⟨_, t, h3, rfl⟩ | ⟨_, rfl⟩
  · rcases List.mem_append.1 (norm_mem.1 hx) with h4 | h4
    · exact hp x h4
    · obtain rfl := List.mem_singleton.1 h4
      have := placeLt h3
      omega
  · exact hp x (norm_mem.1 hx)
theorem graph_succ {l : List Ins} {os : List Nat} {g : List (List Nat)} (h : graph l os = some g) {i : Nat} (hi : i < l.length) : ∃ s, g[i]? = some s ∧ succ l os i = some s := by
  obtain ⟨_, h2, h3⟩ := graph_parts h
  obtain ⟨s, hs⟩ : ∃ s, g[i]? = some s := ⟨_, List.getElem?_eq_getElem (by rw [h2]; exact hi)⟩
  exact ⟨s, hs, node_succ ((h3 i hi).trans hs)⟩
theorem graph_lt {l : List Ins} {os : List Nat} (hl : os.length = l.length) {g : List (List Nat)} (h : graph l os = some g) : ∀ i, ∀ s ∈ g.getD i [], s < l.length := by
  intro i s hs
  have hi := mem_getD_lt hs
  obtain ⟨_, h2, _⟩ := graph_parts h
  obtain ⟨s', h3, h4⟩ := graph_succ h (i := i) (by omega)
  rw [List.getD_eq_getElem?_getD, h3] at hs
  exact succ_lt hl h4 s hs
theorem graph_lt' {l : List Ins} {os : List Nat} (hl : os.length = l.length) {g : List (List Nat)} (h : graph l os = some g) : ∀ s ∈ g, ∀ i ∈ s, i < l.length := by
  intro s hs i hi
  obtain ⟨k, hk, rfl⟩ := List.mem_iff_getElem.1 hs
  refine graph_lt hl h k i ?_
  rw [List.getD_eq_getElem?_getD, List.getElem?_eq_getElem hk]
  exact hi

/-- Well-formed code: its instructions, where they begin, the graph, the depths. -/
structure Well (b : List Nat) (l : List Ins) (os : List Nat) (g : List (List Nat)) (D : List Int) : Prop where
  dec : decR b = (l, os, 0)
  graph : graph l os = some g
  depths : depths l g = some D
/-- The error's number. -/
def Bad (b : List Nat) (e : Nat) : Prop := ∃ l os, decR b = (l, os, e) ∧ e ≠ 0 ∨ decR b = (l, os, 0) ∧ e = 8 ∧ (graph l os = none ∨ ∃ g, graph l os = some g ∧ depths l g = none)
theorem Bad.ne {b : List Nat} {e : Nat} (h : Bad b e) : e ≠ 0 := by
  obtain ⟨_, _, ⟨_, h⟩ | ⟨_, h, _⟩⟩ := h
  · exact h
  · omega
theorem Bad.not_well {b : List Nat} {e : Nat} (h : Bad b e) {l os g D} (w : Well b l os g D) : False := by
  obtain ⟨l', os', ⟨h1, h2⟩ | ⟨h1, h2, h3⟩⟩ := h
  · rw [w.dec] at h1
    simp only [Prod.mk.injEq] at h1
    omega
  · rw [w.dec] at h1
    simp only [Prod.mk.injEq] at h1
    obtain ⟨rfl, rfl, _⟩ := h1
    rcases h3 with h3 | ⟨g', h3, h4⟩
    · rw [w.graph] at h3; cases h3
    · rw [w.graph] at h3; cases h3
      rw [w.depths] at h4; cases h4
theorem Well.uniq {b : List Nat} {l l' os os' g g' D D'} (h : Well b l os g D) (k : Well b l' os' g' D') : l = l' ∧ os = os' ∧ g = g' ∧ D = D' := by
  have h1 := h.dec.symm.trans k.dec
  simp only [Prod.mk.injEq] at h1
  obtain ⟨rfl, rfl, _⟩ := h1
  have h2 := h.graph.symm.trans k.graph
  cases h2
  have h3 := h.depths.symm.trans k.depths
  cases h3
  exact ⟨rfl, rfl, rfl, rfl⟩
theorem Well.parts {b l os g D} (h : Well b l os g D) : l ≠ [] ∧ g.length = l.length := ⟨(graph_parts h.graph).1, (graph_parts h.graph).2.1⟩
def two : List Ins := [⟨1, 0, 0⟩, ⟨17, 0, 0⟩]
end Go.Proofs.YtjladeiecokpfaaGreatDoor.Fl

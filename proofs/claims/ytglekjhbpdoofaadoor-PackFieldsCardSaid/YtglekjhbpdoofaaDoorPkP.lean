/- Plain mathematics of the encoding of fields: what is written, what is read, that what was written is read back, and that what is cut short is not. No program is named here. -/
import Derived.Test.YtglekjhbpdoofaaDoorViP
namespace Go.Proofs.YtglekjhbpdoofaaDoor.Pk
open Go.RowKit

/-- Encodings one behind the other. -/
def encs (l : List Int) : List Nat := l.flatMap Vi.enc
theorem encs_nil : encs [] = [] := rfl
theorem encs_cons (x : Int) (l : List Int) : encs (x :: l) = Vi.enc x ++ encs l := by simp [encs]
theorem encs_snoc (l : List Int) (x : Int) : encs (l ++ [x]) = encs l ++ Vi.enc x := by simp [encs]
theorem encs_len : ∀ (l : List Int), l.length ≤ (encs l).length ∧ (encs l).length ≤ 10 * l.length
  | [] => by simp [encs]
  | x :: r => by
    have := encs_len r
    have := Vi.enc_len x
    rw [encs_cons, List.length_append, List.length_cons]
    omega
theorem encs_byte (l : List Int) : ∀ x ∈ encs l, x < 256 := by
  intro x hx
  obtain ⟨n, _, h⟩ := List.mem_flatMap.1 hx
  exact Vi.enc_byte n x h

/-- The bytes of a text. -/
def natsOf (s : ByteArray) : List Nat := s.data.toList.map UInt8.toNat
theorem natsOf_len (s : ByteArray) : (natsOf s).length = s.size := by
  unfold natsOf
  rw [List.length_map, Array.length_toList]
  rfl
theorem natsOf_byte (s : ByteArray) : ∀ x ∈ natsOf s, x < 256 := by
  intro x hx
  obtain ⟨u, _, rfl⟩ := List.mem_map.1 hx
  exact UInt8.toNat_lt u

/-- A field, or how it is read. -/
structure Fd where
  kind : Nat
  n : Int
  l : List Int
  s : ByteArray
  many : Int
  lo : Int
  hi : Int
/-- PK1: the bytes of a field. -/
def put (f : Fd) : List Nat := if f.kind = 0 then Vi.enc f.n else if f.kind = 1 then Vi.enc (f.l.length : Int) ++ encs f.l else Vi.enc (f.s.size : Int) ++ natsOf f.s
def puts (l : List Fd) : List Nat := l.flatMap put
theorem puts_nil : puts [] = [] := rfl
theorem puts_cons (x : Fd) (l : List Fd) : puts (x :: l) = put x ++ puts l := by simp [puts]
theorem puts_snoc (l : List Fd) (x : Fd) : puts (l ++ [x]) = puts l ++ put x := by simp [puts]
theorem put_byte (f : Fd) : ∀ x ∈ put f, x < 256 := by
  intro x hx
  unfold put at hx
  split at hx
  · exact Vi.enc_byte _ x hx
  · split at hx
    · rcases List.mem_append.1 hx with h | h
      · exact Vi.enc_byte _ x h
      · exact encs_byte _ x h
    · rcases List.mem_append.1 hx with h | h
      · exact Vi.enc_byte _ x h
      · exact natsOf_byte _ x h
theorem puts_byte (l : List Fd) : ∀ x ∈ puts l, x < 256 := by
  intro x hx
  obtain ⟨f, _, h⟩ := List.mem_flatMap.1 hx
  exact put_byte f x h
theorem put_len (f : Fd) : 1 ≤ (put f).length ∧ (put f).length ≤ 10 + 10 * f.l.length + f.s.size := by
  have h1 := Vi.enc_len f.n
  have h2 := Vi.enc_len (f.l.length : Int)
  have h3 := Vi.enc_len (f.s.size : Int)
  have h4 := encs_len f.l
  have h5 := natsOf_len f.s
  unfold put
  split
  · omega
  · split
    · rw [List.length_append]; omega
    · rw [List.length_append]; omega

/-! ### What is read -/
/-- A number from 'a' to 'b', and what stands behind it. -/
def num (r : List Nat) (a b : Int) : Option (Int × List Nat) :=
  if Vi.getE r = 0 ∧ a ≤ Vi.getN r ∧ Vi.getN r ≤ b then some (Vi.getN r, r.drop (Vi.getL r).length) else none
/-- A Reader's state: the bytes that are left; none: a call failed. -/
abbrev St := Option (List Nat)
def rest (st : St) : List Nat := st.getD []
def int (st : St) (a b : Int) : Int × St := match st.bind (num · a b) with
  | some (n, r) => (n, some r)
  | none => (0, none)
def count (st : St) (many : Int) : Int × St := match int st 0 many with
  | (n, some r) => if (r.length : Int) < n then (0, none) else (n, some r)
  | (_, none) => (0, none)
def many : Nat → List Nat → Int → Int → Option (List Int × List Nat)
  | 0, r, _, _ => some ([], r)
  | k + 1, r, a, b => (num r a b).bind fun x => (many k x.2 a b).map fun y => (x.1 :: y.1, y.2)
def ints (st : St) (m a b : Int) : List Int × St := match count st m with
  | (n, some r) => match many n.toNat r a b with
    | some (l, r') => (l, some r')
    | none => ([], none)
  | (_, none) => ([], none)
def text (st : St) (m : Int) : List Nat × St := match count st m with
  | (n, some r) => (r.take n.toNat, some (r.drop n.toNat))
  | (_, none) => ([], none)
/-- The string of bytes. -/
def strB (l : List Nat) : ByteArray := ⟨(l.map UInt8.ofNat).toArray⟩
/-- PK2: a field read. -/
def take (st : St) (f : Fd) : Fd × St :=
  if f.kind = 0 then ({ kind := f.kind, n := (int st f.lo f.hi).1, l := [], s := ⟨#[]⟩, many := 0, lo := 0, hi := 0 }, (int st f.lo f.hi).2)
  else if f.kind = 1 then ({ kind := f.kind, n := 0, l := (ints st f.many f.lo f.hi).1, s := ⟨#[]⟩, many := 0, lo := 0, hi := 0 }, (ints st f.many f.lo f.hi).2)
  else ({ kind := f.kind, n := 0, l := [], s := strB (text st f.many).1, many := 0, lo := 0, hi := 0 }, (text st f.many).2)

theorem num_len {r r' : List Nat} {a b n : Int} (h : num r a b = some (n, r')) : r'.length ≤ r.length := by
  unfold num at h
  split at h
  · simp only [Option.some.injEq, Prod.mk.injEq] at h
    rw [← h.2, List.length_drop]; omega
  · cases h
theorem num_drop {r r' : List Nat} {a b n : Int} (h : num r a b = some (n, r')) : ∃ k, r' = r.drop k ∧ k ≤ r.length ∧ a ≤ n ∧ n ≤ b := by
  unfold num at h
  split at h
  · rename_i hc
    simp only [Option.some.injEq, Prod.mk.injEq] at h
    refine ⟨_, h.2.symm, ?_, by omega, by omega⟩
    have : Vi.getL r <+: r := by
      unfold Vi.getL
      split
      · exact List.nil_prefix
      · rename_i l hl
        split
        · exact Vi.cut_prefix _ _ _ hl
        · exact List.nil_prefix
    exact this.length_le
  · cases h
theorem count_range {st : St} {m n : Int} {r : List Nat} (h : count st m = (n, some r)) : 0 ≤ n ∧ n ≤ m ∧ n ≤ r.length := by
  unfold count at h
  split at h
  · rename_i n' r' he
    split at h
    · cases h
    · simp only [Prod.mk.injEq, Option.some.injEq] at h
      obtain ⟨rfl, rfl⟩ := h
      unfold int at he
      split at he
      · rename_i n2 r2 hb
        simp only [Prod.mk.injEq, Option.some.injEq] at he
        obtain ⟨rfl, rfl⟩ := he
        obtain ⟨r0, _, h1⟩ := Option.bind_eq_some_iff.1 hb
        obtain ⟨_, _, _, h2, h3⟩ := num_drop h1
        omega
      · cases he
  · cases h
theorem many_len : ∀ (k : Nat) {r r' : List Nat} {a b : Int} {l : List Int}, many k r a b = some (l, r') → l.length = k ∧ r'.length ≤ r.length
  | 0, r, r', a, b, l, h => by
    simp only [many, Option.some.injEq, Prod.mk.injEq] at h
    obtain ⟨rfl, rfl⟩ := h
    exact ⟨rfl, Nat.le_refl _⟩
  | k + 1, r, r', a, b, l, h => by
    unfold many at h
    obtain ⟨x, h1, h2⟩ := Option.bind_eq_some_iff.1 h
    obtain ⟨y, h3, h4⟩ := Option.map_eq_some_iff.1 h2
    simp only [Prod.mk.injEq] at h4
    obtain ⟨rfl, rfl⟩ := h4
    have := many_len k h3
    have := num_len h1
    simp only [List.length_cons]
    omega

/-! ### What was written is read back -/
def I64 (n : Int) : Prop := Vi.I64 n
theorem num_enc {n : Int} (h : Vi.I64 n) (r : List Nat) {a b : Int} (ha : a ≤ n) (hb : n ≤ b) : num (Vi.enc n ++ r) a b = some (n, r) := by
  unfold num
  rw [Vi.getE_enc h, Vi.getN_enc h, Vi.getL_enc h, if_pos ⟨rfl, ha, hb⟩, List.drop_left]
theorem many_enc : ∀ (l : List Int), (∀ x ∈ l, Vi.I64 x) → ∀ (r : List Nat), many l.length (encs l ++ r) (-9223372036854775808) 9223372036854775807 = some (l, r)
  | [], _, r => rfl
  | x :: l, h, r => by
    have hx := h x (by simp)
    rw [encs_cons, List.length_cons, List.append_assoc]
    unfold many
    rw [num_enc hx _ hx.1 hx.2, Option.bind_some, many_enc l (fun y hy => h y (by simp [hy])) r]
    rfl
theorem nats_back (s : ByteArray) : strB (natsOf s) = s := by
  unfold strB natsOf
  have : (s.data.toList.map UInt8.toNat).map UInt8.ofNat = s.data.toList := by
    rw [List.map_map]
    conv => rhs; rw [← List.map_id s.data.toList]
    apply List.map_congr_left
    intro u _
    simp
  rw [this]
/-- A field that may be: its numbers are of 64 bits, its list and its text not too long. -/
structure Ok (f : Fd) : Prop where
  n : Vi.I64 f.n
  l : ∀ x ∈ f.l, Vi.I64 x
  ll : f.l.length ≤ 300
  sl : f.s.size ≤ 300
/-- How it is read back. -/
def wide (f : Fd) : Fd := { f with many := 300, lo := -9223372036854775808, hi := 9223372036854775807 }
theorem count_enc {k : Nat} (h : k ≤ 300) (r : List Nat) (hr : k ≤ r.length) : count (some (Vi.enc (k : Int) ++ r)) 300 = ((k : Int), some r) := by
  have e : int (some (Vi.enc (k : Int) ++ r)) 0 300 = ((k : Int), some r) := by
    unfold int
    rw [Option.bind_some, num_enc (show Vi.I64 (k : Int) by unfold Vi.I64; omega) r (by omega) (by omega)]
  unfold count
  rw [e]
  simp only
  rw [if_neg (by omega)]
/-- PK3: field by field. -/
theorem take_put {f : Fd} (h : Ok f) (r : List Nat) : ∃ g, take (some (put f ++ r)) (wide f) = (g, some r) ∧ (f.kind = 0 → g.n = f.n) ∧ (f.kind = 1 → g.l = f.l) ∧ (f.kind ≠ 0 → f.kind ≠ 1 → g.s = f.s) := by
  unfold take put wide
  simp only
  by_cases h0 : f.kind = 0
  · rw [if_pos h0, if_pos h0]
    unfold int
    rw [Option.bind_some, num_enc h.n r h.n.1 h.n.2]
    exact ⟨_, rfl, fun _ => rfl, fun h1 => by omega, fun h1 => absurd h0 h1⟩
  · rw [if_neg h0, if_neg h0]
    by_cases h1 : f.kind = 1
    · rw [if_pos h1, if_pos h1, List.append_assoc]
      unfold ints
      rw [count_enc h.ll _ (by rw [List.length_append]; have := (encs_len f.l).1; omega)]
      simp only [Int.toNat_natCast]
      rw [many_enc f.l h.l r]
      exact ⟨_, rfl, fun h2 => absurd h2 h0, fun _ => rfl, fun _ h2 => absurd h1 h2⟩
    · rw [if_neg h1, if_neg h1, List.append_assoc]
      unfold text
      rw [count_enc h.sl _ (by rw [List.length_append, natsOf_len]; omega)]
      simp only [Int.toNat_natCast]
      rw [← natsOf_len, List.take_left, List.drop_left, nats_back]
      exact ⟨_, rfl, fun h2 => absurd h2 h0, fun h2 => absurd h2 h1, fun _ _ => rfl⟩

/-! ### What is cut short is not all -/
theorem cut_more : ∀ (f : Nat) (p q l : List Nat), Vi.cut f p = some l → Vi.cut f (p ++ q) = some l
  | 0, p, q, l, h => by simp [Vi.cut] at h
  | f + 1, [], q, l, h => by simp [Vi.cut] at h
  | f + 1, x :: p, q, l, h => by
    rw [List.cons_append]
    by_cases hx : x < 128
    · rw [Vi.cut_low hx] at h ⊢; exact h
    · rw [Vi.cut_high (by omega)] at h ⊢
      obtain ⟨l', h1, rfl⟩ := Option.map_eq_some_iff.1 h
      rw [cut_more f p q l' h1]
      rfl
theorem getL_more {p q : List Nat} (h : Vi.getL p ≠ []) : Vi.getL (p ++ q) = Vi.getL p := by
  cases hc : Vi.cut 10 p with
  | none => exact absurd (Vi.getL_none hc) h
  | some l =>
    by_cases he : Vi.enc (Vi.val l) = l
    · rw [Vi.getL_yes hc he, Vi.getL_yes (cut_more 10 p q l hc) he]
    · exact absurd (Vi.getL_no hc he) h
theorem getL_prefix (r : List Nat) : Vi.getL r <+: r := by
  unfold Vi.getL
  split
  · exact List.nil_prefix
  · rename_i l hl
    split
    · exact Vi.cut_prefix _ _ _ hl
    · exact List.nil_prefix
theorem num_more {p q r : List Nat} {a b n : Int} (h : num p a b = some (n, r)) : num (p ++ q) a b = some (n, r ++ q) := by
  unfold num at h
  split at h
  · rename_i hc
    have hne : Vi.getL p ≠ [] := by
      intro h0
      have := hc.1
      unfold Vi.getE at this
      rw [if_pos h0] at this
      omega
    have e := getL_more (q := q) hne
    have hN : Vi.getN (p ++ q) = Vi.getN p := by unfold Vi.getN; rw [e]
    have hE : Vi.getE (p ++ q) = Vi.getE p := by unfold Vi.getE; rw [e]
    simp only [Option.some.injEq, Prod.mk.injEq] at h
    unfold num
    rw [hN, hE, if_pos hc, e, List.drop_append_of_le_length (getL_prefix p).length_le]
    rw [h.1, h.2]
  · cases h
theorem int_more {p q : List Nat} {a b n : Int} {r : List Nat} (h : int (some p) a b = (n, some r)) : int (some (p ++ q)) a b = (n, some (r ++ q)) := by
  unfold int at h ⊢
  rw [Option.bind_some] at h ⊢
  cases hn : num p a b with
  | none => rw [hn] at h; cases h
  | some x =>
    obtain ⟨n', r'⟩ := x
    rw [hn] at h
    simp only [Prod.mk.injEq, Option.some.injEq] at h
    obtain ⟨rfl, rfl⟩ := h
    rw [num_more hn]
theorem count_more {p q : List Nat} {m n : Int} {r : List Nat} (h : count (some p) m = (n, some r)) : count (some (p ++ q)) m = (n, some (r ++ q)) := by
  unfold count at h ⊢
  split at h
  · rename_i n' r' he
    rw [int_more he]
    split at h
    · cases h
    · simp only [Prod.mk.injEq, Option.some.injEq] at h
      obtain ⟨rfl, rfl⟩ := h
      simp only
      rw [if_neg (by rw [List.length_append]; omega)]
  · cases h
theorem many_more : ∀ (k : Nat) {p q r : List Nat} {a b : Int} {l : List Int}, many k p a b = some (l, r) → many k (p ++ q) a b = some (l, r ++ q)
  | 0, p, q, r, a, b, l, h => by
    simp only [many, Option.some.injEq, Prod.mk.injEq] at h
    obtain ⟨rfl, rfl⟩ := h
    rfl
  | k + 1, p, q, r, a, b, l, h => by
    unfold many at h ⊢
    obtain ⟨x, h1, h2⟩ := Option.bind_eq_some_iff.1 h
    obtain ⟨y, h3, h4⟩ := Option.map_eq_some_iff.1 h2
    obtain ⟨x1, x2⟩ := x
    obtain ⟨y1, y2⟩ := y
    simp only [Prod.mk.injEq] at h4
    obtain ⟨rfl, rfl⟩ := h4
    rw [num_more h1, Option.bind_some, many_more k h3]
    rfl
theorem take_more {p q : List Nat} {f g : Fd} {r : List Nat} (h : take (some p) f = (g, some r)) : take (some (p ++ q)) f = (g, some (r ++ q)) := by
  unfold take at h ⊢
  by_cases h0 : f.kind = 0
  · rw [if_pos h0] at h ⊢
    generalize hi : int (some p) f.lo f.hi = x at *
    obtain ⟨n, st⟩ := x
    simp only [Prod.mk.injEq] at h
    obtain ⟨rfl, rfl⟩ := h
    rw [int_more hi]
  · rw [if_neg h0] at h ⊢
    by_cases h1 : f.kind = 1
    · rw [if_pos h1] at h ⊢
      unfold ints at h ⊢
      cases hc : count (some p) f.many with
      | mk n st =>
        rw [hc] at h
        cases st with
        | none => simp at h
        | some r0 =>
          rw [count_more hc]
          simp only at h ⊢
          cases hm : many n.toNat r0 f.lo f.hi with
          | none => rw [hm] at h; simp at h
          | some y =>
            obtain ⟨l, r1⟩ := y
            rw [hm] at h
            rw [many_more _ hm]
            simp only [Prod.mk.injEq, Option.some.injEq] at h ⊢
            exact ⟨h.1, by rw [h.2]⟩
    · rw [if_neg h1] at h ⊢
      unfold text at h ⊢
      cases hc : count (some p) f.many with
      | mk n st =>
        rw [hc] at h
        cases st with
        | none => simp at h
        | some r0 =>
          have hr := count_range hc
          rw [count_more hc]
          simp only [Prod.mk.injEq, Option.some.injEq] at h ⊢
          rw [List.take_append_of_le_length (by omega), List.drop_append_of_le_length (by omega)]
          exact ⟨h.1, by rw [h.2]⟩
/-- Fields read one behind the other. -/
def takes (st : St) : List Fd → St
  | [] => st
  | f :: l => takes (take st f).2 l
theorem takes_snoc : ∀ (l : List Fd) (st : St) (f : Fd), takes st (l ++ [f]) = (take (takes st l) f).2
  | [], _, _ => rfl
  | _ :: l, _, f => takes_snoc l _ f
theorem take_none (f : Fd) : (take none f).2 = none := by
  unfold take
  split
  · rfl
  · split <;> rfl
theorem takes_more : ∀ (l : List Fd) {p q r : List Nat}, takes (some p) l = some r → takes (some (p ++ q)) l = some (r ++ q)
  | [], p, q, r, h => by
    simp only [takes, Option.some.injEq] at h ⊢
    rw [h]
  | f :: l, p, q, r, h => by
    unfold takes at h ⊢
    cases hx : take (some p) f with
    | mk g st =>
      rw [hx] at h
      cases st with
      | none =>
        have : ∀ l, takes none l = none := by
          intro l
          induction l with
          | nil => rfl
          | cons f l ih => unfold takes; rw [take_none]; exact ih
        rw [this] at h; cases h
      | some r0 =>
        rw [take_more hx]
        exact takes_more l h
theorem takes_puts : ∀ (l : List Fd), (∀ f ∈ l, Ok f) → ∀ (r : List Nat), takes (some (puts l ++ r)) (l.map wide) = some r
  | [], _, r => rfl
  | f :: l, h, r => by
    rw [puts_cons, List.append_assoc, List.map_cons]
    unfold takes
    obtain ⟨g, hg, _⟩ := take_put (h f (by simp)) (puts l ++ r)
    rw [hg]
    exact takes_puts l (fun x hx => h x (by simp [hx])) r
/-- Cut short: a field fails, or bytes remain. -/
theorem takes_cut {l : List Fd} (h : ∀ f ∈ l, Ok f) {k : Nat} (hk : k < (puts l).length) : takes (some ((puts l).take k)) (l.map wide) ≠ some [] := by
  intro h1
  have h2 := takes_more (q := (puts l).drop k) _ h1
  rw [List.take_append_drop] at h2
  have h3 := takes_puts l h []
  rw [List.append_nil] at h3
  rw [h3] at h2
  simp only [List.nil_append, Option.some.injEq] at h2
  have := congrArg List.length h2
  rw [List.length_drop, List.length_nil] at this
  omega
/-! ### What failed stays so -/
theorem int_none (a b : Int) : int none a b = (0, none) := rfl
theorem int_bad (st : St) : int st 1 0 = (0, none) := by
  unfold int
  cases st with
  | none => rfl
  | some r =>
    rw [Option.bind_some]
    have : num r 1 0 = none := by
      unfold num
      rw [if_neg (by omega)]
    rw [this]
theorem ints_none (m a b : Int) : ints none m a b = ([], none) := rfl
theorem text_none (m : Int) : text none m = ([], none) := rfl
end Go.Proofs.YtglekjhbpdoofaaDoor.Pk

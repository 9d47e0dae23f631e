/- Texts of this claim in one: Dv Dv2. -/
import Derived.Test.YtmcfciifjgdgoaaDoorBase
section
/- Plain mathematics of a division of two words by one: one half of the quotient, guessed and set right. No program is named here. -/
namespace Go.Proofs.YtmcfciifjgdgoaaDoor.Dv

/-- The half of the quotient that is looked for. -/
def quo (u v y1 y0 : Nat) : Nat := (u * 4294967296 + v) / (y1 * 4294967296 + y0)
/-- What holds of the guess. -/
structure Guess (u v y1 y0 q r : Nat) : Prop where
  sum : q * y1 + r = u
  le : quo u v y1 y0 ≤ q
  top : q ≤ 4294967297
structure Form (u v y1 y0 : Nat) : Prop where
  y1lo : 2147483648 ≤ y1
  y1hi : y1 < 4294967296
  y0hi : y0 < 4294967296
  vhi : v < 4294967296
  ult : u < y1 * 4294967296 + y0
theorem Form.quo_lt {u v y1 y0 : Nat} (h : Form u v y1 y0) : quo u v y1 y0 < 4294967296 := by
  have := h.ult
  have := h.vhi
  unfold quo
  rw [Nat.div_lt_iff_lt_mul (by have := h.y1lo; omega)]
  omega
theorem Guess.start {u v y1 y0 : Nat} (h : Form u v y1 y0) : Guess u v y1 y0 (u / y1) (u % y1) := by
  have h1 := h.y1lo
  have h2 := h.y1hi
  have h3 := h.y0hi
  have h4 := h.vhi
  have h5 := h.ult
  have hd := Nat.div_add_mod u y1
  refine ⟨by rw [Nat.mul_comm]; exact hd, ?_, ?_⟩
  · rw [Nat.le_div_iff_mul_le (by omega)]
    have hq : quo u v y1 y0 * (y1 * 4294967296 + y0) ≤ u * 4294967296 + v := Nat.div_mul_le_self _ _
    rw [Nat.mul_add, ← Nat.mul_assoc] at hq
    omega
  · have hle : u / y1 ≤ (y1 * 4294967297 + (y1 - 1)) / y1 := Nat.div_le_div_right (by omega)
    have he : (y1 * 4294967297 + (y1 - 1)) / y1 = 4294967297 := by
      rw [Nat.mul_add_div (by omega), Nat.div_eq_of_lt (by omega)]
    omega
theorem dec_aux (a b r u v : Nat) (h1 : a + r = u) (h2 : r * 4294967296 + v < b) : u * 4294967296 + v < a * 4294967296 + b := by
  subst h1
  rw [Nat.add_mul, Nat.add_assoc]
  exact Nat.add_lt_add_left h2 _
theorem Guess.dec {u v y1 y0 q r : Nat} (h : Form u v y1 y0) (g : Guess u v y1 y0 q r) (hc : 4294967296 ≤ q ∨ r * 4294967296 + v < q * y0) : 0 < q ∧ Guess u v y1 y0 (q - 1) (r + y1) ∧ q - 1 ≤ 4294967296 := by
  have hlt : quo u v y1 y0 < q := by
    rcases hc with hc | hc
    · exact Nat.lt_of_lt_of_le h.quo_lt hc
    · unfold quo
      rw [Nat.div_lt_iff_lt_mul (Nat.lt_of_lt_of_le (Nat.mul_pos (Nat.lt_of_lt_of_le (by decide) h.y1lo) (by decide)) (Nat.le_add_right _ _)), Nat.mul_add, ← Nat.mul_assoc]
      exact dec_aux _ _ _ _ _ g.sum hc
  refine ⟨by omega, ⟨?_, by omega, by have := g.top; omega⟩, by have := g.top; omega⟩
  have := g.sum
  obtain ⟨k, rfl⟩ : ∃ k, q = k + 1 := ⟨q - 1, by omega⟩
  rw [Nat.add_mul] at this
  rw [Nat.add_sub_cancel]
  omega
theorem Guess.done {u v y1 y0 q r : Nat} (h : Form u v y1 y0) (g : Guess u v y1 y0 q r) (hc : q * y0 ≤ r * 4294967296 + v) : q = quo u v y1 y0 := by
  refine Nat.le_antisymm ?_ g.le
  unfold quo
  rw [Nat.le_div_iff_mul_le (by have := h.y1lo; omega), Nat.mul_add, ← Nat.mul_assoc]
  have := g.sum
  omega
theorem Guess.broke {u v y1 y0 q r : Nat} (h : Form u v y1 y0) (g : Guess u v y1 y0 q r) (hq : q ≤ 4294967296) (hr : 4294967296 ≤ r) : q = quo u v y1 y0 := by
  refine g.done h ?_
  have h1 : q * y0 ≤ 4294967296 * y0 := Nat.mul_le_mul_right _ hq
  have := h.y0hi
  omega
/-- What is left over, as the next half's dividend. -/
theorem rest_eq {u v y1 y0 : Nat} : u * 4294967296 + v = quo u v y1 y0 * (y1 * 4294967296 + y0) + (u * 4294967296 + v) % (y1 * 4294967296 + y0) := by
  unfold quo
  have := Nat.div_add_mod (u * 4294967296 + v) (y1 * 4294967296 + y0)
  rw [Nat.mul_comm ((u * 4294967296 + v) / (y1 * 4294967296 + y0))]
  exact this.symm
set_option maxRecDepth 100000 in
/-- Both halves together. -/
theorem both (hi lo1 lo0 y : Nat) (hy : 0 < y) : (hi * 18446744073709551616 + (lo1 * 4294967296 + lo0)) / y = (hi * 4294967296 + lo1) / y * 4294967296 + ((hi * 4294967296 + lo1) % y * 4294967296 + lo0) / y ∧
    (hi * 18446744073709551616 + (lo1 * 4294967296 + lo0)) % y = ((hi * 4294967296 + lo1) % y * 4294967296 + lo0) % y := by
  have h := Nat.div_add_mod (hi * 4294967296 + lo1) y
  have key : ∀ a b : Nat, y * a + b = hi * 4294967296 + lo1 → (hi * 18446744073709551616 + (lo1 * 4294967296 + lo0)) / y = a * 4294967296 + (b * 4294967296 + lo0) / y ∧ (hi * 18446744073709551616 + (lo1 * 4294967296 + lo0)) % y = (b * 4294967296 + lo0) % y := by
    intro a b hab
    have e : hi * 18446744073709551616 + (lo1 * 4294967296 + lo0) = y * (a * 4294967296) + (b * 4294967296 + lo0) := by
      rw [← Nat.mul_assoc]
      omega
    rw [e, Nat.mul_add_div hy, Nat.mul_add_mod]
    exact ⟨rfl, rfl⟩
  exact key _ _ h
end Go.Proofs.YtmcfciifjgdgoaaDoor.Dv
end

section
/- Plain mathematics of a division of two words by one: the shift ahead of it, and what comes of both halves. No program is named here. -/
namespace Go.Proofs.YtmcfciifjgdgoaaDoor.Dv

theorem pow_split {s : Nat} (hs : s ≤ 64) : 2 ^ (64 - s) * 2 ^ s = 18446744073709551616 := by
  rw [← Nat.pow_add, Nat.sub_add_cancel hs]
/-- The high word and the low one, shifted. -/
theorem shift_sum {hi lo s : Nat} (hs : s ≤ 64) : (hi * 2 ^ s + lo / 2 ^ (64 - s)) * 18446744073709551616 + lo * 2 ^ s % 18446744073709551616 = (hi * 18446744073709551616 + lo) * 2 ^ s := by
  have hd : lo * 2 ^ s / 18446744073709551616 = lo / 2 ^ (64 - s) := by
    rw [← pow_split hs]
    exact Nat.mul_div_mul_right _ _ (Nat.pow_pos (by decide))
  have h := Nat.div_add_mod (lo * 2 ^ s) 18446744073709551616
  rw [hd, Nat.mul_comm] at h
  rw [Nat.add_mul, Nat.add_assoc, h, Nat.add_mul, Nat.mul_right_comm]
theorem shift_lt {hi lo y s : Nat} (hs : s ≤ 64) (hh : hi < y) (hl : lo < 18446744073709551616) : hi * 2 ^ s + lo / 2 ^ (64 - s) < y * 2 ^ s := by
  have h1 : lo / 2 ^ (64 - s) < 2 ^ s := by
    rw [Nat.div_lt_iff_lt_mul (Nat.pow_pos (by decide)), Nat.mul_comm, pow_split hs]
    exact hl
  have h2 : (hi + 1) * 2 ^ s ≤ y * 2 ^ s := Nat.mul_le_mul_right _ hh
  rw [Nat.add_mul, Nat.one_mul] at h2
  exact Nat.lt_of_lt_of_le (Nat.add_lt_add_left h1 _) h2
theorem unshift_div {U y s : Nat} : (U * 2 ^ s) / (y * 2 ^ s) = U / y := Nat.mul_div_mul_right _ _ (Nat.pow_pos (by decide))
theorem unshift_mod {U y s : Nat} : (U * 2 ^ s) % (y * 2 ^ s) / 2 ^ s = U % y := by
  rw [Nat.mul_mod_mul_right, Nat.mul_div_cancel _ (Nat.pow_pos (by decide))]
/-- The whole: from the shifted words' halves to quotient and remainder. -/
theorem whole {hi lo y s : Nat} (hs : s ≤ 64) (hy : 0 < y) :
    let yn := y * 2 ^ s
    let un32 := hi * 2 ^ s + lo / 2 ^ (64 - s)
    let un10 := lo * 2 ^ s % 18446744073709551616
    let un21 := (un32 * 4294967296 + un10 / 4294967296) % yn
    (hi * 18446744073709551616 + lo) / y = (un32 * 4294967296 + un10 / 4294967296) / yn * 4294967296 + (un21 * 4294967296 + un10 % 4294967296) / yn ∧
      (hi * 18446744073709551616 + lo) % y = (un21 * 4294967296 + un10 % 4294967296) % yn / 2 ^ s := by
  intro yn un32 un10 un21
  have hyn : 0 < yn := Nat.mul_pos hy (Nat.pow_pos (by decide))
  have h := both un32 (un10 / 4294967296) (un10 % 4294967296) yn hyn
  have e : un10 / 4294967296 * 4294967296 + un10 % 4294967296 = un10 := by
    rw [Nat.mul_comm]; exact Nat.div_add_mod _ _
  rw [e, shift_sum hs] at h
  obtain ⟨h1, h2⟩ := h
  constructor
  · rw [← h1]; exact unshift_div.symm
  · rw [← h2]; exact unshift_mod.symm
end Go.Proofs.YtmcfciifjgdgoaaDoor.Dv
end

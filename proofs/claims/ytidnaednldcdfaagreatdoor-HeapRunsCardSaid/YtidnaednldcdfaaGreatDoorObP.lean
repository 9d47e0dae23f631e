/- Values and objects of stage 11, as plain data. No program is named here. -/
import Derived.Test.YtidnaednldcdfaaGreatDoorRlP
import Derived.Test.YtidnaednldcdfaaGreatDoorALat
namespace Go.Proofs.YtidnaednldcdfaaGreatDoor.Ob
open La
structure Val where
  k : Nat
  n : Int
  l : Int
deriving DecidableEq
structure Obj where
  cls : Int
  lev : Int
  f : List Val
  b : ByteArray
def numB (k : Nat) (n : Int) : Bool :=
  if k ≤ 2 then decide (n = 0) else if k = 3 then decide (-2305843009213693952 ≤ n) && decide (n ≤ 2305843009213693951) else if k = 4 then decide (0 ≤ n) && decide (n < 65536) else if k = 5 then decide (0 ≤ n) && decide (n < 64) else false
def inB (i n : Int) : Bool := decide (0 ≤ i) && decide (i < n)
def valueB (n : Nat) (v : Val) : Bool := inB v.l n && numB v.k v.n
def headB (n : Nat) (o : Obj) : Bool := inB o.cls 64 && (inB o.lev n && (decide (o.f.length ≤ 256) && (decide (o.b.size ≤ 1024) && (decide (o.f.length = 0) || decide (o.b.size = 0)))))
def mayB (n : Nat) (o : Obj) : Bool := headB n o && o.f.all (valueB n)
/-- How many have a level. -/
def cnt (l : List Obj) (x : Int) : Nat := l.countP (fun o => decide (o.lev = x))
def hash (l : List Obj) (i : Nat) : Nat := cnt (l.take i) ((l[i]?.map (·.lev)).getD 0)
theorem cnt_snoc (l : List Obj) (o : Obj) (x : Int) : cnt (l ++ [o]) x = cnt l x + if o.lev = x then 1 else 0 := by
  simp only [cnt, List.countP_append, List.countP_singleton, decide_eq_true_eq]
theorem cnt_le (l : List Obj) (x : Int) : cnt l x ≤ l.length := List.countP_le_length
/-- What is put into a field. -/
def putV (up : List Nat) (under : Int) (v : Val) : Val := ⟨v.k, v.n, joinOf up v.l under⟩
def setF (o : Obj) (k : Nat) (v : Val) : Obj := { o with f := o.f.set k v }
/-- What Put answers: an error's number, and the objects then. -/
def putCode (up : List Nat) (l : List Obj) (i k under : Int) (v : Val) : Nat :=
  if !(valueB up.length v && inB under up.length) then 1
  else match l[i.toNat]? with
    | none => 3
    | some o => if i < 0 then 3 else match o.f[k.toNat]? with
      | none => 3
      | some x => if k < 0 then 3 else if rleq up under x.l then 0 else 11
def put (up : List Nat) (l : List Obj) (i k under : Int) (v : Val) : List Obj :=
  if putCode up l i k under v = 0 then l.modify i.toNat (fun o => setF o k.toNat (putV up under v)) else l
theorem put_bad {up : List Nat} {l : List Obj} {i k under : Int} {v : Val} (h : putCode up l i k under v ≠ 0) : put up l i k under v = l := by simp [put, h]
theorem put_len (up : List Nat) (l : List Obj) (i k under : Int) (v : Val) : (put up l i k under v).length = l.length := by
  unfold put
  split
  · simp
  · rfl
theorem code_arg {up : List Nat} {l : List Obj} {i k under : Int} {v : Val} (h : (valueB up.length v && inB under up.length) = false) : putCode up l i k under v = 1 := by simp [putCode, h]
theorem code_obj {up : List Nat} {l : List Obj} {i k under : Int} {v : Val} (h : (valueB up.length v && inB under up.length) = true) (hi : inB i l.length = false) : putCode up l i k under v = 3 := by
  unfold putCode
  rw [h, Bool.not_true, if_neg (by decide)]
  rcases Nat.lt_or_ge i.toNat l.length with h1 | h1
  · have h2 : i < 0 := by
      simp only [inB, Bool.and_eq_false_iff, decide_eq_false_iff_not] at hi
      omega
    rw [List.getElem?_eq_getElem h1]
    simp [h2]
  · rw [List.getElem?_eq_none h1]
theorem code_field {up : List Nat} {l : List Obj} {i : Nat} {k under : Int} {v : Val} {o : Obj} (h : (valueB up.length v && inB under up.length) = true) (hi : l[i]? = some o) (hk : inB k o.f.length = false) : putCode up l (i : Int) k under v = 3 := by
  unfold putCode
  rw [h, Bool.not_true, if_neg (by decide), Int.toNat_natCast, hi]
  have h0 : ¬ (i : Int) < 0 := by omega
  simp only [h0, if_false]
  rcases Nat.lt_or_ge k.toNat o.f.length with h1 | h1
  · have h2 : k < 0 := by
      simp only [inB, Bool.and_eq_false_iff, decide_eq_false_iff_not] at hk
      omega
    rw [List.getElem?_eq_getElem h1]
    simp [h2]
  · rw [List.getElem?_eq_none h1]
theorem code_leq {up : List Nat} {l : List Obj} {i k : Nat} {under : Int} {v x : Val} {o : Obj} (h : (valueB up.length v && inB under up.length) = true) (hi : l[i]? = some o) (hk : o.f[k]? = some x) : putCode up l (i : Int) (k : Int) under v = if rleq up under x.l then 0 else 11 := by
  unfold putCode
  rw [h, Bool.not_true, if_neg (by decide), Int.toNat_natCast, hi]
  have h0 : ¬ (i : Int) < 0 := by omega
  have h1 : ¬ (k : Int) < 0 := by omega
  simp only [h0, h1, if_false, Int.toNat_natCast, hk]
theorem put_at {up : List Nat} {l : List Obj} {i k : Nat} {under : Int} {v : Val} (h : putCode up l (i : Int) (k : Int) under v = 0) : put up l (i : Int) (k : Int) under v = l.modify i (fun o => setF o k (putV up under v)) := by
  unfold put
  rw [if_pos h, Int.toNat_natCast, Int.toNat_natCast]
/-- What it needs to be 0. -/
theorem code_zero {up : List Nat} {l : List Obj} {i k under : Int} {v : Val} (h : putCode up l i k under v = 0) : valueB up.length v = true ∧ inB under up.length = true ∧ ∃ (a b : Nat) (o : Obj) (x : Val), i = (a : Int) ∧ k = (b : Int) ∧ l[a]? = some o ∧ o.f[b]? = some x ∧ rleq up under x.l = true := by
  cases hv : valueB up.length v && inB under up.length
  · rw [code_arg hv] at h; cases h
  · have hv' := hv
    rw [Bool.and_eq_true] at hv'
    refine ⟨hv'.1, hv'.2, ?_⟩
    cases hi : inB i l.length
    · rw [code_obj hv hi] at h; cases h
    · obtain ⟨a, rfl⟩ : ∃ a : Nat, i = a := ⟨i.toNat, by simp [inB] at hi; omega⟩
      have ha : a < l.length := by simp [inB] at hi; omega
      have e1 := List.getElem?_eq_getElem ha
      cases hk : inB k l[a].f.length
      · rw [code_field hv e1 hk] at h; cases h
      · obtain ⟨b, rfl⟩ : ∃ b : Nat, k = b := ⟨k.toNat, by simp [inB] at hk; omega⟩
        have hb : b < l[a].f.length := by simp [inB] at hk; omega
        have e2 := List.getElem?_eq_getElem hb
        rw [code_leq hv e1 e2] at h
        refine ⟨a, b, _, _, rfl, rfl, e1, e2, ?_⟩
        cases hr : rleq up under (l[a].f[b]).l
        · rw [hr] at h; cases h
        · rfl
theorem hash_zero_level {l : List Obj} {i : Nat} {o : Obj} (h : l[i]? = some o) : hash l i = cnt (l.take i) o.lev := by simp [hash, h]
/-- What Put leaves of the levels. -/
theorem put_levs (up : List Nat) (l : List Obj) (i k under : Int) (v : Val) : (put up l i k under v).map (·.lev) = l.map (·.lev) := by
  unfold put
  split
  · apply List.ext_getElem?
    intro j
    simp only [List.getElem?_map, List.getElem?_modify]
    split
    · cases l[j]? <;> rfl
    · simp
  · rfl
theorem cnt_map (l : List Obj) (x : Int) : cnt l x = (l.map (·.lev)).countP (fun y => decide (y = x)) := by
  rw [cnt, List.countP_map]; rfl
theorem hash_map {l l' : List Obj} (h : l.map (·.lev) = l'.map (·.lev)) (i : Nat) : hash l i = hash l' i := by
  have e : (l[i]?.map (·.lev)) = (l'[i]?.map (·.lev)) := by rw [← List.getElem?_map, ← List.getElem?_map, h]
  rw [hash, hash, e, cnt_map, cnt_map, List.map_take, List.map_take, h]
/-- One more behind leaves the elder ones' numbers. -/
theorem hash_app {l : List Obj} (o : Obj) {i : Nat} (hi : i < l.length) : hash (l ++ [o]) i = hash l i := by
  rw [hash, hash, List.getElem?_append_left hi, List.take_append_of_le_length (by omega)]
theorem hash_new (l : List Obj) (o : Obj) : hash (l ++ [o]) l.length = cnt l o.lev := by
  have e : (l ++ [o])[l.length]? = some o := by simp
  rw [hash_zero_level e, List.take_append_of_le_length (Nat.le_refl _), List.take_length]
theorem hash_le (l : List Obj) (i : Nat) : hash l i ≤ l.length := Nat.le_trans (cnt_le _ _) (by rw [List.length_take]; omega)
end Go.Proofs.YtidnaednldcdfaaGreatDoor.Ob

/- Stage 12: the reference's memory, as plain data. -/
import Derived.Test.YtidnaednldcdfaaGreatDoorGdA
import Derived.Test.YtidnaednldcdfaaGreatDoorGbA
namespace Go.Proofs.YtidnaednldcdfaaGreatDoor
open Go.RowKit

/-- The code of New, where the lattice, the room and the number of quotas are right. -/
theorem newCode_rest {up : List Nat} {room : Int} {quota : List Int} (hv : La.valid up = true) (hr : limB room = true) (hq : quota.length ≤ up.length) : newCode up room quota = if (List.range up.length).all (fun j => limB (qf room quota j)) then 0 else 1 := by
  unfold newCode
  rw [hv, if_neg (by decide), hr, decide_eq_false (by omega)]
  have e : quota.any (fun x => !limB x) = !(List.range up.length).all (fun j => limB (qf room quota j)) := by
    cases h : quota.any (fun x => !limB x)
    · symm
      rw [Bool.not_eq_false']
      refine List.all_eq_true.2 (fun j _ => ?_)
      unfold qf
      rw [List.getD_eq_getElem?_getD]
      cases hj : quota[j]? with
      | none => exact hr
      | some x =>
        cases hb : limB x
        · have := List.any_eq_true (p := fun x => !limB x) |>.2 ⟨x, List.mem_of_getElem? hj, (by rw [hb]; rfl : (!limB x) = true)⟩
          rw [this] at h
          cases h
        · exact hb
    · symm
      obtain ⟨x, hx, hb⟩ := List.any_eq_true.1 h
      obtain ⟨j, hj⟩ := List.mem_iff_getElem?.1 hx
      have hjl := (List.getElem?_eq_some_iff.1 hj).1
      cases hall : (List.range up.length).all (fun j => limB (qf room quota j))
      · rfl
      · have h1 := List.all_eq_true.1 hall j (List.mem_range.2 (by omega))
        unfold qf at h1
        rw [List.getD_eq_getElem?_getD, hj] at h1
        rw [Option.getD_some] at h1
        rw [h1] at hb
        cases hb
  rw [e]
  cases (List.range up.length).all (fun j => limB (qf room quota j)) <;> rfl
theorem newCode_lat {up : List Nat} {room : Int} {quota : List Int} (hv : La.valid up = false) : newCode up room quota = 7 := by
  unfold newCode
  rw [hv, if_pos rfl]
theorem newCode_arg {up : List Nat} {room : Int} {quota : List Int} (hv : La.valid up = true) (h : limB room = false ∨ up.length < quota.length) : newCode up room quota = 1 := by
  unfold newCode
  rw [hv, if_neg (by decide)]
  rcases h with h | h
  · rw [h]; rfl
  · rw [decide_eq_true h]
    cases limB room <;> rfl
/-- Whose words are told. -/
def uB (v : Int) (x : Hp.It) : Bool := decide (v < 0) || Hp.lvl v x
def rused (L : List Hp.It) (v : Int) : Nat := Hp.sumIf (uB v) L
theorem rused_neg (L : List Hp.It) {v : Int} (h : v < 0) : rused L v = Hp.all L := by
  unfold rused Hp.all
  rw [show uB v = fun _ => true from funext (fun x => by unfold uB; rw [decide_eq_true h]; rfl)]
theorem rused_nat (L : List Hp.It) {v : Int} (h : 0 ≤ v) : rused L v = Hp.used L v := by
  unfold rused Hp.used
  rw [show uB v = Hp.lvl v from funext (fun x => by unfold uB; rw [decide_eq_false (by omega)]; rfl)]
theorem rused_next {L : List Hp.It} {v : Int} {i : Nat} {x : Hp.It} (hx : L[i]? = some x) : rused (L.take (i + 1)) v = rused (L.take i) v + if uB v x then Hp.words x.o else 0 := by
  unfold rused
  rw [List.take_add_one, hx, Hp.sumIf_app]
  rfl
def Small (L : List Hp.It) : Prop := L.length ≤ 100000 ∧ ∀ x ∈ L, x.o.f.length ≤ 300 ∧ x.o.b.size ≤ 1100
theorem Small.words {L : List Hp.It} (h : Small L) {x : Hp.It} (hx : x ∈ L) : Hp.words x.o ≤ 740 := by
  have := h.2 x hx
  unfold Hp.words
  omega
theorem Small.sum {L : List Hp.It} (h : ∀ x ∈ L, Hp.words x.o ≤ 740) (p : Hp.It → Bool) : Hp.sumIf p L ≤ 740 * L.length := by
  induction L with
  | nil => exact Nat.le_refl _
  | cons x r ih =>
    have h1 := h x (List.mem_cons_self ..)
    have h2 := ih (fun y hy => h y (List.mem_cons_of_mem _ hy))
    rw [Hp.sumIf, List.length_cons]
    split <;> omega
theorem Small.used {L : List Hp.It} (h : Small L) (v : Int) (i : Nat) : rused (L.take i) v ≤ 74000000 := by
  have h1 := Small.sum (L := L.take i) (fun x hx => h.words (List.mem_of_mem_take hx)) (uB v)
  have h2 := h.1
  rw [List.length_take] at h1
  unfold rused
  omega
theorem Small.of {n : Nat} {L : List Hp.It} (h : ∀ x ∈ L, Ob.mayB n x.o = true) (hl : L.length ≤ 100000) : Small L := ⟨hl, fun x hx => by
  have := hp_head (h x hx)
  omega⟩
/-- Where in the list a number is. -/
def placeAt (L : List Hp.It) (i : Int) : Int := match L.findIdx? (fun x => decide (x.i = i)) with
  | some k => (k : Int)
  | none => -1
theorem place_none {L : List Hp.It} {i : Int} (h : ∀ (k : Nat) (x : Hp.It), L[k]? = some x → x.i ≠ i) : placeAt L i = -1 ∧ Hp.find L i = none := by
  have h1 : ∀ x ∈ L, x.i ≠ i := fun x hx => by
    obtain ⟨k, hk⟩ := List.mem_iff_getElem?.1 hx
    exact h k x hk
  refine ⟨?_, Hp.find_none.2 h1⟩
  unfold placeAt
  rw [List.findIdx?_eq_none_iff.2 (fun x hx => by rw [decide_eq_false (h1 x hx)])]
theorem place_some {L : List Hp.It} {i : Int} {k : Nat} {x : Hp.It} (hx : L[k]? = some x) (hi : x.i = i) (h : ∀ (j : Nat) (y : Hp.It), j < k → L[j]? = some y → y.i ≠ i) : placeAt L i = (k : Int) ∧ Hp.find L i = some x := by
  have hk := (List.getElem?_eq_some_iff.1 hx).1
  have he := (List.getElem?_eq_some_iff.1 hx).2
  constructor
  · unfold placeAt
    rw [List.findIdx?_eq_some_iff_getElem.2 ⟨hk, by rw [he, decide_eq_true hi], fun j hj => by
      have h1 := h j L[j] hj (List.getElem?_eq_getElem _)
      simp [h1]⟩]
  · unfold Hp.find
    rw [List.find?_eq_some_iff_getElem]
    exact ⟨by rw [decide_eq_true hi], k, hk, he, fun j hj => by
      have h1 := h j L[j] hj (List.getElem?_eq_getElem _)
      simp [h1]⟩
theorem place_spec (L : List Hp.It) (i : Int) : (placeAt L i = -1 ∧ Hp.find L i = none) ∨ ∃ (k : Nat) (x : Hp.It), placeAt L i = (k : Int) ∧ L[k]? = some x ∧ x.i = i ∧ Hp.find L i = some x := by
  cases hf : L.findIdx? (fun x => decide (x.i = i)) with
  | none =>
    left
    rw [List.findIdx?_eq_none_iff] at hf
    exact place_none (fun k x hx e => by
      have := hf x (List.mem_of_getElem? hx)
      rw [decide_eq_true e] at this
      cases this)
  | some k =>
    right
    obtain ⟨hk, h1, h2⟩ := List.findIdx?_eq_some_iff_getElem.1 hf
    have hi : L[k].i = i := by simpa using h1
    have hp := place_some (List.getElem?_eq_getElem hk) hi (fun j y hj hy e => by
      obtain ⟨hjl, rfl⟩ := List.getElem?_eq_some_iff.1 hy
      exact h2 j hj (by rw [decide_eq_true e]))
    exact ⟨k, L[k], hp.1, List.getElem?_eq_getElem hk, hi, hp.2⟩
/-- A memory of the reference: its cells in words. -/
structure RV where
  U : Option Addr
  cu : Nat
  up : List Nat
  room : Int
  Q : Option Addr
  cq : Nat
  q : List Int
  I : Option Addr
  ci : Nat
  its : List IV
  C : Option Addr
  cc : Nat
  cn : List Int
def rvC (r : RV) : Array Value := #[.slice r.U r.up.length r.cu, .int .i64 r.room, .slice r.Q r.q.length r.cq, .slice r.I r.its.length r.ci, .slice r.C r.cn.length r.cc]
/-- The blocks that it is read from, besides its lattice's. -/
def RFp (r : RV) (k : Nat) : Prop := (0 < r.q.length ∧ ∃ ad, r.Q = some ad ∧ ad.block = k) ∨ (0 < r.cn.length ∧ ∃ ad, r.C = some ad ∧ ad.block = k) ∨ (0 < r.its.length ∧ ∃ ad, r.I = some ad ∧ ad.block = k) ∨ ∃ x ∈ r.its, 0 < x.o.f.length ∧ ∃ ad, x.A = some ad ∧ ad.block = k
structure RvAt (w : World) (r : RV) : Prop where
  up : BytesAt w w.heap.size r.U r.up
  q : IntsAt w r.Q r.q
  its : ItemsAt w r.I r.its
  cn : IntsAt w r.C r.cn
  ql : r.q.length = r.up.length
  cl : r.cn.length = r.up.length
  len : r.up.length ≤ 20
theorem bytes_at_grew {w w' : World} {A : Option Addr} {up : List Nat} (h : BytesAt w w.heap.size A up) (hg : Grew w w') : BytesAt w' w'.heap.size A up := h.grew hg
theorem RvAt.grew {w w' : World} {r : RV} (h : RvAt w r) (hg : Grew w w') : RvAt w' r := ⟨h.up.grew hg, h.q.grew hg, h.its.grew hg, h.cn.grew hg, h.ql, h.cl, h.len⟩
theorem ivI_len (l : List IV) : (ivI l).length = l.length := by simp [ivI]
theorem ivI_at {l : List IV} {i : Nat} {x : IV} (h : l[i]? = some x) : (ivI l)[i]? = some ⟨x.i, x.h, x.o⟩ := by unfold ivI; rw [List.getElem?_map, h]; rfl
theorem ivI_take (l : List IV) (i : Nat) : (ivI l).take i = ivI (l.take i) := by unfold ivI; rw [List.map_take]
theorem ivI_app (l m : List IV) : ivI (l ++ m) = ivI l ++ ivI m := by unfold ivI; rw [List.map_append]
theorem zerosL (n : Nat) : cntL n (fun _ => 0) = List.replicate n 0 := by
  unfold cntL
  rw [List.eq_replicate_iff]
  exact ⟨by simp, fun b hb => by obtain ⟨j, _, rfl⟩ := List.mem_map.1 hb; rfl⟩
theorem cntL_len (n : Nat) (f : Nat → Int) : (cntL n f).length = n := by simp [cntL]
theorem cntL_at {n : Nat} {f : Nat → Int} {j : Nat} (h : j < n) : (cntL n f)[j]? = some (f j) := by
  unfold cntL
  rw [List.getElem?_map, List.getElem?_range h]
  rfl
theorem cntL_next {n : Nat} {f : Nat → Int} : cntL (n + 1) f = cntL n f ++ [f n] := by
  unfold cntL
  rw [List.range_succ, List.map_append]
  rfl
theorem cntL_cf {cs : List Int} {n : Nat} (h : cs.length = n) : cntL n (cf cs) = cs := by
  apply List.ext_getElem?
  intro j
  by_cases hj : j < n
  · rw [cntL_at hj]
    unfold cf
    rw [List.getD_eq_getElem?_getD, List.getElem?_eq_getElem (by omega)]
    rfl
  · rw [List.getElem?_eq_none (by rw [cntL_len]; omega), List.getElem?_eq_none (by omega)]
theorem fits_loop {n : Nat} {L : List Hp.It} {room : Int} {q : Nat → Int} (h : ∀ j, j < n → (Hp.used L (j : Int) : Int) ≤ q j) : fitsAll n L room q = decide ((Hp.all L : Int) ≤ room) := by
  unfold fitsAll
  rw [show (List.range n).all (fun j => decide ((Hp.used L (j : Int) : Int) ≤ q j)) = true from List.all_eq_true.2 (fun j hj => by rw [decide_eq_true (h j (List.mem_range.1 hj))]), Bool.and_true]
theorem fits_over {n : Nat} {L : List Hp.It} {room : Int} {q : Nat → Int} {j : Nat} (hj : j < n) (h : q j < (Hp.used L (j : Int) : Int)) : fitsAll n L room q = false := by
  cases hb : fitsAll n L room q
  · rfl
  · have := (fitsAll_spec.1 hb).2 j hj
    omega
end Go.Proofs.YtidnaednldcdfaaGreatDoor

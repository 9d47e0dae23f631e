/- Stage 12: the reference's memory beside the program's. -/
import Derived.Test.YtidnaednldcdfaaGreatDoorGeI
namespace Go.Proofs.YtidnaednldcdfaaGreatDoor
open Go.RowKit

theorem leastFrom_loop : ∀ (L : List Hp.It) (b n : Nat), (∀ k, k < n → ∃ x : Hp.It, L[k]? = some x ∧ x.i = ((b + k : Nat) : Int)) → (n = L.length ∨ ∃ x : Hp.It, L[n]? = some x ∧ x.i ≠ ((b + n : Nat) : Int)) → Hp.leastFrom L b = b + n
  | [], b, n, h1, h2 => by
    rcases h2 with h2 | ⟨x, h2, _⟩
    · rw [h2]; rfl
    · simp at h2
  | x :: r, b, 0, h1, h2 => by
    rcases h2 with h2 | ⟨y, h2, h3⟩
    · cases h2
    · simp only [List.getElem?_cons_zero, Option.some.injEq] at h2
      subst h2
      rw [Hp.leastFrom, if_neg (by simpa using h3)]
      rfl
  | x :: r, b, n + 1, h1, h2 => by
    obtain ⟨y, hy, hi⟩ := h1 0 (Nat.succ_pos _)
    simp only [List.getElem?_cons_zero, Option.some.injEq] at hy
    subst hy
    have hr := leastFrom_loop r (b + 1) n (fun k hk => by
      obtain ⟨y, hy, hi⟩ := h1 (k + 1) (by omega)
      rw [List.getElem?_cons_succ] at hy
      exact ⟨y, hy, by rw [hi]; omega⟩) (by
      rcases h2 with h2 | ⟨y, hy, hi⟩
      · left
        simpa using h2
      · right
        rw [List.getElem?_cons_succ] at hy
        exact ⟨y, hy, by rw [show b + 1 + n = b + (n + 1) by omega]; exact hi⟩)
    rw [Hp.leastFrom, if_pos (by simpa using hi), hr]
    omega
theorem least_loop {L : List Hp.It} {n : Nat} (h1 : ∀ k, k < n → ∃ x : Hp.It, L[k]? = some x ∧ x.i = (k : Int)) (h2 : n = L.length ∨ ∃ x : Hp.It, L[n]? = some x ∧ x.i ≠ (n : Int)) : Hp.least L = n := by
  have := leastFrom_loop L 0 n (by simpa using h1) (by simpa using h2)
  unfold Hp.least
  omega
/-- What is known of a memory's objects and counts. -/
structure LOk (n : Nat) (L : List Hp.It) (room : Int) (q cn : Nat → Int) (C : Nat) : Prop where
  sorted : Hp.Sorted L
  range : ∀ x ∈ L, 0 ≤ x.i ∧ x.i < 65536
  may : ∀ x ∈ L, Ob.mayB n x.o = true
  hs : ∀ x ∈ L, N64 x.h
  fit : fitsAll n L room q = true
  cn : ∀ j, 0 ≤ cn j ∧ cn j ≤ C
  C : C ≤ 1000
  n8 : n ≤ 8
theorem LOk.len {n : Nat} {L : List Hp.It} {room : Int} {q cn : Nat → Int} {C : Nat} (h : LOk n L room q cn C) : L.length ≤ 65536 := by
  have := Hp.sorted_len h.sorted (a := 0) (b := 65536) (fun x hx => h.range x hx)
  omega
theorem LOk.small {n : Nat} {L : List Hp.It} {room : Int} {q cn : Nat → Int} {C : Nat} (h : LOk n L room q cn C) : Small L := Small.of h.may (by have := h.len; omega)
theorem HAt.lok {w0 w : World} {B C : Nat} {v : HV} {up : List Nat} {room : Int} {q : Nat → Int} {L : List Hp.It} {cn : Nat → Int} (h : HAt w0 w B C v up room q L cn) (hC : C ≤ 1000) : LOk up.length L room q cn C := by
  have h1 := h.ok
  refine ⟨h.sorted, h.range, fun x hx => ?_, fun x hx => ?_, ?_, fun j => ?_, hC, ?_⟩
  · rw [← h.its] at hx
    rw [← h.up]
    exact h1.ok x hx
  · rw [← h.its] at hx
    exact h1.hs x hx
  · exact fitsAll_spec.2 ⟨by have := h1.fitAll; rwa [h.its, h.room] at this, fun j hj => by have := h1.fit j (by rw [h.up]; exact hj); rwa [h.its, h.q] at this⟩
  · have := h1.cn j
    rwa [h.cn] at this
  · rw [← h.up]
    exact h1.lens.2
/-- Too many words, or too great a number: it is full. -/
theorem add_over {n : Nat} {L : List Hp.It} {room : Int} {q cn : Nat → Int} {C : Nat} (h : LOk n L room q cn C) {o : Ob.Obj} (hm : Ob.mayB n o = true) :
    (!fitsAll n (Hp.ins L (Hp.newIt L cn o)) room q || decide (65535 < Hp.least L)) = (decide (65536 ≤ L.length) || !Hp.fits L room q o) := by
  have h0 : ∀ x ∈ L, 0 ≤ x.i := fun x hx => (h.range x hx).1
  have hfree := Hp.least_free h.sorted h0
  have hne : ∀ y ∈ L, y.i ≠ (Hp.newIt L cn o).i := hfree
  obtain ⟨f1, f2⟩ := fitsAll_spec.1 h.fit
  have hh := hp_head hm
  have e : ∀ p, Hp.sumIf p (Hp.ins L (Hp.newIt L cn o)) = Hp.sumIf p L + if p (Hp.newIt L cn o) then Hp.words o else 0 := fun p => Hp.sum_ins p L _ hne
  obtain ⟨j, hj⟩ : ∃ j : Nat, o.lev = (j : Int) := ⟨o.lev.toNat, by omega⟩
  have hF : fitsAll n (Hp.ins L (Hp.newIt L cn o)) room q = Hp.fits L room q o := by
    rw [Bool.eq_iff_iff, fitsAll_spec]
    unfold Hp.fits
    rw [Bool.and_eq_true, decide_eq_true_eq, decide_eq_true_eq]
    constructor
    · rintro ⟨g1, g2⟩
      have g3 := g2 j (by omega)
      unfold Hp.all at g1
      unfold Hp.used at g3
      rw [e, if_pos rfl] at g1
      rw [e, if_pos (by simp [Hp.lvl, Hp.newIt, hj])] at g3
      rw [hj, Int.toNat_natCast]
      unfold Hp.all Hp.used
      omega
    · rintro ⟨g1, g2⟩
      rw [hj, Int.toNat_natCast] at g2
      refine ⟨?_, fun k hk => ?_⟩
      · unfold Hp.all at g1 ⊢
        rw [e, if_pos rfl]
        omega
      · have g3 := f2 k hk
        unfold Hp.used at g3 g2 ⊢
        rw [e]
        by_cases hkj : k = j
        · subst hkj
          rw [if_pos (by simp [Hp.lvl, Hp.newIt, hj])]
          omega
        · rw [if_neg (by simp [Hp.lvl, Hp.newIt, hj]; omega)]
          omega
  rw [hF]
  have hle := Hp.least_le h.sorted h0
  by_cases h6 : 65536 ≤ L.length
  · have : 65535 < Hp.least L := by
      rcases Nat.lt_or_ge 65535 (Hp.least L) with h7 | h7
      · exact h7
      · exfalso
        have h8 := h.len
        have h9 : L.length = 65536 := by omega
        have hs := Hp.sorted_ins L (Hp.newIt L cn o) h.sorted
        have hl := Hp.sorted_len hs (a := 0) (b := 65536) (fun x hx => by
          rcases (Hp.mem_ins L _ x hne).1 hx with rfl | hx
          · simp only [Hp.newIt]
            omega
          · exact h.range x hx)
        rw [Hp.len_ins L _ hne] at hl
        omega
    rw [decide_eq_true h6, decide_eq_true this]
    simp
  · rw [decide_eq_false h6, decide_eq_false (by omega)]
    simp
/-- A memory of the reference, in words. -/
structure RHAt (w : World) (r : RV) (up : List Nat) (room : Int) (q : Nat → Int) (L : List Hp.It) (cn : Nat → Int) : Prop where
  at_ : RvAt w r
  eup : r.up = up
  eroom : r.room = room
  eq : r.q = cntL up.length q
  eits : ivI r.its = L
  ecn : r.cn = cntL up.length cn
  cap : r.its.length ≤ r.ci ∧ r.ci ≤ 9223372036854775807
theorem RHAt.grew {w w' : World} {r : RV} {up : List Nat} {room : Int} {q : Nat → Int} {L : List Hp.It} {cn : Nat → Int} (h : RHAt w r up room q L cn) (hg : Grew w w') : RHAt w' r up room q L cn := ⟨h.at_.grew hg, h.eup, h.eroom, h.eq, h.eits, h.ecn, h.cap⟩
theorem rh_new {w w' : World} {U : Option Addr} {cu : Nat} {up : List Nat} {room : Int} {quota : List Int} {e : Ending} (h : RNewV w U cu up room quota e w') (hc : newCode up room quota = 0) : ∃ r : RV, e = .returned (.tuple #[.agg (rvC r), .int .i64 0]) ∧ RHAt w' r up room (qf room quota) [] (fun _ => 0) ∧ r.U = U ∧ (∀ k, RFp r k → w.heap.size ≤ k) ∧ Grew w w' := by
  unfold RNewV at h
  rw [if_pos hc] at h
  obtain ⟨r, he, h1, h2, h3, h4, h5, h6, h7, h8, h9, h10, h11, h12, h13⟩ := h
  exact ⟨r, he, ⟨h1, h4, h5, h6, by rw [h7]; rfl, h10, by rw [h7, h9]; exact ⟨Nat.zero_le _, by decide⟩⟩, h2, h12, h13⟩
theorem RHAt.kept {F : Nat → Prop} {w w' : World} {r : RV} {up : List Nat} {room : Int} {q : Nat → Int} {L : List Hp.It} {cn : Nat → Int} (h : RHAt w r up room q L cn) (hk : Kept F w w') (hU : ∀ ad, r.U = some ad → ¬ F ad.block) (hF : ∀ k, RFp r k → ¬ F k) : RHAt w' r up room q L cn := by
  refine ⟨⟨⟨h.at_.up.1, fun hl => ?_⟩, ints_kept h.at_.q hk (fun hl ad e => hF _ (.inl ⟨hl, ad, e, rfl⟩)), ⟨fun x hx => ⟨(h.at_.its.ok x hx).1.kept hk (fun hl ad e => hF _ (.inr (.inr (.inr ⟨x, hx, hl, ad, e, rfl⟩)))), (h.at_.its.ok x hx).2⟩, fun hl => ?_⟩, ints_kept h.at_.cn hk (fun hl ad e => hF _ (.inr (.inl ⟨hl, ad, e, rfl⟩))), h.at_.ql, h.at_.cl, h.at_.len⟩, h.eup, h.eroom, h.eq, h.eits, h.ecn, h.cap⟩
  · obtain ⟨ad, h1, h2, h3⟩ := h.at_.up.2 hl
    exact ⟨ad, h1, Nat.lt_of_lt_of_le h2 hk.size, fun j hj => (hk.cell (by rw [block_add]; exact h2) (by rw [block_add]; exact hU ad h1)).trans (h3 j hj)⟩
  · obtain ⟨ad, h1, h2, h3⟩ := h.at_.its.cells hl
    exact ⟨ad, h1, Nat.lt_of_lt_of_le h2 hk.size, h3.kept hk h2 (hF _ (.inr (.inr (.inl ⟨hl, ad, h1, rfl⟩))))⟩
theorem RHAt.fp_lt {w : World} {r : RV} {up : List Nat} {room : Int} {q : Nat → Int} {L : List Hp.It} {cn : Nat → Int} (h : RHAt w r up room q L cn) {k : Nat} (hk : RFp r k) : k < w.heap.size := by
  rcases hk with ⟨h1, ad, e, rfl⟩ | ⟨h1, ad, e, rfl⟩ | ⟨h1, ad, e, rfl⟩ | ⟨x, hx, h1, ad, e, rfl⟩
  · obtain ⟨ad', h2, h3, _⟩ := h.at_.q h1
    rw [e] at h2; cases h2; exact h3
  · obtain ⟨ad', h2, h3, _⟩ := h.at_.cn h1
    rw [e] at h2; cases h2; exact h3
  · obtain ⟨ad', h2, h3, _⟩ := h.at_.its.cells h1
    rw [e] at h2; cases h2; exact h3
  · exact (h.at_.its.ok x hx).1.blk h1 ad e
end Go.Proofs.YtidnaednldcdfaaGreatDoor

/- Texts of this claim in one: Lh1 Lh2. -/
import Derived.Test.YtmcfciifjgdgoaaDoorMg12
import Derived.Deep.RegionLaw
section
/- Law 03's own helpers: too much to look at here, a number given on, the same word by word. -/
namespace Go.Proofs.YtmcfciifjgdgoaaDoor
open Go.RowKit

def big3 (n : Nat) : Bool := decide (20 < n) && decide (n < 60) || decide (100 < n)

theorem take_succ_ne {xs ys : List Nat} {m : Nat} (hne : xs.getD m 0 ≠ ys.getD m 0) : xs ≠ ys := by
  rintro rfl; exact hne rfl
theorem eq_of_getD {xs ys : List Nat} (hl : xs.length = ys.length) (h : ∀ j, j < ys.length → xs.getD j 0 = ys.getD j 0) : xs = ys := by
  refine List.ext_getElem hl fun i h1 h2 => ?_
  have := h i h2
  rwa [List.getD_eq_getElem?_getD, List.getD_eq_getElem?_getD, List.getElem?_eq_getElem h1, List.getElem?_eq_getElem h2] at this

set_option maxHeartbeats 2000000 in
theorem isNum_c (na : Bool) (A : Option Addr) (c : Nat) (xs : List Nat) (nb : Bool) (B : Option Addr) (d : Nat) (ys : List Nat) (w : World) (ha : NumsAt .u32 w w.heap.size A xs) (hb : NumsAt .u32 w w.heap.size B ys) (hm : ys.length ≤ 1000000000000) :
    Calls Tryd.prog 29 #[.agg #[.bool na, .slice A xs.length c], .agg #[.bool nb, .slice B ys.length d]] w fun e w' => e = .returned (.bool (decide (na = nb ∧ xs = ys))) ∧ Grew w w' := by
  have HA := hid ha
  have HB := hid hb
  clear ha hb
  obtain ⟨r, hr⟩ : ∃ r, r = decide (na = nb ∧ xs = ys) := ⟨_, rfl⟩
  rw [← hr]
  have HR := hid hr
  clear hr
  by_cases hnb : na = nb
  · by_cases hl : xs.length = ys.length
    · subst hnb
      have HL := hid hl
      rw [hl]
      clear hl
      go_enter Tryd.func29, Tryd.ntmps29
      go_wp2_with fail
      obtain ⟨wb, hw1⟩ : ∃ wb, wb = (w.alloc (.cells #[.bool na, .slice A ys.length c] 26)).alloc (.cells #[.bool na, .slice B ys.length d] 24) := ⟨_, rfl⟩
      have hG : Grew w wb := by rw [hw1]; exact ((Grew.refl _).alloc _).alloc _
      have l1 : w.heap.size + 1 < wb.heap.size := by rw [hw1]; simp only [World.size_alloc]; omega
      have l0 : w.heap.size < wb.heap.size := by omega
      have a1 : wb.cell? ⟨w.heap.size, 1, none⟩ = some (.slice A ys.length c) := by rw [hw1, World.cell?_alloc_lt _ _ _ (by simp only [World.size_alloc]; omega)]; simp
      have b1 : wb.cell? ⟨w.heap.size + 1, 1, none⟩ = some (.slice B ys.length d) := by rw [hw1]; simp
      rw [← hw1]
      clear hw1
      have HA2 := hid (HA.out.grew hG)
      have HB2 := hid (HB.out.grew hG)
      have HG := hid hG
      clear hG HA HB
      go_loopw [5] (fun i wr => ∃ (m : Nat), i = .int .i64 ((m : Nat) : Int) ∧ Grew wb wr ∧ m ≤ ys.length ∧ Hid (∀ j, j < m → xs.getD j 0 = ys.getD j 0)) (fun i _ => ys.length - (intOf i).toNat)
      case atStart => exact ⟨0, rfl, Grew.refl _, Nat.zero_le _, hid fun j hj => absurd hj (Nat.not_lt_zero j)⟩
      case round =>
        obtain ⟨m, rfl, ⟨z, rfl⟩, hmy, HJ⟩ := hrel
        by_cases hlt : m < ys.length
        · have hlt' : (m : Int) < (ys.length : Int) := by omega
          obtain ⟨ad, ea, had, hca⟩ := HA2.out (by have := HL.out; omega)
          obtain ⟨bd, eb, hbd, hcb⟩ := HB2.out (by omega)
          subst ea eb
          have h1 := hca m (by have := HL.out; omega)
          have h2 := hcb m hlt
          clear hca hcb
          have HE1 := hid (show xs.getD m 0 ≠ ys.getD m 0 → r = false from fun h => by
            rw [HR.out, decide_eq_false]
            exact fun q => take_succ_ne h q.2)
          have HE2 := hid (show xs.getD m 0 = ys.getD m 0 → ∀ j, j < m + 1 → xs.getD j 0 = ys.getD j 0 from fun h j hj => by
            rcases Nat.lt_or_ge j m with h3 | h3
            · exact HJ.out j h3
            · obtain rfl : j = m := by omega
              exact h)
          obtain ⟨x, hx⟩ : ∃ x, x = xs.getD m 0 := ⟨_, rfl⟩
          obtain ⟨y, hy⟩ : ∃ y, y = ys.getD m 0 := ⟨_, rfl⟩
          rw [← hx] at h1
          rw [← hy] at h2
          have HXY := hid (show x = xs.getD m 0 ∧ y = ys.getD m 0 from ⟨hx, hy⟩)
          clear hx hy
          by_cases he : x = y
          · have HE := hid (HE2.out (by rw [← HXY.out.1, ← HXY.out.2]; exact he))
            subst he
            go_wp2_with fail
            refine wp_region_grew_from z.grew (by kernel_rfl) (by kernel_rfl) ?_
            repeat (go_big_quiet_step (fail))
            refine wpQuiet_nil ?_
            rintro _ ⟨z2, rfl⟩
            go_wp2_with fail
            go_roundw
            case rel => exact ⟨m + 1, by go_num, z2.grew, by omega, hid HE.out⟩
            case measure => simp [intOf] <;> omega
          · have HE := hid (HE1.out (by rw [← HXY.out.1, ← HXY.out.2]; exact he))
            have t1 : (((x : Nat) : Int) != ((y : Nat) : Int)) = true := by rw [bne_iff_ne]; omega
            go_wp2_with fail
            refine wp_region_grew_from z.grew (by kernel_rfl) (by kernel_rfl) ?_
            repeat (go_big_quiet_step (fail))
            refine wpQuiet_nil ?_
            rintro _ ⟨z2, rfl⟩
            go_wp2_with fail
            go_ret
            exact ⟨by rw [HE.out]; rfl, HG.out.trans z2.grew⟩
        · obtain rfl : m = ys.length := by omega
          have HE := hid (show r = true by rw [HR.out, decide_eq_true_iff]; exact ⟨by first | trivial | rfl, eq_of_getD HL.out HJ.out⟩)
          go_wp2_with fail
          go_ret
          exact ⟨by rw [HE.out]; rfl, HG.out.trans z.grew⟩
    · subst hnb
      have HE := hid (show r = false by rw [HR.out, decide_eq_false]; exact fun q => hl (by rw [q.2]))
      have t1 : (((xs.length : Nat) : Int) != ((ys.length : Nat) : Int)) = true := by rw [bne_iff_ne]; omega
      clear HR HA HB
      go_enter Tryd.func29, Tryd.ntmps29
      go_wp2_with fail
      go_ret
      exact ⟨by rw [HE.out]; rfl, ((Grew.refl _).alloc _).alloc _⟩
  · have HE := hid (show r = false by rw [HR.out, decide_eq_false]; exact fun q => hnb q.1)
    clear HR HA HB
    cases na <;> cases nb
    all_goals first
      | exact absurd rfl hnb
      | (clear hnb
         go_enter Tryd.func29, Tryd.ntmps29
         go_wp2_with fail
         go_ret
         exact ⟨by rw [HE.out]; rfl, ((Grew.refl _).alloc _).alloc _⟩)
end Go.Proofs.YtmcfciifjgdgoaaDoor
end

section
/- Law 03's own helpers, part 2: a number given on. -/
namespace Go.Proofs.YtmcfciifjgdgoaaDoor
open Go.RowKit
theorem OwnNums.made0 (k : IntKind) (w0 w : World) (e : TypeId) (hg : Grew w0 w) : OwnNums k w0 (w.alloc (.cells #[] e)) e (some ⟨w.heap.size, 0, none⟩) 0 [] :=
  ⟨by simp [numCells], .inr ⟨w.heap.size, 0, #[], rfl, hg.below.size, by simp only [World.alloc, Array.getElem?_push_size], by simp [numCells, maxLen]⟩⟩
theorem step_cat {P : Program} {ops : Array Oper} {o : Oper} {a : Act} {w : World} {K : Act → World → Prop} {Q : Exit → Act → World → Prop} {E : Prop} (k : IntKind) (b : Nat) (w0 : World) (hgd : o.guard = none) (s x : Operand) (t e : TypeId)
    (ho : o.op = .call { callee := .builtin .append, args := #[s, x], argTypes := #[t, t] })
    (ht : P.underlying t = some (.slice e)) (he : (P.info? e).map (fun i => (i.zero, i.size, i.bytes)) = some (some (.int k 0), 1, b))
    (hg : Grew w0 w) (A : Option Addr) (c : Nat) (hs : a.eval s = .slice A 0 c) (hown : OwnNums k w0 w e A c []) (A2 : Option Addr) (c2 : Nat) (xs : List Nat) (hxv : a.eval x = .slice A2 xs.length c2) (hx : NumsAt k w w.heap.size A2 xs)
    (hlen : xs.length ≤ 9223372036854775807) (hby : xs.length * b ≤ 140737488355328)
    (h : ∀ A' c' w', OwnNums k w0 w' e A' c' xs → Grew w0 w' → K (a.put o.dst (.slice A' xs.length c')) w') :
    if Region.wanted o (yielded ops a.tmps) = true then Oper.wp P o a w K Q else E := by
  have hw : Region.wanted o (yielded ops a.tmps) = true := by simp [Region.wanted, hgd]
  rw [if_pos hw]
  obtain ⟨A', c', w', hrun, h1, h2⟩ := run_cat (P := P) k t o.type e b ht he w0 w hg A c [] hown A2 c2 xs hx (by simpa using hlen) (by simpa using hby)
  rw [List.length_nil, Nat.zero_add] at hrun
  unfold Oper.wp
  simp only [execOp, ho, resolve, invoke, builtin, Sem.run_bind, Sem.run_pure, Result.andThen_ok, List.map_toArray, List.map_cons, List.map_nil, hs, hxv, hrun]
  exact h A' c' w' h1 h2

set_option maxHeartbeats 4000000 in
/-- A number given on: its words lie in memory of their own. -/
theorem giveNum_c (neg : Bool) (A : Option Addr) (c : Nat) (xs : List Nat) (w : World) (h : NumsAt .u32 w w.heap.size A xs) (hn : xs.length ≤ 35184372088832) :
    Calls Tryd.prog 8 #[.agg #[.bool neg, .slice A xs.length c]] w fun e w' => ∃ A' c', e = .returned (.agg #[.bool neg, .slice A' xs.length c']) ∧ OwnNums .u32 w w' 48 A' c' xs ∧ Grew w w' := by
  have H := hid h
  clear h
  go_enter Tryd.func8, Tryd.ntmps8
  go_wp2_with fail
  obtain ⟨wb, hw1⟩ : ∃ wb, wb = (w.alloc (.cells #[.bool neg, .slice A xs.length c] 24)).alloc (.cells #[.bool false, .slice none 0 0] 26) := ⟨_, rfl⟩
  have hG : Grew w wb := by rw [hw1]; exact ((Grew.refl _).alloc _).alloc _
  have l1 : w.heap.size + 1 < wb.heap.size := by rw [hw1]; simp only [World.size_alloc]; omega
  have l0 : w.heap.size < wb.heap.size := by omega
  have a0 : wb.cell? ⟨w.heap.size, 0, none⟩ = some (.bool neg) := by rw [hw1, World.cell?_alloc_lt _ _ _ (by simp only [World.size_alloc]; omega)]; simp
  have a1 : wb.cell? ⟨w.heap.size, 1, none⟩ = some (.slice A xs.length c) := by rw [hw1, World.cell?_alloc_lt _ _ _ (by simp only [World.size_alloc]; omega)]; simp
  have b0 : wb.cell? ⟨w.heap.size + 1, 0, none⟩ = some (.bool false) := by rw [hw1]; simp
  have b1 : wb.cell? ⟨w.heap.size + 1, 1, none⟩ = some (.slice none 0 0) := by rw [hw1]; simp
  have fr : ∀ i, wb.frozen? ⟨w.heap.size + 1, i, none⟩ = false := fun i => by rw [hw1]; simp
  rw [← hw1]
  clear hw1
  have HG := hid hG
  have H2 := hid (H.out.grew hG)
  clear hG H
  go_region_law (refine step_cat .u32 4 wb rfl _ _ 22 48 rfl Tryd.underlying22 Tryd.info_u32 (by first | exact (Grew.refl _).alloc _ | exact (Grew.refl _).drew.alloc _) _ 0 rfl (by first | exact OwnNums.made0 .u32 wb wb 48 (Grew.refl _) | exact OwnNums.made0 .u32 wb _ 48 (Grew.refl _).drew) A c xs rfl (H2.out.grew (by first | exact (Grew.refl _).alloc _ | exact (Grew.refl _).drew.alloc _)) (by omega) (by omega) ?_; rintro A' c' W1 hO hGr; obtain ⟨y, rfl⟩ := hGr)
  all_goals
    have HF := hid (show ∀ g, A' = some ⟨g, 0, none⟩ → g ≠ w.heap.size + 1 from fun g hA => by
      have h1 := (World.ownsRow.lt hO) g (by rw [hA]; rfl)
      omega)
    have HO := hid (hO.mono HG.out)
    clear hO
    go_wp2_with fail
    refine bodyPost_ret (v := .agg #[.bool neg, .slice A' xs.length c']) (by simp [results, Tryd.results8, go_sem, *]) rfl ?_
    exact ⟨A', c', rfl, (HO.out.far (fun g hA => HF.out g hA) _).far (fun g hA => HF.out g hA) _, ((HG.out.trans y.grew).setCell (by simp <;> omega) _).setCell (by simp <;> omega) _⟩
end Go.Proofs.YtmcfciifjgdgoaaDoor
end

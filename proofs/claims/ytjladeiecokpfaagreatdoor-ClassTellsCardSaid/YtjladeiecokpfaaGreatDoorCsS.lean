/- Stage 10: texts; an append to an empty list; what giveClasses' drawn region gives. -/
import Derived.Test.YtjladeiecokpfaaGreatDoorCsQ
namespace Go.Proofs.YtjladeiecokpfaaGreatDoor
open Go.RowKit

set_option maxRecDepth 100000 in
set_option maxHeartbeats 4000000 in
theorem texts_c (A : Option Addr) (c : Nat) (l : List ByteArray) (B : Option Addr) (d : Nat) (r : List ByteArray) (w : World) (h : StrsAt w w.heap.size A l) (h2 : StrsAt w w.heap.size B r) (hl : l.length ≤ 1000000) (hr : r.length ≤ 1000000) :
    Calls Tryz.prog 21 #[.slice A l.length c, .slice B r.length d] w fun e w' => e = .returned (.bool (decide (l = r))) ∧ Grew w w' := by
  obtain ⟨n, en⟩ : ∃ n, n = l.length := ⟨_, rfl⟩
  obtain ⟨m, em⟩ : ∃ m, m = r.length := ⟨_, rfl⟩
  have HA := hid h
  have HB := hid h2
  rw [← en, ← em]
  rw [← en] at hl
  rw [← em] at hr
  have EN := hid en
  have EM := hid em
  obtain ⟨R, hR⟩ : ∃ R, R = decide (l = r) := ⟨_, rfl⟩
  rw [← hR]
  have HR := hid hR
  clear h h2 en em hR
  by_cases hnm : n = m
  · subst hnm
    go_enter Tryz.func21, Tryz.ntmps21
    go_wp2_with fail
    go_loopw [5] (fun s5 wr => ∃ i : Nat, s5 = .int .i64 ((i : Nat) : Int) ∧ i ≤ n ∧ Grew w wr ∧ Hid (l.take i = r.take i)) (fun s5 _ => n - (intOf s5).toNat)
    case atStart => exact ⟨0, rfl, Nat.zero_le _, Grew.refl _, hid (by simp)⟩
    case round =>
      obtain ⟨i, rfl, hi, hg, HI⟩ := hrel
      have HG := hid hg
      clear hg
      by_cases hlt : i < n
      · have f1 : (i : Int) < n := by omega
        obtain ⟨a1, x, rfl, hx, q0, hb1⟩ := str_at HA.out HG.out (i := i) (by rw [← EN.out]; exact hlt)
        obtain ⟨a2, y, rfl, hy, p0, hb2⟩ := str_at HB.out HG.out (i := i) (by rw [← EM.out]; exact hlt)
        have hz := str_beq10 x y
        have HX := hid hx
        have HY := hid hy
        clear hx hy
        cases hd : decide (x = y) with
        | true =>
          rw [hd] at hz
          have HT := hid (show l.take (i + 1) = r.take (i + 1) by rw [List.take_add_one, List.take_add_one, HX.out, HY.out, HI.out, of_decide_eq_true hd])
          clear hd
          go_wp2_with fail
          refine wp_region_grew_from (Grew.refl _) (by kernel_rfl) (by kernel_rfl) ?_
          repeat (go_big_quiet_step (fail))
          refine wpQuiet_nil ?_
          rintro _ ⟨y1, rfl⟩
          have HY1 := hid (HG.out.trans y1.grew)
          go_wp2_with fail
          go_round
          case rel => exact ⟨i + 1, by go_num, by omega, HY1.out, HT⟩
          case measure => simp [intOf]; omega
        | false =>
          rw [hd] at hz
          have HF := hid (show R = false by
            rw [HR.out, decide_eq_false]
            rintro rfl
            have h1 := HX.out
            rw [HY.out] at h1
            exact of_decide_eq_false hd (Option.some.inj h1).symm)
          clear hd
          go_wp2_with fail
          refine wp_region_grew_from (Grew.refl _) (by kernel_rfl) (by kernel_rfl) ?_
          repeat (go_big_quiet_step (fail))
          refine wpQuiet_nil ?_
          rintro _ ⟨y1, rfl⟩
          have HY1 := hid (HG.out.trans y1.grew)
          go_wp2_with fail
          go_ret
          exact ⟨by rw [HF.out]; rfl, HY1.out⟩
      · have hin : i = n := by omega
        subst hin
        have HT := hid (show R = true by
          have := HI.out
          rw [List.take_of_length_le (by rw [← EN.out]; exact Nat.le_refl _), List.take_of_length_le (by rw [← EM.out]; exact Nat.le_refl _)] at this
          rw [HR.out, decide_eq_true this])
        go_wp2_with fail
        go_ret
        exact ⟨by rw [HT.out]; rfl, HG.out⟩
  · have f1 : ¬ ((n : Nat) : Int) = ((m : Nat) : Int) := by omega
    have HF := hid (show R = false by
      rw [HR.out, decide_eq_false]
      rintro rfl
      exact hnm (EN.out.trans EM.out.symm))
    clear hnm
    go_enter Tryz.func21, Tryz.ntmps21
    go_wp2_with fail
    go_ret
    exact ⟨by rw [HF.out]; rfl, Grew.refl _⟩
/-- 'append([]T{}, xs...)' where the empty list lies anywhere. -/
theorem run_catG {P : Program} (t ty e : TypeId) (z : Value) (b : Nat) (ht : P.underlying t = some (.slice e)) (he : (P.info? e).map (fun i => (i.zero, i.size, i.bytes)) = some (some z, 1, b)) (hz1' : z.cells.size = 1) (hb24 : b ≤ 24)
    (w : World) (H : Nat) (hH : Blk w H e #[]) (A : Option Addr) (m c : Nat) (xs : List Value) (hl : xs.length = m) (h1 : ∀ u ∈ xs, u.oneCell' = true) (hA : A = none → m = 0) (hx : ∀ ad, A = some ad → ∀ j u, xs[j]? = some u → w.cell? (ad.add j) = some u) (hlen : (m : Int) ≤ 1000000) :
    ∃ A' c' w', (Builtin.append_ #[t, t] ty #[.slice (some ⟨H, 0, none⟩) 0 0, .slice A m c]).run P w = .ok (.slice A' m c') w' ∧ (0 < m → ∃ ad, A' = some ad ∧ ad.block < w'.heap.size ∧ ∀ j u, xs[j]? = some u → w'.cell? (ad.add j) = some u) ∧ m ≤ c' ∧ Grew w w' ∧ ∀ ad, A' = some ad → (ad.block = H ∨ w.heap.size ≤ ad.block) ∧ ad.block < w'.heap.size := by
  obtain ⟨i, hi, hz0, hz1, hz2⟩ := info_parts he
  have hrow : Row w H e 1 (some ⟨H, 0, none⟩) 0 0 [] := Row.of_blk hH (Nat.le_refl _) rfl (by decide)
  have hlt := hH.lt
  rcases Nat.eq_zero_or_pos m with h0 | h0
  · subst h0
    obtain rfl := List.eq_nil_of_length_eq_zero hl
    refine ⟨some ⟨H, 0, none⟩, 0, w, ?_, (fun h => absurd h (by omega)), Nat.le_refl _, Grew.refl _, fun ad e => ?_⟩
    · cases A with
      | none => simp [Builtin.append_, run_underlying ht, sizeOf, typeInfo, hi, Builtin.lenOf, Builtin.firstCells, storeCells]
      | some ad => simp [Builtin.append_, run_underlying ht, sizeOf, typeInfo, hi, Builtin.lenOf, Builtin.firstCells, storeCells, loadCells, loadCellsFrom]
    · cases e
      exact ⟨.inl rfl, hlt⟩
  · obtain ⟨ad, rfl⟩ : ∃ ad, A = some ad := by
      cases A with
      | none => have := hA rfl; omega
      | some ad => exact ⟨ad, rfl⟩
    have hmb : m * b ≤ m * 24 := Nat.mul_le_mul_left m hb24
    obtain ⟨A', c', w', hrun, r1, r2, r3⟩ := run_catR (P := P) t ty e z 1 b ht he hz1' (by decide) w H (Nat.le_of_lt hlt) (some ⟨H, 0, none⟩) 0 0 [] hrow (some ad) m c xs (by omega) h1 (fun h => by cases h) (fun ad' e j u hu => by cases e; exact hx ad rfl j u hu) (by omega) (by rw [Nat.zero_add]; omega)
    have hrun2 := run_append_grow (P := P) (w := w) t ty e i z ht hi hz0 ⟨H, 0, none⟩ 0 0 [] (by simp) (by simp) ad m c xs (by rw [hz1]; omega) (hx ad rfl) (by omega) (by omega) (by rw [hz2]; exact growslice_fits (by omega) (by rw [Nat.zero_add]; omega))
    rw [hrun] at hrun2
    simp only [Result.ok.injEq] at hrun2
    obtain ⟨_, hw⟩ := hrun2
    rw [Nat.zero_add] at hrun r1
    rw [List.nil_append] at r1
    refine ⟨A', c', w', hrun, fun _ => ?_, r1.cases.2.1, by rw [hw]; exact (Grew.refl w).drew.alloc _, fun ad' e => ?_⟩
    · rcases Row.cases r1 with ⟨h3, _, _, ⟨rfl, h4, _⟩ | ⟨g, rfl, hbg, hltg, hc, _⟩⟩
      · omega
      · refine ⟨_, rfl, hltg, fun j u hu => ?_⟩
        rw [show (⟨g, 0, none⟩ : Addr).add j = ⟨g, j, none⟩ by unfold Addr.add; split <;> simp_all]
        exact hc j u hu
    · have hlt' := Row.at_lt r1 ad'.block ⟨ad', e, rfl⟩
      refine ⟨?_, hlt'⟩
      rcases r3 with r3 | ⟨g, e1, e2⟩
      · rw [r3] at e; cases e; exact .inl rfl
      · rw [e1] at e; cases e; exact .inr e2
end Go.Proofs.YtjladeiecokpfaaGreatDoor

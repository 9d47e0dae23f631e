/- The walks of law 06: ints, same. -/
import Derived.Test.YtglekjhbpdoofaaDoorPk10
import Derived.Test.YtglekjhbpdoofaaDoorBack04
import Derived.BigQuiet
namespace Go.Proofs.YtglekjhbpdoofaaDoor
open Go.RowKit

theorem ints_eq {xs ys : List Int} (hl : xs.length = ys.length) (h : ∀ j, j < ys.length → xs.getD j 0 = ys.getD j 0) : xs = ys := by
  refine List.ext_getElem hl fun i h1 h2 => ?_
  have := h i h2
  rwa [List.getD_eq_getElem?_getD, List.getD_eq_getElem?_getD, List.getElem?_eq_getElem h1, List.getElem?_eq_getElem h2] at this
set_option maxRecDepth 100000 in
set_option maxHeartbeats 2000000 in
theorem ints_c (A : Option Addr) (c : Nat) (xs : List Int) (B : Option Addr) (d : Nat) (ys : List Int) (w : World) (ha : IntsAt w w.heap.size A xs) (hb : IntsAt w w.heap.size B ys) (hm : xs.length ≤ 1000000000000 ∨ ys.length ≤ 1000000000000) :
    Calls Tryd.prog 21 #[.slice A xs.length c, .slice B ys.length d] w fun e w' => e = .returned (.bool (decide (xs = ys))) ∧ Grew w w' := by
  have HA := hid ha
  have HB := hid hb
  clear ha hb
  obtain ⟨r, hr⟩ : ∃ r, r = decide (xs = ys) := ⟨_, rfl⟩
  rw [← hr]
  have HR := hid hr
  clear hr
  by_cases hl : xs.length = ys.length
  · have HL := hid hl
    obtain ⟨n, en⟩ : ∃ n, n = ys.length := ⟨_, rfl⟩
    rw [hl, ← en]
    have EN := hid en
    have hm' : n ≤ 1000000000000 := by omega
    clear hl en hm
    go_enter Tryd.func21, Tryd.ntmps21
    go_wp2_with fail
    go_loopw [5] (fun i wr => ∃ (m : Nat), i = .int .i64 ((m : Nat) : Int) ∧ Grew w wr ∧ m ≤ n ∧ Hid (∀ j, j < m → xs.getD j 0 = ys.getD j 0)) (fun i _ => n - (intOf i).toNat)
    case atStart => exact ⟨0, rfl, Grew.refl _, Nat.zero_le _, hid fun j hj => absurd hj (Nat.not_lt_zero j)⟩
    case round =>
      obtain ⟨m, rfl, ⟨z, rfl⟩, hmy, HJ⟩ := hrel
      by_cases hlt : m < n
      · have hlt' : (m : Int) < (n : Int) := by omega
        obtain ⟨ad, ea, had, hca⟩ := HA.out.2 (by rw [HL.out, ← EN.out]; omega)
        obtain ⟨bd, eb, hbd, hcb⟩ := HB.out.2 (by rw [← EN.out]; omega)
        subst ea eb
        have h1 := hca m (by rw [HL.out, ← EN.out]; exact hlt)
        have h2 := hcb m (by rw [← EN.out]; exact hlt)
        clear hca hcb
        have HE1 := hid (show xs.getD m 0 ≠ ys.getD m 0 → r = false from fun h => by
          rw [HR.out, decide_eq_false]
          rintro rfl
          exact h rfl)
        have HE2 := hid (show xs.getD m 0 = ys.getD m 0 → ∀ j, j < m + 1 → xs.getD j 0 = ys.getD j 0 from fun h j hj => by
          rcases Nat.lt_or_ge j m with h3 | h3
          · exact HJ.out j h3
          · obtain rfl : j = m := by omega
            exact h)
        obtain ⟨x, hx⟩ : ∃ x, x = xs.getD m 0 := ⟨_, rfl⟩
        obtain ⟨y, hy⟩ : ∃ y, y = ys.getD m 0 := ⟨_, rfl⟩
        rw [← hx] at h1
        rw [← hy] at h2
        have HXY := hid (show x = xs.getD m 0 ∧ y = ys.getD m 0 from ⟨hx, hy⟩)
        clear hx hy
        by_cases he : x = y
        · have HE := hid (HE2.out (by rw [← HXY.out.1, ← HXY.out.2]; exact he))
          subst he
          go_wp2_with fail
          refine wp_region_grew_from z.grew (by kernel_rfl) (by kernel_rfl) ?_
          repeat (go_big_quiet_step (fail))
          refine wpQuiet_nil ?_
          rintro _ ⟨z2, rfl⟩
          go_wp2_with fail
          go_roundw
          case rel => exact ⟨m + 1, by go_num, z2.grew, by omega, hid HE.out⟩
          case measure => simp [intOf] <;> omega
        · have HE := hid (HE1.out (by rw [← HXY.out.1, ← HXY.out.2]; exact he))
          have t1 : (x != y) = true := by rw [bne_iff_ne]; exact he
          go_wp2_with fail
          refine wp_region_grew_from z.grew (by kernel_rfl) (by kernel_rfl) ?_
          repeat (go_big_quiet_step (fail))
          refine wpQuiet_nil ?_
          rintro _ ⟨z2, rfl⟩
          go_wp2_with fail
          go_ret
          exact ⟨by rw [HE.out]; rfl, z2.grew⟩
      · obtain rfl : m = n := by omega
        have HE := hid (show r = true by rw [HR.out, decide_eq_true_iff]; exact ints_eq HL.out (by rw [← EN.out]; exact HJ.out))
        go_wp2_with fail
        go_ret
        exact ⟨by rw [HE.out]; rfl, z.grew⟩
  · have HE := hid (show r = false by rw [HR.out, decide_eq_false]; exact fun q => hl (by rw [q]))
    have t1 : (((xs.length : Nat) : Int) != ((ys.length : Nat) : Int)) = true := by rw [bne_iff_ne]; omega
    clear HR HA HB
    go_enter Tryd.func21, Tryd.ntmps21
    go_wp2_with fail
    go_ret
    exact ⟨by rw [HE.out]; rfl, Grew.refl _⟩

/-- Are two fields the same, as far as the law looks? -/
def sameF (a b : Pk.Fd) : Bool := decide (a.kind = b.kind) && decide (a.n = b.n) && decide (a.l = b.l) && decide (a.s = b.s)
theorem boxes2 (w : World) (t u : TypeId) (X Y : Array Value) : Grew w ((w.alloc (.cells X t)).alloc (.cells Y u)) ∧ Blk ((w.alloc (.cells X t)).alloc (.cells Y u)) w.heap.size t X ∧ Blk ((w.alloc (.cells X t)).alloc (.cells Y u)) (w.heap.size + 1) u Y := by
  have b1 := Blk.new w t X
  have g1 := (Grew.refl w).alloc (.cells X t)
  have s1 : (w.alloc (.cells X t)).heap.size = w.heap.size + 1 := by simp
  generalize w.alloc (.cells X t) = w1 at *
  have b2 := Blk.new w1 u Y
  have g2 := (Grew.refl w1).alloc (.cells Y u)
  rw [s1] at b2
  exact ⟨g1.trans g2, b1.grew g2, b2⟩
set_option maxRecDepth 100000 in
set_option maxHeartbeats 4000000 in
theorem same_c (u v : FdV) (w : World) (hu : FdOk w w.heap.size u) (hv : FdOk w w.heap.size v) (hm : u.f.l.length ≤ 1000000000000 ∨ v.f.l.length ≤ 1000000000000) :
    Calls Tryd.prog 19 #[.agg u.cells, .agg v.cells] w fun e w' => e = .returned (.bool (sameF u.f v.f)) ∧ Grew w w' := by
  obtain ⟨⟨k1, n1, l1, s1, m1, lo1, hi1⟩, A1, c1⟩ := u
  obtain ⟨⟨k2, n2, l2, s2, m2, lo2, hi2⟩, A2, c2⟩ := v
  have hu1 := hu.l
  have hv1 := hv.l
  simp only at hu1 hv1 hm
  have CI := hid (fun (w1 : World) (hg : Grew w w1) => (ints_c A1 c1 l1 A2 c2 l2 w1 (hu1.grew hg) (hv1.grew hg) hm))
  clear hu hv hu1 hv1 hm
  have HS : Hid (sameF ⟨k1, n1, l1, s1, m1, lo1, hi1⟩ ⟨k2, n2, l2, s2, m2, lo2, hi2⟩ = (decide (k1 = k2) && decide (n1 = n2) && decide (l1 = l2) && decide (s1 = s2))) := hid rfl
  simp only
  generalize sameF ⟨k1, n1, l1, s1, m1, lo1, hi1⟩ ⟨k2, n2, l2, s2, m2, lo2, hi2⟩ = res at *
  show Calls Tryd.prog 19 #[.agg #[.int .u8 ((k1 : Nat) : Int), .int .i64 n1, .slice A1 l1.length c1, .string s1, .int .i64 m1, .int .i64 lo1, .int .i64 hi1], .agg #[.int .u8 ((k2 : Nat) : Int), .int .i64 n2, .slice A2 l2.length c2, .string s2, .int .i64 m2, .int .i64 lo2, .int .i64 hi2]] w _
  have hb2 := boxes2 w 29 29 #[.int .u8 ((k1 : Nat) : Int), .int .i64 n1, .slice A1 l1.length c1, .string s1, .int .i64 m1, .int .i64 lo1, .int .i64 hi1] #[.int .u8 ((k2 : Nat) : Int), .int .i64 n2, .slice A2 l2.length c2, .string s2, .int .i64 m2, .int .i64 lo2, .int .i64 hi2]
  have HG := hid hb2.1
  have HB := hid hb2.2
  clear hb2
  obtain ⟨zs, hzs⟩ : ∃ z, z = (s1.toList == s2.toList) := ⟨_, rfl⟩
  have HZ := hid (show zs = decide (s1 = s2) by rw [hzs, str_beq])
  have HZS := hid hzs
  clear hzs
  obtain ⟨len1, e1⟩ : ∃ n, n = l1.length := ⟨_, rfl⟩
  obtain ⟨len2, e2⟩ : ∃ n, n = l2.length := ⟨_, rfl⟩
  rw [← e1, ← e2] at CI HG HB ⊢
  clear e1 e2
  obtain ⟨zl, hzl⟩ : ∃ z, z = decide (l1 = l2) := ⟨_, rfl⟩
  rw [← hzl] at CI HS
  clear hzl
  by_cases hk : k1 = k2
  · subst hk
    by_cases hn : n1 = n2
    · subst hn
      have HS2 := hid (show res = (zl && zs) by rw [HS.out, HZ.out]; simp)
      clear HS HZ
      go_enter Tryd.func19, Tryd.ntmps19
      go_wp2_with fail
      obtain ⟨wb, hwb⟩ : ∃ wb, wb = (w.alloc (.cells #[.int .u8 ((k1 : Nat) : Int), .int .i64 n1, .slice A1 len1 c1, .string s1, .int .i64 m1, .int .i64 lo1, .int .i64 hi1] 29)).alloc (.cells #[.int .u8 ((k1 : Nat) : Int), .int .i64 n1, .slice A2 len2 c2, .string s2, .int .i64 m2, .int .i64 lo2, .int .i64 hi2] 29) := ⟨_, rfl⟩
      rw [← hwb] at HG HB ⊢
      clear hwb
      refine (CI.out wb HG.out).mono ?_
      rintro e w2 ⟨rfl, hg⟩
      obtain ⟨y0, y1, y2, y3, y4, y5, y6, yf⟩ := Blk.seven (HB.out.1.grew hg)
      obtain ⟨z0, z1, z2, z3, z4, z5, z6, zf⟩ := Blk.seven (HB.out.2.grew hg)
      have HGE := hid (HG.out.trans hg)
      have hz := HZS.out.symm
      clear hg CI HB yf zf
      cases zl
      · have HS3 := hid (show res = false by rw [HS2.out]; rfl)
        clear HS2
        go_wp2_with fail
        go_ret
        exact ⟨by rw [HS3.out]; rfl, HGE.out⟩
      · have HS3 := hid (show res = zs by rw [HS2.out]; rfl)
        clear HS2
        go_wp2_with fail
        go_ret
        exact ⟨by rw [HS3.out]; rfl, HGE.out⟩
    · have HS2 := hid (show res = false by rw [HS.out]; simp [hn])
      have t1 : (n1 == n2) = false := by rw [beq_eq_false_iff_ne]; exact hn
      clear HS HZ CI
      go_enter Tryd.func19, Tryd.ntmps19
      go_wp2_with fail
      go_ret
      exact ⟨by rw [HS2.out]; rfl, HG.out⟩
  · have HS2 := hid (show res = false by rw [HS.out]; simp [hk])
    have t1 : ((k1 : Int) == (k2 : Int)) = false := by rw [beq_eq_false_iff_ne]; omega
    clear HS HZ CI
    go_enter Tryd.func19, Tryd.ntmps19
    go_wp2_with fail
    go_ret
    exact ⟨by rw [HS2.out]; rfl, HG.out⟩
end Go.Proofs.YtglekjhbpdoofaaDoor

/- LargeInts: its calls, and the law's walk. -/
import Derived.Test.YtcflkbdcnibnnaaDoorSure03
namespace Go.Proofs.YtcflkbdcnibnnaaDoor
open Go.RowKit

theorem small_of {z : Int} (h1 : -9223372036854775808 ≤ z) (h2 : z ≤ 9223372036854775807) : Lg.small z := by
  unfold Lg.small
  refine Nat.lt_of_lt_of_le (show z.natAbs < 4294967296 ^ 2 by omega) (Nat.pow_le_pow_right (by decide) (by decide))
/-- A whole number of 64 bits, as the program has it. -/
structure IntRep (neg : Bool) (xs : List Nat) (z : Int) : Prop where
  rep : Lg.Rep neg xs z
  lo : -9223372036854775808 ≤ z
  hi : z ≤ 9223372036854775807
theorem IntRep.may {neg : Bool} {xs : List Nat} {z : Int} (h : IntRep neg xs z) : Lg.may neg xs = true := h.rep.may (small_of h.lo h.hi)
theorem IntRep.len {neg : Bool} {xs : List Nat} {z : Int} (h : IntRep neg xs z) : xs.length ≤ 64 := h.rep.len.2 (small_of h.lo h.hi)
theorem ints_of (n : Int) (w : World) (h1 : -9223372036854775808 ≤ n) (h2 : n ≤ 9223372036854775807) :
    Calls Tryd.prog 16 #[.int .i64 n] w fun e w' => ∃ A c ng xs, e = .returned (.agg #[.bool ng, .slice A (List.length xs) c]) ∧ OwnNums .u32 w w' 55 A c xs ∧ IntRep ng xs n ∧ Grew w w' := by
  refine (pof_c n w h1 h2).mono ?_
  rintro e w' ⟨A, c, xs, rfl, hO, hr, hg⟩
  exact ⟨A, c, _, xs, rfl, hO, ⟨hr, h1, h2⟩, hg⟩
theorem ints_int {ng : Bool} {A : Option Addr} {c : Nat} {xs : List Nat} {n : Int} (w : World) (h : NumsAt .u32 w w.heap.size A xs) (hr : IntRep ng xs n) :
    Calls Tryd.prog 25 #[.agg #[.bool ng, .slice A xs.length c]] w fun e w' => e = .returned (.tuple #[.int .i64 n, .bool true]) ∧ Grew w w' := by
  have h1 := pint_c ng A c xs w h hr.rep.low (by have := hr.len; omega)
  have ho : intOk ng xs = true := by
    unfold intOk
    rw [hr.may, hr.rep.num, decide_eq_true hr.lo, decide_eq_true hr.hi]; rfl
  rwa [ho, intOk_yes ho, hr.rep.num] at h1
theorem ints_add {na nb : Bool} {A B : Option Addr} {c d : Nat} {xs ys : List Nat} {n m : Int} (w : World) (ha : NumsAt .u32 w w.heap.size A xs) (hb : NumsAt .u32 w w.heap.size B ys) (hx : IntRep na xs n) (hy : IntRep nb ys m) (h1 : -9223372036854775808 ≤ n + m) (h2 : n + m ≤ 9223372036854775807) :
    Calls Tryd.prog 19 #[.agg #[.bool na, .slice A xs.length c], .agg #[.bool nb, .slice B ys.length d]] w fun e w' => ∃ A c ng L, e = .returned (.tuple #[.agg #[.bool ng, .slice A (List.length L) c], .nilIface]) ∧ OwnNums .u32 w w' 55 A c L ∧ IntRep ng L (n + m) ∧ Grew w w' := by
  refine (padd_c na A c xs nb B d ys w ha hb hx.rep.low hy.rep.low (by have := hx.len; omega) (by have := hy.len; omega)).mono ?_
  rintro e w' ⟨A, c, ng, L, k, rfl, hO, hP, hg⟩
  have h := hP.yes (by rw [hx.may, hy.may]; rfl)
  rw [hx.rep.num, hy.rep.num] at h
  obtain ⟨rfl, hr⟩ := h.yes (small_of h1 h2)
  exact ⟨A, c, ng, L, rfl, hO, ⟨hr, h1, h2⟩, hg⟩
theorem ints_sub {na nb : Bool} {A B : Option Addr} {c d : Nat} {xs ys : List Nat} {n m : Int} (w : World) (ha : NumsAt .u32 w w.heap.size A xs) (hb : NumsAt .u32 w w.heap.size B ys) (hx : IntRep na xs n) (hy : IntRep nb ys m) (h1 : -9223372036854775808 ≤ n - m) (h2 : n - m ≤ 9223372036854775807) :
    Calls Tryd.prog 20 #[.agg #[.bool na, .slice A xs.length c], .agg #[.bool nb, .slice B ys.length d]] w fun e w' => ∃ A c ng L, e = .returned (.tuple #[.agg #[.bool ng, .slice A (List.length L) c], .nilIface]) ∧ OwnNums .u32 w w' 55 A c L ∧ IntRep ng L (n - m) ∧ Grew w w' := by
  refine (psub_c na A c xs nb B d ys w ha hb hx.rep.low hy.rep.low (by have := hx.len; omega) (by have := hy.len; omega)).mono ?_
  rintro e w' ⟨A, c, ng, L, k, rfl, hO, hP, hg⟩
  have h := hP.yes (by rw [hx.may, hy.may]; rfl)
  rw [hx.rep.num, hy.rep.num, flip, if_pos rfl, ← Int.sub_eq_add_neg] at h
  obtain ⟨rfl, hr⟩ := h.yes (small_of h1 h2)
  exact ⟨A, c, ng, L, rfl, hO, ⟨hr, h1, h2⟩, hg⟩
theorem ints_cmp {na nb : Bool} {A B : Option Addr} {c d : Nat} {xs ys : List Nat} {n m : Int} (w : World) (ha : NumsAt .u32 w w.heap.size A xs) (hb : NumsAt .u32 w w.heap.size B ys) (hx : IntRep na xs n) (hy : IntRep nb ys m) :
    Calls Tryd.prog 22 #[.agg #[.bool na, .slice A xs.length c], .agg #[.bool nb, .slice B ys.length d]] w fun e w' => e = .returned (.tuple #[.int .i64 (sgnOf (n - m)), .nilIface]) ∧ Grew w w' := by
  have h := pcmp_c na A c xs nb B d ys w ha hb hx.rep.low hy.rep.low (by have := hx.len; omega) (by have := hy.len; omega)
  rw [hx.may, hy.may, hx.rep.num, hy.rep.num, flip, if_pos rfl, ← Int.sub_eq_add_neg] at h
  exact h

set_option maxRecDepth 100000 in
set_option maxHeartbeats 4000000 in
theorem ints_c (n m : Int) (w : World) (hg : HandleAt w) (h1 : -9223372036854775808 ≤ n) (h2 : n ≤ 9223372036854775807) : Calls Tryd.prog 6 #[.int .i64 n, .int .i64 m] w fun e w' => e = .returned (.bool true) ∧ Grew w w' := by
  have Hg := hid hg
  clear hg
  go_enter Tryd.func6, Tryd.ntmps6
  go_wp2_with fail
  refine (ints_of n _ h1 h2).mono ?_
  rintro e w1 ⟨A1, c1, g1, xs1, rfl, hO1, hR1, hg1⟩
  have HO1 := hid hO1
  have HR1 := hid hR1
  clear hO1 hR1
  go_wp2_with fail
  refine (ints_int _ HO1.out.at HR1.out).mono ?_
  rintro e w2 ⟨rfl, hg2⟩
  have G2 := hid (hg1.trans hg2)
  clear hg1 hg2 HO1 HR1
  rcases (show (n < -2305843009213693952) ∨ (¬ n < -2305843009213693952 ∧ 2305843009213693952 ≤ n) ∨ (¬ n < -2305843009213693952 ∧ ¬ 2305843009213693952 ≤ n ∧ m < -2305843009213693952) ∨ (¬ n < -2305843009213693952 ∧ ¬ 2305843009213693952 ≤ n ∧ ¬ m < -2305843009213693952 ∧ 2305843009213693952 ≤ m) ∨ (¬ n < -2305843009213693952 ∧ ¬ 2305843009213693952 ≤ n ∧ ¬ m < -2305843009213693952 ∧ ¬ 2305843009213693952 ≤ m) by omega) with t | ⟨t, u⟩ | ⟨t, u, v⟩ | ⟨t, u, v, x⟩ | ⟨t, u, v, x⟩
  iterate 4
    · go_wp2_with fail
      refine (sure_c _ (Hg.out.grew G2.out)).mono ?_
      rintro e w3 ⟨rfl, hg3⟩
      go_wp2_with fail
      go_ret
      exact ⟨rfl, G2.out.trans hg3⟩
  have B := hid (show (-9223372036854775808 ≤ m ∧ m ≤ 9223372036854775807) ∧ (-9223372036854775808 ≤ n + m ∧ n + m ≤ 9223372036854775807) ∧ (-9223372036854775808 ≤ n - m ∧ n - m ≤ 9223372036854775807) by omega)
  go_wp2_with fail
  refine (ints_of n _ h1 h2).mono ?_
  rintro e w3 ⟨A3, c3, g3, xs3, rfl, hO3, hR3, hg3⟩
  have HO3 := hid hO3
  have HR3 := hid hR3
  have G3 := hid (G2.out.trans hg3)
  clear hO3 hR3 hg3
  go_wp2_with fail
  refine (ints_of m _ B.out.1.1 B.out.1.2).mono ?_
  rintro e w4 ⟨A4, c4, g4, xs4, rfl, hO4, hR4, hg4⟩
  have HO4 := hid hO4
  have HR4 := hid hR4
  have G4 := hid (G3.out.trans hg4)
  replace HO3 := hid (HO3.out.grew hg4)
  clear hO4 hR4 hg4
  go_wp2_with fail
  refine (ints_add _ HO3.out.at HO4.out.at HR3.out HR4.out B.out.2.1.1 B.out.2.1.2).mono ?_
  rintro e w5 ⟨A5, c5, g5, xs5, rfl, hO5, hR5, hg5⟩
  have BS := hid (BoxAt.mk' (G4.out.trans hg5) g5 (OwnNums.mono hO5 G4.out))
  have HR5 := hid hR5
  clear hO5 hR5 hg5 HO3 HO4 HR3 HR4 G3 G4
  go_wp2_with fail
  obtain ⟨gs, hgs⟩ : ∃ gs, gs = w5.heap.size := ⟨_, rfl⟩
  obtain ⟨w6, hw6⟩ : ∃ w6, w6 = w5.alloc (.cells #[.bool g5, .slice A5 xs5.length c5] 31) := ⟨_, rfl⟩
  replace BS := hid (show BoxAt w w6 gs g5 A5 c5 xs5 by rw [hw6, hgs]; exact BS.out)
  rw [← hw6, ← hgs]
  clear hw6 hgs
  refine (ints_of n _ h1 h2).mono ?_
  rintro e w7 ⟨A3, c3, g3, xs3, rfl, hO3, hR3, hg3⟩
  have HO3 := hid hO3
  have HR3 := hid hR3
  replace BS := hid (BS.out.on hg3)
  clear hO3 hR3 hg3
  go_wp2_with fail
  refine (ints_of m _ B.out.1.1 B.out.1.2).mono ?_
  rintro e w8 ⟨A4, c4, g4, xs4, rfl, hO4, hR4, hg4⟩
  have HO4 := hid hO4
  have HR4 := hid hR4
  replace BS := hid (BS.out.on hg4)
  replace HO3 := hid (HO3.out.grew hg4)
  clear hO4 hR4 hg4
  go_wp2_with fail
  refine (ints_sub _ HO3.out.at HO4.out.at HR3.out HR4.out B.out.2.2.1 B.out.2.2.2).mono ?_
  rintro e w9 ⟨A6, c6, g6, xs6, rfl, hO6, hR6, hg6⟩
  have BD := hid (BoxAt.mk' (BS.out.grew.trans hg6) g6 (OwnNums.mono hO6 BS.out.grew))
  have HR6 := hid hR6
  replace BS := hid (BS.out.on (hg6.alloc (.cells #[.bool g6, .slice A6 xs6.length c6] 31)))
  clear hO6 hR6 hg6 HO3 HO4 HR3 HR4
  go_wp2_with fail
  obtain ⟨gd, hgd⟩ : ∃ gd, gd = w9.heap.size := ⟨_, rfl⟩
  obtain ⟨w10, hw10⟩ : ∃ w10, w10 = w9.alloc (.cells #[.bool g6, .slice A6 xs6.length c6] 31) := ⟨_, rfl⟩
  replace BD := hid (show BoxAt w w10 gd g6 A6 c6 xs6 by rw [hw10, hgd]; exact BD.out)
  replace BS := hid (show BoxAt w w10 gs g5 A5 c5 xs5 by rw [hw10]; exact BS.out)
  rw [← hw10, ← hgd]
  clear hw10 hgd
  refine (ints_of n _ h1 h2).mono ?_
  rintro e w11 ⟨A3, c3, g3, xs3, rfl, hO3, hR3, hg3⟩
  have HO3 := hid hO3
  have HR3 := hid hR3
  replace BS := hid (BS.out.on hg3)
  replace BD := hid (BD.out.on hg3)
  clear hO3 hR3 hg3
  go_wp2_with fail
  refine (ints_of m _ B.out.1.1 B.out.1.2).mono ?_
  rintro e w12 ⟨A4, c4, g4, xs4, rfl, hO4, hR4, hg4⟩
  have HO4 := hid hO4
  have HR4 := hid hR4
  replace BS := hid (BS.out.on hg4)
  replace BD := hid (BD.out.on hg4)
  replace HO3 := hid (HO3.out.grew hg4)
  clear hO4 hR4 hg4
  go_wp2_with fail
  refine (ints_cmp _ HO3.out.at HO4.out.at HR3.out HR4.out).mono ?_
  rintro e w13 ⟨rfl, hg13⟩
  replace BS := hid (BS.out.on hg13)
  replace BD := hid (BD.out.on hg13)
  clear hg13 HO3 HO4 HR3 HR4
  have s0 := BS.out.c0
  have s1 := BS.out.c1
  go_wp2_with fail
  refine (ints_int _ BS.out.own.at HR5.out).mono ?_
  rintro e w14 ⟨rfl, hg14⟩
  replace BD := hid (BD.out.on hg14)
  clear hg14 s0 s1 BS HR5
  have s0 := BD.out.c0
  have s1 := BD.out.c1
  go_wp2_with fail
  refine (ints_int _ BD.out.own.at HR6.out).mono ?_
  rintro e w15 ⟨rfl, hg15⟩
  have G15 := hid (BD.out.grew.trans hg15)
  clear hg15 s0 s1 BD HR6
  have SG := hid (show (n < m → sgnOf (n - m) = -1) ∧ (n = m → sgnOf (n - m) = 0) ∧ (m < n → sgnOf (n - m) = 1) by
    unfold sgnOf
    refine ⟨fun h => by rw [if_pos (by omega)], fun h => by rw [if_neg (by omega), if_pos (by omega)], fun h => by rw [if_neg (by omega), if_neg (by omega)]⟩)
  rcases Int.lt_trichotomy n m with hc | hc | hc
  · have e1 := SG.out.1 hc
    have e2 : ¬ m < n := by omega
    go_wp2_with fail
    refine (sure_c _ (Hg.out.grew G15.out)).mono ?_
    rintro e w16 ⟨rfl, hg16⟩
    go_wp2_with fail
    go_ret
    exact ⟨rfl, G15.out.trans hg16⟩
  · have e1 := SG.out.2.1 hc
    have e2 : ¬ m < n := by omega
    have e3 : ¬ n < m := by omega
    clear hc
    go_wp2_with fail
    refine (sure_c _ (Hg.out.grew G15.out)).mono ?_
    rintro e w16 ⟨rfl, hg16⟩
    go_wp2_with fail
    go_ret
    exact ⟨rfl, G15.out.trans hg16⟩
  · have e1 := SG.out.2.2 hc
    have e3 : ¬ n < m := by omega
    go_wp2_with fail
    refine (sure_c _ (Hg.out.grew G15.out)).mono ?_
    rintro e w16 ⟨rfl, hg16⟩
    go_wp2_with fail
    go_ret
    exact ⟨rfl, G15.out.trans hg16⟩
end Go.Proofs.YtcflkbdcnibnnaaDoor

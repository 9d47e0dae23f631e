/- PackWrong: for every slice of bytes and every three ints the law returns true, and nothing that was there is changed. Conditions: none of ours. -/
import Derived.Test.YtglekjhbpdoofaaDoorPk12
namespace Go.Proofs.YtglekjhbpdoofaaDoor
open Go.RowKit

theorem int_dead (a b : Int) : Pk.int none a b = (0, none) := rfl
set_option maxRecDepth 100000 in
set_option maxHeartbeats 4000000 in
theorem wrong_walk (A : Option Addr) (c : Nat) (xs : List Nat) (lo hi m : Int) (w : World) (ha : BytesAt w w.heap.size A xs) (hl : xs.length ≤ 140737488351232) (hg : HandleAt w) :
    Calls Tryd.prog 5 #[.slice A xs.length c, .int .i64 lo, .int .i64 hi, .int .i64 m] w fun e w' => e = .returned (.bool true) ∧ Grew w w' := by
  have Hg := hid hg
  have HA := hid ha
  have HL := hid hl
  clear hg ha hl
  obtain ⟨n, en⟩ : ∃ n, n = xs.length := ⟨_, rfl⟩
  rw [← en]
  have EN := hid en
  clear en
  go_enter Tryd.func5, Tryd.ntmps5
  go_wp2_with (at_builtin; refine wpList_catR (.int .u8 0) 1 1 (w.alloc (.cells #[] 5)) rfl _ _ 23 5 rfl Tryd.underlying23 v6_u8 rfl (by decide) w.heap.size (by simp) _ 0 0 [] rfl (Row.made (Nat.le_refl _)) A n c (numCells .u8 xs) rfl (by rw [EN.out]; simp [numCells]) (numCells_one _ _) (fun h => by rw [EN.out]; exact (NumsAt.of_bytes HA.out).cells.1 h) ((NumsAt.of_bytes HA.out).grew ((Grew.refl w).alloc _)).cells.2 (by have := HL.out; have := EN.out; omega) (by have := HL.out; have := EN.out; omega) ?_; rintro A1 c1 w1 hR hK _)
  have hG1 : Grew w w1 := hK.grew ((Grew.refl w).alloc _) (fun k hk => by obtain ⟨ad, h1, h2⟩ := hk; cases h1; rw [← h2]; exact Nat.le_refl _)
  have hR1 : Row w1 w.heap.size 5 1 A1 xs.length c1 (numCells .u8 xs) := by
    rw [← EN.out]
    simpa using hR
  have C1 := hid (read_c A1 c1 xs w1 (AllPost.bytes (w := w) HA.out.1 hR1) (by have := HL.out; omega))
  rw [← EN.out] at C1
  have HG1 := hid hG1
  clear hR hK hG1 hR1
  go_wp2_with fail
  refine C1.out.mono ?_
  rintro e w2 ⟨g, rfl, hge, hR, hG⟩
  have R2 := hid (show RS w w2 w1.heap.size g (some xs) from ⟨hR, HG1.out.below.size, hge, HG1.out.trans hG⟩)
  clear hR hG C1 HG1
  have C2 := hid (rint_c w1.heap.size g (some xs) 1 0 w2 R2.out.1)
  rw [Pk.int_bad] at C2
  go_wp2_with fail
  refine C2.out.mono ?_
  rintro e w3 ⟨rfl, hR, hK⟩
  have R3 := hid (R2.out.done hR hK)
  have C3 := hid (rdone_no hR (by simp))
  clear hR hK C2 R2
  go_wp2_with fail
  refine C3.out.mono ?_
  rintro e w3 ⟨rfl, rfl⟩
  clear C3
  go_wp2_with fail
  refine (num_c 2 _ (Hg.out.grew R3.out.2.2.2)).mono ?_
  rintro e w4 ⟨rfl, hg⟩
  have R4 := hid (R3.out.grew hg)
  clear hg R3
  have C4 := hid (rint_c w1.heap.size g none lo hi w4 R4.out.1)
  rw [int_dead] at C4
  go_wp2_with fail
  refine C4.out.mono ?_
  rintro e w5 ⟨rfl, hR, hK⟩
  have R5 := hid (R4.out.done hR hK)
  have C5 := hid (show Calls Tryd.prog 10 #[.pointer (some ⟨g, 0, none⟩), .int .i64 m, .int .i64 lo, .int .i64 hi] w5 (fun e w' => ∃ A c, e = .returned (.slice A 0 c) ∧ RdAt w' w1.heap.size g none ∧ Kept (· = g) w5 w') from by
    have := rints_c w1.heap.size g none m lo hi w5 hR hge (by decide)
    rw [Pk.ints_none] at this
    exact this.mono fun e w' ⟨A, c, h1, _, h3, h4⟩ => ⟨A, c, h1, h3, h4⟩)
  clear hR hK C4 R4
  go_wp2_with fail
  refine C5.out.mono ?_
  rintro e w6 ⟨A6, c6, rfl, hR, hK⟩
  have R6 := hid (R5.out.done hR hK)
  have C6 := hid (show Calls Tryd.prog 11 #[.pointer (some ⟨g, 0, none⟩), .int .i64 m] w6 (fun e w' => e = .returned (.string ⟨#[]⟩) ∧ RdAt w' w1.heap.size g none ∧ Kept (· = g) w6 w') from by
    have := rtext_c w1.heap.size g none m w6 hR
    rw [Pk.text_none] at this
    exact this.mono fun _ _ h => h)
  clear hR hK C5 R5
  go_wp2_with fail
  refine C6.out.mono ?_
  rintro e w7 ⟨rfl, hR, hK⟩
  have R7 := hid (R6.out.done hR hK)
  have C7 := hid (rdone_no hR (by simp))
  clear hR hK C6 R6
  go_wp2_with fail
  refine C7.out.mono ?_
  rintro e w7 ⟨rfl, rfl⟩
  clear C7
  go_wp2_with fail
  refine (num_c 2 _ (Hg.out.grew R7.out.2.2.2)).mono ?_
  rintro e w8 ⟨rfl, hg⟩
  have HG8 := hid (R7.out.2.2.2.trans hg)
  clear hg R7
  go_wp2_with fail
  refine (sure6_c _ (Hg.out.grew HG8.out)).mono ?_
  rintro e w9 ⟨rfl, hg⟩
  have HE := hid (HG8.out.trans hg)
  clear hg HG8
  go_wp2_with fail
  go_ret
  exact ⟨rfl, HE.out⟩
end Go.Proofs.YtglekjhbpdoofaaDoor

/- The developers' large numbers: the guess of a digit of a long division. -/
import Derived.Test.YtmcfciifjgdgoaaGreatDoorMg47
import Derived.Test.YtmcfciifjgdgoaaGreatDoorMg45
namespace Go.Proofs.YtmcfciifjgdgoaaGreatDoor
open Go.RowKit

/-- What each operation of the guess gives. -/
def GuF (A : Addr) (c : Nat) (B : Addr) (d n p0 p1 p2 y0 y1 lo yy q r : Nat) (i : Nat) (v : Value) (_ : World) : Prop := match i with
  | 0 => v = .slice (some A) (n + 3) c
  | 1 => v = .int .i64 (((n : Nat) : Int) + 2)
  | 2 => v = .pointer (some ⟨A.block, A.off + (n + 2), none⟩)
  | 3 => v = .int .u32 ((p2 : Nat) : Int)
  | 4 => v = .int .u64 ((p2 : Nat) : Int)
  | 5 => v = .slice (some A) (n + 3) c
  | 6 => v = .int .i64 (((n : Nat) : Int) + 2)
  | 7 => v = .int .i64 (((n : Nat) : Int) + 1)
  | 8 => v = .pointer (some ⟨A.block, A.off + (n + 1), none⟩)
  | 9 => v = .int .u32 ((p1 : Nat) : Int)
  | 10 => v = .slice (some A) (n + 3) c
  | 11 => v = .int .i64 (((n : Nat) : Int) + 2)
  | 12 => v = .int .i64 ((n : Nat) : Int)
  | 13 => v = .pointer (some (A.add n))
  | 14 => v = .int .u32 ((p0 : Nat) : Int)
  | 15 => v = .int .u64 ((lo : Nat) : Int)
  | 16 => v = .slice (some B) (n + 2) d
  | 17 => v = .int .i64 (((n : Nat) : Int) + 2)
  | 18 => v = .int .i64 (((n : Nat) : Int) + 1)
  | 19 => v = .pointer (some ⟨B.block, B.off + (n + 1), none⟩)
  | 20 => v = .int .u32 ((y1 : Nat) : Int)
  | 21 => v = .slice (some B) (n + 2) d
  | 22 => v = .int .i64 (((n : Nat) : Int) + 2)
  | 23 => v = .int .i64 ((n : Nat) : Int)
  | 24 => v = .pointer (some (B.add n))
  | 25 => v = .int .u32 ((y0 : Nat) : Int)
  | 26 => v = .int .u64 ((yy : Nat) : Int)
  | 27 => v = .tuple #[.int .u64 ((q : Nat) : Int), .int .u64 ((r : Nat) : Int)]
  | 28 => v = .tuple #[.int .u64 ((q : Nat) : Int), .int .u64 ((r : Nat) : Int)]
  | 29 => v = .int .u64 ((q : Nat) : Int)
  | 30 => v = .int .u64 ((r : Nat) : Int)
  | 31 => v = .int .u64 ((q : Nat) : Int)
  | _ => v = .int .u64 ((r : Nat) : Int)
theorem GuF.mono {A : Addr} {c : Nat} {B : Addr} {d n p0 p1 p2 y0 y1 lo yy q r : Nat} (i : Nat) (v : Value) (w w' : World) (h : GuF A c B d n p0 p1 p2 y0 y1 lo yy q r i v w) (_ : Grew w w') : GuF A c B d n p0 p1 p2 y0 y1 lo yy q r i v w' := by
  unfold GuF at *
  exact h

set_option maxRecDepth 100000 in
set_option maxHeartbeats 4000000 in
theorem guess_c (A : Option Addr) (c : Nat) (P : List Nat) (B : Option Addr) (d : Nat) (Y : List Nat) (n : Nat) (w : World) (hP : P.length = n + 3) (hY : Y.length = n + 2) (ha : NumsAt .u32 w w.heap.size A P) (hb : NumsAt .u32 w w.heap.size B Y)
    (lP : Dg.Low 4294967296 P) (lY : Dg.Low 4294967296 Y) (ht : Y.getD (n + 1) 0 ≠ 0) (hlt : Dg.val 4294967296 P < 4294967296 * Dg.val 4294967296 Y) (hn : n ≤ 100000) :
    Calls Tryz.prog 73 #[.slice A (n + 3) c, .slice B (n + 2) d] w fun e w' => ∃ g : Nat, e = .returned (.int .u32 ((g : Nat) : Int)) ∧ (g < 4294967296 ∧ Dg.val 4294967296 P / Dg.val 4294967296 Y ≤ g ∧ g ≤ Dg.val 4294967296 P / Dg.val 4294967296 Y + 1) ∧ Grew w w' := by
  obtain ⟨g1, g2, g3⟩ := Dg.guess hP hY lP lY (by decide) ht hlt
  obtain ⟨A, rfl, had, hca⟩ := ha (by omega)
  obtain ⟨B, rfl, hbd, hcb⟩ := hb (by omega)
  have a0 := hca n (by omega)
  have a1 := hca (n + 1) (by omega)
  have a2 := hca (n + 2) (by omega)
  have b0 := hcb n (by omega)
  have b1 := hcb (n + 1) (by omega)
  have l0 := lP.getD (by decide) n
  have l1 := lP.getD (by decide) (n + 1)
  have l2 := lP.getD (by decide) (n + 2)
  have m0 := lY.getD (by decide) n
  have m1 := lY.getD (by decide) (n + 1)
  rw [show A.add (n + 1) = ⟨A.block, A.off + (n + 1), none⟩ by simp [Addr.add]] at a1
  rw [show A.add (n + 2) = ⟨A.block, A.off + (n + 2), none⟩ by simp [Addr.add]] at a2
  rw [show B.add (n + 1) = ⟨B.block, B.off + (n + 1), none⟩ by simp [Addr.add]] at b1
  generalize P.getD n 0 = p0 at *
  generalize P.getD (n + 1) 0 = p1 at *
  generalize P.getD (n + 2) 0 = p2 at *
  generalize Y.getD n 0 = y0 at *
  generalize Y.getD (n + 1) 0 = y1 at *
  generalize Dg.val 4294967296 P / Dg.val 4294967296 Y = D at *
  rw [show (4294967296 * 4294967296 : Nat) = 18446744073709551616 from rfl] at g1 g2
  rw [show p1 * 4294967296 + p0 = p0 + 4294967296 * p1 by omega, show y1 * 4294967296 + y0 = y0 + 4294967296 * y1 by omega] at g1 g2
  rw [show y1 * 4294967296 + y0 = y0 + 4294967296 * y1 by omega] at g3
  have J1 := hid (fun (V : World) => pjoin_c p1 p0 V l1 l0)
  have J2 := hid (fun (V : World) => pjoin_c y1 y0 V m1 m0)
  have k1 : p0 + 4294967296 * p1 < 18446744073709551616 := by omega
  have k2 : y0 + 4294967296 * y1 < 18446744073709551616 := by omega
  generalize p0 + 4294967296 * p1 = lo at *
  generalize y0 + 4294967296 * y1 = yy at *
  have CD := hid (fun (V : World) => div64_c p2 lo yy V g3 k2 k1)
  obtain ⟨q, eq⟩ : ∃ q, q = (p2 * 18446744073709551616 + lo) / yy := ⟨_, rfl⟩
  obtain ⟨r, er⟩ : ∃ r, r = (p2 * 18446744073709551616 + lo) % yy := ⟨_, rfl⟩
  rw [← eq] at g1 g2
  rw [← eq, ← er] at CD
  have GG := hid (And.intro g1 g2)
  have C0 := hid (fun (V : World) (hv : Grew w V) => (hv.below.cell (p := A.add n) (by rw [block_add]; exact had)).trans a0)
  have C1 := hid (fun (V : World) (hv : Grew w V) => (hv.below.cell (p := ⟨A.block, A.off + (n + 1), none⟩) had).trans a1)
  have C2 := hid (fun (V : World) (hv : Grew w V) => (hv.below.cell (p := ⟨A.block, A.off + (n + 2), none⟩) had).trans a2)
  have D0 := hid (fun (V : World) (hv : Grew w V) => (hv.below.cell (p := B.add n) (by rw [block_add]; exact hbd)).trans b0)
  have D1 := hid (fun (V : World) (hv : Grew w V) => (hv.below.cell (p := ⟨B.block, B.off + (n + 1), none⟩) hbd).trans b1)
  have LL := hid (And.intro l0 (And.intro l1 (And.intro l2 (And.intro m0 m1))))
  have W1 := hid (show IntKind.i64.wrap (((n : Nat) : Int) + 2 - 1) = ((n : Nat) : Int) + 1 by simp [IntKind.wrap, IntKind.bits, IntKind.signed]; omega)
  have W0 := hid (show IntKind.i64.wrap ((n : Nat) : Int) = ((n : Nat) : Int) by simp [IntKind.wrap, IntKind.bits, IntKind.signed]; omega)
  have X2 := hid (show IntKind.u64.wrap ((p2 : Nat) : Int) = ((p2 : Nat) : Int) by simp [IntKind.wrap, IntKind.bits, IntKind.signed]; omega)
  have i0 : ((n : Nat) : Int) < ((n : Nat) : Int) + 3 := by omega
  have i1 : ((n : Nat) : Int) + 1 < ((n : Nat) : Int) + 3 := by omega
  have i2 : ((n : Nat) : Int) + 2 < ((n : Nat) : Int) + 3 := by omega
  have i3 : ((n : Nat) : Int) < ((n : Nat) : Int) + 2 := by omega
  have i4 : ((n : Nat) : Int) + 1 < ((n : Nat) : Int) + 2 := by omega
  have z1 : 0 ≤ ((n : Nat) : Int) + 1 := by omega
  have z2 : 0 ≤ ((n : Nat) : Int) + 2 := by omega
  have t2 : (((n : Nat) : Int) + 2).toNat = n + 2 := by omega
  have ad2 : A.add (n + 2) = ⟨A.block, A.off + (n + 2), none⟩ := by simp [Addr.add]
  clear k1 k2 g1 g2 g3 eq er hca hcb a0 a1 a2 b0 b1 m0 m1 l0 l1 hlt ht lP lY ha hb
  go_enter Tryz.func73, Tryz.ntmps73
  go_upto_region 2 with fail
  refine wp_region_facts (w0 := w) _ 33 [11, 12, 13, 14, 15, 16, 17, 18, 19, 20, 21, 22, 23, 24, 25, 26, 27, 28, 29, 30, 31, 32, 33, 34, 35, 36, 37, 38, 10, 39, 40, 6, 7] [] (GuF A c B d n p0 p1 p2 y0 y1 lo yy q r) (by kernel_rfl) (by kernel_rfl) (Grew.refl _) GuF.mono ?_ ?_
  · repeat' (first | exact trivial | apply And.intro)
    all_goals
      intro a w' hgw hs hA
      have e0 := hs.eval 0 (by decide) (v := .slice (some A) (n + 3) c) rfl
      have e1 := hs.eval 1 (by decide) (v := .slice (some B) (n + 2) d) rfl
      have e5 := hs.eval 5 (by decide) (v := .int .i64 (((n : Nat) : Int) + 2)) rfl
      have c0 := C0.out w' hgw
      have c1 := C1.out w' hgw
      have c2 := C2.out w' hgw
      have d0 := D0.out w' hgw
      have d1 := D1.out w' hgw
      have HGW := hid hgw
      clear hs hgw
      simp only [Ahead, Region.binds, slotOf, GuF, List.getD_cons_succ, List.getD_cons_zero, forall_const, and_true] at hA
      simp only [wantedD, if_true]
      unfold Oper.wp
      have ec : ∀ v, a.eval (.const v) = v := fun _ => rfl
      generalize hf : a.eval = f at *
      have ef : ∀ k, f (.func k) = Act.eval ⟨#[], []⟩ (.func k) := fun k => by rw [← hf]; rfl
      clear hf
      go_simp
      first
        | (with_reducible refine Gives.of' ?ha (Grew.refl _) ?hb
           case ha => rfl
           case hb => simp only [GuF, W1.out, W0.out, X2.out])
        | (with_reducible refine (J1.out _).mono ?_
           rintro e w3 ⟨rfl, rfl⟩
           with_reducible refine Gives.of' ?ha (Grew.refl _) ?hb
           case ha => rfl
           case hb => simp only [GuF])
        | (with_reducible refine (J2.out _).mono ?_
           rintro e w3 ⟨rfl, rfl⟩
           with_reducible refine Gives.of' ?ha (Grew.refl _) ?hb
           case ha => rfl
           case hb => simp only [GuF])
        | (with_reducible refine (CD.out _).mono ?_
           rintro e w3 ⟨rfl, hg3⟩
           with_reducible refine Gives.of' ?ha hg3 ?hb
           case ha => rfl
           case hb => simp only [GuF])
  · intro a w' hgw hs hf _ _
    have h4 := hf 31 (by decide)
    simp only [slotOf, GuF, List.getD_cons_succ, List.getD_cons_zero] at h4
    obtain ⟨f, rfl, hft⟩ := hs.put
    rw [hft] at h4
    have HGW := hid hgw
    clear hf hft hgw C0 C1 C2 D0 D1 CD J1 J2
    simp only [List.drop, wpList, putAll, List.foldl_cons, List.foldl_nil, Act.put, List.setIfInBounds_toArray, List.set_cons_succ, List.set_cons_zero, h4]
    go_wp2_with fail
    go_ret
    have g := GG.out
    rw [show (4294967296 - 1 : Nat) = 4294967295 from rfl] at g
    have e : min ((q : Nat) : Int) 4294967295 = ((min q 4294967295 : Nat) : Int) := by omega
    have h : min q 4294967295 < 4294967296 := by omega
    rw [e]
    exact ⟨_, rfl, ⟨h, g.1, g.2⟩, HGW.out⟩
end Go.Proofs.YtmcfciifjgdgoaaGreatDoor

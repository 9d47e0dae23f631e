/- The walks of law 06: write. -/
import Derived.Test.YtglekjhbpdoofaaDoorPk7
namespace Go.Proofs.YtglekjhbpdoofaaDoor
open Go.RowKit

/-- A field as it lies in memory: its list's place and capacity. -/
structure FdV where
  f : Pk.Fd
  A : Option Addr
  c : Nat
instance FdV.some_ : Inhabited FdV := ⟨⟨⟨0, 0, [], ⟨#[]⟩, 0, 0, 0⟩, none, 0⟩⟩
def FdV.cells (v : FdV) : Array Value := #[.int .u8 ((v.f.kind : Nat) : Int), .int .i64 v.f.n, .slice v.A v.f.l.length v.c, .string v.f.s, .int .i64 v.f.many, .int .i64 v.f.lo, .int .i64 v.f.hi]
/-- Its numbers are of their kinds, its list lies below block 'B'. -/
structure FdOk (w : World) (B : Nat) (v : FdV) : Prop where
  kind : v.f.kind < 256
  n : Vi.I64 v.f.n
  l : IntsAt w B v.A v.f.l
  lc : v.f.l.length ≤ v.c
  lm : v.c ≤ 9223372036854775807
  lb : ∀ ad, v.A = some ad → 0 < v.f.l.length → ad.block < B
theorem FdOk.kept {F : Nat → Prop} {w w' : World} {B : Nat} {v : FdV} (h : FdOk w B v) (hk : Kept F w w') (hB : B ≤ w.heap.size) (hF : ∀ ad, v.A = some ad → 0 < v.f.l.length → ¬ F ad.block) : FdOk w' B v :=
  ⟨h.kind, h.n, h.l.kept hk hB hF, h.lc, h.lm, h.lb⟩
theorem FdOk.wide {w : World} {B B' : Nat} {v : FdV} (h : FdOk w B v) (hB : B ≤ B') : FdOk w B' v :=
  ⟨h.kind, h.n, h.l.wide hB, h.lc, h.lm, fun ad e hn => Nat.lt_of_lt_of_le (h.lb ad e hn) hB⟩

set_option maxRecDepth 100000 in
set_option maxHeartbeats 4000000 in
theorem write_c (B g : Nat) (xs : List Nat) (Y : Nat → Prop) (v : FdV) (w : World) (h : WrAt w B g xs Y) (hB : B ≤ w.heap.size) (hv : FdOk w w.heap.size v) (hd : ∀ ad, v.A = some ad → 0 < v.f.l.length → ¬ Y ad.block) (hl : xs.length + 10 * v.f.l.length + v.f.s.size + 10 ≤ 1000000000000) :
    Calls Tryd.prog 6 #[.pointer (some ⟨g, 0, none⟩), .agg v.cells] w (WroteR w B g xs (Pk.put v.f) Y) := by
  obtain ⟨f, A, c⟩ := v
  obtain ⟨kind, n, l, s, many, lo, hi⟩ := f
  obtain ⟨hk, hn, hil, _, _, hlb⟩ := hv
  simp only at hk hn hil hlb hd hl
  have hg := hid ((Grew.refl w).alloc (.cells #[.int .u8 ((kind : Nat) : Int), .int .i64 n, .slice A l.length c, .string s, .int .i64 many, .int .i64 lo, .int .i64 hi] 29))
  have hsz := hid (show w.heap.size < (w.alloc (.cells #[.int .u8 ((kind : Nat) : Int), .int .i64 n, .slice A l.length c, .string s, .int .i64 many, .int .i64 lo, .int .i64 hi] 29)).heap.size by simp)
  have HW := hid h
  have HIL := hid hil
  have HDL := hid (And.intro hd hlb)
  have HN := hid hn
  have HL := hid hl
  clear h hil hd hlb hn hl
  show Calls Tryd.prog 6 #[.pointer (some ⟨g, 0, none⟩), .agg #[.int .u8 ((kind : Nat) : Int), .int .i64 n, .slice A l.length c, .string s, .int .i64 many, .int .i64 lo, .int .i64 hi]] w (WroteR w B g xs (Pk.put ⟨kind, n, l, s, many, lo, hi⟩) Y)
  rcases (by omega : kind = 0 ∨ kind = 1 ∨ (kind ≠ 0 ∧ kind ≠ 1)) with rfl | rfl | ⟨h0, h1⟩
  · have HP := hid (show Pk.put ⟨0, n, l, s, many, lo, hi⟩ = Pk.encs [n] by rw [encs_one]; rfl)
    have C1 := hid (fun (w1 : World) (H : Nat) (hH : w1.heap.size = H) (hg1 : Grew w w1) => hH ▸ wint_c B g xs Y (some ⟨w1.heap.size, 0, none⟩) 1 [n] (w1.alloc (.cells #[.int .i64 n] 3)) (HW.out.grew (hg1.alloc _)) (by simp only [World.size_alloc]; have := hg1.below.size; omega) (ints_one w1 _ _ HN.out) (fun ad had _ hy => by
      cases had
      have := (HW.out.1 _ hy).2
      have h2 := hg1.below.size
      simp only at this
      omega) (by have := HL.out; simp only [List.length_singleton]; omega))
    rw [List.length_singleton] at C1
    clear HL HDL HIL HN
    rw [show (((0 : Nat) : Nat) : Int) = 0 from rfl] at hg hsz ⊢
    go_enter Tryd.func6, Tryd.ntmps6
    go_wp2_with fail
    refine (C1.out _ _ (by simp only [World.size_alloc]) hg.out).mono ?_
    rintro e w1 ⟨rfl, hw⟩
    have HE := hid (Wrote.grew_first (hg.out.alloc _) hw)
    clear hw C1
    go_wp2_with fail
    go_end0
    rw [HP.out]
    exact ⟨rfl, HE.out⟩
  · have HP := hid (show Pk.put ⟨1, n, l, s, many, lo, hi⟩ = Vi.enc (l.length : Int) ++ Pk.encs l from rfl)
    have C1 := hid (fun (w1 : World) (hg1 : Grew w w1) => wints_c B g xs Y A c l w1 (HW.out.grew hg1) (Nat.le_trans hB hg1.below.size) ((HIL.out.grew hg1)) (fun ad e hn => ⟨HDL.out.1 ad e hn, Nat.lt_of_lt_of_le (HDL.out.2 ad e hn) hg1.below.size⟩) (by have := HL.out; omega))
    clear HL HDL HIL HN
    rw [show (((1 : Nat) : Nat) : Int) = 1 from rfl] at hg hsz ⊢
    obtain ⟨k, ek⟩ : ∃ k, k = l.length := ⟨_, rfl⟩
    rw [← ek] at C1 hg hsz HP ⊢
    clear ek
    go_enter Tryd.func6, Tryd.ntmps6
    go_wp2_with fail
    refine (C1.out _ hg.out).mono ?_
    rintro e w1 ⟨rfl, hw⟩
    have HE := hid (Wrote.grew_first hg.out hw)
    clear hw C1
    go_wp2_with fail
    go_end0
    rw [HP.out]
    exact ⟨rfl, HE.out⟩
  · have HP := hid (show Pk.put ⟨kind, n, l, s, many, lo, hi⟩ = Vi.enc (s.size : Int) ++ Pk.natsOf s by unfold Pk.put; rw [if_neg h0, if_neg h1])
    have C1 := hid (fun (w1 : World) (hg1 : Grew w w1) => wtext_c B g xs Y s w1 (HW.out.grew hg1) (Nat.le_trans hB hg1.below.size) (by have := HL.out; omega))
    have t0 : ((kind : Int) == 0) = false := by rw [beq_eq_false_iff_ne]; omega
    have t1 : ((kind : Int) == 1) = false := by rw [beq_eq_false_iff_ne]; omega
    clear HL HDL HIL HN h0 h1
    go_enter Tryd.func6, Tryd.ntmps6
    go_wp2_with fail
    refine (C1.out _ hg.out).mono ?_
    rintro e w1 ⟨rfl, hw⟩
    have HE := hid (Wrote.grew_first hg.out hw)
    clear hw C1
    go_wp2_with fail
    go_end0
    rw [HP.out]
    exact ⟨rfl, HE.out⟩
end Go.Proofs.YtglekjhbpdoofaaDoor

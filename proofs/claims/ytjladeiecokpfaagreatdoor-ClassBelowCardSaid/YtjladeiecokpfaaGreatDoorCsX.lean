/- Stage 10: law 10's sure. -/
import Derived.Test.YtjladeiecokpfaaGreatDoorCsW
namespace Go.Proofs.YtjladeiecokpfaaGreatDoor
open Go.RowKit

/-- What 'sure' has before it. -/
structure S10 (w : World) (A : Option Addr) (k a b c h0 h1 h2 : Nat) : Prop where
  cl : ClsAt w A (s10C a b c)
  cap : 13 ≤ k
  ms : MethsAt w (some ⟨h2, 0, none⟩) [s10V h0 h1]
  hh : HandleAt w
  env : Env w
theorem S10.grew {w w' : World} {A : Option Addr} {k a b c h0 h1 h2 : Nat} (h : S10 w A k a b c h0 h1 h2) (hg : Grew w w') : S10 w' A k a b c h0 h1 h2 := ⟨h.cl.grew hg, h.cap, h.ms.grew hg, h.hh.grew hg, h.env.grew hg⟩
section
variable {w : World} {A : Option Addr} {k a b c h0 h1 h2 : Nat}
theorem s10C_len : (s10C a b c).length = 13 := by rw [← cls_len, s10_cls, s10_len]
theorem S10.find12 (h : S10 w A k a b c h0 h1 h2) : Calls Tryz.prog 12 #[.slice A 13 k, .slice (some ⟨h2, 0, none⟩) 1 1, .int .i64 12, .string fooS] w fun e w' => e = .returned (.tuple #[.int .i64 0, .bool true]) ∧ Grew w w' := by
  have := find_c A k (s10C a b c) (some ⟨h2, 0, none⟩) 1 [s10V h0 h1] 12 fooS w h.cl h.ms
  rw [s10_cls, s10C_len, show sels [s10V h0 h1] = [fooS] from rfl, s10_f12] at this
  exact this
theorem S10.find5 (h : S10 w A k a b c h0 h1 h2) : Calls Tryz.prog 12 #[.slice A 13 k, .slice (some ⟨h2, 0, none⟩) 1 1, .int .i64 5, .string fooS] w fun e w' => e = .returned (.tuple #[.int .i64 0, .bool false]) ∧ Grew w w' := by
  have := find_c A k (s10C a b c) (some ⟨h2, 0, none⟩) 1 [s10V h0 h1] 5 fooS w h.cl h.ms
  rw [s10_cls, s10C_len, show sels [s10V h0 h1] = [fooS] from rfl, s10_f5] at this
  exact this
theorem S10.of (h : S10 w A k a b c h0 h1 h2) : Calls Tryz.prog 14 #[.slice A 13 k, .string ⟨#[66, 97, 114]⟩] w fun e w' => e = .returned (.tuple #[.int .i64 12, .bool true]) ∧ Grew w w' := by
  have := of_c A k (s10C a b c) ⟨#[66, 97, 114]⟩ w h.cl
  rw [s10_cls, s10C_len, s10_of] at this
  exact this
theorem S10.owner (h : S10 w A k a b c h0 h1 h2) : Calls Tryz.prog 16 #[.slice A 13 k, .int .i64 0] w fun e w' => e = .returned (.tuple #[.int .i64 11, .bool true]) ∧ Grew w w' := by
  have := owner_c A k (s10C a b c) 0 w h.cl
  rw [s10_cls, s10C_len, s10_own] at this
  exact this
theorem S10.check (h : S10 w A k a b c h0 h1 h2) : Calls Tryz.prog 11 #[.slice A 13 k, .slice (some ⟨h2, 0, none⟩) 1 1] w fun e w' => e = .returned .nilIface ∧ Grew w w' := by
  have := ccheck_c A k (s10C a b c) (some ⟨h2, 0, none⟩) 1 [s10V h0 h1] true ⟨fun _ => s10_yes a b c h0 h1, fun _ => rfl⟩ w h.cl (by rw [s10C_len]; exact h.cap) h.ms h.env
  rw [s10C_len] at this
  exact this
theorem nil_meths (w : World) (A : Option Addr) : MethsAt w A [] := ⟨(fun u hu => by cases hu), by decide, fun h => absurd h (by decide)⟩
theorem S10.check0 (h : S10 w A k a b c h0 h1 h2) : Calls Tryz.prog 11 #[.slice A 13 k, .slice none 0 0] w fun e w' => e = .returned (errVal 8) ∧ Grew w w' := by
  have := ccheck_c A k (s10C a b c) none 0 [] false ⟨(fun h => by cases h), fun hc => absurd hc (s10_no a b c)⟩ w h.cl (by rw [s10C_len]; exact h.cap) (nil_meths w none) h.env
  rw [s10C_len] at this
  exact this
theorem S10.names (h : S10 w A k a b c h0 h1 h2) : Calls Tryz.prog 22 #[.slice A 13 k, .int .i64 12] w fun e w' => ∃ (B : Option Addr) (d : Nat), e = .returned (.slice B 2 d) ∧ StrsAt w' w'.heap.size B [⟨#[97]⟩, ⟨#[98]⟩] ∧ Grew w w' := by
  have := names_c A k (s10C a b c) 12 w h.cl
  rw [s10_cls, s10C_len, s10_n12] at this
  exact this.mono fun e w' ⟨B, d, h1, h2, h3⟩ => ⟨B, d, h1, row_strs h2 rfl, h3⟩
theorem S10.count (h : S10 w A k a b c h0 h1 h2) : Calls Tryz.prog 23 #[.slice A 13 k, .int .i64 11] w fun e w' => e = .returned (.int .i64 1) ∧ Grew w w' := by
  have := count_c A k (s10C a b c) 11 w h.cl
  rw [s10_cls, s10C_len, s10_n11] at this
  exact this
theorem S10.under1 (h : S10 w A k a b c h0 h1 h2) : Calls Tryz.prog 24 #[.slice A 13 k, .int .i64 12, .int .i64 11] w fun e w' => e = .returned (.bool true) ∧ Grew w w' := by
  have := under_c A k (s10C a b c) 12 11 w h.cl
  rw [s10_cls, s10C_len, s10_u1] at this
  exact this
theorem S10.under2 (h : S10 w A k a b c h0 h1 h2) : Calls Tryz.prog 24 #[.slice A 13 k, .int .i64 11, .int .i64 12] w fun e w' => e = .returned (.bool false) ∧ Grew w w' := by
  have := under_c A k (s10C a b c) 11 12 w h.cl
  rw [s10_cls, s10C_len, s10_u2] at this
  exact this
end
theorem texts10 (B : Option Addr) (d H : Nat) (w : World) (h : StrsAt w w.heap.size B [⟨#[97]⟩, ⟨#[98]⟩]) (h2 : Blk w H 9 #[.string ⟨#[97]⟩, .string ⟨#[98]⟩]) : Calls Tryz.prog 21 #[.slice B 2 d, .slice (some ⟨H, 0, none⟩) 2 2] w fun e w' => e = .returned (.bool true) ∧ Grew w w' := by
  have ad0 : ∀ (h j : Nat), (⟨h, 0, none⟩ : Addr).add j = ⟨h, j, none⟩ := fun h j => by unfold Addr.add; split <;> simp_all
  have := texts_c B d [⟨#[97]⟩, ⟨#[98]⟩] (some ⟨H, 0, none⟩) 2 [⟨#[97]⟩, ⟨#[98]⟩] w h (fun _ => ⟨_, rfl, h2.lt, fun i t ht => by
    rw [ad0, h2.cell]
    match i, ht with
    | 0, ht => cases ht; rfl
    | 1, ht => cases ht; rfl
    | i + 2, ht => cases ht⟩) (by decide) (by decide)
  exact this
def yes10 (w : World) (e : Ending) (w' : World) : Prop := e = .returned (.bool true) ∧ Grew w w'
set_option maxRecDepth 100000 in
set_option maxHeartbeats 8000000 in
theorem sure10_c (w : World) (hh : HandleAt w) (hE : Env w) : Calls Tryz.prog 8 #[] w (yes10 w) := by
  have HF := hid (first_c w)
  have HH := hid hh
  have HE := hid hE
  clear hh hE
  go_enter Tryz.func8, Tryz.ntmps8
  go_wp2_with fail
  refine HF.out.mono ?_
  rintro e w1 ⟨g, rfl, hbk, hgw, hg1⟩
  have HG1 := hid hg1
  have HRow := hid (first_row hbk hgw)
  clear hbk hgw hg1 HF
  obtain ⟨h, hh⟩ : ∃ h, h = w1.heap.size := ⟨_, rfl⟩
  obtain ⟨W4, hW4⟩ : ∃ W4, W4 = (((w1.alloc (.cells #[.string ⟨#[97]⟩] 9)).alloc (.cells #[.int .i64 0] 3)).alloc (.cells #[.string ⟨#[98]⟩] 9)).alloc (.cells #[.string ⟨#[70, 111, 111]⟩, .int .i64 0, .slice (some ⟨h, 0, none⟩) 1 1, .slice (some ⟨h + 1, 0, none⟩) 1 1, .string ⟨#[66, 97, 114]⟩, .int .i64 11, .slice (some ⟨h + 1 + 1, 0, none⟩) 1 1, .slice none 0 0] 60) := ⟨_, rfl⟩
  have g4 : Grew w1 W4 := by rw [hW4]; exact ((((Grew.refl w1).alloc _).alloc _).alloc _).alloc _
  have bA : Blk W4 h 9 #[.string ⟨#[97]⟩] := by
    rw [hW4, hh]; exact (Blk.new w1 _ _).grew ((((Grew.refl _).alloc _).alloc _).alloc _)
  have bI : Blk W4 (h + 1) 3 #[.int .i64 0] := by
    have := Blk.new (w1.alloc (.cells #[.string ⟨#[97]⟩] 9)) 3 #[.int .i64 0]
    rw [World.size_alloc] at this
    rw [hW4, hh]; exact this.grew (((Grew.refl _).alloc _).alloc _)
  have bB : Blk W4 (h + 1 + 1) 9 #[.string ⟨#[98]⟩] := by
    have := Blk.new ((w1.alloc (.cells #[.string ⟨#[97]⟩] 9)).alloc (.cells #[.int .i64 0] 3)) 9 #[.string ⟨#[98]⟩]
    rw [World.size_alloc, World.size_alloc] at this
    rw [hW4, hh]; exact this.grew ((Grew.refl _).alloc _)
  have bC : Blk W4 (h + 1 + 1 + 1) 60 #[.string ⟨#[70, 111, 111]⟩, .int .i64 0, .slice (some ⟨h, 0, none⟩) 1 1, .slice (some ⟨h + 1, 0, none⟩) 1 1, .string ⟨#[66, 97, 114]⟩, .int .i64 11, .slice (some ⟨h + 1 + 1, 0, none⟩) 1 1, .slice none 0 0] := by
    have := Blk.new (((w1.alloc (.cells #[.string ⟨#[97]⟩] 9)).alloc (.cells #[.int .i64 0] 3)).alloc (.cells #[.string ⟨#[98]⟩] 9)) 60 #[.string ⟨#[70, 111, 111]⟩, .int .i64 0, .slice (some ⟨h, 0, none⟩) 1 1, .slice (some ⟨h + 1, 0, none⟩) 1 1, .string ⟨#[66, 97, 114]⟩, .int .i64 11, .slice (some ⟨h + 1 + 1, 0, none⟩) 1 1, .slice none 0 0]
    rw [World.size_alloc, World.size_alloc, World.size_alloc, ← hh] at this
    rw [hW4]; exact this
  have HG4 := hid (HG1.out.trans g4)
  have HR4 := hid (HRow.out.grew g4)
  have HLow := hid (show ∀ q, AtRow (some ⟨g, 0, none⟩) q → q < h from fun q hq => by rw [hh]; exact Row.at_lt HRow.out q hq)
  have HA := hid bA
  have HI := hid bI
  have HB := hid bB
  have HC := hid bC
  have HW4 := hid hW4
  have HHh := hid hh
  clear g4 bA bI bB bC hW4 hh
  go_upto_region 2 with (at_builtin; rw [← HHh.out, ← HW4.out]; refine wpList_catR (.agg #[.string ⟨#[]⟩, .int .i64 0, .slice none 0 0, .slice none 0 0]) 4 72 W4 rfl _ _ 28 60 rfl Tryz.underlying28 class_info rfl (by decide) w.heap.size HG4.out.below.size (some ⟨g, 0, none⟩) 11 11 _ rfl HR4.out (some ⟨h + 1 + 1 + 1, 0, none⟩) 2 2 [.string ⟨#[70, 111, 111]⟩, .int .i64 0, .slice (some ⟨h, 0, none⟩) 1 1, .slice (some ⟨h + 1, 0, none⟩) 1 1, .string ⟨#[66, 97, 114]⟩, .int .i64 11, .slice (some ⟨h + 1 + 1, 0, none⟩) 1 1, .slice none 0 0] rfl rfl (by intro u hu; simp only [List.mem_cons, List.not_mem_nil, or_false] at hu; rcases hu with rfl | rfl | rfl | rfl | rfl | rfl | rfl | rfl <;> rfl) (by intro e; cases e) (blk_row HC.out) (by decide) (by decide) ?_; rintro A5 k5 w5 hR5 hK5 hT5; have HR5 := hid hR5; have HK5 := hid hK5; clear hR5 hK5 hT5)
  have nb : ∀ k, h ≤ k → ¬ AtRow (some ⟨g, 0, none⟩) k := fun k hk hq => by have := HLow.out k hq; omega
  have hcl : ClsAt w5 A5 (s10C h (h + 1) (h + 1 + 1)) := s10_clsat (HA.out.kept HK5.out (nb _ (by omega))) (HI.out.kept HK5.out (nb _ (by omega))) (HB.out.kept HK5.out (nb _ (by omega))) (by rw [s10_cells]; exact HR5.out)
  have hcap : 13 ≤ k5 := HR5.out.cases.2.1
  have hg5 : Grew w w5 := HK5.out.grew HG4.out (Row.at_base HR4.out)
  obtain ⟨q, hq⟩ : ∃ q, q = w5.heap.size := ⟨_, rfl⟩
  obtain ⟨W8, hW8⟩ : ∃ W8, W8 = ((w5.alloc (.cells #[.int .u8 0, .int .u8 17] 5)).alloc (.cells #[.int .i64 (-1), .int .i64 0, .int .i64 0, .slice (some ⟨q, 0, none⟩) 2 2] 71)).alloc (.cells #[.string fooS, .slice none 0 0, .slice (some ⟨q + 1, 0, none⟩) 1 1] 55) := ⟨_, rfl⟩
  have g8 : Grew w5 W8 := by rw [hW8]; exact (((Grew.refl w5).alloc _).alloc _).alloc _
  have b1 : Blk W8 q 5 #[.int .u8 0, .int .u8 17] := by
    rw [hW8, hq]; exact (Blk.new w5 _ _).grew (((Grew.refl _).alloc _).alloc _)
  have b2 : Blk W8 (q + 1) 71 #[.int .i64 (-1), .int .i64 0, .int .i64 0, .slice (some ⟨q, 0, none⟩) 2 2] := by
    have := Blk.new (w5.alloc (.cells #[.int .u8 0, .int .u8 17] 5)) 71 #[.int .i64 (-1), .int .i64 0, .int .i64 0, .slice (some ⟨q, 0, none⟩) 2 2]
    rw [World.size_alloc, ← hq] at this
    rw [hW8]; exact this.grew ((Grew.refl _).alloc _)
  have b3 : Blk W8 (q + 1 + 1) 55 #[.string fooS, .slice none 0 0, .slice (some ⟨q + 1, 0, none⟩) 1 1] := by
    have := Blk.new ((w5.alloc (.cells #[.int .u8 0, .int .u8 17] 5)).alloc (.cells #[.int .i64 (-1), .int .i64 0, .int .i64 0, .slice (some ⟨q, 0, none⟩) 2 2] 71)) 55 #[.string fooS, .slice none 0 0, .slice (some ⟨q + 1, 0, none⟩) 1 1]
    rw [World.size_alloc, World.size_alloc, ← hq] at this
    rw [hW8]; exact this
  have HS : Hid (S10 W8 A5 k5 h (h + 1) (h + 1 + 1) q (q + 1) (q + 1 + 1)) := hid ⟨hcl.grew g8, hcap, s10_meths (s10_at b1 b2) b3, HH.out.grew (hg5.trans g8), HE.out.grew (hg5.trans g8)⟩
  have HG := hid (hg5.trans g8)
  have HW8 := hid hW8
  have HQ := hid hq
  clear nb hcl hcap hg5 hq hW8 g8 b1 b2 b3 HR5 HK5 HR4 HG4 HLow HA HI HB HC HW4 HHh HRow HG1
  go_upto_region 3 with fail
  rw [← HQ.out]
  unfold fooS at HW8
  rw [← HW8.out]
  clear HW8 HQ
  have h12 := hid HS.out.find12
  unfold fooS at h12
  go_wp2_with fail
  refine h12.out.mono ?_
  rintro e wn ⟨rfl, hg⟩
  replace HS := hid (HS.out.grew hg)
  replace HG := hid (HG.out.trans hg)
  clear hg h12
  have h5 := hid HS.out.find5
  unfold fooS at h5
  go_wp2_with fail
  refine h5.out.mono ?_
  rintro e wn ⟨rfl, hg⟩
  replace HS := hid (HS.out.grew hg)
  replace HG := hid (HG.out.trans hg)
  clear hg h5
  go_wp2_with fail
  refine HS.out.of.mono ?_
  rintro e wn ⟨rfl, hg⟩
  replace HS := hid (HS.out.grew hg)
  replace HG := hid (HG.out.trans hg)
  clear hg
  go_wp2_with fail
  refine HS.out.owner.mono ?_
  rintro e wn ⟨rfl, hg⟩
  replace HS := hid (HS.out.grew hg)
  replace HG := hid (HG.out.trans hg)
  clear hg
  go_wp2_with fail
  refine HS.out.check.mono ?_
  rintro e wn ⟨rfl, hg⟩
  replace HS := hid (HS.out.grew hg)
  replace HG := hid (HG.out.trans hg)
  clear hg
  go_wp2_with fail
  refine HS.out.check0.mono ?_
  rintro e wn ⟨rfl, hg⟩
  replace HS := hid (HS.out.grew hg)
  replace HG := hid (HG.out.trans hg)
  clear hg
  have HN := hid (num_c 8 _ HS.out.hh)
  rw [show errVal 8 = .iface 75 (.int .i64 8) from rfl] at HN ⊢
  go_wp2_with fail
  refine HN.out.mono ?_
  rintro e wn ⟨rfl, hg⟩
  replace HS := hid (HS.out.grew hg)
  replace HG := hid (HG.out.trans hg)
  clear hg HN
  go_wp2_with fail
  refine HS.out.names.mono ?_
  rintro e wn ⟨B, d, rfl, hst, hg⟩
  have G9 := (Grew.refl wn).alloc (.cells #[.string ⟨#[97]⟩, .string ⟨#[98]⟩] 9)
  have HT := hid (texts10 B d _ _ (hst.grew G9) (Blk.new wn 9 #[.string ⟨#[97]⟩, .string ⟨#[98]⟩]))
  replace HS := hid (HS.out.grew (hg.trans G9))
  replace HG := hid (HG.out.trans (hg.trans G9))
  clear hg hst G9
  go_wp2_with fail
  refine HT.out.mono ?_
  rintro e wn ⟨rfl, hg⟩
  replace HS := hid (HS.out.grew hg)
  replace HG := hid (HG.out.trans hg)
  clear hg HT
  go_wp2_with fail
  refine HS.out.count.mono ?_
  rintro e wn ⟨rfl, hg⟩
  replace HS := hid (HS.out.grew hg)
  replace HG := hid (HG.out.trans hg)
  clear hg
  go_wp2_with fail
  refine HS.out.under1.mono ?_
  rintro e wn ⟨rfl, hg⟩
  replace HS := hid (HS.out.grew hg)
  replace HG := hid (HG.out.trans hg)
  clear hg
  go_wp2_with fail
  refine HS.out.under2.mono ?_
  rintro e wn ⟨rfl, hg⟩
  replace HS := hid (HS.out.grew hg)
  replace HG := hid (HG.out.trans hg)
  clear hg
  go_wp2_with fail
  go_ret
  exact ⟨rfl, HG.out⟩
end Go.Proofs.YtjladeiecokpfaaGreatDoor

/- Stage 12: giveItems. -/
import Derived.Test.YtidnaednldcdfaaGreatDoorGeE
namespace Go.Proofs.YtidnaednldcdfaaGreatDoor
open Go.RowKit

/-- What the operations of a round of 'giveItems' give. -/
def GiF (w0 : World) (A : Option Addr) (n c : Nat) (A' : Option Addr) (i k' : Nat) (ad : Addr) (x : IV) (j : Nat) (u : Value) (w : World) : Prop := match j with
  | 0 => u = .slice A' i k'
  | 1 => u = .slice A n c
  | 2 => u = .int .i64 ((i : Nat) : Int)
  | 3 => u = .pointer (some (ad.add (i * 6)))
  | 4 => u = .pointer (some (ad.add (i * 6)))
  | 5 => u = .int .i64 x.i
  | 6 => u = .slice A n c
  | 7 => u = .int .i64 ((i : Nat) : Int)
  | 8 => u = .pointer (some (ad.add (i * 6)))
  | 9 => u = .pointer (some ⟨ad.block, (ad.add (i * 6)).off + 1, none⟩)
  | 10 => u = .int .i64 x.h
  | 11 => u = .slice A n c
  | 12 => u = .int .i64 ((i : Nat) : Int)
  | 13 => u = .pointer (some (ad.add (i * 6)))
  | 14 => u = .pointer (some ⟨ad.block, (ad.add (i * 6)).off + 2, none⟩)
  | 15 => u = .agg #[.int .i64 x.o.cls, .int .i64 x.o.lev, .slice x.A x.o.f.length x.c, .string x.o.b]
  | 16 => ∃ A2 c2, u = .agg #[.int .i64 x.o.cls, .int .i64 x.o.lev, .slice A2 x.o.f.length c2, .string x.o.b] ∧ Row w w0.heap.size 41 3 A2 x.o.f.length c2 (x.o.f.flatMap valF)
  | 17 => ∃ A2 c2, u = .agg #[.int .i64 x.i, .int .i64 x.h, .int .i64 x.o.cls, .int .i64 x.o.lev, .slice A2 x.o.f.length c2, .string x.o.b] ∧ Row w w0.heap.size 41 3 A2 x.o.f.length c2 (x.o.f.flatMap valF)
  | 18 => ∃ A2 c2 H, u = .slice (some ⟨H, 0, none⟩) 1 1 ∧ Row w w0.heap.size 41 3 A2 x.o.f.length c2 (x.o.f.flatMap valF) ∧ Blk w H 89 #[.int .i64 x.i, .int .i64 x.h, .int .i64 x.o.cls, .int .i64 x.o.lev, .slice A2 x.o.f.length c2, .string x.o.b] ∧ w0.heap.size ≤ H
  | _ => True
theorem GiF.grew {w0 : World} {A : Option Addr} {n c : Nat} {A' : Option Addr} {i k' : Nat} {ad : Addr} {x : IV} (j : Nat) (u : Value) (w w' : World) (h : GiF w0 A n c A' i k' ad x j u w) (hg : Grew w w') : GiF w0 A n c A' i k' ad x j u w' := by
  unfold GiF at h ⊢
  split at h <;> first | exact h | skip
  · obtain ⟨A2, c2, h1, h2⟩ := h
    exact ⟨A2, c2, h1, h2.grew hg⟩
  · obtain ⟨A2, c2, h1, h2⟩ := h
    exact ⟨A2, c2, h1, h2.grew hg⟩
  · obtain ⟨A2, c2, H, h1, h2, h3, h4⟩ := h
    exact ⟨A2, c2, H, h1, h2.grew hg, h3.grew hg, h4⟩
/-- What giveItems answers. -/
def GiveI (w : World) (l : List IV) (e : Ending) (w' : World) : Prop := ∃ (vs : List IV) (A : Option Addr) (c : Nat), e = .returned (.slice A vs.length c) ∧ ivI vs = ivI l ∧ ItemsAt w' A vs ∧ Grew w w'
set_option maxRecDepth 100000 in
set_option maxHeartbeats 8000000 in
theorem giveItems_c (A : Option Addr) (c : Nat) (l : List IV) (w : World) (h : ItemsAt w A l) (hf : ∀ v ∈ l, v.o.f.length ≤ 1000) (hl : l.length ≤ 1000) :
    Calls Tryz.prog 30 #[.slice A l.length c] w (GiveI w l) := by
  obtain ⟨n, en⟩ : ∃ n, n = l.length := ⟨_, rfl⟩
  have HA := hid h
  have HF := hid hf
  rw [← en] at hl ⊢
  have EN := hid en
  clear h en hf
  go_enter Tryz.func30, Tryz.ntmps30
  go_wp2_with fail
  go_loopw [3, 4] (fun s3 s4 wr => ∃ (i : Nat) (A' : Option Addr) (k' : Nat) (vs : List IV), s4 = .int .i64 ((i : Nat) : Int) ∧ i ≤ n ∧ s3 = .slice A' i k' ∧ Hid (ItemsRow wr w.heap.size A' k' vs ∧ vs.length = i) ∧ Hid (ivI vs = (ivI l).take i) ∧ Hid (Grew w wr)) (fun _ s4 _ => n - (intOf s4).toNat)
  case atStart => exact ⟨0, none, 0, [], rfl, Nat.zero_le _, rfl, hid ⟨ItemsRow.nil _ _, rfl⟩, hid rfl, hid (Grew.refl _)⟩
  case round =>
    obtain ⟨i, A', k', vs, rfl, hi, rfl, HR, HV, HG⟩ := hrel
    by_cases hlt : i < n
    · have f1 : (i : Int) < n := by omega
      obtain ⟨ad, x, rfl, hv, hcl, hb1, hok, hxi, hxh⟩ := iv_at HA.out HG.out (i := i) (by rw [← EN.out]; exact hlt)
      have HNx := hid (show (ivI l).take (i + 1) = (ivI l).take i ++ [⟨x.i, x.h, x.o⟩] by rw [List.take_add_one, ivI_at hv]; rfl)
      have HGo := hid (fun W (hW : Grew wr W) => giveObj_c ⟨x.o, x.A, x.c⟩ W (hok.grew hW) (HF.out _ (List.mem_of_getElem? hv)))
      unfold GiveB at HGo
      have HCl := hid (fun j u hu => hcl j u hu)
      have HBd := hid hb1
      clear hv hok hxi hxh hcl hb1
      go_upto_region 5 with fail
      refine wp_region_facts4 (w0 := wr) wr 19 19 [11, 12, 13, 14, 15, 16, 17, 18, 19, 20, 21, 22, 23, 24, 25, 26, 27, 28, 29] [] (GiF wr (some ad) n c A' i k' ad x) (Kept (fun _ => False)) (fun _ => Kept (fun _ => False)) (fun _ _ => True) (May.kept _) (fun _ _ _ h => h) (fun _ w => Kept.refl _ w) (by kernel_rfl) (by kernel_rfl) (Kept.refl _ _).drew trivial (fun a _ v w w' _ _ _ _ h hr => GiF.grew a v w w' h (Kept.grew hr (Grew.refl _) (fun _ h => h.elim))) ?_ ?_
      · repeat' (first | exact trivial | apply And.intro)
        all_goals
          intro a w' fl hgk hJ hfi hdep hs hA
          have hgw : Grew wr w' := Kept.grew hgk (Grew.refl _) (fun _ h => h.elim)
          clear hgk hJ hfi hdep
          have e0 := hs.eval 0 (by decide) (v := .slice (some ad) n c) rfl
          have e3 := hs.eval 3 (by decide) (v := .slice A' i k') rfl
          have e4 := hs.eval 4 (by decide) (v := .int .i64 ((i : Nat) : Int)) rfl
          have HGW := hid hgw
          have hle := hgw.below.size
          have p0 := (hgw.below.cell (p := (ad.add (i * 6)).add 0) (by rw [block_add, block_add]; exact HBd.out)).trans (HCl.out 0 _ rfl)
          have p1 := (hgw.below.cell (p := (ad.add (i * 6)).add 1) (by rw [block_add, block_add]; exact HBd.out)).trans (HCl.out 1 _ rfl)
          have p2 := (hgw.below.cell (p := (ad.add (i * 6)).add 2) (by rw [block_add, block_add]; exact HBd.out)).trans (HCl.out 2 _ rfl)
          have p3 := (hgw.below.cell (p := (ad.add (i * 6)).add 3) (by rw [block_add, block_add]; exact HBd.out)).trans (HCl.out 3 _ rfl)
          have p4 := (hgw.below.cell (p := (ad.add (i * 6)).add 4) (by rw [block_add, block_add]; exact HBd.out)).trans (HCl.out 4 _ rfl)
          have p5 := (hgw.below.cell (p := (ad.add (i * 6)).add 5) (by rw [block_add, block_add]; exact HBd.out)).trans (HCl.out 5 _ rfl)
          rw [add_zero] at p0
          rw [add_pos (by decide), block_add] at p1 p2 p3 p4 p5
          have pl : ad.block < w'.heap.size := Nat.lt_of_lt_of_le HBd.out hle
          clear hs hgw
          simp only [Ahead, Region.binds, slotOf, GiF, List.getD_cons_succ, List.getD_cons_zero, forall_const, and_true] at hA
          simp only [wantedD, if_true]
          unfold Oper.wp
          have ec : ∀ v, a.eval (.const v) = v := fun _ => rfl
          generalize hfe : a.eval = fe at *
          have ef : ∀ k, fe (.func k) = Act.eval ⟨#[], []⟩ (.func k) := fun k => by rw [← hfe]; rfl
          clear hfe
        · go_simp
          exact Gives3.of rfl (Kept.refl _ _) rfl trivial
        · go_simp
          exact Gives3.of rfl (Kept.refl _ _) rfl trivial
        · go_simp
          exact Gives3.of rfl (Kept.refl _ _) rfl trivial
        · go_simp
          exact Gives3.of rfl (Kept.refl _ _) rfl trivial
        · go_simp
          exact Gives3.of rfl (Kept.refl _ _) rfl trivial
        · go_simp
          exact Gives3.of rfl (Kept.refl _ _) rfl trivial
        · go_simp
          exact Gives3.of rfl (Kept.refl _ _) rfl trivial
        · go_simp
          exact Gives3.of rfl (Kept.refl _ _) rfl trivial
        · go_simp
          exact Gives3.of rfl (Kept.refl _ _) rfl trivial
        · go_simp
          exact Gives3.of rfl (Kept.refl _ _) rfl trivial
        · go_simp
          exact Gives3.of rfl (Kept.refl _ _) rfl trivial
        · go_simp
          exact Gives3.of rfl (Kept.refl _ _) rfl trivial
        · go_simp
          exact Gives3.of rfl (Kept.refl _ _) rfl trivial
        · go_simp
          exact Gives3.of rfl (Kept.refl _ _) rfl trivial
        · go_simp
          exact Gives3.of rfl (Kept.refl _ _) rfl trivial
        · go_simp
          exact Gives3.of rfl (Kept.refl _ _) rfl trivial
        · go_simp
          refine (HGo.out w' HGW.out).mono ?_
          rintro e w6 ⟨A2, c2, rfl, hr, hg6⟩
          exact Gives3.of rfl (Kept.of_grew hg6) ⟨A2, c2, rfl, hr.low hle⟩ trivial
        · obtain ⟨h1, h2, A2, c2, h3, h4⟩ := hA
          have HRw := hid h4
          clear h4
          go_simp
          exact Gives3.of rfl (Kept.refl _ _) ⟨A2, c2, rfl, HRw.out⟩ trivial
        · obtain ⟨A2, c2, h1, h4⟩ := hA
          have HRw := hid h4
          have hnew := Blk.new w' 89 #[.int .i64 x.i, .int .i64 x.h, .int .i64 x.o.cls, .int .i64 x.o.lev, .slice A2 x.o.f.length c2, .string x.o.b]
          have hgn : Grew w' (w'.alloc (.cells #[.int .i64 x.i, .int .i64 x.h, .int .i64 x.o.cls, .int .i64 x.o.lev, .slice A2 x.o.f.length c2, .string x.o.b] 89)) := (Grew.refl w').alloc _
          have HN := hid hnew
          have HGn := hid hgn
          clear hnew hgn h4
          go_simp
          exact Gives3.of rfl (Kept.of_grew HGn.out) ⟨A2, c2, w'.heap.size, rfl, HRw.out.grew HGn.out, HN.out, hle⟩ trivial
      · intro a w3 hgk hs hf _ _
        have hgw : Grew wr w3 := Kept.grew hgk (Grew.refl _) (fun _ h => h.elim)
        have h0 := hf 0 (by decide)
        have h18 := hf 18 (by decide)
        simp only [slotOf, GiF, List.getD_cons_succ, List.getD_cons_zero] at h0 h18
        obtain ⟨A2, c2, H, ev, hrow, hbn, hHn⟩ := h18
        obtain ⟨fn, rfl, hft⟩ := hs.put
        rw [hft] at ev h0
        have HBn := hid hbn
        have HR3 := hid (HR.out.1.grew hgw)
        have HG3 := hid (HG.out.trans hgw)
        have HY := hid (hrow.low HG.out.below.size)
        have HLn := hid HR.out.2
        clear hf hft hs hgw hgk hrow hbn hHn
        simp only [List.drop_succ_cons, List.drop_zero, putAll, List.foldl_cons, List.foldl_nil, Act.put, List.setIfInBounds_toArray, List.set_cons_succ, List.set_cons_zero, ev, h0]
        clear ev h0
        go_wp2_with (at_builtin; refine wpList_catR (.agg #[.int .i64 0, .int .i64 0, .int .i64 0, .int .i64 0, .slice none 0 0, .string ⟨#[]⟩]) 6 72 w3 rfl _ _ 80 89 rfl Tryz.underlying80 hitem_info rfl (by decide) w.heap.size HG3.out.below.size A' i k' _ rfl (by have h1 := HR3.out.row; rw [HLn.out] at h1; exact h1) (some ⟨H, 0, none⟩) 1 1 (ivF ⟨x.i, x.h, x.o, A2, c2⟩) rfl rfl (by intro u hu; simp only [ivF, List.mem_cons, List.not_mem_nil, or_false] at hu; rcases hu with rfl | rfl | rfl | rfl | rfl | rfl <;> rfl) (by intro e; cases e) (blk_row HBn.out) (by omega) (by omega) ?_; rintro A8 k8 w8 hR8 hK8 hT8; have HR8 := hid (HR3.out.app (y := ⟨x.i, x.h, x.o, A2, c2⟩) (by rw [HLn.out]; exact hR8) hK8 HY.out); have HG8 := hid (hK8.grew HG3.out (Row.at_base HR3.out.row)); clear hR8 hK8 hT8)
        go_round
        case rel => exact ⟨i + 1, A8, k8, vs ++ [⟨x.i, x.h, x.o, A2, c2⟩], by go_num, by omega, rfl, hid ⟨HR8.out, by rw [List.length_append, HLn.out]; rfl⟩, hid (by rw [ivI_app, HV.out, HNx.out]; rfl), HG8⟩
        case measure => simp [intOf]; omega
    · have hin : i = n := by omega
      subst hin
      have HE := hid (show ivI vs = ivI l by rw [HV.out, List.take_of_length_le (by rw [ivI_len, ← EN.out]; exact Nat.le_refl _)])
      have hrd : ItemsAt wr A' vs := HR.out.1.read (fun x hx => by
        have h1 : (⟨x.i, x.h, x.o⟩ : Hp.It) ∈ ivI l := by rw [← HE.out]; exact List.mem_map.2 ⟨x, hx, rfl⟩
        obtain ⟨y, hy, e⟩ := List.mem_map.1 h1
        obtain ⟨k1, k2, k3⟩ := HA.out.ok y hy
        simp only [Hp.It.mk.injEq] at e
        obtain ⟨e1, e2, e3⟩ := e
        rw [← e1, ← e2, ← e3]
        exact ⟨k1.f.1, k1.cls, k1.lev, k2, k3⟩)
      have HRd := hid hrd
      clear hrd
      go_wp2_with fail
      go_ret
      exact ⟨vs, A', k', by rw [HR.out.2]; rfl, HE.out, HRd.out, HG.out⟩
end Go.Proofs.YtidnaednldcdfaaGreatDoor

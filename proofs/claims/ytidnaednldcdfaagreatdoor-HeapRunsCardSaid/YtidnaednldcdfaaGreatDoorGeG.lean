/- Stage 12: isHeap. -/
import Derived.Test.YtidnaednldcdfaaGreatDoorGeF
namespace Go.Proofs.YtidnaednldcdfaaGreatDoor
open Go.RowKit

set_option maxRecDepth 100000 in
set_option maxHeartbeats 16000000 in
theorem isHeap_c (v : HV) (B C : Nat) (r : RV) (w : World) (h : MemAt w B v) (hv : HvOk v C) (hr : RvAt w r) (hi : ivI r.its = its v.sl) (hc : r.cn = cntL v.up.length v.cn) :
    Calls Tryz.prog 28 #[.pointer (some ⟨v.g, 0, none⟩), .agg (rvC r)] w fun e w' => e = .returned (.bool true) ∧ Grew w w' := by
  have hu8 := hv.lens.2
  have HAl := hid (fun W (hW : Grew w W) => hAll_c v B C W (h.grew hW) hv)
  have HLn := hid (fun W (hW : Grew w W) => hLen_c v B W (h.grew hW))
  have HN := hid (show v.n = ((ivI r.its).length : Nat) by rw [hi]; exact hv.n)
  have HOk := hid (fun x (hx : x ∈ ivI r.its) => show Ob.mayB v.up.length x.o = true ∧ N64 x.i ∧ N64 x.h from (by
    rw [hi] at hx
    have h1 := its_nonneg x hx
    have h2 := hv.len
    exact ⟨hv.ok x hx, ⟨by omega, by omega⟩, hv.hs x hx⟩))
  have HIn := hid (fun A1 c1 A2 c2 W h1 h2 => ints_c A1 c1 A2 c2 (cntL v.up.length v.cn) W h1 h2 (by rw [cntL_len]; omega))
  have HIt := hid (fun W (hW : Grew w W) => hr.its.grew hW)
  have HCn := hid (fun W (hW : Grew w W) => hr.cn.grew hW)
  rw [hc] at HCn
  have HLe := hid (show r.its.length ≤ 65536 by have h1 := its_len v.sl; have h2 := hv.len; rw [← hi, ivI_len] at h1; omega)
  unfold AllV at HAl
  rw [← hi] at HAl
  have hkn : r.cn.length = v.up.length := by rw [hc, cntL_len]
  unfold rvC
  rw [hkn]
  rw [cntL_len] at HIn
  have hcl : (cntL v.up.length v.cn).length = v.up.length := cntL_len _ _
  generalize cntL v.up.length v.cn = cs at *
  generalize v.g = sg at *
  obtain ⟨un, eun⟩ : ∃ un, un = v.up.length := ⟨_, rfl⟩
  rw [← eun] at HAl HOk HIn hcl ⊢
  have HU8 := hid (show un ≤ 20 by omega)
  clear h hv hr hi hc hkn hu8 eun
  generalize v.n = vn at *
  obtain ⟨U, cu, up, room, Q, cq, q, I, ci, its, Cc, cc, cn⟩ := r
  simp only at HAl HN HOk HIt HCn HLe ⊢
  generalize up.length = upn
  generalize q.length = qn
  obtain ⟨n, en⟩ : ∃ n, n = its.length := ⟨_, rfl⟩
  rw [← en] at HLe ⊢
  have EN := hid en
  have hn6 : n ≤ 65536 := HLe.out
  have HN2 := hid (show vn = ((n : Nat) : Int) by rw [HN.out, ivI_len, ← EN.out])
  rw [HN2.out] at HLn
  clear en HN HN2 HLe
  have B1 := Blk.new w 53 #[.slice U upn cu, .int .i64 room, .slice Q qn cq, .slice I n ci, .slice Cc un cc]
  have G1 := (Grew.refl w).alloc (.cells #[.slice U upn cu, .int .i64 room, .slice Q qn cq, .slice I n ci, .slice Cc un cc] 53)
  go_enter Tryz.func28, Tryz.ntmps28
  go_upto_region 1 with fail
  generalize w.alloc (.cells #[.slice U upn cu, .int .i64 room, .slice Q qn cq, .slice I n ci, .slice Cc un cc] 53) = w1 at *
  generalize w.heap.size = gx at *
  have HB := hid B1
  have HG := hid G1
  clear B1 G1
  have hcall := HAl.out w1 HG.out
  clear HAl
  go_upto_region 2 with (go_at_call 60; refine hcall.mono ?_; rintro e w2 ⟨A1, c1, l1, A2, c2, rfl, hI, hE, hC, hg2⟩; have hlen : l1.length = n := by { have h1 := congrArg List.length hE; rw [ivI_len, ivI_len, ← EN.out] at h1; exact h1 })
  have HE := hid hE
  have HL1 := hid (show ItemsAt w2 A1 l1 from hI.at (n := un) HU8.out (fun x hx => HOk.out ⟨x.i, x.h, x.o⟩ (by rw [← HE.out]; exact List.mem_map.2 ⟨x, hx, rfl⟩)))
  have HC1 := hid (show IntsAt w2 A2 cs from ints_row (by rw [hcl]; exact hC))
  have HG2 := hid (HG.out.trans hg2)
  have HB2 := hid (HB.out.grew hg2)
  have HL1n := hid hlen
  have p0 := HB2.out.cell 0
  have p3 := HB2.out.cell 3
  have p4 := HB2.out.cell 4
  have pl := HB2.out.lt
  simp only [List.getElem?_toArray, List.getElem?_cons_zero, List.getElem?_cons_succ] at p0 p3 p4
  clear hI hE hC hg2 hlen hcall HB hcl
  go_upto_region 4 with first | (go_at_call 10; refine (HLn.out w2 HG2.out).mono ?_; rintro e w3 ⟨rfl, hg3⟩; have HB3 := hid (HB2.out.grew hg3); clear p0 p3 p4 pl; have p4 := HB3.out.cell 4; have pl := HB3.out.lt) | (go_at_call 61; refine (HIn.out A2 c2 Cc cc w3 (HC1.out.grew hg3) (HCn.out w3 (HG2.out.trans hg3))).mono ?_; rintro e w4 ⟨rfl, hg4⟩; have HB4 := hid (HB3.out.grew hg4); have HG4 := hid (hg3.trans hg4); clear p4 pl hg3 hg4)
  clear HB2 HB3 HLn HIn HC1 HCn
  go_upto_region 5 with fail
  go_loopw [7] (fun s7 wr => ∃ i : Nat, s7 = .int .i64 ((i : Nat) : Int) ∧ i ≤ n ∧ Hid (Grew w4 wr)) (fun s7 _ => n - (intOf s7).toNat)
  case atStart => exact ⟨0, rfl, Nat.zero_le _, hid (Grew.refl _)⟩
  case round =>
    obtain ⟨i, rfl, hi, HW⟩ := hrel
    by_cases hlt : i < n
    · have f1 : (i : Int) < (n : Int) := by omega
      have HBr := hid (HB4.out.grew HW.out)
      obtain ⟨ad, x, rfl, hx, hcx, hbx, hokx, -, -⟩ := iv_at HL1.out (HG4.out.trans HW.out) (i := i) (by rw [HL1n.out]; exact hlt)
      obtain ⟨ad2, y, rfl, hy, hcy, hby, hoky, -, -⟩ := iv_at (HIt.out w (Grew.refl _)) ((HG2.out.trans HG4.out).trans HW.out) (i := i) (by rw [← EN.out]; exact hlt)
      have hxy : (⟨x.i, x.h, x.o⟩ : Hp.It) = ⟨y.i, y.h, y.o⟩ := by
        have h1 := ivI_at hx
        have h2 := ivI_at hy
        rw [HE.out, h2] at h1
        exact (Option.some.inj h1).symm
      have HOb := hid (fun W (hW : Grew wr W) => isObj_c x.o x.A x.c y.A y.c W (hokx.f.grew hW) (by have h1 := hoky.f.grew hW; rw [← (Hp.It.mk.inj hxy).2.2] at h1; exact h1) (by have h1 := hp_head (HOk.out ⟨x.i, x.h, x.o⟩ (by rw [← HE.out]; exact List.mem_map.2 ⟨x, List.mem_of_getElem? hx, rfl⟩)).1; simp only at h1; omega))
      have u0 := hcx 0 _ rfl
      have u1 := hcx 1 _ rfl
      have u2 := hcx 2 _ rfl
      have u3 := hcx 3 _ rfl
      have u4 := hcx 4 _ rfl
      have u5 := hcx 5 _ rfl
      have v0 := hcy 0 _ rfl
      have v1 := hcy 1 _ rfl
      have v2 := hcy 2 _ rfl
      have v3 := hcy 3 _ rfl
      have v4 := hcy 4 _ rfl
      have v5 := hcy 5 _ rfl
      rw [add_zero] at u0 v0
      rw [add_pos (by decide), block_add] at u1 u2 u3 u4 u5 v1 v2 v3 v4 v5
      obtain ⟨xi, xh, o, xA, xc⟩ := x
      obtain ⟨yi, yh, o', yA, yc⟩ := y
      simp only [Hp.It.mk.injEq] at hxy
      obtain ⟨e1, e2, e3⟩ := hxy
      subst e1 e2 e3
      simp only at u0 u1 u2 u3 u4 u5 v0 v1 v2 v3 v4 v5 HOb
      clear hx hy hcx hcy hokx hoky
      obtain ⟨cls, lev, f, bt⟩ := o
      simp only at u2 u3 u4 u5 v2 v3 v4 v5 HOb
      generalize f.length = fm at *
      have P3 := fun (z : After wr) => (HBr.out.grew z.grew).cell 3
      have PL := fun (z : After wr) => (HBr.out.grew z.grew).lt
      simp only [List.getElem?_toArray, List.getElem?_cons_zero, List.getElem?_cons_succ] at P3
      have U0 := fun (z : After wr) => (z.cell (ad.add (i * 6)) (by rw [block_add]; exact hbx)).trans u0
      have U1 := fun (z : After wr) => (z.cell ⟨ad.block, (ad.add (i * 6)).off + 1, none⟩ hbx).trans u1
      have U2 := fun (z : After wr) => (z.cell ⟨ad.block, (ad.add (i * 6)).off + 2, none⟩ hbx).trans u2
      have U3 := fun (z : After wr) => (z.cell ⟨ad.block, (ad.add (i * 6)).off + 3, none⟩ hbx).trans u3
      have U4 := fun (z : After wr) => (z.cell ⟨ad.block, (ad.add (i * 6)).off + 4, none⟩ hbx).trans u4
      have U5 := fun (z : After wr) => (z.cell ⟨ad.block, (ad.add (i * 6)).off + 5, none⟩ hbx).trans u5
      have UL := fun (z : After wr) => z.lt _ hbx
      have V0 := fun (z : After wr) => (z.cell (ad2.add (i * 6)) (by rw [block_add]; exact hby)).trans v0
      have V1 := fun (z : After wr) => (z.cell ⟨ad2.block, (ad2.add (i * 6)).off + 1, none⟩ hby).trans v1
      have V2 := fun (z : After wr) => (z.cell ⟨ad2.block, (ad2.add (i * 6)).off + 2, none⟩ hby).trans v2
      have V3 := fun (z : After wr) => (z.cell ⟨ad2.block, (ad2.add (i * 6)).off + 3, none⟩ hby).trans v3
      have V4 := fun (z : After wr) => (z.cell ⟨ad2.block, (ad2.add (i * 6)).off + 4, none⟩ hby).trans v4
      have V5 := fun (z : After wr) => (z.cell ⟨ad2.block, (ad2.add (i * 6)).off + 5, none⟩ hby).trans v5
      have VL := fun (z : After wr) => z.lt _ hby
      go_upto_region 7 with fail
      clear u0 u1 u2 u3 u4 u5 v0 v1 v2 v3 v4 v5
      refine wp_region_grew_from (w0 := wr) (Grew.refl wr) (by kernel_rfl) (by kernel_rfl) ?_
      repeat (go_big_quiet_step ((go_at_call 26; exact Calls.grew (After.grew _) (HOb.out _ (After.grew _)))))
      refine wpQuiet_nil ?_
      rintro _ ⟨z, rfl⟩
      clear P3 PL U0 U1 U2 U3 U4 U5 UL V0 V1 V2 V3 V4 V5 VL
      go_wp2_with fail
      go_round
      case rel => exact ⟨i + 1, by go_num, by omega, hid (HW.out.trans z.grew)⟩
      case measure => simp [intOf]; omega
    · have hin : i = n := by omega
      subst hin
      go_wp2_with fail
      go_ret
      exact ⟨rfl, (HG2.out.trans HG4.out).trans HW.out⟩
end Go.Proofs.YtidnaednldcdfaaGreatDoor

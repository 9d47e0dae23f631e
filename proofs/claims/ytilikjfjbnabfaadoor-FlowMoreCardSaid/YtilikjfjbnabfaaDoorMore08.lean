/- Law FlowMore walked. -/
import Derived.Test.YtilikjfjbnabfaaDoorFlE
namespace Go.Proofs.YtilikjfjbnabfaaDoor
open Go.RowKit

theorem well_two {bs : List Nat} {l : List Op7.Ins} {os : List Nat} {G : List (List Nat)} {D : List Int} (hb : ∀ x ∈ bs, x < 256) (h : Fl.Well bs l os G D) (h5 : bs.length ≤ 510) :
    Fl.Well (bs ++ [1, 17]) (l ++ Fl.two) (os ++ [bs.length, bs.length + 1]) (G ++ [[l.length + 1], []]) (D ++ [-1, -1]) := by
  obtain ⟨rfl, hv, hbe, _⟩ := decR_ok hb h.dec
  have hol := h.os_len
  have he : Op7.encs (l ++ Fl.two) = bs ++ [1, 17] := by rw [Op7.encs_append, ← hbe]; rfl
  have hv2 : ∀ o ∈ l ++ Fl.two, Op7.valid o := fun o ho => by
    rcases List.mem_append.1 ho with ho | ho
    · exact hv o ho
    · simp only [Fl.two, List.mem_cons, List.not_mem_nil, or_false] at ho
      rcases ho with rfl | rfl
      · exact ⟨by decide, ⟨by decide, by decide⟩, by decide, by decide⟩
      · exact ⟨by decide, ⟨by decide, by decide⟩, by decide, by decide⟩
  have ho : Op7.offs (l ++ Fl.two) = Op7.offs l ++ [bs.length, bs.length + 1] := by
    have e : l ++ Fl.two = (l ++ [⟨1, 0, 0⟩]) ++ [⟨17, 0, 0⟩] := by simp [Fl.two]
    rw [e, Op7.offs_snoc, Op7.offs_snoc, Op7.encs_snoc, List.length_append, ← hbe]
    simp
    rfl
  refine ⟨?_, Fl.graph_two hol (fun y hy => ?_) h.graph, Fl.depths_two h.parts.1 h.parts.2 (Fl.graph_lt hol h.graph) h.depths⟩
  · rw [← he]
    unfold Op7.decR
    rw [if_neg (by rw [he]; simp; omega), Op7.dec_encs hv2]
    simp only [ho]
  · have := Fl.offsF_lt 0 l y hy
    rw [hbe]
    omega
/-- 'append(out, xs...)' of bytes. -/
theorem wpList_cat8 {ops : Array Oper} {rest : List Oper} {o : Oper} {a : Act} {Q : Exit → Act → World → Prop} (w : World) (hgd : o.guard = none) (s x : Operand)
    (ho : o.op = .call { callee := .builtin .append, args := #[s, x], argTypes := #[22, 22] })
    (B : Nat) (hB : B ≤ w.heap.size) (A : Option Addr) (n c : Nat) (ys : List Nat) (hn : n = ys.length) (hs : a.eval s = .slice A n c) (hown : Row8 w B A c ys) (A2 : Option Addr) (m c2 : Nat) (xs : List Nat) (hm : m = xs.length) (hxv : a.eval x = .slice A2 m c2)
    (hx : NumsAt .u8 w w.heap.size A2 xs) (hlen : n + m ≤ 1000000)
    (h : ∀ A' c' w', Row8 w' B A' c' (ys ++ xs) → Kept (AtRow A) w w' → RowTo w A A' → wpList Tryd.prog ops Q rest (a.put o.dst (.slice A' (n + m) c')) w') : wpList Tryd.prog ops Q (o :: rest) a w := by
  subst hn hm
  refine wpList_catR (.int .u8 0) 1 1 w hgd s x 22 5 ho Tryd.underlying22 op_u8 rfl (by decide) B hB A ys.length c (numCells .u8 ys) hs hown A2 xs.length c2 (numCells .u8 xs) hxv (by rw [numCells_length, Nat.mul_one]) (fun u hu => ?_) (fun e => ?_) (fun ad e j u hu => ?_) (by omega) (by omega) fun A' c' w' r1 r2 r3 => h A' c' w' ?_ r2 r3
  · obtain ⟨x, _, rfl⟩ := List.mem_map.1 hu
    rfl
  · rcases Nat.eq_zero_or_pos xs.length with h0 | h0
    · exact h0
    · obtain ⟨ad, h1, _⟩ := hx h0
      rw [e] at h1
      cases h1
  · have hj : j < xs.length := by
      have := (List.getElem?_eq_some_iff.1 hu).1
      rwa [numCells_length] at this
    obtain ⟨ad', h1, _, hc⟩ := hx (by omega)
    rw [e] at h1
    cases h1
    rw [numCells_get _ _ _ hj] at hu
    cases hu
    exact hc j hj
  · unfold Row8
    rw [List.length_append, numCells_append]
    exact r1
theorem two_lit (w : World) : NumsAt .u8 (w.alloc (.cells #[.int .u8 1, .int .u8 17] 5)) (w.alloc (.cells #[.int .u8 1, .int .u8 17] 5)).heap.size (some ⟨w.heap.size, 0, none⟩) [1, 17] := by
  intro _
  refine ⟨_, rfl, by simp, fun j hj => ?_⟩
  rw [show (⟨w.heap.size, 0, none⟩ : Addr).add j = ⟨w.heap.size, j, none⟩ by unfold Addr.add; split <;> simp_all, (Blk.new w 5 #[.int .u8 1, .int .u8 17]).cell j]
  rcases (by simp at hj; omega : j = 0 ∨ j = 1) with rfl | rfl <;> rfl
set_option maxRecDepth 100000 in
set_option maxHeartbeats 4000000 in
theorem more_walk (A : Option Addr) (c : Nat) (bs : List Nat) (w : World) (h : Arg w A c bs) (hh : HandleAt w) :
    Calls Tryd.prog 4 #[.slice A bs.length c] w fun e w' => e = .returned (.bool true) ∧ Grew w w' := by
  have HZ := hid (fun w' (hg : Grew w w') => sure_c w' (hh.grew hg) (h.tab.grew hg))
  clear hh
  obtain ⟨n0, en⟩ : ∃ n0, n0 = bs.length := ⟨_, rfl⟩
  by_cases h6 : 510 < n0
  · have f6 : (510 : Int) < n0 := by omega
    rw [← en]
    clear h en
    go_enter Tryd.func4, Tryd.ntmps4
    go_wp2_with fail
    refine (HZ.out _ (Grew.refl _)).mono ?_
    rintro e w1 ⟨rfl, hg⟩
    go_wp2_with fail
    go_ret
    exact ⟨rfl, hg⟩
  have f6 : ¬ (510 : Int) < n0 := by omega
  rcases well_or_bad bs with ⟨l, os, G, D, hW⟩ | ⟨k, hb⟩
  · have HA := hid (fun w' (hg : Grew w w') => h.grew hg)
    have HF := hid (hW.few h.at_.1)
    have HC := hid (check_ok h hW)
    have HD := hid (fun w' (hg : Grew w w') => depths_ok (h.grew hg) hW)
    have HW2 := hid (well_two h.at_.1 hW (by omega))
    have HBy := hid (show ∀ x ∈ bs ++ [1, 17], x < 256 from fun x hx => by
      rcases List.mem_append.1 hx with hx | hx
      · exact h.at_.1 x hx
      · simp at hx; omega)
    have HL := hid (show (bs ++ [1, 17]).length = n0 + 2 by rw [en]; simp)
    have HEn := hid en
    rw [← en] at HC HD ⊢
    clear h hW en h6
    go_enter Tryd.func4, Tryd.ntmps4
    go_wp2_with fail
    refine HC.out.mono ?_
    rintro e w1 ⟨rfl, hg1⟩
    have G1 := hid hg1
    have HO1 := hid (show Row8 (w1.alloc (.cells #[] 5)) w1.heap.size (some ⟨w1.heap.size, 0, none⟩) 0 [] from World.ownsRow_made w1 #[] 0 (Nat.le_refl _) (by decide) (by simp))
    have HN1 := hid (NumsAt.of_bytes (((HA.out w1 hg1).grew ((Grew.refl w1).alloc (.cells #[] 5))).at_))
    clear hg1 HC
    go_wp2_with (first | (at_builtin; refine wpList_cat8 (w1.alloc (.cells #[] 5)) rfl _ _ rfl w1.heap.size (by simp) (some ⟨w1.heap.size, 0, none⟩) 0 0 [] rfl rfl HO1.out A n0 c bs HEn.out rfl HN1.out (by omega) ?_; intro A2 c2 w2 hO2 hK2 hT2; have HO2 := hid hO2; have G2 := hid (show Grew w1 w2 from hK2.grew ((Grew.refl w1).alloc _) (Row8.at_base HO1.out)); clear hO2 hK2 hT2; rw [Nat.zero_add]) | (at_builtin; refine wpList_cat8 (w2.alloc (.cells #[.int .u8 1, .int .u8 17] 5)) rfl _ _ rfl w1.heap.size (by have := G2.out.below.size; simp only [World.size_alloc]; omega) A2 n0 c2 bs HEn.out rfl (Row8.grew HO2.out ((Grew.refl w2).alloc _)) _ 2 2 [1, 17] rfl rfl (two_lit w2) (by omega) ?_; intro A3 c3 w3 hO3 hK3 hT3; have HO3 := hid hO3; have G3 := hid (show Grew w1 w3 from hK3.grew (G2.out.alloc _) (Row8.at_base HO2.out)); clear hO3 hK3 hT3))
    have HAc := hid (show ∀ w', Grew w3 w' → Arg w' A3 c3 (bs ++ [1, 17]) from fun w' hg => ⟨NumsAt.to_bytes (Row8.nums (Row8.grew HO3.out hg)) HBy.out, (HA.out w' ((G1.out.trans G3.out).trans hg)).tab, (Row.cases HO3.out).2.1, (Row.cases HO3.out).2.2.1⟩)
    have HDc := hid (fun w' (hg : Grew w3 w') => depths_ok (HAc.out w' hg) HW2.out)
    have HCc := hid (fun w' (hg : Grew w3 w') => check_ok (HAc.out w' hg) HW2.out)
    rw [HL.out] at HDc HCc
    have GW3 := hid (G1.out.trans G3.out)
    clear HO1 HN1 HO2 HO3 G2 G3 G1 HAc HA HL HEn HBy
    refine (HD.out _ GW3.out).mono ?_
    clear HD
    rintro e w4 ⟨g4, n, rfl, hn, hR4, hg4⟩
    have HN := hid hn
    have HR4 := hid hR4
    have H4 := hid hg4
    clear hn hR4 hg4
    go_wp2_with fail
    refine (HDc.out _ H4.out).mono ?_
    clear HDc
    rintro e w5 ⟨g5, n5, rfl, hn5, hR5, hg5⟩
    rw [List.length_append, ← HN.out, show Fl.two.length = 2 from rfl] at hn5
    subst hn5
    have HR5 := hid hR5
    have HR45 := hid (RowD.grew' HR4.out hg5)
    have H5 := hid (H4.out.trans hg5)
    clear hR5 hg5 HR4 H4
    go_wp2_with fail
    refine (HCc.out _ H5.out).mono ?_
    clear HCc
    rintro e w6 ⟨rfl, hg6⟩
    have HM := hid (RowD.grew' HR5.out hg6)
    have HLl := hid (RowD.grew' HR45.out hg6)
    have H6 := hid (GW3.out.trans (H5.out.trans hg6))
    have hDl := HLl.out.len
    have hn5 : n ≤ 1000 := by
      have := HF.out
      have := HN.out
      omega
    have q5 := (HM.out.at n (by omega)).1
    have q6 := (HM.out.at (n + 1) (by omega)).1
    have e5 : (D ++ [-1, -1]).getD n 0 = -1 := by
      rw [List.getD_eq_getElem?_getD, List.getElem?_append_right (by omega), hDl, Nat.sub_self]; rfl
    have e6 : (D ++ [-1, -1]).getD (n + 1) 0 = -1 := by
      rw [List.getD_eq_getElem?_getD, List.getElem?_append_right (by omega), hDl, Nat.add_sub_cancel_left]; rfl
    rw [e5] at q5
    rw [e6] at q6
    clear e5 e6 hDl HR5 HR45 H5 hg6
    have t1 : ((n : Int) + 1).toNat = n + 1 := by omega
    have t2 : (0 : Int) ≤ (n : Int) + 1 := by omega
    go_wp2_with fail
    clear q5 q6 t1 t2
    go_loopw [8] (fun s8 wr => ∃ i : Nat, s8 = .int .i64 ((i : Nat) : Int) ∧ i ≤ n ∧ (∃ y : After w6, wr = y.w)) (fun s8 _ => n - (intOf s8).toNat)
    case atStart => exact ⟨0, rfl, Nat.zero_le _, Grew.refl _⟩
    case round =>
      obtain ⟨i, rfl, hi, y, rfl⟩ := hrel
      by_cases hlt : i < n
      · have f1 : (i : Int) < n := by omega
        have f2 : (i : Int) < n + 2 := by omega
        have q1 := (HLl.out.at i hlt).1
        have q2 := (HM.out.at i (by omega)).1
        rw [Fl.getD_append_lo (by rw [HLl.out.len]; exact hlt)] at q2
        have b1 := HLl.out.lt'.2
        have b2 := HM.out.lt'.2
        generalize D.getD i 0 = x at *
        go_wp2_with fail
        refine wp_region_grew_from y.grew (by kernel_rfl) (by kernel_rfl) ?_
        repeat (go_big_quiet_step (fail))
        refine wpQuiet_nil ?_
        rintro _ ⟨z2, rfl⟩
        go_wp2_with fail
        go_round
        case rel => exact ⟨i + 1, by go_num, by omega, z2.grew⟩
        case measure => simp [intOf]; omega
      · obtain rfl : i = n := by omega
        go_wp2_with fail
        refine (HZ.out _ (H6.out.trans y.grew)).mono ?_
        rintro e w7 ⟨rfl, hg7⟩
        go_wp2_with fail
        go_ret
        exact ⟨rfl, (H6.out.trans y.grew).trans hg7⟩
  · have HC := hid (check_bad h hb)
    rw [← en] at HC ⊢
    clear h en hb h6
    go_enter Tryd.func4, Tryd.ntmps4
    go_wp2_with fail
    refine HC.out.mono ?_
    rintro e w1 ⟨rfl, hg1⟩
    go_wp2_with fail
    refine (HZ.out _ hg1).mono ?_
    rintro e w2 ⟨rfl, hg⟩
    go_wp2_with fail
    go_ret
    exact ⟨rfl, hg1.trans hg⟩
end Go.Proofs.YtilikjfjbnabfaaDoor

/- LargeTells: sum, difference, product, quotient, order and whole number of any two, as the document has them. Conditions: none of ours. -/
import Derived.Test.YtmcfciifjgdgoaaGreatDoorMg51
import Derived.Test.YtmcfciifjgdgoaaGreatDoorRf5
import Derived.Test.YtmcfciifjgdgoaaGreatDoorRf6
import Derived.Test.YtmcfciifjgdgoaaGreatDoorRf7
import Derived.Test.YtmcfciifjgdgoaaGreatDoorRf8
import Derived.Test.YtmcfciifjgdgoaaGreatDoorMg43
import Derived.Test.YtmcfciifjgdgoaaGreatDoorMg44
import Derived.Test.YtmcfciifjgdgoaaGreatDoorMg45
namespace Go.Proofs.YtmcfciifjgdgoaaGreatDoor
open Go.RowKit

theorem isSame_c {na nb : Bool} {A B : Option Addr} {c d : Nat} {xs ys : List Nat} {W : World} (ha : NumsAt .u32 W W.heap.size A xs) (hb : NumsAt .u32 W W.heap.size B ys) (h1 : na = nb) (h2 : xs = ys) (hm : ys.length ≤ 100) :
    Calls Tryz.prog 12 #[.agg #[.bool na, .slice A xs.length c], .agg #[.bool nb, .slice B ys.length d]] W fun e w' => e = .returned (.bool true) ∧ Grew W w' := by
  have h := isNum_c na A c xs nb B d ys W ha hb (by omega)
  rw [decide_eq_true ⟨h1, h2⟩] at h
  exact h
theorem OutA.len {ok : Bool} {z : Int} {ng : Bool} {L : List Nat} {k : Nat} (h : OutA ok z ng L k) : L.length ≤ 64 := by
  cases ok
  · obtain ⟨_, _, rfl⟩ := h.no rfl
    simp
  · by_cases hz : Lg.small z
    · exact ((h.yes rfl).yes hz).2.len.2 hz
    · obtain ⟨_, _, rfl⟩ := (h.yes rfl).no hz
      simp
theorem fdiv_le (a b : Int) : (a.fdiv b).natAbs ≤ a.natAbs := by
  rcases Int.lt_or_le b 0 with h | h
  · have e := Int.neg_fdiv_neg a b
    rw [← e, Int.fdiv_eq_ediv_of_nonneg _ (by omega)]
    have := Int.natAbs_ediv_le_natAbs (-a) (-b)
    omega
  · rw [Int.fdiv_eq_ediv_of_nonneg _ h]
    exact Int.natAbs_ediv_le_natAbs a b
theorem fmod_lt (a : Int) {b : Int} (h0 : b ≠ 0) : (a.fmod b).natAbs < b.natAbs := by
  rcases Int.lt_or_lt_of_ne h0 with h | h
  · have h1 := Int.fmod_nonneg_of_pos (-a) (b := -b) (by omega)
    have h2 := Int.fmod_lt_of_pos (-a) (b := -b) (by omega)
    rw [Int.neg_fmod_neg] at h1 h2
    omega
  · have h1 := Int.fmod_nonneg_of_pos a h
    have h2 := Int.fmod_lt_of_pos a h
    omega
theorem OutD.len {ok : Bool} {a b : Int} {n1 n2 : Bool} {L1 L2 : List Nat} {k : Nat} (h : OutD ok a b n1 L1 n2 L2 k) (ha : ok = true → Lg.small a ∧ Lg.small b) : L1.length ≤ 64 ∧ L2.length ≤ 64 := by
  cases ok
  · obtain ⟨_, ⟨_, rfl⟩, _, rfl⟩ := h.no rfl
    simp
  · by_cases hb : b = 0
    · obtain ⟨_, ⟨_, rfl⟩, _, rfl⟩ := h.zero rfl hb
      simp
    · obtain ⟨_, h1, h2⟩ := h.yes rfl hb
      obtain ⟨sa, sb⟩ := ha rfl
      exact ⟨h1.len.2 (Nat.lt_of_le_of_lt (fdiv_le a b) sa), h2.len.2 (Nat.lt_trans (fmod_lt a hb) sb)⟩
theorem may_small {ng : Bool} {xs : List Nat} (lx : Dg.Low 4294967296 xs) (h : Lg.may ng xs = true) : Lg.small (Lg.num ng xs) := (Lg.Rep.of_may lx h).len.1 (Lg.may_iff.1 h).1
/-- What Check tells. -/
def errChk (b : Bool) : Value := if b = true then .nilIface else .iface 56 (.int .i64 1)
theorem errChk_true : errChk true = .nilIface := rfl
theorem errChk_false : errChk false = .iface 56 (.int .i64 1) := rfl
theorem errChk_of (b : Bool) : errVal (if b = true then 0 else 1) = errChk b := by cases b <;> rfl
theorem two_boxes {w0 w : World} {g1 g2 : Nat} {na nb : Bool} {A1 A2 : Option Addr} {c1 c2 : Nat} {xs ys : List Nat} {cs : Array Value} (hs : cs.size = 2) (hg : Grew w0 w) (hB1 : Blk w g1 27 cs) (hB2 : Blk w g2 27 cs)
    (hO1 : OwnNums .u32 w0 w 55 A1 c1 xs) (hO2 : OwnNums .u32 w0 w 55 A2 c2 ys) (n12 : g1 ≠ g2) (l1 : w0.heap.size ≤ g1) (l2 : w0.heap.size ≤ g2) (W : World)
    (hW : W = ((((w.setCell ⟨g1, 0, none⟩ (.bool na)).setCell ⟨g1, 1, none⟩ (.slice A1 xs.length c1)).setCell ⟨g2, 0, none⟩ (.bool nb)).setCell ⟨g2, 1, none⟩ (.slice A2 ys.length c2))) :
    BoxIn W g1 na A1 c1 xs ∧ BoxIn W g2 nb A2 c2 ys ∧ Grew w0 W := by
  have b1 := BoxAt.putB hg l1 hB1 hs hO1 na
  have h2 := hB2.far2 (Ne.symm n12) (.bool na) (.slice A1 xs.length c1)
  have o2 := OwnNums.far2 hB1 hO2 (.bool na) (.slice A1 xs.length c1)
  have b2 := BoxAt.putB b1.grew l2 h2 hs o2 nb
  have b1' := b1.far2 n12 l2 h2 (.bool nb) (.slice A2 ys.length c2)
  rw [← hW] at b2 b1'
  exact ⟨b1'.inn, b2.inn, b2.grew⟩

/-- What each operation of the statement that gives both numbers on gives. -/
def TelF (w0 : World) (na : Bool) (A : Option Addr) (c : Nat) (xs : List Nat) (nb : Bool) (B : Option Addr) (d : Nat) (ys : List Nat) (i : Nat) (v : Value) (w : World) : Prop := match i with
  | 0 => v = .agg #[.bool na, .slice A xs.length c]
  | 1 => ∃ A' c', v = .agg #[.bool na, .slice A' xs.length c'] ∧ OwnNums .u32 w0 w 55 A' c' xs
  | 2 => v = .agg #[.bool nb, .slice B ys.length d]
  | 3 => ∃ A' c', v = .agg #[.bool nb, .slice A' ys.length c'] ∧ OwnNums .u32 w0 w 55 A' c' ys
  | _ => ∃ g, v = .pointer (some ⟨g, 0, none⟩) ∧ Blk w g 27 #[.bool false, .slice none 0 0]
theorem TelF.mono {w0 : World} {na : Bool} {A : Option Addr} {c : Nat} {xs : List Nat} {nb : Bool} {B : Option Addr} {d : Nat} {ys : List Nat} (i : Nat) (v : Value) (w w' : World) (h : TelF w0 na A c xs nb B d ys i v w) (hg : Grew w w') : TelF w0 na A c xs nb B d ys i v w' := by
  unfold TelF at *
  split at h
  all_goals
    first
      | exact h
      | (obtain ⟨A', c', h1, h2⟩ := h; exact ⟨A', c', h1, h2.grew hg⟩)
      | (obtain ⟨g, h1, h2⟩ := h; exact ⟨g, h1, h2.grew hg⟩)

/-- What each operation of the law's last statement gives. -/
def TelG (vq vw vr vz vx va vy vb : Value) (K E : Nat) (C I : Int) (O M : Bool) (i : Nat) (v : Value) (_ : World) : Prop := match i with
  | 0 => v = vq
  | 1 => v = vw
  | 4 => v = vr
  | 5 => v = vz
  | 9 => v = errVal K
  | 10 => v = .int .i64 ((K : Nat) : Int)
  | 11 => v = .int .i64 ((K : Nat) : Int)
  | 15 => v = .int .i64 C
  | 16 => v = .int .i64 C
  | 20 => v = errVal E
  | 21 => v = .int .i64 ((E : Nat) : Int)
  | 22 => v = .int .i64 ((E : Nat) : Int)
  | 26 => v = .int .i64 I
  | 27 => v = .int .i64 I
  | 31 => v = .bool O
  | 32 => v = .bool O
  | 36 => v = vx
  | 37 => v = errChk M
  | 38 => v = .bool M
  | 39 => v = va
  | 40 => v = .bool M
  | 44 => v = vx
  | 45 => v = va
  | 49 => v = vy
  | 50 => v = vb
  | _ => v = .bool true

set_option maxRecDepth 100000 in
set_option maxHeartbeats 4000000 in
theorem tells_walk (na : Bool) (A : Option Addr) (c : Nat) (xs : List Nat) (nb : Bool) (B : Option Addr) (d : Nat) (ys : List Nat) (w : World)
    (ha : NumsAt .u32 w w.heap.size A xs) (hb : NumsAt .u32 w w.heap.size B ys) (lx : Dg.Low 4294967296 xs) (ly : Dg.Low 4294967296 ys)
    (hx : xs.length ≤ 35184372088832) (hy : ys.length ≤ 35184372088832) (hg : HandleAt w) :
    Calls Tryz.prog 3 #[.agg #[.bool na, .slice A xs.length c], .agg #[.bool nb, .slice B ys.length d]] w fun e w' => e = .returned (.bool true) ∧ Grew w w' := by
  have Hg := hid hg
  have HA := hid ha
  have HB := hid hb
  clear hg ha hb
  go_enter Tryz.func3, Tryz.ntmps3
  go_upto_region 1 with fail
  obtain ⟨wb, hw1⟩ : ∃ wb, wb = (w.alloc (.cells #[.bool na, .slice A xs.length c] 24)).alloc (.cells #[.bool nb, .slice B ys.length d] 24) := ⟨_, rfl⟩
  have HG0 : Hid (Grew w wb) := hid (by rw [hw1]; exact ((Grew.refl _).alloc _).alloc _)
  have BA := hid (show BoxIn wb w.heap.size na A c xs by rw [hw1]; exact (BoxIn.made na _ HA.out).on ((Grew.refl _).alloc _))
  have BB := hid (show BoxIn wb (w.heap.size + 1) nb B d ys by
    have := BoxIn.made (c := d) nb 24 (HB.out.grew ((Grew.refl w).alloc (.cells #[.bool na, .slice A xs.length c] 24)))
    rw [World.size_alloc] at this
    rw [hw1]; exact this)
  rw [← hw1]
  clear hw1 HA HB
  have SU := hid (fun (V : World) (hv : Grew w V) => sure_c V (Hg.out.grew hv))
  obtain ⟨r1, hr1⟩ : ∃ r, r = big3 xs.length := ⟨_, rfl⟩
  obtain ⟨r2, hr2⟩ : ∃ r, r = big3 ys.length := ⟨_, rfl⟩
  have G1 := hid (great_c na A c xs.length wb hx)
  have G2 := hid (fun (V : World) => great_c nb B d ys.length V hy)
  rw [← hr1] at G1
  rw [← hr2] at G2
  have a0 := BA.out.c0
  have a1 := BA.out.c1
  cases r1
  case true =>
    clear hr1 hr2 G2
    go_wp2_with fail
    refine G1.out.mono ?_
    rintro e w1 ⟨rfl, hg1⟩
    go_wp2_with fail
    refine (SU.out _ (HG0.out.trans hg1)).mono ?_
    rintro e w2 ⟨rfl, hg2⟩
    go_wp2_with fail
    go_ret
    exact ⟨rfl, (HG0.out.trans hg1).trans hg2⟩
  have hlx := big3_le hr1.symm
  clear hr1
  cases r2
  case true =>
    clear hr2 hlx
    go_wp2_with fail
    refine G1.out.mono ?_
    rintro e w1 ⟨rfl, hg1⟩
    clear a0 a1
    have b0 := (BB.out.on hg1).c0
    have b1 := (BB.out.on hg1).c1
    go_wp2_with fail
    refine (G2.out _).mono ?_
    rintro e w2 ⟨rfl, hg2⟩
    go_wp2_with fail
    refine (SU.out _ ((HG0.out.trans hg1).trans hg2)).mono ?_
    rintro e w3 ⟨rfl, hg3⟩
    go_wp2_with fail
    go_ret
    exact ⟨rfl, ((HG0.out.trans hg1).trans hg2).trans hg3⟩
  have hly := big3_le hr2.symm
  have HK := hid (show xs.length ≤ 100 ∧ ys.length ≤ 100 from ⟨hlx, hly⟩)
  clear hr2 hlx hly
  go_wp2_with fail
  refine G1.out.mono ?_
  rintro e w1 ⟨rfl, hg1⟩
  clear a0 a1
  have b0 := (BB.out.on hg1).c0
  have b1 := (BB.out.on hg1).c1
  go_wp2_with fail
  refine (G2.out _).mono ?_
  rintro e wc ⟨rfl, hg2⟩
  clear b0 b1 G1 G2
  have hg3 := hg1.trans hg2
  replace BA := hid (BA.out.on hg3)
  replace BB := hid (BB.out.on hg3)
  replace HG0 := hid (HG0.out.trans hg3)
  clear hg1 hg2 hg3
  go_upto_region 3 with fail
  refine wp_region_facts (w0 := wc) _ 6 [40, 41, 42, 43, 5, 6] [4, 5] (TelF wc na A c xs nb B d ys) (by kernel_rfl) (by kernel_rfl) (Grew.refl _) TelF.mono ?_ ?_
  · have CX := hid (fun (W : World) (hgw : Grew wc W) => giveNum_c na A c xs W (BA.out.on hgw).nums hx)
    have CY := hid (fun (W : World) (hgw : Grew wc W) => giveNum_c nb B d ys W (BB.out.on hgw).nums hy)
    repeat' (first | exact trivial | apply And.intro)
    all_goals
      intro a w' hgw hs hA
      have e3 := hs.eval 2 (by decide) (v := .pointer (some ⟨w.heap.size, 0, none⟩)) rfl
      have e4 := hs.eval 3 (by decide) (v := .pointer (some ⟨w.heap.size + 1, 0, none⟩)) rfl
      have a0 := (BA.out.on hgw).c0
      have a1 := (BA.out.on hgw).c1
      have b0 := (BB.out.on hgw).c0
      have b1 := (BB.out.on hgw).c1
      have HGW := hid hgw
      clear hs hgw
      simp only [Ahead, Region.binds, slotOf, TelF, List.getD_cons_succ, List.getD_cons_zero, forall_const, and_true] at hA
      simp only [wantedD, if_true]
      unfold Oper.wp
      have ec : ∀ v, a.eval (.const v) = v := fun _ => rfl
      generalize hf : a.eval = f at *
      have ef : ∀ k, f (.func k) = Act.eval ⟨#[], []⟩ (.func k) := fun k => by rw [← hf]; rfl
      clear hf
      go_simp
      first
        | (with_reducible refine Gives.al ((Grew.refl _).alloc _) ?_ ?_ ?_
           · exact Nat.le_refl _
           · simp
           · exact ⟨_, rfl, Blk.new _ _ _⟩)
        | (with_reducible refine Gives.of' ?_ (Grew.refl _) ?_
           · rfl
           · rfl)
        | ((with_reducible refine (CX.out _ HGW.out).mono ?_); rintro e w3 ⟨A3, c3, rfl, hO3, hg3⟩; exact Gives.of hg3 ⟨A3, c3, rfl, hO3.mono HGW.out⟩)
        | ((with_reducible refine (CY.out _ HGW.out).mono ?_); rintro e w3 ⟨A3, c3, rfl, hO3, hg3⟩; exact Gives.of hg3 ⟨A3, c3, rfl, hO3.mono HGW.out⟩)
  · intro a w' hgw hs hf hmade hpart
    have f1 := hf 1 (by decide)
    have f3 := hf 3 (by decide)
    have f6 := hf 4 (by decide)
    have f7 := hf 5 (by decide)
    have m6 := hmade 4 (by decide) rfl
    have m7 := hmade 5 (by decide) rfl
    have p67 := hpart 4 5 (by decide) (by decide) (by decide) rfl rfl
    clear hf hmade hpart
    obtain ⟨f, rfl, hft⟩ := hs.put
    clear hs
    simp only [slotOf, TelF, List.getD_cons_succ, List.getD_cons_zero, hft] at f1 f3 f6 f7 m6 m7 p67
    clear hft
    obtain ⟨A1, c1, e1, hO1⟩ := f1
    obtain ⟨A2, c2, e2, hO2⟩ := f3
    obtain ⟨g1, e6, hB1⟩ := f6
    obtain ⟨g2, e7, hB2⟩ := f7
    rw [e6, e7] at p67
    have n12 : g1 ≠ g2 := fun h => p67 (by rw [h])
    have l1 : wc.heap.size ≤ g1 := by
      obtain ⟨g, h1, h2, _⟩ := m6
      rw [e6] at h1
      simp only [Value.pointer.injEq, Option.some.injEq, Addr.mk.injEq] at h1
      omega
    have l2 : wc.heap.size ≤ g2 := by
      obtain ⟨g, h1, h2, _⟩ := m7
      rw [e7] at h1
      simp only [Value.pointer.injEq, Option.some.injEq, Addr.mk.injEq] at h1
      omega
    clear m6 m7 p67
    simp only [List.drop_succ_cons, List.drop_zero, putAll, List.foldl_cons, List.foldl_nil, Act.put, List.setIfInBounds_toArray, List.set_cons_succ, List.set_cons_zero, e1, e2, e6, e7]
    clear e1 e2 e6 e7
    have x0 : w'.cell? ⟨g1, 0, none⟩ = some (.bool false) := by rw [hB1.cell]; rfl
    have x1 : w'.cell? ⟨g1, 1, none⟩ = some (.slice none 0 0) := by rw [hB1.cell]; rfl
    have xf : ∀ i, w'.frozen? ⟨g1, i, none⟩ = false := hB1.frozen
    have y0 : w'.cell? ⟨g2, 0, none⟩ = some (.bool false) := by rw [hB2.cell]; rfl
    have y1 : w'.cell? ⟨g2, 1, none⟩ = some (.slice none 0 0) := by rw [hB2.cell]; rfl
    have yf : ∀ i, w'.frozen? ⟨g2, i, none⟩ = false := hB2.frozen
    have n21 := Ne.symm n12
    go_upto_region 4 with (fail)
    clear x0 x1 xf y0 y1 yf
    obtain ⟨W, hW⟩ : ∃ W, W = ((((w'.setCell ⟨g1, 0, none⟩ (.bool na)).setCell ⟨g1, 1, none⟩ (.slice A1 xs.length c1)).setCell ⟨g2, 0, none⟩ (.bool nb)).setCell ⟨g2, 1, none⟩ (.slice A2 ys.length c2)) := ⟨_, rfl⟩
    obtain ⟨X1, X2, hGW⟩ := two_boxes rfl hgw hB1 hB2 hO1 hO2 n12 l1 l2 W hW
    have Cx := hid hO1.nocap
    rw [← hW]
    clear hW hB1 hB2 hO1 hO2 l1 l2 n21 n12 hgw
    have HGW := hid (HG0.out.trans hGW)
    have Bx := hid X1
    have By := hid X2
    replace BA := hid (BA.out.on hGW)
    replace BB := hid (BB.out.on hGW)
    clear hGW HG0 X1 X2
    have Sx := hid (fun h : (Lg.may na xs && Lg.may nb ys) = true => (show Lg.small (Lg.num na xs) ∧ Lg.small (Lg.num nb ys) by
      rw [Bool.and_eq_true] at h
      exact ⟨may_small lx h.1, may_small ly h.2⟩))
    have N1 : xs.length ≤ 1000000000000 := by have := HK.out; omega
    have N2 : ys.length ≤ 1000000000000 := by have := HK.out; omega
    obtain ⟨V0, eV⟩ : ∃ V0, V0 = W := ⟨_, rfl⟩
    rw [← eV] at Bx By BA BB HGW ⊢
    clear eV
    have e0 := Bx.out.c0
    have e1 := Bx.out.c1
    have f0 := By.out.c0
    have f1 := By.out.c1
    go_wp2_with fail
    refine (padd_c na A1 c1 xs nb A2 c2 ys V0 Bx.out.nums By.out.nums lx ly N1 N2).mono ?_
    rintro e Us ⟨A_s, k_s, n_s, L_s, K_s, rfl, hn_, hok_, hG_⟩
    have M_ := hid hn_.at
    have O_s := hid hok_
    have G_ := hid hG_
    clear e0 e1 f0 f1 hn_ hok_ hG_
    go_upto_region 5 with fail
    obtain ⟨Vs, hV_⟩ : ∃ V', V' = Us.alloc (.cells #[.bool n_s, .slice A_s L_s.length k_s] 27) := ⟨_, rfl⟩
    have H_ : Grew V0 Vs := by rw [hV_]; exact G_.out.alloc _
    have B_s := hid (show BoxIn Vs Us.heap.size n_s A_s k_s L_s by rw [hV_]; exact BoxIn.made n_s _ M_.out)
    replace Bx := hid (Bx.out.on H_)
    replace By := hid (By.out.on H_)
    replace BA := hid (BA.out.on H_)
    replace BB := hid (BB.out.on H_)
    replace HGW := hid (HGW.out.trans H_)
    rw [← hV_]
    clear hV_ H_ M_ G_
    obtain ⟨g_s, eg_⟩ : ∃ g, g = Us.heap.size := ⟨_, rfl⟩
    rw [← eg_] at B_s ⊢
    clear eg_
    have e0 := BA.out.c0
    have e1 := BA.out.c1
    have f0 := BB.out.c0
    have f1 := BB.out.c1
    go_wp2_with fail
    refine (radd_c na A c xs nb B d ys false Vs BA.out.nums BB.out.nums lx ly N1 N2).mono ?_
    rintro e Ut ⟨A_t, k_t, n_t, L_t, K_t, rfl, hn_, hok_, hG_⟩
    have M_ := hid hn_.at
    have O_t := hid hok_
    have G_ := hid hG_
    clear e0 e1 f0 f1 hn_ hok_ hG_
    go_upto_region 6 with fail
    obtain ⟨Vt, hV_⟩ : ∃ V', V' = Ut.alloc (.cells #[.bool n_t, .slice A_t L_t.length k_t] 24) := ⟨_, rfl⟩
    have H_ : Grew Vs Vt := by rw [hV_]; exact G_.out.alloc _
    have B_t := hid (show BoxIn Vt Ut.heap.size n_t A_t k_t L_t by rw [hV_]; exact BoxIn.made n_t _ M_.out)
    replace Bx := hid (Bx.out.on H_)
    replace By := hid (By.out.on H_)
    replace BA := hid (BA.out.on H_)
    replace BB := hid (BB.out.on H_)
    replace B_s := hid (B_s.out.on H_)
    replace HGW := hid (HGW.out.trans H_)
    rw [← hV_]
    clear hV_ H_ M_ G_
    obtain ⟨g_t, eg_⟩ : ∃ g, g = Ut.heap.size := ⟨_, rfl⟩
    rw [← eg_] at B_t ⊢
    clear eg_
    have e0 := Bx.out.c0
    have e1 := Bx.out.c1
    have f0 := By.out.c0
    have f1 := By.out.c1
    go_wp2_with fail
    refine (psub_c na A1 c1 xs nb A2 c2 ys Vt Bx.out.nums By.out.nums lx ly N1 N2).mono ?_
    rintro e Ud ⟨A_d, k_d, n_d, L_d, K_d, rfl, hn_, hok_, hG_⟩
    have M_ := hid hn_.at
    have O_d := hid hok_
    have G_ := hid hG_
    clear e0 e1 f0 f1 hn_ hok_ hG_
    go_upto_region 7 with fail
    obtain ⟨Vd, hV_⟩ : ∃ V', V' = Ud.alloc (.cells #[.bool n_d, .slice A_d L_d.length k_d] 27) := ⟨_, rfl⟩
    have H_ : Grew Vt Vd := by rw [hV_]; exact G_.out.alloc _
    have B_d := hid (show BoxIn Vd Ud.heap.size n_d A_d k_d L_d by rw [hV_]; exact BoxIn.made n_d _ M_.out)
    replace Bx := hid (Bx.out.on H_)
    replace By := hid (By.out.on H_)
    replace BA := hid (BA.out.on H_)
    replace BB := hid (BB.out.on H_)
    replace B_s := hid (B_s.out.on H_)
    replace B_t := hid (B_t.out.on H_)
    replace HGW := hid (HGW.out.trans H_)
    rw [← hV_]
    clear hV_ H_ M_ G_
    obtain ⟨g_d, eg_⟩ : ∃ g, g = Ud.heap.size := ⟨_, rfl⟩
    rw [← eg_] at B_d ⊢
    clear eg_
    have e0 := BA.out.c0
    have e1 := BA.out.c1
    have f0 := BB.out.c0
    have f1 := BB.out.c1
    go_wp2_with fail
    refine (radd_c na A c xs nb B d ys true Vd BA.out.nums BB.out.nums lx ly N1 N2).mono ?_
    rintro e Uu ⟨A_u, k_u, n_u, L_u, K_u, rfl, hn_, hok_, hG_⟩
    have M_ := hid hn_.at
    have O_u := hid hok_
    have G_ := hid hG_
    clear e0 e1 f0 f1 hn_ hok_ hG_
    go_upto_region 8 with fail
    obtain ⟨Vu, hV_⟩ : ∃ V', V' = Uu.alloc (.cells #[.bool n_u, .slice A_u L_u.length k_u] 24) := ⟨_, rfl⟩
    have H_ : Grew Vd Vu := by rw [hV_]; exact G_.out.alloc _
    have B_u := hid (show BoxIn Vu Uu.heap.size n_u A_u k_u L_u by rw [hV_]; exact BoxIn.made n_u _ M_.out)
    replace Bx := hid (Bx.out.on H_)
    replace By := hid (By.out.on H_)
    replace BA := hid (BA.out.on H_)
    replace BB := hid (BB.out.on H_)
    replace B_s := hid (B_s.out.on H_)
    replace B_t := hid (B_t.out.on H_)
    replace B_d := hid (B_d.out.on H_)
    replace HGW := hid (HGW.out.trans H_)
    rw [← hV_]
    clear hV_ H_ M_ G_
    obtain ⟨g_u, eg_⟩ : ∃ g, g = Uu.heap.size := ⟨_, rfl⟩
    rw [← eg_] at B_u ⊢
    clear eg_
    have e0 := Bx.out.c0
    have e1 := Bx.out.c1
    have f0 := By.out.c0
    have f1 := By.out.c1
    go_wp2_with fail
    refine (pmul_c na A1 c1 xs nb A2 c2 ys Vu Bx.out.nums By.out.nums lx ly N1 N2).mono ?_
    rintro e Um ⟨A_m, k_m, n_m, L_m, K_m, rfl, hn_, hok_, hG_⟩
    have M_ := hid hn_.at
    have O_m := hid hok_
    have G_ := hid hG_
    clear e0 e1 f0 f1 hn_ hok_ hG_
    go_upto_region 9 with fail
    obtain ⟨Vm, hV_⟩ : ∃ V', V' = Um.alloc (.cells #[.bool n_m, .slice A_m L_m.length k_m] 27) := ⟨_, rfl⟩
    have H_ : Grew Vu Vm := by rw [hV_]; exact G_.out.alloc _
    have B_m := hid (show BoxIn Vm Um.heap.size n_m A_m k_m L_m by rw [hV_]; exact BoxIn.made n_m _ M_.out)
    replace Bx := hid (Bx.out.on H_)
    replace By := hid (By.out.on H_)
    replace BA := hid (BA.out.on H_)
    replace BB := hid (BB.out.on H_)
    replace B_s := hid (B_s.out.on H_)
    replace B_t := hid (B_t.out.on H_)
    replace B_d := hid (B_d.out.on H_)
    replace B_u := hid (B_u.out.on H_)
    replace HGW := hid (HGW.out.trans H_)
    rw [← hV_]
    clear hV_ H_ M_ G_
    obtain ⟨g_m, eg_⟩ : ∃ g, g = Um.heap.size := ⟨_, rfl⟩
    rw [← eg_] at B_m ⊢
    clear eg_
    have e0 := BA.out.c0
    have e1 := BA.out.c1
    have f0 := BB.out.c0
    have f1 := BB.out.c1
    go_wp2_with fail
    refine (rmul_c na A c xs nb B d ys Vm BA.out.nums BB.out.nums lx ly N1 N2).mono ?_
    rintro e Uv ⟨A_v, k_v, n_v, L_v, K_v, rfl, hn_, hok_, hG_⟩
    have M_ := hid hn_.at
    have O_v := hid hok_
    have G_ := hid hG_
    clear e0 e1 f0 f1 hn_ hok_ hG_
    go_upto_region 10 with fail
    obtain ⟨Vv, hV_⟩ : ∃ V', V' = Uv.alloc (.cells #[.bool n_v, .slice A_v L_v.length k_v] 24) := ⟨_, rfl⟩
    have H_ : Grew Vm Vv := by rw [hV_]; exact G_.out.alloc _
    have B_v := hid (show BoxIn Vv Uv.heap.size n_v A_v k_v L_v by rw [hV_]; exact BoxIn.made n_v _ M_.out)
    replace Bx := hid (Bx.out.on H_)
    replace By := hid (By.out.on H_)
    replace BA := hid (BA.out.on H_)
    replace BB := hid (BB.out.on H_)
    replace B_s := hid (B_s.out.on H_)
    replace B_t := hid (B_t.out.on H_)
    replace B_d := hid (B_d.out.on H_)
    replace B_u := hid (B_u.out.on H_)
    replace B_m := hid (B_m.out.on H_)
    replace HGW := hid (HGW.out.trans H_)
    rw [← hV_]
    clear hV_ H_ M_ G_
    obtain ⟨g_v, eg_⟩ : ∃ g, g = Uv.heap.size := ⟨_, rfl⟩
    rw [← eg_] at B_v ⊢
    clear eg_
    have O_t' : Hid (OutA (Lg.may na xs && Lg.may nb ys) (Lg.num na xs + Lg.num nb ys) n_t L_t K_t) := hid O_t.out
    clear O_t
    obtain ⟨rfl, rfl, rfl⟩ := O_s.out.inj O_t'.out
    have l_s := hid O_s.out.len
    clear O_t'
    obtain ⟨rfl, rfl, rfl⟩ := O_d.out.inj O_u.out
    have l_d := hid O_d.out.len
    clear O_u
    obtain ⟨rfl, rfl, rfl⟩ := O_m.out.inj O_v.out
    have l_m := hid O_m.out.len
    clear O_v
    have e0 := B_s.out.c0
    have e1 := B_s.out.c1
    have f0 := B_t.out.c0
    have f1 := B_t.out.c1
    go_wp2_with fail
    refine (isSame_c B_s.out.nums B_t.out.nums rfl rfl (by have := l_s.out; omega)).mono ?_
    rintro e W1 ⟨rfl, H_⟩
    clear e0 e1 f0 f1
    replace Bx := hid (Bx.out.on H_)
    replace By := hid (By.out.on H_)
    replace BA := hid (BA.out.on H_)
    replace BB := hid (BB.out.on H_)
    replace B_s := hid (B_s.out.on H_)
    replace B_t := hid (B_t.out.on H_)
    replace B_d := hid (B_d.out.on H_)
    replace B_u := hid (B_u.out.on H_)
    replace B_m := hid (B_m.out.on H_)
    replace B_v := hid (B_v.out.on H_)
    replace HGW := hid (HGW.out.trans H_)
    clear H_
    go_wp2_with fail
    refine (num_c _ _ (Hg.out.grew HGW.out)).mono ?_
    rintro e W2 ⟨rfl, H_⟩
    replace Bx := hid (Bx.out.on H_)
    replace By := hid (By.out.on H_)
    replace BA := hid (BA.out.on H_)
    replace BB := hid (BB.out.on H_)
    replace B_s := hid (B_s.out.on H_)
    replace B_t := hid (B_t.out.on H_)
    replace B_d := hid (B_d.out.on H_)
    replace B_u := hid (B_u.out.on H_)
    replace B_m := hid (B_m.out.on H_)
    replace B_v := hid (B_v.out.on H_)
    replace HGW := hid (HGW.out.trans H_)
    clear H_
    have e0 := B_d.out.c0
    have e1 := B_d.out.c1
    have f0 := B_u.out.c0
    have f1 := B_u.out.c1
    go_wp2_with fail
    refine (isSame_c B_d.out.nums B_u.out.nums rfl rfl (by have := l_d.out; omega)).mono ?_
    rintro e W3 ⟨rfl, H_⟩
    clear e0 e1 f0 f1
    replace Bx := hid (Bx.out.on H_)
    replace By := hid (By.out.on H_)
    replace BA := hid (BA.out.on H_)
    replace BB := hid (BB.out.on H_)
    replace B_s := hid (B_s.out.on H_)
    replace B_t := hid (B_t.out.on H_)
    replace B_d := hid (B_d.out.on H_)
    replace B_u := hid (B_u.out.on H_)
    replace B_m := hid (B_m.out.on H_)
    replace B_v := hid (B_v.out.on H_)
    replace HGW := hid (HGW.out.trans H_)
    clear H_
    go_wp2_with fail
    refine (num_c _ _ (Hg.out.grew HGW.out)).mono ?_
    rintro e W4 ⟨rfl, H_⟩
    replace Bx := hid (Bx.out.on H_)
    replace By := hid (By.out.on H_)
    replace BA := hid (BA.out.on H_)
    replace BB := hid (BB.out.on H_)
    replace B_s := hid (B_s.out.on H_)
    replace B_t := hid (B_t.out.on H_)
    replace B_d := hid (B_d.out.on H_)
    replace B_u := hid (B_u.out.on H_)
    replace B_m := hid (B_m.out.on H_)
    replace B_v := hid (B_v.out.on H_)
    replace HGW := hid (HGW.out.trans H_)
    clear H_
    have e0 := B_m.out.c0
    have e1 := B_m.out.c1
    have f0 := B_v.out.c0
    have f1 := B_v.out.c1
    go_wp2_with fail
    refine (isSame_c B_m.out.nums B_v.out.nums rfl rfl (by have := l_m.out; omega)).mono ?_
    rintro e W5 ⟨rfl, H_⟩
    clear e0 e1 f0 f1
    replace Bx := hid (Bx.out.on H_)
    replace By := hid (By.out.on H_)
    replace BA := hid (BA.out.on H_)
    replace BB := hid (BB.out.on H_)
    replace B_s := hid (B_s.out.on H_)
    replace B_t := hid (B_t.out.on H_)
    replace B_d := hid (B_d.out.on H_)
    replace B_u := hid (B_u.out.on H_)
    replace B_m := hid (B_m.out.on H_)
    replace B_v := hid (B_v.out.on H_)
    replace HGW := hid (HGW.out.trans H_)
    clear H_
    go_wp2_with fail
    refine (num_c _ _ (Hg.out.grew HGW.out)).mono ?_
    rintro e W6 ⟨rfl, H_⟩
    replace Bx := hid (Bx.out.on H_)
    replace By := hid (By.out.on H_)
    replace BA := hid (BA.out.on H_)
    replace BB := hid (BB.out.on H_)
    replace B_s := hid (B_s.out.on H_)
    replace B_t := hid (B_t.out.on H_)
    replace B_d := hid (B_d.out.on H_)
    replace B_u := hid (B_u.out.on H_)
    replace B_m := hid (B_m.out.on H_)
    replace B_v := hid (B_v.out.on H_)
    replace HGW := hid (HGW.out.trans H_)
    clear H_
    go_upto_region 12 with fail
    clear O_s O_d O_m B_s B_t B_d B_u B_m B_v l_s l_d l_m
    have e0 := Bx.out.c0
    have e1 := Bx.out.c1
    have f0 := By.out.c0
    have f1 := By.out.c1
    go_wp2_with fail
    refine (pdivAll_c na A1 c1 xs nb A2 c2 ys W6 Bx.out.nums By.out.nums lx ly N1 N2 Cx.out).mono ?_
    rintro e Uq ⟨A_q, k_q, n_q, L_q, A_r, k_r, n_r, L_r, K_q, rfl, hq1, hr1, hok_, hG_⟩
    have Mq := hid hq1.at
    have Mr := hid hr1.at
    have O_q := hid hok_
    have G_ := hid hG_
    clear e0 e1 f0 f1 hq1 hr1 hok_ hG_
    go_upto_region 13 with fail
    obtain ⟨Vq, hV_⟩ : ∃ V', V' = (Uq.alloc (.cells #[.bool n_q, .slice A_q L_q.length k_q] 27)).alloc (.cells #[.bool n_r, .slice A_r L_r.length k_r] 27) := ⟨_, rfl⟩
    have H_ : Grew W6 Vq := by rw [hV_]; exact (G_.out.alloc _).alloc _
    have B_q := hid (show BoxIn Vq Uq.heap.size n_q A_q k_q L_q by rw [hV_]; exact (BoxIn.made n_q _ Mq.out).on ((Grew.refl _).alloc _))
    have B_r := hid (show BoxIn Vq (Uq.heap.size + 1) n_r A_r k_r L_r by
      rw [hV_]
      have h := BoxIn.made (c := k_r) n_r 27 (Mr.out.grew ((Grew.refl Uq).alloc (.cells #[.bool n_q, .slice A_q L_q.length k_q] 27)))
      rw [World.size_alloc] at h
      exact h)
    replace Bx := hid (Bx.out.on H_)
    replace By := hid (By.out.on H_)
    replace BA := hid (BA.out.on H_)
    replace BB := hid (BB.out.on H_)
    replace HGW := hid (HGW.out.trans H_)
    rw [← hV_]
    clear hV_ H_ G_ Mq Mr
    obtain ⟨g_q, eg_⟩ : ∃ g, g = Uq.heap.size := ⟨_, rfl⟩
    rw [← eg_] at B_q B_r ⊢
    clear eg_
    have e0 := BA.out.c0
    have e1 := BA.out.c1
    have f0 := BB.out.c0
    have f1 := BB.out.c1
    go_wp2_with fail
    refine (rdiv_c na A c xs nb B d ys Vq BA.out.nums BB.out.nums lx ly N1 N2).mono ?_
    rintro e Uw ⟨A_w, k_w, n_w, L_w, A_z, k_z, n_z, L_z, K_w, rfl, hq1, hr1, hok_, hG_⟩
    have Mq := hid hq1.at
    have Mr := hid hr1.at
    have O_w := hid hok_
    have G_ := hid hG_
    clear e0 e1 f0 f1 hq1 hr1 hok_ hG_
    go_upto_region 14 with fail
    obtain ⟨Vw, hV_⟩ : ∃ V', V' = (Uw.alloc (.cells #[.bool n_w, .slice A_w L_w.length k_w] 24)).alloc (.cells #[.bool n_z, .slice A_z L_z.length k_z] 24) := ⟨_, rfl⟩
    have H_ : Grew Vq Vw := by rw [hV_]; exact (G_.out.alloc _).alloc _
    have B_w := hid (show BoxIn Vw Uw.heap.size n_w A_w k_w L_w by rw [hV_]; exact (BoxIn.made n_w _ Mq.out).on ((Grew.refl _).alloc _))
    have B_z := hid (show BoxIn Vw (Uw.heap.size + 1) n_z A_z k_z L_z by
      rw [hV_]
      have h := BoxIn.made (c := k_z) n_z 24 (Mr.out.grew ((Grew.refl Uw).alloc (.cells #[.bool n_w, .slice A_w L_w.length k_w] 24)))
      rw [World.size_alloc] at h
      exact h)
    replace Bx := hid (Bx.out.on H_)
    replace By := hid (By.out.on H_)
    replace BA := hid (BA.out.on H_)
    replace BB := hid (BB.out.on H_)
    replace B_q := hid (B_q.out.on H_)
    replace B_r := hid (B_r.out.on H_)
    replace HGW := hid (HGW.out.trans H_)
    rw [← hV_]
    clear hV_ H_ G_ Mq Mr
    obtain ⟨g_w, eg_⟩ : ∃ g, g = Uw.heap.size := ⟨_, rfl⟩
    rw [← eg_] at B_w B_z ⊢
    clear eg_
    obtain ⟨⟨rfl, rfl⟩, ⟨rfl, rfl⟩, rfl⟩ := O_q.out.inj O_w.out
    have l_q := hid (O_q.out.len Sx.out)
    clear O_q O_w
    have e0 := Bx.out.c0
    have e1 := Bx.out.c1
    have f0 := By.out.c0
    have f1 := By.out.c1
    go_wp2_with fail
    refine (pcmp_c na A1 c1 xs nb A2 c2 ys _ Bx.out.nums By.out.nums lx ly N1 N2).mono ?_
    rintro e W7 ⟨rfl, H_⟩
    clear e0 e1 f0 f1
    replace Bx := hid (Bx.out.on H_)
    replace By := hid (By.out.on H_)
    replace BA := hid (BA.out.on H_)
    replace BB := hid (BB.out.on H_)
    replace B_q := hid (B_q.out.on H_)
    replace B_r := hid (B_r.out.on H_)
    replace B_w := hid (B_w.out.on H_)
    replace B_z := hid (B_z.out.on H_)
    replace HGW := hid (HGW.out.trans H_)
    clear H_
    have e0 := BA.out.c0
    have e1 := BA.out.c1
    have f0 := BB.out.c0
    have f1 := BB.out.c1
    go_wp2_with fail
    refine (rcmp_c na A c xs nb B d ys _ BA.out.nums BB.out.nums lx ly N1 N2).mono ?_
    rintro e W8 ⟨rfl, H_⟩
    clear e0 e1 f0 f1
    replace Bx := hid (Bx.out.on H_)
    replace By := hid (By.out.on H_)
    replace BA := hid (BA.out.on H_)
    replace BB := hid (BB.out.on H_)
    replace B_q := hid (B_q.out.on H_)
    replace B_r := hid (B_r.out.on H_)
    replace B_w := hid (B_w.out.on H_)
    replace B_z := hid (B_z.out.on H_)
    replace HGW := hid (HGW.out.trans H_)
    clear H_
    generalize cmpV (Lg.may na xs && Lg.may nb ys) (Lg.num na xs + flip true (Lg.num nb ys)) = C at *
    generalize cmpE (Lg.may na xs && Lg.may nb ys) = E at *
    have e0 := Bx.out.c0
    have e1 := Bx.out.c1
    have f0 := BA.out.c0
    have f1 := BA.out.c1
    go_wp2_with fail
    refine (pint_c na A1 c1 xs _ Bx.out.nums lx N1).mono ?_
    rintro e W9 ⟨rfl, H_⟩
    clear e0 e1 f0 f1
    replace Bx := hid (Bx.out.on H_)
    replace By := hid (By.out.on H_)
    replace BA := hid (BA.out.on H_)
    replace BB := hid (BB.out.on H_)
    replace B_q := hid (B_q.out.on H_)
    replace B_r := hid (B_r.out.on H_)
    replace B_w := hid (B_w.out.on H_)
    replace B_z := hid (B_z.out.on H_)
    replace HGW := hid (HGW.out.trans H_)
    clear H_
    have e0 := Bx.out.c0
    have e1 := Bx.out.c1
    have f0 := BA.out.c0
    have f1 := BA.out.c1
    go_wp2_with fail
    refine (int_c na A c xs _ BA.out.nums lx N1).mono ?_
    rintro e W10 ⟨rfl, H_⟩
    clear e0 e1 f0 f1
    replace Bx := hid (Bx.out.on H_)
    replace By := hid (By.out.on H_)
    replace BA := hid (BA.out.on H_)
    replace BB := hid (BB.out.on H_)
    replace B_q := hid (B_q.out.on H_)
    replace B_r := hid (B_r.out.on H_)
    replace B_w := hid (B_w.out.on H_)
    replace B_z := hid (B_z.out.on H_)
    replace HGW := hid (HGW.out.trans H_)
    clear H_
    generalize intVal na xs = I at *
    generalize intOk na xs = O at *
    go_upto_region 18 with fail
    have CK := hid (fun (V : World) (hv : Grew W10 V) => pcheck_c na A1 c1 xs V (Bx.out.on hv).nums N1)
    have CM := hid (fun (V : World) (hv : Grew W10 V) => may_c na A c xs V (BA.out.on hv).nums N1)
    have CQ := hid (fun (V : World) (hv : Grew W10 V) => isSame_c (na := n_q) (nb := n_q) (c := k_q) (d := k_w) (B_q.out.on hv).nums (B_w.out.on hv).nums rfl rfl (by have := l_q.out; omega))
    have CR := hid (fun (V : World) (hv : Grew W10 V) => isSame_c (na := n_r) (nb := n_r) (c := k_r) (d := k_z) (B_r.out.on hv).nums (B_z.out.on hv).nums rfl rfl (by have := l_q.out; omega))
    have CA := hid (fun (V : World) (hv : Grew W10 V) => isSame_c (na := na) (nb := na) (c := c1) (d := c) (Bx.out.on hv).nums (BA.out.on hv).nums rfl rfl HK.out.1)
    have CB := hid (fun (V : World) (hv : Grew W10 V) => isSame_c (na := nb) (nb := nb) (c := c2) (d := d) (By.out.on hv).nums (BB.out.on hv).nums rfl rfl HK.out.2)
    clear Sx Cx
    generalize Lg.may na xs = MY at *
    simp only [errChk_of] at CK
    refine wp_region_facts (w0 := W10) _ 57 [150, 151, 152, 153, 154, 155, 156, 157, 158, 159, 160, 161, 162, 163, 164, 165, 166, 167, 168, 169, 170, 171, 172, 173, 174, 175, 176, 177, 178, 179, 180, 181, 182, 183, 184, 185, 186, 187, 188, 189, 190, 191, 192, 193, 194, 195, 196, 197, 198, 199, 200, 201, 202, 203, 204, 205, 4] [] (TelG (.agg #[.bool n_q, .slice A_q L_q.length k_q]) (.agg #[.bool n_q, .slice A_w L_q.length k_w]) (.agg #[.bool n_r, .slice A_r L_r.length k_r]) (.agg #[.bool n_r, .slice A_z L_r.length k_z]) (.agg #[.bool na, .slice A1 xs.length c1]) (.agg #[.bool na, .slice A xs.length c]) (.agg #[.bool nb, .slice A2 ys.length c2]) (.agg #[.bool nb, .slice B ys.length d]) K_q E C I O MY) (by kernel_rfl) (by kernel_rfl) (Grew.refl _) (fun _ _ _ _ h _ => h) ?_ ?_
    · repeat' (first | exact trivial | apply And.intro)
      all_goals
        intro a w' hgw hs hA
        have e2 := hs.eval 2 (by decide) (v := .pointer (some ⟨w.heap.size, 0, none⟩)) rfl
        have e3 := hs.eval 3 (by decide) (v := .pointer (some ⟨w.heap.size + 1, 0, none⟩)) rfl
        have e5 := hs.eval 5 (by decide) (v := .pointer (some ⟨g1, 0, none⟩)) rfl
        have e6 := hs.eval 6 (by decide) (v := .pointer (some ⟨g2, 0, none⟩)) rfl
        have e19 := hs.eval 19 (by decide) (v := .pointer (some ⟨g_q, 0, none⟩)) rfl
        have e20 := hs.eval 20 (by decide) (v := .pointer (some ⟨g_q + 1, 0, none⟩)) rfl
        have e22 := hs.eval 22 (by decide) (v := .pointer (some ⟨g_w, 0, none⟩)) rfl
        have e23 := hs.eval 23 (by decide) (v := .pointer (some ⟨g_w + 1, 0, none⟩)) rfl
        have e21 := hs.eval 21 (by decide) (v := errVal K_q) rfl
        have e24 := hs.eval 24 (by decide) (v := .int .i64 ((K_q : Nat) : Int)) rfl
        have e25 := hs.eval 25 (by decide) (v := .int .i64 C) rfl
        have e27 := hs.eval 27 (by decide) (v := .int .i64 C) rfl
        have e26 := hs.eval 26 (by decide) (v := errVal E) rfl
        have e28 := hs.eval 28 (by decide) (v := .int .i64 ((E : Nat) : Int)) rfl
        have e29 := hs.eval 29 (by decide) (v := .int .i64 I) rfl
        have e31 := hs.eval 31 (by decide) (v := .int .i64 I) rfl
        have e30 := hs.eval 30 (by decide) (v := .bool O) rfl
        have e32 := hs.eval 32 (by decide) (v := .bool O) rfl
        have Bx0 := (Bx.out.on hgw).c0
        have Bx1 := (Bx.out.on hgw).c1
        have By0 := (By.out.on hgw).c0
        have By1 := (By.out.on hgw).c1
        have BA0 := (BA.out.on hgw).c0
        have BA1 := (BA.out.on hgw).c1
        have BB0 := (BB.out.on hgw).c0
        have BB1 := (BB.out.on hgw).c1
        have B_q0 := (B_q.out.on hgw).c0
        have B_q1 := (B_q.out.on hgw).c1
        have B_r0 := (B_r.out.on hgw).c0
        have B_r1 := (B_r.out.on hgw).c1
        have B_w0 := (B_w.out.on hgw).c0
        have B_w1 := (B_w.out.on hgw).c1
        have B_z0 := (B_z.out.on hgw).c0
        have B_z1 := (B_z.out.on hgw).c1
        have HGV := hid hgw
        clear hs hgw
        simp only [Ahead, Region.binds, slotOf, TelG, List.getD_cons_succ, List.getD_cons_zero, forall_const, and_true] at hA
        simp only [wantedD, isBool, slotOf, List.getD_cons_succ, List.getD_cons_zero, hA, if_true, beq_self_eq_true]
        unfold Oper.wp
        have ec : ∀ v, a.eval (.const v) = v := fun _ => rfl
        generalize hf : a.eval = f at *
        have ef : ∀ k, f (.func k) = Act.eval ⟨#[], []⟩ (.func k) := fun k => by rw [← hf]; rfl
        clear hf
        go_simp
        first
          | (with_reducible refine Gives.of' ?_ (Grew.refl _) ?_
             · rfl
             · rfl)
          | ((with_reducible refine (num_c _ _ (Hg.out.grew (HGW.out.trans HGV.out))).mono ?_); rintro e w3 ⟨rfl, hg3⟩; exact Gives.of hg3 rfl)
          | ((with_reducible refine (SU.out _ (HGW.out.trans HGV.out)).mono ?_); rintro e w3 ⟨rfl, hg3⟩; exact Gives.of hg3 rfl)
          | ((with_reducible refine (CK.out _ HGV.out).mono ?_); rintro e w3 ⟨rfl, hg3⟩; exact Gives.of hg3 rfl)
          | ((with_reducible refine (CM.out _ HGV.out).mono ?_); rintro e w3 ⟨rfl, hg3⟩; exact Gives.of hg3 rfl)
          | ((with_reducible refine (CQ.out _ HGV.out).mono ?_); rintro e w3 ⟨rfl, hg3⟩; exact Gives.of hg3 rfl)
          | ((with_reducible refine (CR.out _ HGV.out).mono ?_); rintro e w3 ⟨rfl, hg3⟩; exact Gives.of hg3 rfl)
          | ((with_reducible refine (CA.out _ HGV.out).mono ?_); rintro e w3 ⟨rfl, hg3⟩; exact Gives.of hg3 rfl)
          | ((with_reducible refine (CB.out _ HGV.out).mono ?_); rintro e w3 ⟨rfl, hg3⟩; exact Gives.of hg3 rfl)
          | (cases MY <;> (simp only [errChk_true, errChk_false] at hA; go_simp; exact Gives.of (Grew.refl _) rfl))
    · intro a w' hgw hs hf _ _
      have h4 := hf 56 (by decide)
      simp only [slotOf, TelG, List.getD_cons_succ, List.getD_cons_zero] at h4
      obtain ⟨f, rfl, hft⟩ := hs.put
      rw [hft] at h4
      clear hf hft
      simp only [List.drop, wpList, putAll, List.foldl_cons, List.foldl_nil, Act.put, List.setIfInBounds_toArray, List.set_cons_succ, List.set_cons_zero, h4]
      go_wp2_with fail
      go_ret
      exact ⟨rfl, HGW.out.trans hgw⟩
end Go.Proofs.YtmcfciifjgdgoaaGreatDoor

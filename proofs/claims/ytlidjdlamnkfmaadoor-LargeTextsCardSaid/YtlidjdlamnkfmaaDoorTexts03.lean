/- LargeTexts: for every int, every number and every string the law returns true, and nothing that was there is changed. Conditions: none of ours. -/
import Derived.Test.YtlidjdlamnkfmaaDoorOrder03
import Derived.Test.YtlidjdlamnkfmaaDoorRf10
namespace Go.Proofs.YtlidjdlamnkfmaaDoor
open Go.RowKit

theorem isNum_yes {na nb : Bool} {A B : Option Addr} {c d : Nat} {xs ys : List Nat} {W : World} (ha : NumsAt .u32 W W.heap.size A xs) (hb : NumsAt .u32 W W.heap.size B ys) (h1 : na = nb) (h2 : xs = ys) (hm : ys.length ≤ 1000000000000) :
    Calls Tryd.prog 16 #[.agg #[.bool na, .slice A xs.length c], .agg #[.bool nb, .slice B ys.length d]] W fun e w' => e = .returned (.bool true) ∧ Grew W w' := by
  have h := isNum_c na A c xs nb B d ys W ha hb hm
  rwa [decide_eq_true ⟨h1, h2⟩] at h

theorem small_of64 {z : Int} (h1 : -9223372036854775808 ≤ z) (h2 : z ≤ 9223372036854775807) : Lg.small z := by
  unfold Lg.small
  refine Nat.lt_of_lt_of_le (show z.natAbs < 4294967296 ^ 2 by omega) (Nat.pow_le_pow_right (by decide) (by decide))

set_option maxRecDepth 100000 in
set_option maxHeartbeats 4000000 in
theorem texts_walk (n : Int) (na : Bool) (A : Option Addr) (c : Nat) (xs : List Nat) (s : ByteArray) (w : World) (h1 : -9223372036854775808 ≤ n) (h2 : n ≤ 9223372036854775807)
    (ha : NumsAt .u32 w w.heap.size A xs) (lx : Dg.Low 4294967296 xs) (hx : xs.length ≤ 35184372088832) (hg : HandleAt w) :
    Calls Tryd.prog 3 #[.int .i64 n, .agg #[.bool na, .slice A xs.length c], .string s] w fun e w' => e = .returned (.bool true) ∧ Grew w w' := by
  have Hg := hid hg
  have HA := hid ha
  clear hg ha
  go_enter Tryd.func3, Tryd.ntmps3
  go_wp2_with fail
  obtain ⟨wb, hw1⟩ : ∃ wb, wb = w.alloc (.cells #[.bool na, .slice A xs.length c] 24) := ⟨_, rfl⟩
  have HG0 : Hid (Grew w wb) := hid (by rw [hw1]; exact (Grew.refl _).alloc _)
  have BA := hid (show BoxIn wb w.heap.size na A c xs by rw [hw1]; exact BoxIn.made na _ HA.out)
  rw [← hw1]
  clear hw1 HA
  obtain ⟨r1, hr1⟩ : ∃ r, r = big3 xs.length := ⟨_, rfl⟩
  have G1 := hid (great_c na A c xs.length wb hx)
  rw [← hr1] at G1
  cases r1
  case true =>
    refine G1.out.mono ?_
    rintro e w1 ⟨rfl, hg1⟩
    have HG1 := hid (HG0.out.trans hg1)
    clear hg1 hr1
    go_wp2_with fail
    refine (sure_c _ (Hg.out.grew HG1.out)).mono ?_
    rintro e w2 ⟨rfl, hg2⟩
    go_wp2_with fail
    go_ret
    exact ⟨rfl, HG1.out.trans hg2⟩
  case false =>
    have hlen := big3_le hr1.symm
    refine G1.out.mono ?_
    rintro e w1 ⟨rfl, hg1⟩
    have HG1 := hid (HG0.out.trans hg1)
    have BA1 := hid (BA.out.on hg1)
    clear hg1 hr1 G1 HG0 BA
    by_cases hl : 900 < s.size
    · have hl' : (900 : Int) < s.size := by omega
      go_wp2_with fail
      refine (sure_c _ (Hg.out.grew HG1.out)).mono ?_
      rintro e w2 ⟨rfl, hg2⟩
      go_wp2_with fail
      go_ret
      exact ⟨rfl, HG1.out.trans hg2⟩
    · have hl' : ¬ (900 : Int) < s.size := by omega
      have a0 := BA1.out.c0
      have a1 := BA1.out.c1
      go_wp2_with fail
      refine (giveNum_c na A c xs _ BA1.out.nums hx).mono ?_
      rintro e w2 ⟨A1, c1, rfl, hO1, hg2⟩
      have HO1 := hid hO1
      have HG2 := hid hg2
      clear hO1 hg2 a0 a1
      go_wp2_with fail
      refine (ptext_c na A1 c1 xs _ HO1.out.at lx (by omega)).mono ?_
      rintro e w3 ⟨t, k, rfl, hT, hg3⟩
      have BA3 := hid (BA1.out.on (HG2.out.trans hg3))
      have HG3 := hid (HG1.out.trans (HG2.out.trans hg3))
      have HT := hid hT
      have a0 := BA3.out.c0
      have a1 := BA3.out.c1
      clear hT hg3 HO1 HG2 BA1 HG1
      go_wp2_with fail
      refine (rtext_c na A c xs _ BA3.out.nums lx (by omega)).mono ?_
      rintro e w4 ⟨u, k', rfl, hT', hg4⟩
      obtain ⟨rfl, rfl⟩ := HT.out.inj hT'
      have BA4 := hid (BA3.out.on hg4)
      have HG4 := hid (HG3.out.trans hg4)
      clear hT' hg4 HT BA3 HG3 a0 a1
      go_wp2_with fail
      refine (pparse_c s _ (by omega)).mono ?_
      rintro e w5 ⟨A2, c2, g2, L2, k2, rfl, hO2, hP2, hg5⟩
      have BP := hid (BoxIn.made (c := c2) g2 31 hO2.at)
      have BA5 := hid (BA4.out.on (hg5.alloc (.cells #[.bool g2, .slice A2 L2.length c2] 31)))
      have HG5 := hid (HG4.out.trans (hg5.alloc (.cells #[.bool g2, .slice A2 L2.length c2] 31)))
      have HP2 := hid hP2
      clear hO2 hP2 hg5 BA4 HG4
      go_wp2_with fail
      refine (rparse_c s _ (by omega)).mono ?_
      rintro e w6 ⟨A3, c3, g3, L3, k3, rfl, hO3, hP3, hg6⟩
      obtain ⟨rfl, rfl, rfl⟩ := HP2.out.inj hP3
      have hP3l : L2.length ≤ 1000000000000 := by
        cases hf : Lg.formOk (Lg.signOf (Lg.bytes s)) (Lg.restOf (Lg.bytes s))
        · have := (hP3.no hf).2.2
          rw [this]; decide
        · by_cases hs : Lg.small (Lg.numOf (Lg.bytes s))
          · have := ((hP3.yes hf).yes hs).2.len.2 hs
            omega
          · have := ((hP3.yes hf).no hs).2.2
            rw [this]; decide
      have HL2 := hid hP3l
      have BQ := hid (BoxIn.made (c := c3) g2 24 hO3.at)
      have BA6 := hid (BA5.out.on hg6)
      have BP6 := hid (BP.out.on (hg6.alloc (.cells #[.bool g2, .slice A3 L2.length c3] 24)))
      have BA7 := hid (BA6.out.on ((Grew.refl w6).alloc (.cells #[.bool g2, .slice A3 L2.length c3] 24)))
      have HG6 := hid (HG5.out.trans (hg6.alloc (.cells #[.bool g2, .slice A3 L2.length c3] 24)))
      have a0 := BA6.out.c0
      have a1 := BA6.out.c1
      have al := BA6.out.lt
      clear hO3 hP3 hP3l hg6 BA5 HG5 BP HP2
      go_wp2_with fail
      refine (giveNum_c na A c xs _ BA7.out.nums hx).mono ?_
      rintro e w7 ⟨A4, c4, rfl, hO4, hg7⟩
      have HO4 := hid hO4
      have BP7 := hid (BP6.out.on hg7)
      have BQ7 := hid (BQ.out.on hg7)
      have HG7 := hid (HG6.out.trans hg7)
      clear hO4 hg7 a0 a1 al BA6 BA7 BP6 BQ HG6
      go_wp2_with fail
      have CK := pcheck_c na A4 c4 xs _ HO4.out.at (by omega)
      obtain ⟨m, hm⟩ : ∃ m, m = Lg.may na xs := ⟨_, rfl⟩
      rw [← hm] at CK
      obtain ⟨v, hv⟩ : ∃ v, v = errVal (if m = true then 0 else 1) := ⟨_, rfl⟩
      rw [← hv] at CK
      have HVV := hid hv
      clear hm hv
      refine CK.mono ?_
      clear CK
      rintro e w8 ⟨rfl, hg8⟩
      have BP8 := hid (BP7.out.on hg8)
      have BQ8 := hid (BQ7.out.on hg8)
      have HG8 := hid (HG7.out.trans hg8)
      clear hg8 BP7 BQ7 HG7 HO4
      go_wp2_with fail
      refine (pof_c n _ h1 h2).mono ?_
      rintro e w9 ⟨A5, c5, xs5, rfl, hO5, hR5, hg9⟩
      have HO5 := hid hO5
      have HR5 := hid hR5
      have HG9 := hid hg9
      clear hO5 hR5 hg9
      go_wp2_with fail
      refine (of_c n _ h1 h2).mono ?_
      rintro e w10 ⟨A6, c6, xs6, rfl, hO6, hR6, hg10⟩
      have HO5' := hid (HO5.out.grew hg10)
      have HO6 := hid hO6
      have HR6 := hid hR6
      have HE := hid ((HR5.out.inj hR6).2)
      have HG10 := hid (HG9.out.trans hg10)
      have hL6 : xs6.length ≤ 1000000000000 := by
        have hs : Lg.small n := small_of64 h1 h2
        have := hR6.len.2 hs
        omega
      clear hO6 hR6 hg10 HO5 HG9
      go_wp2_with fail
      refine (isNum_yes HO5'.out.at HO6.out.at rfl HE.out hL6).mono ?_
      rintro e w11 ⟨rfl, hg11⟩
      have HG11 := hid (HG8.out.trans (HG10.out.trans hg11))
      have BP11 := hid (BP8.out.on (HG10.out.trans hg11))
      have BQ11 := hid (BQ8.out.on (HG10.out.trans hg11))
      clear hg11 HO5' HO6 HE HG8 HG10 BP8 BQ8 hL6 HR5 HR6
      have CN := hid (num_c k w11 (Hg.out.grew HG11.out))
      go_wp2_with fail
      refine CN.out.mono ?_
      rintro e w12 ⟨rfl, hg12⟩
      have HG12 := hid (HG11.out.trans hg12)
      have BP12 := hid (BP11.out.on hg12)
      have BQ12 := hid (BQ11.out.on hg12)
      have p0 := BP12.out.c0
      have p1 := BP12.out.c1
      have q0 := BQ12.out.c0
      have q1 := BQ12.out.c1
      clear hg12 HG11 BP11 BQ11 CN
      go_wp2_with fail
      refine (isNum_yes BP12.out.nums BQ12.out.nums rfl rfl HL2.out).mono ?_
      rintro e w13 ⟨rfl, hg13⟩
      have HG13 := hid (HG12.out.trans hg13)
      clear hg13 p0 p1 q0 q1 HG12 BP12 BQ12
      have CN := hid (num_c k2 w13 (Hg.out.grew HG13.out))
      cases m
      · obtain rfl := HVV.out
        rw [show errVal (if (false = true) then 0 else 1) = .iface 63 (.int .i64 1) from rfl]
        go_wp2_with fail
        refine CN.out.mono ?_
        rintro e w14 ⟨rfl, hg14⟩
        have HG14 := hid (HG13.out.trans hg14)
        have CM := hid (num_c 1 w14 (Hg.out.grew HG14.out))
        rw [show errVal 1 = .iface 63 (.int .i64 1) from rfl] at CM
        clear hg14 CN HG13
        go_wp2_with fail
        refine CM.out.mono ?_
        rintro e w15 ⟨rfl, hg15⟩
        have HG15 := hid (HG14.out.trans hg15)
        clear hg15 CM HG14
        go_wp2_with fail
        refine (sure_c _ (Hg.out.grew HG15.out)).mono ?_
        rintro e w16 ⟨rfl, hg16⟩
        go_wp2_with fail
        go_ret
        exact ⟨rfl, HG15.out.trans hg16⟩
      · obtain rfl := HVV.out
        rw [show errVal (if (true = true) then 0 else 1) = .nilIface from rfl]
        go_wp2_with fail
        refine CN.out.mono ?_
        rintro e w14 ⟨rfl, hg14⟩
        have HG14 := hid (HG13.out.trans hg14)
        clear hg14 CN HG13
        go_wp2_with fail
        refine (sure_c _ (Hg.out.grew HG14.out)).mono ?_
        rintro e w16 ⟨rfl, hg16⟩
        go_wp2_with fail
        go_ret
        exact ⟨rfl, HG14.out.trans hg16⟩
end Go.Proofs.YtlidjdlamnkfmaaDoor

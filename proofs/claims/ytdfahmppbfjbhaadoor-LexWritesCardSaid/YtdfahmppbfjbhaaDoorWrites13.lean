/- Law LexWrites walked. -/
import Derived.Test.YtdfahmppbfjbhaaDoorWxN
import Derived.Test.YtdfahmppbfjbhaaDoorRwE
import Derived.BigQuiet
namespace Go.Proofs.YtdfahmppbfjbhaaDoor
open Go.RowKit

/-- What the operations of the comparison give. -/
def WrF (ad : Addr) (n cap i k : Nat) (s : ByteArray) (o : Int) (b : Bool) (j : Nat) (v : Value) (_ : World) : Prop := match j with
  | 0 => v = .slice (some ad) n cap
  | 1 => v = .int .i64 ((i : Nat) : Int)
  | 2 => v = .pointer (some (ad.add (i * 3)))
  | 3 => v = .agg #[.int .u8 ((k : Nat) : Int), .string s, .int .i64 o]
  | 4 => v = .bool b
  | 5 => v = .slice (some ad) n cap
  | 6 => v = .int .i64 ((i : Nat) : Int)
  | 7 => v = .pointer (some (ad.add (i * 3)))
  | 8 => v = .agg #[.int .u8 ((k : Nat) : Int), .string s, .int .i64 o]
  | 9 => v = .bool b
  | 10 => v = .bool false
  | _ => True
theorem WrF.grew {ad : Addr} {n cap i k : Nat} {s : ByteArray} {o : Int} {b : Bool} : ∀ j v w1 w2, WrF ad n cap i k s o b j v w1 → Grew w1 w2 → WrF ad n cap i k s o b j v w2 := fun _ _ _ _ h _ => h
set_option maxRecDepth 100000 in
set_option maxHeartbeats 8000000 in
theorem writes13_walk (A : Option Addr) (cap : Nat) (l : List Lx.Word) (w : World) (hm : EnvAt w) (hh : HandleAt w) (h : WordsAt w A l) :
    Calls Tryd.prog 4 #[.slice A l.length cap] w fun e w' => e = .returned (.bool true) ∧ Grew w w' := by
  have HE := hid hm
  have HH := hid hh
  have HA := hid h
  obtain ⟨n, en⟩ : ∃ n, n = l.length := ⟨_, rfl⟩
  rw [← en]
  have EN := hid en
  clear hm hh h en
  have HS := hid (fun W (hg : Grew w W) => sure_c W (HE.out.grew hg) (HH.out.grew hg))
  go_enter Tryd.func4, Tryd.ntmps4
  go_wp2_with fail
  go_loopw [3, 4] (fun s3 s4 wr => ∃ (i t : Nat), s4 = .int .i64 ((i : Nat) : Int) ∧ s3 = .int .i64 ((t : Nat) : Int) ∧ i ≤ n ∧ i ≤ 65537 ∧ t ≤ 262144 ∧ Hid (∀ x ∈ l.take i, x.s.size ≤ 262144) ∧ Hid (Grew w wr)) (fun _ s4 _ => 65537 - (intOf s4).toNat)
  case atStart => exact ⟨0, 0, rfl, rfl, Nat.zero_le _, Nat.zero_le _, Nat.zero_le _, hid (by simp), hid (Grew.refl _)⟩
  case round =>
    obtain ⟨i, t, rfl, rfl, hi, hi6, ht, HT, HG⟩ := hrel
    by_cases hlt : i < n
    · have f1 : (i : Int) < n := by omega
      obtain ⟨ad, x, rfl, hx, q0, q1, q2, hb, hk, _⟩ := word_at HA.out HG.out (i := i) (by rw [← EN.out]; exact hlt)
      have HT2 : Hid (x.s.size ≤ 262144 → ∀ y ∈ l.take (i + 1), y.s.size ≤ 262144) := hid (fun hs y hy => by
        rw [List.take_add_one, hx] at hy
        rcases List.mem_append.1 hy with hy | hy
        · exact HT.out y hy
        · simp at hy
          rw [hy]
          exact hs)
      have HQ := hid (fun W (hg : Grew w W) => by
        obtain ⟨ad2, x2, e2, hx2, r0, r1, r2, rb, _⟩ := word_at HA.out hg (i := i) (by rw [← EN.out]; exact hlt)
        rw [hx] at hx2
        cases hx2
        cases e2
        exact (⟨r0, r1, r2, rb⟩ : W.cell? (ad.add (i * 3)) = some (.int .u8 ((x.k : Nat) : Int)) ∧ W.cell? ⟨ad.block, (ad.add (i * 3)).off + 1, none⟩ = some (.string x.s) ∧ W.cell? ⟨ad.block, (ad.add (i * 3)).off + 2, none⟩ = some (.int .i64 x.o) ∧ ad.block < W.heap.size))
      obtain ⟨k, s, o⟩ := x
      simp only at q0 q1 q2 HT2 HQ hk
      obtain ⟨u, hu, hu2, hu3⟩ : ∃ u : Nat, min ((s.size : Nat) : Int) 1048576 = ((u : Nat) : Int) ∧ u ≤ 1048576 ∧ (u ≤ 262144 → s.size ≤ 262144) := ⟨min s.size 1048576, by omega, by omega, by omega⟩
      clear hx
      by_cases hbig : 262144 < t + u
      · have f2 : (262144 : Int) < ((t : Nat) : Int) + ((u : Nat) : Int) := by omega
        go_wp2_with fail
        refine (HS.out _ HG.out).mono ?_
        rintro e w2 ⟨rfl, hg2⟩
        have HG2 := hid (HG.out.trans hg2)
        clear hg2
        go_wp2_with fail
        go_ret
        exact ⟨rfl, HG2.out⟩
      · have f2 : ¬ (262144 : Int) < ((t : Nat) : Int) + ((u : Nat) : Int) := by omega
        by_cases hi2 : 65536 < i
        · have f3 : (65536 : Int) < ((i : Nat) : Int) := by omega
          go_wp2_with fail
          refine (HS.out _ HG.out).mono ?_
          rintro e w2 ⟨rfl, hg2⟩
          have HG2 := hid (HG.out.trans hg2)
          clear hg2
          go_wp2_with fail
          go_ret
          exact ⟨rfl, HG2.out⟩
        · have f3 : ¬ (65536 : Int) < ((i : Nat) : Int) := by omega
          have hss := hu3 (by omega)
          have HT3 := hid (HT2.out hss)
          have HMa := hid (fun W => may_c k hk s o (by omega) W)
          have HMb := hid (fun W => rmay_c k hk s o (by omega) W)
          generalize Lx.may ⟨k, s, o⟩ = b at *
          clear hu3 hss
          go_upto_region 8 with fail
          clear q0 q1 q2 hb
          have hmx : Tryd.prog.follows .mixedOrders = true := by kernel_rfl
          refine wp_region_facts (w0 := wr) wr 11 [31, 32, 33, 34, 35, 36, 37, 38, 39, 40, 41] [] (WrF ad n cap i k s o b) hmx (by kernel_rfl) (Grew.refl _) WrF.grew ?_ ?_
          · repeat' (first | exact trivial | apply And.intro)
            all_goals
              intro a w' hgw hs hA
              have e0 := hs.eval 0 (by decide) (v := .slice (some ad) n cap) rfl
              have e4 := hs.eval 4 (by decide) (v := .int .i64 ((i : Nat) : Int)) rfl
              have HGW := hid (HG.out.trans hgw)
              obtain ⟨q0, q1, q2, hb⟩ := HQ.out _ HGW.out
              clear hs hgw
              simp only [Ahead, Region.binds, slotOf, WrF, List.getD_cons_succ, List.getD_cons_zero, forall_const, and_true] at hA
              simp only [wantedD, if_true]
              unfold Oper.wp
              have ec : ∀ v, a.eval (.const v) = v := fun _ => rfl
              have ef : ∀ z, a.eval (.func z) = .func (.func z) #[] #[] := fun _ => rfl
              generalize hfe : a.eval = fe at *
              clear hfe
            · go_simp
              exact Gives.of' rfl (Grew.refl _) rfl
            · go_simp
              exact Gives.of' rfl (Grew.refl _) rfl
            · go_simp
              exact Gives.of' rfl (Grew.refl _) rfl
            · go_simp
              exact Gives.of' rfl (Grew.refl _) rfl
            · go_simp
              refine (HMa.out _).mono ?_
              rintro e wy ⟨rfl, hgy⟩
              exact Gives.of' rfl hgy rfl
            · go_simp
              exact Gives.of' rfl (Grew.refl _) rfl
            · go_simp
              exact Gives.of' rfl (Grew.refl _) rfl
            · go_simp
              exact Gives.of' rfl (Grew.refl _) rfl
            · go_simp
              exact Gives.of' rfl (Grew.refl _) rfl
            · go_simp
              refine (HMb.out _).mono ?_
              rintro e wy ⟨rfl, hgy⟩
              exact Gives.of' rfl hgy rfl
            · cases b
              all_goals
                go_simp
                exact Gives.of' rfl (Grew.refl _) rfl
          intro a w3 hgw hs hf _ _
          have h10 := hf 10 (by decide)
          simp only [slotOf, WrF, List.getD_cons_succ, List.getD_cons_zero] at h10
          obtain ⟨fn, rfl, hft⟩ := hs.put
          rw [hft] at h10
          have HG3 := hid (HG.out.trans hgw)
          clear hf hft hs hgw
          simp only [List.drop_succ_cons, List.drop_zero, putAll, List.foldl_cons, List.foldl_nil, Act.put, List.setIfInBounds_toArray, List.set_cons_succ, List.set_cons_zero, h10]
          clear h10
          go_wp2_with fail
          go_round
          case rel => exact ⟨i + 1, t + u, by go_num, by go_num, by omega, by omega, by omega, HT3, HG3⟩
          case measure => simp [intOf]; omega
    · have hin : n = i := by omega
      subst hin
      have HSz : Hid (∀ x ∈ l, x.s.size ≤ 262144) := hid (by
        have := HT.out
        rwa [EN.out, List.take_length] at this)
      clear HT hlt
      have hgv := giveWords_c A cap l wr (HA.out.grew HG.out) (by rw [← EN.out]; omega)
      rw [← EN.out] at hgv
      unfold GiveW at hgv
      rw [← EN.out] at hgv
      have HGv := hid hgv
      clear hgv
      go_wp2_with fail
      refine HGv.out.mono ?_
      rintro e w1 ⟨A1, c1, rfl, hr1, hg1⟩
      have HG1 := hid (HG.out.trans hg1)
      have HA1 := hid (row_words hr1 EN.out HA.out.k HA.out.o)
      clear hr1 hg1
      have htx := text_c A1 c1 l w1 HA1.out (by rw [← EN.out]; omega) (fun x hx => by have := HSz.out x hx; omega) (HE.out.grew HG1.out)
      rw [← EN.out] at htx
      have HTx := hid htx
      clear htx
      go_wp2_with fail
      refine HTx.out.mono ?_
      rintro e w2 ⟨hg2, hp⟩
      have HG2 := hid (HG1.out.trans hg2)
      clear hg2
      have hrt := rtext_c A cap l w2 (HA.out.grew HG2.out) (by rw [← EN.out]; omega) (fun x hx => by have := HSz.out x hx; omega)
      rw [← EN.out] at hrt
      have HRt := hid hrt
      clear hrt
      rcases hp with ⟨hma, rfl⟩ | ⟨hma, hts, rfl⟩ | ⟨hma, hts, rfl⟩
      · have HN := hid (fun W (hg : Grew w W) => num_c 1 W (HH.out.grew hg))
        unfold errVal
        go_wp2_with fail
        refine HRt.out.mono ?_
        rintro e w3 ⟨hg3, hq⟩
        have HG3 := hid (HG2.out.trans hg3)
        clear hg3
        rcases hq with ⟨_, rfl⟩ | ⟨h, _⟩ | ⟨h, _⟩
        · go_wp2_with fail
          refine (HN.out _ HG3.out).mono ?_
          rintro e w4 ⟨rfl, hg4⟩
          have HG4 := hid (HG3.out.trans hg4)
          clear hg4
          go_wp2_with fail
          refine (HS.out _ HG4.out).mono ?_
          rintro e w5 ⟨rfl, hg5⟩
          have HG5 := hid (HG4.out.trans hg5)
          clear hg5
          go_wp2_with fail
          go_ret
          exact ⟨rfl, HG5.out⟩
        · rw [hma] at h; cases h
        · rw [hma] at h; cases h
      · have HN := hid (fun W (hg : Grew w W) => num_c 4 W (HH.out.grew hg))
        have HTs := hid hts
        clear hts
        unfold errVal
        go_wp2_with fail
        refine HRt.out.mono ?_
        rintro e w3 ⟨hg3, hq⟩
        have HG3 := hid (HG2.out.trans hg3)
        clear hg3
        rcases hq with ⟨h, _⟩ | ⟨_, _, rfl⟩ | ⟨_, h, _⟩
        · rw [hma] at h; cases h
        · go_wp2_with fail
          refine (HN.out _ HG3.out).mono ?_
          rintro e w4 ⟨rfl, hg4⟩
          have HG4 := hid (HG3.out.trans hg4)
          clear hg4
          go_wp2_with fail
          refine (HS.out _ HG4.out).mono ?_
          rintro e w5 ⟨rfl, hg5⟩
          have HG5 := hid (HG4.out.trans hg5)
          clear hg5
          go_wp2_with fail
          go_ret
          exact ⟨rfl, HG5.out⟩
        · have := HTs.out; exact absurd h (by omega)
      · have HN := hid (fun W (hg : Grew w W) => show Calls Tryd.prog 10 #[.nilIface] W fun e w' => e = .returned (.int .i64 ((0 : Nat) : Int)) ∧ Grew W w' from num_c 0 W (HH.out.grew hg))
        have HTs := hid hts
        clear hts
        obtain ⟨y, hy⟩ : ∃ y, y = ofL (Lx.text l) := ⟨_, rfl⟩
        rw [← hy]
        have HY := hid hy
        clear hy
        go_wp2_with fail
        refine HRt.out.mono ?_
        rintro e w3 ⟨hg3, hq⟩
        have HG3 := hid (HG2.out.trans hg3)
        clear hg3
        rcases hq with ⟨h, _⟩ | ⟨_, h, _⟩ | ⟨_, _, he⟩
        · rw [hma] at h; cases h
        · have := HTs.out; exact absurd h (by omega)
        · rw [← HY.out] at he
          subst he
          go_wp2_with fail
          refine (HN.out _ HG3.out).mono ?_
          rintro e w4 ⟨rfl, hg4⟩
          have HG4 := hid (HG3.out.trans hg4)
          clear hg4
          go_wp2_with fail
          refine (HS.out _ HG4.out).mono ?_
          rintro e w5 ⟨rfl, hg5⟩
          have HG5 := hid (HG4.out.trans hg5)
          clear hg5
          go_wp2_with fail
          go_ret
          exact ⟨rfl, HG5.out⟩
end Go.Proofs.YtdfahmppbfjbhaaDoor

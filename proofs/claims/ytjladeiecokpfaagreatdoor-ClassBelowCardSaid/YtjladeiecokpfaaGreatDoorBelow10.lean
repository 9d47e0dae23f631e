/- ClassBelow: the law's walk. -/
import Derived.Test.YtjladeiecokpfaaGreatDoorMg51
import Derived.Test.YtjladeiecokpfaaGreatDoorMg52
namespace Go.Proofs.YtjladeiecokpfaaGreatDoor
open Go.RowKit

theorem StrsAt.take10 {w : World} {B : Nat} {A : Option Addr} {l : List ByteArray} (h : StrsAt w B A l) (k : Nat) : StrsAt w B A (l.take k) := fun hl => by
  obtain ⟨ad, h1, h2, h3⟩ := h (by rw [List.length_take] at hl; omega)
  refine ⟨ad, h1, h2, fun i s hi => h3 i s ?_⟩
  rw [List.getElem?_take] at hi
  split at hi
  · exact hi
  · cases hi
set_option maxRecDepth 100000 in
set_option maxHeartbeats 16000000 in
theorem below10_walk (A : Option Addr) (cap : Nat) (l : List CV) (A2 : Option Addr) (c2 : Nat) (ms : List MV) (a b : Nat) (ha : a < 256) (hb0 : b < 256) (w : World) (h : ClsArg w A l) (hr : ClsReach l) (h2 : MethsArg w A2 ms) (hr2 : MethsReach ms) (hh : HandleAt w) (hE : Env w) :
    Calls Tryz.prog 4 #[.slice A l.length cap, .slice A2 ms.length c2, .agg #[.int .u8 ((a : Nat) : Int), .int .u8 ((b : Nat) : Int)]] w (yes10 w) := by
  have HW1 := hid (show IntKind.i64.wrap ((a : Nat) : Int) = ((a : Nat) : Int) from IntWalk.i64_in _ (by omega))
  have HW2 := hid (show IntKind.i64.wrap ((b : Nat) : Int) = ((b : Nat) : Int) from IntWalk.i64_in _ (by omega))
  clear ha hb0
  have HS := hid (fun (w' : World) (hg : Grew w w') => (show Calls Tryz.prog 8 #[] w' fun e w'' => e = .returned (.bool true) ∧ Grew w' w'' from sure10_c w' (hh.grew hg) (hE.grew hg)))
  obtain ⟨bb, hbb⟩ : ∃ d : Bool, d = true ↔ BigC l ms := ⟨tru _, tru_iff _⟩
  have HBg := hid (fun (w' : World) (hg : Grew w w') => bigClasses_c A cap l A2 c2 ms bb hbb w' (h.grew hg) (h2.grew hg))
  have HGc := hid (fun (w' : World) (hg : Grew w w') => giveClasses_w A cap l w' (h.grew hg) hr)
  have HGm := hid (fun (hn : ¬ BigC l ms) (w' : World) (hg : Grew w w') => giveMethods_c A2 c2 ms w' ((h2.fit hn).grew hg))
  have HGw := hid (fun (w' : World) (hg : Grew w w') => giveMethods_w A2 c2 ms w' (h2.grew hg) hr2)
  have HFit := hid (fun (hn : ¬ BigC l ms) => (h.fit hn).fit)
  have HE := hid hE
  have HBb := hid hbb
  obtain ⟨W, hW⟩ : ∃ W, W = w.alloc (.cells #[.int .u8 ((a : Nat) : Int), .int .u8 ((b : Nat) : Int)] 51) := ⟨_, rfl⟩
  have hg : Grew w W := by rw [hW]; exact (Grew.refl w).alloc _
  have hb : Blk W w.heap.size 51 #[.int .u8 ((a : Nat) : Int), .int .u8 ((b : Nat) : Int)] := by rw [hW]; exact Blk.new w _ _
  have HG := hid hg
  have HB := hid hb
  clear h hr h2 hr2 hh hE hbb hg hb
  generalize l.length = n0 at *
  generalize ms.length = m0 at *
  go_enter Tryz.func4, Tryz.ntmps4
  go_wp2_with fail
  rw [← hW]
  clear hW
  refine (HGc.out _ HG.out).mono ?_
  rintro e w2 ⟨vs, Ax, cx, rfl, hsame, hown, hg2⟩
  have HSame := hid hsame
  have HOwn := hid hown
  have HG2 := hid (HG.out.trans hg2)
  have HB2 := hid (HB.out.grew hg2)
  clear hsame hown hg2 HGc HB
  go_wp2_with fail
  cases bb
  · have HNb : Hid (¬ BigC l ms) := hid (fun hc => by have := HBb.out.2 hc; cases this)
    clear HBb HGw
    refine (HGm.out HNb.out _ HG2.out).mono ?_
    rintro e w3 ⟨us, Ay, cy, rfl, hum, hma, hg3⟩
    have HG3 := hid (HG2.out.trans hg3)
    have HB3 := hid (HB2.out.grew hg3)
    have hfit : ClsFit (cls vs) := by rw [HSame.out]; exact HFit.out HNb.out
    have HGv : Hid (Given w3 l ms Ax cx vs Ay us) := hid ⟨⟨HOwn.out.arg.grew hg3, hfit⟩, HOwn.out.cap, hma, HSame.out, HE.out.grew HG3.out⟩
    obtain ⟨bc, hbc⟩ : ∃ d : Bool, d = true ↔ MayC vs us := ⟨tru _, tru_iff _⟩
    have HCk := hid (fun (w' : World) (hg : Grew w3 w') => ccheck_c Ax cx vs Ay cy us bc hbc w' (HGv.out.cl.grew hg) HGv.out.cap (HGv.out.ms.grew hg) (HGv.out.env.grew hg))
    have HFi := hid (fun (x : Int) (s : ByteArray) (w' : World) (hg : Grew w3 w') => find_c Ax cx vs Ay cy us x s w' (HGv.out.cl.grew hg) (HGv.out.ms.grew hg))
    have HOw := hid (fun (k : Int) (w' : World) (hg : Grew w3 w') => owner_c Ax cx vs k w' (HGv.out.cl.grew hg))
    have HUn := hid (fun (x y : Int) (w' : World) (hg : Grew w3 w') => under_c Ax cx vs x y w' (HGv.out.cl.grew hg))
    have HNm := hid (fun (x : Int) (w' : World) (hg : Grew w3 w') => names_c Ax cx vs x w' (HGv.out.cl.grew hg))
    have HFe := hid (show ∀ x, (Cs.names (cls vs) x).length ≤ 1000000 from names_few hfit)
    have HBc := hid hbc
    have HMs := hid HGv.out.ms
    clear hum hma hg3 hfit hbc HGv HOwn HSame HB2 HG2 HGm HNb HFit
    have hUl : us.length ≤ 100 := HMs.out.len
    obtain ⟨m, em⟩ : ∃ m, m = us.length := ⟨_, rfl⟩
    rw [← em] at HCk HFi hUl ⊢
    have EM := hid em
    clear em
    obtain ⟨n, en⟩ : ∃ n, n = vs.length := ⟨_, rfl⟩
    rw [← en] at HCk HFi HOw HUn HNm ⊢
    have EN := hid en
    clear en
    go_wp2_with fail
    refine (HBg.out _ HG3.out).mono ?_
    rintro e w4 ⟨rfl, hg4⟩
    have HG4 := hid hg4
    clear hg4 HBg
    cases bc
    · rw [show ckVal false = .iface 75 (.int .i64 8) from rfl] at HCk
      go_wp2_with fail
      refine (HCk.out _ HG4.out).mono ?_
      rintro e w5 ⟨rfl, hg5⟩
      have HG5 := hid (HG3.out.trans (HG4.out.trans hg5))
      clear hg5
      go_wp2_with fail
      refine (HS.out _ HG5.out).mono ?_
      rintro e w6 ⟨rfl, hg6⟩
      have HG6 := hid (HG5.out.trans hg6)
      clear hg6
      go_wp2_with fail
      go_ret
      exact ⟨rfl, HG6.out⟩
    · rw [show ckVal true = .nilIface from rfl] at HCk
      have HMay := hid (HBc.out.1 rfl)
      clear HBc
      go_wp2_with fail
      refine (HCk.out _ HG4.out).mono ?_
      rintro e w5 ⟨rfl, hg5⟩
      have HG5 := hid (HG4.out.trans hg5)
      clear hg5 HCk HG4
      have hlen := HMay.out.len
      rw [cls_len, ← EN.out] at hlen
      obtain ⟨c, hc⟩ : ∃ c, c = a % n := ⟨_, rfl⟩
      have hcn : c < n := by rw [hc]; exact Nat.mod_lt _ (by omega)
      have t1 : (((a : Nat) : Int).tmod ((n : Nat) : Int)) = ((c : Nat) : Int) := by rw [hc]; rfl
      have hn0 : ¬ n = 0 := by omega
      have hw1 := HW1.out
      have u0 := Cs.under_zero HMay.out (c + 1) c (Nat.lt_succ_self _) (by rw [cls_len, ← EN.out]; exact hcn)
      have uc := Cs.under_self (l := cls vs) (c := c) (by rw [cls_len, ← EN.out]; exact hcn)
      have HU0 := hid (HUn.out ((c : Nat) : Int) 0)
      rw [u0] at HU0
      have HUc := hid (HUn.out ((c : Nat) : Int) ((c : Nat) : Int))
      rw [uc] at HUc
      have r0 := (HB3.out.grew HG5.out).cell 0
      have rl := (HB3.out.grew HG5.out).lt
      simp only [List.getElem?_toArray, List.getElem?_cons_zero] at r0
      clear hc u0 uc
      go_wp2_with fail
      refine (HU0.out _ HG5.out).mono ?_
      rintro e w6 ⟨rfl, hg6⟩
      have HG6 := hid (HG5.out.trans hg6)
      clear hg6 r0 rl HU0 t1 hw1
      go_wp2_with fail
      refine (HUc.out _ HG6.out).mono ?_
      rintro e w7 ⟨rfl, hg7⟩
      have HG7 := hid (HG6.out.trans hg7)
      clear hg7 HUc HG5 HG6
      go_wp2_with fail
      go_loopw [10, 11, 12, 13, 14, 15, 16, 17] (fun s10 _ _ _ _ _ _ _ wr => ∃ d : Nat, s10 = .int .i64 ((d : Nat) : Int) ∧ d ≤ n ∧ Hid (Grew w3 wr)) (fun s10 _ _ _ _ _ _ _ _ => n - (intOf s10).toNat)
      case atStart => exact ⟨0, rfl, Nat.zero_le _, HG7⟩
      case round =>
        obtain ⟨d, rfl, hd, HGr⟩ := hrel
        by_cases hlt : d < n
        · have f1 : (d : Int) < ((n : Nat) : Int) := by omega
          have HUd := hid (HUn.out ((c : Nat) : Int) ((d : Nat) : Int))
          cases hu : Cs.under (cls vs) ((c : Nat) : Int) ((d : Nat) : Int) with
          | false =>
            rw [hu] at HUd
            clear hu
            go_wp2_with fail
            refine (HUd.out _ HGr.out).mono ?_
            rintro e wa ⟨rfl, hga⟩
            have HGa := hid (HGr.out.trans hga)
            clear hga HUd
            go_wp2_with fail
            go_roundw
            case rel => exact ⟨d + 1, by go_num, by omega, HGa⟩
            case measure => simp [intOf]; omega
          | true =>
            rw [hu] at HUd
            have HUt := hid hu
            clear hu
            go_wp2_with fail
            refine (HUd.out _ HGr.out).mono ?_
            rintro e wa ⟨rfl, hga⟩
            have HGa := hid (HGr.out.trans hga)
            clear hga HUd
            go_wp2_with fail
            refine (HNm.out ((d : Nat) : Int) _ HGa.out).mono ?_
            rintro e wb ⟨B1, d1, rfl, hr1, hgb⟩
            have HR1 := hid (row_strs hr1 rfl)
            have HGb := hid (HGa.out.trans hgb)
            obtain ⟨r1, er1⟩ : ∃ r1, r1 = Cs.names (cls vs) ((d : Nat) : Int) := ⟨_, rfl⟩
            rw [← er1] at HR1 ⊢
            obtain ⟨k1, ek1⟩ : ∃ k1, k1 = r1.length := ⟨_, rfl⟩
            rw [← ek1]
            have EK1 := hid ek1
            have ER1 := hid er1
            clear hr1 hgb er1 ek1 HGa
            go_wp2_with fail
            refine (HNm.out ((c : Nat) : Int) _ HGb.out).mono ?_
            rintro e wc ⟨B2, d2, rfl, hr2, hgc⟩
            obtain ⟨more, hmore⟩ := Cs.names_prefix HUt.out
            rw [← ER1.out] at hmore
            have hcap2 := hr2.cases.2.1
            have HR2 := hid (row_strs hr2 rfl)
            have HGc := hid (HGb.out.trans hgc)
            have hfew := HFe.out ((c : Nat) : Int)
            have hfew1 := HFe.out ((d : Nat) : Int)
            rw [← ER1.out] at hfew1
            rw [hmore] at HR2 hcap2 hfew ⊢
            have hk12 : k1 ≤ (r1 ++ more).length := by rw [List.length_append, EK1.out]; omega
            have htk : (r1 ++ more).take k1 = r1 := by rw [EK1.out]; exact List.take_left
            have HT := hid (texts_c B2 d2 ((r1 ++ more).take k1) B1 d1 r1 wc (HR2.out.take10 k1) (HR1.out.grew hgc) (by rw [htk]; omega) (by omega))
            rw [htk, decide_eq_true (rfl : r1 = r1), ← EK1.out] at HT
            obtain ⟨k2, ek2⟩ : ∃ k2, k2 = (r1 ++ more).length := ⟨_, rfl⟩
            rw [← ek2] at hcap2 hk12 hfew ⊢
            have g1 : ¬ ((k2 : Nat) : Int) < ((k1 : Nat) : Int) := by omega
            have g2 : k1 ≤ d2 := by omega
            have g3 : ¬ k2 < k1 := by omega
            have g4 : decide (k2 < k1) = false := decide_eq_false g3
            clear hr2 hgc hmore ek2 htk HR2 HR1
            go_wp2_with fail
            refine HT.out.mono ?_
            rintro e wd ⟨rfl, hgd⟩
            have HGd := hid (HGc.out.trans hgd)
            clear hgd HT hfew hfew1 EK1 ER1 HGb HGc
            go_wp2_with fail
            clear g1 g2 g3 g4 hcap2 hk12
            go_loopw [13, 14, 15, 16, 17] (fun s13 _ _ _ _ wr2 => ∃ i : Nat, s13 = .int .i64 ((i : Nat) : Int) ∧ i ≤ m ∧ Hid (Grew w3 wr2)) (fun s13 _ _ _ _ _ => m - (intOf s13).toNat)
            case atStart => exact ⟨0, rfl, Nat.zero_le _, HGd⟩
            case round =>
              obtain ⟨i, rfl, hi, HGi⟩ := hrel
              by_cases hlt2 : i < m
              · have f2 : (i : Int) < ((m : Nat) : Int) := by omega
                obtain ⟨ad, u, rfl, huu, m0', -, -, ml, -⟩ := meth_at HMs.out HGi.out (i := i) (by rw [← EM.out]; exact hlt2)
                have HUu := hid huu
                have hp : ∃ (p0 : Nat) (q0 : Bool) (p1 : Nat) (q1 : Bool), (∀ w', Grew w3 w' → Calls Tryz.prog 12 #[.slice Ax n cx, .slice (some ad) m cy, .int .i64 ((d : Nat) : Int), .string u.sel] w' fun e w'' => e = .returned (.tuple #[.int .i64 ((p0 : Nat) : Int), .bool q0]) ∧ Grew w' w'') ∧ (∀ w', Grew w3 w' → Calls Tryz.prog 12 #[.slice Ax n cx, .slice (some ad) m cy, .int .i64 ((c : Nat) : Int), .string u.sel] w' fun e w'' => e = .returned (.tuple #[.int .i64 ((p1 : Nat) : Int), .bool q1]) ∧ Grew w' w'') ∧ (q0 = true → q1 = true) :=
                  ⟨_, _, _, _, fun w' hg => HFi.out ((d : Nat) : Int) u.sel w' hg, fun w' hg => HFi.out ((c : Nat) : Int) u.sel w' hg, fun hs => Cs.find_under HUt.out hs⟩
                obtain ⟨p0, q0, p1, q1, hf0, hf1, himp⟩ := hp
                have HF0' := hid hf0
                have HF1' := hid hf1
                have HImp := hid himp
                clear huu hf0 hf1 himp
                go_wp2_with fail
                refine (HF0'.out _ HGi.out).mono ?_
                rintro e we ⟨rfl, hge⟩
                have HGe := hid (HGi.out.trans hge)
                clear hge m0' ml HF0'
                obtain ⟨m0', -, -, ml, -⟩ := meth_get HMs.out HGe.out HUu.out
                go_wp2_with fail
                refine (HF1'.out _ HGe.out).mono ?_
                rintro e wf ⟨rfl, hgf⟩
                have HGf := hid (HGe.out.trans hgf)
                clear hgf m0' ml HF1'
                cases q0 with
                | false =>
                  clear HImp
                  go_wp2_with fail
                  go_roundw
                  case rel => exact ⟨i + 1, by go_num, by omega, HGf⟩
                  case measure => simp [intOf]; omega
                | true =>
                  have hq1 := HImp.out rfl
                  subst hq1
                  clear HImp
                  go_wp2_with fail
                  go_roundw
                  case rel => exact ⟨i + 1, by go_num, by omega, HGf⟩
                  case measure => simp [intOf]; omega
              · have f2 : ¬ (i : Int) < ((m : Nat) : Int) := by omega
                go_wp2_with fail
                go_roundw
                case rel => exact ⟨d + 1, by go_num, by omega, HGi⟩
                case measure => simp [intOf]; omega
        · have f1 : ¬ (d : Int) < ((n : Nat) : Int) := by omega
          by_cases hm0 : m = 0
          · subst hm0
            go_wp2_with fail
            refine (HS.out _ (HG3.out.trans HGr.out)).mono ?_
            rintro e wz ⟨rfl, hgz⟩
            have HGz := hid (HG3.out.trans (HGr.out.trans hgz))
            clear hgz
            go_wp2_with fail
            go_ret
            exact ⟨rfl, HGz.out⟩
          · obtain ⟨k, hk⟩ : ∃ k, k = b % m := ⟨_, rfl⟩
            have hkm : k < m := by rw [hk]; exact Nat.mod_lt _ (by omega)
            have t2 : (((b : Nat) : Int).tmod ((m : Nat) : Int)) = ((k : Nat) : Int) := by rw [hk]; rfl
            obtain ⟨ad, u, rfl, huu, -⟩ := meth_at HMs.out HGr.out (i := k) (by rw [← EM.out]; exact hkm)
            obtain ⟨o, ho, hfo⟩ := Cs.find_own HMay.out (k := k) (sels_at huu)
            have HOk := hid (HOw.out ((k : Nat) : Int))
            rw [ho] at HOk
            have HOk2 : Hid (∀ w', Grew w3 w' → Calls Tryz.prog 16 #[.slice Ax n cx, .int .i64 ((k : Nat) : Int)] w' fun e w'' => e = .returned (.tuple #[.int .i64 ((o : Nat) : Int), .bool true]) ∧ Grew w' w'') := HOk
            have HFo := hid (HFi.out ((o : Nat) : Int) u.sel)
            rw [hfo] at HFo
            have HFo2 : Hid (∀ w', Grew w3 w' → Calls Tryz.prog 12 #[.slice Ax n cx, .slice (some ad) m cy, .int .i64 ((o : Nat) : Int), .string u.sel] w' fun e w'' => e = .returned (.tuple #[.int .i64 ((k : Nat) : Int), .bool true]) ∧ Grew w' w'') := HFo
            have HUu := hid huu
            have r1 := (HB3.out.grew HGr.out).cell 1
            have rl := (HB3.out.grew HGr.out).lt
            simp only [List.getElem?_toArray, List.getElem?_cons_zero, List.getElem?_cons_succ] at r1
            have hw2 := HW2.out
            have hmi : ¬ ((m : Nat) : Int) = 0 := by omega
            clear HOk HFo ho hfo huu hk
            go_wp2_with fail
            refine (HOk2.out _ HGr.out).mono ?_
            rintro e wy ⟨rfl, hgy⟩
            have HGy := hid (HGr.out.trans hgy)
            clear hgy HOk2 r1 rl hw2 t2
            obtain ⟨m0', -, -, ml, -⟩ := meth_get HMs.out HGy.out HUu.out
            have fk : (k : Int) < ((m : Nat) : Int) := by omega
            go_wp2_with fail
            refine (HFo2.out _ HGy.out).mono ?_
            rintro e wx ⟨rfl, hgx⟩
            have HGx := hid (HGy.out.trans hgx)
            clear hgx HFo2 m0' ml
            go_wp2_with fail
            refine (HS.out _ (HG3.out.trans HGx.out)).mono ?_
            rintro e wz ⟨rfl, hgz⟩
            have HGz := hid (HG3.out.trans (HGx.out.trans hgz))
            clear hgz
            go_wp2_with fail
            go_ret
            exact ⟨rfl, HGz.out⟩
  · have HBig := hid (HBb.out.1 rfl)
    clear HBb HGm
    refine (HGw.out _ HG2.out).mono ?_
    rintro e w3 ⟨Ay, m, cy, rfl, hg3⟩
    have HG3 := hid (HG2.out.trans hg3)
    clear hg3
    go_wp2_with fail
    refine (HBg.out _ HG3.out).mono ?_
    rintro e w4 ⟨rfl, hg4⟩
    have HG4 := hid (HG3.out.trans hg4)
    clear hg4
    go_wp2_with fail
    refine (HS.out _ HG4.out).mono ?_
    rintro e w5 ⟨rfl, hg5⟩
    have HG5 := hid (HG4.out.trans hg5)
    clear hg5
    go_wp2_with fail
    go_ret
    exact ⟨rfl, HG5.out⟩
end Go.Proofs.YtjladeiecokpfaaGreatDoor

/- ClassFinds: the law's walk. -/
import Derived.Test.YtjladeiecokpfaaGreatDoorCsX
namespace Go.Proofs.YtjladeiecokpfaaGreatDoor
open Go.RowKit

/-- Classes and methods that the call has made of those that came in. -/
structure Given (w : World) (l : List CV) (ms : List MV) (A : Option Addr) (c : Nat) (vs : List CV) (B : Option Addr) (us : List MV) : Prop where
  cl : ClsAt w A vs
  cap : vs.length ≤ c
  ms : MethsAt w B us
  same : cls vs = cls l
  env : Env w
theorem Given.grew {w w' : World} {l : List CV} {ms : List MV} {A : Option Addr} {c : Nat} {vs : List CV} {B : Option Addr} {us : List MV} (h : Given w l ms A c vs B us) (hg : Grew w w') : Given w' l ms A c vs B us := ⟨h.cl.grew hg, h.cap, h.ms.grew hg, h.same, h.env.grew hg⟩
set_option maxRecDepth 100000 in
set_option maxHeartbeats 8000000 in
theorem finds_walk (A : Option Addr) (cap : Nat) (l : List CV) (A2 : Option Addr) (c2 : Nat) (ms : List MV) (C D M : Int) (sel name : ByteArray) (w : World) (h : ClsArg w A l) (h2 : MethsArg w A2 ms) (hh : HandleAt w) (hE : Env w) :
    Calls Tryz.prog 6 #[.slice A l.length cap, .slice A2 ms.length c2, .agg #[.int .i64 C, .int .i64 D, .int .i64 M, .string sel, .string name]] w (yes10 w) := by
  have HS := hid (fun (w' : World) (hg : Grew w w') => (show Calls Tryz.prog 8 #[] w' fun e w'' => e = .returned (.bool true) ∧ Grew w' w'' from sure10_c w' (hh.grew hg) (hE.grew hg)))
  obtain ⟨bb, hbb⟩ : ∃ d : Bool, d = true ↔ BigC l ms := ⟨tru _, tru_iff _⟩
  have HBg := hid (fun (w' : World) (hg : Grew w w') => bigClasses_c A cap l A2 c2 ms bb hbb w' (h.grew hg) (h2.grew hg))
  have HGc := hid (fun (hn : ¬ BigC l ms) (w' : World) (hg : Grew w w') => giveClasses_c A cap l w' ((h.fit hn).grew hg))
  have HGm := hid (fun (hn : ¬ BigC l ms) (w' : World) (hg : Grew w w') => giveMethods_c A2 c2 ms w' ((h2.fit hn).grew hg))
  have HFit := hid (fun (hn : ¬ BigC l ms) => (h.fit hn).fit)
  have HE := hid hE
  have HBb := hid hbb
  obtain ⟨W, hW⟩ : ∃ W, W = w.alloc (.cells #[.int .i64 C, .int .i64 D, .int .i64 M, .string sel, .string name] 25) := ⟨_, rfl⟩
  have hg : Grew w W := by rw [hW]; exact (Grew.refl w).alloc _
  have hb : Blk W w.heap.size 25 #[.int .i64 C, .int .i64 D, .int .i64 M, .string sel, .string name] := by rw [hW]; exact Blk.new w _ _
  have HG := hid hg
  have HB := hid hb
  clear h h2 hh hE hbb hg hb
  generalize l.length = n at *
  generalize ms.length = m at *
  cases bb
  · have HNb : Hid (¬ BigC l ms) := hid (fun hc => by have := HBb.out.2 hc; cases this)
    clear HBb
    have q3 := HB.out.cell 3
    simp only [List.getElem?_toArray, List.getElem?_cons_zero, List.getElem?_cons_succ] at q3
    by_cases h100 : 100 < sel.size
    · have f1 : (100 : Int) < ((sel.size : Nat) : Int) := by omega
      go_enter Tryz.func6, Tryz.ntmps6
      go_wp2_with fail
      rw [← hW]
      clear hW
      refine (HBg.out _ HG.out).mono ?_
      rintro e w1 ⟨rfl, hg1⟩
      have r3 := (HB.out.grew hg1).cell 3
      have rl := (HB.out.grew hg1).lt
      simp only [List.getElem?_toArray, List.getElem?_cons_zero, List.getElem?_cons_succ] at r3
      have HG1 := hid (HG.out.trans hg1)
      clear hg1 q3
      go_wp2_with fail
      refine (HS.out _ HG1.out).mono ?_
      rintro e w2 ⟨rfl, hg2⟩
      have HG2 := hid (HG1.out.trans hg2)
      clear hg2
      go_wp2_with fail
      go_ret
      exact ⟨rfl, HG2.out⟩
    · have f1 : ¬ (100 : Int) < ((sel.size : Nat) : Int) := by omega
      clear h100
      go_enter Tryz.func6, Tryz.ntmps6
      go_wp2_with fail
      rw [← hW]
      clear hW
      refine (HBg.out _ HG.out).mono ?_
      rintro e w1 ⟨rfl, hg1⟩
      have r3 := (HB.out.grew hg1).cell 3
      have rl := (HB.out.grew hg1).lt
      simp only [List.getElem?_toArray, List.getElem?_cons_zero, List.getElem?_cons_succ] at r3
      have HB1 := hid (HB.out.grew hg1)
      have HG1 := hid (HG.out.trans hg1)
      clear hg1 q3 HB HG HBg
      go_wp2_with fail
      clear r3 rl f1
      refine (HGc.out HNb.out _ HG1.out).mono ?_
      rintro e w2 ⟨vs, Ax, cx, rfl, hsame, hown, hg2⟩
      have HSame := hid hsame
      have HOwn := hid hown
      have HG2 := hid (HG1.out.trans hg2)
      have HB2 := hid (HB1.out.grew hg2)
      clear hsame hown hg2 HB1 HG1 HGc
      go_wp2_with fail
      refine (HGm.out HNb.out _ HG2.out).mono ?_
      rintro e w3 ⟨us, Ay, cy, rfl, hum, hma, hg3⟩
      have HG3 := hid (HG2.out.trans hg3)
      have HB3 := hid (HB2.out.grew hg3)
      have hfit : ClsFit (cls vs) := by rw [HSame.out]; exact HFit.out HNb.out
      have HGv : Hid (Given w3 l ms Ax cx vs Ay us) := hid ⟨⟨HOwn.out.arg.grew hg3, hfit⟩, HOwn.out.cap, hma, HSame.out, HE.out.grew HG3.out⟩
      obtain ⟨bc, hbc⟩ : ∃ d : Bool, d = true ↔ MayC vs us := ⟨tru _, tru_iff _⟩
      have HCk := hid (ccheck_c Ax cx vs Ay cy us bc hbc w3 HGv.out.cl HGv.out.cap HGv.out.ms HGv.out.env)
      have HFi := hid (fun (w' : World) (hg : Grew w3 w') => find_c Ax cx vs Ay cy us C sel w' (HGv.out.cl.grew hg) (HGv.out.ms.grew hg))
      have HOw := hid (fun (k : Int) (w' : World) (hg : Grew w3 w') => owner_c Ax cx vs k w' (HGv.out.cl.grew hg))
      have HUn := hid (fun (o : Int) (w' : World) (hg : Grew w3 w') => under_c Ax cx vs C o w' (HGv.out.cl.grew hg))
      have HBc := hid hbc
      have HMs := hid HGv.out.ms
      clear hum hma hg3 hfit hbc HGv HOwn HSame HB2 HG2 HGm HNb HFit
      have HUl := hid (show us.length ≤ 100 from HMs.out.len)
      obtain ⟨nu, enu⟩ : ∃ nu, nu = us.length := ⟨_, rfl⟩
      rw [← enu] at HCk HFi ⊢
      have ENU := hid enu
      clear enu
      obtain ⟨nv, env⟩ : ∃ nv, nv = vs.length := ⟨_, rfl⟩
      rw [← env] at HCk HFi HOw HUn ⊢
      clear env
      cases bc
      · rw [show ckVal false = .iface 75 (.int .i64 8) from rfl] at HCk
        go_wp2_with fail
        refine HCk.out.mono ?_
        rintro e w4 ⟨rfl, hg4⟩
        have HG4 := hid (HG3.out.trans hg4)
        clear hg4
        go_wp2_with fail
        refine (HS.out _ HG4.out).mono ?_
        rintro e w5 ⟨rfl, hg5⟩
        have HG5 := hid (HG4.out.trans hg5)
        clear hg5
        go_wp2_with fail
        go_ret
        exact ⟨rfl, HG5.out⟩
      · rw [show ckVal true = .nilIface from rfl] at HCk
        have HMay := hid (HBc.out.1 rfl)
        clear HBc
        go_wp2_with fail
        refine HCk.out.mono ?_
        rintro e w4 ⟨rfl, hg4⟩
        have HG4 := hid hg4
        have r0 := (HB3.out.grew hg4).cell 0
        have r3 := (HB3.out.grew hg4).cell 3
        have rl := (HB3.out.grew hg4).lt
        simp only [List.getElem?_toArray, List.getElem?_cons_zero, List.getElem?_cons_succ] at r0 r3
        clear hg4 HCk
        cases hf : Cs.find (cls vs) (sels us) C sel with
        | none =>
          have HFn := hid (HFi.out _ HG4.out)
          rw [hf] at HFn
          have HFn2 : Hid (Calls Tryz.prog 12 #[.slice Ax nv cx, .slice Ay nu cy, .int .i64 C, .string sel] w4 fun e w' => e = .returned (.tuple #[.int .i64 0, .bool false]) ∧ Grew w4 w') := HFn
          clear HFn hf HFi HOw HUn HMay
          go_wp2_with fail
          refine HFn2.out.mono ?_
          rintro e w5 ⟨rfl, hg5⟩
          have HG5 := hid (HG3.out.trans (HG4.out.trans hg5))
          clear hg5 r0 r3 rl
          go_wp2_with fail
          refine (HS.out _ HG5.out).mono ?_
          rintro e w6 ⟨rfl, hg6⟩
          have HG6 := hid (HG5.out.trans hg6)
          clear hg6
          go_wp2_with fail
          go_ret
          exact ⟨rfl, HG6.out⟩
        | some k =>
          obtain ⟨hk, hs, o, ho, hu⟩ := Cs.find_owner HMay.out hf
          rw [sels_len] at hk
          obtain ⟨ad, u, rfl, hul, -⟩ := meth_at HMs.out (Grew.refl _) (i := k) hk
          have hsel : u.sel = sel := by
            rw [sels_at hul] at hs
            exact Option.some.inj hs
          have HFn := hid (HFi.out _ HG4.out)
          rw [hf] at HFn
          have HFn2 : Hid (Calls Tryz.prog 12 #[.slice Ax nv cx, .slice (some ad) nu cy, .int .i64 C, .string sel] w4 fun e w' => e = .returned (.tuple #[.int .i64 ((k : Nat) : Int), .bool true]) ∧ Grew w4 w') := HFn
          have HOn := hid (HOw.out ((k : Nat) : Int))
          rw [ho] at HOn
          have HOn2 : Hid (∀ w', Grew w3 w' → Calls Tryz.prog 16 #[.slice Ax nv cx, .int .i64 ((k : Nat) : Int)] w' fun e w'' => e = .returned (.tuple #[.int .i64 ((o : Nat) : Int), .bool true]) ∧ Grew w' w'') := HOn
          have HUn2 := hid (HUn.out ((o : Nat) : Int))
          rw [hu] at HUn2
          have hkn : k < nu := by rw [ENU.out]; exact hk
          have hki : (k : Int) < (nu : Int) := by omega
          have HUl2 := hid hul
          have HSel := hid hsel
          have hnu : nu ≤ 100 := by rw [ENU.out]; exact HUl.out
          clear HFn HOn hf HFi HOw HUn HMay ho hu hs hk hul hsel
          go_wp2_with fail
          refine HFn2.out.mono ?_
          rintro e w5 ⟨rfl, hg5⟩
          have HG5 := hid (HG4.out.trans hg5)
          clear hg5 r0 r3 rl HFn2
          go_wp2_with fail
          refine (HOn2.out _ HG5.out).mono ?_
          rintro e w6 ⟨rfl, hg6⟩
          have HG6 := hid (HG5.out.trans hg6)
          clear hg6 HOn2
          obtain ⟨m0, -, -, ml, -⟩ := meth_get HMs.out HG6.out HUl2.out
          rw [HSel.out] at m0
          have r0 := (HB3.out.grew HG6.out).cell 0
          have r3 := (HB3.out.grew HG6.out).cell 3
          have rl := (HB3.out.grew HG6.out).lt
          simp only [List.getElem?_toArray, List.getElem?_cons_zero, List.getElem?_cons_succ] at r0 r3
          have hz : (sel.toList == sel.toList) = true := by rw [beq_self_eq_true]
          go_wp2_with fail
          refine wp_region_grew_from (Grew.refl _) (by kernel_rfl) (by kernel_rfl) ?_
          repeat (go_big_quiet_step ((first | (go_at_call 24; exact Calls.grew (After.grew _) (HUn2.out _ (HG6.out.trans (After.grew _)))) | (go_at_call 8; exact Calls.grew (After.grew _) (HS.out _ (HG3.out.trans (HG6.out.trans (After.grew _))))))))
          refine wpQuiet_nil ?_
          rintro _ ⟨y1, rfl⟩
          have HY := hid y1.grew
          go_wp2_with fail
          go_ret
          exact ⟨rfl, HG3.out.trans (HG6.out.trans HY.out)⟩
  · clear HBb
    go_enter Tryz.func6, Tryz.ntmps6
    go_wp2_with fail
    rw [← hW]
    clear hW
    refine (HBg.out _ HG.out).mono ?_
    rintro e w1 ⟨rfl, hg1⟩
    have HG1 := hid (HG.out.trans hg1)
    clear hg1
    go_wp2_with fail
    refine (HS.out _ HG1.out).mono ?_
    rintro e w2 ⟨rfl, hg2⟩
    have HG2 := hid (HG1.out.trans hg2)
    clear hg2
    go_wp2_with fail
    go_ret
    exact ⟨rfl, HG2.out⟩
end Go.Proofs.YtjladeiecokpfaaGreatDoor

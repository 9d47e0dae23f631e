/- ClassTells: the law's walk. -/
import Derived.Test.YtjladeiecokpfaaGreatDoorMg51
import Derived.Test.YtjladeiecokpfaaGreatDoorRkH
namespace Go.Proofs.YtjladeiecokpfaaGreatDoor
open Go.RowKit

theorem sels_same {us ms : List MV} (h : us.map (·.m) = ms.map (·.m)) : sels us = sels ms := by
  have e : ∀ l : List MV, sels l = (l.map (·.m)).map (·.sel) := fun l => by unfold sels; rw [List.map_map]; rfl
  rw [e, e, h]
theorem mayM_same {us ms : List MV} (h : us.map (·.m) = ms.map (·.m)) : mayM us = mayM ms := by
  funext k v n
  have e : us[k]?.map (·.m) = ms[k]?.map (·.m) := by rw [← List.getElem?_map, ← List.getElem?_map, h]
  unfold mayM
  cases h1 : us[k]? with
  | none =>
    cases h2 : ms[k]? with
    | none => rfl
    | some u => rw [h1, h2] at e; cases e
  | some u =>
    cases h2 : ms[k]? with
    | none => rw [h1, h2] at e; cases e
    | some u2 =>
      rw [h1, h2] at e
      show Mt.May u.m v n = Mt.May u2.m v n
      rw [show u.m = u2.m from Option.some.inj e]
theorem may_same {vs l : List CV} {us ms : List MV} (h1 : cls vs = cls l) (h2 : us.map (·.m) = ms.map (·.m)) : MayC vs us ↔ MayC l ms := by
  unfold MayC
  rw [h1, sels_same h2, mayM_same h2]
/-- A search's answer, told by its two parts. -/
theorem FindPost.parts {w : World} {r : Option Nat} {x : Nat} {y : Bool} (hx : r.getD 0 = x) (hy : r.isSome = y) {e : Ending} {w' : World} (h : FindPost w r e w') : e = .returned (.tuple #[.int .i64 ((x : Nat) : Int), .bool y]) ∧ Grew w w' := by
  rw [← hx, ← hy]
  exact h
/-- What each operation of the law's last statement gives. -/
def LtF (ve : Value) (bc : Bool) (A A2 : Option Addr) (n cap m c2 x1 x2 x3 : Nat) (y1 y2 y3 : Bool) (Ax : Option Addr) (nv cx G : Nat) (C D : Int) (N : List ByteArray) (K : Nat) (A4 : Option Addr) (k4 : Nat) (z : Bool) (j : Nat) (v : Value) (w : World) : Prop := match j with
  | 0 => v = ve
  | 1 => v = .bool bc
  | 2 => v = .slice A n cap
  | 3 => v = .slice A2 m c2
  | 4 => v = .bool bc
  | 7 => v = ve
  | 8 => v = .bool bc
  | 9 => v = .bool bc
  | 10 => if bc = true then True else v = ve
  | 11 => if bc = true then True else v = .int .i64 8
  | 12 => if bc = true then True else v = .bool true
  | 16 => v = .int .i64 ((x1 : Nat) : Int)
  | 17 => v = .int .i64 ((x1 : Nat) : Int)
  | 21 => v = .bool y1
  | 22 => v = .bool y1
  | 26 => v = .int .i64 ((x2 : Nat) : Int)
  | 27 => v = .int .i64 ((x2 : Nat) : Int)
  | 31 => v = .bool y2
  | 32 => v = .bool y2
  | 36 => v = .int .i64 ((x3 : Nat) : Int)
  | 37 => v = .int .i64 ((x3 : Nat) : Int)
  | 41 => v = .bool y3
  | 42 => v = .bool y3
  | 46 => v = .slice Ax nv cx
  | 47 => v = .pointer (some ⟨G, 0, none⟩)
  | 48 => v = .int .i64 C
  | 49 => ∃ A5 k5, v = .slice A5 K k5 ∧ StrsAt w w.heap.size A5 N
  | 50 => v = .slice A4 K k4
  | 54 => v = .slice Ax nv cx
  | 55 => v = .pointer (some ⟨G, 0, none⟩)
  | 56 => v = .int .i64 C
  | 57 => v = .int .i64 ((K : Nat) : Int)
  | 58 => v = .slice A4 K k4
  | 59 => v = .int .i64 ((K : Nat) : Int)
  | 63 => v = .slice Ax nv cx
  | 64 => v = .pointer (some ⟨G, 0, none⟩)
  | 65 => v = .int .i64 C
  | 66 => v = .pointer (some ⟨G, 1, none⟩)
  | 67 => v = .int .i64 D
  | 68 => v = .bool z
  | 69 => v = .slice A n cap
  | 70 => v = .pointer (some ⟨G, 0, none⟩)
  | 71 => v = .int .i64 C
  | 72 => v = .pointer (some ⟨G, 1, none⟩)
  | 73 => v = .int .i64 D
  | 74 => v = .bool z
  | _ => v = .bool true
theorem LtF.mono {ve : Value} {bc : Bool} {A A2 : Option Addr} {n cap m c2 x1 x2 x3 : Nat} {y1 y2 y3 : Bool} {Ax : Option Addr} {nv cx G : Nat} {C D : Int} {N : List ByteArray} {K : Nat} {A4 : Option Addr} {k4 : Nat} {z : Bool} (j : Nat) (v : Value) (w w' : World) (h : LtF ve bc A A2 n cap m c2 x1 x2 x3 y1 y2 y3 Ax nv cx G C D N K A4 k4 z j v w) (hg : Grew w w') : LtF ve bc A A2 n cap m c2 x1 x2 x3 y1 y2 y3 Ax nv cx G C D N K A4 k4 z j v w' := by
  unfold LtF at h ⊢
  split at h
  all_goals first
    | exact h
    | (obtain ⟨A5, k5, h1, h2⟩ := h
       exact ⟨A5, k5, h1, h2.grew hg⟩)
set_option maxRecDepth 100000 in
set_option maxHeartbeats 16000000 in
theorem tells10_walk (A : Option Addr) (cap : Nat) (l : List CV) (A2 : Option Addr) (c2 : Nat) (ms : List MV) (C D M : Int) (sel name : ByteArray) (w : World) (h : ClsArg w A l) (h2 : MethsArg w A2 ms) (hh : HandleAt w) (hE : Env w) :
    Calls Tryz.prog 3 #[.slice A l.length cap, .slice A2 ms.length c2, .agg #[.int .i64 C, .int .i64 D, .int .i64 M, .string sel, .string name]] w (yes10 w) := by
  have HS := hid (fun (w' : World) (hg : Grew w w') => (show Calls Tryz.prog 8 #[] w' fun e w'' => e = .returned (.bool true) ∧ Grew w' w'' from sure10_c w' (hh.grew hg) (hE.grew hg)))
  obtain ⟨bb, hbb⟩ : ∃ d : Bool, d = true ↔ BigC l ms := ⟨tru _, tru_iff _⟩
  obtain ⟨bc, hbc⟩ : ∃ d : Bool, d = true ↔ MayC l ms := ⟨tru _, tru_iff _⟩
  obtain ⟨x1, hx1⟩ : ∃ x, (Cs.find (cls l) (sels ms) C sel).getD 0 = x := ⟨_, rfl⟩
  obtain ⟨y1, hy1⟩ : ∃ y, (Cs.find (cls l) (sels ms) C sel).isSome = y := ⟨_, rfl⟩
  obtain ⟨x2, hx2⟩ : ∃ x, (Cs.of (cls l) name).getD 0 = x := ⟨_, rfl⟩
  obtain ⟨y2, hy2⟩ : ∃ y, (Cs.of (cls l) name).isSome = y := ⟨_, rfl⟩
  obtain ⟨x3, hx3⟩ : ∃ x, (Cs.owner (cls l) M).getD 0 = x := ⟨_, rfl⟩
  obtain ⟨y3, hy3⟩ : ∃ y, (Cs.owner (cls l) M).isSome = y := ⟨_, rfl⟩
  obtain ⟨N, hN⟩ : ∃ N, Cs.names (cls l) C = N := ⟨_, rfl⟩
  obtain ⟨z, hz⟩ : ∃ z, Cs.under (cls l) C D = z := ⟨_, rfl⟩
  have HBg := hid (fun (w' : World) (hg : Grew w w') => bigClasses_c A cap l A2 c2 ms bb hbb w' (h.grew hg) (h2.grew hg))
  have HGc := hid (fun (hn : ¬ BigC l ms) (w' : World) (hg : Grew w w') => giveClasses_c A cap l w' ((h.fit hn).grew hg))
  have HGm := hid (fun (hn : ¬ BigC l ms) (w' : World) (hg : Grew w w') => giveMethods_c A2 c2 ms w' ((h2.fit hn).grew hg))
  have HFit := hid (fun (hn : ¬ BigC l ms) => (h.fit hn).fit)
  have HRm := hid (fun (hn : ¬ BigC l ms) (w' : World) (hg : Grew w w') => rmay10_c A cap l A2 c2 ms bc hbc w' ((h.fit hn).grew hg) ((h2.fit hn).grew hg))
  have HRf := hid (fun (hn : ¬ BigC l ms) (w' : World) (hg : Grew w w') => (rfind_c A cap l A2 c2 ms C sel w' ((h.fit hn).grew hg) ((h2.fit hn).grew hg)).mono (fun _ _ => FindPost.parts hx1 hy1))
  have HRo := hid (fun (hn : ¬ BigC l ms) (w' : World) (hg : Grew w w') => (rof_c A cap l name w' ((h.fit hn).grew hg)).mono (fun _ _ => FindPost.parts hx2 hy2))
  have HRw := hid (fun (hn : ¬ BigC l ms) (w' : World) (hg : Grew w w') => (rowner_c A cap l M w' ((h.fit hn).grew hg)).mono (fun _ _ => FindPost.parts hx3 hy3))
  have HRn := hid (fun (hn : ¬ BigC l ms) (w' : World) (hg : Grew w w') => show Calls Tryz.prog 18 #[.slice A l.length cap, .int .i64 C] w' (NamesPost w' N) from by have := rnames_c A cap l C w' ((h.fit hn).grew hg); rwa [hN] at this)
  have HRu := hid (fun (hn : ¬ BigC l ms) (w' : World) (hg : Grew w w') => show Calls Tryz.prog 25 #[.slice A l.length cap, .int .i64 C, .int .i64 D] w' (fun e w'' => e = .returned (.bool z) ∧ Grew w' w'') from by have := runder_c A cap l C D w' ((h.fit hn).grew hg); rwa [hz] at this)
  have HX := hid (⟨hx1, hy1, hx2, hy2, hx3, hy3, hN, hz⟩ : (Cs.find (cls l) (sels ms) C sel).getD 0 = x1 ∧ (Cs.find (cls l) (sels ms) C sel).isSome = y1 ∧ (Cs.of (cls l) name).getD 0 = x2 ∧ (Cs.of (cls l) name).isSome = y2 ∧ (Cs.owner (cls l) M).getD 0 = x3 ∧ (Cs.owner (cls l) M).isSome = y3 ∧ Cs.names (cls l) C = N ∧ Cs.under (cls l) C D = z)
  have HE := hid hE
  have HH := hid hh
  have HBb := hid hbb
  have HBc := hid hbc
  obtain ⟨W, hW⟩ : ∃ W, W = w.alloc (.cells #[.int .i64 C, .int .i64 D, .int .i64 M, .string sel, .string name] 25) := ⟨_, rfl⟩
  have hg : Grew w W := by rw [hW]; exact (Grew.refl w).alloc _
  have hb : Blk W w.heap.size 25 #[.int .i64 C, .int .i64 D, .int .i64 M, .string sel, .string name] := by rw [hW]; exact Blk.new w _ _
  have HG := hid hg
  have HB := hid hb
  clear h h2 hh hE hbb hbc hg hb hx1 hy1 hx2 hy2 hx3 hy3 hN hz
  generalize l.length = n at *
  generalize ms.length = m at *
  cases bb
  · have HNb : Hid (¬ BigC l ms) := hid (fun hc => by have := HBb.out.2 hc; cases this)
    clear HBb
    replace HRm := hid (HRm.out HNb.out)
    replace HRf := hid (HRf.out HNb.out)
    replace HRo := hid (HRo.out HNb.out)
    replace HRw := hid (HRw.out HNb.out)
    replace HRn := hid (HRn.out HNb.out)
    replace HRu := hid (HRu.out HNb.out)
    have q3 := HB.out.cell 3
    simp only [List.getElem?_toArray, List.getElem?_cons_zero, List.getElem?_cons_succ] at q3
    by_cases h100 : 100 < sel.size
    · have f1 : (100 : Int) < ((sel.size : Nat) : Int) := by omega
      go_enter Tryz.func3, Tryz.ntmps3
      go_wp2_with fail
      rw [← hW]
      clear hW
      refine (HBg.out _ HG.out).mono ?_
      rintro e w1 ⟨rfl, hg1⟩
      have r3 := (HB.out.grew hg1).cell 3
      have r4 := (HB.out.grew hg1).cell 4
      have rl := (HB.out.grew hg1).lt
      simp only [List.getElem?_toArray, List.getElem?_cons_zero, List.getElem?_cons_succ] at r3 r4
      have HB1 := hid (HB.out.grew hg1)
      have HG1 := hid (HG.out.trans hg1)
      clear hg1 q3 HB HG HBg
      go_wp2_with fail
      refine (HS.out _ HG1.out).mono ?_
      rintro e w2 ⟨rfl, hg2⟩
      have HG2 := hid (HG1.out.trans hg2)
      clear hg2
      go_wp2_with fail
      go_ret
      exact ⟨rfl, HG2.out⟩
    · have f1 : ¬ (100 : Int) < ((sel.size : Nat) : Int) := by omega
      clear h100
      by_cases h101 : 100 < name.size
      · have f2 : (100 : Int) < ((name.size : Nat) : Int) := by omega
        go_enter Tryz.func3, Tryz.ntmps3
        go_wp2_with fail
        rw [← hW]
        clear hW
        refine (HBg.out _ HG.out).mono ?_
        rintro e w1 ⟨rfl, hg1⟩
        have r3 := (HB.out.grew hg1).cell 3
        have r4 := (HB.out.grew hg1).cell 4
        have rl := (HB.out.grew hg1).lt
        simp only [List.getElem?_toArray, List.getElem?_cons_zero, List.getElem?_cons_succ] at r3 r4
        have HB1 := hid (HB.out.grew hg1)
        have HG1 := hid (HG.out.trans hg1)
        clear hg1 q3 HB HG HBg
        go_wp2_with fail
        refine (HS.out _ HG1.out).mono ?_
        rintro e w2 ⟨rfl, hg2⟩
        have HG2 := hid (HG1.out.trans hg2)
        clear hg2
        go_wp2_with fail
        go_ret
        exact ⟨rfl, HG2.out⟩
      · have f2 : ¬ (100 : Int) < ((name.size : Nat) : Int) := by omega
        clear h101
        go_enter Tryz.func3, Tryz.ntmps3
        go_wp2_with fail
        rw [← hW]
        clear hW
        refine (HBg.out _ HG.out).mono ?_
        rintro e w1 ⟨rfl, hg1⟩
        have r3 := (HB.out.grew hg1).cell 3
        have r4 := (HB.out.grew hg1).cell 4
        have rl := (HB.out.grew hg1).lt
        simp only [List.getElem?_toArray, List.getElem?_cons_zero, List.getElem?_cons_succ] at r3 r4
        have HB1 := hid (HB.out.grew hg1)
        have HG1 := hid (HG.out.trans hg1)
        clear hg1 q3 HB HG HBg
        go_wp2_with fail
        clear r3 r4 rl f1 f2
        refine (HGc.out HNb.out _ HG1.out).mono ?_
        rintro e w2 ⟨vs, Ax, cx, rfl, hsame, hown, hg2⟩
        have HSame := hid hsame
        have HOwn := hid hown
        have HG2 := hid (HG1.out.trans hg2)
        have HB2 := hid (HB1.out.grew hg2)
        clear hsame hown hg2 HB1 HG1 HGc
        go_wp2_with fail
        refine (HGm.out HNb.out _ HG2.out).mono ?_
        rintro e w3 ⟨us, Ay, cy, rfl, hum, hma, hg3⟩
        have HG3 := hid (HG2.out.trans hg3)
        have HB3 := hid (HB2.out.grew hg3)
        have hfit : ClsFit (cls vs) := by rw [HSame.out]; exact HFit.out HNb.out
        have HGv : Hid (Given w3 l ms Ax cx vs Ay us) := hid ⟨⟨HOwn.out.arg.grew hg3, hfit⟩, HOwn.out.cap, hma, HSame.out, HE.out.grew HG3.out⟩
        have hss := sels_same hum
        have hsv := HSame.out
        have HNl := hid (show N.length ≤ 10000 from by have := (names_bound (HFit.out HNb.out) C).1; rwa [HX.out.2.2.2.2.2.2.1] at this)
        have HCk := hid (ccheck_c Ax cx vs Ay cy us bc (by rw [may_same hsv hum]; exact HBc.out) w3 HGv.out.cl HGv.out.cap HGv.out.ms HGv.out.env)
        have HFi := hid (fun (w' : World) (hg : Grew w3 w') => (find_c Ax cx vs Ay cy us C sel w' (HGv.out.cl.grew hg) (HGv.out.ms.grew hg)).mono (fun _ _ hp => FindPost.parts HX.out.1 HX.out.2.1 (by rwa [hsv, hss] at hp)))
        have HOf := hid (fun (w' : World) (hg : Grew w3 w') => (of_c Ax cx vs name w' (HGv.out.cl.grew hg)).mono (fun _ _ hp => FindPost.parts HX.out.2.2.1 HX.out.2.2.2.1 (by rwa [hsv] at hp)))
        have HOw := hid (fun (w' : World) (hg : Grew w3 w') => (owner_c Ax cx vs M w' (HGv.out.cl.grew hg)).mono (fun _ _ hp => FindPost.parts HX.out.2.2.2.2.1 HX.out.2.2.2.2.2.1 (by rwa [hsv] at hp)))
        have HNm := hid (fun (w' : World) (hg : Grew w3 w') => show Calls Tryz.prog 22 #[.slice Ax vs.length cx, .int .i64 C] w' (NamesPost w' N) from by have := names_c Ax cx vs C w' (HGv.out.cl.grew hg); rwa [hsv, HX.out.2.2.2.2.2.2.1] at this)
        have HCo := hid (fun (w' : World) (hg : Grew w3 w') => show Calls Tryz.prog 23 #[.slice Ax vs.length cx, .int .i64 C] w' (fun e w'' => e = .returned (.int .i64 ((N.length : Nat) : Int)) ∧ Grew w' w'') from by have := count_c Ax cx vs C w' (HGv.out.cl.grew hg); rwa [hsv, HX.out.2.2.2.2.2.2.1] at this)
        have HUn := hid (fun (w' : World) (hg : Grew w3 w') => show Calls Tryz.prog 24 #[.slice Ax vs.length cx, .int .i64 C, .int .i64 D] w' (fun e w'' => e = .returned (.bool z) ∧ Grew w' w'') from by have := under_c Ax cx vs C D w' (HGv.out.cl.grew hg); rwa [hsv, HX.out.2.2.2.2.2.2.2] at this)
        have HTx := hid (fun (B : Option Addr) (d : Nat) (B2 : Option Addr) (d2 : Nat) (w' : World) (k1 : StrsAt w' w'.heap.size B N) (k2 : StrsAt w' w'.heap.size B2 N) => show Calls Tryz.prog 21 #[.slice B N.length d, .slice B2 N.length d2] w' (fun e w'' => e = .returned (.bool true) ∧ Grew w' w'') from by
          have := texts_c B d N B2 d2 N w' k1 k2 (by have := HNl.out; omega) (by have := HNl.out; omega)
          rwa [decide_eq_true rfl] at this)
        clear hum hma hg3 hfit HGv HOwn HSame HB2 HG2 HGm HNb HFit hss hsv HX HBc HNl HE
        obtain ⟨nu, enu⟩ : ∃ nu, nu = us.length := ⟨_, rfl⟩
        rw [← enu] at HCk HFi ⊢
        clear enu
        obtain ⟨nv, env⟩ : ∃ nv, nv = vs.length := ⟨_, rfl⟩
        rw [← env] at HCk HFi HOf HOw HNm HCo HUn ⊢
        clear env
        obtain ⟨K, eK⟩ : ∃ K, K = N.length := ⟨_, rfl⟩
        unfold NamesPost at HRn HNm
        rw [← eK] at HRn HNm HCo HTx
        have EK := hid eK
        clear eK
        cases bc
        · rw [show ckVal false = .iface 75 (.int .i64 8) from rfl] at HCk
          go_wp2_with fail
          refine HCk.out.mono ?_
          rintro e w4 ⟨rfl, hg4⟩
          have HG4 := hid hg4
          clear hg4 HCk
          have r0 := (HB3.out.grew HG4.out).cell 0
          have r1 := (HB3.out.grew HG4.out).cell 1
          have r2 := (HB3.out.grew HG4.out).cell 2
          have r3 := (HB3.out.grew HG4.out).cell 3
          have r4 := (HB3.out.grew HG4.out).cell 4
          have rl := (HB3.out.grew HG4.out).lt
          simp only [List.getElem?_toArray, List.getElem?_cons_zero, List.getElem?_cons_succ] at r0 r1 r2 r3 r4
          go_wp2_with fail
          refine (HFi.out _ HG4.out).mono ?_
          rintro e w5 ⟨rfl, hg5⟩
          have HG5 := hid (HG4.out.trans hg5)
          clear hg5 HFi
          clear r0 r1 r2 r3 r4 rl
          have r0 := (HB3.out.grew HG5.out).cell 0
          have r1 := (HB3.out.grew HG5.out).cell 1
          have r2 := (HB3.out.grew HG5.out).cell 2
          have r3 := (HB3.out.grew HG5.out).cell 3
          have r4 := (HB3.out.grew HG5.out).cell 4
          have rl := (HB3.out.grew HG5.out).lt
          simp only [List.getElem?_toArray, List.getElem?_cons_zero, List.getElem?_cons_succ] at r0 r1 r2 r3 r4
          go_wp2_with fail
          refine (HRf.out _ (HG3.out.trans HG5.out)).mono ?_
          rintro e w6 ⟨rfl, hg6⟩
          have HG6 := hid (HG5.out.trans hg6)
          clear hg6 HRf
          clear r0 r1 r2 r3 r4 rl
          have r0 := (HB3.out.grew HG6.out).cell 0
          have r1 := (HB3.out.grew HG6.out).cell 1
          have r2 := (HB3.out.grew HG6.out).cell 2
          have r3 := (HB3.out.grew HG6.out).cell 3
          have r4 := (HB3.out.grew HG6.out).cell 4
          have rl := (HB3.out.grew HG6.out).lt
          simp only [List.getElem?_toArray, List.getElem?_cons_zero, List.getElem?_cons_succ] at r0 r1 r2 r3 r4
          go_wp2_with fail
          refine (HOf.out _ HG6.out).mono ?_
          rintro e w7 ⟨rfl, hg7⟩
          have HG7 := hid (HG6.out.trans hg7)
          clear hg7 HOf
          clear r0 r1 r2 r3 r4 rl
          have r0 := (HB3.out.grew HG7.out).cell 0
          have r1 := (HB3.out.grew HG7.out).cell 1
          have r2 := (HB3.out.grew HG7.out).cell 2
          have r3 := (HB3.out.grew HG7.out).cell 3
          have r4 := (HB3.out.grew HG7.out).cell 4
          have rl := (HB3.out.grew HG7.out).lt
          simp only [List.getElem?_toArray, List.getElem?_cons_zero, List.getElem?_cons_succ] at r0 r1 r2 r3 r4
          go_wp2_with fail
          refine (HRo.out _ (HG3.out.trans HG7.out)).mono ?_
          rintro e w8 ⟨rfl, hg8⟩
          have HG8 := hid (HG7.out.trans hg8)
          clear hg8 HRo
          clear r0 r1 r2 r3 r4 rl
          have r0 := (HB3.out.grew HG8.out).cell 0
          have r1 := (HB3.out.grew HG8.out).cell 1
          have r2 := (HB3.out.grew HG8.out).cell 2
          have r3 := (HB3.out.grew HG8.out).cell 3
          have r4 := (HB3.out.grew HG8.out).cell 4
          have rl := (HB3.out.grew HG8.out).lt
          simp only [List.getElem?_toArray, List.getElem?_cons_zero, List.getElem?_cons_succ] at r0 r1 r2 r3 r4
          go_wp2_with fail
          refine (HOw.out _ HG8.out).mono ?_
          rintro e w9 ⟨rfl, hg9⟩
          have HG9 := hid (HG8.out.trans hg9)
          clear hg9 HOw
          clear r0 r1 r2 r3 r4 rl
          have r0 := (HB3.out.grew HG9.out).cell 0
          have r1 := (HB3.out.grew HG9.out).cell 1
          have r2 := (HB3.out.grew HG9.out).cell 2
          have r3 := (HB3.out.grew HG9.out).cell 3
          have r4 := (HB3.out.grew HG9.out).cell 4
          have rl := (HB3.out.grew HG9.out).lt
          simp only [List.getElem?_toArray, List.getElem?_cons_zero, List.getElem?_cons_succ] at r0 r1 r2 r3 r4
          go_wp2_with fail
          refine (HRw.out _ (HG3.out.trans HG9.out)).mono ?_
          rintro e w10 ⟨rfl, hg10⟩
          have HG10 := hid (HG9.out.trans hg10)
          clear hg10 HRw
          clear r0 r1 r2 r3 r4 rl
          have r0 := (HB3.out.grew HG10.out).cell 0
          have r1 := (HB3.out.grew HG10.out).cell 1
          have r2 := (HB3.out.grew HG10.out).cell 2
          have r3 := (HB3.out.grew HG10.out).cell 3
          have r4 := (HB3.out.grew HG10.out).cell 4
          have rl := (HB3.out.grew HG10.out).lt
          simp only [List.getElem?_toArray, List.getElem?_cons_zero, List.getElem?_cons_succ] at r0 r1 r2 r3 r4
          go_wp2_with fail
          refine (HRn.out _ (HG3.out.trans HG10.out)).mono ?_
          rintro e w11 ⟨A4, k4, rfl, hr4, hg11⟩
          have HR4 := hid hr4
          have HG11 := hid (HG10.out.trans hg11)
          have HW11 := hid (Grew.refl w11)
          clear hr4 hg11 HRn
          clear r0 r1 r2 r3 r4 rl
          have r0 := (HB3.out.grew HG11.out).cell 0
          have r1 := (HB3.out.grew HG11.out).cell 1
          have r2 := (HB3.out.grew HG11.out).cell 2
          have r3 := (HB3.out.grew HG11.out).cell 3
          have r4 := (HB3.out.grew HG11.out).cell 4
          have rl := (HB3.out.grew HG11.out).lt
          simp only [List.getElem?_toArray, List.getElem?_cons_zero, List.getElem?_cons_succ] at r0 r1 r2 r3 r4
          have HSr := hid (row_strs HR4.out EK.out)
          clear r0 r1 r2 r3 r4 rl
          have HGw := hid (HG3.out.trans HG11.out)
          have HNu := hid (fun (w' : World) (hg : Grew w11 w') => num_c 8 w' (HH.out.grew (HGw.out.trans hg)))
          rw [show errVal 8 = .iface 75 (.int .i64 8) from rfl] at HNu
          have HT1 := hid (fun (w' : World) (hg : Grew w11 w') => HRm.out w' (HGw.out.trans hg))
          have HT2 := hid (fun (w' : World) (hg : Grew w11 w') => HNm.out w' (HG11.out.trans hg))
          have HT3 := hid (fun (w' : World) (hg : Grew w11 w') => HCo.out w' (HG11.out.trans hg))
          have HT4 := hid (fun (w' : World) (hg : Grew w11 w') => HUn.out w' (HG11.out.trans hg))
          have HT5 := hid (fun (w' : World) (hg : Grew w11 w') => HRu.out w' (HGw.out.trans hg))
          have HT6 := hid (fun (w' : World) (hg : Grew w11 w') => HS.out w' (HGw.out.trans hg))
          have HQb := hid (fun (w' : World) (hg : Grew w11 w') => HB3.out.grew (HG11.out.trans hg))
          clear HRm HNm HCo HUn HRu HS HR4 HB3 HH
          generalize w.heap.size = G at *
          go_upto_region 12 with fail
          have hmx : Tryz.prog.follows .mixedOrders = true := by kernel_rfl
          refine wp_region_facts (w0 := w11) w11 81 [98, 99, 100, 101, 102, 103, 104, 105, 106, 107, 108, 109, 110, 111, 112, 113, 114, 115, 116, 117, 118, 119, 120, 121, 122, 123, 124, 125, 126, 127, 128, 129, 130, 131, 132, 133, 134, 135, 136, 137, 138, 139, 140, 141, 142, 143, 144, 145, 146, 147, 148, 149, 150, 151, 152, 153, 154, 155, 156, 157, 158, 159, 160, 161, 162, 163, 164, 165, 166, 167, 168, 169, 170, 171, 172, 173, 174, 175, 176, 177, 6] [] (LtF (.iface 75 (.int .i64 8)) false A A2 n cap m c2 x1 x2 x3 y1 y2 y3 Ax nv cx G C D N K A4 k4 z) hmx (by kernel_rfl) (Grew.refl _) LtF.mono ?_ ?_
          · repeat' (first | exact trivial | apply And.intro)
            all_goals
              intro a w' hgw hs hA
              have e0 := hs.eval 0 (by decide) (v := .slice A n cap) rfl
              have e1 := hs.eval 1 (by decide) (v := .slice A2 m c2) rfl
              have e5 := hs.eval 5 (by decide) (v := .pointer (some ⟨G, 0, none⟩)) rfl
              have e7 := hs.eval 7 (by decide) (v := .slice Ax nv cx) rfl
              have e9 := hs.eval 9 (by decide) (v := .iface 75 (.int .i64 8)) rfl
              have e10 := hs.eval 10 (by decide) (v := .int .i64 ((x1 : Nat) : Int)) rfl
              have e11 := hs.eval 11 (by decide) (v := .bool y1) rfl
              have e12 := hs.eval 12 (by decide) (v := .int .i64 ((x1 : Nat) : Int)) rfl
              have e13 := hs.eval 13 (by decide) (v := .bool y1) rfl
              have e14 := hs.eval 14 (by decide) (v := .int .i64 ((x2 : Nat) : Int)) rfl
              have e15 := hs.eval 15 (by decide) (v := .bool y2) rfl
              have e16 := hs.eval 16 (by decide) (v := .int .i64 ((x2 : Nat) : Int)) rfl
              have e17 := hs.eval 17 (by decide) (v := .bool y2) rfl
              have e18 := hs.eval 18 (by decide) (v := .int .i64 ((x3 : Nat) : Int)) rfl
              have e19 := hs.eval 19 (by decide) (v := .bool y3) rfl
              have e20 := hs.eval 20 (by decide) (v := .int .i64 ((x3 : Nat) : Int)) rfl
              have e21 := hs.eval 21 (by decide) (v := .bool y3) rfl
              have e22 := hs.eval 22 (by decide) (v := .slice A4 K k4) rfl
              have HGW := hid hgw
              have q0 := (HQb.out w' hgw).cell 0
              have q1 := (HQb.out w' hgw).cell 1
              have ql := (HQb.out w' hgw).lt
              simp only [List.getElem?_toArray, List.getElem?_cons_zero, List.getElem?_cons_succ] at q0 q1
              clear hs hgw
              simp only [List.append_eq, List.cons_append, List.nil_append, Ahead, Region.binds, slotOf, LtF, Bool.false_eq_true, if_false, List.getD_cons_succ, List.getD_cons_zero, forall_const, and_true] at hA
              simp only [wantedD, isBool, slotOf, List.getD_cons_succ, List.getD_cons_zero, hA, if_true, beq_self_eq_true]
              first
                | exact ⟨trivial, rfl⟩
                | (unfold Oper.wp
                   have ec : ∀ v, a.eval (.const v) = v := fun _ => rfl
                   generalize hfe : a.eval = fe at *
                   have ef : ∀ k, fe (.func k) = Act.eval ⟨#[], []⟩ (.func k) := fun k => by rw [← hfe]; rfl
                   clear hfe
                   first
                     | (obtain ⟨⟨A5, c5, h5, hs5⟩, hA2⟩ := hA
                        have HTy := hid (HTx.out A5 c5 A4 k4 w' hs5 (HSr.out.grew HGW.out))
                        clear hs5
                        go_simp
                        refine HTy.out.mono ?_
                        rintro e w3' ⟨rfl, hg3⟩
                        exact Gives.of' rfl hg3 rfl)
                     | (go_simp
                        first
                          | (with_reducible refine Gives.of' ?_ (Grew.refl _) ?_
                             · rfl
                             · rfl)
                          | ((with_reducible refine (HT1.out _ HGW.out).mono ?_); rintro e w3' ⟨rfl, hg3⟩; exact Gives.of' rfl hg3 rfl)
                          | ((with_reducible refine (HT2.out _ HGW.out).mono ?_); rintro e w3' ⟨A5, c5, rfl, hr5, hg3⟩; exact Gives.of' rfl hg3 ⟨A5, c5, rfl, row_strs hr5 EK.out⟩)
                          | ((with_reducible refine (HT3.out _ HGW.out).mono ?_); rintro e w3' ⟨rfl, hg3⟩; exact Gives.of' rfl hg3 rfl)
                          | ((with_reducible refine (HT4.out _ HGW.out).mono ?_); rintro e w3' ⟨rfl, hg3⟩; exact Gives.of' rfl hg3 rfl)
                          | ((with_reducible refine (HT5.out _ HGW.out).mono ?_); rintro e w3' ⟨rfl, hg3⟩; exact Gives.of' rfl hg3 rfl)
                          | ((with_reducible refine (HT6.out _ HGW.out).mono ?_); rintro e w3' ⟨rfl, hg3⟩; exact Gives.of' rfl hg3 rfl)
                          | ((with_reducible refine (HNu.out _ HGW.out).mono ?_); rintro e w3' ⟨rfl, hg3⟩; exact Gives.of' rfl hg3 rfl)))
          · intro a w' hgw hs hf _ _
            have h80 := hf 80 (by decide)
            simp only [slotOf, LtF, List.getD_cons_succ, List.getD_cons_zero] at h80
            obtain ⟨fn, rfl, hft⟩ := hs.put
            rw [hft] at h80
            have HGe := hid (HGw.out.trans hgw)
            clear hf hft hs hgw
            simp only [putAll, List.foldl_cons, List.foldl_nil, Act.put, List.setIfInBounds_toArray, List.set_cons_succ, List.set_cons_zero, h80]
            go_wp2_with fail
            go_ret
            exact ⟨rfl, HGe.out⟩
        · rw [show ckVal true = .nilIface from rfl] at HCk
          go_wp2_with fail
          refine HCk.out.mono ?_
          rintro e w4 ⟨rfl, hg4⟩
          have HG4 := hid hg4
          clear hg4 HCk
          have r0 := (HB3.out.grew HG4.out).cell 0
          have r1 := (HB3.out.grew HG4.out).cell 1
          have r2 := (HB3.out.grew HG4.out).cell 2
          have r3 := (HB3.out.grew HG4.out).cell 3
          have r4 := (HB3.out.grew HG4.out).cell 4
          have rl := (HB3.out.grew HG4.out).lt
          simp only [List.getElem?_toArray, List.getElem?_cons_zero, List.getElem?_cons_succ] at r0 r1 r2 r3 r4
          go_wp2_with fail
          refine (HFi.out _ HG4.out).mono ?_
          rintro e w5 ⟨rfl, hg5⟩
          have HG5 := hid (HG4.out.trans hg5)
          clear hg5 HFi
          clear r0 r1 r2 r3 r4 rl
          have r0 := (HB3.out.grew HG5.out).cell 0
          have r1 := (HB3.out.grew HG5.out).cell 1
          have r2 := (HB3.out.grew HG5.out).cell 2
          have r3 := (HB3.out.grew HG5.out).cell 3
          have r4 := (HB3.out.grew HG5.out).cell 4
          have rl := (HB3.out.grew HG5.out).lt
          simp only [List.getElem?_toArray, List.getElem?_cons_zero, List.getElem?_cons_succ] at r0 r1 r2 r3 r4
          go_wp2_with fail
          refine (HRf.out _ (HG3.out.trans HG5.out)).mono ?_
          rintro e w6 ⟨rfl, hg6⟩
          have HG6 := hid (HG5.out.trans hg6)
          clear hg6 HRf
          clear r0 r1 r2 r3 r4 rl
          have r0 := (HB3.out.grew HG6.out).cell 0
          have r1 := (HB3.out.grew HG6.out).cell 1
          have r2 := (HB3.out.grew HG6.out).cell 2
          have r3 := (HB3.out.grew HG6.out).cell 3
          have r4 := (HB3.out.grew HG6.out).cell 4
          have rl := (HB3.out.grew HG6.out).lt
          simp only [List.getElem?_toArray, List.getElem?_cons_zero, List.getElem?_cons_succ] at r0 r1 r2 r3 r4
          go_wp2_with fail
          refine (HOf.out _ HG6.out).mono ?_
          rintro e w7 ⟨rfl, hg7⟩
          have HG7 := hid (HG6.out.trans hg7)
          clear hg7 HOf
          clear r0 r1 r2 r3 r4 rl
          have r0 := (HB3.out.grew HG7.out).cell 0
          have r1 := (HB3.out.grew HG7.out).cell 1
          have r2 := (HB3.out.grew HG7.out).cell 2
          have r3 := (HB3.out.grew HG7.out).cell 3
          have r4 := (HB3.out.grew HG7.out).cell 4
          have rl := (HB3.out.grew HG7.out).lt
          simp only [List.getElem?_toArray, List.getElem?_cons_zero, List.getElem?_cons_succ] at r0 r1 r2 r3 r4
          go_wp2_with fail
          refine (HRo.out _ (HG3.out.trans HG7.out)).mono ?_
          rintro e w8 ⟨rfl, hg8⟩
          have HG8 := hid (HG7.out.trans hg8)
          clear hg8 HRo
          clear r0 r1 r2 r3 r4 rl
          have r0 := (HB3.out.grew HG8.out).cell 0
          have r1 := (HB3.out.grew HG8.out).cell 1
          have r2 := (HB3.out.grew HG8.out).cell 2
          have r3 := (HB3.out.grew HG8.out).cell 3
          have r4 := (HB3.out.grew HG8.out).cell 4
          have rl := (HB3.out.grew HG8.out).lt
          simp only [List.getElem?_toArray, List.getElem?_cons_zero, List.getElem?_cons_succ] at r0 r1 r2 r3 r4
          go_wp2_with fail
          refine (HOw.out _ HG8.out).mono ?_
          rintro e w9 ⟨rfl, hg9⟩
          have HG9 := hid (HG8.out.trans hg9)
          clear hg9 HOw
          clear r0 r1 r2 r3 r4 rl
          have r0 := (HB3.out.grew HG9.out).cell 0
          have r1 := (HB3.out.grew HG9.out).cell 1
          have r2 := (HB3.out.grew HG9.out).cell 2
          have r3 := (HB3.out.grew HG9.out).cell 3
          have r4 := (HB3.out.grew HG9.out).cell 4
          have rl := (HB3.out.grew HG9.out).lt
          simp only [List.getElem?_toArray, List.getElem?_cons_zero, List.getElem?_cons_succ] at r0 r1 r2 r3 r4
          go_wp2_with fail
          refine (HRw.out _ (HG3.out.trans HG9.out)).mono ?_
          rintro e w10 ⟨rfl, hg10⟩
          have HG10 := hid (HG9.out.trans hg10)
          clear hg10 HRw
          clear r0 r1 r2 r3 r4 rl
          have r0 := (HB3.out.grew HG10.out).cell 0
          have r1 := (HB3.out.grew HG10.out).cell 1
          have r2 := (HB3.out.grew HG10.out).cell 2
          have r3 := (HB3.out.grew HG10.out).cell 3
          have r4 := (HB3.out.grew HG10.out).cell 4
          have rl := (HB3.out.grew HG10.out).lt
          simp only [List.getElem?_toArray, List.getElem?_cons_zero, List.getElem?_cons_succ] at r0 r1 r2 r3 r4
          go_wp2_with fail
          refine (HRn.out _ (HG3.out.trans HG10.out)).mono ?_
          rintro e w11 ⟨A4, k4, rfl, hr4, hg11⟩
          have HR4 := hid hr4
          have HG11 := hid (HG10.out.trans hg11)
          have HW11 := hid (Grew.refl w11)
          clear hr4 hg11 HRn
          clear r0 r1 r2 r3 r4 rl
          have r0 := (HB3.out.grew HG11.out).cell 0
          have r1 := (HB3.out.grew HG11.out).cell 1
          have r2 := (HB3.out.grew HG11.out).cell 2
          have r3 := (HB3.out.grew HG11.out).cell 3
          have r4 := (HB3.out.grew HG11.out).cell 4
          have rl := (HB3.out.grew HG11.out).lt
          simp only [List.getElem?_toArray, List.getElem?_cons_zero, List.getElem?_cons_succ] at r0 r1 r2 r3 r4
          have HSr := hid (row_strs HR4.out EK.out)
          clear r0 r1 r2 r3 r4 rl
          have HGw := hid (HG3.out.trans HG11.out)
          have HNu := hid (fun (w' : World) (hg : Grew w11 w') => num_c 8 w' (HH.out.grew (HGw.out.trans hg)))
          rw [show errVal 8 = .iface 75 (.int .i64 8) from rfl] at HNu
          have HT1 := hid (fun (w' : World) (hg : Grew w11 w') => HRm.out w' (HGw.out.trans hg))
          have HT2 := hid (fun (w' : World) (hg : Grew w11 w') => HNm.out w' (HG11.out.trans hg))
          have HT3 := hid (fun (w' : World) (hg : Grew w11 w') => HCo.out w' (HG11.out.trans hg))
          have HT4 := hid (fun (w' : World) (hg : Grew w11 w') => HUn.out w' (HG11.out.trans hg))
          have HT5 := hid (fun (w' : World) (hg : Grew w11 w') => HRu.out w' (HGw.out.trans hg))
          have HT6 := hid (fun (w' : World) (hg : Grew w11 w') => HS.out w' (HGw.out.trans hg))
          have HQb := hid (fun (w' : World) (hg : Grew w11 w') => HB3.out.grew (HG11.out.trans hg))
          clear HRm HNm HCo HUn HRu HS HR4 HB3 HH
          generalize w.heap.size = G at *
          go_upto_region 12 with fail
          have hmx : Tryz.prog.follows .mixedOrders = true := by kernel_rfl
          refine wp_region_facts (w0 := w11) w11 81 [98, 99, 100, 101, 102, 103, 104, 105, 106, 107, 108, 109, 110, 111, 112, 113, 114, 115, 116, 117, 118, 119, 120, 121, 122, 123, 124, 125, 126, 127, 128, 129, 130, 131, 132, 133, 134, 135, 136, 137, 138, 139, 140, 141, 142, 143, 144, 145, 146, 147, 148, 149, 150, 151, 152, 153, 154, 155, 156, 157, 158, 159, 160, 161, 162, 163, 164, 165, 166, 167, 168, 169, 170, 171, 172, 173, 174, 175, 176, 177, 6] [] (LtF (.nilIface) true A A2 n cap m c2 x1 x2 x3 y1 y2 y3 Ax nv cx G C D N K A4 k4 z) hmx (by kernel_rfl) (Grew.refl _) LtF.mono ?_ ?_
          · repeat' (first | exact trivial | apply And.intro)
            all_goals
              intro a w' hgw hs hA
              have e0 := hs.eval 0 (by decide) (v := .slice A n cap) rfl
              have e1 := hs.eval 1 (by decide) (v := .slice A2 m c2) rfl
              have e5 := hs.eval 5 (by decide) (v := .pointer (some ⟨G, 0, none⟩)) rfl
              have e7 := hs.eval 7 (by decide) (v := .slice Ax nv cx) rfl
              have e9 := hs.eval 9 (by decide) (v := .nilIface) rfl
              have e10 := hs.eval 10 (by decide) (v := .int .i64 ((x1 : Nat) : Int)) rfl
              have e11 := hs.eval 11 (by decide) (v := .bool y1) rfl
              have e12 := hs.eval 12 (by decide) (v := .int .i64 ((x1 : Nat) : Int)) rfl
              have e13 := hs.eval 13 (by decide) (v := .bool y1) rfl
              have e14 := hs.eval 14 (by decide) (v := .int .i64 ((x2 : Nat) : Int)) rfl
              have e15 := hs.eval 15 (by decide) (v := .bool y2) rfl
              have e16 := hs.eval 16 (by decide) (v := .int .i64 ((x2 : Nat) : Int)) rfl
              have e17 := hs.eval 17 (by decide) (v := .bool y2) rfl
              have e18 := hs.eval 18 (by decide) (v := .int .i64 ((x3 : Nat) : Int)) rfl
              have e19 := hs.eval 19 (by decide) (v := .bool y3) rfl
              have e20 := hs.eval 20 (by decide) (v := .int .i64 ((x3 : Nat) : Int)) rfl
              have e21 := hs.eval 21 (by decide) (v := .bool y3) rfl
              have e22 := hs.eval 22 (by decide) (v := .slice A4 K k4) rfl
              have HGW := hid hgw
              have q0 := (HQb.out w' hgw).cell 0
              have q1 := (HQb.out w' hgw).cell 1
              have ql := (HQb.out w' hgw).lt
              simp only [List.getElem?_toArray, List.getElem?_cons_zero, List.getElem?_cons_succ] at q0 q1
              clear hs hgw
              simp only [List.append_eq, List.cons_append, List.nil_append, Ahead, Region.binds, slotOf, LtF, if_true, List.getD_cons_succ, List.getD_cons_zero, forall_const, and_true] at hA
              simp only [wantedD, isBool, slotOf, List.getD_cons_succ, List.getD_cons_zero, hA, if_true, beq_self_eq_true]
              first
                | exact ⟨trivial, rfl⟩
                | (unfold Oper.wp
                   have ec : ∀ v, a.eval (.const v) = v := fun _ => rfl
                   generalize hfe : a.eval = fe at *
                   have ef : ∀ k, fe (.func k) = Act.eval ⟨#[], []⟩ (.func k) := fun k => by rw [← hfe]; rfl
                   clear hfe
                   first
                     | (obtain ⟨⟨A5, c5, h5, hs5⟩, hA2⟩ := hA
                        have HTy := hid (HTx.out A5 c5 A4 k4 w' hs5 (HSr.out.grew HGW.out))
                        clear hs5
                        go_simp
                        refine HTy.out.mono ?_
                        rintro e w3' ⟨rfl, hg3⟩
                        exact Gives.of' rfl hg3 rfl)
                     | (go_simp
                        first
                          | (with_reducible refine Gives.of' ?_ (Grew.refl _) ?_
                             · rfl
                             · rfl)
                          | ((with_reducible refine (HT1.out _ HGW.out).mono ?_); rintro e w3' ⟨rfl, hg3⟩; exact Gives.of' rfl hg3 rfl)
                          | ((with_reducible refine (HT2.out _ HGW.out).mono ?_); rintro e w3' ⟨A5, c5, rfl, hr5, hg3⟩; exact Gives.of' rfl hg3 ⟨A5, c5, rfl, row_strs hr5 EK.out⟩)
                          | ((with_reducible refine (HT3.out _ HGW.out).mono ?_); rintro e w3' ⟨rfl, hg3⟩; exact Gives.of' rfl hg3 rfl)
                          | ((with_reducible refine (HT4.out _ HGW.out).mono ?_); rintro e w3' ⟨rfl, hg3⟩; exact Gives.of' rfl hg3 rfl)
                          | ((with_reducible refine (HT5.out _ HGW.out).mono ?_); rintro e w3' ⟨rfl, hg3⟩; exact Gives.of' rfl hg3 rfl)
                          | ((with_reducible refine (HT6.out _ HGW.out).mono ?_); rintro e w3' ⟨rfl, hg3⟩; exact Gives.of' rfl hg3 rfl)
                          | ((with_reducible refine (HNu.out _ HGW.out).mono ?_); rintro e w3' ⟨rfl, hg3⟩; exact Gives.of' rfl hg3 rfl)))
          · intro a w' hgw hs hf _ _
            have h80 := hf 80 (by decide)
            simp only [slotOf, LtF, List.getD_cons_succ, List.getD_cons_zero] at h80
            obtain ⟨fn, rfl, hft⟩ := hs.put
            rw [hft] at h80
            have HGe := hid (HGw.out.trans hgw)
            clear hf hft hs hgw
            simp only [putAll, List.foldl_cons, List.foldl_nil, Act.put, List.setIfInBounds_toArray, List.set_cons_succ, List.set_cons_zero, h80]
            go_wp2_with fail
            go_ret
            exact ⟨rfl, HGe.out⟩
  · clear HBb
    go_enter Tryz.func3, Tryz.ntmps3
    go_wp2_with fail
    rw [← hW]
    clear hW
    refine (HBg.out _ HG.out).mono ?_
    rintro e w1 ⟨rfl, hg1⟩
    have HG1 := hid (HG.out.trans hg1)
    clear hg1
    go_wp2_with fail
    refine (HS.out _ HG1.out).mono ?_
    rintro e w2 ⟨rfl, hg2⟩
    have HG2 := hid (HG1.out.trans hg2)
    clear hg2
    go_wp2_with fail
    go_ret
    exact ⟨rfl, HG2.out⟩
end Go.Proofs.YtjladeiecokpfaaGreatDoor

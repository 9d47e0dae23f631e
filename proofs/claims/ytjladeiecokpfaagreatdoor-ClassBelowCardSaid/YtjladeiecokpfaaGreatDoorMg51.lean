/- Texts of this claim in one: Finds10 Fresh Mo10. -/
import Derived.Test.YtjladeiecokpfaaGreatDoorCsX
import Derived.Test.YtjladeiecokpfaaGreatDoorCsV
section
/- ClassFinds: the law's walk. -/
namespace Go.Proofs.YtjladeiecokpfaaGreatDoor
open Go.RowKit

/-- Classes and methods that the call has made of those that came in. -/
structure Given (w : World) (l : List CV) (ms : List MV) (A : Option Addr) (c : Nat) (vs : List CV) (B : Option Addr) (us : List MV) : Prop where
  cl : ClsAt w A vs
  cap : vs.length ≤ c
  ms : MethsAt w B us
  same : cls vs = cls l
  env : Env w
theorem Given.grew {w w' : World} {l : List CV} {ms : List MV} {A : Option Addr} {c : Nat} {vs : List CV} {B : Option Addr} {us : List MV} (h : Given w l ms A c vs B us) (hg : Grew w w') : Given w' l ms A c vs B us := ⟨h.cl.grew hg, h.cap, h.ms.grew hg, h.same, h.env.grew hg⟩
set_option maxRecDepth 100000 in
set_option maxHeartbeats 8000000 in
theorem finds_walk (A : Option Addr) (cap : Nat) (l : List CV) (A2 : Option Addr) (c2 : Nat) (ms : List MV) (C D M : Int) (sel name : ByteArray) (w : World) (h : ClsArg w A l) (h2 : MethsArg w A2 ms) (hh : HandleAt w) (hE : Env w) :
    Calls Tryz.prog 6 #[.slice A l.length cap, .slice A2 ms.length c2, .agg #[.int .i64 C, .int .i64 D, .int .i64 M, .string sel, .string name]] w (yes10 w) := by
  have HS := hid (fun (w' : World) (hg : Grew w w') => (show Calls Tryz.prog 8 #[] w' fun e w'' => e = .returned (.bool true) ∧ Grew w' w'' from sure10_c w' (hh.grew hg) (hE.grew hg)))
  obtain ⟨bb, hbb⟩ : ∃ d : Bool, d = true ↔ BigC l ms := ⟨tru _, tru_iff _⟩
  have HBg := hid (fun (w' : World) (hg : Grew w w') => bigClasses_c A cap l A2 c2 ms bb hbb w' (h.grew hg) (h2.grew hg))
  have HGc := hid (fun (hn : ¬ BigC l ms) (w' : World) (hg : Grew w w') => giveClasses_c A cap l w' ((h.fit hn).grew hg))
  have HGm := hid (fun (hn : ¬ BigC l ms) (w' : World) (hg : Grew w w') => giveMethods_c A2 c2 ms w' ((h2.fit hn).grew hg))
  have HFit := hid (fun (hn : ¬ BigC l ms) => (h.fit hn).fit)
  have HE := hid hE
  have HBb := hid hbb
  obtain ⟨W, hW⟩ : ∃ W, W = w.alloc (.cells #[.int .i64 C, .int .i64 D, .int .i64 M, .string sel, .string name] 25) := ⟨_, rfl⟩
  have hg : Grew w W := by rw [hW]; exact (Grew.refl w).alloc _
  have hb : Blk W w.heap.size 25 #[.int .i64 C, .int .i64 D, .int .i64 M, .string sel, .string name] := by rw [hW]; exact Blk.new w _ _
  have HG := hid hg
  have HB := hid hb
  clear h h2 hh hE hbb hg hb
  generalize l.length = n at *
  generalize ms.length = m at *
  cases bb
  · have HNb : Hid (¬ BigC l ms) := hid (fun hc => by have := HBb.out.2 hc; cases this)
    clear HBb
    have q3 := HB.out.cell 3
    simp only [List.getElem?_toArray, List.getElem?_cons_zero, List.getElem?_cons_succ] at q3
    by_cases h100 : 100 < sel.size
    · have f1 : (100 : Int) < ((sel.size : Nat) : Int) := by omega
      go_enter Tryz.func6, Tryz.ntmps6
      go_wp2_with fail
      rw [← hW]
      clear hW
      refine (HBg.out _ HG.out).mono ?_
      rintro e w1 ⟨rfl, hg1⟩
      have r3 := (HB.out.grew hg1).cell 3
      have rl := (HB.out.grew hg1).lt
      simp only [List.getElem?_toArray, List.getElem?_cons_zero, List.getElem?_cons_succ] at r3
      have HG1 := hid (HG.out.trans hg1)
      clear hg1 q3
      go_wp2_with fail
      refine (HS.out _ HG1.out).mono ?_
      rintro e w2 ⟨rfl, hg2⟩
      have HG2 := hid (HG1.out.trans hg2)
      clear hg2
      go_wp2_with fail
      go_ret
      exact ⟨rfl, HG2.out⟩
    · have f1 : ¬ (100 : Int) < ((sel.size : Nat) : Int) := by omega
      clear h100
      go_enter Tryz.func6, Tryz.ntmps6
      go_wp2_with fail
      rw [← hW]
      clear hW
      refine (HBg.out _ HG.out).mono ?_
      rintro e w1 ⟨rfl, hg1⟩
      have r3 := (HB.out.grew hg1).cell 3
      have rl := (HB.out.grew hg1).lt
      simp only [List.getElem?_toArray, List.getElem?_cons_zero, List.getElem?_cons_succ] at r3
      have HB1 := hid (HB.out.grew hg1)
      have HG1 := hid (HG.out.trans hg1)
      clear hg1 q3 HB HG HBg
      go_wp2_with fail
      clear r3 rl f1
      refine (HGc.out HNb.out _ HG1.out).mono ?_
      rintro e w2 ⟨vs, Ax, cx, rfl, hsame, hown, hg2⟩
      have HSame := hid hsame
      have HOwn := hid hown
      have HG2 := hid (HG1.out.trans hg2)
      have HB2 := hid (HB1.out.grew hg2)
      clear hsame hown hg2 HB1 HG1 HGc
      go_wp2_with fail
      refine (HGm.out HNb.out _ HG2.out).mono ?_
      rintro e w3 ⟨us, Ay, cy, rfl, hum, hma, hg3⟩
      have HG3 := hid (HG2.out.trans hg3)
      have HB3 := hid (HB2.out.grew hg3)
      have hfit : ClsFit (cls vs) := by rw [HSame.out]; exact HFit.out HNb.out
      have HGv : Hid (Given w3 l ms Ax cx vs Ay us) := hid ⟨⟨HOwn.out.arg.grew hg3, hfit⟩, HOwn.out.cap, hma, HSame.out, HE.out.grew HG3.out⟩
      obtain ⟨bc, hbc⟩ : ∃ d : Bool, d = true ↔ MayC vs us := ⟨tru _, tru_iff _⟩
      have HCk := hid (ccheck_c Ax cx vs Ay cy us bc hbc w3 HGv.out.cl HGv.out.cap HGv.out.ms HGv.out.env)
      have HFi := hid (fun (w' : World) (hg : Grew w3 w') => find_c Ax cx vs Ay cy us C sel w' (HGv.out.cl.grew hg) (HGv.out.ms.grew hg))
      have HOw := hid (fun (k : Int) (w' : World) (hg : Grew w3 w') => owner_c Ax cx vs k w' (HGv.out.cl.grew hg))
      have HUn := hid (fun (o : Int) (w' : World) (hg : Grew w3 w') => under_c Ax cx vs C o w' (HGv.out.cl.grew hg))
      have HBc := hid hbc
      have HMs := hid HGv.out.ms
      clear hum hma hg3 hfit hbc HGv HOwn HSame HB2 HG2 HGm HNb HFit
      have HUl := hid (show us.length ≤ 100 from HMs.out.len)
      obtain ⟨nu, enu⟩ : ∃ nu, nu = us.length := ⟨_, rfl⟩
      rw [← enu] at HCk HFi ⊢
      have ENU := hid enu
      clear enu
      obtain ⟨nv, env⟩ : ∃ nv, nv = vs.length := ⟨_, rfl⟩
      rw [← env] at HCk HFi HOw HUn ⊢
      clear env
      cases bc
      · rw [show ckVal false = .iface 75 (.int .i64 8) from rfl] at HCk
        go_wp2_with fail
        refine HCk.out.mono ?_
        rintro e w4 ⟨rfl, hg4⟩
        have HG4 := hid (HG3.out.trans hg4)
        clear hg4
        go_wp2_with fail
        refine (HS.out _ HG4.out).mono ?_
        rintro e w5 ⟨rfl, hg5⟩
        have HG5 := hid (HG4.out.trans hg5)
        clear hg5
        go_wp2_with fail
        go_ret
        exact ⟨rfl, HG5.out⟩
      · rw [show ckVal true = .nilIface from rfl] at HCk
        have HMay := hid (HBc.out.1 rfl)
        clear HBc
        go_wp2_with fail
        refine HCk.out.mono ?_
        rintro e w4 ⟨rfl, hg4⟩
        have HG4 := hid hg4
        have r0 := (HB3.out.grew hg4).cell 0
        have r3 := (HB3.out.grew hg4).cell 3
        have rl := (HB3.out.grew hg4).lt
        simp only [List.getElem?_toArray, List.getElem?_cons_zero, List.getElem?_cons_succ] at r0 r3
        clear hg4 HCk
        cases hf : Cs.find (cls vs) (sels us) C sel with
        | none =>
          have HFn := hid (HFi.out _ HG4.out)
          rw [hf] at HFn
          have HFn2 : Hid (Calls Tryz.prog 12 #[.slice Ax nv cx, .slice Ay nu cy, .int .i64 C, .string sel] w4 fun e w' => e = .returned (.tuple #[.int .i64 0, .bool false]) ∧ Grew w4 w') := HFn
          clear HFn hf HFi HOw HUn HMay
          go_wp2_with fail
          refine HFn2.out.mono ?_
          rintro e w5 ⟨rfl, hg5⟩
          have HG5 := hid (HG3.out.trans (HG4.out.trans hg5))
          clear hg5 r0 r3 rl
          go_wp2_with fail
          refine (HS.out _ HG5.out).mono ?_
          rintro e w6 ⟨rfl, hg6⟩
          have HG6 := hid (HG5.out.trans hg6)
          clear hg6
          go_wp2_with fail
          go_ret
          exact ⟨rfl, HG6.out⟩
        | some k =>
          obtain ⟨hk, hs, o, ho, hu⟩ := Cs.find_owner HMay.out hf
          rw [sels_len] at hk
          obtain ⟨ad, u, rfl, hul, -⟩ := meth_at HMs.out (Grew.refl _) (i := k) hk
          have hsel : u.sel = sel := by
            rw [sels_at hul] at hs
            exact Option.some.inj hs
          have HFn := hid (HFi.out _ HG4.out)
          rw [hf] at HFn
          have HFn2 : Hid (Calls Tryz.prog 12 #[.slice Ax nv cx, .slice (some ad) nu cy, .int .i64 C, .string sel] w4 fun e w' => e = .returned (.tuple #[.int .i64 ((k : Nat) : Int), .bool true]) ∧ Grew w4 w') := HFn
          have HOn := hid (HOw.out ((k : Nat) : Int))
          rw [ho] at HOn
          have HOn2 : Hid (∀ w', Grew w3 w' → Calls Tryz.prog 16 #[.slice Ax nv cx, .int .i64 ((k : Nat) : Int)] w' fun e w'' => e = .returned (.tuple #[.int .i64 ((o : Nat) : Int), .bool true]) ∧ Grew w' w'') := HOn
          have HUn2 := hid (HUn.out ((o : Nat) : Int))
          rw [hu] at HUn2
          have hkn : k < nu := by rw [ENU.out]; exact hk
          have hki : (k : Int) < (nu : Int) := by omega
          have HUl2 := hid hul
          have HSel := hid hsel
          have hnu : nu ≤ 100 := by rw [ENU.out]; exact HUl.out
          clear HFn HOn hf HFi HOw HUn HMay ho hu hs hk hul hsel
          go_wp2_with fail
          refine HFn2.out.mono ?_
          rintro e w5 ⟨rfl, hg5⟩
          have HG5 := hid (HG4.out.trans hg5)
          clear hg5 r0 r3 rl HFn2
          go_wp2_with fail
          refine (HOn2.out _ HG5.out).mono ?_
          rintro e w6 ⟨rfl, hg6⟩
          have HG6 := hid (HG5.out.trans hg6)
          clear hg6 HOn2
          obtain ⟨m0, -, -, ml, -⟩ := meth_get HMs.out HG6.out HUl2.out
          rw [HSel.out] at m0
          have r0 := (HB3.out.grew HG6.out).cell 0
          have r3 := (HB3.out.grew HG6.out).cell 3
          have rl := (HB3.out.grew HG6.out).lt
          simp only [List.getElem?_toArray, List.getElem?_cons_zero, List.getElem?_cons_succ] at r0 r3
          have hz : (sel.toList == sel.toList) = true := by rw [beq_self_eq_true]
          go_wp2_with fail
          refine wp_region_grew_from (Grew.refl _) (by kernel_rfl) (by kernel_rfl) ?_
          repeat (go_big_quiet_step ((first | (go_at_call 24; exact Calls.grew (After.grew _) (HUn2.out _ (HG6.out.trans (After.grew _)))) | (go_at_call 8; exact Calls.grew (After.grew _) (HS.out _ (HG3.out.trans (HG6.out.trans (After.grew _))))))))
          refine wpQuiet_nil ?_
          rintro _ ⟨y1, rfl⟩
          have HY := hid y1.grew
          go_wp2_with fail
          go_ret
          exact ⟨rfl, HG3.out.trans (HG6.out.trans HY.out)⟩
  · clear HBb
    go_enter Tryz.func6, Tryz.ntmps6
    go_wp2_with fail
    rw [← hW]
    clear hW
    refine (HBg.out _ HG.out).mono ?_
    rintro e w1 ⟨rfl, hg1⟩
    have HG1 := hid (HG.out.trans hg1)
    clear hg1
    go_wp2_with fail
    refine (HS.out _ HG1.out).mono ?_
    rintro e w2 ⟨rfl, hg2⟩
    have HG2 := hid (HG1.out.trans hg2)
    clear hg2
    go_wp2_with fail
    go_ret
    exact ⟨rfl, HG2.out⟩
end Go.Proofs.YtjladeiecokpfaaGreatDoor
end

section
/- Stage 10: law 10's fresh. -/
namespace Go.Proofs.YtjladeiecokpfaaGreatDoor
open Go.RowKit

/-- The names that are tried. -/
def freshS (i : Nat) : ByteArray := ⟨#[90, 110, 101, 119, 48 + (i / 10).toUInt8, 48 + (i % 10).toUInt8]⟩
theorem fresh_eq : ∀ i : Nat, i < 100 → (({ data := #[90, 110, 101, 119] } : ByteArray) ++ strOfNums [48 + ((i : Nat) : Int) / 10, 48 + ((i : Nat) : Int) % 10]) = freshS i := by decide +kernel
theorem fresh_ok : ∀ i, i < 100 → Cs.nameOk 65 90 (freshS i) = true := by decide +kernel
theorem fresh_nodup : ((List.range 100).map freshS).Nodup := by decide +kernel
theorem nodup_le {α : Type} [DecidableEq α] : ∀ {a b : List α}, a.Nodup → (∀ x ∈ a, x ∈ b) → a.length ≤ b.length
  | [], _, _, _ => Nat.zero_le _
  | x :: a, b, hd, hs => by
    rw [List.nodup_cons] at hd
    have h1 := nodup_le (a := a) (b := b.erase x) hd.2 (fun y hy => by
      rw [List.mem_erase_of_ne (fun e => hd.1 (by rw [← e]; exact hy))]
      exact hs y (List.mem_cons_of_mem _ hy))
    have h2 := List.length_erase_of_mem (hs x List.mem_cons_self)
    have h3 := List.length_pos_of_mem (hs x List.mem_cons_self)
    rw [List.length_cons]
    omega
theorem of_none {l : List Cs.Cls} {s : ByteArray} : Cs.of l s = none ↔ s ∉ l.map (·.name) := by
  unfold Cs.of
  rw [List.findIdx?_eq_none_iff, List.mem_map]
  constructor
  · rintro h ⟨x, hx, e⟩
    have := h x hx
    simp [e] at this
  · intro h x hx
    exact decide_eq_false (fun e => h ⟨x, hx, e⟩)
theorem two_str (W : World) (a b : Int) : (convert 69 9 (.slice (some ⟨W.heap.size, 0, none⟩) 2 2)).run Tryz.prog (W.alloc (.cells #[.int .u8 a, .int .u8 b] 5)) = .ok (.string (strOfNums [a, b])) (W.alloc (.cells #[.int .u8 a, .int .u8 b] 5)) := by
  have hb := Blk.new W 5 #[.int .u8 a, .int .u8 b]
  exact run_convert_bytes_arg (P := Tryz.prog) _ 69 5 Tryz.underlying69 Tryz.underlying5 W.heap.size 0 2 2 [a, b] rfl (fun j hj => by
    rw [Nat.zero_add, hb.cell]
    match j, hj with
    | 0, _ => rfl
    | 1, _ => rfl
    | j + 2, hj => exact absurd hj (by omega)) 9 Tryz.underlying9
set_option maxRecDepth 100000 in
set_option maxHeartbeats 8000000 in
theorem fresh_c (A : Option Addr) (cap : Nat) (l : List CV) (w : World) (h : ClsAt w A l) (hl : l.length < 64) :
    Calls Tryz.prog 26 #[.slice A l.length cap] w fun e w' => ∃ s : ByteArray, e = .returned (.string s) ∧ Cs.nameOk 65 90 s = true ∧ s ∉ (cls l).map (·.name) ∧ Grew w w' := by
  have HOf := hid (fun (s : ByteArray) (w' : World) (hg : Grew w w') => of_c A cap l s w' (h.grew hg))
  have HL := hid (show ((cls l).map (·.name)).length < 64 by rw [List.length_map, cls_len]; exact hl)
  clear h hl
  obtain ⟨n, en⟩ : ∃ n, n = l.length := ⟨_, rfl⟩
  rw [← en] at HOf ⊢
  clear en
  go_enter Tryz.func26, Tryz.ntmps26
  go_wp2_with fail
  go_loopw [3, 4, 5, 6] (fun s3 _ _ _ wr => ∃ i : Nat, s3 = .int .i64 ((i : Nat) : Int) ∧ i ≤ 100 ∧ Hid (∀ j, j < i → freshS j ∈ (cls l).map (·.name)) ∧ Grew w wr) (fun s3 _ _ _ _ => 100 - (intOf s3).toNat)
  case atStart => exact ⟨0, rfl, Nat.zero_le _, hid (by simp), Grew.refl _⟩
  case round =>
    obtain ⟨i, rfl, hi, HT, hg⟩ := hrel
    have HG := hid hg
    clear hg
    by_cases hlt : i < 100
    · have f1 : (i : Int) < 100 := by omega
      have kc := fun (W : World) (a b : Int) => (show (convert 69 9 (.slice (some ⟨W.heap.size, 0, none⟩) 2 2)).run Tryz.prog (W.alloc (.cells #[.int .u8 a, .int .u8 b] 5)) = .ok (.string (strOfNums [a, b])) (W.alloc (.cells #[.int .u8 a, .int .u8 b] 5)) from two_str W a b)
      have fq := fresh_eq i hlt
      have HOk := hid (fresh_ok i hlt)
      obtain ⟨s, hs⟩ : ∃ s, s = freshS i := ⟨_, rfl⟩
      rw [← hs] at fq HOk
      have HFe := hid hs
      clear hs
      have HG1 := hid (HG.out.trans ((Grew.refl wr).alloc (.cells #[.int .u8 (48 + (i : Int) / 10), .int .u8 (48 + (i : Int) % 10)] 5)))
      have HO := hid (HOf.out s _ HG1.out)
      cases ho : Cs.of (cls l) s with
      | none =>
        have HNo := hid (of_none.1 ho)
        rw [ho] at HO
        have HO2 : Hid (Calls Tryz.prog 14 #[.slice A n cap, .string s] (wr.alloc (.cells #[.int .u8 (48 + (i : Int) / 10), .int .u8 (48 + (i : Int) % 10)] 5)) fun e w' => e = .returned (.tuple #[.int .i64 0, .bool false]) ∧ Grew (wr.alloc (.cells #[.int .u8 (48 + (i : Int) / 10), .int .u8 (48 + (i : Int) % 10)] 5)) w') := HO
        clear HO ho HT HFe
        go_wp2_with fail
        refine HO2.out.mono ?_
        rintro e w2 ⟨rfl, hg2⟩
        have HG2 := hid (HG1.out.trans hg2)
        clear hg2
        go_wp2_with fail
        go_ret
        exact ⟨s, rfl, HOk.out, HNo.out, HG2.out⟩
      | some k =>
        have HM : Hid (s ∈ (cls l).map (·.name)) := hid (by
          by_cases hm : s ∈ (cls l).map (·.name)
          · exact hm
          · rw [of_none.2 hm] at ho; cases ho)
        rw [ho] at HO
        have HO2 : Hid (Calls Tryz.prog 14 #[.slice A n cap, .string s] (wr.alloc (.cells #[.int .u8 (48 + (i : Int) / 10), .int .u8 (48 + (i : Int) % 10)] 5)) fun e w' => e = .returned (.tuple #[.int .i64 ((k : Nat) : Int), .bool true]) ∧ Grew (wr.alloc (.cells #[.int .u8 (48 + (i : Int) / 10), .int .u8 (48 + (i : Int) % 10)] 5)) w') := HO
        clear HO ho HOk
        go_wp2_with fail
        refine HO2.out.mono ?_
        rintro e w2 ⟨rfl, hg2⟩
        have HG2 := hid (HG1.out.trans hg2)
        clear hg2
        go_wp2_with fail
        go_roundw
        case rel => exact ⟨i + 1, by go_num, by omega, hid (fun j hj => by
          rcases Nat.lt_or_ge j i with h1 | h1
          · exact HT.out j h1
          · rw [show j = i by omega, ← HFe.out]; exact HM.out), HG2.out⟩
        case measure => simp [intOf]; omega
    · have f1 : ¬ (i : Int) < 100 := by omega
      exfalso
      have h1 := nodup_le fresh_nodup (b := (cls l).map (·.name)) (fun x hx => by
        obtain ⟨j, hj, rfl⟩ := List.mem_map.1 hx
        exact HT.out j (by have := List.mem_range.1 hj; omega))
      have h2 := HL.out
      simp only [List.length_map, List.length_range] at h1 h2
      omega
end Go.Proofs.YtjladeiecokpfaaGreatDoor
end

section
/- Stage 10: one more class behind: what the law of it asks. -/
namespace Go.Proofs.YtjladeiecokpfaaGreatDoor
open Go.RowKit

theorem mayM_more {ms : List MV} (k : Nat) (v n n' : Int) (hn : n ≤ n') (h : mayM ms k v n) : mayM ms k v n' := by
  unfold mayM at h ⊢
  split at h
  · exact h.more (Int.le_refl _) hn
  · exact h
theorem nameOk_size {lo hi : Nat} {s : ByteArray} (h : Cs.nameOk lo hi s = true) : s.size ≤ 32 := by
  by_cases h1 : 1 ≤ s.size ∧ s.size ≤ 32
  · exact h1.2
  · rw [nameOk_out h1] at h; cases h
theorem names_few {L : List Cs.Cls} (h : ClsFit L) (c : Int) : (Cs.names L c).length ≤ 1000000 := by
  rw [Cs.total_names]
  have h1 := Cs.total_le h.vars (Cs.chain L c)
  have h2 := Cs.chain_le L c
  have h3 := h.len
  omega
/-- What the law of one more class asks. -/
structure MoreF (w : World) (Ax : Option Addr) (n cx : Nat) (Ay : Option Addr) (m cy : Nat) (Az : Option Addr) (cz : Nat) (U : Int) (r : List ByteArray) : Prop where
  check : Calls Tryz.prog 11 #[.slice Az (n + 1) cz, .slice Ay m cy] w fun e w' => e = .returned .nilIface ∧ Grew w w'
  under : ∀ w', Grew w w' → Calls Tryz.prog 24 #[.slice Az (n + 1) cz, .int .i64 ((n : Nat) : Int), .int .i64 U] w' fun e w'' => e = .returned (.bool true) ∧ Grew w' w''
  nz : ∀ w', Grew w w' → Calls Tryz.prog 22 #[.slice Az (n + 1) cz, .int .i64 ((n : Nat) : Int)] w' (NamesPost w' r)
  nx : ∀ w', Grew w w' → Calls Tryz.prog 22 #[.slice Ax n cx, .int .i64 U] w' (NamesPost w' r)
  kz : ∀ w', Grew w w' → Calls Tryz.prog 23 #[.slice Az (n + 1) cz, .int .i64 ((n : Nat) : Int)] w' fun e w'' => e = .returned (.int .i64 ((r.length : Nat) : Int)) ∧ Grew w' w''
  kx : ∀ w', Grew w w' → Calls Tryz.prog 23 #[.slice Ax n cx, .int .i64 U] w' fun e w'' => e = .returned (.int .i64 ((r.length : Nat) : Int)) ∧ Grew w' w''
  few : r.length ≤ 1000000
  finds : ∀ s : ByteArray, ∃ (d : Nat) (b : Bool), (∀ w', Grew w w' → Calls Tryz.prog 12 #[.slice Ax n cx, .slice Ay m cy, .int .i64 U, .string s] w' fun e w'' => e = .returned (.tuple #[.int .i64 ((d : Nat) : Int), .bool b]) ∧ Grew w' w'') ∧
    ∀ w', Grew w w' → Calls Tryz.prog 12 #[.slice Az (n + 1) cz, .slice Ay m cy, .int .i64 ((n : Nat) : Int), .string s] w' fun e w'' => e = .returned (.tuple #[.int .i64 ((d : Nat) : Int), .bool b]) ∧ Grew w' w''
set_option maxRecDepth 100000 in
theorem more_facts {w : World} {l vs zs : List CV} {ms us : List MV} {Ax Ay Az : Option Addr} {cx cy cz : Nat} (hG : Given w l ms Ax cx vs Ay us) (hM : MayC vs us) {u : Nat} {U : Int} (hU : U = ((u : Nat) : Int)) (hu : u < vs.length) (h0 : u = 0 ∨ 11 ≤ u) (hl : vs.length < 64) {s : ByteArray} (hzc : cls zs = cls l ++ [⟨s, U, [], []⟩]) (hs : Cs.nameOk 65 90 s = true) (hn : s ∉ (cls l).map (·.name)) (hz : ClsArg w Az zs) (hcap : zs.length ≤ cz) :
    ∃ r, MoreF w Ax vs.length cx Ay us.length cy Az cz U r := by
  have hzl : zs.length = vs.length + 1 := by
    have h1 := congrArg List.length hzc
    have h2 := congrArg List.length hG.same
    simp only [List.length_append, cls_len, List.length_cons, List.length_nil] at h1 h2
    omega
  rw [← hG.same] at hzc hn
  have hLn : (cls vs).length = vs.length := cls_len vs
  have hfx : ClsFit (cls vs) := hG.cl.fit
  have hfz : ClsFit (cls zs) := by
    rw [hzc]
    have key : ∀ (P : Cs.Cls → Prop), (∀ x ∈ cls vs, P x) → P ⟨s, U, [], []⟩ → ∀ x ∈ cls vs ++ [⟨s, U, [], []⟩], P x := fun P h1 h2 x hx => by
      rcases List.mem_append.1 hx with hx | hx
      · exact h1 x hx
      · rw [List.mem_singleton.1 hx]; exact h2
    exact ⟨by simp only [List.length_append, List.length_cons, List.length_nil]; omega, key _ hfx.name (by have := nameOk_size hs; show s.size ≤ 2000; omega), key _ hfx.vars (Nat.zero_le _), key _ hfx.var (fun t ht => by cases ht), key _ hfx.ms (Nat.zero_le _)⟩
  have hZ : ClsAt w Az zs := ⟨hz, hfz⟩
  have hMz : MayC zs us := by
    show Cs.May (cls zs) (sels us) (mayM us)
    rw [hzc]
    exact Cs.may_snoc hM (by omega) hs (by show 0 ≤ U; omega) (by show U < _; omega) (by show U = 0 ∨ 11 ≤ U; omega) rfl rfl hn mayM_more
  have eN : Cs.names (cls zs) ((vs.length : Nat) : Int) = Cs.names (cls vs) U := by
    rw [hzc, ← hLn]
    exact Cs.names_new (cls vs) ⟨s, U, [], []⟩ (by show U < _; omega) rfl
  have eF : ∀ t, Cs.find (cls zs) (sels us) ((vs.length : Nat) : Int) t = Cs.find (cls vs) (sels us) U t := fun t => by
    rw [hzc, ← hLn]
    exact Cs.find_new (cls vs) ⟨s, U, [], []⟩ (sels us) t (by show U < _; omega) rfl
  have eU : Cs.under (cls zs) ((vs.length : Nat) : Int) U = true := by
    rw [hzc, ← hLn, Cs.under_mem, Cs.chain_new (cls vs) ⟨s, U, [], []⟩ (by show U < _; omega)]
    show ∃ i ∈ (cls vs).length :: Cs.chain (cls vs) U, ((i : Nat) : Int) = U
    rw [hU]
    obtain ⟨i, hi, e⟩ := Cs.under_mem.1 (Cs.under_self (l := cls vs) (c := u) (by omega))
    exact ⟨i, List.mem_cons_of_mem _ hi, e⟩
  refine ⟨Cs.names (cls vs) U, ?_, fun w' hg => ?_, fun w' hg => ?_, fun w' hg => ?_, fun w' hg => ?_, fun w' hg => ?_, names_few hfx U, fun t => ⟨(Cs.find (cls vs) (sels us) U t).getD 0, (Cs.find (cls vs) (sels us) U t).isSome, fun w' hg => ?_, fun w' hg => ?_⟩⟩
  · have := ccheck_c Az cz zs Ay cy us true ⟨fun _ => hMz, fun _ => rfl⟩ w hZ hcap hG.ms hG.env
    rw [hzl] at this
    exact this
  · have := under_c Az cz zs ((vs.length : Nat) : Int) U w' (hZ.grew hg)
    rw [eU, hzl] at this
    exact this
  · have := names_c Az cz zs ((vs.length : Nat) : Int) w' (hZ.grew hg)
    rw [eN, hzl] at this
    exact this
  · exact names_c Ax cx vs U w' (hG.cl.grew hg)
  · have := count_c Az cz zs ((vs.length : Nat) : Int) w' (hZ.grew hg)
    rw [eN, hzl] at this
    exact this
  · exact count_c Ax cx vs U w' (hG.cl.grew hg)
  · exact find_c Ax cx vs Ay cy us U t w' (hG.cl.grew hg) (hG.ms.grew hg)
  · have := find_c Az cz zs Ay cy us ((vs.length : Nat) : Int) t w' (hZ.grew hg) (hG.ms.grew hg)
    rw [eF, hzl] at this
    exact this
end Go.Proofs.YtjladeiecokpfaaGreatDoor
end

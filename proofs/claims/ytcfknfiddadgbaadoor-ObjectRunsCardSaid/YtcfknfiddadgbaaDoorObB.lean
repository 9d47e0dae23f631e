/- Stage 11: May. -/
import Derived.Test.YtcfknfiddadgbaaDoorObA
namespace Go.Proofs.YtcfknfiddadgbaaDoor
open Go.RowKit

set_option maxHeartbeats 1000000 in
theorem idxVal_c (g : Nat) (lb : Array Value) (eg : ∀ args w, (callFunc g args).run Tryd.prog w = .ok (.enter g args) w) (p : Ob.Val → Bool) (A : Option Addr) (c : Nat) (l : List Ob.Val) (w : World) (h : ValsAt w A l) (hl : l.length ≤ 1000000)
    (hp : ∀ x ∈ l, ∀ W, Grew w W → Calls Tryd.prog g (#[.agg #[.int .u8 ((x.k : Nat) : Int), .int .i64 x.n, .int .i64 x.l]] ++ lb) W fun e w' => e = .returned (.bool (p x)) ∧ Grew W w') :
    Calls Tryd.prog 53 #[.slice A l.length c, .func (.func g) #[] lb] w fun e w' => (∃ r : Int, e = .returned (.int .i64 r) ∧ (0 ≤ r ↔ l.any p = true)) ∧ Grew w w' := by
  obtain ⟨n, en⟩ : ∃ n, n = l.length := ⟨_, rfl⟩
  have HA := hid h
  have HP := hid hp
  rw [← en] at hl ⊢
  have EN := hid en
  clear h hp en
  go_enter Tryd.func53, Tryd.ntmps53
  go_wp2_with fail
  go_loopw [5, 8] (fun _ s8 wr => ∃ i : Nat, s8 = .int .i64 ((i : Nat) : Int) ∧ i ≤ n ∧ Grew w wr ∧ Hid ((l.take i).any p = false)) (fun _ s8 _ => n - (intOf s8).toNat)
  case atStart => exact ⟨0, rfl, Nat.zero_le _, Grew.refl _, hid (by simp)⟩
  case round =>
    obtain ⟨i, rfl, hi, hg, HI⟩ := hrel
    have HG := hid hg
    clear hg
    by_cases hlt : i < n
    · have f1 : (i : Int) < n := by omega
      obtain ⟨ad, x, rfl, hx, q0, q1, q2, hb, _⟩ := val_at HA.out HG.out (i := i) (by rw [← EN.out]; exact hlt)
      have HT : Hid ((l.take (i + 1)).any p = p x) := hid (by
        rw [List.take_add_one, hx, List.any_append, HI.out]
        simp)
      have HX : Hid (p x = true → l.any p = true) := hid (fun hf => List.any_eq_true.2 ⟨x, List.mem_of_getElem? hx, hf⟩)
      have hcall := HP.out x (List.mem_of_getElem? hx) wr HG.out
      generalize p x = b at hcall HT HX
      clear hx
      obtain ⟨k, s, t⟩ := x
      simp only at q0 q1 q2 hcall
      cases b
      · go_wp2_with (go_at_fn g; refine hcall.mono ?_; rintro e w2 ⟨rfl, hg2⟩)
        go_round
        case rel => exact ⟨i + 1, by go_num, by omega, HG.out.trans hg2, HT⟩
        case measure => simp [intOf]; omega
      · go_wp2_with (go_at_fn g; refine hcall.mono ?_; rintro e w2 ⟨rfl, hg2⟩)
        go_ret
        exact ⟨⟨_, rfl, by rw [HX.out (by trivial)]; simp⟩, HG.out.trans hg2⟩
    · have hin : i = n := by omega
      subst hin
      go_wp2_with fail
      go_ret
      refine ⟨⟨_, rfl, ?_⟩, HG.out⟩
      have := HI.out
      rw [EN.out, List.take_length] at this
      rw [this]
      simp
theorem anyVal_c (g : Nat) (lb : Array Value) (eg : ∀ args w, (callFunc g args).run Tryd.prog w = .ok (.enter g args) w) (p : Ob.Val → Bool) (A : Option Addr) (c : Nat) (l : List Ob.Val) (w : World) (h : ValsAt w A l) (hl : l.length ≤ 1000000)
    (hp : ∀ x ∈ l, ∀ W, Grew w W → Calls Tryd.prog g (#[.agg #[.int .u8 ((x.k : Nat) : Int), .int .i64 x.n, .int .i64 x.l]] ++ lb) W fun e w' => e = .returned (.bool (p x)) ∧ Grew W w') :
    Calls Tryd.prog 39 #[.slice A l.length c, .func (.func g) #[] lb] w fun e w' => e = .returned (.bool (l.any p)) ∧ Grew w w' := by
  have HI := hid (idxVal_c g lb eg p A c l w h hl hp)
  clear h hp hl eg
  generalize l.any p = b at *
  generalize l.length = n at *
  go_enter Tryd.func39, Tryd.ntmps39
  go_wp2_with fail
  refine HI.out.mono ?_
  rintro e w1 ⟨⟨r, rfl, hr⟩, hg⟩
  have HD := hid (show decide ((0 : Int) ≤ r) = b by rw [Bool.eq_iff_iff, decide_eq_true_iff]; exact hr)
  clear hr
  go_wp2_with fail
  go_ret
  exact ⟨congrArg (fun z => Ending.returned (.bool z)) HD.out, hg⟩
theorem other_c (n : Nat) (v : Ob.Val) (gb : Nat) (w : World) (h : Blk w gb 3 #[.int .i64 ((n : Nat) : Int)]) : Calls Tryd.prog 38 #[.agg #[.int .u8 ((v.k : Nat) : Int), .int .i64 v.n, .int .i64 v.l], .pointer (some ⟨gb, 0, none⟩)] w fun e w' => e = .returned (.bool (!Ob.valueB n v)) ∧ Grew w w' := by
  have HV := hid (fun W => value_c n v W)
  generalize Ob.valueB n v = b at *
  obtain ⟨k, z, l⟩ := v
  simp only at HV ⊢
  have G1 := (Grew.refl w).alloc (.cells #[.int .u8 ((k : Nat) : Int), .int .i64 z, .int .i64 l] 39)
  have h1 := h.grew G1
  have q0 := h1.cell 0
  have ql := h1.lt
  have B1 := Blk.new w 39 #[.int .u8 ((k : Nat) : Int), .int .i64 z, .int .i64 l]
  have p0 := B1.cell 0
  have p1 := B1.cell 1
  have p2 := B1.cell 2
  have pl := B1.lt
  simp only [List.getElem?_toArray, List.getElem?_cons_zero, List.getElem?_cons_succ] at q0 p0 p1 p2
  have HG := hid G1
  clear h h1 B1 G1
  go_enter Tryd.func38, Tryd.ntmps38
  go_upto_region 1 with fail
  generalize w.alloc (.cells #[.int .u8 ((k : Nat) : Int), .int .i64 z, .int .i64 l] 39) = w1 at *
  generalize w.heap.size = g at *
  go_wp2_with (go_at_call 19; refine (HV.out _).mono ?_; rintro e w2 ⟨rfl, hg2⟩)
  go_ret
  exact ⟨rfl, HG.out.trans hg2⟩
theorem all_not (l : List Ob.Val) (n : Nat) : (!l.any (fun v => !Ob.valueB n v)) = l.all (Ob.valueB n) := by
  induction l with
  | nil => rfl
  | cons x r ih => rw [List.any_cons, List.all_cons, Bool.not_or, ih, Bool.not_not]
set_option maxHeartbeats 2000000 in
theorem may_c (n : Nat) (v : OV) (w : World) (h : OvOk w v) : Calls Tryd.prog 17 #[.int .i64 ((n : Nat) : Int), .agg #[.int .i64 v.o.cls, .int .i64 v.o.lev, .slice v.A v.o.f.length v.c, .string v.o.b]] w fun e w' => e = .returned (.bool (Ob.mayB n v.o)) ∧ Grew w w' := by
  obtain ⟨⟨cls, lev, f, b⟩, A, c⟩ := v
  have hf := h.f
  clear h
  simp only at hf ⊢
  have HA := hid (fun (gb : Nat) (W : World) (hw : Grew w W) (hb : Blk W gb 3 #[.int .i64 ((n : Nat) : Int)]) (hl : f.length ≤ 256) => anyVal_c 38 #[.pointer (some ⟨gb, 0, none⟩)] (fun _ _ => rfl) (fun v => !Ob.valueB n v) A c f W (hf.grew hw) (by omega) (fun x _ W' hW' => other_c n x gb W' (hb.grew hW')))
  have HI1 := hid (fun W => isIndex_c cls 64 W)
  have HI2 := hid (fun W => isIndex_c lev ((n : Nat) : Int) W)
  unfold Ob.mayB Ob.headB
  simp only
  have EA := hid (all_not f n)
  generalize f.all (Ob.valueB n) = al at *
  generalize (f.any fun v => !Ob.valueB n v) = an at *
  generalize Ob.inB cls 64 = b1 at *
  generalize Ob.inB lev ((n : Nat) : Int) = b2 at *
  generalize f.length = m at *
  obtain ⟨R, hR⟩ : ∃ R, R = ((b1 && (b2 && (decide (m ≤ 256) && (decide (b.size ≤ 1024) && (decide (m = 0) || decide (b.size = 0)))))) && al) := ⟨_, rfl⟩
  rw [← hR]
  have HR := hid hR
  clear hR
  have G1 := (Grew.refl w).alloc (.cells #[.int .i64 ((n : Nat) : Int)] 3)
  have G2 := G1.alloc (.cells #[.int .i64 cls, .int .i64 lev, .slice A m c, .string b] 28)
  have B2 := (Blk.new w 3 #[.int .i64 ((n : Nat) : Int)]).grew ((Grew.refl _).alloc (.cells #[.int .i64 cls, .int .i64 lev, .slice A m c, .string b] 28))
  have B3 := Blk.new (w.alloc (.cells #[.int .i64 ((n : Nat) : Int)] 3)) 28 #[.int .i64 cls, .int .i64 lev, .slice A m c, .string b]
  clear hf G1
  go_enter Tryd.func17, Tryd.ntmps17
  go_upto_region 2 with fail
  have e1 : (w.alloc (.cells #[.int .i64 ((n : Nat) : Int)] 3)).heap.size = w.heap.size + 1 := World.size_alloc _ _
  rw [e1] at B3
  generalize (w.alloc (.cells #[.int .i64 ((n : Nat) : Int)] 3)).alloc (.cells #[.int .i64 cls, .int .i64 lev, .slice A m c, .string b] 28) = w1 at *
  generalize w.heap.size = g at *
  have HG := hid G2
  have HB2 := hid B2
  have HB := hid B3
  have q0 := B3.cell 0
  have q1 := B3.cell 1
  have ql := B3.lt
  have p0 := B2.cell 0
  have pl := B2.lt
  simp only [List.getElem?_toArray, List.getElem?_cons_zero, List.getElem?_cons_succ] at q0 q1 p0
  clear G2 B2 B3 e1
  cases b1
  · go_wp2_with (go_at_call 31; refine (HI1.out _).mono ?_; rintro e w2 ⟨rfl, hg2⟩)
    go_ret
    exact ⟨congrArg (fun z => Ending.returned (.bool z)) (by rw [HR.out]; rfl), HG.out.trans hg2⟩
  · go_wp2_with fail
    refine (HI1.out _).mono ?_
    rintro e w2 ⟨rfl, hg2⟩
    have HC := hid (HG.out.trans hg2)
    have HD := hid (HB.out.grew hg2)
    have HE := hid (HB2.out.grew hg2)
    have r1 := HD.out.cell 1
    have rl := HD.out.lt
    have s0 := HE.out.cell 0
    have sl := HE.out.lt
    simp only [List.getElem?_toArray, List.getElem?_cons_zero, List.getElem?_cons_succ] at r1 s0
    clear q0 q1 ql p0 pl HG HB HB2 hg2
    cases b2
    · go_wp2_with (go_at_call 31; refine (HI2.out _).mono ?_; rintro e w3 ⟨rfl, hg3⟩)
      go_ret
      exact ⟨congrArg (fun z => Ending.returned (.bool z)) (by rw [HR.out]; rfl), HC.out.trans hg3⟩
    · go_wp2_with fail
      refine (HI2.out _).mono ?_
      rintro e w3 ⟨rfl, hg3⟩
      have HG := hid (HC.out.trans hg3)
      have HB := hid (HD.out.grew hg3)
      have HB2 := hid (HE.out.grew hg3)
      have q2 := HB.out.cell 2
      have q3 := HB.out.cell 3
      have ql := HB.out.lt
      simp only [List.getElem?_toArray, List.getElem?_cons_zero, List.getElem?_cons_succ] at q2 q3
      clear r1 rl s0 sl HC HD HE hg3
      by_cases h1 : m ≤ 256
      · have f1 : (m : Int) ≤ 256 := by omega
        have D1 := hid (decide_eq_true h1)
        by_cases h2 : b.size ≤ 1024
        · have f2 : ((b.size : Nat) : Int) ≤ 1024 := by omega
          have D2 := hid (decide_eq_true h2)
          have hcall := HA.out g w3 HG.out HB2.out h1
          by_cases h3 : m = 0
          · have f3 : ((m : Int) == 0) = true := by rw [beq_iff_eq]; omega
            have D3 := hid (decide_eq_true h3)
            clear h1 h2 h3
            go_wp2_with fail
            refine hcall.mono ?_
            rintro e w4 ⟨rfl, hg4⟩
            go_wp2_with fail
            go_ret
            exact ⟨congrArg (fun z => Ending.returned (.bool z)) (by rw [HR.out, D1.out, D2.out, D3.out]; exact EA.out), HG.out.trans hg4⟩
          · have f3 : ((m : Int) == 0) = false := by rw [beq_eq_false_iff_ne]; omega
            have D3 := hid (decide_eq_false h3)
            by_cases h4 : b.size = 0
            · have f4 : (((b.size : Nat) : Int) == 0) = true := by rw [beq_iff_eq]; omega
              have D4 := hid (decide_eq_true h4)
              clear h1 h2 h3 h4
              go_wp2_with fail
              refine hcall.mono ?_
              rintro e w4 ⟨rfl, hg4⟩
              go_wp2_with fail
              go_ret
              exact ⟨congrArg (fun z => Ending.returned (.bool z)) (by rw [HR.out, D1.out, D2.out, D3.out, D4.out]; exact EA.out), HG.out.trans hg4⟩
            · have f4 : (((b.size : Nat) : Int) == 0) = false := by rw [beq_eq_false_iff_ne]; omega
              have D4 := hid (decide_eq_false h4)
              clear h1 h2 h3 h4 hcall
              go_wp2_with fail
              go_ret
              exact ⟨congrArg (fun z => Ending.returned (.bool z)) (by rw [HR.out, D1.out, D2.out, D3.out, D4.out]; rfl), HG.out⟩
        · have f2 : ¬ ((b.size : Nat) : Int) ≤ 1024 := by omega
          have D2 := hid (decide_eq_false h2)
          go_wp2_with fail
          go_ret
          exact ⟨congrArg (fun z => Ending.returned (.bool z)) (by rw [HR.out, D1.out, D2.out]; rfl), HG.out⟩
      · have f1 : ¬ (m : Int) ≤ 256 := by omega
        have D1 := hid (decide_eq_false h1)
        go_wp2_with fail
        go_ret
        exact ⟨congrArg (fun z => Ending.returned (.bool z)) (by rw [HR.out, D1.out]; rfl), HG.out⟩
end Go.Proofs.YtcfknfiddadgbaaDoor

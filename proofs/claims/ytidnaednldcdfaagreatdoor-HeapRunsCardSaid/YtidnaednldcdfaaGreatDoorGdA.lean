/- Parts of elder texts that this layer needs, joined: XHnS XHnA XHnB XHnC XHnD XHnE. -/
import Derived.Test.YtidnaednldcdfaaGreatDoorGcD
import Derived.Test.YtidnaednldcdfaaGreatDoorGaA
namespace Go.Proofs.YtidnaednldcdfaaGreatDoor
open Go.RowKit

set_option maxRecDepth 100000 in
set_option maxHeartbeats 4000000 in
theorem bigObj_c (o : Ob.Obj) (A : Option Addr) (c : Nat) (w : World) : Calls Tryz.prog 17 #[.agg #[.int .i64 o.cls, .int .i64 o.lev, .slice A o.f.length c, .string o.b]] w fun e w' => e = .returned (.bool (bigO o)) ∧ Grew w w' := by
  unfold bigO
  obtain ⟨cls, lev, f, b⟩ := o
  simp only
  generalize f.length = m
  obtain ⟨R, eR⟩ : ∃ R, R = ((decide (60 < m) && decide (m ≤ 256)) || (decide (300 < m) || decide (1100 < b.size))) := ⟨_, rfl⟩
  rw [← eR]
  have ER := hid eR
  clear eR
  have B1 := Blk.new w 58 #[.int .i64 cls, .int .i64 lev, .slice A m c, .string b]
  have G1 := (Grew.refl w).alloc (.cells #[.int .i64 cls, .int .i64 lev, .slice A m c, .string b] 58)
  go_enter Tryz.func17, Tryz.ntmps17
  go_upto_region 1 with fail
  generalize w.alloc (.cells #[.int .i64 cls, .int .i64 lev, .slice A m c, .string b] 58) = w1 at *
  generalize w.heap.size = g at *
  have q2 := B1.cell 2
  have q3 := B1.cell 3
  have ql := B1.lt
  simp only [List.getElem?_toArray, List.getElem?_cons_zero, List.getElem?_cons_succ] at q2 q3
  have HG := hid G1
  clear G1 B1
  by_cases c1 : 60 < m
  · have g1 : (60 : Int) < (m : Int) := by omega
    by_cases c2 : m ≤ 256
    · have g2 : (m : Int) ≤ 256 := by omega
      have hR : R = true := by rw [ER.out]; simp [c1, c2]
      go_wp2_with fail
      go_ret
      exact ⟨by first | rfl | (rw [hR]; rfl), HG.out⟩
    · have g2 : ¬ (m : Int) ≤ 256 := by omega
      by_cases c3 : 300 < m
      · have g3 : (300 : Int) < (m : Int) := by omega
        have hR : R = true := by rw [ER.out]; simp [c3]
        go_wp2_with fail
        go_ret
        exact ⟨by first | rfl | (rw [hR]; rfl), HG.out⟩
      · have g3 : ¬ (300 : Int) < (m : Int) := by omega
        by_cases c4 : 1100 < b.size
        · have g4 : (1100 : Int) < ((b.size : Nat) : Int) := by omega
          have hR : R = true := by rw [ER.out]; simp [c4]
          go_wp2_with fail
          go_ret
          exact ⟨by first | rfl | (rw [hR]; rfl), HG.out⟩
        · have g4 : ¬ (1100 : Int) < ((b.size : Nat) : Int) := by omega
          have hR : R = false := by rw [ER.out]; simp [c2, c3, c4]
          go_wp2_with fail
          go_ret
          exact ⟨by first | rfl | (rw [hR]; rfl), HG.out⟩
  · have g1 : ¬ (60 : Int) < (m : Int) := by omega
    have g3 : ¬ (300 : Int) < (m : Int) := by omega
    have c3 : ¬ 300 < m := by omega
    by_cases c4 : 1100 < b.size
    · have g4 : (1100 : Int) < ((b.size : Nat) : Int) := by omega
      have hR : R = true := by rw [ER.out]; simp [c4]
      go_wp2_with fail
      go_ret
      exact ⟨by first | rfl | (rw [hR]; rfl), HG.out⟩
    · have g4 : ¬ (1100 : Int) < ((b.size : Nat) : Int) := by omega
      have hR : R = false := by rw [ER.out]; simp [c1, c3, c4]
      go_wp2_with fail
      go_ret
      exact ⟨by first | rfl | (rw [hR]; rfl), HG.out⟩
theorem bigO_fit {o : Ob.Obj} (h : bigO o = false) : o.f.length ≤ 300 ∧ o.b.size ≤ 1100 := by
  simp only [bigO, Bool.or_eq_false_iff, decide_eq_false_iff_not] at h
  omega
/-- Roots that are too many. -/
def bigR (l : List LV) : Bool := decide (10 < l.length) || l.any (fun x => decide (40 < x.l.length))
theorem bigR_fit {l : List LV} (h : bigR l = false) : l.length ≤ 10 ∧ ∀ x ∈ l, x.l.length ≤ 40 := by
  rw [bigR, Bool.or_eq_false_iff, decide_eq_false_iff_not] at h
  refine ⟨by omega, fun x hx => ?_⟩
  by_cases hc : 40 < x.l.length
  · have : l.any (fun x => decide (40 < x.l.length)) = true := List.any_eq_true.2 ⟨x, hx, decide_eq_true hc⟩
    rw [h.2] at this
    cases this
  · omega
set_option maxRecDepth 100000 in
theorem bigRoots_c (A : Option Addr) (c : Nat) (l : List LV) (w : World) (h : ListsAt w A l) : Calls Tryz.prog 18 #[.slice A l.length c] w fun e w' => e = .returned (.bool (bigR l)) ∧ Grew w w' := by
  have HA := hid h
  obtain ⟨R, eR⟩ : ∃ R, R = bigR l := ⟨_, rfl⟩
  rw [← eR]
  unfold bigR at eR
  have ER := hid eR
  clear eR
  obtain ⟨n, en⟩ : ∃ n, n = l.length := ⟨_, rfl⟩
  rw [← en]
  have EN := hid en
  clear h en
  by_cases h10 : 10 < n
  · have g1 : (10 : Int) < (n : Int) := by omega
    have hR : R = true := by rw [ER.out, ← EN.out, decide_eq_true h10, Bool.true_or]
    go_enter Tryz.func18, Tryz.ntmps18
    go_wp2_with fail
    go_ret
    exact ⟨by first | rfl | (rw [hR]; rfl), Grew.refl _⟩
  · have g1 : ¬ (10 : Int) < (n : Int) := by omega
    have hR : R = l.any (fun x => decide (40 < x.l.length)) := by rw [ER.out, ← EN.out, decide_eq_false h10, Bool.false_or]
    have HRr := hid hR
    clear hR
    go_enter Tryz.func18, Tryz.ntmps18
    go_wp2_with fail
    go_loopw [3] (fun s3 wr => ∃ (i : Nat), s3 = .int .i64 ((i : Nat) : Int) ∧ i ≤ n ∧ Hid ((l.take i).any (fun x => decide (40 < x.l.length)) = false) ∧ Hid (wr = w)) (fun s3 _ => n - (intOf s3).toNat)
    case atStart => exact ⟨0, rfl, Nat.zero_le _, hid (by simp), hid rfl⟩
    case round =>
      obtain ⟨i, rfl, hi, HI, HW⟩ := hrel
      by_cases hlt : i < n
      · have f1 : (i : Int) < (n : Int) := by omega
        obtain ⟨ad, x, rfl, hx, q0, hb, -⟩ := list_at HA.out (show Grew w wr by rw [HW.out]; exact Grew.refl _) (i := i) (by rw [← EN.out]; exact hlt)
        have HT : Hid ((l.take (i + 1)).any (fun x => decide (40 < x.l.length)) = decide (40 < x.l.length)) := hid (by
          rw [List.take_add_one, hx, List.any_append, HI.out]
          simp)
        have HX : Hid (40 < x.l.length → l.any (fun x => decide (40 < x.l.length)) = true) := hid (fun hf => List.any_eq_true.2 ⟨x, List.mem_of_getElem? hx, decide_eq_true hf⟩)
        clear hx
        obtain ⟨xA, xc, xl⟩ := x
        simp only at q0 HT HX
        generalize xl.length = m at *
        by_cases c1 : 40 < m
        · have g2 : (40 : Int) < (m : Int) := by omega
          have HR := hid (HX.out c1)
          go_wp2_with fail
          go_ret
          exact ⟨by rw [HRr.out, HR.out]; rfl, by rw [HW.out]; exact Grew.refl _⟩
        · have g2 : ¬ (40 : Int) < (m : Int) := by omega
          rw [decide_eq_false c1] at HT
          go_wp2_with fail
          go_round
          case rel => exact ⟨i + 1, by go_num, by omega, HT, HW⟩
          case measure => simp [intOf]; omega
      · have hin : i = n := by omega
        subst hin
        have HL := hid (show l.any (fun x => decide (40 < x.l.length)) = false by
          have h1 := HI.out
          rwa [EN.out, List.take_length] at h1)
        go_wp2_with fail
        go_ret
        exact ⟨by rw [HRr.out, HL.out]; rfl, by rw [HW.out]; exact Grew.refl _⟩
def bigS (n m : Nat) : Bool := decide (20 < n) || decide (20 < m)
theorem bigSetup_c (U : Option Addr) (n cu : Nat) (room : Int) (A : Option Addr) (m c : Nat) (w : World) : Calls Tryz.prog 13 #[.agg #[.slice U n cu, .int .i64 room, .slice A m c]] w fun e w' => e = .returned (.bool (bigS n m)) ∧ Grew w w' := by
  obtain ⟨R, eR⟩ : ∃ R, R = bigS n m := ⟨_, rfl⟩
  rw [← eR]
  unfold bigS at eR
  have ER := hid eR
  clear eR
  have B1 := Blk.new w 25 #[.slice U n cu, .int .i64 room, .slice A m c]
  have G1 := (Grew.refl w).alloc (.cells #[.slice U n cu, .int .i64 room, .slice A m c] 25)
  go_enter Tryz.func13, Tryz.ntmps13
  go_upto_region 1 with fail
  generalize w.alloc (.cells #[.slice U n cu, .int .i64 room, .slice A m c] 25) = w1 at *
  generalize w.heap.size = g at *
  have q0 := B1.cell 0
  have q2 := B1.cell 2
  have ql := B1.lt
  simp only [List.getElem?_toArray, List.getElem?_cons_zero, List.getElem?_cons_succ] at q0 q2
  have HG := hid G1
  clear G1 B1
  by_cases c1 : 20 < n
  · have g1 : (20 : Int) < (n : Int) := by omega
    have hR : R = true := by rw [ER.out]; simp [c1]
    go_wp2_with fail
    go_ret
    exact ⟨by first | rfl | (rw [hR]; rfl), HG.out⟩
  · have g1 : ¬ (20 : Int) < (n : Int) := by omega
    by_cases c2 : 20 < m
    · have g2 : (20 : Int) < (m : Int) := by omega
      have hR : R = true := by rw [ER.out]; simp [c2]
      go_wp2_with fail
      go_ret
      exact ⟨by first | rfl | (rw [hR]; rfl), HG.out⟩
    · have g2 : ¬ (20 : Int) < (m : Int) := by omega
      have hR : R = false := by rw [ER.out]; simp [c1, c2]
      go_wp2_with fail
      go_ret
      exact ⟨by first | rfl | (rw [hR]; rfl), HG.out⟩
/-- What 'giveRoots' answers. -/
def GiveR (w : World) (l : List LV) (e : Ending) (w' : World) : Prop := ∃ (A' : Option Addr) (c' : Nat) (l' : List LV), e = .returned (.slice A' l'.length c') ∧ Row w' w.heap.size 28 1 A' l'.length c' (l'.flatMap lvF) ∧ l'.map (·.l) = l.map (·.l) ∧ (∀ x ∈ l', Row w' w.heap.size 41 3 x.A x.l.length x.c (x.l.flatMap valF)) ∧ Grew w w'
theorem vals_info : (Tryz.prog.info? 28).map (fun i => (i.zero, i.size, i.bytes)) = some (some (.slice none 0 0), 1, 24) := by kernel_rfl
set_option maxRecDepth 100000 in
set_option maxHeartbeats 4000000 in
theorem giveRoots_c (A : Option Addr) (c : Nat) (l : List LV) (w : World) (h : ListsAt w A l) (hl : l.length ≤ 1000) (hx : ∀ x ∈ l, x.l.length ≤ 1000) : Calls Tryz.prog 22 #[.slice A l.length c] w (GiveR w l) := by
  have HA := hid h
  have HX := hid hx
  unfold GiveR
  obtain ⟨n, en⟩ : ∃ n, n = l.length := ⟨_, rfl⟩
  rw [← en] at hl ⊢
  have EN := hid en
  clear h en hx
  go_enter Tryz.func22, Tryz.ntmps22
  go_wp2_with fail
  go_loopw [3, 4] (fun s3 s4 wr => ∃ (i : Nat) (A' : Option Addr) (k' : Nat) (l' : List LV), s4 = .int .i64 ((i : Nat) : Int) ∧ i ≤ n ∧ s3 = .slice A' i k' ∧ Hid (l'.length = i) ∧ Hid (Row wr w.heap.size 28 1 A' i k' (l'.flatMap lvF)) ∧ Hid (l'.map (·.l) = (l.take i).map (·.l)) ∧ Hid (∀ x ∈ l', Row wr w.heap.size 41 3 x.A x.l.length x.c (x.l.flatMap valF)) ∧ Hid (Grew w wr)) (fun _ s4 _ => n - (intOf s4).toNat)
  case atStart => exact ⟨0, none, 0, [], rfl, Nat.zero_le _, rfl, hid rfl, hid (Row.nil _ _ _ _), hid (by simp), hid (by simp), hid (Grew.refl _)⟩
  case round =>
    obtain ⟨i, A', k', l', rfl, hi, rfl, HL, HR, HM, HF, HG⟩ := hrel
    by_cases hlt : i < n
    · have f1 : (i : Int) < (n : Int) := by omega
      obtain ⟨ad, x, rfl, hx, q0, hb, hv⟩ := list_at HA.out HG.out (i := i) (by rw [← EN.out]; exact hlt)
      have hcall := giveVals_c x.A x.c x.l wr (hv.grew HG.out) (HX.out x (List.mem_of_getElem? hx))
      unfold GiveV at hcall
      have HTk := hid (show (l.take (i + 1)).map (·.l) = (l.take i).map (·.l) ++ [x.l] by rw [List.take_add_one, hx]; simp)
      clear hx hv
      obtain ⟨xA, xc, xl⟩ := x
      simp only at q0 hcall HTk
      obtain ⟨m, em⟩ : ∃ m, m = xl.length := ⟨_, rfl⟩
      rw [← em] at q0 hcall
      have EM := hid em
      clear em
      go_wp2_with first | (go_at_call 19; refine hcall.mono ?_; rintro e w2 ⟨A2, c2, rfl, hr2, hg2⟩; have HR2 := hid (hr2.low HG.out.below.size); have HG2 := hid (HG.out.trans hg2); have HRo := hid (HR.out.grew hg2); have HFo := hid (fun x hx => (HF.out x hx).grew hg2); clear hr2 hg2 q0 hb) | (at_builtin; refine wpList_pushR (.slice none 0 0) 24 w2 rfl _ _ 69 28 rfl Tryz.underlying69 vals_info rfl w.heap.size HG2.out.below.size A' i k' _ rfl HRo.out _ rfl rfl (.slice A2 m c2) rfl (by omega) (by omega) ?_; rintro A8 k8 w8 hR8 hK8 hT8; have HR8 := hid hR8; have HK8 := hid hK8; have HG8 := hid (hK8.grew HG2.out (Row.at_base HRo.out)); clear hR8 hK8 hT8)
      go_round
      case rel =>
        have hn : ∀ {A9 : Option Addr} {n9 c9 : Nat} {vs : List Value}, Row w2 w.heap.size 41 3 A9 n9 c9 vs → Row w8 w.heap.size 41 3 A9 n9 c9 vs := fun h => h.kept HK8.out (fun g hA hk => by
          obtain ⟨ds, hd⟩ := HRo.out.blkAt hk
          obtain ⟨es, he⟩ := h.blkAt (k := g) ⟨_, hA, rfl⟩
          exact absurd (hd.ty he).1 (by decide))
        refine ⟨i + 1, A8, k8, l' ++ [⟨A2, c2, xl⟩], by go_num, by omega, rfl, hid (by simp [HL.out]), hid ?_, hid ?_, hid (fun x hx => ?_), HG8⟩
        · have h1 := HR8.out
          rw [EM.out] at h1
          simpa [lvF] using h1
        · rw [List.map_append, HM.out, HTk.out]
          rfl
        · rcases List.mem_append.1 hx with hx | hx
          · exact hn (HFo.out x hx)
          · obtain rfl := List.mem_singleton.1 hx
            have h1 := hn HR2.out
            rw [EM.out] at h1
            exact h1
      case measure => simp [intOf]; omega
    · have hin : i = n := by omega
      subst hin
      go_wp2_with fail
      go_ret
      refine ⟨A', k', l', by rw [HL.out]; rfl, by rw [HL.out]; exact HR.out, ?_, HF.out, HG.out⟩
      rw [HM.out, EN.out, List.take_length]
end Go.Proofs.YtidnaednldcdfaaGreatDoor
namespace Go.Proofs.YtidnaednldcdfaaGreatDoor
open Go.RowKit

/-- A heap with its numbers in words. -/
structure HAt (w0 w : World) (B C : Nat) (v : HV) (up : List Nat) (room : Int) (q : Nat → Int) (L : List Hp.It) (cn : Nat → Int) : Prop where
  mem : MemAt w B v
  ok : HvOk v C
  up : v.up = up
  room : v.room = room
  q : v.q = q
  its : its v.sl = L
  cn : v.cn = cn
  low : w0.heap.size ≤ B
  gr : Grew w0 w
theorem HAt.more {w0 w w' : World} {B C : Nat} {v : HV} {up : List Nat} {room : Int} {q : Nat → Int} {L : List Hp.It} {cn : Nat → Int} (h : HAt w0 w B C v up room q L cn) (hg : Grew w w') : HAt w0 w' B C v up room q L cn :=
  ⟨h.mem.grew hg, h.ok, h.up, h.room, h.q, h.its, h.cn, h.low, h.gr.trans hg⟩
theorem HAt.step {w0 w w' : World} {B C C' : Nat} {v v' : HV} {up : List Nat} {room : Int} {q : Nat → Int} {L L' : List Hp.It} {cn cn' : Nat → Int} (h : HAt w0 w B C v up room q L cn) (hs : Step w B v v' w') (ho : HvOk v' C') (hL : Go.Proofs.YtidnaednldcdfaaGreatDoor.its v'.sl = L') (hc : v'.cn = cn') : HAt w0 w' B C' v' up room q L' cn' :=
  ⟨hs.mem, ho, hs.up.trans h.up, hs.room.trans h.room, hs.q.trans h.q, hL, hc, h.low, hs.kept.grew h.gr (fun _ hk => Nat.le_trans h.low (h.mem.owns hk).1)⟩
theorem HAt.sorted {w0 w : World} {B C : Nat} {v : HV} {up : List Nat} {room : Int} {q : Nat → Int} {L : List Hp.It} {cn : Nat → Int} (h : HAt w0 w B C v up room q L cn) : Hp.Sorted L := by
  rw [← h.its]
  exact its_sorted _
theorem HAt.range {w0 w : World} {B C : Nat} {v : HV} {up : List Nat} {room : Int} {q : Nat → Int} {L : List Hp.It} {cn : Nat → Int} (h : HAt w0 w B C v up room q L cn) : ∀ x ∈ L, 0 ≤ x.i ∧ x.i < 65536 := fun x hx => by
  rw [← h.its] at hx
  have h1 := its_nonneg x hx
  have h2 := h.ok.len
  omega
/-- What is left by acts, in words. -/
def addL (n : Nat) (L : List Hp.It) (room : Int) (q cn : Nat → Int) (o : Ob.Obj) : List Hp.It := if Hp.addCode n L room q o = 0 then Hp.ins L (Hp.newIt L cn o) else L
def addN (n : Nat) (L : List Hp.It) (room : Int) (q cn : Nat → Int) (o : Ob.Obj) : Nat → Int := if Hp.addCode n L room q o = 0 then upd cn o.lev.toNat (cn o.lev.toNat + 1) else cn
theorem HAt.add {w0 w w' : World} {B C : Nat} {v : HV} {up : List Nat} {room : Int} {q : Nat → Int} {L : List Hp.It} {cn : Nat → Int} (h : HAt w0 w B C v up room q L cn) {o : Ob.Obj} {e : Ending} (hp : AddV w B v C o e w') :
    ∃ v', e = .returned (.tuple #[.int .i64 (if Hp.addCode up.length L room q o = 0 then ((Hp.least L : Nat) : Int) else 0), errVal (Hp.addCode up.length L room q o)]) ∧ v'.g = v.g ∧ Step w B v v' w' ∧ HAt w0 w' B (C + 1) v' up room q (addL up.length L room q cn o) (addN up.length L room q cn o) := by
  obtain ⟨v', he, hs, ho, hL, hc⟩ := hp
  rw [h.up, h.room, h.q, h.its] at he hL hc
  rw [h.cn] at hL hc
  exact ⟨v', he, hs.g, hs, h.step hs ho hL hc⟩
theorem HAt.put {w0 w w' : World} {B C : Nat} {v : HV} {up : List Nat} {room : Int} {q : Nat → Int} {L : List Hp.It} {cn : Nat → Int} (h : HAt w0 w B C v up room q L cn) {i k under : Int} {u : Ob.Val} {e : Ending} (hp : PutV w B v C i k under u e w') :
    ∃ v', e = .returned (errVal (Hp.putCode up L i k under u)) ∧ v'.g = v.g ∧ Step w B v v' w' ∧ HAt w0 w' B C v' up room q (Hp.put up L i k under u) cn := by
  obtain ⟨v', he, hs, ho, hL, hc⟩ := hp
  rw [h.up, h.its] at he hL
  rw [h.cn] at hc
  exact ⟨v', he, hs.g, hs, h.step hs ho hL hc⟩
theorem HAt.collect {w0 w w' : World} {B C : Nat} {v : HV} {up : List Nat} {room : Int} {q : Nat → Int} {L : List Hp.It} {cn : Nat → Int} (h : HAt w0 w B C v up room q L cn) {rs : List Ob.Val} {e : Ending} (hp : CollectV w B v C rs e w') :
    ∃ v', e = .returned (.int .i64 ((L.length : Int) - ((Hp.kept L rs).length : Int))) ∧ v'.g = v.g ∧ Step w B v v' w' ∧ HAt w0 w' B C v' up room q (Hp.kept L rs) cn := by
  obtain ⟨v', he, hs, ho, hL, hc⟩ := hp
  rw [h.its] at he hL
  rw [h.cn] at hc
  exact ⟨v', he, hs.g, hs, h.step hs ho hL hc⟩
/-- Every object was counted. -/
def HashOk (L : List Hp.It) (cn : Nat → Int) : Prop := (∀ x ∈ L, 0 ≤ x.h ∧ x.h < cn x.o.lev.toNat) ∧ ∀ j, 0 ≤ cn j
theorem HashOk.add {n : Nat} {L : List Hp.It} {room : Int} {q cn : Nat → Int} {o : Ob.Obj} (h : HashOk L cn) (hs : Hp.Sorted L) (h0 : ∀ x ∈ L, 0 ≤ x.i) : HashOk (addL n L room q cn o) (addN n L room q cn o) := by
  unfold addL addN
  split
  · refine ⟨fun x hx => ?_, fun j => ?_⟩
    · rw [Hp.mem_ins _ _ _ (fun y hy => by have := Hp.least_free hs h0 y hy; exact this)] at hx
      unfold upd
      rcases hx with rfl | hx
      · have := h.2 o.lev.toNat
        simp only [Hp.newIt, if_true]
        omega
      · have := h.1 x hx
        split
        · rename_i he
          rw [he] at this
          omega
        · exact this
    · have h1 := h.2 j
      have h2 := h.2 o.lev.toNat
      unfold upd
      split <;> omega
  · exact h
theorem HashOk.put {up : List Nat} {L : List Hp.It} {cn : Nat → Int} {i k under : Int} {u : Ob.Val} (h : HashOk L cn) : HashOk (Hp.put up L i k under u) cn := by
  refine ⟨fun x hx => ?_, h.2⟩
  unfold Hp.put at hx
  split at hx
  · obtain ⟨y, hy, rfl⟩ := List.mem_map.1 hx
    rw [Hp.putIt_h, Hp.putIt_lev]
    exact h.1 y hy
  · exact h.1 x hx
theorem HashOk.kept {L : List Hp.It} {cn : Nat → Int} {rs : List Ob.Val} (h : HashOk L cn) : HashOk (Hp.kept L rs) cn := ⟨fun x hx => h.1 x (Hp.mem_kept.1 hx).1, h.2⟩
/-- A new heap. -/
theorem hat_new {w w' : World} {up : List Nat} {room : Int} {quota : List Int} {e : Ending} (h : NewV w up room quota e w') (hc : newCode up room quota = 0) : ∃ v, e = .returned (.tuple #[.pointer (some ⟨v.g, 0, none⟩), .nilIface]) ∧ HAt w w' w.heap.size 0 v up room (qf room quota) [] (fun _ => 0) := by
  unfold NewV at h
  rw [if_pos hc] at h
  obtain ⟨v, he, h1, h2, h3, h4, h5, h6, h7, h8⟩ := h
  exact ⟨v, he, h1, h2, h3, h4, h5, by rw [h7]; rfl, h6, Nat.le_refl _, h8⟩
theorem hat_bad {w w' : World} {up : List Nat} {room : Int} {quota : List Int} {e : Ending} (h : NewV w up room quota e w') (hc : newCode up room quota ≠ 0) : e = .returned (.tuple #[.pointer none, .iface 91 (.int .i64 ((newCode up room quota : Nat) : Int))]) ∧ Grew w w' := by
  unfold NewV at h
  rw [if_neg hc, show errVal (newCode up room quota) = .iface 91 (.int .i64 ((newCode up room quota : Nat) : Int)) from if_neg hc] at h
  exact h

set_option maxRecDepth 100000 in
theorem ints_c (A1 : Option Addr) (c1 : Nat) (A2 : Option Addr) (c2 : Nat) (l : List Int) (w : World) (h1 : IntsAt w A1 l) (h2 : IntsAt w A2 l) (hl : l.length ≤ 1000) : Calls Tryz.prog 61 #[.slice A1 l.length c1, .slice A2 l.length c2] w fun e w' => e = .returned (.bool true) ∧ Grew w w' := by
  have H1 := hid h1
  have H2 := hid h2
  obtain ⟨n, en⟩ : ∃ n, n = l.length := ⟨_, rfl⟩
  rw [← en] at hl ⊢
  have EN := hid en
  clear h1 h2 en
  go_enter Tryz.func61, Tryz.ntmps61
  go_wp2_with fail
  go_loopw [5] (fun s5 wr => ∃ (i : Nat), s5 = .int .i64 ((i : Nat) : Int) ∧ i ≤ n ∧ Hid (Grew w wr)) (fun s5 _ => n - (intOf s5).toNat)
  case atStart => exact ⟨0, rfl, Nat.zero_le _, hid (Grew.refl _)⟩
  case round =>
    obtain ⟨i, rfl, hi, HG⟩ := hrel
    by_cases hlt : i < n
    · have f1 : (i : Int) < (n : Int) := by omega
      obtain ⟨a1, x, rfl, hx, q0, hb⟩ := int_at H1.out HG.out (i := i) (by rw [← EN.out]; exact hlt)
      obtain ⟨a2, y, rfl, hy, p0, pb⟩ := int_at H2.out HG.out (i := i) (by rw [← EN.out]; exact hlt)
      rw [hx] at hy
      obtain rfl := Option.some.inj hy
      clear hx hy
      go_upto_region 6 with fail
      have U0 := fun (y : After wr) => (y.cell (a1.add i) (by rw [block_add]; exact hb)).trans q0
      have U1 := fun (y : After wr) => y.lt _ hb
      have V0 := fun (y : After wr) => (y.cell (a2.add i) (by rw [block_add]; exact pb)).trans p0
      have V1 := fun (y : After wr) => y.lt _ pb
      refine wp_region_grew_from (w0 := wr) (Grew.refl wr) (by kernel_rfl) (by kernel_rfl) ?_
      repeat (go_big_quiet_step (fail))
      refine wpQuiet_nil ?_
      rintro _ ⟨z, rfl⟩
      clear U0 U1 V0 V1
      go_wp2_with fail
      go_round
      case rel => exact ⟨i + 1, by go_num, by omega, hid (HG.out.trans z.grew)⟩
      case measure => simp [intOf]; omega
    · have hin : i = n := by omega
      subst hin
      go_wp2_with fail
      go_ret
      exact ⟨rfl, HG.out⟩
end Go.Proofs.YtidnaednldcdfaaGreatDoor
namespace Go.Proofs.YtidnaednldcdfaaGreatDoor
open Go.RowKit

def tUp : List Nat := [15, 10, 12, 8]
def tQ : Nat → Int := qf 16 [12, 8]
def tN : Ob.Val := ⟨0, 0, 0⟩
def tO1 : Ob.Obj := ⟨6, 0, [tN, tN, tN], ⟨#[]⟩⟩
def tO1b : Ob.Obj := ⟨6, 0, [tN, tN], ⟨#[]⟩⟩
def tO2 : Ob.Obj := ⟨5, 1, [], ⟨#[110, 105, 110, 101, 98, 121, 116, 101, 115]⟩⟩
def tO3 : Ob.Obj := ⟨5, 1, [], ⟨#[120]⟩⟩
def tR (i : Int) : Ob.Val := ⟨4, i, 0⟩
def tO1p : Ob.Obj := ⟨6, 0, [tR 1, tN, tN], ⟨#[]⟩⟩
def tC0 : Nat → Int := fun _ => 0
def tC1 : Nat → Int := upd tC0 0 1
def tC2 : Nat → Int := upd tC1 1 1
def tL1 : List Hp.It := [⟨0, 0, tO1⟩]
def tL2 : List Hp.It := [⟨0, 0, tO1⟩, ⟨1, 0, tO2⟩]
def tL3 : List Hp.It := [⟨0, 0, tO1p⟩, ⟨1, 0, tO2⟩]
def tL4 : List Hp.It := [⟨1, 0, tO2⟩]
def tL5 : List Hp.It := [⟨0, 1, tO3⟩, ⟨1, 0, tO2⟩]
theorem t_new : newCode tUp 16 [12, 8] = 0 := by decide +kernel
theorem t_bad : newCode tUp (-1) [] = 1 := by decide +kernel
theorem t_a1 : Hp.addCode 4 [] 16 tQ tO1 = 0 := by decide +kernel
theorem t_a2 : Hp.addCode 4 tL1 16 tQ tO1b = 12 := by decide +kernel
theorem t_a3 : Hp.addCode 4 tL1 16 tQ tO2 = 0 := by decide +kernel
theorem t_a4 : Hp.addCode 4 tL4 16 tQ tO3 = 0 := by decide +kernel
theorem t_p : Hp.putCode tUp tL2 0 0 0 (tR 1) = 0 := by decide +kernel
theorem t_l1 : addL 4 [] 16 tQ tC0 tO1 = tL1 := by rw [addL, t_a1]; rfl
theorem t_n1 : addN 4 [] 16 tQ tC0 tO1 = tC1 := by rw [addN, t_a1]; rfl
theorem t_l2 : addL 4 tL1 16 tQ tC1 tO1b = tL1 := by rw [addL, t_a2]; rfl
theorem t_n2 : addN 4 tL1 16 tQ tC1 tO1b = tC1 := by rw [addN, t_a2]; rfl
theorem t_l3 : addL 4 tL1 16 tQ tC1 tO2 = tL2 := by rw [addL, t_a3]; rfl
theorem t_n3 : addN 4 tL1 16 tQ tC1 tO2 = tC2 := by rw [addN, t_a3]; rfl
theorem t_l4 : addL 4 tL4 16 tQ tC2 tO3 = tL5 := by rw [addL, t_a4]; rfl
theorem t_join : La.joinOf tUp 0 0 = 0 := by decide +kernel
theorem t_pl : Hp.put tUp tL2 0 0 0 (tR 1) = tL3 := by
  rw [Hp.put_good t_p]
  have e : Ob.putV tUp 0 (tR 1) = tR 1 := by rw [Ob.putV, show (tR 1).l = 0 from rfl, t_join]; rfl
  simp only [tL2, List.map_cons, List.map_nil, Hp.putIt, e]
  rfl
theorem t_k1 : Hp.kept tL3 [tR 0] = tL3 := by
  have r0 : Hp.Reach tL3 [tR 0] 0 := Hp.Reach.root (v := tR 0) (List.mem_cons_self ..) ⟨rfl, _, List.mem_cons_self .., rfl⟩
  have r1 : Hp.Reach tL3 [tR 0] 1 := Hp.Reach.step (x := ⟨0, 0, tO1p⟩) (v := tR 1) (List.mem_cons_self ..) r0 (List.mem_cons_self ..) ⟨rfl, _, List.mem_cons_of_mem _ (List.mem_cons_self ..), rfl⟩
  unfold Hp.kept
  refine List.filter_eq_self.2 (fun x hx => ?_)
  simp only [decide_eq_true_eq]
  rcases List.mem_cons.1 hx with rfl | hx
  · exact r0
  · obtain rfl := List.mem_singleton.1 hx
    exact r1
theorem t_k2 : Hp.kept tL3 [tR 1] = tL4 := by
  have r1 : Hp.Reach tL3 [tR 1] 1 := Hp.Reach.root (v := tR 1) (List.mem_cons_self ..) ⟨rfl, _, List.mem_cons_of_mem _ (List.mem_cons_self ..), rfl⟩
  have r0 : ∀ i, Hp.Reach tL3 [tR 1] i → i = 1 := fun i h => by
    induction h with
    | root h1 h2 =>
      obtain rfl := List.mem_singleton.1 h1
      rfl
    | step h1 h2 h3 h4 ih =>
      rcases List.mem_cons.1 h1 with rfl | h1
      · cases ih
      · obtain rfl := List.mem_singleton.1 h1
        cases h3
  unfold Hp.kept tL3
  rw [List.filter_cons, if_neg (by simp only [decide_eq_true_eq]; intro h; exact absurd (r0 _ h) (by decide)), List.filter_cons, if_pos (by simp only [decide_eq_true_eq]; exact r1)]
  rfl
theorem vals_blk {w : World} {H : Nat} {e : TypeId} {l : List Ob.Val} (h : Blk w H e (l.flatMap valF).toArray) (hl : ∀ v ∈ l, ValOk v) : ValsAt w (some ⟨H, 0, none⟩) l :=
  ⟨hl, fun _ => ⟨_, rfl, h.lt, fun i v hi j u hu => blk_row h _ rfl _ _ (flat_at valF 3 valF_len l i v hi j u hu)⟩⟩
theorem ints_blk {w : World} {H : Nat} {e : TypeId} {l : List Int} (h : Blk w H e (l.flatMap intF).toArray) : IntsAt w (some ⟨H, 0, none⟩) l :=
  fun _ => ⟨_, rfl, h.lt, fun i v hi j u hu => blk_row h _ rfl _ _ (flat_at intF 1 intF_len l i v hi j u hu)⟩
theorem lists_blk {w : World} {H : Nat} {e : TypeId} {l : List LV} (h : Blk w H e (l.flatMap lvF).toArray) (hl : ∀ v ∈ l, ValsAt w v.A v.l) : ListsAt w (some ⟨H, 0, none⟩) l :=
  ⟨hl, fun _ => ⟨_, rfl, h.lt, fun i v hi j u hu => blk_row h _ rfl _ _ (flat_at lvF 1 lvF_len l i v hi j u hu)⟩⟩
theorem tN_ok : ValOk tN := ⟨by decide, ⟨by decide, by decide⟩, ⟨by decide, by decide⟩⟩
theorem tR_ok {i : Int} (h : N64 i) : ValOk (tR i) := ⟨by show 4 < 256; decide, h, by show N64 0; exact ⟨by decide, by decide⟩⟩
theorem HAt.add0 {w0 w w' : World} {B C : Nat} {v : HV} {up : List Nat} {room : Int} {q : Nat → Int} {L L' : List Hp.It} {cn cn' : Nat → Int} (h : HAt w0 w B C v up room q L cn) {o : Ob.Obj} {e : Ending} (hp : AddV w B v C o e w') (hc : Hp.addCode up.length L room q o = 0) (i : Int) (hi : ((Hp.least L : Nat) : Int) = i) (hL : addL up.length L room q cn o = L') (hN : addN up.length L room q cn o = cn') :
    ∃ v', e = .returned (.tuple #[.int .i64 i, .nilIface]) ∧ v'.g = v.g ∧ HAt w0 w' B (C + 1) v' up room q L' cn' := by
  obtain ⟨v', he, hg, _, h'⟩ := h.add hp
  rw [hc, if_pos rfl, hi] at he
  rw [hL, hN] at h'
  exact ⟨v', he, hg, h'⟩
theorem HAt.add0s {w0 w w' : World} {B C : Nat} {v : HV} {up : List Nat} {room : Int} {q : Nat → Int} {L L' : List Hp.It} {cn : Nat → Int} (h : HAt w0 w B C v up room q L cn) {o : Ob.Obj} {e : Ending} (hp : AddV w B v C o e w') (hc : Hp.addCode up.length L room q o = 0) (i : Int) (hi : ((Hp.least L : Nat) : Int) = i) (hL : addL up.length L room q cn o = L') :
    ∃ v', e = .returned (.tuple #[.int .i64 i, .nilIface]) ∧ v'.g = v.g ∧ Step w B v v' w' ∧ HAt w0 w' B (C + 1) v' up room q L' (addN up.length L room q cn o) := by
  obtain ⟨v', he, hg, hs, h'⟩ := h.add hp
  rw [hc, if_pos rfl, hi] at he
  rw [hL] at h'
  exact ⟨v', he, hg, hs, h'⟩
theorem HAt.addk {w0 w w' : World} {B C : Nat} {v : HV} {up : List Nat} {room : Int} {q : Nat → Int} {L : List Hp.It} {cn : Nat → Int} (h : HAt w0 w B C v up room q L cn) {o : Ob.Obj} {e : Ending} (hp : AddV w B v C o e w') (k : Nat) (hc : Hp.addCode up.length L room q o = k + 1) :
    ∃ v', e = .returned (.tuple #[.int .i64 0, .iface 91 (.int .i64 ((k + 1 : Nat) : Int))]) ∧ v'.g = v.g ∧ HAt w0 w' B (C + 1) v' up room q L cn := by
  obtain ⟨v', he, hg, _, h'⟩ := h.add hp
  rw [hc, if_neg (by omega)] at he
  unfold addL addN at h'
  rw [if_neg (by rw [hc]; omega), if_neg (by rw [hc]; omega)] at h'
  exact ⟨v', he, hg, h'⟩
theorem HAt.find_at {w0 w : World} {B C : Nat} {v : HV} {up : List Nat} {room : Int} {q : Nat → Int} {L : List Hp.It} {cn : Nat → Int} (h : HAt w0 w B C v up room q L cn) {i : Nat} {x : Hp.It} (hx : x ∈ L) (hi : x.i = (i : Int)) : ∃ y, v.sl[i]? = some (some y) ∧ y.h = x.h ∧ y.o = x.o := by
  rw [← h.its] at hx
  obtain ⟨k, y, hk, rfl⟩ := mem_its.1 hx
  simp only at hi
  obtain rfl : k = i := by omega
  exact ⟨y, hk, rfl, rfl⟩
theorem HAt.find_no {w0 w : World} {B C : Nat} {v : HV} {up : List Nat} {room : Int} {q : Nat → Int} {L : List Hp.It} {cn : Nat → Int} (h : HAt w0 w B C v up room q L cn) {i : Int} (hi : Hp.find L i = none) : hasB v.sl i = false := by
  rw [hasB_find, h.its, hi]
  rfl
set_option maxRecDepth 100000 in
set_option maxHeartbeats 16000000 in
theorem sure_c (w : World) (hE : HandleAt w) : Calls Tryz.prog 14 #[] w fun e w' => e = .returned (.bool true) ∧ Grew w w' := by
  have HE := hid hE
  clear hE
  go_enter Tryz.func14, Tryz.ntmps14
  go_wp2_with (go_at_call 47; refine (square_c w).mono ?_; rintro e w1 ⟨gu, rfl, hu, hg1⟩; have HU := hid hu; have HG1 := hid hg1; clear hu hg1)
  have B1 := Blk.new w1 3 #[.int .i64 12, .int .i64 8]
  have G1 := (Grew.refl w1).alloc (.cells #[.int .i64 12, .int .i64 8] 3)
  generalize w1.alloc (.cells #[.int .i64 12, .int .i64 8] 3) = w2 at *
  have HG2 := hid (HG1.out.trans G1)
  refine (hNew_c (some ⟨gu, 0, none⟩) 4 tUp 16 (some ⟨w1.heap.size, 0, none⟩) 2 [12, 8] w2 (by decide) (HU.out.grew G1) (ints_blk B1) (by decide)).mono ?_
  intro e w3 hpost
  obtain ⟨v1, rfl, hH1⟩ := hat_new hpost t_new
  have HH1 := hid hH1
  have HG3 := hid (HG2.out.trans hH1.gr)
  clear hpost hH1 B1 G1 HU HG1
  have HB := hid (show w.heap.size ≤ w2.heap.size from HG2.out.below.size)
  obtain ⟨sg, esg⟩ : ∃ sg, sg = v1.g := ⟨_, rfl⟩
  rw [← esg]
  have ESG := hid esg
  clear esg
  go_upto_region 2 with fail
  -- New with a room below 0
  go_wp2_with (go_at_call 47; refine (square_c w3).mono ?_; rintro e w4 ⟨gu, rfl, hu, hg4⟩; have HU := hid hu; have HG4 := hid hg4; clear hu hg4)
  refine (hNew_c (some ⟨gu, 0, none⟩) 4 tUp (-1) none 0 [] w4 (by decide) HU.out (fun h => absurd h (by decide)) (by decide)).mono ?_
  intro e w5 hpost
  obtain ⟨rfl, hg5⟩ := hat_bad hpost (by rw [t_bad]; decide)
  rw [t_bad]
  have HH5 := hid (HH1.out.more (HG4.out.trans hg5))
  clear hpost hg5 HU HG4 HH1 HG3
  go_upto_region 5 with fail
  -- the first object
  have B6 := Blk.new w5 41 #[.int .u8 0, .int .i64 0, .int .i64 0, .int .u8 0, .int .i64 0, .int .i64 0, .int .u8 0, .int .i64 0, .int .i64 0]
  have G6 := (Grew.refl w5).alloc (.cells #[.int .u8 0, .int .i64 0, .int .i64 0, .int .u8 0, .int .i64 0, .int .i64 0, .int .u8 0, .int .i64 0, .int .i64 0] 41)
  go_wp2_with fail
  generalize w5.alloc (.cells #[.int .u8 0, .int .i64 0, .int .i64 0, .int .u8 0, .int .i64 0, .int .i64 0, .int .u8 0, .int .i64 0, .int .i64 0] 41) = w6 at *
  have HH6 := hid (HH5.out.more G6)
  rw [ESG.out]
  refine (hAdd_c v1 w2.heap.size 0 ⟨tO1, some ⟨w5.heap.size, 0, none⟩, 3⟩ w6 HH6.out.mem HH6.out.ok (by decide) ⟨vals_blk B6 (by intro v hv; simp only [tO1, List.mem_cons, List.not_mem_nil, or_false] at hv; rcases hv with rfl | rfl | rfl <;> exact tN_ok), (by show N64 6; exact ⟨by decide, by decide⟩), (by show N64 0; exact ⟨by decide, by decide⟩), Nat.le_refl _⟩ (fun _ ad e hk => by cases e; have h1 := (HH5.out.mem.owns hk).2; exact absurd h1 (Nat.lt_irrefl _))).mono ?_
  intro e w7 hpost
  obtain ⟨v2, rfl, hg, hH⟩ := HH6.out.add0 hpost t_a1 0 rfl t_l1 t_n1
  have HH7 := hid hH
  rw [← ESG.out]
  have ESG2 := hid (show sg = v2.g by rw [hg, ← ESG.out])
  clear hpost hg hH B6 G6 HH5 HH6 ESG
  go_upto_region 6 with fail
  have B8 := Blk.new w7 41 #[.int .u8 0, .int .i64 0, .int .i64 0, .int .u8 0, .int .i64 0, .int .i64 0]
  have G8 := (Grew.refl w7).alloc (.cells #[.int .u8 0, .int .i64 0, .int .i64 0, .int .u8 0, .int .i64 0, .int .i64 0] 41)
  go_wp2_with fail
  generalize w7.alloc (.cells #[.int .u8 0, .int .i64 0, .int .i64 0, .int .u8 0, .int .i64 0, .int .i64 0] 41) = w8 at *
  have HH8 := hid (HH7.out.more G8)
  rw [ESG2.out]
  refine (hAdd_c v2 w2.heap.size 1 ⟨tO1b, some ⟨w7.heap.size, 0, none⟩, 2⟩ w8 HH8.out.mem HH8.out.ok (by decide) ⟨vals_blk B8 (by intro v hv; simp only [tO1b, List.mem_cons, List.not_mem_nil, or_false] at hv; rcases hv with rfl | rfl <;> exact tN_ok), (by show N64 6; exact ⟨by decide, by decide⟩), (by show N64 0; exact ⟨by decide, by decide⟩), Nat.le_refl _⟩ (fun _ ad e hk => by cases e; have h1 := (HH7.out.mem.owns hk).2; exact absurd h1 (Nat.lt_irrefl _))).mono ?_
  intro e w9 hpost
  obtain ⟨v3, rfl, hg, hH⟩ := HH8.out.addk hpost 11 t_a2
  have HH9 := hid hH
  rw [← ESG2.out]
  have ESG3 := hid (show sg = v3.g by rw [hg, ← ESG2.out])
  clear hpost hg hH B8 G8 HH7 HH8 ESG2
  go_upto_region 7 with fail
  go_wp2_with fail
  rw [ESG3.out]
  refine (hAdd_c v3 w2.heap.size 2 ⟨tO2, none, 0⟩ w9 HH9.out.mem HH9.out.ok (by decide) ⟨ValsAt.nil _ _, (by show N64 5; exact ⟨by decide, by decide⟩), (by show N64 1; exact ⟨by decide, by decide⟩), Nat.le_refl _⟩ (fun h => absurd h (by decide))).mono ?_
  intro e w10 hpost
  obtain ⟨v4, rfl, hg, hH⟩ := HH9.out.add0 hpost t_a3 1 rfl t_l3 t_n3
  have HH10 := hid hH
  rw [← ESG3.out]
  have ESG4 := hid (show sg = v4.g by rw [hg, ← ESG3.out])
  clear hpost hg hH HH9 ESG3
  go_upto_region 8 with fail
  go_wp2_with fail
  rw [ESG4.out]
  refine (hPut_c v4 w2.heap.size 3 0 0 0 (tR 1) w10 HH10.out.mem HH10.out.ok).mono ?_
  intro e w11 hpost
  obtain ⟨v5, rfl, hg, _, hH⟩ := HH10.out.put hpost
  rw [t_p, show errVal 0 = .nilIface from rfl]
  have HH11 := hid (show HAt w2 w11 w2.heap.size 3 v5 tUp 16 tQ tL3 tC2 by rw [t_pl] at hH; exact hH)
  rw [← ESG4.out]
  have ESG5 := hid (show sg = v5.g by rw [hg, ← ESG4.out])
  clear hpost hg hH HH10 ESG4
  go_upto_region 9 with fail
  have B12 := Blk.new w11 41 #[.int .u8 4, .int .i64 0, .int .i64 0]
  have G12 := (Grew.refl w11).alloc (.cells #[.int .u8 4, .int .i64 0, .int .i64 0] 41)
  have e12 : (w11.alloc (.cells #[.int .u8 4, .int .i64 0, .int .i64 0] 41)).heap.size = w11.heap.size + 1 := World.size_alloc _ _
  have B13 := Blk.new (w11.alloc (.cells #[.int .u8 4, .int .i64 0, .int .i64 0] 41)) 28 #[.slice (some ⟨w11.heap.size, 0, none⟩) 1 1, .slice none 0 0]
  have G13 := (Grew.refl (w11.alloc (.cells #[.int .u8 4, .int .i64 0, .int .i64 0] 41))).alloc (.cells #[.slice (some ⟨w11.heap.size, 0, none⟩) 1 1, .slice none 0 0] 28)
  rw [e12] at B13
  have B12' := B12.grew G13
  go_wp2_with fail
  have HH13 := hid (HH11.out.more (G12.trans G13))
  generalize (w11.alloc (.cells #[.int .u8 4, .int .i64 0, .int .i64 0] 41)).alloc (.cells #[.slice (some ⟨w11.heap.size, 0, none⟩) 1 1, .slice none 0 0] 28) = w13 at *
  rw [ESG5.out]
  refine (hCollect_c v5 w2.heap.size 3 (some ⟨w11.heap.size + 1, 0, none⟩) 2 [⟨some ⟨w11.heap.size, 0, none⟩, 1, [tR 0]⟩, ⟨none, 0, []⟩] w13 HH13.out.mem HH13.out.ok (lists_blk B13 (by intro v hv; simp only [List.mem_cons, List.not_mem_nil, or_false] at hv; rcases hv with rfl | rfl; exact vals_blk B12' (by intro v hv; obtain rfl := List.mem_singleton.1 hv; exact tR_ok ⟨by decide, by decide⟩); exact ValsAt.nil _ _)) (by simp) (by intro v hv; simp only [List.mem_cons, List.not_mem_nil, or_false] at hv; rcases hv with rfl | rfl <;> simp)).mono ?_
  intro e w14 hpost
  obtain ⟨v6, rfl, hg, _, hH⟩ := HH13.out.collect hpost
  have hk : Hp.kept tL3 (flat [⟨some ⟨w11.heap.size, 0, none⟩, 1, [tR 0]⟩, ⟨none, 0, []⟩]) = tL3 := t_k1
  rw [hk, show ((tL3.length : Int) - (tL3.length : Int)) = 0 from rfl]
  have HH14 := hid (show HAt w2 w14 w2.heap.size 3 v6 tUp 16 tQ tL3 tC2 by rw [hk] at hH; exact hH)
  rw [← ESG5.out]
  have ESG6 := hid (show sg = v6.g by rw [hg, ← ESG5.out])
  clear hpost hg hH hk HH11 HH13 ESG5 B12 B12' B13 G12 G13 e12
  go_upto_region 10 with fail
  have B15 := Blk.new w14 41 #[.int .u8 4, .int .i64 1, .int .i64 0]
  have G15 := (Grew.refl w14).alloc (.cells #[.int .u8 4, .int .i64 1, .int .i64 0] 41)
  have e15 : (w14.alloc (.cells #[.int .u8 4, .int .i64 1, .int .i64 0] 41)).heap.size = w14.heap.size + 1 := World.size_alloc _ _
  have B16 := Blk.new (w14.alloc (.cells #[.int .u8 4, .int .i64 1, .int .i64 0] 41)) 28 #[.slice (some ⟨w14.heap.size, 0, none⟩) 1 1]
  have G16 := (Grew.refl (w14.alloc (.cells #[.int .u8 4, .int .i64 1, .int .i64 0] 41))).alloc (.cells #[.slice (some ⟨w14.heap.size, 0, none⟩) 1 1] 28)
  rw [e15] at B16
  have B15' := B15.grew G16
  go_wp2_with fail
  have HH16 := hid (HH14.out.more (G15.trans G16))
  generalize (w14.alloc (.cells #[.int .u8 4, .int .i64 1, .int .i64 0] 41)).alloc (.cells #[.slice (some ⟨w14.heap.size, 0, none⟩) 1 1] 28) = w16 at *
  rw [ESG6.out]
  refine (hCollect_c v6 w2.heap.size 3 (some ⟨w14.heap.size + 1, 0, none⟩) 1 [⟨some ⟨w14.heap.size, 0, none⟩, 1, [tR 1]⟩] w16 HH16.out.mem HH16.out.ok (lists_blk B16 (by intro v hv; obtain rfl := List.mem_singleton.1 hv; exact vals_blk B15' (by intro v hv; obtain rfl := List.mem_singleton.1 hv; exact tR_ok ⟨by decide, by decide⟩))) (by simp) (by intro v hv; obtain rfl := List.mem_singleton.1 hv; simp)).mono ?_
  intro e w17 hpost
  obtain ⟨v7, rfl, hg, _, hH⟩ := HH16.out.collect hpost
  have hk : Hp.kept tL3 (flat [⟨some ⟨w14.heap.size, 0, none⟩, 1, [tR 1]⟩]) = tL4 := t_k2
  rw [hk, show ((tL3.length : Int) - (tL4.length : Int)) = 1 from rfl]
  have HH17 := hid (show HAt w2 w17 w2.heap.size 3 v7 tUp 16 tQ tL4 tC2 by rw [hk] at hH; exact hH)
  rw [← ESG6.out]
  have ESG7 := hid (show sg = v7.g by rw [hg, ← ESG6.out])
  clear hpost hg hH hk HH14 HH16 ESG6 B15 B15' B16 G15 G16 e15
  go_upto_region 11 with fail
  go_wp2_with fail
  obtain ⟨y1, hy1, hyh, hyo⟩ := HH17.out.find_at (i := 1) (x := ⟨1, 0, tO2⟩) (List.mem_cons_self ..) rfl
  rw [ESG7.out]
  have hget := hGet_yes v7 w2.heap.size 3 1 y1 w17 HH17.out.mem HH17.out.ok hy1
  rw [hyo] at hget
  have hget2 : Calls Tryz.prog 5 #[.pointer (some ⟨v7.g, 0, none⟩), .int .i64 1] w17 (fun e w' => ∃ A c, e = .returned (.tuple #[.agg #[.int .i64 5, .int .i64 1, .slice A 0 c, .string ⟨#[110, 105, 110, 101, 98, 121, 116, 101, 115]⟩], .nilIface]) ∧ Grew w17 w') := hget.mono (by rintro e w' ⟨A, c, rfl, _, hg⟩; exact ⟨A, c, rfl, hg⟩)
  refine hget2.mono ?_
  rintro e w18 ⟨A18, c18, rfl, hg18⟩
  rw [← ESG7.out]
  have HH18 := hid (HH17.out.more hg18)
  clear hget hget2 hy1 hyh hyo hg18 HH17
  have B19 := Blk.new w18 30 #[.int .i64 5, .int .i64 1, .slice A18 0 c18, .string ⟨#[110, 105, 110, 101, 98, 121, 116, 101, 115]⟩]
  have G19 := (Grew.refl w18).alloc (.cells #[.int .i64 5, .int .i64 1, .slice A18 0 c18, .string ⟨#[110, 105, 110, 101, 98, 121, 116, 101, 115]⟩] 30)
  go_upto_region 12 with fail
  generalize w18.alloc (.cells #[.int .i64 5, .int .i64 1, .slice A18 0 c18, .string ⟨#[110, 105, 110, 101, 98, 121, 116, 101, 115]⟩] 30) = w19 at *
  generalize w18.heap.size = go at *
  have HB19 := hid B19
  have HH19 := hid (HH18.out.more G19)
  clear B19 G19 HH18
  go_wp2_with fail
  rw [ESG7.out]
  refine (hGet_no v7 w2.heap.size 0 w19 HH19.out.mem HH19.out.ok.len (HH19.out.find_no (by rfl))).mono ?_
  rintro e w20 ⟨rfl, hg20⟩
  rw [show errVal 3 = .iface 91 (.int .i64 3) from rfl]
  rw [← ESG7.out]
  have HH20 := hid (HH19.out.more hg20)
  have HB20 := hid (HB19.out.grew hg20)
  clear hg20 HH19 HB19
  have G21 := (Grew.refl w20).alloc (.cells zeroH 30)
  unfold zeroH at G21 ⊢
  go_upto_region 13 with fail
  generalize w20.alloc (.cells #[.int .i64 0, .int .i64 0, .slice none 0 0, .string ⟨#[]⟩] 30) = w21 at *
  have HH21 := hid (HH20.out.more G21)
  have HB21 := hid (HB20.out.grew G21)
  clear G21 HH20 HB20
  go_wp2_with fail
  rw [ESG7.out]
  refine (hAdd_c v7 w2.heap.size 3 ⟨tO3, none, 0⟩ w21 HH21.out.mem HH21.out.ok (by decide) ⟨ValsAt.nil _ _, (by show N64 5; exact ⟨by decide, by decide⟩), (by show N64 1; exact ⟨by decide, by decide⟩), Nat.le_refl _⟩ (fun h => absurd h (by decide))).mono ?_
  intro e w22 hpost
  obtain ⟨v8, rfl, hg, hs8, hH⟩ := HH21.out.add0s hpost t_a4 0 rfl t_l4
  have HH22 := hid hH
  have HB22 := hid (HB21.out.kept hs8.kept (HH21.out.mem.alien HB21.out (by decide) (by decide) (by decide) (by decide)))
  rw [← ESG7.out]
  have ESG8 := hid (show sg = v8.g by rw [hg, ← ESG7.out])
  clear hpost hg hH hs8 HH21 HB21 ESG7
  go_upto_region 14 with fail
  obtain ⟨y2, hy2, hyh, -⟩ := HH22.out.find_at (i := 0) (x := ⟨0, 1, tO3⟩) (List.mem_cons_self ..) rfl
  have hhash := hHash_yes v8 w2.heap.size 0 y2 w22 HH22.out.mem HH22.out.ok.len hy2
  rw [hyh] at hhash
  have HHs : Hid (Calls Tryz.prog 6 #[.pointer (some ⟨sg, 0, none⟩), .int .i64 0] w22 fun e w' => e = .returned (.tuple #[.int .i64 1, .nilIface]) ∧ Grew w22 w') := hid (by rw [ESG8.out]; exact hhash)
  clear hhash hy2 hyh
  have HUs : Hid (∀ W, Grew w22 W → Calls Tryz.prog 11 #[.pointer (some ⟨sg, 0, none⟩), .int .i64 1] W fun e w' => e = .returned (.int .i64 7) ∧ Grew W w') := hid (fun W hW => by
    have h1 := hUsed_c v8 w2.heap.size 1 W (HH22.out.mem.grew hW) HH22.out.ok.lens.2
    have h2 : usedI v8 1 = 7 := by
      unfold usedI
      have h3 := HH22.out.ok.us 1
      rw [HH22.out.its] at h3
      rw [HH22.out.up]
      show (if Ob.inB 1 4 then v8.us 1 else 0) = 7
      rw [if_pos (by decide), h3]
      rfl
    rw [h2] at h1
    rw [ESG8.out]
    exact h1)
  have HUz : Hid (∀ W, Grew w22 W → Calls Tryz.prog 11 #[.pointer (some ⟨sg, 0, none⟩), .int .i64 0] W fun e w' => e = .returned (.int .i64 0) ∧ Grew W w') := hid (fun W hW => by
    have h1 := hUsed_c v8 w2.heap.size 0 W (HH22.out.mem.grew hW) HH22.out.ok.lens.2
    have h2 : usedI v8 0 = 0 := by
      unfold usedI
      have h3 := HH22.out.ok.us 0
      rw [HH22.out.its] at h3
      rw [HH22.out.up]
      show (if Ob.inB 0 4 then v8.us 0 else 0) = 0
      rw [if_pos (by decide), h3]
      rfl
    rw [h2] at h1
    rw [ESG8.out]
    exact h1)
  have HLn : Hid (∀ W, Grew w22 W → Calls Tryz.prog 10 #[.pointer (some ⟨sg, 0, none⟩)] W fun e w' => e = .returned (.int .i64 2) ∧ Grew W w') := hid (fun W hW => by
    have h1 := hLen_c v8 w2.heap.size W (HH22.out.mem.grew hW)
    have h3 := HH22.out.ok.n
    rw [HH22.out.its] at h3
    rw [h3] at h1
    rw [ESG8.out]
    exact h1)
  have HNu : Hid (∀ k W, Grew w22 W → Calls Tryz.prog 8 #[.iface 91 (.int .i64 ((k + 1 : Nat) : Int))] W fun e w' => e = .returned (.int .i64 ((k + 1 : Nat) : Int)) ∧ Grew W w') := hid (fun k W hW => num_c (k + 1) W (HE.out.grew ((HG2.out.trans HH22.out.gr).trans hW)))
  have HN1 : Hid (∀ W, Grew w22 W → Calls Tryz.prog 8 #[.iface 91 (.int .i64 1)] W fun e w' => e = .returned (.int .i64 1) ∧ Grew W w') := hid (fun W hW => HNu.out 0 W hW)
  have HN12 : Hid (∀ W, Grew w22 W → Calls Tryz.prog 8 #[.iface 91 (.int .i64 12)] W fun e w' => e = .returned (.int .i64 12) ∧ Grew W w') := hid (fun W hW => HNu.out 11 W hW)
  have HN3 : Hid (∀ W, Grew w22 W → Calls Tryz.prog 8 #[.iface 91 (.int .i64 3)] W fun e w' => e = .returned (.int .i64 3) ∧ Grew W w') := hid (fun W hW => HNu.out 2 W hW)
  have HGw := hid (HG2.out.trans HH22.out.gr)
  have HOb : Hid (∀ W, Grew w22 W → W.cell? ⟨go, 3, none⟩ = some (.string ⟨#[110, 105, 110, 101, 98, 121, 116, 101, 115]⟩) ∧ go < W.heap.size) := hid (fun W hW => ⟨(HB22.out.grew hW).cell 3, (HB22.out.grew hW).lt⟩)
  clear HNu HH22 HB22 ESG8
  go_wp2_with fail
  refine HHs.out.mono ?_
  rintro e w23 ⟨rfl, hg23⟩
  have HG23 := hid hg23
  clear hg23
  go_wp2_with fail
  refine (HN1.out _ HG23.out).mono ?_
  rintro e w24 ⟨rfl, hg24⟩
  have HG24 := hid (HG23.out.trans hg24)
  clear hg24
  go_wp2_with fail
  refine (HN12.out _ HG24.out).mono ?_
  rintro e w25 ⟨rfl, hg25⟩
  have HG25 := hid (HG24.out.trans hg25)
  clear hg25
  obtain ⟨ob, obl⟩ := HOb.out w25 HG25.out
  go_wp2_with fail
  refine (HN3.out _ HG25.out).mono ?_
  rintro e w26 ⟨rfl, hg26⟩
  have HG26 := hid (HG25.out.trans hg26)
  clear hg26 ob obl
  go_wp2_with fail
  refine (HUs.out _ HG26.out).mono ?_
  rintro e w27 ⟨rfl, hg27⟩
  have HG27 := hid (HG26.out.trans hg27)
  clear hg27
  go_wp2_with fail
  refine (HUz.out _ HG27.out).mono ?_
  rintro e w28 ⟨rfl, hg28⟩
  have HG28 := hid (HG27.out.trans hg28)
  clear hg28
  go_wp2_with fail
  refine (HLn.out _ HG28.out).mono ?_
  rintro e w29 ⟨rfl, hg29⟩
  go_wp2_with fail
  go_ret
  exact ⟨rfl, (HGw.out.trans HG28.out).trans hg29⟩
end Go.Proofs.YtidnaednldcdfaaGreatDoor
namespace Go.Proofs.YtidnaednldcdfaaGreatDoor
open Go.RowKit

/-- 'append([]T{}, xs...)': elements of one cell. -/
theorem run_catZ {P : Program} (t ty e : TypeId) (z : Value) (b : Nat) (ht : P.underlying t = some (.slice e)) (he : (P.info? e).map (fun i => (i.zero, i.size, i.bytes)) = some (some z, 1, b)) (hzs : z.cells.size = 1)
    (w : World) (H : Nat) (hH : Blk w H e #[]) (A : Option Addr) (m c : Nat) (xs : List Value) (hl : xs.length = m) (h1 : ∀ u ∈ xs, u.oneCell' = true) (hA : A = none → m = 0) (hx : ∀ ad, A = some ad → ∀ j u, xs[j]? = some u → w.cell? (ad.add j) = some u) (hlen : m ≤ 9223372036854775807) (hby : m * b ≤ 140737488355328) :
    ∃ A' c' w', (Builtin.append_ #[t, t] ty #[.slice (some ⟨H, 0, none⟩) 0 0, .slice A m c]).run P w = .ok (.slice A' m c') w' ∧ Row w' H e 1 A' m c' xs ∧ Grew w w' := by
  obtain ⟨i, hi, hz0, hz1, hz2⟩ := info_parts he
  have hrow : Row w H e 1 (some ⟨H, 0, none⟩) 0 0 [] := Row.of_blk hH (Nat.le_refl _) rfl (by decide)
  have hlt := hH.lt
  rcases Nat.eq_zero_or_pos m with h0 | h0
  · subst h0
    obtain rfl := List.eq_nil_of_length_eq_zero hl
    refine ⟨some ⟨H, 0, none⟩, 0, w, ?_, hrow, Grew.refl _⟩
    cases A with
    | none => simp [Builtin.append_, run_underlying ht, sizeOf, typeInfo, hi, Builtin.lenOf, Builtin.firstCells, storeCells]
    | some ad => simp [Builtin.append_, run_underlying ht, sizeOf, typeInfo, hi, Builtin.lenOf, Builtin.firstCells, storeCells, loadCells, loadCellsFrom]
  · obtain ⟨ad, rfl⟩ : ∃ ad, A = some ad := by
      cases A with
      | none => have := hA rfl; omega
      | some ad => exact ⟨ad, rfl⟩
    obtain ⟨A', c', w', hrun, r1, r2, r3⟩ := run_catR (P := P) t ty e z 1 b ht he hzs (by decide) w H (Nat.le_of_lt hlt) (some ⟨H, 0, none⟩) 0 0 [] hrow (some ad) m c xs (by omega) h1 (fun h => by cases h) hx (by omega) (by rw [Nat.zero_add]; exact hby)
    have hrun2 := run_append_grow (P := P) (w := w) t ty e i z ht hi hz0 ⟨H, 0, none⟩ 0 0 [] (by simp) (by simp) ad m c xs (by rw [hz1]; omega) (hx ad rfl) (by omega) (by omega) (by rw [hz2]; exact growslice_fits (by omega) (by rw [Nat.zero_add]; exact hby))
    rw [hrun] at hrun2
    simp only [Result.ok.injEq] at hrun2
    obtain ⟨_, hw⟩ := hrun2
    rw [Nat.zero_add] at hrun r1
    rw [List.nil_append] at r1
    exact ⟨A', c', w', hrun, r1, by rw [hw]; exact (Grew.refl w).drew.alloc _⟩
/-- An act. -/
structure A12 where
  kd : Nat
  o : OV
  i : Int
  k : Int
  u : Int
  v : Ob.Val
  rA : Option Addr
  rc : Nat
  rl : List LV
def a12F (x : A12) : List Value := [.int .u8 ((x.kd : Nat) : Int), .int .i64 x.o.o.cls, .int .i64 x.o.o.lev, .slice x.o.A x.o.o.f.length x.o.c, .string x.o.o.b, .int .i64 x.i, .int .i64 x.k, .int .i64 x.u, .int .u8 ((x.v.k : Nat) : Int), .int .i64 x.v.n, .int .i64 x.v.l, .slice x.rA x.rl.length x.rc]
structure A12Ok (w : World) (x : A12) : Prop where
  o : OvOk w x.o
  kd : x.kd < 256
  v : ValOk x.v
  i : N64 x.i
  k : N64 x.k
  u : N64 x.u
  r : ListsAt w x.rA x.rl
theorem A12Ok.grew {w w' : World} {x : A12} (h : A12Ok w x) (hg : Grew w w') : A12Ok w' x := ⟨h.o.grew hg, h.kd, h.v, h.i, h.k, h.u, h.r.grew hg⟩
structure Acts12 (w : World) (A : Option Addr) (l : List A12) : Prop where
  ok : ∀ v ∈ l, A12Ok w v
  cells : 0 < l.length → ∃ ad, A = some ad ∧ ad.block < w.heap.size ∧ CellsAt 12 a12F w ad l
theorem Acts12.grew {w w' : World} {A : Option Addr} {l : List A12} (h : Acts12 w A l) (hg : Grew w w') : Acts12 w' A l := ⟨fun x hx => (h.ok x hx).grew hg, fun hl => by
  obtain ⟨ad, h1, h2, h3⟩ := h.cells hl
  exact ⟨ad, h1, Nat.lt_of_lt_of_le h2 hg.below.size, h3.kept (F := fun _ => False) (.of_grew hg) h2 (fun h => h)⟩⟩
theorem act12_at {w wr : World} {A : Option Addr} {l : List A12} (h : Acts12 w A l) (hg : Grew w wr) {i : Nat} (hi : i < l.length) : ∃ ad v, A = some ad ∧ l[i]? = some v ∧ (∀ j u, (a12F v)[j]? = some u → wr.cell? ((ad.add (i * 12)).add j) = some u) ∧ ad.block < wr.heap.size ∧ A12Ok w v := by
  obtain ⟨ad, e, hb, hc⟩ := h.cells (by omega)
  have hv := List.getElem?_eq_getElem hi
  refine ⟨ad, l[i], e, hv, fun j u hu => ?_, Nat.lt_of_lt_of_le hb hg.below.size, h.ok _ (List.getElem_mem hi)⟩
  rw [add_add, hg.below.cell (by rw [block_add]; exact hb)]
  exact hc i _ hv j u hu
theorem i64_info : (Tryz.prog.info? 3).map (fun i => (i.zero, i.size, i.bytes)) = some (some (.int .i64 0), 1, 8) := by kernel_rfl
/-- What the operations of 'heap.New(lattice.Lat{Up: append([]uint8{}, s.Up...)}, s.Room, append([]int{}, s.Quota...)...)' give. -/
def NwF (w0 : World) (gs : Nat) (U : Option Addr) (cu : Nat) (up : List Nat) (room : Int) (Q : Option Addr) (cq : Nat) (quota : List Int) (ok : Bool) (j : Nat) (v : Value) (w : World) : Prop := match j with
  | 0 => ∃ H, v = .slice (some ⟨H, 0, none⟩) 0 0 ∧ Blk w H 5 #[]
  | 1 => v = .pointer (some ⟨gs, 0, none⟩)
  | 2 => v = .slice U up.length cu
  | 3 => ∃ A' c', v = .slice A' up.length c' ∧ BytesAt w w.heap.size A' up
  | 4 => ∃ A' c', v = .agg #[.slice A' up.length c'] ∧ BytesAt w w.heap.size A' up
  | 5 => v = .pointer (some ⟨gs, 1, none⟩)
  | 6 => v = .int .i64 room
  | 7 => ∃ H, v = .slice (some ⟨H, 0, none⟩) 0 0 ∧ Blk w H 3 #[]
  | 8 => v = .pointer (some ⟨gs, 2, none⟩)
  | 9 => v = .slice Q quota.length cq
  | 10 => ∃ A' c', v = .slice A' quota.length c' ∧ IntsAt w A' quota
  | 11 => if ok then ∃ h, v = .tuple #[.pointer (some ⟨h.g, 0, none⟩), .nilIface] ∧ HAt w0 w w0.heap.size 0 h up room (qf room quota) [] (fun _ => 0) else ∃ k : Int, v = .tuple #[.pointer none, .iface 91 (.int .i64 k)]
  | 12 => if ok then ∃ h, v = .tuple #[.pointer (some ⟨h.g, 0, none⟩), .nilIface] ∧ HAt w0 w w0.heap.size 0 h up room (qf room quota) [] (fun _ => 0) else ∃ k : Int, v = .tuple #[.pointer none, .iface 91 (.int .i64 k)]
  | 13 => if ok then ∃ h, v = .pointer (some ⟨h.g, 0, none⟩) ∧ HAt w0 w w0.heap.size 0 h up room (qf room quota) [] (fun _ => 0) else v = .pointer none
  | 14 => if ok then v = .nilIface else ∃ k : Int, v = .iface 91 (.int .i64 k)
  | 15 => if ok then ∃ h, v = .pointer (some ⟨h.g, 0, none⟩) ∧ HAt w0 w w0.heap.size 0 h up room (qf room quota) [] (fun _ => 0) else v = .pointer none
  | 16 => if ok then v = .nilIface else ∃ k : Int, v = .iface 91 (.int .i64 k)
  | _ => True
theorem NwF.grew {w0 : World} {gs : Nat} {U : Option Addr} {cu : Nat} {up : List Nat} {room : Int} {Q : Option Addr} {cq : Nat} {quota : List Int} {ok : Bool} (j : Nat) (v : Value) (w w' : World) (h : NwF w0 gs U cu up room Q cq quota ok j v w) (hg : Grew w w') : NwF w0 gs U cu up room Q cq quota ok j v w' := by
  unfold NwF at h ⊢
  split at h
  · obtain ⟨H, h1, h2⟩ := h
    exact ⟨H, h1, h2.grew hg⟩
  · exact h
  · exact h
  · obtain ⟨A', c', h1, h2⟩ := h
    exact ⟨A', c', h1, h2.grew hg⟩
  · obtain ⟨A', c', h1, h2⟩ := h
    exact ⟨A', c', h1, h2.grew hg⟩
  · exact h
  · exact h
  · obtain ⟨H, h1, h2⟩ := h
    exact ⟨H, h1, h2.grew hg⟩
  · exact h
  · exact h
  · obtain ⟨A', c', h1, h2⟩ := h
    exact ⟨A', c', h1, h2.grew hg⟩
  · cases ok
    · exact h
    · obtain ⟨x, h1, h2⟩ := h
      exact ⟨x, h1, h2.more hg⟩
  · cases ok
    · exact h
    · obtain ⟨x, h1, h2⟩ := h
      exact ⟨x, h1, h2.more hg⟩
  · cases ok
    · exact h
    · obtain ⟨x, h1, h2⟩ := h
      exact ⟨x, h1, h2.more hg⟩
  · exact h
  · cases ok
    · exact h
    · obtain ⟨x, h1, h2⟩ := h
      exact ⟨x, h1, h2.more hg⟩
  · exact h
  · trivial
theorem HAt.from {w0 w1 w : World} {B C : Nat} {v : HV} {up : List Nat} {room : Int} {q : Nat → Int} {L : List Hp.It} {cn : Nat → Int} (h : HAt w1 w B C v up room q L cn) (hg : Grew w0 w1) : HAt w0 w w0.heap.size C v up room q L cn :=
  ⟨h.mem.base (Nat.le_trans hg.below.size h.low), h.ok, h.up, h.room, h.q, h.its, h.cn, Nat.le_refl _, hg.trans h.gr⟩
theorem AddV.grew {w w1 w' : World} {B : Nat} {v : HV} {C : Nat} {o : Ob.Obj} {e : Ending} (h : AddV w B v C o e w1) (hg : Grew w1 w') : AddV w B v C o e w' := by
  obtain ⟨v', h1, h2, h3⟩ := h
  exact ⟨v', h1, h2.grew hg, h3⟩
theorem AddV.from {w0 w w' : World} {B : Nat} {v : HV} {C : Nat} {o : Ob.Obj} {e : Ending} (h : AddV w B v C o e w') (hg : MemAt w0 B v ∧ Grew w0 w) : AddV w0 B v C o e w' := by
  obtain ⟨v', h1, h2, h3⟩ := h
  exact ⟨v', h1, (Step.of_grew hg.1 hg.2).trans h2, h3⟩
theorem AddV.kept {w w' : World} {B : Nat} {v : HV} {C : Nat} {o : Ob.Obj} {e : Ending} (h : AddV w B v C o e w') : Kept (HOwns v) w w' := by
  obtain ⟨v', h1, h2, h3⟩ := h
  exact h2.kept
def addVal (v : HV) (o : Ob.Obj) : Value := .tuple #[.int .i64 (if Hp.addCode v.up.length (its v.sl) v.room v.q o = 0 then ((Hp.least (its v.sl) : Nat) : Int) else 0), errVal (Hp.addCode v.up.length (its v.sl) v.room v.q o)]
theorem AddV.val {w w' : World} {B : Nat} {v : HV} {C : Nat} {o : Ob.Obj} {e : Ending} (h : AddV w B v C o e w') : e = .returned (addVal v o) := by
  obtain ⟨v', h1, _⟩ := h
  exact h1
/-- What the operations of 'h.Add(x.O.Class, x.O.Level, giveVals(x.O.F), x.O.B)' give. -/
def AgF (w0 : World) (B : Nat) (v1 : HV) (C : Nat) (o : Ob.Obj) (sg gx : Nat) (cls lev : Int) (oA : Option Addr) (m oc : Nat) (b : ByteArray) (cs : List Value) (r : Int) (er : Value) (j : Nat) (v : Value) (w : World) : Prop := match j with
  | 0 => v = .pointer (some ⟨sg, 0, none⟩)
  | 1 => v = .pointer (some ⟨gx, 1, none⟩)
  | 2 => v = .pointer (some ⟨gx, 1, none⟩)
  | 3 => v = .int .i64 cls
  | 4 => v = .pointer (some ⟨gx, 1, none⟩)
  | 5 => v = .pointer (some ⟨gx, 2, none⟩)
  | 6 => v = .int .i64 lev
  | 7 => v = .pointer (some ⟨gx, 1, none⟩)
  | 8 => v = .pointer (some ⟨gx, 3, none⟩)
  | 9 => v = .slice oA m oc
  | 10 => ∃ A' c', v = .slice A' m c' ∧ Row w w0.heap.size 41 3 A' m c' cs
  | 11 => v = .pointer (some ⟨gx, 1, none⟩)
  | 12 => v = .pointer (some ⟨gx, 4, none⟩)
  | 13 => v = .string b
  | 14 => v = .tuple #[.int .i64 r, er] ∧ AddV w0 B v1 C o (.returned (.tuple #[.int .i64 r, er])) w
  | 15 => v = .tuple #[.int .i64 r, er]
  | 16 => v = .int .i64 r
  | 17 => v = er
  | 18 => v = .int .i64 r
  | 19 => v = er
  | _ => True
theorem AgF.stable {w0 : World} {B : Nat} {v1 : HV} {C : Nat} {o : Ob.Obj} {sg gx : Nat} {cls lev : Int} {oA : Option Addr} {m oc : Nat} {b : ByteArray} {cs : List Value} {r : Int} {er : Value} (hO : ∀ k, HOwns v1 k → k < w0.heap.size) (i j : Nat) (v : Value) (w w' : World) (hab : i ≠ j) (h : AgF w0 B v1 C o sg gx cls lev oA m oc b cs r er i v w) (hr : GRo 14 (HOwns v1) j w w') : AgF w0 B v1 C o sg gx cls lev oA m oc b cs r er i v w' := by
  have hz := GRo.zero j w w' hr
  unfold AgF at h ⊢
  split at h <;> first | exact h | skip
  · obtain ⟨A', c', h1, h2⟩ := h
    exact ⟨A', c', h1, h2.kept hz (fun g hg hk => by have h3 := Row.at_base h2 g ⟨_, hg, rfl⟩; have h4 := hO g hk; omega)⟩
  · exact ⟨h.1, h.2.grew (hr.off (fun e => hab e.symm))⟩
/-- An act's cells. -/
def a12C (x : A12) : Array Value := (a12F x).toArray
def AgJ (w0 : World) (B : Nat) (v1 : HV) (gx : Nat) (xc : Array Value) (f : Nat → Bool) (w : World) : Prop :=
  Blk w gx 62 xc ∧ (f 14 = false → MemAt w B v1 ∧ (MemAt w0 B v1 ∧ Grew w0 w))
theorem AgJ.grew {w0 w w' : World} {B : Nat} {v1 : HV} {gx : Nat} {xc : Array Value} {f : Nat → Bool} (h : AgJ w0 B v1 gx xc f w) (hg : Grew w w') : AgJ w0 B v1 gx xc f w' :=
  ⟨h.1.grew hg, fun hf => ⟨(h.2 hf).1.grew hg, (h.2 hf).2.1, (h.2 hf).2.2.trans hg⟩⟩
theorem AgJ.pure {w0 w : World} {B : Nat} {v1 : HV} {gx : Nat} {xc : Array Value} {f : Nat → Bool} (h : AgJ w0 B v1 gx xc f w) (k : Nat) (hk : 14 ≠ k) : AgJ w0 B v1 gx xc (updF f k) w :=
  ⟨h.1, fun hf => h.2 (by unfold updF at hf; rw [if_neg hk] at hf; exact hf)⟩
theorem AgJ.add {w0 w w' : World} {B : Nat} {v1 : HV} {gx : Nat} {xc : Array Value} {f : Nat → Bool} {C : Nat} {o : Ob.Obj} {e : Ending} (h : AgJ w0 B v1 gx xc f w) (hf : f 14 = false) (hp : AddV w B v1 C o e w') : AgJ w0 B v1 gx xc (updF f 14) w' := by
  refine ⟨h.1.kept hp.kept ((h.2 hf).1.alien h.1 (by decide) (by decide) (by decide) (by decide)), fun hf2 => ?_⟩
  unfold updF at hf2
  rw [if_pos rfl] at hf2
  cases hf2
end Go.Proofs.YtidnaednldcdfaaGreatDoor
namespace Go.Proofs.YtidnaednldcdfaaGreatDoor
open Go.RowKit

theorem gcOff : (Region.Mode.any == Region.Mode.gc) = false := rfl
theorem bytes_none {w : World} {B : Nat} {A : Option Addr} {up : List Nat} (h : BytesAt w B A up) : A = none → up.length = 0 := fun e => by
  rcases Nat.eq_zero_or_pos up.length with h0 | h0
  · exact h0
  · obtain ⟨ad, h1, _⟩ := h.2 h0
    rw [e] at h1; cases h1
theorem ints_one (l : List Int) : ∀ u ∈ l.flatMap intF, u.oneCell' = true := fun u hu => by
  obtain ⟨x, _, h⟩ := List.mem_flatMap.1 hu
  simp only [intF, List.mem_singleton] at h
  rw [h]; rfl
theorem ints_none {w : World} {A : Option Addr} {l : List Int} (h : IntsAt w A l) : A = none → l.length = 0 := fun e => by
  rcases Nat.eq_zero_or_pos l.length with h0 | h0
  · exact h0
  · obtain ⟨ad, h1, _⟩ := h h0
    rw [e] at h1; cases h1
theorem ints_cells {w : World} {A : Option Addr} {l : List Int} (h : IntsAt w A l) : ∀ ad, A = some ad → ∀ j u, (l.flatMap intF)[j]? = some u → w.cell? (ad.add j) = some u := fun ad e j u hu => by
  have hl : 0 < l.length := by
    have := (List.getElem?_eq_some_iff.1 hu).1
    rw [flatMap_length intF_len] at this
    omega
  obtain ⟨ad', h1, _, hc⟩ := h hl
  rw [e] at h1
  cases h1
  exact flat_cell (by decide) intF_len hc j u hu
theorem ints_row {w : World} {B : Nat} {e : TypeId} {A : Option Addr} {c : Nat} {l : List Int} (h : Row w B e 1 A l.length c (l.flatMap intF)) : IntsAt w A l := fun hl => by
  rcases h.cases with ⟨_, _, _, ⟨_, h2, _⟩ | ⟨g, h1, hb, hw, hc, _⟩⟩
  · omega
  · exact ⟨⟨g, 0, none⟩, h1, hw, CellsAt.of_row intF_len (by rw [h1] at h; exact h)⟩
/-- Lists that were given. -/
theorem lists_row {w : World} {B : Nat} {A : Option Addr} {c : Nat} {l : List LV} (h : Row w B 28 1 A l.length c (l.flatMap lvF)) (hf : ∀ x ∈ l, Row w B 41 3 x.A x.l.length x.c (x.l.flatMap valF)) (hv : ∀ x ∈ l, ∀ u ∈ x.l, ValOk u) : ListsAt w A l :=
  ⟨fun x hx => row_vals (hf x hx) rfl (hv x hx), fun hl => by
    rcases h.cases with ⟨_, _, _, ⟨_, h2, _⟩ | ⟨g, h1, hb, hw, hc, _⟩⟩
    · omega
    · exact ⟨⟨g, 0, none⟩, h1, hw, CellsAt.of_row lvF_len (by rw [h1] at h; exact h)⟩⟩
theorem map_l_flat {l m : List LV} (h : l.map (·.l) = m.map (·.l)) : flat l = flat m := by
  unfold flat
  rw [List.flatMap_def, List.flatMap_def, h]
theorem map_l_mem {l m : List LV} (h : l.map (·.l) = m.map (·.l)) {x : LV} (hx : x ∈ l) : ∃ y ∈ m, y.l = x.l := by
  have h1 : x.l ∈ l.map (·.l) := List.mem_map.2 ⟨x, hx, rfl⟩
  rw [h] at h1
  obtain ⟨y, hy, e⟩ := List.mem_map.1 h1
  exact ⟨y, hy, e⟩
end Go.Proofs.YtidnaednldcdfaaGreatDoor

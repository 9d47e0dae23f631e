/- Stage 8: the program's own onEveryPath. -/
import Derived.Test.YtilikjfjbnabfaaGreatDoorFlD
import Derived.Test.YtilikjfjbnabfaaGreatDoorFl7
namespace Go.Proofs.YtilikjfjbnabfaaGreatDoor
open Go.RowKit Go.Shelf
attribute [local go_sem] Oper.semAt_some

def fullCs : Array Value := #[.int .u64 18446744073709551615, .int .u64 18446744073709551615, .int .u64 18446744073709551615, .int .u64 18446744073709551615, .int .u64 18446744073709551615, .int .u64 18446744073709551615, .int .u64 18446744073709551615, .int .u64 18446744073709551615, .int .u64 18446744073709551615]
theorem fullCs_eq : fullCs = setCs Fl.full := rfl
theorem full_lit : setVal Fl.full = .agg fullCs := rfl
theorem rep_cells (n : Nat) (xs : List Nat) : (List.replicate n (numCells .u64 xs)).flatten = setsCells (List.replicate n xs) := by
  induction n with
  | zero => rfl
  | succ n ih => rw [List.replicate_succ, List.flatten_cons, ih, List.replicate_succ]; rfl
/-- The row of sets at first. -/
theorem rep_c (n : Nat) (w0 w : World) (hg : Grew w0 w) (h1 : 1 ≤ n) (h2 : n ≤ 512) : Calls Tryz.prog 48 #[.slice (some ⟨w.heap.size, 0, none⟩) 1 1, .int .i64 (n : Nat)] (w.alloc (.cells fullCs 66)) (fun e w' => ∃ g, e = .returned (.slice (some ⟨g, 0, none⟩) n n) ∧ SetsAt w' w0.heap.size g n (List.replicate n Fl.full) ∧ Grew w0 w') := by
  have hb := Blk.new w 66 fullCs
  refine (repSet w.heap.size n (numCells .u64 Fl.full) _ (fun j v hv => by rw [hb.cell]; simpa [fullCs_eq, setCs] using hv) hb.lt rfl (fun v hv => by
    obtain ⟨x, _, rfl⟩ := List.mem_map.1 hv
    rfl) h1 (by omega)).mono ?_
  rintro e w' ⟨g, us, rfl, rfl, hr, hg'⟩
  rw [rep_cells] at hr
  refine ⟨g, rfl, ⟨hr.low (by have := hg.below.size; simp only [World.size_alloc]; omega), by simp, fun s hs => by rw [(List.mem_replicate.1 hs).2]; exact Fl.full_ok⟩, hg.trans (((Grew.refl w).alloc _).trans hg')⟩
theorem kf_kept {F : Nat → Prop} {W W' : World} {b : Nat} (h : Kept F W W') (hF : ∀ k, F k → ∃ t cs, Blk W k t cs) : KeepsFrom b W W' :=
  ⟨h.size, fun k o _ ho hc => (h.block k (Array.getElem?_eq_some_iff.1 ho).1 (fun hf => by
    obtain ⟨t, cs, hb⟩ := hF k hf
    unfold Blk at hb
    rw [hb] at ho
    cases ho
    cases hc)).trans ho⟩
theorem BkRd.keptF {F : Nat → Prop} {Bs g n : Nat} {vs : List Value} {W W' : World} (h : BkRd Bs g n vs W) (hk : Kept F W W') (h1 : Bs < W.heap.size) (h2 : g < W.heap.size) (f1 : ¬ F Bs) (f2 : ¬ F g) : BkRd Bs g n vs W' :=
  ⟨(hk.cell (p := ⟨Bs, 0, none⟩) h1 f1).trans h.1, fun j hj => (hk.cell (p := ⟨g, j, none⟩) h2 f2).trans (h.2 j hj)⟩
theorem SetsAt.blk {w : World} {B g n : Nat} {S : List (List Nat)} (h : SetsAt w B g n S) : ∃ t cs, Blk w g t cs := by
  rcases h.row.2 with ⟨h3, _⟩ | ⟨g', cap, cur, hv, _, hh, _⟩
  · cases h3
  · simp only [Value.slice.injEq, Option.some.injEq, Addr.mk.injEq] at hv
    obtain ⟨⟨rfl, _⟩, _⟩ := hv
    exact ⟨_, _, hh⟩
/-- As far as the sweeps have come. -/
def EvRel (w : World) (gS g3 n : Nat) (G : List (List Nat)) (f : Nat) (u4 : Value) (ds : List Deferred) (wr : World) : Prop :=
  ∃ (S : List (List Nat)) (ch : Bool) (g4 : Nat), u4 = .pointer (some ⟨g4, 0, none⟩) ∧ EvM w gS g3 g4 n S ch wr ∧ g3 < g4 ∧ Marks w.heap.size ds wr ∧ Fl.Down G n S ∧ (∀ S', (if ch = true then Fl.Sweeps G S S' else S' = S) → Fl.Sweeps G (List.replicate n Fl.full) S') ∧ f = (if ch = true then Fl.wsum S + 1 else 0)
/-- What holds between two rounds of a sweep. -/
def EvI (w wx : World) (gS g3 g4 n : Nat) (G S : List (List Nat)) (pre : List Nat) (W : World) : Prop :=
  (∃ (T : List (List Nat)) (ch : Bool), EvM w gS g3 g4 n T ch W ∧ Hid (SwInv G S n T ch pre)) ∧ (∀ D : Nat, wx.heap[D]? = some (.deferred (some [])) → W.heap[D]? = some (.deferred (some []))) ∧ wx.heap.size ≤ W.heap.size
def EvA (w : World) (gS g3 n : Nat) (G : List (List Nat)) (x0 x8 x9 x10 x11 x12 : Value) (a : Act) (wr : World) : Prop :=
  ∃ f u4 u13 u14 u15 u36 ds, EvRel w gS g3 n G f u4 ds wr ∧ a = ⟨#[x0, undef, .slice none 0 0, .pointer (some ⟨g3, 0, none⟩), u4, undef, undef, undef, x8, x9, x10, x11, x12, u13, u14, u15, undef, undef, undef, undef, undef, undef, undef, undef, undef, undef, undef, undef, undef, undef, undef, undef, undef, undef, undef, undef, u36, undef], ds⟩
set_option maxRecDepth 100000 in
set_option maxHeartbeats 4000000 in
theorem every_c (B g n : Nat) (vs : List Value) (G : List (List Nat)) (w : World) (h : GraphAt w B g n vs G) (hv : vs.length = n) (hgl : G.length = n) (hs : ∀ s ∈ G, ∀ i ∈ s, i < n) (hs2 : ∀ s ∈ G, s.length ≤ 1000) (hn1 : 1 ≤ n) (hn : n ≤ 512) :
    Calls Tryz.prog 24 #[.slice (some ⟨g, 0, none⟩) n n] w (fun e w' => ∃ g', ∃ S, e = .returned (.slice (some ⟨g', 0, none⟩) n n) ∧ SetsAt w' w.heap.size g' n S ∧ Fl.Sweeps G (List.replicate n Fl.full) S ∧ Grew w w') := by
  have H := hid h
  have HV := hid hv
  have HGL := hid hgl
  have HS := hid hs
  have HS2 := hid hs2
  obtain ⟨low, hlow⟩ := low_ex
  have HLow := hid hlow
  clear h hv hgl hs hs2 hlow
  refine (callsIn_wide (n := 5)).1 ?_
  refine callsIn_of_wp_marks Tryz.func24 rfl trivial ?_ rfl
  simp only [Tryz.ntmps24, List.size_toArray, List.length_cons, List.length_nil, Nat.reduceAdd, Nat.reduceSub, Array.replicate_succ, Array.replicate_zero, List.push_toArray, List.append_toArray, List.nil_append, List.cons_append]
  gi_wp2_with (refine ⟨trivial, ?_⟩; gi_at_call 49; refine (callsIn_wide.2 (all_c _)).mono ?_; rintro e w' ⟨rfl, hg1⟩; have HG1 := hid hg1; clear hg1; rw [full_lit]; unfold fullCs)
  refine ⟨trivial, callsIn_wide.2 ((rep_c n w w' HG1.out hn1 hn).mono ?_)⟩
  rintro e w2 ⟨gS, rfl, hS, hg2⟩
  have HS2' := hid hS
  have HG2 := hid hg2
  clear hS hg2 HG1
  gi_wp2
  obtain ⟨g3, hg3⟩ : ∃ g3, g3 = w2.heap.size := ⟨_, rfl⟩
  obtain ⟨W0, hW0⟩ : ∃ W0, W0 = (w2.alloc (.cells #[.slice (some ⟨gS, 0, none⟩) n n] 62)).alloc (.cells #[.bool true] 4) := ⟨_, rfl⟩
  have HM : Hid (EvM w gS g3 (g3 + 1) n (List.replicate n Fl.full) true W0 ∧ w.heap.size ≤ gS ∧ gS < g3) := hid (by
    obtain ⟨l1, l2⟩ := HS2'.out.lt
    have b1 := Blk.new w2 62 #[.slice (some ⟨gS, 0, none⟩) n n]
    have b2 := Blk.new (w2.alloc (.cells #[.slice (some ⟨gS, 0, none⟩) n n] 62)) 4 #[.bool true]
    rw [World.size_alloc, ← hg3] at b2
    rw [← hg3] at b1
    have hg : Grew w2 W0 := by rw [hW0]; exact ((Grew.refl w2).alloc _).alloc _
    rw [← hW0] at b2
    refine ⟨⟨HS2'.out.grew hg, ?_, b2, HG2.out.trans hg⟩, l1, by omega⟩
    rw [hW0]
    exact b1.grew ((Grew.refl _).alloc _))
  rw [← hW0, ← hg3]
  clear hW0 hg3 HS2' HG2
  refine wpIn_loop (EvA w gS g3 n G (.slice (some ⟨g, 0, none⟩) n n) (.agg fullCs) (.slice (some ⟨w'.heap.size, 0, none⟩) 1 1) (.slice (some ⟨g, 0, none⟩) n n) (.int .i64 (n : Nat)) (.slice (some ⟨gS, 0, none⟩) n n)) (fun a wr => low (fun f => EvRel w gS g3 n G f (a.tmps.getD 4 undef) a.defers wr)) ?_ ?_
  · exact ⟨_, _, _, _, _, _, _, ⟨_, true, g3 + 1, rfl, HM.out.1, by omega, Marks.nil _ _, Fl.start_down G n (by omega), fun S' h => h, rfl⟩, rfl⟩
  · rintro a wr ⟨f0, u4, u13, u14, u15, u36, ds, hf0, rfl⟩
    obtain ⟨hq, _⟩ := HLow.out (fun f => EvRel w gS g3 n G f u4 ds wr) f0 hf0
    have HMu := hid (fun (u : Value) (d : List Deferred) (w' : World) (f' : Nat) (h1 : EvRel w gS g3 n G f' u d w') (h2 : f' < low fun f => EvRel w gS g3 n G f u4 ds wr) => Nat.lt_of_le_of_lt (HLow.out (fun f => EvRel w gS g3 n G f u d w') f' h1).2 h2)
    clear hf0
    show Code.wpIn _ _ _ _ (Exit.then (fun a' w' => _ ∧ _ < low fun f => EvRel w gS g3 n G f u4 ds wr) _) _ _
    generalize (low fun f => EvRel w gS g3 n G f u4 ds wr) = m0 at *
    obtain ⟨S, ch, g4, rfl, hM, h34, hMk, hD, hSw, hm0⟩ := hq
    have HMm := hid hM
    have HMk := hid hMk
    have HD := hid hD
    have HSw := hid hSw
    have HF := hid hm0
    clear hM hMk hD hSw hm0
    cases ch
    · have cq := HMm.out.chg.cell 0
      simp only [List.getElem?_toArray, List.getElem?_cons_zero] at cq
      have cb := HMm.out.box.cell 0
      simp only [List.getElem?_toArray, List.getElem?_cons_zero] at cb
      gi_wp2
      obtain ⟨bs, rfl, hbn, hbd⟩ := HMk.out
      refine leaves_marks (B := w.heap.size) bs wr hbn hbd (fun w3 hb3 hsz hk3 => ?_)
      have hK : Kept (fun k => ∃ D, wr.heap[k]? = some (Obj.deferred D)) wr w3 := ⟨hb3.os, hb3.tape, hb3.output, by omega, fun k _ hF => hk3 k (fun D e => hF ⟨D, e⟩)⟩
      refine ⟨_, results_tmp rfl _ _ _, gS, S, rfl, HMm.out.sets.kept hK ?_, HSw.out S rfl, Grew.mk (HMm.out.grew.below.trans hb3)⟩
      rintro ⟨D, hD⟩
      obtain ⟨t, cs, hb⟩ := HMm.out.sets.blk
      unfold Blk at hb
      rw [hb] at hD
      cases hD
    · have cq := HMm.out.chg.cell 0
      simp only [List.getElem?_toArray, List.getElem?_cons_zero] at cq
      have cf := HMm.out.chg.frozen 0
      have h4s := HMm.out.chg.lt
      gi_wp2_with (refine ⟨trivial, ?_⟩; gi_at_call 50; refine (bk_in Fence.wide _ trivial rfl _ _ _ _).mono ?_; rintro e w' ⟨rfl, rfl⟩)
      obtain ⟨Bs, hBs⟩ : ∃ Bs, Bs = wr.heap.size := ⟨_, rfl⟩
      obtain ⟨wx, hwx⟩ : ∃ wx, wx = (wr.setCell ⟨g4, 0, none⟩ (.bool false)).alloc (.cells #[.slice (some ⟨g, 0, none⟩) n n] 37) := ⟨_, rfl⟩
      have hwb := HM.out.2.1
      have hSg := HM.out.2.2
      have hgw := (Row.lt' H.out.row).2
      have HX : Hid (EvM w gS g3 g4 n S false wx ∧ Blk wx Bs 37 #[.slice (some ⟨g, 0, none⟩) n n] ∧ wx.heap.size = Bs + 1 ∧ Marks w.heap.size ds wx) := hid (by
        have e1 := HMm.out.setCh (by omega) (by omega) (by omega) false
        have s1 : (wr.setCell ⟨g4, 0, none⟩ (.bool false)).heap.size = Bs := by rw [hBs]; simp [World.setCell]
        have b1 := Blk.new (wr.setCell ⟨g4, 0, none⟩ (.bool false)) 37 #[.slice (some ⟨g, 0, none⟩) n n]
        have g1 := (Grew.refl (wr.setCell ⟨g4, 0, none⟩ (.bool false))).alloc (.cells #[.slice (some ⟨g, 0, none⟩) n n] 37)
        have s2 : ((wr.setCell ⟨g4, 0, none⟩ (.bool false)).alloc (.cells #[.slice (some ⟨g, 0, none⟩) n n] 37)).heap.size = Bs + 1 := by rw [World.size_alloc, s1]
        rw [s1] at b1
        have mk1 : Marks w.heap.size ds (wr.setCell ⟨g4, 0, none⟩ (.bool false)) := HMk.out.keep (fun D _ hD => (KeepsOthers.setCell wr ⟨g4, 0, none⟩ (.bool false)).same D _ hD rfl)
        rw [← hwx] at b1 g1 s2
        exact ⟨e1.grewM g1, b1, s2, mk1.keep (fun D _ hD => (g1.below.block D (Array.getElem?_eq_some_iff.1 hD).1).trans hD)⟩)
      rw [← hwx, ← hBs]
      have h4B : g4 < Bs := by rw [hBs]; exact h4s
      clear hwx hBs cq cf h4s
      refine wpIn_rangeFunc_ownG rfl (by omega) (gf := 66) (lb := #[.pointer (some ⟨Bs, 0, none⟩)]) rfl trivial (enters_of Tryz.func66 (by kernel_rfl) rfl)
        (bk_stops Fence.wide _ trivial rfl (by omega) Bs g n vs (by omega) wx (fun W hW => ?rd)) bk_t (fun W l o o' h1 h2 h3 h4 => bk_b (w := wx) W l o o' h1 h2 h3 h4) (Below.refl _ _) (fun _ => rfl)
        (EvI w wx gS g3 g4 n G S)
        (fun _ _ _ => False)
        ?own
        (fun _ _ _ _ _ hs _ _ => hs)
        ⟨⟨S, false, HX.out.1, hid (fun _ => by simp)⟩, fun _ h => h, Nat.le_refl _⟩
        ?a1 ?assign ?body ?done ?stop
      case rd =>
        refine ⟨?_, fun j hj => ?_⟩
        · rw [hW.cell (by simp only [HX.out.2.2.1]; omega), HX.out.2.1.cell]
          rfl
        · have hB : g < wx.heap.size := by rw [HX.out.2.2.1]; omega
          rw [hW.cell (p := ⟨g, j, none⟩) hB, (HX.out.1.grew.below.cell (p := ⟨g, j, none⟩) hgw)]
          obtain ⟨q, _⟩ := H.out.row.cellAt j (by rw [HV.out]; exact hj)
          rw [q]
          unfold elOf
          rw [List.getD_eq_getElem?_getD, List.getElem?_eq_getElem (by rw [HV.out]; exact hj)]
          rfl
      case own =>
        intro pre W W' row hs hg hr
        obtain ⟨⟨T, ch, hm, hi⟩, hmk, hsz⟩ := hs
        have hr' := fun r e => (hr r e).2
        refine ⟨⟨T, ch, hm.keptR hg hr' (fun r e => ?_), hi⟩, fun D hk => ?_, Nat.le_trans hsz hg.size⟩
        · have := (hr r e).1
          have := HX.out.2.2.1
          omega
        · have h1 := hmk D hk
          rw [hg.block D (Array.getElem?_eq_some_iff.1 h1).1 (fun e => ?_)]
          · exact h1
          · have h2 := (hr D e.symm).1
            have h3 := (Array.getElem?_eq_some_iff.1 hk).1
            omega
      case assign =>
        intro l x W K hK
        unfold bkEnc
        gi_wp2
        exact hK
      case body =>
        rintro l pre x W ⟨⟨T, ch, hm, hi⟩, hmk, hsz⟩ hpn
        have hmx : Tryz.prog.follows .mixedOrders = true := by kernel_rfl
        have HI2 := hid (SwInv.step (x := x) hi.out)
        have hin : n - 1 - x < n := by omega
        generalize n - 1 - x = i at *
        obtain ⟨s, hsg⟩ : ∃ s, G[i]? = some s := ⟨_, List.getElem?_eq_getElem (by rw [HGL.out]; exact hin)⟩
        obtain ⟨As, ks, hvs, hNs⟩ := H.out.each i s hsg
        rw [show elOf vs i = .slice As s.length ks by unfold elOf; rw [List.getD_eq_getElem?_getD, hvs]; rfl]
        have HMw := hid hm
        have HN := hid (show NumsAt .i64 W W.heap.size As s from (RowN.grew hNs hm.grew).nums)
        have hss := HS.out s (List.mem_of_getElem? hsg)
        have hs2 := HS2.out s (List.mem_of_getElem? hsg)
        have HBC := hid (fun w' (hg : Grew W w') => behind_c w.heap.size gS n T As ks s w' (HMw.out.sets.grew hg) (HN.out.grew hg) hss hs2)
        have HO := hid (Fl.behind_ok HMw.out.sets.oks s)
        have HWC := hid (fun w' => with_c (Fl.behind T s) i w' HO.out (by omega))
        have HE : Hid (Fl.newAt G T i = Fl.put (Fl.behind T s) i) := hid (by
          unfold Fl.newAt
          rw [show G.getD i [] = s by rw [List.getD_eq_getElem?_getD, hsg]; rfl])
        have HOk := hid (Fl.newAt_ok (g := G) HMw.out.sets.oks i)
        rw [← HE.out] at HWC
        have HMK := hid hmk
        have HI := hid hi
        have cb := HMw.out.box.cell 0
        simp only [List.getElem?_toArray, List.getElem?_cons_zero] at cb
        have f1 : (i : Int) < n := by omega
        clear hm hi hmk hvs hNs hsg hss HE
        obtain ⟨m, em⟩ : ∃ m, m = s.length := ⟨_, rfl⟩
        rw [← em] at HBC hs2 ⊢
        clear em
        refine wpIn_block ?_
        refine wpIn_seq ?_
        refine region_list_round (by kernel_rfl) ?_
        go_wp2_with fail
        refine (Calls.after (Grew.refl _) (HBC.out _ (Grew.refl _))).mono ?_
        rintro e w3 ⟨rfl, y3, rfl⟩
        go_wp2_with fail
        refine (Calls.after y3.grew (HWC.out _)).mono ?_
        rintro e w4 ⟨rfl, y4, rfl⟩
        go_wp2_with (refine wpList_storeN _ _ rfl rfl (Fl.newAt G T i) rfl rfl HOk.out.1 ?_)
        show Code.wpIn _ _ _ (Code.seq _ _) _ _ _
        obtain ⟨g7, hg7⟩ : ∃ g7, g7 = y4.w.heap.size := ⟨_, rfl⟩
        obtain ⟨W8, hW8⟩ : ∃ W8, W8 = y4.w.alloc (.cells (setCs (Fl.newAt G T i)) 66) := ⟨_, rfl⟩
        have hgW : Grew W W8 := by rw [hW8]; exact y4.grew.alloc _
        have HB7 : Hid (Blk W8 g7 66 (setCs (Fl.newAt G T i))) := hid (by rw [hW8, hg7]; exact Blk.new _ _ _)
        have HM8 := hid (HMw.out.grewM hgW)
        have h7 : W.heap.size ≤ g7 := by rw [hg7]; exact y4.grew.below.size
        have HKf := hid hgW
        have hWB : Bs < W.heap.size := by have := HX.out.2.2.1; omega
        rw [← hW8, ← hg7]
        clear hW8 hg7 hgW cb HBC HWC HN
        have c4 := HM8.out.chg.cell 0
        simp only [List.getElem?_toArray, List.getElem?_cons_zero] at c4
        have k4 := HM8.out.chg.frozen 0
        have c3 := HM8.out.box.cell 0
        simp only [List.getElem?_toArray, List.getElem?_cons_zero] at c3
        have HR := hid (HM8.out.sets.range i hin)
        have HTh := hid (HM8.out.sets.there i hin)
        have HLo := hid (HMw.out.sets.oks.at i).1
        refine wpIn_seq ?_
        refine region_still_round 9 hmx (by kernel_rfl) (by kernel_rfl) ?_
        simp only [List.take_succ_cons, List.take_zero, List.drop_succ_cons, List.drop_zero]
        obtain ⟨old, hold⟩ : ∃ old, old = T.getD i Fl.full := ⟨_, rfl⟩
        rw [← hold] at HR HLo HI2
        clear hold
        cases ch
        · obtain ⟨d, hd⟩ : ∃ d, d = decide (Fl.newAt G T i ≠ old) := ⟨_, rfl⟩
          rw [Bool.false_or, ← hd] at HI2
          have HDd := hid hd
          clear hd
          still_step
          still_step
          refine wpStill_loadW _ rfl rfl g7 0 (Fl.newAt G T i) rfl HOk.out.1 (range_drew (range_blk HB7.out)) ?_
          still_step
          still_step
          still_step
          refine wpStill_loadW _ rfl rfl gS (i * 9) old rfl HLo.out (range_drew HR.out) ?_
          refine wpStill_neqW _ _ rfl rfl (Fl.newAt G T i) old rfl rfl HOk.out.1 HLo.out d HDd.out ?_
          still_step
          refine wpStill_nil ?_
          change wpList _ _ _ _ _ W8.drew
          go_wp2_with fail
          show Code.wpIn _ _ _ (Code.region _ _ _) _ _ _
          have HM9 := hid ((HM8.out.setCh (by omega) (by omega) (by omega) d).grewM (Grew.refl _).drew)
          have HB9 := hid ((HB7.out.far (p := ⟨g4, 0, none⟩) (show g7 ≠ g4 by omega) (.bool d)).drew)
          have HK9 : Hid (Kept (fun k => k = g4 ∨ k = gS) W (W8.setCell ⟨g4, 0, none⟩ (.bool d)).drew) := hid ((((Kept.of_grew HKf.out)).setCell (p := ⟨g4, 0, none⟩) (fun _ => .inl rfl) _).drew)
          generalize (W8.setCell ⟨g4, 0, none⟩ (.bool d)).drew = W9 at *
          have c9 := HM9.out.box.cell 0
          simp only [List.getElem?_toArray, List.getElem?_cons_zero] at c9
          have HT9 := hid (HM9.out.sets.there i hin)
          refine region_list_round (by kernel_rfl) ?_
          clear c4 c3 k4
          go_wp2_with (first | (refine wpList_loadS _ rfl rfl g7 (Fl.newAt G T i) rfl HOk.out.1 HB9.out ?_) | (refine wpList_storeM _ _ rfl rfl gS (i * 9) (Fl.newAt G T i) rfl rfl HOk.out.1 HT9.out ?_))
          have HK10 : Kept (fun k => k = g4 ∨ k = gS) W (W9.setCells gS (i * 9) (numCells .u64 (Fl.newAt G T i))) := Kept.setCells (F := fun k => k = g4 ∨ k = gS) (.inr rfl) _ _ HK9.out
          have hS10 := HM9.out.setS (by omega) (by omega) hwb hin HOk.out
          show KeepsFrom _ _ _ ∧ (BkRd _ _ _ _ _ → BkRd _ _ _ _ _) ∧ EvI _ _ _ _ _ _ _ _ _ _
          refine ⟨kf_kept HK10 ?_, fun h => h.keptF HK10 hWB (by omega) (by omega) (by omega), ⟨_, _, hS10, HI2⟩, fun D hD => ?_, Nat.le_trans hsz HK10.size⟩
          · rintro k (rfl | rfl)
            · exact ⟨_, _, HMw.out.chg⟩
            · exact HMw.out.sets.blk
          · have h1 := HMK.out D hD
            rw [HK10.block D (Array.getElem?_eq_some_iff.1 h1).1 ?_]
            · exact h1
            · rintro (rfl | rfl)
              · have h2 := HMw.out.chg
                unfold Blk at h2
                rw [h2] at h1
                cases h1
              · obtain ⟨t, cs, h2⟩ := HMw.out.sets.blk
                unfold Blk at h2
                rw [h2] at h1
                cases h1
        · rw [Bool.true_or] at HI2
          still_step
          still_step
          still_step
          still_step
          still_step
          still_step
          still_step
          still_step
          still_step
          refine wpStill_nil ?_
          change wpList _ _ _ _ _ W8.drew
          go_wp2_with fail
          show Code.wpIn _ _ _ (Code.region _ _ _) _ _ _
          have HM9 := hid ((HM8.out.setCh (by omega) (by omega) (by omega) true).grewM (Grew.refl _).drew)
          have HB9 := hid ((HB7.out.far (p := ⟨g4, 0, none⟩) (show g7 ≠ g4 by omega) (.bool true)).drew)
          have HK9 : Hid (Kept (fun k => k = g4 ∨ k = gS) W (W8.setCell ⟨g4, 0, none⟩ (.bool true)).drew) := hid ((((Kept.of_grew HKf.out)).setCell (p := ⟨g4, 0, none⟩) (fun _ => .inl rfl) _).drew)
          generalize (W8.setCell ⟨g4, 0, none⟩ (.bool true)).drew = W9 at *
          have c9 := HM9.out.box.cell 0
          simp only [List.getElem?_toArray, List.getElem?_cons_zero] at c9
          have HT9 := hid (HM9.out.sets.there i hin)
          refine region_list_round (by kernel_rfl) ?_
          clear c4 c3 k4
          go_wp2_with (first | (refine wpList_loadS _ rfl rfl g7 (Fl.newAt G T i) rfl HOk.out.1 HB9.out ?_) | (refine wpList_storeM _ _ rfl rfl gS (i * 9) (Fl.newAt G T i) rfl rfl HOk.out.1 HT9.out ?_))
          have HK10 : Kept (fun k => k = g4 ∨ k = gS) W (W9.setCells gS (i * 9) (numCells .u64 (Fl.newAt G T i))) := Kept.setCells (F := fun k => k = g4 ∨ k = gS) (.inr rfl) _ _ HK9.out
          have hS10 := HM9.out.setS (by omega) (by omega) hwb hin HOk.out
          show KeepsFrom _ _ _ ∧ (BkRd _ _ _ _ _ → BkRd _ _ _ _ _) ∧ EvI _ _ _ _ _ _ _ _ _ _
          refine ⟨kf_kept HK10 ?_, fun h => h.keptF HK10 hWB (by omega) (by omega) (by omega), ⟨_, _, hS10, HI2⟩, fun D hD => ?_, Nat.le_trans hsz HK10.size⟩
          · rintro k (rfl | rfl)
            · exact ⟨_, _, HMw.out.chg⟩
            · exact HMw.out.sets.blk
          · have h1 := HMK.out D hD
            rw [HK10.block D (Array.getElem?_eq_some_iff.1 h1).1 ?_]
            · exact h1
            · rintro (rfl | rfl)
              · have h2 := HMw.out.chg
                unfold Blk at h2
                rw [h2] at h1
                cases h1
              · obtain ⟨t, cs, h2⟩ := HMw.out.sets.blk
                unfold Blk at h2
                rw [h2] at h1
                cases h1
      case done =>
        rintro D xs W hD ⟨hc, hl⟩ ⟨⟨T, ch, hm, hi⟩, hmk, hsz⟩ hKd
        have hsw : Fl.sweepF G n S false = (T, ch) := by
          have := hi.out hc
          rw [hl, Nat.sub_self] at this
          exact this
        obtain ⟨hDT, _, hlt, _⟩ := Fl.sweepF_down HD.out (Nat.le_refl _) hsw
        have HNew : Hid (EvRel w gS g3 n G (if ch = true then Fl.wsum T + 1 else 0) (.pointer (some ⟨W.heap.size, 0, none⟩)) ({ target := .collected D, args := #[] } :: ds) (W.alloc (.cells #[.bool ch] 4)) ∧ (if ch = true then Fl.wsum T + 1 else 0) < m0) := hid (by
          have g1 := (Grew.refl W).alloc (.cells #[.bool ch] 4)
          refine ⟨⟨T, ch, W.heap.size, rfl, ⟨hm.sets.grew g1, hm.box.grew g1, Blk.new _ _ _, hm.grew.trans g1⟩, hm.box.lt, ?_, hDT, fun S' hS' => HSw.out S' ?_, rfl⟩, ?_⟩
          · refine HX.out.2.2.2.next (by have := HX.out.1.grew.below.size; exact this) hD ((g1.below.block D (Array.getElem?_eq_some_iff.1 hKd).1).trans hKd) (fun k _ hk => ?_)
            have h1 := hmk k hk
            exact (g1.below.block k (Array.getElem?_eq_some_iff.1 h1).1).trans h1
          · rw [if_pos trivial]
            cases ch
            · rw [if_neg (by decide)] at hS'
              subst hS'
              exact .done (by rw [HGL.out]; exact hsw)
            · rw [if_pos rfl] at hS'
              exact .more (by rw [HGL.out]; exact hsw) hS'
          · rw [HF.out, if_pos trivial]
            cases ch
            · rw [if_neg (by decide)]; omega
            · rw [if_pos rfl]
              have := hlt rfl rfl
              omega)
        have c4 := hm.chg.cell 0
        simp only [List.getElem?_toArray, List.getElem?_cons_zero] at c4
        clear hlt hsw hi hc hmk
        gi_wp2
        exact ⟨⟨_, _, _, _, _, _, _, HNew.out.1, rfl⟩, HMu.out _ _ _ _ HNew.out.1 HNew.out.2⟩
      case stop =>
        rintro D c pre W _ _ h _
        exact h.elim
end Go.Proofs.YtilikjfjbnabfaaGreatDoor

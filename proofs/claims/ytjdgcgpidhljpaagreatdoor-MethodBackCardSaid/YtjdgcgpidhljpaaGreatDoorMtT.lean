/- Stage 9: Decode. -/
import Derived.Test.YtjdgcgpidhljpaaGreatDoorMtS
namespace Go.Proofs.YtjdgcgpidhljpaaGreatDoor
open Go.RowKit

theorem lit_info9 : (Tryz.prog.info? 62).map (fun i => (i.zero, i.size, i.bytes)) = some (some (.agg #[.int .u8 0, .string ⟨#[]⟩]), 2, 24) := by kernel_rfl
theorem part_info9 : (Tryz.prog.info? 63).map (fun i => (i.zero, i.size, i.bytes)) = some (some (.agg #[.int .i64 0, .int .i64 0, .int .i64 0, .slice none 0 0]), 4, 48) := by kernel_rfl
theorem at_row_lt {w : World} {B : Nat} {e : TypeId} {s : Nat} {A : Option Addr} {n c : Nat} {vs : List Value} (h : Row w B e s A n c vs) (k : Nat) (hk : AtRow A k) : B ≤ k ∧ k < w.heap.size := ⟨Row.at_base h k hk, Row.at_lt h k hk⟩
theorem litsR_len : ∀ (k : Nat) (st : Pk.St), (Mt.litsR k st).1.length = k
  | 0, _ => rfl
  | k + 1, st => by
    show ((Mt.litsR k st).1 ++ [(Mt.litR (Mt.litsR k st).2).1]).length = k + 1
    rw [List.length_append, litsR_len k st]; rfl
theorem partsR_len : ∀ (k : Nat) (st : Pk.St), (Mt.partsR k st).1.length = k
  | 0, _ => rfl
  | k + 1, st => by
    show ((Mt.partsR k st).1 ++ [(Mt.partR (Mt.partsR k st).2).1]).length = k + 1
    rw [List.length_append, partsR_len k st]; rfl
theorem litsR_in : ∀ (k : Nat) (st : Pk.St), ∀ x ∈ (Mt.litsR k st).1, x.k ≤ 2 ∧ x.s.size ≤ 1024
  | 0, _, x, h => by cases h
  | k + 1, st, x, h => by
    have h' : x ∈ (Mt.litsR k st).1 ++ [(Mt.litR (Mt.litsR k st).2).1] := h
    rcases List.mem_append.1 h' with h' | h'
    · exact litsR_in k st x h'
    · rw [List.mem_singleton.1 h']
      exact litR_in _
def DecPost (w : World) (b : List Nat) (e : Ending) (w' : World) : Prop :=
  (Mt.decode b = none ∧ e = .returned (.tuple #[.agg #[.string ⟨#[]⟩, .slice none 0 0, .slice none 0 0], .iface 66 (.int .i64 2)]) ∧ Grew w w') ∨
  ∃ v : MV, Mt.decode b = some v.m ∧ e = .returned (.tuple #[.agg (mvCells v), .nilIface]) ∧ MethAt w' v ∧ Grew w w'
set_option maxRecDepth 100000 in
/-- Decode's results: a method, an error. -/
theorem res_meth (tmps : Array Value) (g : Nat) (ha : tmps.getD 2 undef = .pointer (some ⟨g, 0, none⟩)) (v : Value) (hv : tmps.getD 3 undef = v) (w : World) (c0 c1 c2 : Value) (hb : Blk w g 37 #[c0, c1, c2]) :
    (results Tryz.f13 tmps).run Tryz.prog w = .ok (.tuple #[.agg #[c0, c1, c2], v]) w := by
  have y0 : w.cell? ⟨g, 0, none⟩ = some c0 := hb.cell 0
  have y1 : w.cell? ⟨g, 1, none⟩ = some c1 := hb.cell 1
  have y2 : w.cell? ⟨g, 2, none⟩ = some c2 := hb.cell 2
  have ha' : tmps[2]?.getD undef = .pointer (some ⟨g, 0, none⟩) := by simpa using ha
  have hv' : tmps[3]?.getD undef = v := by simpa using hv
  simp [results, Tryz.results13, go_sem, *]
theorem Blk.put3 {w : World} {g : Nat} {t : TypeId} {a0 a1 a2 : Value} (h : Blk w g t #[a0, a1, a2]) (c0 c1 c2 : Value) :
    Blk (((w.setCell ⟨g, 0, none⟩ c0).setCell ⟨g, 1, none⟩ c1).setCell ⟨g, 2, none⟩ c2) g t #[c0, c1, c2] := by
  have := ((h.put 0 c0).put 1 c1).put 2 c2
  simpa using this
theorem kept3 {F : Nat → Prop} {w w2 : World} {g : Nat} (h : Kept F w w2) (hg : g < w.heap.size → F g) (c0 c1 c2 : Value) :
    Kept F w (((w2.setCell ⟨g, 0, none⟩ c0).setCell ⟨g, 1, none⟩ c1).setCell ⟨g, 2, none⟩ c2) :=
  ((h.setCell (p := ⟨g, 0, none⟩) hg c0).setCell (p := ⟨g, 1, none⟩) hg c1).setCell (p := ⟨g, 2, none⟩) hg c2
set_option maxRecDepth 100000 in
set_option maxHeartbeats 4000000 in
theorem decode9_c (A : Option Addr) (c : Nat) (b : List Nat) (w : World) (h : BytesAt w w.heap.size A b) (hl : b.length ≤ 140737488355328) :
    Calls Tryz.prog 13 #[.slice A b.length c] w (DecPost w b) := by
  have hg0 : Grew w (w.alloc (.cells #[.string ⟨#[]⟩, .slice none 0 0, .slice none 0 0] 37)) := (Grew.refl w).alloc _
  have hb0 := Blk.new w 37 #[.string ⟨#[]⟩, .slice none 0 0, .slice none 0 0]
  have HRead := hid (read_c A c b _ (h.grew hg0) hl)
  obtain ⟨H, hH⟩ : ∃ H, H = w.heap.size := ⟨_, rfl⟩
  have HH := hid hH
  rw [← hH] at hb0
  have HG0 := hid hg0
  have HB0 := hid hb0
  have HD := hid (show Mt.decode b = if (Mt.dec (some b)).2 = some [] then some (Mt.dec (some b)).1 else none from rfl)
  have HDe := hid (show Mt.dec (some b) = (⟨Pk.strB (Pk.text (some b) 1024).1, (Mt.litsR (Pk.int (Pk.text (some b) 1024).2 0 64).1.toNat (Pk.int (Pk.text (some b) 1024).2 0 64).2).1, (Mt.partsR (Pk.int (Mt.litsR (Pk.int (Pk.text (some b) 1024).2 0 64).1.toNat (Pk.int (Pk.text (some b) 1024).2 0 64).2).2 0 64).1.toNat (Pk.int (Mt.litsR (Pk.int (Pk.text (some b) 1024).2 0 64).1.toNat (Pk.int (Pk.text (some b) 1024).2 0 64).2).2 0 64).2).1⟩, (Mt.partsR (Pk.int (Mt.litsR (Pk.int (Pk.text (some b) 1024).2 0 64).1.toNat (Pk.int (Pk.text (some b) 1024).2 0 64).2).2 0 64).1.toNat (Pk.int (Mt.litsR (Pk.int (Pk.text (some b) 1024).2 0 64).1.toNat (Pk.int (Pk.text (some b) 1024).2 0 64).2).2 0 64).2).2) from rfl)
  generalize Mt.dec (some b) = DD at *
  have HT := hid (fun (lo g : Nat) (w' : World) (h' : RdAt w' lo g (some b)) => rtext_c lo g (some b) 1024 w' h')
  have HTi := hid (text_in (st := some b) (m := 1024)).1
  rw [show ((1024 : Nat) : Int) = 1024 from rfl] at HTi
  generalize Pk.text (some b) 1024 = T at *
  obtain ⟨ts, st1⟩ := T
  simp only at HDe HT HTi
  have HI := hid (fun (lo g : Nat) (w' : World) (h' : RdAt w' lo g st1) => rint_c lo g st1 0 64 w' h')
  have hNi := int_in (st := st1) (a := 0) (b := 64) (by decide) (by decide)
  generalize Pk.int st1 0 64 = N at *
  obtain ⟨nn, st2⟩ := N
  simp only at HDe HI hNi
  obtain ⟨n, rfl⟩ : ∃ n : Nat, nn = n := ⟨nn.toNat, by omega⟩
  rw [Int.toNat_natCast] at HDe
  generalize b.length = bl at *
  clear h hl hg0 hb0 hH
  go_enter Tryz.func13, Tryz.ntmps13
  go_wp2_with fail
  rw [← HH.out]
  generalize w.alloc (.cells #[.string ⟨#[]⟩, .slice none 0 0, .slice none 0 0] 37) = W1 at *
  refine HRead.out.mono ?_
  rintro e w2 ⟨g, rfl, hg1, hr2, hgr2⟩
  obtain ⟨lo, hlo⟩ : ∃ lo, lo = W1.heap.size := ⟨_, rfl⟩
  have HLo := hid hlo
  rw [← hlo] at hr2 hg1
  have hHl : H < lo := by rw [hlo]; exact HB0.out.lt
  have HR2 := hid hr2
  have HB2 := hid (HB0.out.grew hgr2)
  have HG2 := hid (HG0.out.trans hgr2)
  clear hr2 hgr2 HRead hlo
  go_wp2_with fail
  refine (HT.out _ _ _ HR2.out).mono ?_
  rintro e w3 ⟨rfl, hr3, hk3⟩
  have hr3lt := hr3.lt
  obtain ⟨M, hM⟩ : ∃ M, M = w3.heap.size := ⟨_, rfl⟩
  have HM := hid hM
  have hgM : g < M := by omega
  have hb4 := Blk.new w3 37 #[.string (Pk.strB ts), .slice none 0 0, .slice none 0 0]
  have hg4 : Grew w3 (w3.alloc (.cells #[.string (Pk.strB ts), .slice none 0 0, .slice none 0 0] 37)) := (Grew.refl w3).alloc _
  rw [← hM] at hb4
  have HR4 := hid (hr3.grew hg4 hg1)
  have HB4 := hid hb4
  have HB0 := hid ((HB2.out.kept hk3 (by omega)).grew hg4)
  have HG4 : Hid (Grew w (w3.alloc (.cells #[.string (Pk.strB ts), .slice none 0 0, .slice none 0 0] 37))) := hid ((hk3.grew HG2.out (fun k e => by have := HH.out; omega)).trans hg4)
  clear hr3 hk3 hb4 hg4 hM hr3lt HT HR2 HB2 HG2
  go_wp2_with fail
  rw [← HM.out]
  generalize w3.alloc (.cells #[.string (Pk.strB ts), .slice none 0 0, .slice none 0 0] 37) = w4 at *
  refine (HI.out _ _ _ HR4.out).mono ?_
  rintro e w5 ⟨rfl, hr5, hk5⟩
  have HR5 := hid hr5
  have HB5 := hid (HB4.out.kept hk5 (by omega))
  have HB05 := hid (HB0.out.kept hk5 (by omega))
  have HG5 := hid (hk5.grew HG4.out (fun k e => by have := HH.out; omega))
  have HMs : Hid (M + 1 ≤ w5.heap.size) := hid (HB4.out.kept hk5 (by omega)).lt
  clear hr5 hk5 HI HR4 HB4 HB0 HG4
  go_wp2_with fail
  have hn64 : n ≤ 64 := by omega
  clear hNi
  go_loopw [13] (fun s13 wr => ∃ (i : Nat) (A' : Option Addr) (c' : Nat), s13 = .int .i64 ((i : Nat) : Int) ∧ i ≤ n ∧ Hid (RdAt wr lo g (Mt.litsR i st2).2 ∧ Row wr (M + 1) 62 2 A' i c' ((Mt.litsR i st2).1.flatMap litF) ∧ Blk wr M 37 #[.string (Pk.strB ts), .slice A' i c', .slice none 0 0] ∧ Kept (fun k => k = g ∨ M ≤ k) w5 wr)) (fun s13 _ => n - (intOf s13).toNat)
  case atStart => exact ⟨0, none, 0, rfl, Nat.zero_le _, hid ⟨HR5.out, Row.nil _ _ _ _, HB5.out, Kept.refl _ _⟩⟩
  case round =>
    obtain ⟨i, A', c', rfl, hi, HI⟩ := hrel
    clear HR5 HB5
    by_cases hlt : i < n
    · have f1 : (i : Int) < n := by omega
      obtain ⟨hrd, hrow, hbk, hkp⟩ := HI.out
      have HX : Hid (Mt.litsR (i + 1) st2 = ((Mt.litsR i st2).1 ++ [(Mt.litR (Mt.litsR i st2).2).1], (Mt.litR (Mt.litsR i st2).2).2)) := hid rfl
      generalize Mt.litsR i st2 = L at *
      obtain ⟨ls, st⟩ := L
      simp only at hrd hrow HX
      have hA : ∀ k, AtRow A' k → M < k := fun k hk => (at_row_lt hrow k hk).1
      have hA2 : ∀ k, AtRow A' k → k < wr.heap.size := fun k hk => (at_row_lt hrow k hk).2
      have hRead := fun (w' : World) (h' : RdAt w' lo g st) => readLit_c lo g st w' h' hg1
      have hM2 : M < wr.heap.size := hbk.lt
      generalize Mt.litR st = X at *
      obtain ⟨x, st'⟩ := X
      simp only at HX hRead
      have HRead := hid hRead
      have HA := hid hA
      have HA2 := hid hA2
      have HK := hid hkp
      have HM2 := hid hM2
      have HJ0 : Hid (DJ lo g M st st' A' i c' 62 2 (ls.flatMap litF) 37 #[.string (Pk.strB ts), .slice A' i c', .slice none 0 0] (fun _ => false) wr) := hid ⟨hrd, fun _ => hrow, hbk⟩
      clear hrd hrow hbk hkp hA hA2 hRead hM2 HI
      go_wp2_with fail
      refine wp_region_facts4 (w0 := wr) _ 6 7 [15, 16, 17, 18, 19, 20, 21] [] (DF wr M g 1 A' i c' 62 2 (ls.flatMap litF) litF (fun (y : Mt.Lit) _ => y = x) (fun _ _ => False)) (DR0 g A') (DR g A') (DJ lo g M st st' A' i c' 62 2 (ls.flatMap litF) 37 #[.string (Pk.strB ts), .slice A' i c', .slice none 0 0]) (may_DR0 g A') DR.zero DR.refl (by kernel_rfl) (by kernel_rfl) (Kept.refl _ _).drew (HJ0.out.grew (Grew.refl _).drew hg1) (fun a b v w w' _ _ hab _ h hr => DF.stable hgM (fun y w w' h _ => h) a b v w w' hab h hr) ?_ ?_
      · repeat' (first | exact trivial | apply And.intro)
        all_goals
          intro a w' f hgw hJ hfi hdep hs hA
          have e5 := hs.eval 5 (by decide) (v := .pointer (some ⟨M, 0, none⟩)) rfl
          have e4 := hs.eval 4 (by decide) (v := .pointer (some ⟨g, 0, none⟩)) rfl
          have HJ := hid hJ
          have HFi := hid hfi
          have HGW := hid hgw
          clear hs hgw hJ hfi hdep
          simp only [Ahead, Region.binds, slotOf, DF, List.getD_cons_succ, List.getD_cons_zero, forall_const, and_true] at hA
          simp only [wantedD, if_true]
          unfold Oper.wp
          have ec : ∀ v, a.eval (.const v) = v := fun _ => rfl
          generalize hfe : a.eval = fe at *
          have ef : ∀ k, fe (.func k) = Act.eval ⟨#[], []⟩ (.func k) := fun k => by rw [← hfe]; rfl
          clear hfe
        · go_simp
          exact Gives3.of rfl (DR.refl 0 _) rfl (HJ.out.pure 0 (by decide))
        · have q1 := HJ.out.2.2.cell 1
          simp only [List.getElem?_toArray, List.getElem?_cons_zero, List.getElem?_cons_succ] at q1
          go_simp
          exact Gives3.of rfl (DR.refl 1 _) rfl (HJ.out.pure 1 (by decide))
        · go_simp
          exact Gives3.of rfl (DR.refl 2 _) rfl (HJ.out.pure 2 (by decide))
        · have hrd := HJ.out.1
          rw [if_neg (by rw [HFi.out]; decide)] at hrd
          have HC := hid (HRead.out w' hrd)
          clear hrd
          go_simp
          refine HC.out.mono ?_
          rintro e w3' ⟨rfl, hr3, hk3⟩
          exact Gives3.of rfl hk3 ⟨x, rfl, rfl⟩ (HJ.out.read hr3 hk3 hgM HA.out)
        · obtain ⟨y, hy, hv⟩ := hA
          subst hy
          have hnew := Blk.new w' 62 (litF y).toArray
          have hgn : Grew w' (w'.alloc (.cells (litF y).toArray 62)) := (Grew.refl w').alloc _
          have HN := hid hnew
          have HGn := hid hgn
          unfold litF at hv HN HGn
          clear hnew hgn
          go_simp
          have hsz := HGW.out.size
          exact Gives3.of rfl (Kept.of_grew HGn.out) ⟨y, w'.heap.size, rfl, rfl, HN.out, by have := HM2.out; omega, fun hk => by have := HA2.out _ hk; omega⟩ ((HJ.out.grew HGn.out hg1).pure 4 (by decide))
        · obtain ⟨h1, ⟨y, Hn, hy, hv, hbn, _, _⟩, _⟩ := hA
          subst hy
          have hown := HJ.out.2.1 HFi.out
          obtain ⟨A2, c2, w2', hrun, r1, r2, r3⟩ := run_catR (P := Tryz.prog) 34 34 62 (.agg #[.int .u8 0, .string ⟨#[]⟩]) 2 24 Tryz.underlying34 lit_info9 rfl (by decide) w' (M + 1) (by have := HGW.out.size; have := HM2.out; omega) A' i c' (ls.flatMap litF) hown (some ⟨Hn, 0, none⟩) 1 1 (litF y) rfl (by intro u hu; simp only [litF, List.mem_cons, List.not_mem_nil, or_false] at hu; rcases hu with rfl | rfl <;> rfl) (by intro e; cases e) (fun ad e j u hu => by
            cases e
            rw [show (⟨Hn, 0, none⟩ : Addr).add j = ⟨Hn, j, none⟩ by unfold Addr.add; split <;> simp_all, hbn.cell j, List.getElem?_toArray]
            exact hu) (by omega) (by omega)
          have HR1 := hid r1
          have HR2 := hid r2
          have HR3 : Hid (RowTo wr A' A2) := hid (by
            rcases r3 with r3 | ⟨q, e1, e2⟩
            · exact .inl r3
            · exact .inr ⟨q, e1, Nat.le_trans HGW.out.size e2⟩)
          clear hown hbn r1 r2 r3
          simp only [execOp, resolve, invoke, builtin, Sem.run_bind, Sem.run_pure, Result.andThen_ok, List.map_toArray, List.map_cons, List.map_nil, h1, hv, hrun]
          refine Gives3.of rfl ?_ ?_ ?_
          · exact HR2.out
          · exact ⟨y, A2, c2, rfl, rfl, HR1.out, HR3.out, fun _ h => h.elim⟩
          · exact HJ.out.app HR2.out hg1 hgM HA.out
        · go_simp
          exact Gives3.of rfl (DR.refl 6 _) rfl (HJ.out.pure 6 (by decide))
      · intro a w3' hgw hs hf hJ _
        have h5 := hf 5 (by decide)
        have h6 := hf 6 (by decide)
        simp only [slotOf, DF, List.getD_cons_succ, List.getD_cons_zero] at h5 h6
        obtain ⟨y, A2, c2, hy, ev, hrow, hto, _⟩ := h5
        subst hy
        obtain ⟨fn, rfl, hft⟩ := hs.put
        rw [hft] at ev h6
        have hbM := hJ.2.2
        have hrd := hJ.1
        rw [if_pos (by decide)] at hrd
        have q1 := hbM.cell 1
        have q2 := hbM.frozen 1
        simp only [List.getElem?_toArray, List.getElem?_cons_zero, List.getElem?_cons_succ] at q1
        have HbM := hid hbM
        have Hrd := hid hrd
        have Hrow := hid hrow
        have HGw := hid hgw
        clear hf hft hs hgw hJ hbM hrd hrow hto
        simp only [List.drop_succ_cons, List.drop_zero, putAll, List.foldl_cons, List.foldl_nil, Act.put, List.setIfInBounds_toArray, List.set_cons_succ, List.set_cons_zero, ev, h6]
        clear ev h6
        go_wp2_with fail
        have hks : Kept (· = M) w3' (w3'.setCell ⟨M, 1, none⟩ (.slice A2 (i + 1) c2)) := (Kept.refl (· = M) w3').setCell (p := ⟨M, 1, none⟩) (fun _ => rfl) _
        have hbn := HbM.out.put 1 (.slice A2 (i + 1) c2)
        simp only [List.setIfInBounds_toArray, List.set_cons_zero, List.set_cons_succ] at hbn
        have HX1 := hid (Hrd.out.kept hks (fun k _ h2 h3 => by omega) hg1)
        have HX2 := hid (Hrow.out.kept hks (fun q hq e => by have := Row.at_base Hrow.out q ⟨_, hq, rfl⟩; omega))
        have HX3 := hid hbn
        have HX4 : Hid (Kept (fun k => k = g ∨ M ≤ k) w5 (w3'.setCell ⟨M, 1, none⟩ (.slice A2 (i + 1) c2))) := hid (((HK.out.trans (HGw.out.mono (fun k _ h => by rcases h with h | h; exact .inl h; exact .inr (Nat.le_of_lt (HA.out k h)))))).trans (hks.mono (fun k _ h => .inr (by omega))))
        clear hks hbn
        go_round
        case rel => exact ⟨i + 1, A2, c2, by go_num, by omega, hid ⟨by rw [HX.out]; exact HX1.out, by rw [HX.out, List.flatMap_append]; simpa using HX2.out, HX3.out, HX4.out⟩⟩
        case measure => simp [intOf]; omega
    · have hin : i = n := by omega
      subst hin
      have HLn := hid (litsR_len i st2)
      have HLi := hid (litsR_in i st2)
      generalize Mt.litsR i st2 = L at *
      obtain ⟨ls, st3⟩ := L
      simp only at HDe HI HLn HLi
      have HIn := hid (fun (w' : World) (h' : RdAt w' lo g st3) => rint_c lo g st3 0 64 w' h')
      have hNi := int_in (st := st3) (a := 0) (b := 64) (by decide) (by decide)
      generalize Pk.int st3 0 64 = N at *
      obtain ⟨kk, st4⟩ := N
      simp only at HDe HIn hNi
      obtain ⟨k, rfl⟩ : ∃ k : Nat, kk = k := ⟨kk.toNat, by omega⟩
      rw [Int.toNat_natCast] at HDe
      have hk64 : k ≤ 64 := by omega
      clear hNi
      go_wp2_with fail
      refine (HIn.out _ HI.out.1).mono ?_
      rintro e w7 ⟨rfl, hr7, hk7⟩
      have HR7 := hid hr7
      have HRow7 := hid (HI.out.2.1.kept hk7 (fun q hq e => by have := Row.at_base HI.out.2.1 q ⟨_, hq, rfl⟩; omega))
      have HB7 := hid (HI.out.2.2.1.kept hk7 (by omega))
      have HK7 : Hid (Kept (fun k => k = g ∨ M ≤ k) w5 w7) := hid (HI.out.2.2.2.trans (hk7.mono (fun _ _ h => .inl h)))
      clear hr7 hk7 HIn HI
      go_wp2_with fail
      go_loopw [25] (fun s25 wr => ∃ (j : Nat) (A2 : Option Addr) (c2 : Nat) (pv : List PV), s25 = .int .i64 ((j : Nat) : Int) ∧ j ≤ k ∧ Hid (pv.map (·.p) = (Mt.partsR j st4).1 ∧ RdAt wr lo g (Mt.partsR j st4).2 ∧ Row wr (M + 1) 63 4 A2 j c2 (pv.flatMap pvF) ∧ Blk wr M 37 #[.string (Pk.strB ts), .slice A' i c', .slice A2 j c2] ∧ Kept (fun k => k = g ∨ M ≤ k) w5 wr ∧ Row wr (M + 1) 62 2 A' i c' (ls.flatMap litF) ∧ (∀ v ∈ pv, PvOk wr v ∧ ∀ ad, v.A = some ad → M < ad.block ∧ ¬ AtRow A2 ad.block ∧ ad.block < wr.heap.size) ∧ (∀ q, AtRow A' q → ¬ AtRow A2 q))) (fun s25 _ => k - (intOf s25).toNat)
      case atStart => exact ⟨0, none, 0, [], rfl, Nat.zero_le _, hid ⟨rfl, HR7.out, Row.nil _ _ _ _, HB7.out, HK7.out, HRow7.out, (fun v hv => by cases hv), (fun q _ h => by obtain ⟨_, e, _⟩ := h; cases e)⟩⟩
      case round =>
        obtain ⟨j, A2, c2, pv, rfl, hj, HJ⟩ := hrel
        clear HR7 HRow7 HB7 HK7
        by_cases hlt : j < k
        · have f1 : (j : Int) < k := by omega
          obtain ⟨hpm, hrd, hrow, hbk, hkp, hrow1, hels, hap⟩ := HJ.out
          have HX : Hid (Mt.partsR (j + 1) st4 = ((Mt.partsR j st4).1 ++ [(Mt.partR (Mt.partsR j st4).2).1], (Mt.partR (Mt.partsR j st4).2).2)) := hid rfl
          generalize Mt.partsR j st4 = L at *
          obtain ⟨lp, st⟩ := L
          simp only at hpm hrd HX
          have hA : ∀ k, AtRow A2 k → M < k := fun k hk => (at_row_lt hrow k hk).1
          have hA2 : ∀ k, AtRow A2 k → k < wr.heap.size := fun k hk => (at_row_lt hrow k hk).2
          have hA1 : ∀ k, AtRow A' k → M < k ∧ k < wr.heap.size := fun k hk => at_row_lt hrow1 k hk
          have hRead := fun (w' : World) (h' : RdAt w' lo g st) => readPart_c lo g st w' h' hg1
          have hM2 : M < wr.heap.size := hbk.lt
          generalize Mt.partR st = X at *
          obtain ⟨x, st'⟩ := X
          simp only at HX hRead
          have HRead := hid hRead
          have HA := hid hA
          have HA2 := hid hA2
          have HA1 := hid hA1
          have HK := hid hkp
          have HM2 := hid hM2
          have HPm := hid hpm
          have HRow1 := hid hrow1
          have HEls := hid hels
          have HAp := hid hap
          have HJ0 : Hid (DJ lo g M st st' A2 j c2 63 4 (pv.flatMap pvF) 37 #[.string (Pk.strB ts), .slice A' i c', .slice A2 j c2] (fun _ => false) wr) := hid ⟨hrd, fun _ => hrow, hbk⟩
          have HGs : Hid (∀ (y : PV) (w w' : World), (y.p = x ∧ PvOk w y ∧ (∀ ad, y.A = some ad → wr.heap.size ≤ ad.block ∧ ad.block < w.heap.size)) → DR0 g A2 w w' → (y.p = x ∧ PvOk w' y ∧ (∀ ad, y.A = some ad → wr.heap.size ≤ ad.block ∧ ad.block < w'.heap.size))) := hid (fun y w w' ⟨h1, h2, h3⟩ hr => ⟨h1, h2.kept9 hr (fun ad e hF => by
            have h4 := h3 ad e
            rcases hF with hF | hF
            · omega
            · have := hA2 _ hF; omega), fun ad e => ⟨(h3 ad e).1, Nat.lt_of_lt_of_le (h3 ad e).2 (Kept.size hr)⟩⟩)
          clear hrd hrow hbk hkp hA hA2 hA1 hRead hM2 HJ hpm hrow1 hels hap
          go_wp2_with fail
          refine wp_region_facts4 (w0 := wr) _ 6 7 [27, 28, 29, 30, 31, 32, 33] [] (DF wr M g 2 A2 j c2 63 4 (pv.flatMap pvF) pvF (fun (y : PV) w => y.p = x ∧ PvOk w y ∧ (∀ ad, y.A = some ad → wr.heap.size ≤ ad.block ∧ ad.block < w.heap.size)) (fun y q => ∃ ad, y.A = some ad ∧ ad.block = q)) (DR0 g A2) (DR g A2) (DJ lo g M st st' A2 j c2 63 4 (pv.flatMap pvF) 37 #[.string (Pk.strB ts), .slice A' i c', .slice A2 j c2]) (may_DR0 g A2) DR.zero DR.refl (by kernel_rfl) (by kernel_rfl) (Kept.refl _ _).drew (HJ0.out.grew (Grew.refl _).drew hg1) (fun a b v w w' _ _ hab _ h hr => DF.stable hgM (HGs.out) a b v w w' hab h hr) ?_ ?_
          · repeat' (first | exact trivial | apply And.intro)
            all_goals
              intro a w' f hgw hJ hfi hdep hs hA
              have e5 := hs.eval 5 (by decide) (v := .pointer (some ⟨M, 0, none⟩)) rfl
              have e4 := hs.eval 4 (by decide) (v := .pointer (some ⟨g, 0, none⟩)) rfl
              have HJ := hid hJ
              have HFi := hid hfi
              have HGW := hid hgw
              clear hs hgw hJ hfi hdep
              simp only [Ahead, Region.binds, slotOf, DF, List.getD_cons_succ, List.getD_cons_zero, forall_const, and_true] at hA
              simp only [wantedD, if_true]
              unfold Oper.wp
              have ec : ∀ v, a.eval (.const v) = v := fun _ => rfl
              generalize hfe : a.eval = fe at *
              have ef : ∀ k, fe (.func k) = Act.eval ⟨#[], []⟩ (.func k) := fun k => by rw [← hfe]; rfl
              clear hfe
            · go_simp
              exact Gives3.of rfl (DR.refl 0 _) rfl (HJ.out.pure 0 (by decide))
            · have q1 := HJ.out.2.2.cell 2
              simp only [List.getElem?_toArray, List.getElem?_cons_zero, List.getElem?_cons_succ] at q1
              go_simp
              exact Gives3.of rfl (DR.refl 1 _) rfl (HJ.out.pure 1 (by decide))
            · go_simp
              exact Gives3.of rfl (DR.refl 2 _) rfl (HJ.out.pure 2 (by decide))
            · have hrd := HJ.out.1
              rw [if_neg (by rw [HFi.out]; decide)] at hrd
              have HC := hid (HRead.out w' hrd)
              clear hrd
              go_simp
              refine HC.out.mono ?_
              rintro e w3' ⟨v, rfl, hv1, hv2, hv3, hr3, hk3⟩
              refine Gives3.of rfl ?_ ?_ ?_
              · exact hk3
              · exact ⟨v, ⟨hv1, hv2, fun ad e => ⟨Nat.le_trans HGW.out.size (hv3 ad e).1, (hv3 ad e).2⟩⟩, rfl⟩
              · exact HJ.out.read hr3 hk3 hgM HA.out
            · obtain ⟨y, hy, hv⟩ := hA
              have HY := hid hy
              have hnew := Blk.new w' 63 (pvF y).toArray
              have hgn : Grew w' (w'.alloc (.cells (pvF y).toArray 63)) := (Grew.refl w').alloc _
              have HN := hid hnew
              have HGn := hid hgn
              unfold pvF at hv HN HGn
              clear hnew hgn hy
              go_simp
              have hsz := HGW.out.size
              refine Gives3.of rfl ?_ ?_ ?_
              · exact Kept.of_grew HGn.out
              · exact ⟨y, w'.heap.size, HGs.out y _ _ HY.out (Kept.of_grew HGn.out), rfl, HN.out, by have := HM2.out; omega, fun hk => by have := HA2.out _ hk; omega⟩
              · exact (HJ.out.grew HGn.out hg1).pure 4 (by decide)
            · obtain ⟨h1, ⟨y, Hn, hy, hv, hbn, _, _⟩, _⟩ := hA
              have hown := HJ.out.2.1 HFi.out
              obtain ⟨A3, c3, w2', hrun, r1, r2, r3⟩ := run_catR (P := Tryz.prog) 35 35 63 (.agg #[.int .i64 0, .int .i64 0, .int .i64 0, .slice none 0 0]) 4 48 Tryz.underlying35 part_info9 rfl (by decide) w' (M + 1) (by have := HGW.out.size; have := HM2.out; omega) A2 j c2 (pv.flatMap pvF) hown (some ⟨Hn, 0, none⟩) 1 1 (pvF y) rfl (by intro u hu; simp only [pvF, List.mem_cons, List.not_mem_nil, or_false] at hu; rcases hu with rfl | rfl | rfl | rfl <;> rfl) (by intro e; cases e) (fun ad e j u hu => by
                cases e
                rw [show (⟨Hn, 0, none⟩ : Addr).add j = ⟨Hn, j, none⟩ by unfold Addr.add; split <;> simp_all, hbn.cell j, List.getElem?_toArray]
                exact hu) (by omega) (by omega)
              have HR1 := hid r1
              have HR2 := hid r2
              have HR3 : Hid (RowTo wr A2 A3) := hid (by
                rcases r3 with r3 | ⟨q, e1, e2⟩
                · exact .inl r3
                · exact .inr ⟨q, e1, Nat.le_trans HGW.out.size e2⟩)
              have HFar : Hid (∀ q, (∃ ad, y.A = some ad ∧ ad.block = q) → ¬ AtRow A3 q) := hid (by
                rintro q ⟨ad, e, rfl⟩ hq
                have h4 := hy.2.2 ad e
                rcases r3 with r3 | ⟨q', e1, e2⟩
                · rw [r3] at hq
                  have := HA2.out _ hq
                  omega
                · rw [e1] at hq
                  obtain ⟨ad', e3, e4⟩ := hq
                  cases e3
                  simp only at e4
                  omega)
              have HY2 := hid (HGs.out y w' w2' hy (r2.mono (fun _ _ h => .inr h)))
              clear hown hbn r1 r2 r3 hy
              simp only [execOp, resolve, invoke, builtin, Sem.run_bind, Sem.run_pure, Result.andThen_ok, List.map_toArray, List.map_cons, List.map_nil, h1, hv, hrun]
              refine Gives3.of rfl ?_ ?_ ?_
              · exact HR2.out
              · exact ⟨y, A3, c3, HY2.out, rfl, HR1.out, HR3.out, HFar.out⟩
              · exact HJ.out.app HR2.out hg1 hgM HA.out
            · go_simp
              exact Gives3.of rfl (DR.refl 6 _) rfl (HJ.out.pure 6 (by decide))
          · intro a w3' hgw hs hf hJ _
            have h5 := hf 5 (by decide)
            have h6 := hf 6 (by decide)
            simp only [slotOf, DF, List.getD_cons_succ, List.getD_cons_zero] at h5 h6
            obtain ⟨y, A3, c3, hy, ev, hrow, hto, hfar⟩ := h5
            obtain ⟨fn, rfl, hft⟩ := hs.put
            rw [hft] at ev h6
            have hbM := hJ.2.2
            have hrd := hJ.1
            rw [if_pos (by decide)] at hrd
            have q1 := hbM.cell 2
            have q2 := hbM.frozen 2
            simp only [List.getElem?_toArray, List.getElem?_cons_zero, List.getElem?_cons_succ] at q1
            have HbM := hid hbM
            have Hrd := hid hrd
            have Hrow := hid hrow
            have HGw := hid hgw
            have HY := hid hy
            have HTo := hid hto
            have HFar := hid hfar
            clear hf hft hs hgw hJ hbM hrd hrow hto hy hfar
            simp only [List.drop_succ_cons, List.drop_zero, putAll, List.foldl_cons, List.foldl_nil, Act.put, List.setIfInBounds_toArray, List.set_cons_succ, List.set_cons_zero, ev, h6]
            clear ev h6
            go_wp2_with fail
            have hks : Kept (· = M) w3' (w3'.setCell ⟨M, 2, none⟩ (.slice A3 (j + 1) c3)) := (Kept.refl (· = M) w3').setCell (p := ⟨M, 2, none⟩) (fun _ => rfl) _
            have hbn := HbM.out.put 2 (.slice A3 (j + 1) c3)
            simp only [List.setIfInBounds_toArray, List.set_cons_zero, List.set_cons_succ] at hbn
            have hall : Kept (fun k => (k = g ∨ AtRow A2 k) ∨ k = M) wr (w3'.setCell ⟨M, 2, none⟩ (.slice A3 (j + 1) c3)) := (HGw.out.mono (fun _ _ h => .inl h)).trans (hks.mono (fun _ _ h => .inr h))
            have HX1 := hid (Hrd.out.kept hks (fun k _ h2 h3 => by omega) hg1)
            have HX2 := hid (Hrow.out.kept hks (fun q hq e => by have := Row.at_base Hrow.out q ⟨_, hq, rfl⟩; omega))
            have HX3 := hid hbn
            have HX4 : Hid (Kept (fun k => k = g ∨ M ≤ k) w5 (w3'.setCell ⟨M, 2, none⟩ (.slice A3 (j + 1) c3))) := hid (HK.out.trans (hall.mono (fun k _ h => by rcases h with (h | h) | h; exact .inl h; exact .inr (Nat.le_of_lt (HA.out k h)); exact .inr (by omega))))
            have HX5 := hid (HRow1.out.kept hall (fun q hq hF => by
              have h1 := HA1.out q ⟨_, hq, rfl⟩
              rcases hF with (hF | hF) | hF
              · omega
              · exact HAp.out q ⟨_, hq, rfl⟩ hF
              · omega))
            have hsz := Kept.size hall
            have hszw : wr.heap.size ≤ w3'.heap.size := Kept.size HGw.out
            have HX6 : Hid (∀ v ∈ pv ++ [y], PvOk (w3'.setCell ⟨M, 2, none⟩ (.slice A3 (j + 1) c3)) v ∧ ∀ ad, v.A = some ad → M < ad.block ∧ ¬ AtRow A3 ad.block ∧ ad.block < (w3'.setCell ⟨M, 2, none⟩ (.slice A3 (j + 1) c3)).heap.size) := hid (fun v hv => by
              rcases List.mem_append.1 hv with hv | hv
              · obtain ⟨h1, h2⟩ := HEls.out v hv
                refine ⟨h1.kept9 hall (fun ad e hF => by
                  have h3 := h2 ad e
                  rcases hF with (hF | hF) | hF
                  · omega
                  · exact h3.2.1 hF
                  · omega), fun ad e => ?_⟩
                have h3 := h2 ad e
                refine ⟨h3.1, fun hq => ?_, by omega⟩
                rcases HTo.out with h4 | ⟨q, e1, e2⟩
                · rw [h4] at hq; exact h3.2.1 hq
                · rw [e1] at hq
                  obtain ⟨ad', e3, e4⟩ := hq
                  cases e3
                  simp only at e4
                  omega
              · rw [List.mem_singleton.1 hv]
                obtain ⟨_, h2, h3⟩ := HY.out
                have hm2 := HM2.out
                refine ⟨h2.kept9 hks (fun ad e hF => by have := h3 ad e; omega), fun ad e => ?_⟩
                have h4 := h3 ad e
                refine ⟨by omega, HFar.out _ ⟨ad, e, rfl⟩, Nat.lt_of_lt_of_le h4.2 (Kept.size hks)⟩)
            have HX7 : Hid (∀ q, AtRow A' q → ¬ AtRow A3 q) := hid (fun q hq hq3 => by
              rcases HTo.out with h4 | ⟨q', e1, e2⟩
              · rw [h4] at hq3; exact HAp.out q hq hq3
              · rw [e1] at hq3
                obtain ⟨ad', e3, e4⟩ := hq3
                cases e3
                simp only at e4
                have := (HA1.out q hq).2
                omega)
            clear hks hbn hall hsz hszw
            go_round
            case rel => exact ⟨j + 1, A3, c3, pv ++ [y], by go_num, by omega, hid ⟨by rw [HX.out, List.map_append, HPm.out]; simp [HY.out.1], by rw [HX.out]; exact HX1.out, by rw [List.flatMap_append]; simpa using HX2.out, HX3.out, HX4.out, HX5.out, HX6.out, HX7.out⟩⟩
            case measure => simp [intOf]; omega
        · have hjk : j = k := by omega
          subst hjk
          obtain ⟨hpm, hrd, hrow, hbk, hkp, hrow1, hels, hap⟩ := HJ.out
          have HPl := hid (partsR_len j st4)
          generalize Mt.partsR j st4 = L at *
          obtain ⟨lp, st5⟩ := L
          simp only at hpm hrd HDe HPl
          have HDo := hid (rdone_c lo g st5 wr hrd)
          have hdd : DD = (⟨Pk.strB ts, ls, lp⟩, st5) := HDe.out
          rw [hdd] at HD
          simp only at HD
          have hpl : pv.length = j := by rw [← HPl.out, ← hpm, List.length_map]
          have hgr : Grew w wr := hkp.grew HG5.out (fun q hq => by have := HH.out; omega)
          have hb0 := HB05.out.kept hkp (fun hq => by omega)
          have HMe : Hid (∀ wf, Kept (· = H) wr wf → MethAt wf ⟨Pk.strB ts, ls, A', c', pv, A2, c2⟩) := hid (fun wf hk => by
            refine ⟨by show (Pk.strB ts).size ≤ 2000; rw [Mt.strB_size]; have := HTi.out; omega, ?_, by show ls.length ≤ 100; have := HLn.out; omega, ?_, by show pv.length ≤ 100; omega⟩
            · exact row_lits HLn.out.symm (hrow1.kept hk (fun q hq e => by have := Row.at_base hrow1 q ⟨_, hq, rfl⟩; omega)) (fun x hx => by have := HLi.out x hx; omega)
            · refine row_parts hpl.symm (hrow.kept hk (fun q hq e => by have := Row.at_base hrow q ⟨_, hq, rfl⟩; omega)) (fun v hv => ?_)
              obtain ⟨h1, h2⟩ := hels v hv
              exact h1.kept9 hk (fun ad e hF => by have := h2 ad e; omega))
          have HLs : Hid (ls.length = i ∧ pv.length = j ∧ pv.map (·.p) = lp) := hid ⟨HLn.out, hpl, hpm⟩
          have m0 := hbk.cell 0
          have m1 := hbk.cell 1
          have m2 := hbk.cell 2
          have r0 := hb0.cell 0
          have r1 := hb0.cell 1
          have r2 := hb0.cell 2
          have k0 := hb0.frozen 0
          have k1 := hb0.frozen 1
          have k2 := hb0.frozen 2
          simp only [List.getElem?_toArray, List.getElem?_cons_zero, List.getElem?_cons_succ] at m0 m1 m2 r0 r1 r2
          have HB0' := hid hb0
          have HGr := hid hgr
          clear HJ hpm hrd hrow hbk hkp hrow1 hels hap hpl hgr hb0 hdd
          go_wp2_with fail
          refine HDo.out.mono ?_
          rintro e w8 ⟨rfl, rfl⟩
          by_cases hst : st5 = some []
          · rw [if_pos hst]
            rw [show errVal 0 = .nilIface from rfl]
            have HDs := hid (show Mt.decode b = some ⟨Pk.strB ts, ls, lp⟩ by rw [HD.out, if_pos hst])
            clear hst
            go_wp2_with fail
            refine bodyPost_ret (v := .tuple #[.agg #[.string (Pk.strB ts), .slice A' i c', .slice A2 j c2], .nilIface]) (res_meth _ H rfl _ rfl _ _ _ _ (HB0'.out.put3 _ _ _)) rfl ?_
            have hk9 := kept3 (Kept.refl (· = H) w8) (g := H) (fun _ => rfl) (.string (Pk.strB ts)) (.slice A' i c') (.slice A2 j c2)
            refine .inr ⟨⟨Pk.strB ts, ls, A', c', pv, A2, c2⟩, ?_, ?_, HMe.out _ hk9, hk9.grew HGr.out (fun q e => by have := HH.out; omega)⟩
            · rw [HDs.out, MV.m, HLs.out.2.2]
            · rw [mvCells, HLs.out.1, HLs.out.2.1]
          · rw [if_neg hst]
            rw [show errVal 2 = .iface 66 (.int .i64 2) from rfl]
            have HDs := hid (show Mt.decode b = none by rw [HD.out, if_neg hst])
            clear hst
            go_wp2_with fail
            refine bodyPost_ret (v := .tuple #[.agg #[.string ⟨#[]⟩, .slice none 0 0, .slice none 0 0], .iface 66 (.int .i64 2)]) (res_meth _ H rfl _ rfl _ _ _ _ (HB0'.out.put3 _ _ _)) rfl ?_
            have hk9 := kept3 (Kept.refl (· = H) w8) (g := H) (fun _ => rfl) (.string ⟨#[]⟩) (.slice none 0 0) (.slice none 0 0)
            exact .inl ⟨HDs.out, rfl, hk9.grew HGr.out (fun q e => by have := HH.out; omega)⟩
end Go.Proofs.YtjdgcgpidhljpaaGreatDoor

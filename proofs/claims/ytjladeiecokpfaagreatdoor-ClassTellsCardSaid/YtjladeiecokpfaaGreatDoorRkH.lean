/- Stage 10: the reference's May. -/
import Derived.Test.YtjladeiecokpfaaGreatDoorMg49
namespace Go.Proofs.YtjladeiecokpfaaGreatDoor
open Go.RowKit

/-- What each operation of May's great test gives, where all of it is asked. -/
def RmF (k nm G n i K : Nat) (A A2 : Option Addr) (cap c2 : Nat) (ad : Addr) (vm : Value) (bm : Bool) (j : Nat) (v : Value) (_ : World) : Prop := match j with
  | 0 => v = .int .i64 ((k : Nat) : Int)
  | 3 => v = .int .i64 ((k : Nat) : Int)
  | 4 => v = .slice A2 nm c2
  | 5 => v = .int .i64 ((nm : Nat) : Int)
  | 9 => v = .slice (some ⟨G, 0, none⟩) nm nm
  | 10 => v = .int .i64 ((k : Nat) : Int)
  | 11 => v = .pointer (some ⟨G, k, none⟩)
  | 12 => v = .int .i64 0
  | 16 => v = .slice A2 nm c2
  | 17 => v = .int .i64 ((k : Nat) : Int)
  | 18 => v = .pointer (some (ad.add (k * 3)))
  | 19 => v = vm
  | 20 => v = .slice A n cap
  | 21 => v = .int .i64 ((i : Nat) : Int)
  | 22 => ∃ A' c', v = .slice A' K c'
  | 23 => v = .int .i64 ((K : Nat) : Int)
  | 24 => v = .slice A n cap
  | 25 => v = .int .i64 ((n : Nat) : Int)
  | 26 => v = .bool bm
  | 27 => v = .bool (!bm)
  | 28 => v = .bool (!bm)
  | _ => v = .bool false
theorem RmF.mono {k nm G n i K : Nat} {A A2 : Option Addr} {cap c2 : Nat} {ad : Addr} {vm : Value} {bm : Bool} (j : Nat) (v : Value) (w w' : World) (h : RmF k nm G n i K A A2 cap c2 ad vm bm j v w) (_ : Grew w w') : RmF k nm G n i K A A2 cap c2 ad vm bm j v w' := h
set_option maxRecDepth 100000 in
set_option maxHeartbeats 16000000 in
theorem rmay10_c (A : Option Addr) (cap : Nat) (l : List CV) (A2 : Option Addr) (c2 : Nat) (ms : List MV) (b : Bool) (hb : b = true ↔ MayC l ms) (w : World) (h : ClsAt w A l) (h2 : MethsAt w A2 ms) :
    Calls Tryz.prog 19 #[.slice A l.length cap, .slice A2 ms.length c2] w fun e w' => e = .returned (.bool b) ∧ Grew w w' := by
  obtain ⟨n, en⟩ : ∃ n, n = l.length := ⟨_, rfl⟩
  obtain ⟨nm, em⟩ : ∃ nm, nm = ms.length := ⟨_, rfl⟩
  have HA := hid h
  have HM := hid h2
  have HB := hid hb
  have HFi := hid (rfirst_c w)
  have hn : n ≤ 100 := by rw [en]; exact h.len
  have hm : nm ≤ 100 := by rw [em]; exact h2.len
  have HNo : Hid (¬ MayC l ms → b = false) := hid (fun hh => by
    cases hbb : b
    · rfl
    · exact absurd (hb.1 hbb) hh)
  have HNm := hid (fun (c : Int) (W : World) (hW : Grew w W) => rnames_c A cap l c W (h.grew hW))
  rw [← en] at HNm
  rw [← en, ← em]
  have EN := hid en
  have EM := hid em
  clear h h2 hb en em
  by_cases h11 : 11 ≤ n
  · by_cases h64 : n ≤ 64
    · have g1 : ¬ (n : Int) < 11 := by omega
      have g2 : ¬ (64 : Int) < (n : Int) := by omega
      have g3 : ¬ (256 : Int) < (nm : Int) := by omega
      have hmk := make_ints nm (by omega)
      have HLen := hid (show 11 ≤ n ∧ n ≤ 64 from ⟨h11, h64⟩)
      clear h11 h64
      go_enter Tryz.func19, Tryz.ntmps19
      go_wp2_with fail
      refine HFi.out.mono ?_
      rintro e w1 ⟨gF, rfl, hbF, hgw, hg1⟩
      have HF := hid hbF
      have HG1 := hid hg1
      clear hbF hgw hg1 HFi
      go_wp2_with fail
      clear hmk g1 g2 g3
      generalize hw2 : w1.alloc (Obj.cells (cnts nm []).toArray 3) = w2
      have HG2 : Hid (Grew w1 w2) := hid (by rw [← hw2]; exact (Grew.refl w1).alloc _)
      have HC0 : Hid (Blk w2 w1.heap.size 3 (cnts nm []).toArray) := hid (by rw [← hw2]; exact Blk.new w1 _ _)
      have HFg : Hid (gF < w1.heap.size) := hid HF.out.lt
      have HGl : Hid (w.heap.size ≤ w1.heap.size) := hid HG1.out.below.size
      have HGw := hid (HG1.out.trans HG2.out)
      have HF2 := hid (HF.out.grew HG2.out)
      clear hw2 HF HG1 HG2
      generalize w1.heap.size = G at *
      have HGs : Hid (G < w2.heap.size) := hid HC0.out.lt
      go_loopw [6, 8, 9, 10, 11, 12, 13, 14] (fun s6 s8 _ _ _ _ _ _ wr => ∃ (i : Nat) (A' : Option Addr) (k' : Nat), s8 = .int .i64 ((i : Nat) : Int) ∧ i ≤ n ∧ s6 = .slice A' i k' ∧ Hid (Row wr w2.heap.size 9 1 A' i k' (strV (((cls l).map (·.name)).take i))) ∧ Hid (Blk wr G 3 (cnts nm (doneM (cls l) i)).toArray) ∧ Hid (Kept (fun k => k = G) w2 wr) ∧ Hid (∀ c x, c < i → (cls l)[c]? = some x → Cs.OneOk (cls l) (sels ms) (mayM ms) c x) ∧ Hid (DoneOk (doneM (cls l) i) nm)) (fun _ s8 _ _ _ _ _ _ _ => n - (intOf s8).toNat)
      case atStart => exact ⟨0, none, 0, rfl, Nat.zero_le _, rfl, hid (Row.nil _ _ _ _), hid HC0.out, hid (Kept.refl _ _), hid (fun c x hc => absurd hc (Nat.not_lt_zero _)), hid ⟨(fun x hx => by cases hx), List.nodup_nil⟩⟩
      case round =>
        clear HC0
        obtain ⟨i, A', k', rfl, hi, rfl, HR, HC, HK, HO, HD⟩ := hrel
        have HG : Hid (Grew w wr) := hid (HK.out.grew HGw.out (fun k e => by rw [e]; exact HGl.out))
        by_cases hlt : i < n
        · have f1 : (i : Int) < (n : Int) := by omega
          obtain ⟨ad, v, rfl, hv⟩ := cv_some HA.out.arg (i := i) (by rw [← EN.out]; exact hlt)
          obtain ⟨p0, p1, p2, p3, hb1, hok⟩ := cv_get HA.out.arg HG.out hv
          have HX := hid (cls_at hv)
          have hml : v.c.ms.length ≤ 100 := HA.out.fit.ms _ (HA.out.mem (List.mem_of_getElem? hv))
          have hvl : v.c.vars.length ≤ 100 := HA.out.fit.vars _ (HA.out.mem (List.mem_of_getElem? hv))
          have HNx := hid (show strV (((cls l).map (·.name)).take (i + 1)) = strV (((cls l).map (·.name)).take i) ++ [.string v.c.name] by
            rw [List.take_add_one, List.getElem?_map, HX.out]
            simp [strV])
          have HOw := hid (HA.out.arg.ok v (List.mem_of_getElem? hv))
          have HLow := hid (fun (k : Nat) (hk : AtRow A' k) => Row.at_lt HR.out k hk)
          have HHi := hid (fun (k : Nat) (hk : AtRow A' k) => Row.at_base HR.out k hk)
          clear hv hok
          go_upto_region 10 with fail
          have B1 := Blk.new wr 62 (cvCells v)
          have G1 := (Grew.refl wr).alloc (.cells (cvCells v) 62)
          have HB1 := hid B1
          have HG1 := hid (HG.out.trans G1)
          have HR1 := hid (HR.out.grew G1)
          have HC1 := hid (HC.out.grew G1)
          have HK1 := hid (HK.out.trans (Kept.of_grew G1))
          unfold cvCells at HB1 HG1 HR1 HC1 HK1
          generalize wr.alloc (Obj.cells #[.string v.c.name, .int .i64 v.c.sup, .slice v.A1 v.c.vars.length v.c1, .slice v.A2 v.c.ms.length v.c2] 62) = w5 at *
          have HGb : Hid (w2.heap.size ≤ wr.heap.size) := hid HK.out.size
          generalize wr.heap.size = gb at *
          clear p0 p1 p2 p3 hb1 B1 G1 HR HC HK HG
          have x0 := HB1.out.cell 0
          have xl := HB1.out.lt
          simp only [List.getElem?_toArray, List.getElem?_cons_zero] at x0
          go_upto_if 53 with (at_builtin; refine wpList_pushR (.string ⟨#[]⟩) 16 w5 rfl _ _ 42 9 rfl Tryz.underlying42 str_info10 rfl w2.heap.size (Nat.le_trans HGb.out (Nat.le_of_lt xl)) A' i k' _ rfl HR1.out _ rfl rfl (.string v.c.name) rfl (by omega) (by omega) ?_; rintro A8 k8 w8 hR8 hK8 hT8; have HR8 := hid hR8; have HG8 := hid (hK8.grew HG1.out (fun k hk => Nat.le_trans HGw.out.below.size (HHi.out k hk))); have HB8 := hid (HB1.out.kept hK8 (fun hk => by have := HLow.out _ hk; omega)); have HC8 := hid (HC1.out.kept hK8 (fun hk => by have h1 := HHi.out _ hk; have h2 := HGs.out; omega)); have HK8 := hid (HK1.out.next hK8 (fun k h1 h2 => by have := HHi.out k h2; omega)); clear hR8 hK8 hT8)
          clear x0 xl
          rw [← HNx.out] at HR8
          clear HR1 HC1 HK1 HB1 HG1 HNx HLow HHi
          have HGlt : Hid (gF < w8.heap.size) := hid (by have h1 := HFg.out; have h2 := HC8.out.lt; omega)
          have HF8 := hid (HF2.out.kept HK8.out (show ¬ gF = G from by have := HFg.out; omega))
          go_cut [10] from 35 to 183 (fun _ wx => Hid (HeadR (cls l) i v.c) ∧ Hid (Grew w8 wx))
          case first =>
            by_cases h11 : i < 11
            · have f2 : (i : Int) < 11 := by omega
              obtain ⟨S, hS⟩ : ∃ S : Int, S = if i = 0 then -1 else 0 := ⟨_, rfl⟩
              have q0 := HF8.out.cell i
              have ql := HGlt.out
              rw [List.getElem?_toArray, show (strV firstB)[i]? = some (.string (firstB.getD i ⟨#[]⟩)) by
                unfold strV
                rw [List.getElem?_map, List.getD_eq_getElem?_getD, List.getElem?_eq_getElem (show i < firstB.length from h11)]
                rfl] at q0
              have HHd : Hid (v.c.name = firstB.getD i ⟨#[]⟩ ∧ v.c.sup = S ∧ v.c.vars.length = 0 → HeadR (cls l) i v.c) := hid (fun hh => ⟨fun _ => by rw [← hS]; exact hh, fun h => by omega⟩)
              have HHn : Hid (¬ (v.c.name = firstB.getD i ⟨#[]⟩ ∧ v.c.sup = S ∧ v.c.vars.length = 0) → b = false) := hid (fun hh => HNo.out (fun hM => hh (by
                have := (one_head (hM.one i v.c HX.out)).1 h11
                rwa [← hS] at this)))
              generalize firstB.getD i ⟨#[]⟩ = fn at *
              have x0 := HB8.out.cell 0
              have x1 := HB8.out.cell 1
              have x2 := HB8.out.cell 2
              have xl := HB8.out.lt
              simp only [List.getElem?_toArray, List.getElem?_cons_zero, List.getElem?_cons_succ] at x0 x1 x2
              obtain ⟨⟨vn, vs, vv, vm⟩, vA1, vc1, vA2, vc2⟩ := v
              simp only at x0 x1 x2 HHd HHn ⊢
              generalize vv.length = nv at *
              generalize vm.length = mm at *
              have hz := str_beq10 vn fn
              have hS2 : (i = 0 ∧ S = -1) ∨ (0 < i ∧ S = 0) := by
                rcases Nat.eq_zero_or_pos i with h0 | h0
                · exact .inl ⟨h0, by rw [hS, if_pos h0]⟩
                · exact .inr ⟨h0, by rw [hS, if_neg (by omega)]⟩
              clear hS h11
              cases hd : decide (vn = fn) with
              | false =>
                rw [hd] at hz
                have HFa := hid (HHn.out (fun hh => of_decide_eq_false hd hh.1))
                clear hd HHd HHn
                rcases hS2 with ⟨e0, eS⟩ | ⟨e0, eS⟩
                all_goals
                  subst eS
                  first
                    | have f3 : (((i : Nat) : Int) == 0) = true := beq_iff_eq.2 (by omega)
                    | have f3 : (((i : Nat) : Int) == 0) = false := beq_eq_false_iff_ne.2 (by omega)
                  clear e0
                  go_wp2_with fail
                  refine wp_region_grew_from (Grew.refl _) (by kernel_rfl) (by kernel_rfl) ?_
                  repeat (go_big_quiet_step (fail))
                  refine wpQuiet_nil ?_
                  rintro _ ⟨y1, rfl⟩
                  have HY1 := hid y1.grew
                  go_wp2_with fail
                  go_ret
                  exact ⟨by rw [HFa.out]; rfl, HG8.out.trans HY1.out⟩
              | true =>
                rw [hd] at hz
                have hd2 := of_decide_eq_true hd
                by_cases hs : vs = S
                · have b1 : (vs == S) = true := beq_iff_eq.2 hs
                  have b2 : (vs != S) = false := by rw [bne, b1]; rfl
                  by_cases hl : nv = 0
                  · have f4 : ¬ (0 : Int) < ((nv : Nat) : Int) := by omega
                    have HHe := hid (HHd.out ⟨hd2, hs, hl⟩)
                    clear hd hd2 HHd HHn hs hl
                    rcases hS2 with ⟨e0, eS⟩ | ⟨e0, eS⟩
                    all_goals
                      subst eS
                      first
                        | have f3 : (((i : Nat) : Int) == 0) = true := beq_iff_eq.2 (by omega)
                        | have f3 : (((i : Nat) : Int) == 0) = false := beq_eq_false_iff_ne.2 (by omega)
                      clear e0
                      go_wp2_with fail
                      refine wp_region_grew_from (Grew.refl _) (by kernel_rfl) (by kernel_rfl) ?_
                      repeat (go_big_quiet_step (fail))
                      refine wpQuiet_nil ?_
                      rintro _ ⟨y1, rfl⟩
                      have HY1 := hid y1.grew
                      go_wp2_with fail
                      go_meet
                      case rel => exact ⟨HHe, HY1⟩
                  · have f4 : (0 : Int) < ((nv : Nat) : Int) := by omega
                    have HFa := hid (HHn.out (fun hh => hl hh.2.2))
                    clear hd hd2 HHd HHn hs hl
                    rcases hS2 with ⟨e0, eS⟩ | ⟨e0, eS⟩
                    all_goals
                      subst eS
                      first
                        | have f3 : (((i : Nat) : Int) == 0) = true := beq_iff_eq.2 (by omega)
                        | have f3 : (((i : Nat) : Int) == 0) = false := beq_eq_false_iff_ne.2 (by omega)
                      clear e0
                      go_wp2_with fail
                      refine wp_region_grew_from (Grew.refl _) (by kernel_rfl) (by kernel_rfl) ?_
                      repeat (go_big_quiet_step (fail))
                      refine wpQuiet_nil ?_
                      rintro _ ⟨y1, rfl⟩
                      have HY1 := hid y1.grew
                      go_wp2_with fail
                      go_ret
                      exact ⟨by rw [HFa.out]; rfl, HG8.out.trans HY1.out⟩
                · have b1 : (vs == S) = false := beq_eq_false_iff_ne.2 hs
                  have b2 : (vs != S) = true := by rw [bne, b1]; rfl
                  have HFa := hid (HHn.out (fun hh => hs hh.2.1))
                  clear hd hd2 HHd HHn hs
                  rcases hS2 with ⟨e0, eS⟩ | ⟨e0, eS⟩
                  all_goals
                    subst eS
                    first
                      | have f3 : (((i : Nat) : Int) == 0) = true := beq_iff_eq.2 (by omega)
                      | have f3 : (((i : Nat) : Int) == 0) = false := beq_eq_false_iff_ne.2 (by omega)
                    clear e0
                    go_wp2_with fail
                    refine wp_region_grew_from (Grew.refl _) (by kernel_rfl) (by kernel_rfl) ?_
                    repeat (go_big_quiet_step (fail))
                    refine wpQuiet_nil ?_
                    rintro _ ⟨y1, rfl⟩
                    have HY1 := hid y1.grew
                    go_wp2_with fail
                    go_ret
                    exact ⟨by rw [HFa.out]; rfl, HG8.out.trans HY1.out⟩
            · have f2 : ¬ (i : Int) < 11 := by omega
              have hi11 : 11 ≤ i := by omega
              obtain ⟨N, hN⟩ : ∃ N, N = Cs.names (cls l) ((i : Nat) : Int) := ⟨_, rfl⟩
              obtain ⟨K, hK⟩ : ∃ K, K = N.length := ⟨_, rfl⟩
              obtain ⟨bS, hbS⟩ : ∃ d : Bool, d = true ↔ N.Nodup := ⟨tru _, tru_iff _⟩
              have HNb := hid (names_bound HA.out.fit ((i : Nat) : Int))
              have HNi := hid (HNm.out ((i : Nat) : Int))
              rw [← hN] at HNb HNi
              have HTw := hid (fun (B : Option Addr) (d : Nat) (W : World) (hr : StrsAt W W.heap.size B N) => rtwice_c B d N bS hbS W hr (by have := HNb.out.1; omega))
              rw [← hK] at HTw
              have HHd : Hid (Cs.nameOk 65 90 v.c.name = true ∧ 0 ≤ v.c.sup ∧ v.c.sup < ((i : Nat) : Int) ∧ (v.c.sup = 0 ∨ 11 ≤ v.c.sup) ∧ K ≤ 16 ∧ bS = true → HeadR (cls l) i v.c) := hid (fun ⟨a1, a2, a3, a4, a5, a6⟩ => ⟨fun h => by omega, fun _ => ⟨a1, a2, a3, a4, by rw [← hN, ← hK]; exact a5, by rw [← hN]; exact hbS.1 a6⟩⟩)
              have HHn : Hid (¬ (Cs.nameOk 65 90 v.c.name = true ∧ 0 ≤ v.c.sup ∧ v.c.sup < ((i : Nat) : Int) ∧ (v.c.sup = 0 ∨ 11 ≤ v.c.sup) ∧ K ≤ 16 ∧ bS = true) → b = false) := hid (fun hh => HNo.out (fun hM => hh (by
                obtain ⟨a1, a2, a3, a4, a5, a6⟩ := (one_head (hM.one i v.c HX.out)).2 hi11
                rw [← hN] at a5 a6
                exact ⟨a1, a2, a3, a4, by rw [hK]; exact a5, hbS.2 a6⟩)))
              have x0 := HB8.out.cell 0
              have x1 := HB8.out.cell 1
              have xl := HB8.out.lt
              simp only [List.getElem?_toArray, List.getElem?_cons_zero, List.getElem?_cons_succ] at x0 x1
              have HKe := hid hK
              clear hN hK hbS h11 hi11
              obtain ⟨⟨vn, vs, vv, vm⟩, vA1, vc1, vA2, vc2⟩ := v
              simp only at x0 x1 HHd HHn ⊢
              generalize vv.length = nv at *
              generalize vm.length = mm at *
              have HNa := hid (rname_c vn 65 90 w8)
              generalize Cs.nameOk 65 90 vn = q at *
              cases q
              · have HFa := hid (HHn.out (fun hh => by cases hh.1))
                clear HHd HHn HTw HNi
                go_wp2_with fail
                refine HNa.out.mono ?_
                rintro e w9 ⟨rfl, rfl⟩
                go_wp2_with fail
                go_ret
                exact ⟨by rw [HFa.out]; rfl, HG8.out⟩
              · by_cases s1 : vs < 0
                · have HFa := hid (HHn.out (fun hh => by have := hh.2.1; omega))
                  clear HHd HHn HTw HNi
                  go_wp2_with fail
                  refine HNa.out.mono ?_
                  rintro e w9 ⟨rfl, rfl⟩
                  go_wp2_with fail
                  go_ret
                  exact ⟨by rw [HFa.out]; rfl, HG8.out⟩
                · by_cases s2 : ((i : Nat) : Int) ≤ vs
                  · have HFa := hid (HHn.out (fun hh => by have := hh.2.2.1; omega))
                    clear HHd HHn HTw HNi
                    go_wp2_with fail
                    refine HNa.out.mono ?_
                    rintro e w9 ⟨rfl, rfl⟩
                    go_wp2_with fail
                    go_ret
                    exact ⟨by rw [HFa.out]; rfl, HG8.out⟩
                  · by_cases s3 : 0 < vs ∧ vs < 11
                    · have HFa := hid (HHn.out (fun hh => by have := hh.2.2.2.1; omega))
                      obtain ⟨s4, s5⟩ := s3
                      clear HHd HHn HTw HNi
                      go_wp2_with fail
                      refine HNa.out.mono ?_
                      rintro e w9 ⟨rfl, rfl⟩
                      go_wp2_with fail
                      go_ret
                      exact ⟨by rw [HFa.out]; rfl, HG8.out⟩
                    · have HHd2 := hid (fun a5 a6 => HHd.out ⟨rfl, by omega, by omega, by omega, a5, a6⟩)
                      have HHn2 := hid (fun (hh : ¬ (K ≤ 16 ∧ bS = true)) => HHn.out (fun ha => hh ⟨ha.2.2.2.2.1, ha.2.2.2.2.2⟩))
                      clear HHd HHn
                      rcases (show vs = 0 ∨ 11 ≤ vs by omega) with s4 | s4
                      all_goals
                        first
                          | have s5 : ¬ (0 : Int) < vs := by omega
                          | (have s5 : (0 : Int) < vs := by omega
                             have s6 : ¬ vs < (11 : Int) := by omega)
                        clear s3 s4
                        by_cases k16 : K ≤ 16
                        · have f5 : ¬ (16 : Int) < ((K : Nat) : Int) := by omega
                          cases bS
                          · have HFa := hid (HHn2.out (fun hh => by cases hh.2))
                            clear HHd2 HHn2
                            go_wp2_with fail
                            refine HNa.out.mono ?_
                            rintro e w9 ⟨rfl, rfl⟩
                            go_wp2_with fail
                            refine (HNi.out _ HG8.out).mono ?_
                            rintro e wa ⟨A3, k3, rfl, -, hga⟩
                            have HGa := hid (HG8.out.trans hga)
                            clear hga x0 x1
                            rw [← HKe.out]
                            go_wp2_with fail
                            refine (HNi.out _ HGa.out).mono ?_
                            rintro e wb ⟨A4, k4, rfl, hrb, hgb⟩
                            have HGb2 := hid (HGa.out.trans hgb)
                            have HTb := hid (HTw.out A4 k4 wb (row_strs hrb rfl))
                            clear hgb hrb
                            rw [← HKe.out]
                            go_wp2_with fail
                            refine HTb.out.mono ?_
                            rintro e wc ⟨rfl, hgc⟩
                            have HGc := hid (HGb2.out.trans hgc)
                            clear hgc
                            go_wp2_with fail
                            go_ret
                            exact ⟨by rw [HFa.out]; rfl, HGc.out⟩
                          · have HHe := hid (HHd2.out k16 rfl)
                            clear HHd2 HHn2
                            go_wp2_with fail
                            refine HNa.out.mono ?_
                            rintro e w9 ⟨rfl, rfl⟩
                            go_wp2_with fail
                            refine (HNi.out _ HG8.out).mono ?_
                            rintro e wa ⟨A3, k3, rfl, -, hga⟩
                            have HGa := hid hga
                            clear hga x0 x1
                            rw [← HKe.out]
                            go_wp2_with fail
                            refine (HNi.out _ (HG8.out.trans HGa.out)).mono ?_
                            rintro e wb ⟨A4, k4, rfl, hrb, hgb⟩
                            have HGb2 := hid (HGa.out.trans hgb)
                            have HTb := hid (HTw.out A4 k4 wb (row_strs hrb rfl))
                            clear hgb hrb
                            rw [← HKe.out]
                            go_wp2_with fail
                            refine HTb.out.mono ?_
                            rintro e wc ⟨rfl, hgc⟩
                            have HGc := hid (HGb2.out.trans hgc)
                            clear hgc
                            go_wp2_with fail
                            go_meet
                            case rel => exact ⟨HHe, HGc⟩
                        · have f5 : (16 : Int) < ((K : Nat) : Int) := by omega
                          have HFa := hid (HHn2.out (fun hh => k16 hh.1))
                          clear HHd2 HHn2
                          go_wp2_with fail
                          refine HNa.out.mono ?_
                          rintro e w9 ⟨rfl, rfl⟩
                          go_wp2_with fail
                          refine (HNi.out _ HG8.out).mono ?_
                          rintro e wa ⟨A3, k3, rfl, -, hga⟩
                          have HGa := hid (HG8.out.trans hga)
                          clear hga x0 x1
                          rw [← HKe.out]
                          go_wp2_with fail
                          go_ret
                          exact ⟨by rw [HFa.out]; rfl, HGa.out⟩
          case rest =>
            obtain ⟨HHd, HG9⟩ := hcut
            have HGw9 := hid (HG8.out.trans HG9.out)
            have HB9 := hid (HB8.out.grew HG9.out)
            have HC9 := hid (HC8.out.grew HG9.out)
            have HR9 := hid (HR8.out.grew HG9.out)
            have HK9 := hid (HK8.out.trans (Kept.of_grew HG9.out))
            have HNe : Hid (¬ gb = G) := hid (by have h1 := HGb.out; have h2 := HGs.out; omega)
            have HGc : Hid (G < wc.heap.size) := hid HC9.out.lt
            clear HG9 HB8 HC8 HR8 HK8 HG8 HF8 HGlt HGb
            obtain ⟨nv, env⟩ : ∃ nv, nv = v.c.vars.length := ⟨_, rfl⟩
            obtain ⟨mm, emm⟩ : ∃ mm, mm = v.c.ms.length := ⟨_, rfl⟩
            rw [← env, ← emm] at HB9
            rw [← env] at hvl
            rw [← emm] at hml
            have ENV := hid env
            have EMM := hid emm
            clear env emm
            go_wp2_with fail
            go_loop [11] (fun s11 => ∃ j : Nat, s11 = .int .i64 ((j : Nat) : Int) ∧ j ≤ nv ∧ Hid (∀ s ∈ v.c.vars.take j, Cs.varOk s = true)) (fun s11 => nv - (intOf s11).toNat)
            case atStart => exact ⟨0, rfl, Nat.zero_le _, hid (by simp)⟩
            case round =>
              obtain ⟨j, rfl, hj, HJ⟩ := hrel
              have x2 := HB9.out.cell 2
              have xl := HB9.out.lt
              simp only [List.getElem?_toArray, List.getElem?_cons_zero, List.getElem?_cons_succ] at x2
              by_cases hjl : j < nv
              · have f2 : (j : Int) < (nv : Int) := by omega
                obtain ⟨a3, s, e3, hs, q0, hb3⟩ := str_at HOw.out.vars HGw9.out (i := j) (by rw [← ENV.out]; exact hjl)
                rw [e3] at x2
                have HV := hid (rvar_c s wc)
                have HNv : Hid (Cs.varOk s = false → b = false) := hid (fun hf => HNo.out (fun hM => by
                  have := (hM.one i v.c HX.out).vars s (List.mem_of_getElem? hs)
                  rw [hf] at this
                  cases this))
                have HJ2 : Hid (Cs.varOk s = true → ∀ y ∈ v.c.vars.take (j + 1), Cs.varOk y = true) := hid (fun hf y hy => by
                  rw [List.take_add_one, hs] at hy
                  rcases List.mem_append.1 hy with hy | hy
                  · exact HJ.out y hy
                  · have : y = s := by simpa using hy
                    rw [this]; exact hf)
                clear hs e3
                generalize Cs.varOk s = q at *
                cases q
                · have HFa := hid (HNv.out rfl)
                  clear HNv HJ2
                  go_wp2_with fail
                  refine HV.out.mono ?_
                  rintro e w9 ⟨rfl, rfl⟩
                  go_wp2_with fail
                  go_ret
                  exact ⟨by rw [HFa.out]; rfl, HGw9.out⟩
                · have HJ3 := hid (HJ2.out rfl)
                  clear HNv HJ2
                  go_wp2_with fail
                  refine HV.out.mono ?_
                  rintro e w9 ⟨rfl, rfl⟩
                  go_wp2_with fail
                  go_round
                  case rel => exact ⟨j + 1, by go_num, by omega, HJ3⟩
                  case measure => simp [intOf]; omega
              · have f2 : ¬ (j : Int) < (nv : Int) := by omega
                have HVs : Hid (∀ s ∈ v.c.vars, Cs.varOk s = true) := hid (fun s hs => HJ.out s (by rw [List.take_of_length_le (by rw [← ENV.out]; omega)]; exact hs))
                go_wp2_with fail
                clear x2 xl f2 hjl HJ
                obtain ⟨K, hK⟩ : ∃ K, K = (Cs.names (cls l) ((i : Nat) : Int)).length := ⟨_, rfl⟩
                have HKe := hid hK
                clear hK
                go_loopw [12, 13, 14] (fun s12 s13 _ wr => ∃ (j : Nat) (A9 : Option Addr) (k9 : Nat), s13 = .int .i64 ((j : Nat) : Int) ∧ j ≤ mm ∧ s12 = .slice A9 j k9 ∧ Hid (Row wr wc.heap.size 9 1 A9 j k9 (strV ((v.c.ms.take j).map (selOf (sels ms))))) ∧ Hid (Blk wr G 3 (cnts nm (doneM (cls l) i ++ v.c.ms.take j)).toArray) ∧ Hid (Kept (fun k => k = G) wc wr) ∧ Hid (∀ y ∈ v.c.ms.take j, isIdx y nm = true ∧ mayM ms y.toNat ((K : Nat) : Int) ((n : Nat) : Int)) ∧ Hid (DoneOk (doneM (cls l) i ++ v.c.ms.take j) nm)) (fun _ s13 _ _ => mm - (intOf s13).toNat)
                case atStart => exact ⟨0, none, 0, rfl, Nat.zero_le _, rfl, hid (Row.nil _ _ _ _), hid (by rw [List.take_zero, List.append_nil]; exact HC9.out), hid (Kept.refl _ _), hid (by simp), hid (by rw [List.take_zero, List.append_nil]; exact HD.out)⟩
                case round =>
                  obtain ⟨j, A9, k9, rfl, hj, rfl, HRy, HCy, HKy, HJy, HDy⟩ := hrel
                  have HGy : Hid (Grew w wr) := hid (HKy.out.grew HGw9.out (fun k e => by rw [e]; exact HGl.out))
                  have HBy := hid (HB9.out.kept HKy.out HNe.out)
                  have x3 := HBy.out.cell 3
                  have xl := HBy.out.lt
                  simp only [List.getElem?_toArray, List.getElem?_cons_zero, List.getElem?_cons_succ] at x3
                  by_cases hjl : j < mm
                  · have f2 : (j : Int) < (mm : Int) := by omega
                    obtain ⟨a3, z, e3, hz, q0, hb3⟩ := int_at HOw.out.ms HGy.out (i := j) (by rw [← EMM.out]; exact hjl)
                    rw [e3] at x3
                    have HZ := hid hz
                    have HOne := hid (fun (hM : MayC l ms) => (hM.one i v.c HX.out).ms z (List.mem_of_getElem? hz))
                    clear hz e3
                    by_cases hz0 : z < 0
                    · have d1 : decide (z < 0) = true := decide_eq_true hz0
                      have HFa := hid (HNo.out (fun hM => by have := (HOne.out hM).1; omega))
                      clear HOne
                      go_wp2_with fail
                      refine wp_region_grew_from (Grew.refl _) (by kernel_rfl) (by kernel_rfl) ?_
                      repeat (go_big_quiet_step (fail))
                      refine wpQuiet_nil ?_
                      rintro _ ⟨y1, rfl⟩
                      have HY1 := hid y1.grew
                      go_wp2_with fail
                      go_ret
                      exact ⟨by rw [HFa.out]; rfl, HGy.out.trans HY1.out⟩
                    · obtain ⟨k, rfl⟩ : ∃ k : Nat, z = k := ⟨z.toNat, by omega⟩
                      by_cases hkn : nm ≤ k
                      · have d1 : decide (((k : Nat) : Int) < 0) = false := decide_eq_false (by omega)
                        have d2 : decide (((nm : Nat) : Int) ≤ ((k : Nat) : Int)) = true := decide_eq_true (by omega)
                        have HFa := hid (HNo.out (fun hM => by have := (HOne.out hM).2.1; rw [sels_len, ← EM.out] at this; omega))
                        clear HOne
                        go_wp2_with fail
                        refine wp_region_grew_from (Grew.refl _) (by kernel_rfl) (by kernel_rfl) ?_
                        repeat (go_big_quiet_step (fail))
                        refine wpQuiet_nil ?_
                        rintro _ ⟨y1, rfl⟩
                        have HY1 := hid y1.grew
                        go_wp2_with fail
                        go_ret
                        exact ⟨by rw [HFa.out]; rfl, HGy.out.trans HY1.out⟩
                      · have d1 : decide (((k : Nat) : Int) < 0) = false := decide_eq_false (by omega)
                        have d2 : decide (((nm : Nat) : Int) ≤ ((k : Nat) : Int)) = false := decide_eq_false (by omega)
                        have hki : (k : Int) < (nm : Int) := by omega
                        have hkm : k < nm := by omega
                        obtain ⟨ct, hct⟩ : ∃ ct, ct = (doneM (cls l) i ++ v.c.ms.take j).count ((k : Nat) : Int) := ⟨_, rfl⟩
                        have c0 := HCy.out.cell k
                        have cl0 := HCy.out.lt
                        rw [List.getElem?_toArray, cnts_at hkm, ← hct] at c0
                        by_cases hc0 : 0 < ct
                        · have d3 : decide ((0 : Int) < ((ct : Nat) : Int)) = true := decide_eq_true (by omega)
                          have HFa := hid (HNo.out (fun hM => may_twice hM HX.out HZ.out (by rw [← EM.out]; exact hkm) (by rw [← hct]; exact hc0)))
                          clear HOne hct
                          go_wp2_with fail
                          refine wp_region_grew_from (Grew.refl _) (by kernel_rfl) (by kernel_rfl) ?_
                          repeat (go_big_quiet_step (fail))
                          refine wpQuiet_nil ?_
                          rintro _ ⟨y1, rfl⟩
                          have HY1 := hid y1.grew
                          go_wp2_with fail
                          go_ret
                          exact ⟨by rw [HFa.out]; rfl, HGy.out.trans HY1.out⟩
                        · obtain rfl : ct = 0 := by omega
                          have HCt := hid hct.symm
                          clear hct hc0
                          rw [show ((0 : Nat) : Int) = 0 from rfl] at c0
                          obtain ⟨ad2, u, rfl, hu, r0, r1, r2, hb4, hmo⟩ := meth_at HM.out HGy.out (i := k) (by rw [← EM.out]; exact hkm)
                          obtain ⟨bm, hbm⟩ : ∃ d : Bool, d = true ↔ Mt.May u.m ((K : Nat) : Int) ((n : Nat) : Int) := ⟨tru _, tru_iff _⟩
                          have HMy := hid (fun (W : World) (hW : Grew wr W) => rmay_c u ((K : Nat) : Int) ((n : Nat) : Int) bm hbm W (hmo.grew hW))
                          have HNi := hid (fun (W : World) (hW : Grew wr W) => HNm.out ((i : Nat) : Int) W (HGy.out.trans hW))
                          unfold NamesPost at HNi
                          rw [← HKe.out] at HNi
                          have HQm := hid (fun (W : World) (hW : Grew wr W) => meth_get HM.out (HGy.out.trans hW) hu)
                          have HQc := hid (fun (W : World) (hW : Grew wr W) => show W.cell? ⟨G, k, none⟩ = some (.int .i64 0) ∧ G < W.heap.size from by
                            refine ⟨?_, Nat.lt_of_lt_of_le cl0 hW.below.size⟩
                            rw [(HCy.out.grew hW).cell k, List.getElem?_toArray, cnts_at hkm, HCt.out]
                            rfl)
                          have HMay := hid (show mayM ms ((k : Nat) : Int).toNat ((K : Nat) : Int) ((n : Nat) : Int) ↔ bm = true by
                            rw [Int.toNat_natCast, hbm]
                            unfold mayM
                            rw [hu])
                          have HU := hid hu
                          have HSel := hid (show selOf (sels ms) ((k : Nat) : Int) = u.sel by
                            unfold selOf
                            rw [Int.toNat_natCast, List.getD_eq_getElem?_getD, sels_at hu]
                            rfl)
                          unfold mvCells at HMy
                          clear r0 r1 r2 hb4 hmo hbm hu c0 cl0 d1 d2
                          go_upto_region 29 with fail
                          have hmx : Tryz.prog.follows .mixedOrders = true := by kernel_rfl
                          refine wp_region_facts (w0 := wr) wr 29 [139, 140, 141, 142, 143, 144, 145, 146, 147, 148, 149, 150, 151, 152, 153, 154, 155, 156, 157, 158, 159, 160, 161, 162, 163, 164, 165, 166, 167] [] (RmF k nm G n i K (some ad) (some ad2) cap c2 ad2 (.agg #[.string u.sel, .slice u.A1 u.lits.length u.c1, .slice u.A2 u.vs.length u.c2]) bm) hmx (by kernel_rfl) (Grew.refl _) RmF.mono ?_ ?_
                          · repeat' (first | exact trivial | apply And.intro)
                            all_goals
                              intro a w' hgw hs hA
                              have e0 := hs.eval 0 (by decide) (v := .slice (some ad) n cap) rfl
                              have e1 := hs.eval 1 (by decide) (v := .slice (some ad2) nm c2) rfl
                              have e7 := hs.eval 7 (by decide) (v := .slice (some ⟨G, 0, none⟩) nm nm) rfl
                              have e8 := hs.eval 8 (by decide) (v := .int .i64 ((i : Nat) : Int)) rfl
                              have e14 := hs.eval 14 (by decide) (v := .int .i64 ((k : Nat) : Int)) rfl
                              have HGW := hid hgw
                              obtain ⟨m0, m1, m2, ml, -⟩ := HQm.out w' hgw
                              obtain ⟨c0, cl0⟩ := HQc.out w' hgw
                              have d1 : decide (((k : Nat) : Int) < 0) = false := decide_eq_false (by omega)
                              have d2 : decide (((nm : Nat) : Int) ≤ ((k : Nat) : Int)) = false := decide_eq_false (by omega)
                              clear hs hgw
                              simp only [Ahead, Region.binds, slotOf, RmF, List.getD_cons_succ, List.getD_cons_zero, forall_const, and_true] at hA
                              simp only [wantedD, isBool, slotOf, List.getD_cons_succ, List.getD_cons_zero, hA, if_true, beq_self_eq_true]
                              unfold Oper.wp
                              have ec : ∀ v, a.eval (.const v) = v := fun _ => rfl
                              generalize hfe : a.eval = fe at *
                              have ef : ∀ k, fe (.func k) = Act.eval ⟨#[], []⟩ (.func k) := fun k => by rw [← hfe]; rfl
                              clear hfe
                              first
                                | (go_simp
                                   first
                                     | (with_reducible refine Gives.of' ?_ (Grew.refl _) ?_
                                        · rfl
                                        · rfl)
                                     | ((with_reducible refine (HNi.out _ HGW.out).mono ?_); rintro e w3 ⟨A3, c3, rfl, -, hg3⟩; exact Gives.of' rfl hg3 ⟨A3, c3, rfl⟩)
                                     | ((with_reducible refine (HMy.out _ HGW.out).mono ?_); rintro e w3 ⟨rfl, hg3⟩; exact Gives.of' rfl hg3 rfl))
                                | (obtain ⟨⟨A3, c3, h3⟩, h4⟩ := hA
                                   go_simp
                                   exact Gives.of' rfl (Grew.refl _) rfl)
                          · intro a w3 hgw hs hf _ _
                            have h28 := hf 28 (by decide)
                            simp only [slotOf, RmF, List.getD_cons_succ, List.getD_cons_zero] at h28
                            obtain ⟨fn, rfl, hft⟩ := hs.put
                            rw [hft] at h28
                            have HG3 := hid hgw
                            clear hf hft hs hgw
                            simp only [List.drop_succ_cons, List.drop_zero, wpList, putAll, List.foldl_cons, List.foldl_nil, Act.put, List.setIfInBounds_toArray, List.set_cons_succ, List.set_cons_zero, h28]
                            clear h28
                            cases bm
                            · have HFa := hid (HNo.out (fun hM => by
                                have h1 := (HOne.out hM).2.2
                                rw [← HKe.out, cls_len, ← EN.out] at h1
                                have := HMay.out.1 h1
                                cases this))
                              clear HMay
                              go_wp2_with fail
                              go_ret
                              exact ⟨by rw [HFa.out]; rfl, HGy.out.trans HG3.out⟩
                            · have HMt := hid (HMay.out.2 rfl)
                              clear HMay HMy HNi
                              have HJ2 : Hid (∀ y ∈ v.c.ms.take (j + 1), isIdx y nm = true ∧ mayM ms y.toNat ((K : Nat) : Int) ((n : Nat) : Int)) := hid (by
                                rw [List.take_add_one, HZ.out]
                                intro y hy
                                rcases List.mem_append.1 hy with hy | hy
                                · exact HJy.out y hy
                                · have e : y = ((k : Nat) : Int) := by simpa using hy
                                  rw [e]
                                  exact ⟨isIdx_iff.2 ⟨by omega, by omega⟩, HMt.out⟩)
                              have HTk : Hid (doneM (cls l) i ++ v.c.ms.take (j + 1) = (doneM (cls l) i ++ v.c.ms.take j) ++ [((k : Nat) : Int)]) := hid (by
                                rw [List.take_add_one, HZ.out, ← List.append_assoc]; rfl)
                              have HD2 : Hid (DoneOk (doneM (cls l) i ++ v.c.ms.take (j + 1)) nm) := hid (by
                                rw [HTk.out]
                                refine ⟨fun y hy => ?_, List.nodup_append.2 ⟨HDy.out.2, by simp, fun y hy z hz => ?_⟩⟩
                                · rcases List.mem_append.1 hy with hy | hy
                                  · exact HDy.out.1 y hy
                                  · rw [List.mem_singleton.1 hy]
                                    exact isIdx_iff.2 ⟨by omega, by omega⟩
                                · rw [List.mem_singleton.1 hz]
                                  rintro rfl
                                  exact List.count_eq_zero.1 HCt.out hy)
                              have HNx := hid (show strV ((v.c.ms.take (j + 1)).map (selOf (sels ms))) = strV ((v.c.ms.take j).map (selOf (sels ms))) ++ [.string u.sel] by
                                rw [List.take_add_one, HZ.out, List.map_append]
                                show strV (_ ++ [selOf (sels ms) ((k : Nat) : Int)]) = _
                                rw [HSel.out]
                                simp [strV])
                              have HC4 := hid ((HCy.out.grew HG3.out).put k (.int .i64 1))
                              rw [cnts_put hkm HCt.out, ← HTk.out] at HC4
                              obtain ⟨c0, cl0⟩ := HQc.out w3 HG3.out
                              have cf := (HCy.out.grew HG3.out).frozen k
                              have hg4 : Grew w (w3.setCell ⟨G, k, none⟩ (.int .i64 1)) := (HGy.out.trans HG3.out).setCell (p := ⟨G, k, none⟩) HGl.out _
                              have HG4 := hid hg4
                              have HR4 := hid ((HRy.out.grew HG3.out).kept (Kept.setCell (F := fun g => g = G) (Kept.refl _ w3) (p := ⟨G, k, none⟩) (fun _ => rfl) (.int .i64 1)) (fun g e hg => by have h1 := Row.at_base HRy.out g ⟨_, e, rfl⟩; have h2 := HGc.out; omega))
                              have HK4 := hid (Kept.setCell (F := fun g => g = G) (HKy.out.trans (Kept.of_grew HG3.out)) (p := ⟨G, k, none⟩) (fun _ => rfl) (.int .i64 1))
                              have HQ4 := hid (meth_get HM.out hg4 HU.out)
                              clear hg4 HRy HCy HKy HQm HQc
                              go_upto_region 32 with fail
                              generalize w3.setCell ⟨G, k, none⟩ (.int .i64 1) = w4 at *
                              clear c0 cl0 cf
                              obtain ⟨m0, -, -, ml, -⟩ := HQ4.out
                              have hsz : wc.heap.size ≤ w4.heap.size := HK4.out.size
                              go_wp2_with (at_builtin; refine wpList_pushR (.string ⟨#[]⟩) 16 w4 rfl _ _ 42 9 rfl Tryz.underlying42 str_info10 rfl wc.heap.size hsz A9 j k9 _ rfl HR4.out _ rfl rfl (.string u.sel) rfl (by omega) (by omega) ?_; rintro Az kz wz hRz hKz hTz; have HRz := hid hRz; have HCz := hid (HC4.out.kept hKz (fun hk => by have h1 := Row.at_base HR4.out _ hk; have h2 := HGc.out; omega)); have HKz := hid (HK4.out.next hKz (fun g h1 h2 => by have := Row.at_base HR4.out g h2; omega)); clear hRz hKz hTz)
                              go_round
                              case rel => exact ⟨j + 1, Az, kz, by go_num, by omega, rfl, hid (by rw [HNx.out]; exact HRz.out), HCz, HKz, HJ2, HD2⟩
                              case measure => simp [intOf]; omega
                  · have f2 : ¬ (j : Int) < (mm : Int) := by omega
                    have hin : j = mm := by omega
                    subst hin
                    have htk : v.c.ms.take j = v.c.ms := List.take_of_length_le (by rw [← EMM.out]; exact Nat.le_refl _)
                    rw [htk] at HRy HCy HJy HDy
                    obtain ⟨bS, hbS⟩ : ∃ d : Bool, d = true ↔ (v.c.ms.map (selOf (sels ms))).Nodup := ⟨tru _, tru_iff _⟩
                    have hSl : (v.c.ms.map (selOf (sels ms))).length = j := by rw [List.length_map, ← EMM.out]
                    have HT := hid (rtwice_c A9 k9 _ bS hbS wr (row_strs HRy.out hSl.symm) (by rw [hSl]; omega))
                    rw [hSl] at HT
                    have HbS := hid hbS
                    clear htk hSl hbS
                    cases bS
                    · have HFa := hid (HNo.out (fun hM => by
                        have := HbS.out.2 (one_sels (hM.one i v.c HX.out))
                        cases this))
                      clear HbS
                      go_wp2_with fail
                      refine HT.out.mono ?_
                      rintro e wz ⟨rfl, hgz⟩
                      have HGz := hid hgz
                      clear hgz
                      go_wp2_with fail
                      go_ret
                      exact ⟨by rw [HFa.out]; rfl, HGy.out.trans HGz.out⟩
                    · have HO2 : Hid (∀ c x, c < i + 1 → (cls l)[c]? = some x → Cs.OneOk (cls l) (sels ms) (mayM ms) c x) := hid (fun c x hc hcx => by
                        rcases Nat.lt_or_ge c i with h1 | h1
                        · exact HO.out c x h1 hcx
                        · obtain rfl : c = i := by omega
                          rw [HX.out] at hcx
                          obtain rfl := Option.some.inj hcx
                          exact one_of HHd.out HVs.out (fun m hm => ⟨by rw [← EM.out]; exact (HJy.out m hm).1, by rw [cls_len, ← EN.out, ← HKe.out]; exact (HJy.out m hm).2⟩) (HbS.out.1 rfl))
                      clear HbS
                      go_wp2_with fail
                      refine HT.out.mono ?_
                      rintro e wz ⟨rfl, hgz⟩
                      have HGz := hid hgz
                      clear hgz
                      go_wp2_with fail
                      go_round
                      case rel => exact ⟨i + 1, A8, k8, by go_num, by omega, rfl, hid ((HR9.out.kept HKy.out (fun g e hg => by have h1 := Row.at_base HR9.out g ⟨_, e, rfl⟩; have h2 := HGs.out; omega)).grew HGz.out), hid (by rw [doneM_next HX.out]; exact HCy.out.grew HGz.out), hid ((HK9.out.trans HKy.out).trans (Kept.of_grew HGz.out)), HO2, hid (by rw [doneM_next HX.out]; exact HDy.out)⟩
                      case measure => simp [intOf]; omega
        · have f1 : ¬ (i : Int) < (n : Int) := by omega
          have hin : i = n := by omega
          subst hin
          have hnl : ((cls l).map (·.name)).length = i := by rw [List.length_map, cls_len, ← EN.out]
          obtain ⟨bS, hbS⟩ : ∃ d : Bool, d = true ↔ ((cls l).map (·.name)).Nodup := ⟨tru _, tru_iff _⟩
          have hrow := HR.out
          rw [List.take_of_length_le (by rw [hnl]; exact Nat.le_refl _)] at hrow
          have HT := hid (rtwice_c A' k' _ bS hbS wr (row_strs hrow hnl.symm) (by rw [hnl]; omega))
          rw [hnl] at HT
          have HCt : Hid (∀ q, q < nm → ∀ x, (cnts nm (doneM (cls l) i))[q]? = some x → ¬ (doneM (cls l) i).count ((q : Nat) : Int) = 1 → b = false) := hid (fun q hq x _ hne => HNo.out (fun hM => by
            have := may_count hM (k := q) (by rw [← EM.out]; exact hq)
            rw [← EN.out] at this
            exact hne this))
          have HE := hid (show (∀ q, q < nm → (doneM (cls l) i).count ((q : Nat) : Int) = 1) → b = bS from fun hc => by
            rw [Bool.eq_iff_iff]
            constructor
            · intro hh; exact hbS.2 (HB.out.1 hh).names
            · intro hh
              refine HB.out.2 (may_all (by rw [← EN.out]; exact HLen.out) (by rw [← EM.out]; omega) (fun c x hc hx => HO.out c x (by rw [EN.out]; exact hc) hx) (hbS.1 hh) (fun k hk => ?_))
              rw [← EN.out]
              exact hc k (by rw [EM.out]; exact hk))
          clear hnl hrow hbS
          go_wp2_with fail
          go_loop [15] (fun s15 => ∃ k : Nat, s15 = .int .i64 ((k : Nat) : Int) ∧ k ≤ nm ∧ Hid (∀ q, q < k → (doneM (cls l) i).count ((q : Nat) : Int) = 1)) (fun s15 => nm - (intOf s15).toNat)
          case atStart => exact ⟨0, rfl, Nat.zero_le _, hid (fun q hq => absurd hq (Nat.not_lt_zero _))⟩
          case round =>
            obtain ⟨k, rfl, hk, HQ⟩ := hrel
            by_cases hkl : k < nm
            · have f2 : (k : Int) < (nm : Int) := by omega
              have c0 := HC.out.cell k
              have cl0 := HC.out.lt
              rw [List.getElem?_toArray, cnts_at hkl] at c0
              have HNe := hid (HCt.out k hkl _ (cnts_at hkl))
              have HQ2 : Hid ((doneM (cls l) i).count ((k : Nat) : Int) = 1 → ∀ q, q < k + 1 → (doneM (cls l) i).count ((q : Nat) : Int) = 1) := hid (fun h1 q hq => by
                rcases Nat.lt_or_ge q k with h2 | h2
                · exact HQ.out q h2
                · obtain rfl : q = k := by omega
                  exact h1)
              generalize (doneM (cls l) i).count ((k : Nat) : Int) = ct at *
              by_cases h1 : ct = 1
              · have HQ3 := hid (HQ2.out h1)
                have b1 : (((ct : Nat) : Int) == 1) = true := beq_iff_eq.2 (by omega)
                have b2 : (((ct : Nat) : Int) != 1) = false := by rw [bne, b1]; rfl
                clear HNe HQ2 h1
                go_wp2_with fail
                go_round
                case rel => exact ⟨k + 1, by go_num, by omega, HQ3⟩
                case measure => simp [intOf]; omega
              · have HFa := hid (HNe.out h1)
                have b1 : (((ct : Nat) : Int) == 1) = false := beq_eq_false_iff_ne.2 (by omega)
                have b2 : (((ct : Nat) : Int) != 1) = true := by rw [bne, b1]; rfl
                clear HNe HQ2 h1
                go_wp2_with fail
                go_ret
                exact ⟨by rw [HFa.out]; rfl, HG.out⟩
            · have f2 : ¬ (k : Int) < (nm : Int) := by omega
              have HEq := hid (HE.out (fun q hq => HQ.out q (by omega)))
              go_wp2_with fail
              refine HT.out.mono ?_
              rintro e wz ⟨rfl, hgz⟩
              have HGz := hid (HG.out.trans hgz)
              clear hgz
              go_wp2_with fail
              go_ret
              exact ⟨by rw [HEq.out]; cases bS <;> rfl, HGz.out⟩
    · have g1 : ¬ (n : Int) < 11 := by omega
      have g2 : (64 : Int) < (n : Int) := by omega
      have HFa := hid (HNo.out (fun hM => by have := hM.len.2; rw [cls_len, ← EN.out] at this; exact h64 this))
      clear h11 h64
      go_enter Tryz.func19, Tryz.ntmps19
      go_wp2_with fail
      refine HFi.out.mono ?_
      rintro e w1 ⟨gF, rfl, -, -, hg1⟩
      have HG1 := hid hg1
      clear hg1
      go_wp2_with fail
      go_ret
      exact ⟨by rw [HFa.out]; rfl, HG1.out⟩
  · have g1 : (n : Int) < 11 := by omega
    have HFa := hid (HNo.out (fun hM => by have := hM.len.1; rw [cls_len, ← EN.out] at this; exact h11 this))
    clear h11
    go_enter Tryz.func19, Tryz.ntmps19
    go_wp2_with fail
    refine HFi.out.mono ?_
    rintro e w1 ⟨gF, rfl, -, -, hg1⟩
    have HG1 := hid hg1
    clear hg1
    go_wp2_with fail
    go_ret
    exact ⟨by rw [HFa.out]; rfl, HG1.out⟩
end Go.Proofs.YtjladeiecokpfaaGreatDoor

/- Stage 10: areClasses. -/
import Derived.Test.YtjladeiecokpfaaGreatDoorCsL
namespace Go.Proofs.YtjladeiecokpfaaGreatDoor
open Go.RowKit

/-- What holds of class number c, but for its methods. -/
def RowOk (l : List Cs.Cls) (c : Nat) (x : Cs.Cls) : Prop := (11 ≤ c → NewOk x ((c : Nat) : Int)) ∧ VarsOk (Cs.names l ((c : Nat) : Int))
/-- Classes that may be, but for their methods. -/
def AreC (l : List CV) : Prop := (11 ≤ l.length ∧ l.length ≤ 64) ∧ allLike (l.take 11) firstV = true ∧ (∀ c x, (cls l)[c]? = some x → RowOk (cls l) c x) ∧ ((cls l).map (·.name)).Nodup
theorem ClsArg.take {w : World} {A : Option Addr} {l : List CV} (h : ClsArg w A l) (k : Nat) : ClsArg w A (l.take k) :=
  ⟨fun v hv => h.ok v (List.mem_of_mem_take hv), fun hl => by
    obtain ⟨ad, h1, h2, h3⟩ := h.cells (by rw [List.length_take] at hl; omega)
    refine ⟨ad, h1, h2, fun i v hi => h3 i v ?_⟩
    rw [List.getElem?_take] at hi
    split at hi
    · exact hi
    · cases hi⟩
theorem names_mem {l : List Cs.Cls} {c : Int} {s : ByteArray} (h : s ∈ Cs.names l c) : ∃ x ∈ l, s ∈ x.vars := by
  unfold Cs.names at h
  obtain ⟨i, _, hi⟩ := List.mem_flatMap.1 h
  cases hx : l[i]? with
  | none => rw [hx] at hi; cases hi
  | some x => rw [hx] at hi; exact ⟨x, List.mem_of_getElem? hx, hi⟩
theorem names_bound {l : List Cs.Cls} (h : ClsFit l) (c : Int) : (Cs.names l c).length ≤ 10000 ∧ ∀ s ∈ Cs.names l c, s.size ≤ 2000 := by
  refine ⟨?_, fun s hs => ?_⟩
  · rw [Cs.total_names]
    have h1 := Cs.total_le h.vars (Cs.chain l c)
    have h2 := Cs.chain_le l c
    have h3 := h.len
    omega
  · obtain ⟨x, hx, hv⟩ := names_mem hs
    exact h.var x hx s hv
set_option maxRecDepth 100000 in
set_option maxHeartbeats 8000000 in
theorem areClasses_c (A : Option Addr) (cap : Nat) (l : List CV) (b : Bool) (hb : b = true ↔ AreC l) (w : World) (h : ClsAt w A l) (hcap : l.length ≤ cap) :
    Calls Tryz.prog 30 #[.slice A l.length cap] w fun e w' => e = .returned (.bool b) ∧ Grew w w' := by
  obtain ⟨n, en⟩ : ∃ n, n = l.length := ⟨_, rfl⟩
  have HA := hid h
  have HB := hid hb
  have HF := hid (first_c w)
  have HW := hid (cwithin_c ((n : Nat) : Int) 11 64)
  have hn : n ≤ 100 := by rw [en]; exact h.len
  rw [← en] at hcap ⊢
  have EN := hid en
  clear h hb en
  by_cases hlen : 11 ≤ n ∧ n ≤ 64
  · have HLen := hid hlen
    rw [show (decide ((11 : Int) ≤ ((n : Nat) : Int)) && decide (((n : Nat) : Int) ≤ 64)) = true by rw [decide_eq_true (by omega), decide_eq_true (by omega)]; rfl] at HW
    obtain ⟨ad, v0, rfl, -⟩ := cv_some HA.out.arg (i := 0) (by rw [← EN.out]; omega)
    have g1 : (11 : Int) ≤ ((cap : Nat) : Int) := by omega
    have HEq := hid (fun (g : Nat) (W : World) (hW : Grew w W) (hg : Blk W g 60 ((firstC 11).set 1 (.int .i64 (-1))).toArray) => equalFunc_c (some ad) cap (l.take 11) (some ⟨g, 0, none⟩) 11 firstV W ((HA.out.grew hW).arg.take 11) (first_at hg).arg (by rw [List.length_take, ← EN.out]; show min 11 n = 11; omega) (by rw [List.length_take]; omega))
    rw [show (l.take 11).length = 11 by rw [List.length_take, ← EN.out]; omega, show firstV.length = 11 from by decide] at HEq
    clear hlen
    go_enter Tryz.func30, Tryz.ntmps30
    go_wp2_with fail
    refine HF.out.mono ?_
    rintro e w1 ⟨g, rfl, hbk, hgw, hg1⟩
    have HBk := hid hbk
    have HG1 := hid hg1
    clear hbk hgw hg1 HF
    go_wp2_with fail
    refine (HW.out _).mono ?_
    rintro e w2 ⟨rfl, rfl⟩
    go_wp2_with fail
    refine (HEq.out g _ HG1.out HBk.out).mono ?_
    rintro e w3 ⟨rfl, hg3⟩
    have HG3 := hid (HG1.out.trans hg3)
    clear hg3 g1 HEq HW
    have HLk := hid (show b = true → allLike (l.take 11) firstV = true from fun hh => (HB.out.1 hh).2.1)
    have HBr := hid (show allLike (l.take 11) firstV = true → ((∀ c x, (cls l)[c]? = some x → RowOk (cls l) c x) ∧ ((cls l).map (·.name)).Nodup) → b = true from fun h1 h2 => HB.out.2 ⟨by rw [← EN.out]; exact HLen.out, h1, h2.1, h2.2⟩)
    generalize allLike (l.take 11) firstV = lk at *
    cases lk
    · have HFa := hid (show b = false by
        cases b
        · rfl
        · exact absurd (HLk.out rfl) (by decide))
      go_wp2_with fail
      go_ret
      exact ⟨by rw [HFa.out]; rfl, HG3.out⟩
    · have HBr2 := hid (HBr.out rfl)
      clear HBr HLk
      go_wp2_with fail
      go_loopw [4, 5, 6, 25] (fun s4 _ _ s25 wr => ∃ (i : Nat) (A' : Option Addr) (k' : Nat), s25 = .int .i64 ((i : Nat) : Int) ∧ i ≤ n ∧ s4 = .slice A' i k' ∧ Hid (Row wr w.heap.size 9 1 A' i k' (strV (((cls l).map (·.name)).take i))) ∧ Grew w wr ∧ Hid (∀ c x, c < i → (cls l)[c]? = some x → RowOk (cls l) c x)) (fun _ _ _ s25 _ => n - (intOf s25).toNat)
      case atStart => exact ⟨0, none, 0, rfl, Nat.zero_le _, rfl, hid (Row.nil _ _ _ _), HG3.out, hid (fun c x hc => absurd hc (Nat.not_lt_zero _))⟩
      case round =>
        obtain ⟨i, A', k', rfl, hi, rfl, HR, hg, HO⟩ := hrel
        have HG := hid hg
        clear hg
        by_cases hlt : i < n
        · have f1 : (i : Int) < n := by omega
          obtain ⟨v, hv⟩ : ∃ v, l[i]? = some v := ⟨_, List.getElem?_eq_getElem (by rw [← EN.out]; exact hlt)⟩
          obtain ⟨p0, p1, p2, p3, hb1, -⟩ := cv_get HA.out.arg HG.out hv
          have hx := cls_at hv
          obtain ⟨bV, hbV⟩ : ∃ d : Bool, d = true ↔ VarsOk (Cs.names (cls l) ((i : Nat) : Int)) := ⟨tru _, tru_iff _⟩
          obtain ⟨bN, hbN⟩ : ∃ d : Bool, d = true ↔ NewOk v.c ((i : Nat) : Int) := ⟨tru _, tru_iff _⟩
          have HNb := hid (names_bound HA.out.fit ((i : Nat) : Int))
          have HNm := hid (fun (W : World) (hW : Grew w W) => names_c (some ad) cap l ((i : Nat) : Int) W (HA.out.grew hW))
          rw [← EN.out] at HNm
          have HIn := hid (fun (W : World) => isNew_c v i (by omega) (by have := HA.out.fit.name _ (HA.out.mem (List.mem_of_getElem? hv)); omega) bN hbN W)
          have HbV := hid (show bV = false → b = false from fun hf => by
            cases b
            · rfl
            · have := hbV.2 ((HB.out.1 rfl).2.2.1 i v.c hx).2
              rw [hf] at this; cases this)
          have HbN := hid (show 11 ≤ i → bN = false → b = false from fun h11 hf => by
            cases b
            · rfl
            · have := hbN.2 (((HB.out.1 rfl).2.2.1 i v.c hx).1 h11)
              rw [hf] at this; cases this)
          have HO2 := hid (show bV = true → (11 ≤ i → bN = true) → ∀ c x, c < i + 1 → (cls l)[c]? = some x → RowOk (cls l) c x from fun hV hN c x hc hcx => by
            rcases Nat.lt_or_ge c i with h1 | h1
            · exact HO.out c x h1 hcx
            · obtain rfl : c = i := by omega
              rw [hx] at hcx
              obtain rfl := Option.some.inj hcx
              exact ⟨fun h => hbN.1 (hN h), hbV.1 hV⟩)
          have HNx := hid (show strV (((cls l).map (·.name)).take (i + 1)) = strV (((cls l).map (·.name)).take i) ++ [.string v.c.name] by
            rw [List.take_add_one, List.getElem?_map, hx]
            simp [strV])
          have HbV2 := hid hbV
          clear hx hv hbV hbN
          go_upto_region 8 with fail
          have B1 := Blk.new wr 60 (cvCells v)
          have G1 := (Grew.refl wr).alloc (.cells (cvCells v) 60)
          have HB1 := hid B1
          have HG1b := hid (HG.out.trans G1)
          have HR1 := hid (HR.out.grew G1)
          unfold cvCells at HB1 HG1b HR1 HIn
          generalize wr.alloc (Obj.cells #[.string v.c.name, .int .i64 v.c.sup, .slice v.A1 v.c.vars.length v.c1, .slice v.A2 v.c.ms.length v.c2] 60) = w5 at *
          generalize wr.heap.size = gb at *
          clear p0 p1 p2 p3 hb1 B1 G1 HR
          by_cases h11 : 11 ≤ i
          · have f11 : (11 : Int) ≤ (i : Int) := by omega
            have x0 := HB1.out.cell 0
            have x1 := HB1.out.cell 1
            have x2 := HB1.out.cell 2
            have x3 := HB1.out.cell 3
            have xl := HB1.out.lt
            simp only [List.getElem?_toArray, List.getElem?_cons_zero, List.getElem?_cons_succ] at x0 x1 x2 x3
            go_wp2_with fail
            refine (HIn.out _).mono ?_
            rintro e w9 ⟨rfl, hg9⟩
            have HG9 := hid (HG1b.out.trans hg9)
            have HB9 := hid (HB1.out.grew hg9)
            have HR9 := hid (HR1.out.grew hg9)
            clear x0 x1 x2 x3 xl hg9
            cases bN
            · have HFa := hid (HbN.out h11 rfl)
              go_wp2_with fail
              go_ret
              exact ⟨by rw [HFa.out]; rfl, HG9.out⟩
            · skip
              go_wp2_with fail
              refine (HNm.out _ HG9.out).mono ?_
              rintro e w6 ⟨A3, k3, rfl, hr6, hg6⟩
              have HG6 := hid ((HG9.out).trans hg6)
              have HVs := hid (areVars_c A3 k3 _ bV HbV2.out w6 (row_strs hr6 rfl) (by have := HNb.out.1; omega) HNb.out.2)
              have HB6 := hid (HB9.out.grew hg6)
              have HR6 := hid (HR9.out.grew hg6)
              clear hr6 hg6
              go_wp2_with fail
              refine HVs.out.mono ?_
              rintro e w7 ⟨rfl, hg7⟩
              have HG7 := hid (HG6.out.trans hg7)
              have z0 := (HB6.out.grew hg7).cell 0
              have z1 := (HB6.out.grew hg7).lt
              simp only [List.getElem?_toArray, List.getElem?_cons_zero] at z0
              have HR7 := hid (HR6.out.grew hg7)
              clear hg7 HVs
              cases bV
              · have HFa := hid (HbV.out rfl)
                go_wp2_with fail
                go_ret
                exact ⟨by rw [HFa.out]; rfl, HG7.out⟩
              · have HOk := hid (HO2.out (by trivial) (fun _ => by trivial))
                go_wp2_with (at_builtin; refine wpList_pushR (.string ⟨#[]⟩) 16 w7 rfl _ _ 42 9 rfl Tryz.underlying42 str_info10 rfl w.heap.size HG7.out.below.size A' i k' _ rfl HR7.out _ rfl rfl (.string v.c.name) rfl (by omega) (by omega) ?_; rintro A8 k8 w8 hR8 hK8 hT8; have HR8 := hid hR8; have HG8 := hid (hK8.grew HG7.out (Row.at_base HR7.out)); clear hR8 hK8 hT8)
                go_round
                case rel => exact ⟨i + 1, A8, k8, by go_num, by omega, rfl, hid (by rw [HNx.out]; exact HR8.out), HG8.out, HOk⟩
                case measure => simp [intOf]; omega
          · have f11 : ¬ (11 : Int) ≤ (i : Int) := by omega
            skip
            go_wp2_with fail
            refine (HNm.out _ HG1b.out).mono ?_
            rintro e w6 ⟨A3, k3, rfl, hr6, hg6⟩
            have HG6 := hid ((HG1b.out).trans hg6)
            have HVs := hid (areVars_c A3 k3 _ bV HbV2.out w6 (row_strs hr6 rfl) (by have := HNb.out.1; omega) HNb.out.2)
            have HB6 := hid (HB1.out.grew hg6)
            have HR6 := hid (HR1.out.grew hg6)
            clear hr6 hg6
            go_wp2_with fail
            refine HVs.out.mono ?_
            rintro e w7 ⟨rfl, hg7⟩
            have HG7 := hid (HG6.out.trans hg7)
            have z0 := (HB6.out.grew hg7).cell 0
            have z1 := (HB6.out.grew hg7).lt
            simp only [List.getElem?_toArray, List.getElem?_cons_zero] at z0
            have HR7 := hid (HR6.out.grew hg7)
            clear hg7 HVs
            cases bV
            · have HFa := hid (HbV.out rfl)
              go_wp2_with fail
              go_ret
              exact ⟨by rw [HFa.out]; rfl, HG7.out⟩
            · have HOk := hid (HO2.out (by trivial) (fun hh => absurd hh h11))
              go_wp2_with (at_builtin; refine wpList_pushR (.string ⟨#[]⟩) 16 w7 rfl _ _ 42 9 rfl Tryz.underlying42 str_info10 rfl w.heap.size HG7.out.below.size A' i k' _ rfl HR7.out _ rfl rfl (.string v.c.name) rfl (by omega) (by omega) ?_; rintro A8 k8 w8 hR8 hK8 hT8; have HR8 := hid hR8; have HG8 := hid (hK8.grew HG7.out (Row.at_base HR7.out)); clear hR8 hK8 hT8)
              go_round
              case rel => exact ⟨i + 1, A8, k8, by go_num, by omega, rfl, hid (by rw [HNx.out]; exact HR8.out), HG8.out, HOk⟩
              case measure => simp [intOf]; omega
        · have hin : i = n := by omega
          subst hin
          have hnl : ((cls l).map (·.name)).length = i := by rw [List.length_map, cls_len, EN.out]
          obtain ⟨d, hd⟩ : ∃ d : Bool, d = true ↔ ((cls l).map (·.name)).Nodup := ⟨tru _, tru_iff _⟩
          have hrow := HR.out
          rw [List.take_of_length_le (by rw [hnl]; exact Nat.le_refl _)] at hrow
          have HD := hid (disStr_c A' k' ((cls l).map (·.name)) d hd wr (row_strs hrow hnl.symm) (by rw [hnl]; omega) (fun s hs => by
            obtain ⟨x, hx, rfl⟩ := List.mem_map.1 hs
            exact HA.out.fit.name x hx))
          rw [hnl] at HD
          have HE := hid (show b = d by
            rw [Bool.eq_iff_iff]
            constructor
            · intro hh; exact hd.2 (HB.out.1 hh).2.2.2
            · intro hh
              exact HBr2.out ⟨fun c x hx => HO.out c x (by have := (List.getElem?_eq_some_iff.1 hx).1; rw [cls_len, ← EN.out] at this; exact this) hx, hd.1 hh⟩)
          clear hnl hd hrow
          go_wp2_with fail
          refine HD.out.mono ?_
          rintro e w9 ⟨rfl, hg9⟩
          have HG9 := hid (HG.out.trans hg9)
          clear hg9
          go_wp2_with fail
          go_ret
          exact ⟨by rw [HE.out]; rfl, HG9.out⟩
  · have HFa := hid (show b = false by
      rw [← Bool.not_eq_true, HB.out]
      rintro ⟨h1, _⟩
      rw [← EN.out] at h1
      exact hlen h1)
    rw [show (decide ((11 : Int) ≤ ((n : Nat) : Int)) && decide (((n : Nat) : Int) ≤ 64)) = false by
      rw [Bool.eq_false_iff]
      intro hc
      rw [Bool.and_eq_true, decide_eq_true_iff, decide_eq_true_iff] at hc
      omega] at HW
    clear hlen
    go_enter Tryz.func30, Tryz.ntmps30
    go_wp2_with fail
    refine HF.out.mono ?_
    rintro e w1 ⟨g, rfl, hbk, hgw, hg1⟩
    have HG1 := hid hg1
    clear hbk hgw hg1 HF
    go_wp2_with fail
    refine (HW.out _).mono ?_
    rintro e w2 ⟨rfl, rfl⟩
    go_wp2_with fail
    go_ret
    exact ⟨by rw [HFa.out]; rfl, HG1.out⟩
end Go.Proofs.YtjladeiecokpfaaGreatDoor

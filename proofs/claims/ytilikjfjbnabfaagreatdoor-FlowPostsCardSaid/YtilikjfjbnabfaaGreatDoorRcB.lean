/- Stage 8: the document's own Depths. -/
import Derived.Test.YtilikjfjbnabfaaGreatDoorFlE
import Derived.Test.YtilikjfjbnabfaaGreatDoorRdOp
import Derived.Test.YtilikjfjbnabfaaGreatDoorRcA
namespace Go.Proofs.YtilikjfjbnabfaaGreatDoor
open Go.RowKit

theorem eff_bounds (o : Op7.Ins) (hb : 0 ≤ o.b ∧ o.b ≤ 65536) : 0 ≤ (Fl.effect o).1 ∧ (Fl.effect o).1 ≤ 65537 ∧ 0 ≤ (Fl.effect o).2 ∧ (Fl.effect o).2 ≤ 2 := by
  unfold Fl.effect
  split
  · decide
  · split
    · simp only; omega
    · split
      · decide
      · split <;> decide
/-- What the document's Depths answers. -/
def RDep (w : World) (b : List Nat) (e : Ending) (w' : World) : Prop :=
  (∃ k, e = .returned (.tuple #[.slice none 0 0, .int .i64 ((k : Nat) : Int)]) ∧ Fl.Bad b k ∧ Grew w w') ∨ ∃ A m c l os G D, e = .returned (.tuple #[.slice A m c, .int .i64 0]) ∧ Fl.Well b l os G D ∧ Grew w w'
/-- The document's decoded code. -/
theorem rcode {w w' : World} {b : List Nat} {A1 A2 : Option Addr} {c1 c2 : Nat} {L : List Op7.Ins} {os : List Nat} (hb : ∀ x ∈ b, x < 256) (hd : Op7.decR b = (L, os, 0)) (hI : RowI 70 w' w.heap.size A1 c1 L) (hN : RowN w' w.heap.size A2 c2 os) : CodeAt w' A1 A2 c2 L.length L os ∧ os.length = L.length ∧ ∀ o ∈ L, o.code < 21 := by
  obtain ⟨rfl, hv, hbe, h5⟩ := decR_ok hb hd
  have hll : L.length ≤ 512 := by
    have := Op7.encs_long L
    rw [← hbe] at this
    omega
  exact ⟨⟨hI.ops, Row.low hN (Nat.zero_le _), rfl, by rw [Op7.offs_len], offsF_up 0 L, hll, fun o ho => valid_fit (hv o ho)⟩, by rw [Op7.offs_len], fun o ho => (hv o ho).1⟩
/-- As far as the rounds have come. -/
def AgR (w1 : World) (gO n : Nat) (l : List Op7.Ins) (G : List (List Nat)) (f : Nat) (s : Value) (wr : World) : Prop :=
  ∃ (D : List Int) (ag : Bool), s = .bool ag ∧ RowD wr w1.heap.size gO n D ∧ (∀ i, -1 ≤ D.getD i 0 ∧ D.getD i 0 ≤ 32) ∧ Fl.Under l G D ∧ D.getD 0 0 = 0 ∧ (ag = false → ∀ i, i < n → Fl.Calm l G D i) ∧ 2 * D.count (-1) + (if ag then 1 else 0) < f ∧ f ≤ 2 * n + 2 ∧ Grew w1 wr
set_option maxRecDepth 100000 in
set_option maxHeartbeats 4000000 in
/-- The rounds: behind the graph. -/
theorem rdepths_c (A : Option Addr) (c : Nat) (bs : List Nat) (w : World) (h : BytesAt w w.heap.size A bs) (hc : bs.length ≤ c) (hl : bs.length ≤ 1000000) :
    Calls Tryz.prog 15 #[.slice A bs.length c] w (RDep w bs) := by
  have HB := hid h.1
  have HD := hid (rdecode_c A c bs w h hc hl)
  obtain ⟨low, hlow⟩ := low_ex
  have HLow := hid hlow
  clear h hc hl hlow
  generalize bs.length = n0 at *
  go_enter Tryz.func15, Tryz.ntmps15
  go_wp2_with fail
  refine HD.out.mono ?_
  rintro e w1 ⟨A1, c1, A2, c2, L, rfl, hL, hI, hN, hg1⟩
  have HG1 := hid hg1
  obtain ⟨l, os, k, hr⟩ : ∃ l os k, Op7.decR bs = (l, os, k) := ⟨_, _, _, rfl⟩
  rw [hr] at hL hN ⊢
  simp only at hL hN ⊢
  subst hL
  have HR := hid hr
  clear hr HD hg1
  by_cases hk : k = 0
  · subst hk
    obtain ⟨hC, hol, hv⟩ := rcode HB.out HR.out hI hN
    have HC := hid hC
    have HV := hid hv
    have hn := hC.few
    rw [show ((0 : Nat) : Int) = 0 from rfl]
    obtain ⟨n, hn'⟩ : ∃ n, n = L.length := ⟨_, rfl⟩
    rw [← hn'] at HC hn ⊢
    have HLn := hid hn'
    have HOl : Hid (os.length = L.length) := hid hol
    clear hC hv hI hN hol hn'
    rcases Nat.eq_zero_or_pos n with h0 | hn1
    · subst h0
      have HBd : Hid (Fl.Bad bs 8) := hid ⟨L, os, .inr ⟨HR.out, rfl, .inl (by unfold Fl.graph; rw [if_pos (List.eq_nil_of_length_eq_zero HLn.out.symm)])⟩⟩
      go_wp2_with fail
      go_ret2
      exact .inl ⟨8, rfl, HBd.out, HG1.out⟩
    have e0 : (((n : Nat) : Int) == 0) = false := by rw [beq_eq_false_iff_ne]; omega
    have f0 : (0 : Int) < n := by omega
    obtain ⟨W2, hmk, hR2, hG2, hlt2⟩ := make_one (z := .int .i64 0) Tryz.underlying24 op_int rfl (by decide) n (by omega) w1
    rw [int_zero] at hR2
    obtain ⟨gO, hgO⟩ : ∃ gO, gO = w1.heap.size := ⟨_, rfl⟩
    rw [← hgO] at hmk hlt2
    have HR2 : Hid (RowD W2 w1.heap.size gO n (List.replicate n 0)) := hid (by rw [hgO]; exact hR2)
    have HG2 := hid hG2
    have HgO := hid hgO
    have HNx := hid (fun i (w' : World) (hi : i < n) (hg : Grew w1 w') => rnext_c A1 c1 A2 c2 n L os i w' (HC.out.grew hg) hi)
    have HMv := hid (fun (i : Nat) (o : Op7.Ins) (ho : L[i]? = some o) (w' : World) => rmoves_c o w' (HV.out o (List.mem_of_getElem? ho)) (HC.out.fit o (List.mem_of_getElem? ho)).2)
    have HPl := hid (fun (x : Int) (w' : World) (hg : Grew w1 w') => Calls.after (Grew.refl w') (rplace_c A1 A2 c2 n L os x w' (HC.out.grew hg)))
    obtain ⟨ad, rfl, hb, hcc⟩ := HC.out.ops.2 (by rw [← HLn.out]; omega)
    have HIc := hid (fun (i : Nat) (o : Op7.Ins) (ho : L[i]? = some o) (w' : World) (hg : Grew w1 w') => op_cell (o := o) (i := i) (ad := ad) (w := w') (fun j u hu => by
      rw [hg.below.cell (by rw [block_add]; exact hb)]; exact hcc i o ho j u hu))
    clear hR2 hG2 hgO hcc
    go_wp2_with fail
    clear hmk
    go_loopw [8] (fun s8 wr => ∃ (i : Nat) (D : List Int), s8 = .int .i64 ((i : Nat) : Int) ∧ i ≤ n ∧ Hid (RowD wr w1.heap.size gO n D ∧ (∀ j, j < i → D.getD j 0 = -1 ∧ Fl.node L os j ≠ none)) ∧ (∃ y : After w1, wr = y.w)) (fun s8 _ => n - (intOf s8).toNat)
    case atStart => exact ⟨0, _, rfl, Nat.zero_le _, hid ⟨HR2.out, fun j hj => by omega⟩, HG2.out⟩
    case round =>
      clear HR2 HG2
      obtain ⟨i, D, rfl, hi, HI, y, rfl⟩ := hrel
      by_cases hlt : i < n
      · have f1 : (i : Int) < n := by omega
        obtain ⟨qc, qf⟩ := HI.out.1.at i hlt
        have hgl := HI.out.1.lt'
        have HD5 := hid (HI.out.1.set i (-1))
        have HG5 := hid (y.grew.setCell (p := ⟨gO, i, none⟩) hgl.1 (.int .i64 (-1)))
        obtain ⟨o, ho⟩ : ∃ o, L[i]? = some o := ⟨_, List.getElem?_eq_getElem (show i < L.length by rw [← HLn.out]; exact hlt)⟩
        have HO := hid ho
        clear ho
        go_wp2_with fail
        generalize y.w.setCell ⟨gO, i, none⟩ (.int .i64 (-1)) = W5 at *
        clear qc qf
        refine (HNx.out i W5 hlt HG5.out).mono ?_
        rintro e w6 ⟨Ak, mk, ck, rfl, hsk, y6, rfl⟩
        have HG6 := hid (HG5.out.trans y6.grew)
        have HD6 := hid (HD5.out.grew' y6.grew)
        have HDi : Hid (∀ j, j < i + 1 → (D.set i (-1)).getD j 0 = -1) := hid (fun j hj => by
          rw [Fl.getD_set]
          split
          · rfl
          · rename_i h1
            have := HI.out.1.len
            exact (HI.out.2 j (by
              rcases Nat.lt_or_ge j i with h2 | h2
              · exact h2
              · exfalso; exact h1 ⟨by omega, by omega⟩)).1)
        cases hsu : Fl.succ L os i with
        | none =>
          have HBd : Hid (Fl.Bad bs 8) := hid ⟨L, os, .inr ⟨HR.out, rfl, .inl (Fl.graph_none (i := i) (by rw [← HLn.out]; exact hlt) (by unfold Fl.node; rw [hsu]; rfl))⟩⟩
          clear hsk hsu
          simp only [Option.isSome_none]
          go_wp2_with fail
          go_ret2
          exact .inl ⟨8, rfl, HBd.out, HG1.out.trans HG6.out⟩
        | some s =>
          have HNo : Hid (Fl.node L os i = if o.code = 14 ∧ Fl.isJoin L os o.b = false then none else some s) := hid (by
            unfold Fl.node
            rw [hsu, Option.bind_some, HO.out])
          clear hsk hsu
          simp only [Option.isSome_some]
          obtain ⟨q0, q1, q2⟩ := HIc.out i o HO.out y6.w HG6.out
          by_cases h14 : o.code = 14
          · have HJ := hid (show Fl.isJoin L os o.b = (match Fl.place os o.b with
              | none => false
              | some k => ((L[k]?).map (·.code)).getD 0 == 15) from rfl)
            have HPx := hid (HPl.out o.b y6.w HG6.out)
            unfold Fl.placeI at HPx
            rw [h14] at q0
            have HPk : Hid (∀ k, Fl.place os o.b = some k → k < n) := hid (fun k hk => by have := Fl.placeLt hk; rw [HLn.out, ← HOl.out]; exact this)
            generalize Fl.place os o.b = pl at *
            cases pl with
            | none =>
              have HBd : Hid (Fl.Bad bs 8) := hid ⟨L, os, .inr ⟨HR.out, rfl, .inl (Fl.graph_none (i := i) (by rw [← HLn.out]; exact hlt) (by rw [HNo.out, if_pos ⟨h14, HJ.out⟩]))⟩⟩
              simp only at HPx
              obtain ⟨cd, oa, ob⟩ := o
              simp only at q0 q1 q2 h14 HPx
              clear h14
              go_wp2_with fail
              refine HPx.out.mono ?_
              rintro e w7 ⟨rfl, y7, rfl⟩
              go_wp2_with fail
              go_ret2
              exact .inl ⟨8, rfl, HBd.out, HG1.out.trans (HG6.out.trans y7.grew)⟩
            | some k =>
              have hkn := HPk.out k rfl
              simp only at HPx
              obtain ⟨p, hp⟩ : ∃ p, L[k]? = some p := ⟨_, List.getElem?_eq_getElem (show k < L.length by rw [← HLn.out]; exact hkn)⟩
              have HQk := hid (fun (w' : World) (hg : Grew w1 w') => HIc.out k p hp w' hg)
              have HJ2 : Hid (Fl.isJoin L os o.b = (p.code == 15)) := hid (by rw [HJ.out]; simp [hp])
              have HOb : Hid (o.code = 14) := hid h14
              have HNn : Hid (p.code = 15 → Fl.node L os i ≠ none) := hid (fun h => by rw [HNo.out, if_neg (by rw [HJ2.out, h]; simp)]; simp)
              have HNy : Hid (p.code ≠ 15 → Fl.node L os i = none) := hid (fun h => by rw [HNo.out, if_pos ⟨HOb.out, by rw [HJ2.out]; simp [h]⟩])
              obtain ⟨cd, oa, ob⟩ := o
              simp only at q0 q1 q2 h14 HPx
              clear h14 hp HJ2 HNo HJ
              have f2 : (k : Int) < n := by omega
              have f3 : ((k : Int) < 0) = False := by simp
              go_wp2_with fail
              refine HPx.out.mono ?_
              rintro e w7 ⟨rfl, y7, rfl⟩
              obtain ⟨p0, _, _⟩ := HQk.out y7.w (HG6.out.trans y7.grew)
              by_cases h15 : p.code = 15
              · rw [h15] at p0
                have HNN := hid (HNn.out h15)
                clear h15 HNn HNy
                go_wp2_with fail
                go_round
                case rel => exact ⟨i + 1, _, by go_num, by omega, hid ⟨HD6.out.grew' y7.grew, fun j hj => ⟨HDi.out j hj, by
                  rcases Nat.lt_or_ge j i with h2 | h2
                  · exact (HI.out.2 j h2).2
                  · obtain rfl : j = i := by omega
                    exact HNN.out⟩⟩, HG6.out.trans y7.grew⟩
                case measure => simp [intOf]; omega
              · have HBd : Hid (Fl.Bad bs 8) := hid ⟨L, os, .inr ⟨HR.out, rfl, .inl (Fl.graph_none (i := i) (by rw [← HLn.out]; exact hlt) (HNy.out h15))⟩⟩
                have e1 : (((p.code : Nat) : Int) != 15) = true := by rw [bne_iff_ne]; omega
                clear h15 HNn HNy
                generalize p.code = pc at *
                go_wp2_with fail
                go_ret2
                exact .inl ⟨8, rfl, HBd.out, HG1.out.trans (HG6.out.trans y7.grew)⟩
          · have HNN : Hid (Fl.node L os i ≠ none) := hid (by rw [HNo.out, if_neg (fun h => h14 h.1)]; simp)
            have e1 : (((o.code : Nat) : Int) == 14) = false := by rw [beq_eq_false_iff_ne]; omega
            clear h14 HNo
            obtain ⟨cd, oa, ob⟩ := o
            simp only at q0 q1 q2 e1
            go_wp2_with fail
            go_round
            case rel => exact ⟨i + 1, _, by go_num, by omega, hid ⟨HD6.out, fun j hj => ⟨HDi.out j hj, by
              rcases Nat.lt_or_ge j i with h2 | h2
              · exact (HI.out.2 j h2).2
              · obtain rfl : j = i := by omega
                exact HNN.out⟩⟩, HG6.out⟩
            case measure => simp [intOf]; omega
      · obtain rfl : i = n := by omega
        have hLne : L ≠ [] := fun h => by have := HLn.out; rw [h] at this; simp at this; omega
        obtain ⟨G, hG⟩ := Fl.graph_some (os := os) hLne (fun j hj => (HI.out.2 j (by rw [HLn.out]; exact hj)).2)
        have HGr := hid hG
        have HGl : Hid (G.length = i) := hid (by rw [(Fl.graph_parts hG).2.1, HLn.out])
        have HGs : Hid (∀ j, ∀ s ∈ G.getD j [], s < L.length) := hid (Fl.graph_lt HOl.out hG)
        have HLne := hid hLne
        have HNx2 : Hid (∀ j (w' : World), j < i → Grew w1 w' → Calls Tryz.prog 27 #[.slice (some ad) i c1, .slice A2 i c2, .int .i64 ((j : Nat) : Int)] w' (fun e w'' => ∃ A m c, e = .returned (.tuple #[.slice A m c, .bool true]) ∧ m = (G.getD j []).length ∧ m ≤ 2 ∧ RowN w'' w'.heap.size A c (G.getD j []) ∧ ∃ y : After w', w'' = y.w)) := hid (fun j w' hj hg => by
          obtain ⟨s, h1, h2⟩ := Fl.graph_succ hG (show j < L.length by rw [← HLn.out]; exact hj)
          have := HNx.out j w' hj hg
          rw [h2] at this
          refine this.mono ?_
          rintro e w'' ⟨A, m, c, rfl, h3, h4⟩
          obtain ⟨h5, h6⟩ := h3 s rfl
          rw [List.getD_eq_getElem?_getD, h1]
          exact ⟨A, m, c, rfl, h5, by rw [h5]; exact Fl.succ_len h2, h6, h4⟩)
        obtain ⟨qc, qf⟩ := HI.out.1.at 0 hn1
        have hgl := HI.out.1.lt'
        have HD0 := hid (HI.out.1.set 0 0)
        have HG0 := hid (y.grew.setCell (p := ⟨gO, 0, none⟩) hgl.1 (.int .i64 0))
        have HE0 : Hid (∀ j, (D.set 0 0).getD j 0 = if j < i ∧ j ≠ 0 then -1 else 0) := hid (fun j => by
          have hl := HI.out.1.len
          rw [Fl.getD_set]
          by_cases h1 : j = 0
          · subst h1
            rw [if_pos ⟨rfl, by omega⟩, if_neg (by omega)]
          · rw [if_neg (by omega)]
            by_cases h2 : j < i
            · rw [if_pos ⟨h2, h1⟩]; exact (HI.out.2 j h2).1
            · rw [if_neg (by omega), List.getD_eq_getElem?_getD, List.getElem?_eq_none (by omega)]; rfl)
        have HDl : Hid ((D.set 0 0).length = i) := hid HD0.out.len
        generalize D.set 0 0 = D0 at *
        clear hG hLne HNx HI
        go_wp2_with fail
        generalize y.w.setCell ⟨gO, 0, none⟩ (.int .i64 0) = W0 at *
        clear qc qf hgl y
        go_loopw [12] (fun s12 wr => ∃ f, AgR w1 gO i L G f s12 wr) (fun s12 wr => low (fun f => AgR w1 gO i L G f s12 wr))
        case atStart =>
          refine ⟨2 * i + 2, D0, true, rfl, HD0.out, fun j => ?_, fun E hE j hj => ?_, ?_, (fun h => by cases h), ?_, Nat.le_refl _, HG0.out⟩
          · rw [HE0.out]; split <;> omega
          · have h0 := (Fl.depths_settled HLne.out HGs.out hE)
            rw [HE0.out] at hj ⊢
            split
            · rename_i h1; rw [if_pos h1] at hj; exact absurd rfl hj
            · rename_i h1
              by_cases h2 : j = 0
              · rw [h2, h0.2]
              · rw [List.getD_eq_getElem?_getD, List.getElem?_eq_none (by rw [h0.1.len, ← HLn.out]; omega)]; rfl
          · rw [HE0.out, if_neg (by omega)]
          · have h1 := List.count_le_length (a := (-1 : Int)) (l := D0)
            rw [HDl.out] at h1
            simp only [if_true]
            omega
        case round =>
          obtain ⟨f0', hf0⟩ := hrel
          obtain ⟨hq, _⟩ := HLow.out (fun f => AgR w1 gO i L G f u12 wr) f0' hf0
          have HM := hid (fun (s : Value) (w' : World) (f' : Nat) (h1 : AgR w1 gO i L G f' s w') (h2 : f' < low fun f => AgR w1 gO i L G f u12 wr) => Nat.lt_of_le_of_lt (HLow.out (fun f => AgR w1 gO i L G f s w') f' h1).2 h2)
          clear hf0 HD0 HG0 HE0 HDl D0 W0
          show Code.wp _ _ (Exit.then (fun a' w' => _ ∧ _ < low fun f => AgR w1 gO i L G f u12 wr) _) _ _
          generalize (low fun f => AgR w1 gO i L G f u12 wr) = m0 at *
          obtain ⟨D, ag, rfl, hRow, hbd, hun, h00, hcal, hl, hm0, y4, rfl⟩ := hq
          have HRow := hid hRow
          have HBo := hid hbd
          have HUn := hid hun
          have H00 := hid h00
          have HCal := hid hcal
          have HL := hid hl
          clear hRow hbd hun h00 hcal hl
          cases ag with
          | false =>
            have HW : Hid (∃ E, Fl.Well bs L os G E) := hid (by
              obtain ⟨E, hE⟩ := Fl.calm_depths HLne.out HGs.out (by rw [HRow.out.len, HLn.out]) (fun j => (HBo.out j).1) H00.out (fun j hj => HCal.out rfl j (by rw [HLn.out]; exact hj))
              exact ⟨E, HR.out, HGr.out, hE⟩)
            go_wp2_with fail
            go_ret2
            obtain ⟨E, hE⟩ := HW.out
            exact .inr ⟨_, _, _, L, os, G, E, rfl, hE, HG1.out.trans y4.grew⟩
          | true =>
            go_wp2_with fail
            go_loopw [12, 13] (fun s12 s13 wr => ∃ (j : Nat) (D : List Int) (ag : Bool), s12 = .bool ag ∧ s13 = .int .i64 ((j : Nat) : Int) ∧ j ≤ i ∧ Hid (RowD wr w1.heap.size gO i D ∧ (∀ j, -1 ≤ D.getD j 0 ∧ D.getD j 0 ≤ 32) ∧ Fl.Under L G D ∧ D.getD 0 0 = 0 ∧ (ag = false → ∀ k, k < j → Fl.Calm L G D k) ∧ 2 * D.count (-1) + (if ag then 1 else 0) + 1 < m0) ∧ (∃ y : After w1, wr = y.w)) (fun _ s13 _ => i - (intOf s13).toNat)
            case atStart => exact ⟨0, D, false, rfl, rfl, Nat.zero_le _, hid ⟨HRow.out, HBo.out, HUn.out, H00.out, fun _ k hk => by omega, by have := HL.out; simpa using this⟩, y4.grew⟩
            case round =>
              clear HRow HBo HUn H00 HCal HL D
              obtain ⟨j, D, ag, rfl, rfl, hj, HI, y5, rfl⟩ := hrel
              by_cases hjn : j < i
              · have f1 : (j : Int) < i := by omega
                obtain ⟨qc, qf⟩ := HI.out.1.at j hjn
                have hbj := HI.out.2.1 j
                by_cases hd1 : D.getD j 0 = -1
                · rw [hd1] at qc
                  have HCm : Hid (ag = false → ∀ k, k < j + 1 → Fl.Calm L G D k) := hid (fun ha k hk => by
                    rcases Nat.lt_or_ge k j with h1 | h1
                    · exact HI.out.2.2.2.2.1 ha k h1
                    · obtain rfl : k = j := by omega
                      exact fun h => absurd hd1 h)
                  clear hd1
                  go_wp2_with fail
                  go_round
                  case rel => exact ⟨j + 1, D, ag, rfl, by go_num, by omega, hid ⟨HI.out.1, HI.out.2.1, HI.out.2.2.1, HI.out.2.2.2.1, HCm.out, HI.out.2.2.2.2.2⟩, y5.grew⟩
                  case measure => simp [intOf]; omega
                · obtain ⟨o, ho⟩ : ∃ o, L[j]? = some o := ⟨_, List.getElem?_eq_getElem (show j < L.length by rw [← HLn.out]; exact hjn)⟩
                  have HLo : Hid (L.getD j ⟨0, 0, 0⟩ = o) := hid (by rw [List.getD_eq_getElem?_getD, ho]; rfl)
                  obtain ⟨q0, q1, q2⟩ := HIc.out j o ho y5.w y5.grew
                  have HMc := hid (HMv.out j o ho)
                  obtain ⟨b1, b2, b3, b4⟩ := eff_bounds o (HC.out.fit o (List.mem_of_getElem? ho)).2
                  have HMay : Hid (Fl.may o (D.getD j 0) = (decide ((Fl.effect o).1 ≤ D.getD j 0) && decide (Fl.after o (D.getD j 0) ≤ 32))) := hid rfl
                  have HAf : Hid (Fl.after o (D.getD j 0) = D.getD j 0 - (Fl.effect o).1 + (Fl.effect o).2) := hid rfl
                  have HNo : Hid (Fl.may o (D.getD j 0) = false → Fl.Bad bs 8) := hid (fun hm => ⟨L, os, .inr ⟨HR.out, rfl, .inr ⟨G, HGr.out, Fl.under_may HLne.out HGs.out HI.out.2.2.1 (by rw [← HLn.out]; exact hjn) hd1 (by rw [HLo.out]; exact hm)⟩⟩⟩)
                  have HWant : Hid (Fl.Want L G (Fl.after o (D.getD j 0)) (G.getD j [])) := hid (fun E hE => by
                    have := (Fl.under_calm HLne.out HGs.out HI.out.2.2.1 (by rw [← HLn.out]; exact hjn) hd1 E hE).2
                    rw [HLo.out] at this
                    exact this)
                  have hd0 : 0 ≤ D.getD j 0 := by omega
                  have HDj : Hid (∀ d, d = D.getD j 0 → D.getD j 0 = d) := hid (fun d h => h.symm)
                  obtain ⟨d, hd⟩ : ∃ d, d = D.getD j 0 := ⟨_, rfl⟩
                  replace HDj := hid (HDj.out d hd)
                  rw [← hd] at qc hbj HMay HAf HNo HWant hd0
                  clear hd ho hd1
                  obtain ⟨a, ha⟩ : ∃ a, a = Fl.after o d := ⟨_, rfl⟩
                  have HA := hid ha.symm
                  rw [← ha] at HMay HAf HWant
                  clear ha
                  obtain ⟨mb, hmb⟩ : ∃ mb, mb = Fl.may o d := ⟨_, rfl⟩
                  have HMb := hid hmb.symm
                  rw [← hmb] at HMay HNo
                  clear hmb
                  obtain ⟨t, ht⟩ : ∃ t, t = (Fl.effect o).1 := ⟨_, rfl⟩
                  obtain ⟨p, hp⟩ : ∃ p, p = (Fl.effect o).2 := ⟨_, rfl⟩
                  rw [← ht, ← hp] at HMc
                  rw [← ht] at b1 b2 HMay HAf
                  rw [← hp] at b3 b4 HAf
                  clear ht hp
                  obtain ⟨cd, oa, ob⟩ := o
                  unfold opCells at HMc
                  simp only at q0 q1 q2 HMc
                  have e1 : (d < 0) = False := by simp; omega
                  go_wp2_with fail
                  refine (Calls.after (Grew.refl y5.w) (HMc.out y5.w)).mono ?_
                  rintro e w6 ⟨rfl, y6, rfl⟩
                  have HG6 := hid (y5.grew.trans y6.grew)
                  have HD6 := hid (HI.out.1.grew' y6.grew)
                  obtain ⟨qc6, qf6⟩ := HD6.out.at j hjn
                  rw [HDj.out] at qc6
                  clear q0 q1 q2 qc qf
                  have g1 : IntKind.i64.wrap (d - t) = d - t := IntWalk.i64_in _ (by omega)
                  have hA := HAf.out
                  have g2 : IntKind.i64.wrap (d - t + p) = a := by rw [hA]; exact IntWalk.i64_in _ (by omega)
                  by_cases hc1 : d < t
                  · have HBd := hid (HNo.out (by rw [HMay.out]; simp; omega))
                    clear HNo HMay HAf hA
                    go_wp2_with fail
                    go_ret2
                    exact .inl ⟨8, rfl, HBd.out, HG1.out.trans HG6.out⟩
                  · have e2 : (d < t) = False := by simp; omega
                    by_cases hc2 : 32 < a
                    · have HBd := hid (HNo.out (by rw [HMay.out]; simp; omega))
                      clear HNo HMay HAf hA hc1
                      go_wp2_with fail
                      go_ret2
                      exact .inl ⟨8, rfl, HBd.out, HG1.out.trans HG6.out⟩
                    · have e3 : (32 < a) = False := by simp; omega
                      have HMt : Hid (mb = true) := hid (by rw [HMay.out]; simp; omega)
                      have HCj : Hid (∀ D' : List Int, D'.getD j 0 = d → (∀ s ∈ G.getD j [], D'.getD s 0 = a) → Fl.Calm L G D' j) := hid (fun D' h1 h2 _ => by
                        rw [HLo.out, h1, HMb.out, HA.out]
                        exact ⟨HMt.out, h2⟩)
                      have ha0 : 0 ≤ a := by omega
                      have ha1 : a ≤ 32 := by omega
                      have HBad8 : Hid (Fl.depths L G = none → Fl.Bad bs 8) := hid (fun h => ⟨L, os, .inr ⟨HR.out, rfl, .inr ⟨G, HGr.out, h⟩⟩⟩)
                      clear HNo HMay HAf hA hc1 hc2 HMb HMt HLo
                      go_wp2_with fail
                      refine (HNx2.out j y6.w hjn HG6.out).mono ?_
                      rintro e w7 ⟨Ak, mk, ck, rfl, hmk, hmk2, hRk, y7, rfl⟩
                      have HMk := hid hmk
                      have HRk := hid hRk
                      have HSk := hid (HGs.out j)
                      have HG7 := hid (HG6.out.trans y7.grew)
                      have HI7 := hid (HI.out.1.grew' (y6.grew.trans y7.grew))
                      clear hRk hmk qc6 qf6 g1 g2 HMc HD6
                      generalize G.getD j [] = sk at *
                      go_wp2_with fail
                      have HgL : Hid (w1.heap.size ≤ gO ∧ gO < y6.w.heap.size) := hid (HI.out.1.grew' y6.grew).lt'
                      go_loopw [12, 19] (fun s12 s19 wr => ∃ (u : Nat) (D' : List Int) (ag : Bool), s12 = .bool ag ∧ s19 = .int .i64 ((u : Nat) : Int) ∧ u ≤ mk ∧ Hid ((RowD wr w1.heap.size gO i D' ∧ RowN wr y6.w.heap.size Ak ck sk) ∧ (∀ j, -1 ≤ D'.getD j 0 ∧ D'.getD j 0 ≤ 32) ∧ Fl.Under L G D' ∧ D'.getD 0 0 = 0 ∧ (ag = false → (∀ k, k < j → Fl.Calm L G D' k) ∧ D'.getD j 0 = d ∧ ∀ v, v < u → D'.getD (sk.getD v 0) 0 = a) ∧ 2 * D'.count (-1) + (if ag then 1 else 0) + 1 < m0) ∧ (∃ y : After w1, wr = y.w)) (fun _ s19 _ => mk - (intOf s19).toNat)
                      case atStart => exact ⟨0, D, ag, rfl, rfl, Nat.zero_le _, hid ⟨⟨HI7.out, HRk.out⟩, HI.out.2.1, HI.out.2.2.1, HI.out.2.2.2.1, fun h => ⟨HI.out.2.2.2.2.1 h, HDj.out, fun v hv => by omega⟩, HI.out.2.2.2.2.2⟩, HG7.out⟩
                      case round =>
                        clear HI HDj HI7 HRk HG7
                        obtain ⟨u, D, ag, rfl, rfl, hu, HI, y8, rfl⟩ := hrel
                        by_cases hum : u < mk
                        · have f2 : (u : Int) < mk := by omega
                          obtain ⟨x, hx⟩ : ∃ x, sk[u]? = some x := ⟨_, List.getElem?_eq_getElem (by rw [← HMk.out]; exact hum)⟩
                          have hxm : x ∈ sk := List.mem_of_getElem? hx
                          have hxn : x < i := by rw [HLn.out]; exact HSk.out x hxm
                          have HXg : Hid (sk.getD u 0 = x) := hid (by rw [List.getD_eq_getElem?_getD, hx]; rfl)
                          have f3 : (x : Int) < i := by omega
                          rcases Row.cases HI.out.1.2 with ⟨_, _, _, ⟨_, h0, _⟩ | ⟨gs, rfl, hgs0, hgsl, hcs, _⟩⟩
                          · exfalso
                            have := HMk.out
                            omega
                          have qx : y8.w.cell? ⟨gs, u, none⟩ = some (.int .i64 ((x : Nat) : Int)) := hcs u _ (by
                            rw [numCells_get .i64 sk u (by rw [← HMk.out]; exact hum), HXg.out])
                          obtain ⟨qd, qf⟩ := HI.out.1.1.at x hxn
                          have HB3 := hid (fun h1 h2 => HBad8.out (Fl.want_not HI.out.2.2.1 HWant.out hxm (s := x) h1 h2))
                          have HUs := hid (HI.out.2.2.1.set HWant.out hxm)
                          clear hcs hx hxm
                          by_cases hd1 : D.getD x 0 = -1
                          · rw [hd1] at qd
                            have HCn := hid (Fl.count_set (by rw [HI.out.1.1.len]; exact hxn) hd1 (show a ≠ -1 by omega))
                            have hx0 : x ≠ 0 := fun h => by have := HI.out.2.2.2.1; rw [h] at hd1; omega
                            have HX0 := hid hx0
                            have hgl := HI.out.1.1.lt'
                            have HK8 : Hid (Kept (fun k => k = gO) y8.w (y8.w.setCell ⟨gO, x, none⟩ (.int .i64 a))) := hid ((Kept.refl (fun k => k = gO) _).setCell (p := ⟨gO, x, none⟩) (fun _ => rfl) _)
                            have HR8 : Hid (RowN (y8.w.setCell ⟨gO, x, none⟩ (.int .i64 a)) y6.w.heap.size (some ⟨gs, 0, none⟩) ck sk) := hid (Row.kept HI.out.1.2 HK8.out (fun g' hg' e => by obtain ⟨rfl⟩ := hg'; have := HgL.out.2; omega))
                            have HRD8 := hid (HI.out.1.1.set x a)
                            have HG8 := hid (y8.grew.setCell (p := ⟨gO, x, none⟩) hgl.1 (.int .i64 a))
                            clear hd1 hx0
                            go_wp2_with fail
                            go_round
                            case rel => exact ⟨u + 1, D.set x a, true, rfl, by go_num, by omega, hid ⟨⟨HRD8.out, HR8.out⟩, fun k => by
                              rw [Fl.getD_set]
                              split
                              · omega
                              · exact HI.out.2.1 k, HUs.out, by
                              rw [Fl.getD_set, if_neg (fun h => HX0.out h.1)]
                              exact HI.out.2.2.2.1, (fun h => by cases h), by
                              have h1 := HI.out.2.2.2.2.2
                              have h2 := HCn.out
                              simp only [if_true]
                              omega⟩, HG8.out⟩
                            case measure => simp [intOf]; omega
                          · by_cases hd2 : D.getD x 0 = a
                            · rw [hd2] at qd
                              have HN8 : Hid (ag = false → (∀ k, k < j → Fl.Calm L G D k) ∧ D.getD j 0 = d ∧ ∀ v, v < u + 1 → D.getD (sk.getD v 0) 0 = a) := hid (fun h => by
                                obtain ⟨h1, h2, h3⟩ := HI.out.2.2.2.2.1 h
                                refine ⟨h1, h2, fun v hv => ?_⟩
                                rcases Nat.lt_or_ge v u with h4 | h4
                                · exact h3 v h4
                                · obtain rfl : v = u := by omega
                                  rw [HXg.out, hd2])
                              have e4 : (a != a) = false := by simp
                              have e5 : (a < 0) = False := by simp; omega
                              clear hd1 hd2
                              go_wp2_with fail
                              go_round
                              case rel => exact ⟨u + 1, D, ag, rfl, by go_num, by omega, hid ⟨HI.out.1, HI.out.2.1, HI.out.2.2.1, HI.out.2.2.2.1, HN8.out, HI.out.2.2.2.2.2⟩, y8.grew⟩
                              case measure => simp [intOf]; omega
                            · have HBd := hid (HB3.out hd1 hd2)
                              have hb8 := HI.out.2.1 x
                              have e4 : (D.getD x 0 != a) = true := by rw [bne_iff_ne]; exact hd2
                              have e5 : 0 ≤ D.getD x 0 := by omega
                              clear hd1 hd2 HB3
                              generalize D.getD x 0 = dx at *
                              go_wp2_with fail
                              go_ret2
                              exact .inl ⟨8, rfl, HBd.out, HG1.out.trans y8.grew⟩
                        · obtain rfl : u = mk := by omega
                          have HCm : Hid (ag = false → ∀ k, k < j + 1 → Fl.Calm L G D k) := hid (fun ha k hk => by
                            obtain ⟨h1, h2, h3⟩ := HI.out.2.2.2.2.1 ha
                            rcases Nat.lt_or_ge k j with h4 | h4
                            · exact h1 k h4
                            · obtain rfl : k = j := by omega
                              refine HCj.out D h2 (fun s hs => ?_)
                              obtain ⟨v, hv, rfl⟩ := List.mem_iff_getElem.1 hs
                              have := h3 v (by rw [HMk.out]; exact hv)
                              rwa [List.getD_eq_getElem?_getD (l := sk), List.getElem?_eq_getElem hv] at this)
                          go_wp2_with fail
                          go_round
                          case rel => exact ⟨j + 1, D, ag, rfl, by go_num, by omega, hid ⟨HI.out.1.1, HI.out.2.1, HI.out.2.2.1, HI.out.2.2.2.1, HCm.out, HI.out.2.2.2.2.2⟩, y8.grew⟩
                          case measure => simp [intOf]; omega
              · obtain rfl : j = i := by omega
                have HD : Hid (∃ f2, AgR w1 gO j L G f2 (.bool ag) y5.w ∧ f2 < m0) := hid ⟨m0 - 1, ⟨D, ag, rfl, HI.out.1, HI.out.2.1, HI.out.2.2.1, HI.out.2.2.2.1, HI.out.2.2.2.2.1, by have := HI.out.2.2.2.2.2; omega, by omega, y5.grew⟩, by have := HI.out.2.2.2.2.2; omega⟩
                go_wp2_with fail
                go_round
                case rel => obtain ⟨f2, h1, _⟩ := HD.out; exact ⟨f2, h1⟩
                case measure => obtain ⟨f2, h1, h2⟩ := HD.out; exact HM.out _ _ f2 h1 h2
  · have HBd : Hid (Fl.Bad bs k) := hid ⟨L, os, .inl ⟨HR.out, hk⟩⟩
    have e1 : (((k : Nat) : Int) != 0) = true := by rw [bne_iff_ne]; omega
    clear hI hN hk
    go_wp2_with fail
    go_ret2
    exact .inl ⟨k, rfl, HBd.out, HG1.out⟩
end Go.Proofs.YtilikjfjbnabfaaGreatDoor
/- Stage 8: the document's own Post. -/
namespace Go.Proofs.YtilikjfjbnabfaaGreatDoor
open Go.RowKit

/-- What the document's Post answers. -/
def RPo (w : World) (b : List Nat) (e : Ending) (w' : World) : Prop :=
  (∃ k, e = .returned (.tuple #[.slice none 0 0, .int .i64 ((k : Nat) : Int)]) ∧ Fl.Bad b k ∧ Grew w w') ∨ ∃ g n l os G D V, e = .returned (.tuple #[.slice (some ⟨g, 0, none⟩) n n, .int .i64 0]) ∧ Fl.Well b l os G D ∧ n = l.length ∧ RowD w' w.heap.size g n V ∧ (∀ i, i < n → Fl.Says G i (V.getD i 0)) ∧ Grew w w'
theorem reach_dec (G : List (List Nat)) (x : Int) (b : Nat) : ∃ r : Bool, r = true ↔ Fl.Rch G x b := by
  by_cases h : Fl.Rch G x b
  · exact ⟨true, by simp [h]⟩
  · exact ⟨false, by simp [h]⟩
theorem ne_true {r : Bool} {p : Prop} (h : r = true ↔ p) (hr : r = false) : ¬ p := fun hp => by rw [h.2 hp] at hr; cases hr
theorem says_set {G : List (List Nat)} {D : List Int} {i : Nat} {v : Int} (h : ∀ j, j < i → Fl.Says G j (D.getD j 0)) : ∀ j, j < i → Fl.Says G j ((D.set i v).getD j 0) := fun j hj => by
  rw [Fl.getD_set, if_neg (by omega)]
  exact h j hj
set_option maxRecDepth 100000 in
set_option maxHeartbeats 4000000 in
theorem rpost_c (A : Option Addr) (c : Nat) (bs : List Nat) (w : World) (h : BytesAt w w.heap.size A bs) (hc : bs.length ≤ c) (hl : bs.length ≤ 1000000) :
    Calls Tryz.prog 6 #[.slice A bs.length c] w (RPo w bs) := by
  have HB := hid h.1
  have HDp := hid (rdepths_c A c bs w h hc hl)
  have HDc := hid (fun w' (hg : Grew w w') => rdecode_c A c bs w' (h.grew hg) hc hl)
  clear h hc hl
  generalize bs.length = n0 at *
  go_enter Tryz.func6, Tryz.ntmps6
  go_wp2_with fail
  refine HDp.out.mono ?_
  clear HDp
  rintro e w1 (⟨k, rfl, hbad, hg1⟩ | ⟨A0, m0, c0, l, os, G, D0, rfl, hW, hg1⟩)
  · have HBd := hid hbad
    have e1 : (((k : Nat) : Int) != 0) = true := by rw [bne_iff_ne]; have := hbad.ne; omega
    have HG1 := hid hg1
    clear hbad hg1
    go_wp2_with fail
    go_ret2
    exact .inl ⟨k, rfl, HBd.out, HG1.out⟩
  have HW := hid hW
  have HG1 := hid hg1
  clear hW hg1
  go_wp2_with fail
  refine (HDc.out w1 HG1.out).mono ?_
  clear HDc
  rintro e w2 ⟨A1, c1, A2, c2, L, rfl, hL, hI, hN, hg2⟩
  rw [HW.out.dec] at hL hN ⊢
  simp only at hL hN ⊢
  subst hL
  obtain ⟨hC, hol, hv⟩ := rcode HB.out HW.out.dec hI hN
  have HC := hid hC
  have hn := hC.few
  rw [show ((0 : Nat) : Int) = 0 from rfl]
  obtain ⟨n, hn'⟩ : ∃ n, n = L.length := ⟨_, rfl⟩
  rw [← hn'] at HC hn ⊢
  have HLn := hid hn'
  have HG2 := hid (HG1.out.trans hg2)
  have HGl : Hid (G.length = n) := hid (by rw [HW.out.parts.2, hn'])
  clear hC hv hI hN hol hn' hg2
  obtain ⟨W3, hmk, hR3, hG3, hlt3⟩ := make_one (z := .int .i64 0) Tryz.underlying24 op_int rfl (by decide) n (by omega) w2
  rw [int_zero] at hR3
  obtain ⟨gO, hgO⟩ : ∃ gO, gO = w2.heap.size := ⟨_, rfl⟩
  rw [← hgO] at hmk hlt3
  have HR3 : Hid (RowD W3 w2.heap.size gO n (List.replicate n 0)) := hid (by rw [hgO]; exact hR3)
  have HG3 := hid hG3
  have HgO := hid hgO
  have HRe := hid (fun (b : Nat) (x : Int) (r : Bool) (hb : b < n) (hr : r = true ↔ Fl.Rch G x b) (w' : World) (hg : Grew w2 w') => Calls.after (Grew.refl w') (rreach_c A1 c1 A2 c2 n L os G b x r w' (HC.out.grew hg) HW.out.graph hb hr))
  clear hR3 hG3 hgO
  go_wp2_with fail
  clear hmk
  go_loopw [10] (fun s10 wr => ∃ (i : Nat) (D : List Int), s10 = .int .i64 ((i : Nat) : Int) ∧ i ≤ n ∧ Hid (RowD wr w2.heap.size gO n D ∧ (∀ j, j < i → Fl.Says G j (D.getD j 0))) ∧ (∃ y : After w2, wr = y.w)) (fun s10 _ => n - (intOf s10).toNat)
  case atStart => exact ⟨0, _, rfl, Nat.zero_le _, hid ⟨HR3.out, fun j hj => by omega⟩, HG3.out⟩
  case round =>
    clear HR3 HG3
    obtain ⟨i, D, rfl, hi, HI, y, rfl⟩ := hrel
    by_cases hlt : i < n
    · have f1 : (i : Int) < n := by omega
      obtain ⟨qc, qf⟩ := HI.out.1.at i hlt
      have hgl := HI.out.1.lt'
      have HD5 := hid (HI.out.1.set i (-1))
      have HG5 := hid (y.grew.setCell (p := ⟨gO, i, none⟩) hgl.1 (.int .i64 (-1)))
      have HSa := hid (says_set (v := -1) HI.out.2)
      have HDi : Hid ((D.set i (-1)).getD i 0 = -1) := hid (by rw [Fl.getD_set, if_pos ⟨rfl, by rw [HI.out.1.len]; exact hlt⟩])
      obtain ⟨r, hr⟩ := reach_dec G (-1) i
      have HRr := hid hr
      have HR1 := hid (HRe.out i (-1) r hlt hr)
      clear hr HI
      generalize D.set i (-1) = D1 at *
      go_wp2_with fail
      generalize y.w.setCell ⟨gO, i, none⟩ (.int .i64 (-1)) = W5 at *
      clear qc qf hgl y
      refine (HR1.out W5 HG5.out).mono ?_
      clear HR1
      rintro e w6 ⟨rfl, y6, rfl⟩
      have HG6 := hid (HG5.out.trans y6.grew)
      have HD6 := hid (HD5.out.grew' y6.grew)
      clear HG5 HD5
      cases r with
      | false =>
        go_wp2_with fail
        go_round
        case rel => exact ⟨i + 1, D1, by go_num, by omega, hid ⟨HD6.out, fun j hj => by
          rcases Nat.lt_or_ge j i with h1 | h1
          · exact HSa.out j h1
          · obtain rfl : j = i := by omega
            rw [HDi.out]
            exact .inl ⟨rfl, .inl (ne_true HRr.out rfl)⟩⟩, HG6.out⟩
        case measure => simp [intOf]; omega
      | true =>
        have HRi : Hid (Fl.Rch G (-1) i) := hid (HRr.out.1 rfl)
        clear HRr
        go_wp2_with fail
        go_loopw [11, 12] (fun s11 s12 wr => ∃ (k : Nat) (Am : Option Addr) (cm m : Nat) (M : List Nat), s11 = .slice Am m cm ∧ s12 = .int .i64 ((k : Nat) : Int) ∧ k ≤ n ∧ Hid (M.length = m ∧ m ≤ k ∧ RowD wr w2.heap.size gO n D1 ∧ RowN wr w2.heap.size Am cm M ∧ ¬ AtRow Am gO ∧ Fl.MustTo G i k M) ∧ (∃ y : After w2, wr = y.w)) (fun _ s12 _ => n - (intOf s12).toNat)
        case atStart => exact ⟨0, none, 0, 0, [], rfl, rfl, Nat.zero_le _, hid ⟨rfl, Nat.le_refl _, HD6.out, RowN.nil _ _, (by rintro ⟨_, h, _⟩; cases h), Fl.mustTo_start G i⟩, HG6.out⟩
        case round =>
          clear HD6 HG6
          obtain ⟨k, Am, cm, m, M, rfl, rfl, hk, HJ, y7, rfl⟩ := hrel
          by_cases hkn : k < n
          · have f2 : (k : Int) < n := by omega
            by_cases hki : k = i
            · have e1 : ((i : Int) != i) = false := by simp
              have HM2 := hid (HJ.out.2.2.2.2.2.skip (.inl hki))
              subst hki
              go_wp2_with fail
              go_round
              case rel => exact ⟨k + 1, Am, cm, m, M, rfl, by go_num, by omega, hid ⟨HJ.out.1, by have := HJ.out.2.1; omega, HJ.out.2.2.1, HJ.out.2.2.2.1, HJ.out.2.2.2.2.1, HM2.out⟩, y7.grew⟩
              case measure => simp [intOf]; omega
            · have e1 : ((k : Int) != i) = true := by rw [bne_iff_ne]; omega
              have HKi := hid hki
              obtain ⟨r, hr⟩ := reach_dec G (k : Int) i
              have HRr := hid hr
              have HR1 := hid (HRe.out i (k : Int) r hlt hr)
              clear hr hki
              go_wp2_with fail
              refine (HR1.out y7.w y7.grew).mono ?_
              clear HR1
              rintro e w8 ⟨rfl, y8, rfl⟩
              have HG8 := hid (y7.grew.trans y8.grew)
              have HD8 := hid (HJ.out.2.2.1.grew' y8.grew)
              have HN8 := hid (HJ.out.2.2.2.1.grew y8.grew)
              cases r with
              | true =>
                have HM2 := hid (HJ.out.2.2.2.2.2.skip (.inr (HRr.out.1 rfl)))
                go_wp2_with fail
                go_round
                case rel => exact ⟨k + 1, Am, cm, m, M, rfl, by go_num, by omega, hid ⟨HJ.out.1, by have := HJ.out.2.1; omega, HD8.out, HN8.out, HJ.out.2.2.2.2.1, HM2.out⟩, HG8.out⟩
                case measure => simp [intOf]; omega
              | false =>
                have HM2 := hid (HJ.out.2.2.2.2.2.push HKi.out (ne_true HRr.out rfl))
                have hm2 := HJ.out.2.1
                have hB8 := HG8.out.below.size
                have hgl8 := HD8.out.lt'
                go_wp2_with (at_builtin; refine wpList_pushN y8.w rfl _ _ rfl w2.heap.size hB8 Am cm M m HJ.out.1.symm rfl HN8.out k _ rfl rfl _ rfl (by omega) ?_; rintro A9 c9 W9 hO9 hK9 hT9; have HO9 := hid hO9; have HK9 := hid hK9; have HT9 := hid hT9; clear hO9 hK9 hT9)
                go_round
                case rel => exact ⟨k + 1, A9, c9, m + 1, M ++ [k], rfl, by go_num, by omega, hid ⟨by rw [List.length_append, HJ.out.1]; rfl, by omega, Row.kept HD8.out HK9.out (fun g' hg' e => by obtain ⟨rfl⟩ := hg'; exact HJ.out.2.2.2.2.1 e), HO9.out, RowTo.not_at HT9.out HJ.out.2.2.2.2.1 hgl8.2, HM2.out⟩, HK9.out.grew HG8.out (fun k' hk' => Row.at_base HN8.out k' hk')⟩
                case measure => simp [intOf]; omega
          · obtain rfl : k = n := by omega
            obtain ⟨hMl, hmk, hD7, hN7, hA7, hMu⟩ := HJ.out
            have HMl := hid hMl
            have HD7 := hid hD7
            have HN7 := hid hN7
            have HA7 := hid hA7
            have HMu := hid hMu
            clear hMl hD7 hN7 hA7 hMu HJ
            have HSt : Hid (Fl.SaysTo G i M 0 (-1)) := hid (.inl ⟨rfl, fun j hj => by omega⟩)
            go_wp2_with fail
            go_loopw [13] (fun s13 wr => ∃ (a : Nat) (D : List Int) (v : Int), s13 = .int .i64 ((a : Nat) : Int) ∧ a ≤ m ∧ Hid (RowD wr w2.heap.size gO k D ∧ RowN wr w2.heap.size Am cm M ∧ (∀ j, j < i → Fl.Says G j (D.getD j 0)) ∧ D.getD i 0 = v ∧ Fl.SaysTo G i M a v) ∧ (∃ y : After w2, wr = y.w)) (fun s13 _ => m - (intOf s13).toNat)
            case atStart => exact ⟨0, D1, -1, rfl, Nat.zero_le _, hid ⟨HD7.out, HN7.out, HSa.out, HDi.out, HSt.out⟩, y7.grew⟩
            case round =>
              clear HD7 HN7 HSt
              obtain ⟨a, D2, v, rfl, ha, HJ, y8, rfl⟩ := hrel
              by_cases ham : a < m
              · have f2 : (a : Int) < m := by omega
                go_wp2_with fail
                go_loopw [14, 15] (fun s14 s15 wr => ∃ (u : Nat) (fb : Bool), s14 = .bool fb ∧ s15 = .int .i64 ((u : Nat) : Int) ∧ u ≤ m ∧ Hid (RowD wr w2.heap.size gO k D2 ∧ RowN wr w2.heap.size Am cm M ∧ (fb = true ↔ Fl.FirstTo G M a u)) ∧ (∃ y : After w2, wr = y.w)) (fun _ s15 _ => m - (intOf s15).toNat)
                case atStart => exact ⟨0, true, rfl, rfl, Nat.zero_le _, hid ⟨HJ.out.1, HJ.out.2.1, fun _ j hj => absurd hj (Nat.not_lt_zero j), fun _ => rfl⟩, y8.grew⟩
                case round =>
                  obtain ⟨u, fb, rfl, rfl, hu, HK, y9, rfl⟩ := hrel
                  by_cases hum : u < m
                  · have f3 : (u : Int) < m := by omega
                    rcases Row.cases HK.out.2.1 with ⟨_, _, _, ⟨_, h0, _⟩ | ⟨gs, rfl, hgs0, hgsl, hcs, _⟩⟩
                    · exfalso
                      have := HMl.out
                      omega
                    have qu : y9.w.cell? ⟨gs, u, none⟩ = some (.int .i64 ((M.getD u 0 : Nat) : Int)) := hcs u _ (numCells_get .i64 M u (by rw [HMl.out]; exact hum))
                    have qa : y9.w.cell? ⟨gs, a, none⟩ = some (.int .i64 ((M.getD a 0 : Nat) : Int)) := hcs a _ (numCells_get .i64 M a (by rw [HMl.out]; exact ham))
                    have HMn : Hid (M.getD a 0 < k) := hid ((HMu.out (M.getD a 0)).1 (by
                      rw [List.getD_eq_getElem?_getD, List.getElem?_eq_getElem (show a < M.length by rw [HMl.out]; exact ham)]
                      exact List.getElem_mem _)).1
                    clear hcs
                    by_cases hua : u = a
                    · have HF1 : Hid (fb = true ↔ Fl.FirstTo G M a (u + 1)) := hid (HK.out.2.2.trans ⟨fun h j hj hne => h j (by omega) hne, fun h j hj hne => h j (by omega) hne⟩)
                      subst hua
                      have e1 : ((u : Int) != u) = false := by simp
                      go_wp2_with fail
                      refine wp_region_grew_from (Grew.refl _) (by kernel_rfl) (by kernel_rfl) ?_
                      repeat (go_big_quiet_step ((go_at_call 17; fail)))
                      refine wpQuiet_nil ?_
                      rintro _ ⟨y10, rfl⟩
                      clear qu qa
                      go_wp2_with fail
                      go_round
                      case rel => exact ⟨u + 1, fb, rfl, by go_num, by omega, hid ⟨HK.out.1.grew' y10.grew, HK.out.2.1.grew y10.grew, HF1.out⟩, y9.grew.trans y10.grew⟩
                      case measure => simp [intOf]; omega
                    · have e1 : ((u : Int) != a) = true := by rw [bne_iff_ne]; omega
                      have HUa := hid hua
                      obtain ⟨r, hr⟩ := reach_dec G ((M.getD u 0 : Nat) : Int) (M.getD a 0)
                      have HFt : Hid (r = true → ¬ Fl.FirstTo G M a (u + 1)) := hid (fun h hF => hF u (by omega) HUa.out (hr.1 h))
                      have HFf : Hid (r = false → (fb = true ↔ Fl.FirstTo G M a (u + 1))) := hid (fun h => HK.out.2.2.trans ⟨fun hF j hj hne => by
                        rcases Nat.lt_or_ge j u with h1 | h1
                        · exact hF j h1 hne
                        · obtain rfl : j = u := by omega
                          exact ne_true hr h, fun hF j hj hne => hF j (by omega) hne⟩)
                      have HR1 := hid (fun (w' : World) (hg : Grew y9.w w') => Calls.mono (HRe.out (M.getD a 0) ((M.getD u 0 : Nat) : Int) r HMn.out hr w' (y9.grew.trans hg)) (fun e w'' ⟨h1, y, h2⟩ => (⟨h1, hg.trans (h2 ▸ y.grew)⟩ : e = Ending.returned (.bool r) ∧ ∃ z : After y9.w, w'' = z.w)))
                      clear hr hua HMn
                      generalize M.getD u 0 = mu at *
                      generalize M.getD a 0 = ma at *
                      go_wp2_with fail
                      refine wp_region_grew_from (Grew.refl _) (by kernel_rfl) (by kernel_rfl) ?_
                      repeat (go_big_quiet_step ((go_at_call 17; exact HR1.out _ (After.grew _))))
                      refine wpQuiet_nil ?_
                      rintro _ ⟨y10, rfl⟩
                      clear qu qa HR1
                      cases r with
                      | true =>
                        have HF1 : Hid (false = true ↔ Fl.FirstTo G M a (u + 1)) := hid ⟨fun h => (by cases h), fun h => absurd h (HFt.out rfl)⟩
                        go_wp2_with fail
                        go_round
                        case rel => exact ⟨u + 1, false, rfl, by go_num, by omega, hid ⟨HK.out.1.grew' y10.grew, HK.out.2.1.grew y10.grew, HF1.out⟩, y9.grew.trans y10.grew⟩
                        case measure => simp [intOf]; omega
                      | false =>
                        have HF1 := hid (HFf.out rfl)
                        go_wp2_with fail
                        go_round
                        case rel => exact ⟨u + 1, fb, rfl, by go_num, by omega, hid ⟨HK.out.1.grew' y10.grew, HK.out.2.1.grew y10.grew, HF1.out⟩, y9.grew.trans y10.grew⟩
                        case measure => simp [intOf]; omega
                  · obtain rfl : u = m := by omega
                    have HFi : Hid (fb = true ↔ Fl.First G i (M.getD a 0)) := hid (by
                      have := Fl.firstTo_first HMu.out HGl.out (a := a)
                      rw [HMl.out] at this
                      exact HK.out.2.2.trans this)
                    cases fb with
                    | false =>
                      have HS2 : Hid (Fl.SaysTo G i M (a + 1) v) := hid (by
                        rcases HJ.out.2.2.2.2 with ⟨h1, h2⟩ | h1
                        · refine .inl ⟨h1, fun j hj => ?_⟩
                          rcases Nat.lt_or_ge j a with h3 | h3
                          · exact h2 j h3
                          · obtain rfl : j = a := by omega
                            exact fun h => by have := HFi.out.2 h; cases this
                        · exact .inr h1)
                      go_wp2_with fail
                      go_round
                      case rel => exact ⟨a + 1, D2, v, by go_num, by omega, hid ⟨HK.out.1, HK.out.2.1, HJ.out.2.2.1, HJ.out.2.2.2.1, HS2.out⟩, y9.grew⟩
                      case measure => simp [intOf]; omega
                    | true =>
                      rcases Row.cases HK.out.2.1 with ⟨_, _, _, ⟨_, h0, _⟩ | ⟨gs, rfl, hgs0, hgsl, hcs, _⟩⟩
                      · exfalso
                        have := HMl.out
                        omega
                      have qa : y9.w.cell? ⟨gs, a, none⟩ = some (.int .i64 ((M.getD a 0 : Nat) : Int)) := hcs a _ (numCells_get .i64 M a (by rw [HMl.out]; exact ham))
                      have HMs : Hid (Fl.Must G i (M.getD a 0)) := hid ((HMu.out.must HGl.out _).1 (by
                        rw [List.getD_eq_getElem?_getD, List.getElem?_eq_getElem (show a < M.length by rw [HMl.out]; exact ham)]
                        exact List.getElem_mem _))
                      have HS2 : Hid (Fl.SaysTo G i M (a + 1) ((M.getD a 0 : Nat) : Int)) := hid (.inr ⟨_, rfl, HMs.out, HFi.out.1 rfl⟩)
                      clear hcs
                      generalize M.getD a 0 = ma at *
                      obtain ⟨qc, qf⟩ := HK.out.1.at i hlt
                      have hgl := HK.out.1.lt'
                      have HK8 : Hid (Kept (fun x => x = gO) y9.w (y9.w.setCell ⟨gO, i, none⟩ (.int .i64 ((ma : Nat) : Int)))) := hid ((Kept.refl (fun x => x = gO) _).setCell (p := ⟨gO, i, none⟩) (fun _ => rfl) _)
                      have HR8 := hid (Row.kept HK.out.2.1 HK8.out (fun g' hg' e => by obtain ⟨rfl⟩ := hg'; exact HA7.out ⟨_, rfl, e⟩))
                      have HRD8 := hid (HK.out.1.set i ((ma : Nat) : Int))
                      have HG8 := hid (y9.grew.setCell (p := ⟨gO, i, none⟩) hgl.1 (.int .i64 ((ma : Nat) : Int)))
                      have HGt : Hid ((D2.set i ((ma : Nat) : Int)).getD i 0 = ((ma : Nat) : Int)) := hid (by rw [Fl.getD_set, if_pos ⟨rfl, by rw [HK.out.1.len]; exact hlt⟩])
                      go_wp2_with fail
                      go_round
                      case rel => exact ⟨a + 1, D2.set i ((ma : Nat) : Int), ((ma : Nat) : Int), by go_num, by omega, hid ⟨HRD8.out, HR8.out, says_set HJ.out.2.2.1, HGt.out, HS2.out⟩, HG8.out⟩
                      case measure => simp [intOf]; omega
              · obtain rfl : a = m := by omega
                have HFin : Hid (∀ j, j < i + 1 → Fl.Says G j (D2.getD j 0)) := hid (fun j hj => by
                  rcases Nat.lt_or_ge j i with h1 | h1
                  · exact HJ.out.2.2.1 j h1
                  · obtain rfl : j = i := by omega
                    rw [HJ.out.2.2.2.1]
                    have h2 := HJ.out.2.2.2.2
                    rw [← HMl.out] at h2
                    exact h2.says HMu.out HGl.out HRi.out)
                go_wp2_with fail
                go_round
                case rel => exact ⟨i + 1, D2, by go_num, by omega, hid ⟨HJ.out.1, HFin.out⟩, y8.grew⟩
                case measure => simp [intOf]; omega
    · obtain rfl : i = n := by omega
      go_wp2_with fail
      go_ret2
      exact .inr ⟨gO, i, L, os, G, D0, D, rfl, HW.out, HLn.out, Row.low HI.out.1 HG2.out.below.size, HI.out.2, HG2.out.trans y.grew⟩
end Go.Proofs.YtilikjfjbnabfaaGreatDoor
/- Law FlowPosts walked. -/
namespace Go.Proofs.YtilikjfjbnabfaaGreatDoor
open Go.RowKit

theorem bad_uniq {b : List Nat} {k k' : Nat} (h : Fl.Bad b k) (h' : Fl.Bad b k') : k = k' := by
  obtain ⟨l, os, h⟩ := h
  obtain ⟨l', os', h'⟩ := h'
  rcases h with ⟨h1, h2⟩ | ⟨h1, h2, _⟩ <;> rcases h' with ⟨h3, h4⟩ | ⟨h3, h4, _⟩ <;> rw [h1] at h3 <;> simp only [Prod.mk.injEq] at h3 <;> omega
theorem post_same {bs : List Nat} {l l' : List Op7.Ins} {os os' : List Nat} {G G' S : List (List Nat)} {D D' V : List Int} {n m : Nat} (h : Fl.Well bs l os G D) (h' : Fl.Well bs l' os' G' D') (hn : n = l.length) (hm : m = l'.length) (hS : Fl.Sets G S n) (hV : V.length = m) (hs : ∀ i, i < m → Fl.Says G' i (V.getD i 0)) : m = n ∧ Fl.postOf S = V := by
  obtain ⟨rfl, rfl, rfl, rfl⟩ := h.uniq h'
  obtain rfl : n = m := by omega
  exact ⟨rfl, (postOf_eq hS.ok.1 hV (fun j hj => (Fl.post_says hS hj (hs j hj)).symm)).symm⟩
set_option maxRecDepth 100000 in
set_option maxHeartbeats 4000000 in
theorem posts_walk (A : Option Addr) (c : Nat) (bs : List Nat) (w : World) (h : Arg w A c bs) (hh : HandleAt w) :
    Calls Tryz.prog 3 #[.slice A bs.length c] w fun e w' => e = .returned (.bool true) ∧ Grew w w' := by
  have HZ := hid (fun w' (hg : Grew w w') => Calls.after (Grew.refl w') (sure_c w' (hh.grew hg) (h.tab.grew hg)))
  have HNm := hid (fun k w' (hg : Grew w w') => Calls.after (Grew.refl w') (num_c k w' (hh.grew hg)))
  clear hh
  obtain ⟨n0, en⟩ : ∃ n0, n0 = bs.length := ⟨_, rfl⟩
  by_cases hs1 : 60 < n0 ∧ n0 ≤ 512
  · have f1 : (60 : Int) < n0 := by omega
    have f2 : (n0 : Int) ≤ 512 := by omega
    rw [← en]
    clear h en HNm hs1
    go_enter Tryz.func3, Tryz.ntmps3
    go_wp2_with fail
    refine (HZ.out _ (Grew.refl _)).mono ?_
    rintro e w1 ⟨rfl, y, rfl⟩
    go_wp2_with fail
    go_ret
    exact ⟨rfl, y.grew⟩
  by_cases hs2 : 900 < n0
  · have f1 : (60 : Int) < n0 := by omega
    have f2 : decide ((n0 : Int) ≤ 512) = false := by rw [decide_eq_false_iff_not]; omega
    have f3 : (900 : Int) < n0 := by omega
    rw [← en]
    clear h en HNm hs1 hs2
    go_enter Tryz.func3, Tryz.ntmps3
    go_wp2_with fail
    refine (HZ.out _ (Grew.refl _)).mono ?_
    rintro e w1 ⟨rfl, y, rfl⟩
    go_wp2_with fail
    go_ret
    exact ⟨rfl, y.grew⟩
  have HRp := hid (fun w' (hg : Grew w w') => rpost_c A c bs w' (h.at_.grew hg) h.cap (by omega))
  have f3 : decide ((900 : Int) < n0) = false := by rw [decide_eq_false_iff_not]; omega
  rcases well_or_bad bs with ⟨l, os, G, D, hW⟩ | ⟨k, hb⟩
  · have HPo := hid (post_ok h hW)
    have HW := hid hW
    rw [← en] at HPo HRp ⊢
    have hcase : (decide ((60 : Int) < n0) = false) ∨ ((60 : Int) < n0 ∧ decide ((n0 : Int) ≤ 512) = false) := by
      by_cases h1 : (60 : Int) < n0
      · exact .inr ⟨h1, by rw [decide_eq_false_iff_not]; omega⟩
      · exact .inl (by rw [decide_eq_false_iff_not]; exact h1)
    clear h hW en hs1 hs2
    rcases hcase with f1 | ⟨f1, f2⟩
    all_goals
      go_enter Tryz.func3, Tryz.ntmps3
      go_wp2_with fail
      refine HPo.out.mono ?_
      clear HPo
      rintro e w1 ⟨g1, n, S, rfl, hn, hP, _, hS, hg1⟩
      have G1 := hid hg1
      have HPs := hid hP.iat
      have HS := hid hS
      have HN := hid hn
      clear hg1 hP hS hn
      go_wp2_with fail
      refine (HRp.out _ G1.out).mono ?_
      clear HRp
      rintro e w2 (⟨k, rfl, hbad, hg2⟩ | ⟨g2, n2, l', os', G', D', V, rfl, hW', hn2, hV, hSy, hg2⟩)
      · exact (hbad.not_well HW.out).elim
      obtain ⟨rfl, hE⟩ := post_same HW.out hW' HN.out hn2 HS.out hV.len hSy
      have G2 := hid (G1.out.trans hg2)
      have HIn := hid (ints8_c (some ⟨g1, 0, none⟩) n2 (Fl.postOf S) (some ⟨g2, 0, none⟩) n2 V w2 (HPs.out.grew hg2) hV.iat (.inl (by rw [hE, hV.len, hn2]; have := HS.out.few; have := HN.out; omega)))
      rw [hE, hV.len, decide_eq_true rfl] at HIn
      have HI2 := hid (Calls.after (Grew.refl w2) HIn.out)
      have HNl := hid (fun w' (hg : Grew w w') => (show Calls Tryz.prog 8 #[.nilIface] w' _ from HNm.out 0 w' hg))
      clear hg2 hV hSy hE hW' hn2 HIn HNm
      go_wp2_with fail
      refine HI2.out.mono ?_
      rintro e w3 ⟨rfl, y3, rfl⟩
      go_wp2_with fail
      refine (HNl.out _ (G2.out.trans y3.grew)).mono ?_
      rintro e w4 ⟨rfl, y4, rfl⟩
      go_wp2_with fail
      refine (HZ.out _ ((G2.out.trans y3.grew).trans y4.grew)).mono ?_
      rintro e w5 ⟨rfl, y5, rfl⟩
      go_wp2_with fail
      go_ret
      exact ⟨rfl, ((G2.out.trans y3.grew).trans y4.grew).trans y5.grew⟩
  · have HPo := hid (post_bad h hb)
    have HBd := hid hb
    rw [← en] at HPo HRp ⊢
    have hcase : (decide ((60 : Int) < n0) = false) ∨ ((60 : Int) < n0 ∧ decide ((n0 : Int) ≤ 512) = false) := by
      by_cases h1 : (60 : Int) < n0
      · exact .inr ⟨h1, by rw [decide_eq_false_iff_not]; omega⟩
      · exact .inl (by rw [decide_eq_false_iff_not]; exact h1)
    have HNk : Hid (∀ w', Grew w w' → Calls Tryz.prog 8 #[.iface 45 (.int .i64 ((k : Nat) : Int))] w' fun e w'' => e = .returned (.int .i64 ((k : Nat) : Int)) ∧ ∃ y : After w', w'' = y.w) := hid (fun w' hg => by
      have := HNm.out k w' hg
      rwa [show errVal k = .iface 45 (.int .i64 k) by unfold errVal; rw [if_neg hb.ne]] at this)
    have HIn := hid (fun w' => Calls.after (Grew.refl w') (ints8_c none 0 [] none 0 [] w' (fun h => absurd h (by simp)) (fun h => absurd h (by simp)) (.inl (by simp))))
    rw [show (decide (([] : List Int) = [])) = true by simp] at HIn
    simp only [List.length_nil] at HIn
    clear h hb en hs1 hs2 HNm
    rcases hcase with f1 | ⟨f1, f2⟩
    all_goals
      go_enter Tryz.func3, Tryz.ntmps3
      go_wp2_with fail
      refine HPo.out.mono ?_
      clear HPo
      rintro e w1 ⟨rfl, hg1⟩
      have G1 := hid hg1
      clear hg1
      go_wp2_with fail
      refine (HRp.out _ G1.out).mono ?_
      clear HRp
      rintro e w2 (⟨k', rfl, hbad, hg2⟩ | ⟨g2, n2, l', os', G', D', V, rfl, hW', _, _, _, hg2⟩)
      · obtain rfl := bad_uniq hbad HBd.out
        have G2 := hid (G1.out.trans hg2)
        clear hbad hg2
        go_wp2_with fail
        refine (HIn.out _).mono ?_
        rintro e w3 ⟨rfl, y3, rfl⟩
        go_wp2_with fail
        refine (HNk.out _ (G2.out.trans y3.grew)).mono ?_
        rintro e w4 ⟨rfl, y4, rfl⟩
        go_wp2_with fail
        refine (HZ.out _ ((G2.out.trans y3.grew).trans y4.grew)).mono ?_
        rintro e w5 ⟨rfl, y5, rfl⟩
        go_wp2_with fail
        go_ret
        exact ⟨rfl, ((G2.out.trans y3.grew).trans y4.grew).trans y5.grew⟩
      · exact (HBd.out.not_well hW').elim
end Go.Proofs.YtilikjfjbnabfaaGreatDoor

/- Stage 8: slices.Index over sets, postdominators; decode, analyze, Check, Depths, Next, Post; law 08's ints, branch, sure. -/
import Derived.Test.YtilikjfjbnabfaaGreatDoorFlB
import Derived.Test.YtilikjfjbnabfaaGreatDoorFlU
import Derived.Test.YtilikjfjbnabfaaGreatDoorLawNum
import Derived.Test.YtilikjfjbnabfaaGreatDoorOp12
import Derived.BigQuiet
namespace Go.Proofs.YtilikjfjbnabfaaGreatDoor
open Go.RowKit

theorem find_step {S : List (List Nat)} {s : List Nat} {n i : Nat} (hS : S.length = n) (hi : i < n) : Fl.find S s (n - i) = if S.getD i Fl.full = s then ((i : Nat) : Int) else Fl.find S s (n - (i + 1)) := by
  obtain ⟨f, hf⟩ : ∃ f, n - i = f + 1 := ⟨n - i - 1, by omega⟩
  rw [hf, show n - (i + 1) = f by omega]
  show (if S.length < f + 1 then (-1 : Int) else if S.getD (S.length - (f + 1)) Fl.full = s then ((S.length - (f + 1) : Nat) : Int) else Fl.find S s f) = _
  rw [if_neg (by omega), hS, show n - (f + 1) = i by omega]
set_option maxRecDepth 100000 in
set_option maxHeartbeats 2000000 in
theorem index_c (B g n : Nat) (S : List (List Nat)) (s : List Nat) (w : World) (h : SetsAt w B g n S) (hs : s.length = 9) (hn : n ≤ 1000) :
    Calls Tryz.prog 25 #[.slice (some ⟨g, 0, none⟩) n n, setVal s] w (fun e w' => e = .returned (.int .i64 (Fl.indexOf S s)) ∧ Grew w w') := by
  have H := hid h
  have HL := hid hs
  have HE : Hid (Fl.indexOf S s = Fl.find S s (n - 0)) := hid (by unfold Fl.indexOf; rw [h.oks.1]; rfl)
  have HN := hid h.oks.1
  have HB := hid (Blk.new w 66 (setCs s))
  have HG := hid ((Grew.refl w).alloc (.cells (setCs s) 66))
  clear h hs
  show Calls _ _ #[_, .agg (setCs s)] w _
  go_enter Tryz.func25, Tryz.ntmps25
  go_wp2_with fail
  go_loopw [8] (fun s8 wr => ∃ i : Nat, s8 = .int .i64 ((i : Nat) : Int) ∧ i ≤ n ∧ Hid (Fl.indexOf S s = Fl.find S s (n - i) ∧ Blk wr w.heap.size 66 (setCs s)) ∧ (∃ y : After w, wr = y.w)) (fun s8 _ => n - (intOf s8).toNat)
  case atStart => exact ⟨0, rfl, Nat.zero_le _, hid ⟨HE.out, HB.out⟩, HG.out⟩
  case round =>
    clear HE HB HG
    obtain ⟨i, rfl, hi, HI, y, rfl⟩ := hrel
    by_cases hlt : i < n
    · have f1 : (i : Int) < n := by omega
      have HR := hid ((H.out.grew y.grew).range i hlt)
      have HLo := hid (H.out.oks.at i).1
      have HF := hid (find_step (s := s) HN.out hlt)
      obtain ⟨old, hold⟩ : ∃ old, old = S.getD i Fl.full := ⟨_, rfl⟩
      rw [← hold] at HR HLo HF
      clear hold
      obtain ⟨d, hd⟩ : ∃ d, d = decide (s = old) := ⟨_, rfl⟩
      have HDd := hid hd
      clear hd
      go_wp2_with fail
      refine wp_region_still_lit (by kernel_rfl) (by kernel_rfl) ?_
      refine wpStill_loadM _ rfl rfl w.heap.size 0 s rfl HL.out (range_drew (range_blk HI.out.2)) ?_
      still_step
      still_step
      still_step
      refine wpStill_loadM _ rfl rfl g (i * 9) old rfl HLo.out (range_drew HR.out) ?_
      refine wpStill_eqlW _ _ rfl rfl s old rfl rfl HL.out HLo.out d HDd.out ?_
      refine wpStill_nil ?_
      cases d
      · have hne : ¬ old = s := fun e => by have := HDd.out; simp [e] at this
        go_wp2_with fail
        go_round
        case rel => exact ⟨i + 1, by go_num, by omega, hid ⟨by rw [HI.out.1, HF.out, if_neg hne], HI.out.2⟩, y.grew.drew⟩
        case measure => simp [intOf]; omega
      · have he : old = s := by have := HDd.out; simp at this; exact this.symm
        have HX : Hid (Fl.indexOf S s = ((i : Nat) : Int)) := hid (by rw [HI.out.1, HF.out, if_pos he])
        clear he
        go_wp2_with fail
        go_ret
        exact ⟨ret_int HX.out.symm, y.grew.drew⟩
    · obtain rfl : i = n := by omega
      have HX : Hid (Fl.indexOf S s = -1) := hid (by rw [HI.out.1, Nat.sub_self]; rfl)
      go_wp2_with fail
      go_ret
      exact ⟨ret_int HX.out.symm, y.grew⟩
theorem postOf_eq {S : List (List Nat)} {n : Nat} {D : List Int} (hS : S.length = n) (hD : D.length = n) (h : ∀ j, j < n → D.getD j 0 = Fl.indexOf S (Fl.rem (S.getD j Fl.full) j)) : D = Fl.postOf S := by
  unfold Fl.postOf
  apply List.ext_getElem (by simp [hS, hD])
  intro j h1 h2
  have := h j (by omega)
  rw [List.getD_eq_getElem?_getD, List.getElem?_eq_getElem h1] at this
  simpa using this
theorem int_zero (n : Nat) : List.replicate n (Value.int .i64 0) = intCells (List.replicate n 0) := by simp [intCells]
theorem RowD.len {w : World} {B g n : Nat} {D : List Int} (h : RowD w B g n D) : D.length = n := by
  have := h.1
  rw [intCells_len] at this
  omega
theorem RowD.grew' {w w' : World} {B g n : Nat} {D : List Int} (h : RowD w B g n D) (hg : Grew w w') : RowD w' B g n D := Row.grew h hg
theorem RowD.lt' {w : World} {B g n : Nat} {D : List Int} (h : RowD w B g n D) : B ≤ g ∧ g < w.heap.size := Row.lt' h
theorem RowD.set {w : World} {B g n : Nat} {D : List Int} (h : RowD w B g n D) (i : Nat) (x : Int) : RowD (w.setCell ⟨g, i, none⟩ (.int .i64 x)) B g n (D.set i x) := by
  have := Row.set h i (.int .i64 x)
  rw [intCells_set] at this
  exact this
set_option maxRecDepth 100000 in
set_option maxHeartbeats 4000000 in
theorem pd_c (B g n : Nat) (vs : List Value) (G : List (List Nat)) (w : World) (h : GraphAt w B g n vs G) (hv : vs.length = n) (hgl : G.length = n) (hs : ∀ s ∈ G, ∀ i ∈ s, i < n) (hs2 : ∀ s ∈ G, s.length ≤ 1000) (hn1 : 1 ≤ n) (hn : n ≤ 512) :
    Calls Tryz.prog 14 #[.slice (some ⟨g, 0, none⟩) n n] w (fun e w' => ∃ g' S, e = .returned (.slice (some ⟨g', 0, none⟩) n n) ∧ RowD w' w.heap.size g' n (Fl.postOf S) ∧ Fl.Sweeps G (List.replicate n Fl.full) S ∧ Grew w w') := by
  have HEv := hid (every_c B g n vs G w h hv hgl hs hs2 hn1 hn)
  clear h hv hgl hs hs2
  go_enter Tryz.func14, Tryz.ntmps14
  go_wp2_with fail
  refine HEv.out.mono ?_
  rintro e w1 ⟨gS, S, rfl, hS, hSw, hg1⟩
  have HSt := hid hS
  have HSw := hid hSw
  have HG1 := hid hg1
  have HN := hid hS.oks.1
  have HlS := hid hS.lt
  obtain ⟨W2, hmk, hR1, hG1, hlt1⟩ := make_one (z := .int .i64 0) Tryz.underlying24 op_int rfl (by decide) n (by omega) w1
  rw [int_zero] at hR1
  obtain ⟨gP, hgP⟩ : ∃ gP, gP = w1.heap.size := ⟨_, rfl⟩
  rw [← hgP] at hmk hR1 hlt1
  have HP : Hid (RowD W2 w1.heap.size gP n (List.replicate n 0)) := hid (by rw [← hgP]; exact hR1)
  have HG2 := hid hG1
  have HgP := hid hgP
  clear hS hSw hg1 HEv hG1 hR1 hlt1 hgP
  go_wp2_with fail
  clear hmk
  go_loopw [14] (fun s14 wr => ∃ (i : Nat) (D : List Int), s14 = .int .i64 ((i : Nat) : Int) ∧ i ≤ n ∧ Hid (RowD wr w1.heap.size gP n D ∧ ∀ j, j < i → D.getD j 0 = Fl.indexOf S (Fl.rem (S.getD j Fl.full) j)) ∧ (∃ y : After w1, wr = y.w)) (fun s14 _ => n - (intOf s14).toNat)
  case atStart => exact ⟨0, _, rfl, Nat.zero_le _, hid ⟨HP.out, fun j hj => by omega⟩, HG2.out⟩
  case round =>
    clear HP HG2
    obtain ⟨i, D, rfl, hi, HI, y, rfl⟩ := hrel
    by_cases hlt : i < n
    · have f1 : (i : Int) < n := by omega
      have HSy := hid (HSt.out.grew y.grew)
      have HR := hid (HSy.out.range i hlt)
      have HOk := hid (HSy.out.oks.at i)
      have HST := hid (fun (j : Nat) (hj : j = i) => (show Fl.indexOf S (Fl.rem (S.getD i Fl.full) i) = Fl.indexOf S (Fl.rem (S.getD j Fl.full) j) by rw [hj]))
      obtain ⟨old, hold⟩ : ∃ old, old = S.getD i Fl.full := ⟨_, rfl⟩
      rw [← hold] at HR HOk HST
      clear hold
      have HWo := hid (fun w' => without_c old i w' HOk.out (by omega))
      have HRem := hid (Fl.rem_ok HOk.out i)
      obtain ⟨rm, hrm⟩ : ∃ rm, rm = Fl.rem old i := ⟨_, rfl⟩
      rw [← hrm] at HWo HRem HST
      clear hrm
      have HIx := hid (fun w' (hg : Grew w1 w') => index_c w.heap.size gS n S rm w' (HSt.out.grew hg) HRem.out.1 (by omega))
      obtain ⟨v, hv⟩ : ∃ v, v = Fl.indexOf S rm := ⟨_, rfl⟩
      rw [← hv] at HIx HST
      clear hv
      go_wp2_with (first | (refine wpList_loadM _ rfl rfl gS (i * 9) old rfl HOk.out.1 HR.out ?_) | (refine wpList_storeN _ _ rfl rfl old rfl rfl HOk.out.1 ?_) | (refine wpList_loadS _ rfl rfl y.w.heap.size old rfl HOk.out.1 (Blk.new _ _ _) ?_))
      refine (Calls.after ((Grew.refl y.w).alloc _) (HWo.out _)).mono ?_
      rintro e w3 ⟨rfl, y3, rfl⟩
      go_wp2_with fail
      refine (Calls.after y3.grew (HIx.out _ (y.grew.trans y3.grew))).mono ?_
      rintro e w4 ⟨rfl, y4, rfl⟩
      have HD4 := hid (RowD.grew' HI.out.1 y4.grew)
      obtain ⟨qc, qf⟩ := HD4.out.at i hlt
      have hgl := HD4.out.lt'
      go_wp2_with fail
      go_round
      case rel =>
        refine ⟨i + 1, D.set i v, by go_num, by omega, hid ⟨HD4.out.set i v, fun j hj => ?_⟩, (y.grew.trans y4.grew).setCell (p := ⟨gP, i, none⟩) hgl.1 _⟩
        rw [Fl.getD_set]
        by_cases e : i = j
        · rw [if_pos ⟨e, by rw [HD4.out.len]; omega⟩]
          exact HST.out j e.symm
        · rw [if_neg (fun h => e h.1)]
          exact HI.out.2 j (by omega)
      case measure => simp [intOf]; omega
    · obtain rfl : i = n := by omega
      have HX : Hid (D = Fl.postOf S) := hid (postOf_eq HN.out HI.out.1.len HI.out.2)
      go_wp2_with fail
      go_ret
      exact ⟨gP, S, rfl, by rw [← HX.out]; exact Row.low HI.out.1 HG1.out.below.size, HSw.out, HG1.out.trans y.grew⟩
end Go.Proofs.YtilikjfjbnabfaaGreatDoor
namespace Go.Proofs.YtilikjfjbnabfaaGreatDoor
open Go.RowKit

theorem offsF_up (k : Nat) (l : List Op7.Ins) : (Op7.offsF k l).Pairwise (· < ·) := by
  induction l generalizing k with
  | nil => exact List.Pairwise.nil
  | cons o l ih =>
    have hp := Op7.size_pos o.code
    simp only [Op7.offsF, List.pairwise_cons]
    refine ⟨fun x hx => ?_, ih _⟩
    have : ∀ (k : Nat) (l : List Op7.Ins), ∀ x ∈ Op7.offsF k l, k ≤ x := by
      intro k l
      induction l generalizing k with
      | nil => simp [Op7.offsF]
      | cons o l ih =>
        intro x hx
        simp only [Op7.offsF, List.mem_cons] at hx
        rcases hx with rfl | hx
        · exact Nat.le_refl _
        · have := ih _ x hx
          omega
    have := this _ _ x hx
    omega
theorem decR_ok {b : List Nat} {l : List Op7.Ins} {os : List Nat} (hb : ∀ x ∈ b, x < 256) (h : Op7.decR b = (l, os, 0)) : os = Op7.offs l ∧ (∀ o ∈ l, Op7.valid o) ∧ b = Op7.encs l ∧ b.length ≤ 512 := by
  unfold Op7.decR at h
  split at h
  · simp at h
  · rename_i h5
    cases hd : Op7.dec b with
    | none => rw [hd] at h; simp at h
    | some m =>
      rw [hd] at h
      simp only [Prod.mk.injEq] at h
      obtain ⟨rfl, rfl, _⟩ := h
      obtain ⟨h1, h2⟩ := Op7.dec_some hb hd
      exact ⟨rfl, h1, h2, by omega⟩
theorem valid_fit {o : Op7.Ins} (h : Op7.valid o) : 0 ≤ o.a ∧ 0 ≤ o.b ∧ o.b ≤ 65536 := by
  obtain ⟨_, ⟨a0, _⟩, b0, b1⟩ := h
  refine ⟨a0, b0, ?_⟩
  have hw := (Op7.wid_le o.code).2
  have : ((256 : Int) ^ (Op7.wid o.code).2) ≤ 256 ^ 2 := by
    rcases (by omega : (Op7.wid o.code).2 = 0 ∨ (Op7.wid o.code).2 = 1 ∨ (Op7.wid o.code).2 = 2) with e | e | e <;> rw [e] <;> decide
  omega
/-- What 'decode' answers. -/
def DcPost (w : World) (b : List Nat) (e : Ending) (w' : World) : Prop :=
  (∃ l os k, e = .returned (.tuple #[.agg #[.slice none 0 0, .slice none 0 0], .iface 45 (.int .i64 ((k : Nat) : Int))]) ∧ Op7.decR b = (l, os, k) ∧ k ≠ 0 ∧ Grew w w') ∨
  ∃ A1 c1 A2 c2 n l os, e = .returned (.tuple #[.agg #[.slice A1 n c1, .slice A2 n c2], .nilIface]) ∧ Op7.decR b = (l, os, 0) ∧ CodeAt w' A1 A2 c2 n l os ∧ n ≤ c1 ∧ c1 ≤ 9223372036854775807 ∧ Grew w w'
set_option maxRecDepth 100000 in
set_option maxHeartbeats 2000000 in
theorem decode_c (A : Option Addr) (c : Nat) (bs : List Nat) (w : World) (h : BytesAt w w.heap.size A bs) (hT : TabAt w) (hc : bs.length ≤ c) (hc2 : c ≤ 9223372036854775807) :
    Calls Tryz.prog 20 #[.slice A bs.length c] w (DcPost w bs) := by
  have HB := hid h.1
  have hg0 := (Grew.refl w).alloc (.cells #[.slice none 0 0, .slice none 0 0] 54)
  have HD := hid (odecode_c A c bs (w.alloc (.cells #[.slice none 0 0, .slice none 0 0] 54)) (h.grew hg0) (hT.grew hg0) hc hc2)
  have HG := hid hg0
  have HBk := hid (Blk.new w 54 #[.slice none 0 0, .slice none 0 0])
  clear h hT hg0 hc hc2
  generalize bs.length = n0 at *
  go_enter Tryz.func20, Tryz.ntmps20
  go_wp2_with fail
  refine HD.out.mono ?_
  rintro e w1 ⟨A1, c1, A2, c2, L, rfl, hL, hI, hN, y1, rfl⟩
  have HG1 := hid (HG.out.trans y1.grew)
  have HB1 := hid (HBk.out.grew y1.grew)
  obtain ⟨l, os, k, hr⟩ : ∃ l os k, Op7.decR bs = (l, os, k) := ⟨_, _, _, rfl⟩
  rw [hr] at hL hN ⊢
  simp only at hL hN ⊢
  subst hL
  have HR := hid hr
  have q0 := HB1.out.cell 0
  have q1 := HB1.out.cell 1
  have q2 := HB1.out.frozen 0
  have q3 := HB1.out.frozen 1
  simp only [List.getElem?_toArray, List.getElem?_cons_zero, List.getElem?_cons_succ] at q0 q1
  clear hr HD
  by_cases hk : k = 0
  · subst hk
    obtain ⟨rfl, hv, hbe, h5⟩ := decR_ok HB.out HR.out
    have hll : L.length ≤ 512 := by
      have := Op7.encs_long L
      rw [← hbe] at this
      omega
    obtain ⟨n, hn⟩ : ∃ n, n = L.length := ⟨_, rfl⟩
    have hcap := hI.1.cases
    have HX : Hid (∀ w', Kept (fun k => k = w.heap.size) y1.w w' → CodeAt w' A1 A2 c2 n L (Op7.offs L)) := hid (fun w' hk => ⟨RowI.ops ⟨hI.1.kept hk (fun g e1 e2 => by have := Row.at_base hI.1 g ⟨_, e1, rfl⟩; simp only [World.size_alloc] at this; omega), hI.2⟩, Row.low (Row.kept hN hk (fun g e1 e2 => by have := Row.at_base hN g ⟨_, e1, rfl⟩; simp only [World.size_alloc] at this; omega)) (Nat.zero_le _), hn, by rw [hn, Op7.offs_len], offsF_up 0 L, by omega, fun o ho => valid_fit (hv o ho)⟩)
    have HC1 : Hid (n ≤ c1 ∧ c1 ≤ 9223372036854775807) := hid ⟨by rw [hn]; exact hcap.2.1, hcap.2.2.1⟩
    rw [show errVal 0 = .nilIface from rfl, ← hn]
    clear hI hN hv hbe h5 hll hn hcap
    go_wp2_with fail
    refine bodyPost_ret (v := .tuple #[.agg #[.slice A1 n c1, .slice A2 n c2], .nilIface]) ?_ rfl ?_
    · simp [results, Tryz.results20, go_sem, *]
    · have hK := ((Kept.refl (fun k => k = w.heap.size) y1.w).setCell (p := ⟨w.heap.size, 0, none⟩) (fun _ => rfl) (.slice A1 n c1)).setCell (p := ⟨w.heap.size, 1, none⟩) (fun _ => rfl) (.slice A2 n c2)
      exact .inr ⟨_, _, _, _, _, _, _, rfl, HR.out, HX.out _ hK, HC1.out.1, HC1.out.2, hK.grew HG1.out (fun k e => by subst e; exact Nat.le_refl _)⟩
  · rw [show errVal k = .iface 45 (.int .i64 k) by unfold errVal; rw [if_neg hk]]
    have HK := hid hk
    clear hI hN hk
    go_wp2_with fail
    refine bodyPost_ret (v := .tuple #[.agg #[.slice none 0 0, .slice none 0 0], .iface 45 (.int .i64 k)]) ?_ rfl ?_
    · simp [results, Tryz.results20, go_sem, *]
    · have hK := ((Kept.refl (fun k => k = w.heap.size) y1.w).setCell (p := ⟨w.heap.size, 0, none⟩) (fun _ => rfl) (.slice none 0 0)).setCell (p := ⟨w.heap.size, 1, none⟩) (fun _ => rfl) (.slice none 0 0)
      exact .inl ⟨_, _, _, rfl, HR.out, HK.out, hK.grew HG1.out (fun k e => by subst e; exact Nat.le_refl _)⟩
/-- What 'analyze' answers. -/
def AnPost (w : World) (b : List Nat) (e : Ending) (w' : World) : Prop :=
  (∃ k, e = .returned (.tuple #[.slice none 0 0, .slice none 0 0, .iface 45 (.int .i64 ((k : Nat) : Int))]) ∧ Fl.Bad b k ∧ Grew w w') ∨
  ∃ gG gD n vs l os G D, e = .returned (.tuple #[.slice (some ⟨gG, 0, none⟩) n n, .slice (some ⟨gD, 0, none⟩) n n, .nilIface]) ∧ Fl.Well b l os G D ∧ n = l.length ∧ os.length = l.length ∧ n ≤ 512 ∧ vs.length = n ∧ GraphAt w' w.heap.size gG n vs G ∧ RowD w' w.heap.size gD n D ∧ Grew w w'
theorem GraphAt.low {w : World} {B B' g c : Nat} {vs : List Value} {G : List (List Nat)} (h : GraphAt w B g c vs G) (hB : B' ≤ B) : GraphAt w B' g c vs G := ⟨h.row.low hB, h.each⟩
set_option maxRecDepth 100000 in
set_option maxHeartbeats 4000000 in
theorem analyze_c (A : Option Addr) (c : Nat) (bs : List Nat) (w : World) (h : BytesAt w w.heap.size A bs) (hT : TabAt w) (hc : bs.length ≤ c) (hc2 : c ≤ 9223372036854775807) :
    Calls Tryz.prog 13 #[.slice A bs.length c] w (AnPost w bs) := by
  have HD := hid (decode_c A c bs w h hT hc hc2)
  clear h hT hc hc2
  generalize bs.length = n0 at *
  go_enter Tryz.func13, Tryz.ntmps13
  go_wp2_with fail
  refine HD.out.mono ?_
  clear HD
  rintro e w1 (⟨l, os, k, rfl, hr, hk, hg1⟩ | ⟨A1, c1, A2, c2, n, l, os, rfl, hr, hC, hn1, hn2, hg1⟩)
  · have HX : Hid (Fl.Bad bs k) := hid ⟨l, os, .inl ⟨hr, hk⟩⟩
    have HG := hid (hg1.alloc (.cells #[.slice none 0 0, .slice none 0 0] 54))
    clear hr hk hg1
    go_wp2_with fail
    go_ret3
    exact .inl ⟨k, rfl, HX.out, HG.out⟩
  · have HR := hid hr
    have HC := hid hC
    have HG := hid hg1
    have HG2 := hid (hg1.alloc (.cells #[.slice A1 n c1, .slice A2 n c2] 54))
    have HGC := hid (graph_c A1 c1 A2 c2 n l os (w1.alloc (.cells #[.slice A1 n c1, .slice A2 n c2] 54)) (hC.grew ((Grew.refl _).alloc _)))
    clear hr hC hg1
    go_wp2_with fail
    refine HGC.out.mono ?_
    clear HGC
    rintro e w2 (⟨rfl, hgr, hg2⟩ | ⟨gG, vs, G, rfl, hgr, hvl, hGA, y2, rfl⟩)
    · have HX : Hid (Fl.Bad bs 8) := hid ⟨l, os, .inr ⟨HR.out, rfl, .inl hgr⟩⟩
      have HG3 := hid (HG2.out.trans hg2)
      clear hgr hg2
      go_wp2_with fail
      go_ret3
      exact .inl ⟨8, rfl, HX.out, HG3.out⟩
    · have hl1 := HC.out.l1
      have hl2 := HC.out.l2
      have hol : os.length = l.length := by omega
      have HGl := hid hgr
      have HGA := hid hGA
      have HVl := hid hvl
      have HP := hid (Fl.graph_parts hgr)
      have hne : 1 ≤ n := by
        have := List.length_pos_iff.2 HP.out.1
        omega
      have HDC := hid (fun w' (hg : Grew y2.w w') => depths_c A1 c1 A2 c2 n gG (w1.alloc (.cells #[.slice A1 n c1, .slice A2 n c2] 54)).heap.size l os vs G w' (HC.out.grew (((Grew.refl w1).alloc _).trans (y2.grew.trans hg))) (hGA.grew hg) hvl (by rw [HP.out.2.1]; omega) (fun s hs i hi => by have := Fl.graph_lt' hol hgr s hs i hi; omega) hne)
      have HG3 := hid (HG2.out.trans y2.grew)
      have HNL := hid (show n = l.length ∧ os.length = l.length ∧ n ≤ 512 from ⟨hl1, hol, HC.out.few⟩)
      clear hgr hvl hGA hl1 hl2 hol HP
      go_wp2_with fail
      refine (HDC.out _ (Grew.refl _)).mono ?_
      clear HDC
      rintro e w3 (⟨rfl, hdr, hg3⟩ | ⟨gD, D, rfl, hdr, hRD, hg3⟩)
      · have HX : Hid (Fl.Bad bs 8) := hid ⟨l, os, .inr ⟨HR.out, rfl, .inr ⟨G, HGl.out, hdr⟩⟩⟩
        have HG4 := hid (HG3.out.trans hg3)
        clear hdr hg3
        go_wp2_with fail
        go_ret3
        exact .inl ⟨8, rfl, HX.out, HG4.out⟩
      · have HX : Hid (Fl.Well bs l os G D) := hid ⟨HR.out, HGl.out, hdr⟩
        have HRD := hid hRD
        have HG4 := hid hg3
        clear hdr hRD hg3
        go_wp2_with fail
        go_ret3
        exact .inr ⟨gG, gD, n, vs, l, os, G, D, rfl, HX.out, HNL.out.1, HNL.out.2.1, HNL.out.2.2, HVl.out, (HGA.out.grew HG4.out).low HG2.out.below.size, Row.low HRD.out HG3.out.below.size, HG3.out.trans HG4.out⟩
end Go.Proofs.YtilikjfjbnabfaaGreatDoor
namespace Go.Proofs.YtilikjfjbnabfaaGreatDoor
open Go.RowKit

theorem Fl.Bad.uniq {b : List Nat} {k k' : Nat} (h : Fl.Bad b k) (h' : Fl.Bad b k') : k = k' := by
  obtain ⟨l, os, h⟩ := h
  obtain ⟨l', os', h'⟩ := h'
  rcases h with ⟨h1, h2⟩ | ⟨h1, rfl, _⟩ <;> rcases h' with ⟨k1, k2⟩ | ⟨k1, rfl, _⟩
  · rw [h1] at k1
    simp only [Prod.mk.injEq] at k1
    exact k1.2.2
  · rw [h1] at k1
    simp only [Prod.mk.injEq] at k1
    exact absurd k1.2.2 h2
  · rw [h1] at k1
    simp only [Prod.mk.injEq] at k1
    exact absurd k1.2.2.symm k2
  · rfl
theorem well_or_bad (b : List Nat) : (∃ l os G D, Fl.Well b l os G D) ∨ ∃ k, Fl.Bad b k := by
  obtain ⟨l, os, k, hr⟩ : ∃ l os k, Op7.decR b = (l, os, k) := ⟨_, _, _, rfl⟩
  by_cases hk : k = 0
  · subst hk
    cases hg : Fl.graph l os with
    | none => exact .inr ⟨8, l, os, .inr ⟨hr, rfl, .inl hg⟩⟩
    | some G =>
      cases hd : Fl.depths l G with
      | none => exact .inr ⟨8, l, os, .inr ⟨hr, rfl, .inr ⟨G, hg, hd⟩⟩⟩
      | some D => exact .inl ⟨l, os, G, D, hr, hg, hd⟩
  · exact .inr ⟨k, l, os, .inl ⟨hr, hk⟩⟩
section
variable {A : Option Addr} {c : Nat} {bs : List Nat} {w : World} {l : List Op7.Ins} {os : List Nat} {G : List (List Nat)} {D : List Int} {k : Nat}
/-- Bytes as an argument. -/
structure Arg (w : World) (A : Option Addr) (c : Nat) (bs : List Nat) : Prop where
  at_ : BytesAt w w.heap.size A bs
  tab : TabAt w
  cap : bs.length ≤ c
  max : c ≤ 9223372036854775807
theorem Arg.grew {w' : World} (h : Arg w A c bs) (hg : Grew w w') : Arg w' A c bs := ⟨h.at_.grew hg, h.tab.grew hg, h.cap, h.max⟩
def OkAn (w : World) (G : List (List Nat)) (D : List Int) (l : List Op7.Ins) (e : Ending) (w' : World) : Prop :=
  ∃ gG gD n vs, e = .returned (.tuple #[.slice (some ⟨gG, 0, none⟩) n n, .slice (some ⟨gD, 0, none⟩) n n, .nilIface]) ∧ n = l.length ∧ n ≤ 512 ∧ vs.length = n ∧ GraphAt w' w.heap.size gG n vs G ∧ RowD w' w.heap.size gD n D ∧ Grew w w'
theorem an_ok (h : Arg w A c bs) (hW : Fl.Well bs l os G D) : Calls Tryz.prog 13 #[.slice A bs.length c] w (OkAn w G D l) :=
  (analyze_c A c bs w h.at_ h.tab h.cap h.max).mono fun e w' hp => by
    rcases hp with ⟨k, _, hb, _⟩ | ⟨gG, gD, n, vs, l', os', G', D', h1, hW', h2, _, h3, h4, h5, h6, h7⟩
    · exact (hb.not_well hW).elim
    · obtain ⟨rfl, rfl, rfl, rfl⟩ := hW.uniq hW'
      exact ⟨gG, gD, n, vs, h1, h2, h3, h4, h5, h6, h7⟩
theorem an_bad (h : Arg w A c bs) (hb : Fl.Bad bs k) : Calls Tryz.prog 13 #[.slice A bs.length c] w fun e w' => e = .returned (.tuple #[.slice none 0 0, .slice none 0 0, .iface 45 (.int .i64 ((k : Nat) : Int))]) ∧ Grew w w' :=
  (analyze_c A c bs w h.at_ h.tab h.cap h.max).mono fun e w' hp => by
    rcases hp with ⟨k', h1, hb', h2⟩ | ⟨gG, gD, n, vs, l', os', G', D', h1, hW', _⟩
    · obtain rfl := hb.uniq hb'
      exact ⟨h1, h2⟩
    · exact (hb.not_well hW').elim
theorem Fl.Well.os_len {b : List Nat} (h : Fl.Well b l os G D) : os.length = l.length := by
  have := h.dec
  unfold Op7.decR at this
  split at this
  · simp at this
  · split at this
    · simp at this
    · simp only [Prod.mk.injEq] at this
      obtain ⟨rfl, rfl, _⟩ := this
      exact Op7.offs_len _
theorem Fl.Well.few {b : List Nat} (hb : ∀ x ∈ b, x < 256) (h : Fl.Well b l os G D) : 1 ≤ l.length ∧ l.length ≤ 512 := by
  obtain ⟨_, _, h3, h4⟩ := decR_ok hb h.dec
  have := Op7.encs_long l
  have := List.length_pos_iff.2 h.parts.1
  rw [h3] at h4
  omega
set_option maxRecDepth 100000 in
set_option maxHeartbeats 1000000 in
theorem check_ok (h : Arg w A c bs) (hW : Fl.Well bs l os G D) : Calls Tryz.prog 12 #[.slice A bs.length c] w fun e w' => e = .returned .nilIface ∧ Grew w w' := by
  have HC := hid (an_ok h hW)
  clear h hW
  generalize bs.length = n0 at *
  go_enter Tryz.func12, Tryz.ntmps12
  go_wp2_with fail
  refine HC.out.mono ?_
  rintro e w1 ⟨gG, gD, n, vs, rfl, _, _, _, _, _, hg⟩
  go_wp2_with fail
  go_ret
  exact ⟨rfl, hg⟩
set_option maxRecDepth 100000 in
set_option maxHeartbeats 1000000 in
theorem check_bad (h : Arg w A c bs) (hb : Fl.Bad bs k) : Calls Tryz.prog 12 #[.slice A bs.length c] w fun e w' => e = .returned (.iface 45 (.int .i64 ((k : Nat) : Int))) ∧ Grew w w' := by
  have HC := hid (an_bad h hb)
  clear h hb
  generalize bs.length = n0 at *
  go_enter Tryz.func12, Tryz.ntmps12
  go_wp2_with fail
  refine HC.out.mono ?_
  rintro e w1 ⟨rfl, hg⟩
  go_wp2_with fail
  go_ret
  exact ⟨rfl, hg⟩
def OkDp (w : World) (D : List Int) (l : List Op7.Ins) (e : Ending) (w' : World) : Prop :=
  ∃ g n, e = .returned (.tuple #[.slice (some ⟨g, 0, none⟩) n n, .nilIface]) ∧ n = l.length ∧ RowD w' w.heap.size g n D ∧ Grew w w'
set_option maxRecDepth 100000 in
set_option maxHeartbeats 1000000 in
theorem depths_ok (h : Arg w A c bs) (hW : Fl.Well bs l os G D) : Calls Tryz.prog 9 #[.slice A bs.length c] w (OkDp w D l) := by
  have HC := hid (an_ok h hW)
  clear h hW
  generalize bs.length = n0 at *
  go_enter Tryz.func9, Tryz.ntmps9
  go_wp2_with fail
  refine HC.out.mono ?_
  rintro e w1 ⟨gG, gD, n, vs, rfl, hn, _, _, _, hD, hg⟩
  have HX := hid (show n = l.length ∧ RowD w1 w.heap.size gD n D ∧ Grew w w1 from ⟨hn, hD, hg⟩)
  clear hn hD hg
  go_wp2_with fail
  go_ret2
  exact ⟨gD, n, rfl, HX.out⟩
set_option maxRecDepth 100000 in
set_option maxHeartbeats 1000000 in
theorem depths_bad (h : Arg w A c bs) (hb : Fl.Bad bs k) : Calls Tryz.prog 9 #[.slice A bs.length c] w fun e w' => e = .returned (.tuple #[.slice none 0 0, .iface 45 (.int .i64 ((k : Nat) : Int))]) ∧ Grew w w' := by
  have HC := hid (an_bad h hb)
  clear h hb
  generalize bs.length = n0 at *
  go_enter Tryz.func9, Tryz.ntmps9
  go_wp2_with fail
  refine HC.out.mono ?_
  rintro e w1 ⟨rfl, hg⟩
  go_wp2_with fail
  go_ret2
  exact ⟨rfl, hg⟩
def OkPo (w : World) (G : List (List Nat)) (l : List Op7.Ins) (e : Ending) (w' : World) : Prop :=
  ∃ g n S, e = .returned (.tuple #[.slice (some ⟨g, 0, none⟩) n n, .nilIface]) ∧ n = l.length ∧ RowD w' w.heap.size g n (Fl.postOf S) ∧ Fl.Sweeps G (List.replicate n Fl.full) S ∧ Fl.Sets G S n ∧ Grew w w'
theorem succ_few {l : List Op7.Ins} {os : List Nat} {i : Nat} {s : List Nat} (h : Fl.succ l os i = some s) : s.length ≤ 2 := by
  obtain ⟨o, _, p, h1, h2⟩ := Fl.succ_parts h
  have hp := Fl.nextOf_len h1
  have hn : ∀ q : List Nat, q.length ≤ 2 → (Fl.norm q).length ≤ 2 := fun q hq => by
    unfold Fl.norm
    split
    · split
      · simp
      · split <;> simp
    · exact hq
  rcases h2 with ⟨_, t, _, rfl⟩ | ⟨_, rfl⟩
  · exact hn _ (by simp; omega)
  · exact hn _ (by omega)
theorem graph_few {l : List Op7.Ins} {os : List Nat} {G : List (List Nat)} (h : Fl.graph l os = some G) : ∀ s ∈ G, s.length ≤ 2 := by
  intro s hs
  obtain ⟨i, hi, rfl⟩ := List.mem_iff_getElem.1 hs
  have hl := (Fl.graph_parts h).2.1
  obtain ⟨s', h3, h4⟩ := Fl.graph_succ h (i := i) (by omega)
  rw [List.getElem?_eq_getElem hi] at h3
  cases h3
  exact succ_few h4
set_option maxRecDepth 100000 in
set_option maxHeartbeats 1000000 in
theorem post_ok (h : Arg w A c bs) (hW : Fl.Well bs l os G D) : Calls Tryz.prog 5 #[.slice A bs.length c] w (OkPo w G l) := by
  have HC := hid (an_ok h hW)
  have HF := hid (hW.few h.at_.1)
  have HGl := hid hW.parts.2
  have HLt := hid (Fl.graph_lt hW.os_len hW.graph)
  have HLt' := hid (Fl.graph_lt' hW.os_len hW.graph)
  have HFw := hid (graph_few hW.graph)
  clear h hW
  generalize bs.length = n0 at *
  go_enter Tryz.func5, Tryz.ntmps5
  go_wp2_with fail
  refine HC.out.mono ?_
  rintro e w1 ⟨gG, gD, n, vs, rfl, hn, hn5, hv, hG, _, hg⟩
  have HN := hid hn
  have HG := hid hg
  have HP := hid (pd_c w.heap.size gG n vs G w1 hG hv (by rw [HGl.out, hn]) (fun s hs i hi => by have := HLt'.out s hs i hi; omega) (fun s hs => by have := HFw.out s hs; omega) (by have := HF.out; omega) hn5)
  clear hn hg hG hv HC
  go_wp2_with fail
  refine HP.out.mono ?_
  rintro e w2 ⟨g', S, rfl, hD, hS, hg2⟩
  have HX : Hid (n = l.length ∧ RowD w2 w.heap.size g' n (Fl.postOf S) ∧ Fl.Sweeps G (List.replicate n Fl.full) S ∧ Fl.Sets G S n ∧ Grew w w2) := hid ⟨HN.out, Row.low hD HG.out.below.size, hS, hS.sets (by rw [HGl.out, HN.out]) (by have := HF.out; have := HN.out; omega) (fun i s hs => by have := HLt.out i s hs; have := HN.out; omega), HG.out.trans hg2⟩
  clear hD hS hg2
  go_wp2_with fail
  go_ret2
  exact ⟨g', n, S, rfl, HX.out⟩
set_option maxRecDepth 100000 in
set_option maxHeartbeats 1000000 in
theorem post_bad (h : Arg w A c bs) (hb : Fl.Bad bs k) : Calls Tryz.prog 5 #[.slice A bs.length c] w fun e w' => e = .returned (.tuple #[.slice none 0 0, .iface 45 (.int .i64 ((k : Nat) : Int))]) ∧ Grew w w' := by
  have HC := hid (an_bad h hb)
  clear h hb
  generalize bs.length = n0 at *
  go_enter Tryz.func5, Tryz.ntmps5
  go_wp2_with fail
  refine HC.out.mono ?_
  rintro e w1 ⟨rfl, hg⟩
  go_wp2_with fail
  go_ret2
  exact ⟨rfl, hg⟩
def OkNx (w : World) (s : List Nat) (e : Ending) (w' : World) : Prop :=
  ∃ A' c' t, e = .returned (.tuple #[.slice A' (List.length t) c', .nilIface]) ∧ t = s ∧ RowN w' w.heap.size A' c' t ∧ Grew w w'
set_option maxRecDepth 100000 in
set_option maxHeartbeats 1000000 in
theorem next_ok {i : Nat} {s : List Nat} (h : Arg w A c bs) (hd : Op7.decR bs = (l, os, 0)) (hi : i < l.length) (hs : Fl.succ l os i = some s) : Calls Tryz.prog 11 #[.slice A bs.length c, .int .i64 (i : Nat)] w (OkNx w s) := by
  have HC := hid (decode_c A c bs w h.at_ h.tab h.cap h.max)
  have HD := hid hd
  have HS := hid hs
  have HI := hid hi
  clear h hd hs hi
  generalize bs.length = n0 at *
  go_enter Tryz.func11, Tryz.ntmps11
  go_wp2_with fail
  refine HC.out.mono ?_
  clear HC
  rintro e w1 (⟨l', os', k, rfl, hr, hk, hg1⟩ | ⟨A1, c1, A2, c2, n, l', os', rfl, hr, hCd, hn1, hn2, hg1⟩)
  · exfalso
    rw [HD.out] at hr
    simp only [Prod.mk.injEq] at hr
    exact hk hr.2.2.symm
  · rw [HD.out] at hr
    simp only [Prod.mk.injEq] at hr
    obtain ⟨rfl, rfl, _⟩ := hr
    have hin : i < n := by have := hCd.l1; have := HI.out; omega
    have HSC := hid (succ_c A1 c1 A2 c2 n l os i (w1.alloc (.cells #[.slice A1 n c1, .slice A2 n c2] 54)) (hCd.grew ((Grew.refl _).alloc _)) hin)
    rw [HS.out] at HSC
    have f1 : (i : Int) < n := by omega
    have HG := hid (hg1.alloc (.cells #[.slice A1 n c1, .slice A2 n c2] 54))
    clear hCd hg1 hin
    go_wp2_with fail
    refine HSC.out.mono ?_
    rintro e w2 ⟨A3, c3, b, t, rfl, ht, hO, hg2⟩
    cases b
    · cases ht
    · have HX : Hid (t = s ∧ RowN w2 w.heap.size A3 c3 t ∧ Grew w w2) := hid ⟨(Option.some.inj ht).symm, Row.low hO HG.out.below.size, HG.out.trans hg2⟩
      clear ht hO hg2
      go_wp2_with fail
      go_ret2
      exact ⟨A3, c3, t, rfl, HX.out⟩
set_option maxRecDepth 100000 in
set_option maxHeartbeats 1000000 in
theorem next_out {i : Nat} (h : Arg w A c bs) (hd : Op7.decR bs = (l, os, 0)) (hi : l.length ≤ i) : Calls Tryz.prog 11 #[.slice A bs.length c, .int .i64 (i : Nat)] w fun e w' => e = .returned (.tuple #[.slice none 0 0, .iface 45 (.int .i64 3)]) ∧ Grew w w' := by
  have HC := hid (decode_c A c bs w h.at_ h.tab h.cap h.max)
  have HD := hid hd
  have HI := hid hi
  clear h hd hi
  generalize bs.length = n0 at *
  go_enter Tryz.func11, Tryz.ntmps11
  go_wp2_with fail
  refine HC.out.mono ?_
  clear HC
  rintro e w1 (⟨l', os', k, rfl, hr, hk, hg1⟩ | ⟨A1, c1, A2, c2, n, l', os', rfl, hr, hCd, hn1, hn2, hg1⟩)
  · exfalso
    rw [HD.out] at hr
    simp only [Prod.mk.injEq] at hr
    exact hk hr.2.2.symm
  · rw [HD.out] at hr
    simp only [Prod.mk.injEq] at hr
    obtain ⟨rfl, rfl, _⟩ := hr
    have f1 : (n : Int) ≤ i := by have := hCd.l1; have := HI.out; omega
    have f2 : ¬ (i : Int) < n := by omega
    have HG := hid (hg1.alloc (.cells #[.slice A1 n c1, .slice A2 n c2] 54))
    clear hCd hg1
    go_wp2_with fail
    go_ret2
    exact ⟨rfl, HG.out⟩
end
end Go.Proofs.YtilikjfjbnabfaaGreatDoor
namespace Go.Proofs.YtilikjfjbnabfaaGreatDoor
open Go.RowKit

/-- Whole numbers in memory. -/
def IAt (w : World) (A : Option Addr) (D : List Int) : Prop := 0 < D.length → ∃ ad, A = some ad ∧ ad.block < w.heap.size ∧ ∀ j, j < D.length → w.cell? (ad.add j) = some (.int .i64 (D.getD j 0))
theorem IAt.grew {w w' : World} {A : Option Addr} {D : List Int} (h : IAt w A D) (hg : Grew w w') : IAt w' A D := fun hn => by
  obtain ⟨ad, e, hb, hc⟩ := h hn
  exact ⟨ad, e, Nat.lt_of_lt_of_le hb hg.below.size, fun j hj => by rw [hg.below.cell (by rw [block_add]; exact hb)]; exact hc j hj⟩
theorem RowD.iat {w : World} {B g n : Nat} {D : List Int} (h : RowD w B g n D) : IAt w (some ⟨g, 0, none⟩) D := fun _ => ⟨_, rfl, h.lt'.2, fun j hj => by
  rw [show (⟨g, 0, none⟩ : Addr).add j = ⟨g, j, none⟩ by simp [Addr.add]; omega]
  exact (h.at j (by rw [← h.len]; exact hj)).1⟩
theorem RowN.iat {w : World} {B : Nat} {A : Option Addr} {c : Nat} {xs : List Nat} (h : RowN w B A c xs) : IAt w A (Fl.toI xs) := fun hn => by
  rw [toI_len] at hn
  obtain ⟨ad, e, hb, hc⟩ := h.nums hn
  exact ⟨ad, e, hb, fun j hj => by
    rw [toI_len] at hj
    rw [hc j hj, toI_getD]⟩
theorem iat_lit (w : World) (D : List Int) : IAt (w.alloc (.cells (intCells D).toArray 3)) (some ⟨w.heap.size, 0, none⟩) D := fun _ => ⟨_, rfl, by simp, fun j hj => by
  rw [show (⟨w.heap.size, 0, none⟩ : Addr).add j = ⟨w.heap.size, j, none⟩ by unfold Addr.add; split <;> simp_all, (Blk.new w 3 (intCells D).toArray).cell j, List.getElem?_toArray]
  exact intCells_get D j hj⟩
theorem ints_eq {xs ys : List Int} (hl : xs.length = ys.length) (h : ∀ j, j < ys.length → xs.getD j 0 = ys.getD j 0) : xs = ys := by
  refine List.ext_getElem hl fun i h1 h2 => ?_
  have := h i h2
  rwa [List.getD_eq_getElem?_getD, List.getD_eq_getElem?_getD, List.getElem?_eq_getElem h1, List.getElem?_eq_getElem h2] at this
set_option maxRecDepth 100000 in
set_option maxHeartbeats 2000000 in
theorem ints8_c (A : Option Addr) (c : Nat) (xs : List Int) (B : Option Addr) (d : Nat) (ys : List Int) (w : World) (ha : IAt w A xs) (hb : IAt w B ys) (hm : xs.length ≤ 1000000000000 ∨ ys.length ≤ 1000000000000) :
    Calls Tryz.prog 7 #[.slice A xs.length c, .slice B ys.length d] w fun e w' => e = .returned (.bool (decide (xs = ys))) ∧ Grew w w' := by
  have HA := hid ha
  have HB := hid hb
  clear ha hb
  obtain ⟨r, hr⟩ : ∃ r, r = decide (xs = ys) := ⟨_, rfl⟩
  rw [← hr]
  have HR := hid hr
  clear hr
  by_cases hl : xs.length = ys.length
  · have HL := hid hl
    obtain ⟨n, en⟩ : ∃ n, n = ys.length := ⟨_, rfl⟩
    rw [hl, ← en]
    have EN := hid en
    have hm' : n ≤ 1000000000000 := by omega
    clear hl en hm
    go_enter Tryz.func7, Tryz.ntmps7
    go_wp2_with fail
    go_loopw [5] (fun i wr => ∃ (m : Nat), i = .int .i64 ((m : Nat) : Int) ∧ Grew w wr ∧ m ≤ n ∧ Hid (∀ j, j < m → xs.getD j 0 = ys.getD j 0)) (fun i _ => n - (intOf i).toNat)
    case atStart => exact ⟨0, rfl, Grew.refl _, Nat.zero_le _, hid fun j hj => absurd hj (Nat.not_lt_zero j)⟩
    case round =>
      obtain ⟨m, rfl, ⟨z, rfl⟩, hmy, HJ⟩ := hrel
      by_cases hlt : m < n
      · have hlt' : (m : Int) < (n : Int) := by omega
        obtain ⟨ad, ea, had, hca⟩ := HA.out (by rw [HL.out, ← EN.out]; omega)
        obtain ⟨bd, eb, hbd, hcb⟩ := HB.out (by rw [← EN.out]; omega)
        subst ea eb
        have h1 := hca m (by rw [HL.out, ← EN.out]; exact hlt)
        have h2 := hcb m (by rw [← EN.out]; exact hlt)
        clear hca hcb
        have HE1 := hid (show xs.getD m 0 ≠ ys.getD m 0 → r = false from fun h => by
          rw [HR.out, decide_eq_false]
          rintro rfl
          exact h rfl)
        have HE2 := hid (show xs.getD m 0 = ys.getD m 0 → ∀ j, j < m + 1 → xs.getD j 0 = ys.getD j 0 from fun h j hj => by
          rcases Nat.lt_or_ge j m with h3 | h3
          · exact HJ.out j h3
          · obtain rfl : j = m := by omega
            exact h)
        obtain ⟨x, hx⟩ : ∃ x, x = xs.getD m 0 := ⟨_, rfl⟩
        obtain ⟨y, hy⟩ : ∃ y, y = ys.getD m 0 := ⟨_, rfl⟩
        rw [← hx] at h1
        rw [← hy] at h2
        have HXY := hid (show x = xs.getD m 0 ∧ y = ys.getD m 0 from ⟨hx, hy⟩)
        clear hx hy
        by_cases he : x = y
        · have HE := hid (HE2.out (by rw [← HXY.out.1, ← HXY.out.2]; exact he))
          subst he
          go_wp2_with fail
          refine wp_region_grew_from z.grew (by kernel_rfl) (by kernel_rfl) ?_
          repeat (go_big_quiet_step (fail))
          refine wpQuiet_nil ?_
          rintro _ ⟨z2, rfl⟩
          go_wp2_with fail
          go_roundw
          case rel => exact ⟨m + 1, by go_num, z2.grew, by omega, hid HE.out⟩
          case measure => simp [intOf] <;> omega
        · have HE := hid (HE1.out (by rw [← HXY.out.1, ← HXY.out.2]; exact he))
          have t1 : (x != y) = true := by rw [bne_iff_ne]; omega
          go_wp2_with fail
          refine wp_region_grew_from z.grew (by kernel_rfl) (by kernel_rfl) ?_
          repeat (go_big_quiet_step (fail))
          refine wpQuiet_nil ?_
          rintro _ ⟨z2, rfl⟩
          go_wp2_with fail
          go_ret
          exact ⟨by rw [HE.out]; rfl, z2.grew⟩
      · obtain rfl : m = n := by omega
        have HE := hid (show r = true by rw [HR.out, decide_eq_true_iff]; exact ints_eq HL.out (by rw [← EN.out]; exact HJ.out))
        go_wp2_with fail
        go_ret
        exact ⟨by rw [HE.out]; rfl, z.grew⟩
  · have HE := hid (show r = false by rw [HR.out, decide_eq_false]; exact fun q => hl (by rw [q]))
    have t1 : (((xs.length : Nat) : Int) != ((ys.length : Nat) : Int)) = true := by rw [bne_iff_ne]; omega
    have t2 : (xs.length != ys.length) = true := by rw [bne_iff_ne]; omega
    clear HR HA HB
    go_enter Tryz.func7, Tryz.ntmps7
    go_wp2_with fail
    go_ret
    exact ⟨by rw [HE.out]; rfl, Grew.refl _⟩
/-! ### The example -/
def brL : List Op7.Ins := [⟨2, 0, 0⟩, ⟨14, 10, 11⟩, ⟨1, 0, 0⟩, ⟨13, 11, 0⟩, ⟨0, 0, 0⟩, ⟨15, 0, 0⟩, ⟨17, 0, 0⟩]
def brB : List Nat := [2, 14, 0, 10, 0, 11, 1, 13, 0, 11, 0, 15, 17]
def brO : List Nat := [0, 1, 6, 7, 10, 11, 12]
def brG : List (List Nat) := [[1], [2, 4], [3], [5], [5], [6], []]
def brD : List Int := [0, 1, 0, 1, 0, 1, 1]
def brP : List Int := [1, 5, 3, 5, 5, 6, -1]
theorem br_enc : encR brL = (brB, 0) := by decide +kernel
theorem br_dec : Op7.decR brB = (brL, brO, 0) := by decide +kernel
theorem br_byte : ∀ x ∈ brB, x < 256 := by decide
theorem br_well : Fl.Well brB brL brO brG brD := ⟨br_dec, by decide +kernel, by decide +kernel⟩
theorem br_post {S : List (List Nat)} (h : Fl.Sweeps brG (List.replicate 7 Fl.full) S) : Fl.postOf S = brP := by
  have e0 : (Fl.sweepF brG brG.length (List.replicate 7 Fl.full) false).2 = true := by decide +kernel
  have e1 : (Fl.sweepF brG brG.length (Fl.sweepF brG brG.length (List.replicate 7 Fl.full) false).1 false).2 = false := by decide +kernel
  have e2 : Fl.postOf (Fl.sweepF brG brG.length (Fl.sweepF brG brG.length (List.replicate 7 Fl.full) false).1 false).1 = brP := by decide +kernel
  cases h with
  | done hd => rw [hd] at e0; cases e0
  | more hm h2 =>
    rw [hm] at e1 e2
    cases h2 with
    | done hd => rw [hd] at e2; exact e2
    | more hm2 _ => rw [hm2] at e1; cases e1
theorem br_nil : Fl.Bad [1] 8 := ⟨[⟨1, 0, 0⟩], [0], .inr ⟨by decide +kernel, rfl, .inl (by decide +kernel)⟩⟩
theorem br_next : Fl.succ brL brO 1 = some [2, 4] := by decide +kernel
end Go.Proofs.YtilikjfjbnabfaaGreatDoor
namespace Go.Proofs.YtilikjfjbnabfaaGreatDoor
open Go.RowKit

theorem br_lit (w : World) (hT : TabAt w) : Calls Tryz.prog 19 #[.slice (some ⟨w.heap.size, 0, none⟩) 7 7] (w.alloc (.cells #[.int .u8 2, .int .i64 0, .int .i64 0, .int .u8 14, .int .i64 10, .int .i64 11, .int .u8 1, .int .i64 0, .int .i64 0, .int .u8 13, .int .i64 11, .int .i64 0, .int .u8 0, .int .i64 0, .int .i64 0, .int .u8 15, .int .i64 0, .int .i64 0, .int .u8 17, .int .i64 0, .int .i64 0] 51)) fun e w' => ∃ A c, e = .returned (.tuple #[.slice A 13 c, .nilIface]) ∧ Row8 w' w.heap.size A c brB ∧ Grew w w' := by
  have hg := (Grew.refl w).alloc (.cells (insCells brL).toArray 51)
  have hO : OpsAt (w.alloc (.cells (insCells brL).toArray 51)) (w.alloc (.cells (insCells brL).toArray 51)).heap.size (some ⟨w.heap.size, 0, none⟩) brL := by
    refine ⟨by decide, fun _ => ⟨_, rfl, by simp, fun i o ho j u hu => ?_⟩⟩
    rw [show (⟨w.heap.size, 0, none⟩ : Addr).add (i * 3 + j) = ⟨w.heap.size, i * 3 + j, none⟩ by unfold Addr.add; split <;> simp_all, (Blk.new w 51 (insCells brL).toArray).cell (i * 3 + j), List.getElem?_toArray]
    exact insCells_at brL i o ho j u hu
  have := oencode_c (some ⟨w.heap.size, 0, none⟩) 7 brL (w.alloc (.cells (insCells brL).toArray 51)) hO (hT.grew hg) (by decide)
  refine this.mono fun e w' ⟨A, c, L, h1, h2, h3, h4⟩ => ?_
  rw [br_enc] at h1 h2
  subst h2
  exact ⟨A, c, h1, Row.low h3 hg.below.size, hg.trans h4⟩
/-- What 'branch' answers. -/
def BrPost (w : World) (e : Ending) (w' : World) : Prop := ∃ A c, e = .returned (.slice A 13 c) ∧ Arg w' A c brB ∧ Grew w w'
set_option maxRecDepth 100000 in
set_option maxHeartbeats 1000000 in
theorem branch_c (w : World) (hT : TabAt w) : Calls Tryz.prog 10 #[] w (BrPost w) := by
  have HT := hid hT
  clear hT
  go_enter Tryz.func10, Tryz.ntmps10
  go_wp2_with fail
  refine (br_lit w HT.out).mono ?_
  rintro e w1 ⟨A, c, rfl, hR, hg⟩
  have HX : Hid (Arg w1 A c brB ∧ Grew w w1) := hid ⟨⟨NumsAt.to_bytes hR.nums br_byte, HT.out.grew hg, (Row.cases hR).2.1, (Row.cases hR).2.2.1⟩, hg⟩
  clear hR hg
  go_wp2_with fail
  go_ret
  exact ⟨A, c, rfl, HX.out⟩
def Dp8 (w : World) (e : Ending) (w' : World) : Prop := ∃ g, e = .returned (.tuple #[.slice (some ⟨g, 0, none⟩) 7 7, .nilIface]) ∧ IAt w' (some ⟨g, 0, none⟩) brD ∧ Grew w w'
theorem sure_d (w : World) (A : Option Addr) (c : Nat) (h : Arg w A c brB) : Calls Tryz.prog 9 #[.slice A 13 c] w (Dp8 w) :=
  (depths_ok h br_well).mono fun _ _ ⟨g, n, h1, h2, h3, h4⟩ => by
    subst h2
    exact ⟨g, h1, h3.iat, h4⟩
def Po8 (w : World) (e : Ending) (w' : World) : Prop := ∃ g, e = .returned (.tuple #[.slice (some ⟨g, 0, none⟩) 7 7, .nilIface]) ∧ IAt w' (some ⟨g, 0, none⟩) brP ∧ Grew w w'
theorem sure_p (w : World) (A : Option Addr) (c : Nat) (h : Arg w A c brB) : Calls Tryz.prog 5 #[.slice A 13 c] w (Po8 w) :=
  (post_ok h br_well).mono fun _ _ ⟨g, n, S, h1, h2, h3, h4, _, h5⟩ => by
    subst h2
    have := br_post h4
    exact ⟨g, h1, this ▸ h3.iat, h5⟩
def Nx8 (w : World) (e : Ending) (w' : World) : Prop := ∃ A' c', e = .returned (.tuple #[.slice A' 2 c', .nilIface]) ∧ IAt w' A' [2, 4] ∧ Grew w w'
theorem sure_n (w : World) (A : Option Addr) (c : Nat) (h : Arg w A c brB) : Calls Tryz.prog 11 #[.slice A 13 c, .int .i64 1] w (Nx8 w) :=
  (next_ok (i := 1) h br_dec (by decide) br_next).mono fun _ _ ⟨A', c', t, h1, h2, h3, h4⟩ => by
    subst h2
    exact ⟨A', c', h1, h3.iat, h4⟩
set_option maxRecDepth 100000 in
theorem sure_o (w : World) (A : Option Addr) (c : Nat) (h : Arg w A c brB) : Calls Tryz.prog 11 #[.slice A 13 c, .int .i64 7] w fun e w' => e = .returned (.tuple #[.slice none 0 0, .iface 45 (.int .i64 3)]) ∧ Grew w w' :=
  (next_out (i := 7) h br_dec (by decide)).mono fun _ _ h => h
set_option maxRecDepth 100000 in
theorem sure_k (w : World) (A : Option Addr) (c : Nat) (h : Arg w A c brB) : Calls Tryz.prog 12 #[.slice A 13 c] w fun e w' => e = .returned .nilIface ∧ Grew w w' := (check_ok h br_well).mono fun _ _ h => h
theorem sure_b (w : World) (hT : TabAt w) : Calls Tryz.prog 12 #[.slice (some ⟨w.heap.size, 0, none⟩) 1 1] (w.alloc (.cells #[.int .u8 1] 5)) fun e w' => e = .returned (.iface 45 (.int .i64 8)) ∧ Grew w w' :=
  (check_bad (bs := [1]) (c := 1) ⟨NumsAt.to_bytes (NumsAt.one .u8 w 5 1) (by decide), hT.grew ((Grew.refl w).alloc _), by decide, by decide⟩ br_nil).mono fun _ _ ⟨h1, h2⟩ => ⟨h1, ((Grew.refl w).alloc _).trans h2⟩
theorem sure_i (w : World) (A : Option Addr) (n c m : Nat) (D : List Int) (cs : Array Value) (hcs : cs = (intCells D).toArray) (hn : D.length = n) (hm : n = m) (h : IAt w A D) (h5 : n ≤ 1000) : Calls Tryz.prog 7 #[.slice A n c, .slice (some ⟨w.heap.size, 0, none⟩) m m] (w.alloc (.cells cs 3)) fun e w' => e = .returned (.bool true) ∧ Grew w w' := by
  subst hcs hm hn
  have := ints8_c A c D (some ⟨w.heap.size, 0, none⟩) D.length D (w.alloc (.cells (intCells D).toArray 3)) (h.grew ((Grew.refl w).alloc _)) (iat_lit w D) (.inl (by omega))
  refine this.mono fun e w' ⟨h1, h2⟩ => ⟨?_, ((Grew.refl w).alloc _).trans h2⟩
  rw [h1, decide_eq_true rfl]
theorem sure_u (w : World) (hh : HandleAt w) (k : Nat) (hk : k ≠ 0) : Calls Tryz.prog 8 #[.iface 45 (.int .i64 ((k : Nat) : Int))] w fun e w' => e = .returned (.int .i64 ((k : Nat) : Int)) ∧ Grew w w' := by
  have := num_c k w hh
  rw [show errVal k = .iface 45 (.int .i64 k) by unfold errVal; rw [if_neg hk]] at this
  exact this
set_option maxRecDepth 100000 in
set_option maxHeartbeats 4000000 in
theorem sure_c (w : World) (hh : HandleAt w) (hT : TabAt w) : Calls Tryz.prog 4 #[] w fun e w' => e = .returned (.bool true) ∧ Grew w w' := by
  have Hh := hid (fun w' (hg : Grew w w') => hh.grew hg)
  have HT := hid (fun w' (hg : Grew w w') => hT.grew hg)
  have HB := hid (fun w' (hg : Grew w w') => branch_c w' (hT.grew hg))
  clear hh hT
  go_enter Tryz.func4, Tryz.ntmps4
  go_wp2_with fail
  refine (HB.out _ (Grew.refl _)).mono ?_
  rintro e w1 ⟨A1, c1, rfl, hA1, hg1⟩
  have HA1 := hid hA1
  have G1 := hid hg1
  clear hA1 hg1
  go_wp2_with fail
  refine (sure_d w1 A1 c1 HA1.out).mono ?_
  rintro e w2 ⟨g2, rfl, hI2, hg2⟩
  have HI2 := hid hI2
  have G2 := hid (G1.out.trans hg2)
  clear hI2 hg2 HA1 G1
  go_wp2_with fail
  refine (HB.out _ G2.out).mono ?_
  rintro e w3 ⟨A3, c3, rfl, hA3, hg3⟩
  have HA3 := hid hA3
  have HI3 := hid (HI2.out.grew hg3)
  have G3 := hid (G2.out.trans hg3)
  clear hA3 hg3 HI2 G2
  go_wp2_with fail
  refine (sure_p w3 A3 c3 HA3.out).mono ?_
  rintro e w4 ⟨g4, rfl, hI4, hg4⟩
  have HP4 := hid hI4
  have HI4 := hid (HI3.out.grew hg4)
  have G4 := hid (G3.out.trans hg4)
  clear hI4 hg4 HI3 G3 HA3
  go_wp2_with fail
  refine (HB.out _ G4.out).mono ?_
  rintro e w5 ⟨A5, c5, rfl, hA5, hg5⟩
  have HA5 := hid hA5
  have HI5 := hid (HI4.out.grew hg5)
  have HP5 := hid (HP4.out.grew hg5)
  have G5 := hid (G4.out.trans hg5)
  clear hA5 hg5 HI4 HP4 G4
  go_wp2_with fail
  refine (sure_n w5 A5 c5 HA5.out).mono ?_
  rintro e w6 ⟨A6, c6, rfl, hN6, hg6⟩
  have HN6 := hid hN6
  have HI6 := hid (HI5.out.grew hg6)
  have HP6 := hid (HP5.out.grew hg6)
  have G6 := hid (G5.out.trans hg6)
  clear hN6 hg6 HI5 HP5 G5 HA5
  go_wp2_with fail
  refine (HB.out _ G6.out).mono ?_
  rintro e w7 ⟨A7, c7, rfl, hA7, hg7⟩
  have HA7 := hid hA7
  have HI7 := hid (HI6.out.grew hg7)
  have HP7 := hid (HP6.out.grew hg7)
  have HN7 := hid (HN6.out.grew hg7)
  have G7 := hid (G6.out.trans hg7)
  clear hA7 hg7 HI6 HP6 HN6 G6
  go_wp2_with fail
  refine (sure_o w7 A7 c7 HA7.out).mono ?_
  rintro e w8 ⟨rfl, hg8⟩
  have HI8 := hid (HI7.out.grew hg8)
  have HP8 := hid (HP7.out.grew hg8)
  have HN8 := hid (HN7.out.grew hg8)
  have G8 := hid (G7.out.trans hg8)
  clear hg8 HI7 HP7 HN7 G7 HA7
  go_wp2_with fail
  refine (sure_i w8 _ 7 7 7 brD _ rfl rfl rfl HI8.out (by decide)).mono ?_
  rintro e w9 ⟨rfl, hg9⟩
  have HP9 := hid (HP8.out.grew hg9)
  have HN9 := hid (HN8.out.grew hg9)
  have G9 := hid (G8.out.trans hg9)
  clear hg9 HI8 HP8 HN8 G8
  go_wp2_with fail
  refine (sure_i w9 _ 7 7 7 brP _ rfl rfl rfl HP9.out (by decide)).mono ?_
  rintro e w10 ⟨rfl, hg10⟩
  have HN10 := hid (HN9.out.grew hg10)
  have G10 := hid (G9.out.trans hg10)
  clear hg10 HP9 HN9 G9
  go_wp2_with fail
  refine (sure_i w10 _ 2 c6 2 [2, 4] _ rfl rfl rfl HN10.out (by decide)).mono ?_
  rintro e w11 ⟨rfl, hg11⟩
  have G11 := hid (G10.out.trans hg11)
  clear hg11 HN10 G10
  go_wp2_with fail
  refine (sure_u w11 (Hh.out _ G11.out) 3 (by decide)).mono ?_
  rintro e w12 ⟨rfl, hg12⟩
  have G12 := hid (G11.out.trans hg12)
  clear hg12 G11
  go_wp2_with fail
  refine (sure_b w12 (HT.out _ G12.out)).mono ?_
  rintro e w13 ⟨rfl, hg13⟩
  have G13 := hid (G12.out.trans hg13)
  clear hg13 G12
  go_wp2_with fail
  refine (sure_u w13 (Hh.out _ G13.out) 8 (by decide)).mono ?_
  rintro e w14 ⟨rfl, hg14⟩
  have G14 := hid (G13.out.trans hg14)
  clear hg14 G13
  go_wp2_with fail
  refine (HB.out _ G14.out).mono ?_
  rintro e w15 ⟨A15, c15, rfl, hA15, hg15⟩
  have HA15 := hid hA15
  have G15 := hid (G14.out.trans hg15)
  clear hA15 hg15 G14
  go_wp2_with fail
  refine (sure_k w15 A15 c15 HA15.out).mono ?_
  rintro e w16 ⟨rfl, hg16⟩
  have G16 := hid (G15.out.trans hg16)
  clear hg16 G15
  go_wp2_with fail
  go_ret
  exact ⟨rfl, G16.out⟩
end Go.Proofs.YtilikjfjbnabfaaGreatDoor

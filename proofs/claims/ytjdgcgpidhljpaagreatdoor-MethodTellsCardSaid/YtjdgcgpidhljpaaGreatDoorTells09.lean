/- MethodTells: the law's walk. Written by tools/gen_tells09.py. -/
import Derived.Test.YtjdgcgpidhljpaaGreatDoorMtU
import Derived.Test.YtjdgcgpidhljpaaGreatDoorMuF
import Derived.Test.YtjdgcgpidhljpaaGreatDoorMuK
namespace Go.Proofs.YtjdgcgpidhljpaaGreatDoor
open Go.RowKit

def GB (fb : Bool) (u : Value) : Value := if fb then undef else u
def yes9 (w : World) (e : Ending) (w' : World) : Prop := e = .returned (.bool true) ∧ Grew w w'
/-- What each operation gives where a method is given and looked at. -/
def T3F (vm : Value) (m1 : Mt.Meth) (K : Nat) (x y : Int) (vc : Value) (j : Nat) (v : Value) (w : World) : Prop := match j with
  | 0 => v = vm
  | 1 => ∃ u : MV, v = .agg (mvCells u) ∧ u.m = m1 ∧ MethAt w u
  | 2 => v = .pointer (some ⟨K, 0, none⟩)
  | 3 => v = .int .i64 x
  | 4 => v = .pointer (some ⟨K, 1, none⟩)
  | 5 => v = .int .i64 y
  | _ => v = vc
theorem T3F.mono {vm : Value} {m1 : Mt.Meth} {K : Nat} {x y : Int} {vc : Value} (j : Nat) (v : Value) (w w' : World) (h : T3F vm m1 K x y vc j v w) (hg : Grew w w') : T3F vm m1 K x y vc j v w' := by
  unfold T3F at h ⊢
  split at h
  all_goals first
    | exact h
    | (obtain ⟨u, h1, h2, h3⟩ := h
       exact ⟨u, h1, h2, h3.grew hg⟩)
/-- What each operation of the law's last region gives. -/
def TB (vm vn : Value) (K : Nat) (x y : Int) (vc vb vcs ek eh : Value) (S : ByteArray) (k h : Nat) (U3 V3 : Value) (mU m1 m2 : Mt.Meth) (bm eq : Bool) (j : Nat) (v : Value) (w : World) : Prop := match j with
  | 0 => v = vc
  | 1 => v = .bool bm
  | 2 => v = vm
  | 3 => v = .pointer (some ⟨K, 0, none⟩)
  | 4 => v = .int .i64 x
  | 5 => v = .pointer (some ⟨K, 1, none⟩)
  | 6 => v = .int .i64 y
  | 7 => v = .bool bm
  | 10 => v = vc
  | 11 => v = .bool bm
  | 12 => v = .bool bm
  | 13 => v = GB bm vc
  | 14 => v = GB bm (.int .i64 8)
  | 15 => v = GB bm (.bool true)
  | 19 => v = vb
  | 20 => v = .string S
  | 21 => v = vcs
  | 22 => v = .string S
  | 26 => v = ek
  | 27 => v = .int .i64 ((k : Nat) : Int)
  | 28 => v = .int .i64 ((k : Nat) : Int)
  | 32 => v = U3
  | 33 => ∃ u : MV, v = .agg (mvCells u) ∧ u.m = mU ∧ MethAt w u
  | 34 => v = V3
  | 38 => v = eh
  | 39 => v = .int .i64 ((h : Nat) : Int)
  | 40 => v = .int .i64 ((h : Nat) : Int)
  | 44 => v = vm
  | 45 => ∃ u : MV, v = .agg (mvCells u) ∧ u.m = m1 ∧ MethAt w u
  | 46 => v = vn
  | 47 => ∃ u : MV, v = .agg (mvCells u) ∧ u.m = m2 ∧ MethAt w u
  | 48 => v = .bool eq
  | 49 => v = vm
  | 50 => v = vn
  | 51 => v = .bool eq
  | _ => v = .bool true
theorem TB.mono {vm vn : Value} {K : Nat} {x y : Int} {vc vb vcs ek eh : Value} {S : ByteArray} {k h : Nat} {U3 V3 : Value} {mU m1 m2 : Mt.Meth} {bm eq : Bool} (j : Nat) (v : Value) (w w' : World) (hh : TB vm vn K x y vc vb vcs ek eh S k h U3 V3 mU m1 m2 bm eq j v w) (hg : Grew w w') : TB vm vn K x y vc vb vcs ek eh S k h U3 V3 mU m1 m2 bm eq j v w' := by
  unfold TB at hh ⊢
  split at hh
  all_goals first
    | exact hh
    | (obtain ⟨u, h1, h2, h3⟩ := hh
       exact ⟨u, h1, h2, h3.grew hg⟩)
def zeroM : MV := ⟨⟨#[]⟩, [], none, 0, [], none, 0⟩
theorem zeroM_at (w : World) : MethAt w zeroM := ⟨show (0 : Nat) ≤ 2000 by decide, ⟨(fun x hx => by cases (show x ∈ ([] : List Mt.Lit) from hx)), fun h => absurd (show 0 < 0 from h) (Nat.lt_irrefl 0)⟩, show (0 : Nat) ≤ 100 by decide, ⟨(fun x hx => by cases (show x ∈ ([] : List PV) from hx)), fun h => absurd (show 0 < 0 from h) (Nat.lt_irrefl 0)⟩, show (0 : Nat) ≤ 100 by decide⟩
theorem dec_uni {w w' : World} {b : List Nat} {e : Ending} (h : DecPost w b e w') : ∃ (U : MV) (k : Nat), e = .returned (.tuple #[.agg (mvCells U), errVal k]) ∧ MethAt w' U ∧ Grew w w' ∧ ((Mt.decode b = none ∧ U = zeroM ∧ k = 2) ∨ (Mt.decode b = some U.m ∧ k = 0)) := by
  rcases h with ⟨h1, h2, h3⟩ | ⟨v, h1, h2, h3, h4⟩
  · exact ⟨zeroM, 2, h2, zeroM_at _, h3, .inl ⟨h1, rfl, rfl⟩⟩
  · exact ⟨v, 0, h2, h3, h4, .inr ⟨h1, rfl⟩⟩
theorem rdec_uni {w w' : World} {b : List Nat} {e : Ending} (h : RDec9 w b e w') : ∃ (U : MV) (k : Nat), e = .returned (.tuple #[.agg (mvCells U), .int .i64 ((k : Nat) : Int)]) ∧ MethAt w' U ∧ Grew w w' ∧ ((Mt.decode b = none ∧ U = zeroM ∧ k = 2) ∨ (Mt.decode b = some U.m ∧ k = 0)) := by
  rcases h with ⟨h1, h2, h3⟩ | ⟨v, h1, h2, h3, h4⟩
  · exact ⟨zeroM, 2, h2, zeroM_at _, h3, .inl ⟨h1, rfl, rfl⟩⟩
  · exact ⟨v, 0, h2, h3, h4, .inr ⟨h1, rfl⟩⟩
theorem dec_same {b : List Nat} {U V : MV} {k h : Nat} (h1 : (Mt.decode b = none ∧ U = zeroM ∧ k = 2) ∨ (Mt.decode b = some U.m ∧ k = 0)) (h2 : (Mt.decode b = none ∧ V = zeroM ∧ h = 2) ∨ (Mt.decode b = some V.m ∧ h = 0)) : U.m = V.m ∧ k = h := by
  rcases h1 with ⟨a1, rfl, rfl⟩ | ⟨a1, rfl⟩
  · rcases h2 with ⟨_, rfl, rfl⟩ | ⟨b1, _⟩
    · exact ⟨rfl, rfl⟩
    · rw [a1] at b1; cases b1
  · rcases h2 with ⟨b1, _⟩ | ⟨b1, rfl⟩
    · rw [b1] at a1; cases a1
    · rw [a1] at b1
      exact ⟨Option.some.inj b1, rfl⟩
set_option maxRecDepth 100000 in
set_option maxHeartbeats 16000000 in
theorem tells_walk (v1 v2 : MV) (x y : Int) (A : Option Addr) (c : Nat) (b : List Nat) (w : World) (h1 : MethArg w v1) (h2 : MethArg w v2) (hb : BytesAt w w.heap.size A b) (hc : b.length ≤ c) (hm : c ≤ 9223372036854775807) (hh : HandleAt w) (hE : Env w) :
    Calls Tryz.prog 3 #[.agg (mvCells v1), .agg (mvCells v2), .agg #[.int .i64 x, .int .i64 y, .slice A b.length c]] w (yes9 w) := by
  have HS := hid (fun (w' : World) (hg : Grew w w') => sure9_c w' (hh.grew hg) (hE.grew hg))
  have HH := hid hh
  have HE := hid hE
  have HP1 := hid (fun (w' : World) (hg : Grew w w') => bigMethod_c v1 (tru (BigP v1)) (tru_iff _) w' (h1.grew hg))
  have HP2 := hid (fun (w' : World) (hg : Grew w w') => bigMethod_c v2 (tru (BigP v2)) (tru_iff _) w' (h2.grew hg))
  have HDe := hid (fun (w' : World) (hg : Grew w w') (hl : b.length ≤ 2000) => (decode9_c A c b w' (hb.grew hg) (by omega)).mono fun _ _ h => dec_uni h)
  have HRd := hid (fun (w' : World) (hg : Grew w w') (hl : b.length ≤ 2000) => (rdecode9_c A c b w' (hb.grew hg) hc hm (by omega)).mono fun _ _ h => rdec_uni h)
  have HRe := hid (fun (w' : World) (hg : Grew w w') => rencode_c v1 w' (h1.grew hg))
  have HV1 := hid (fun (w' : World) (hg : Grew w w') (hb : ¬ BigP v1) => giveMethod_c v1 w' ((h1.fit hb).grew hg))
  have HV2 := hid (fun (w' : World) (hg : Grew w w') (hb : ¬ BigP v2) => giveMethod_c v2 w' ((h2.fit hb).grew hg))
  have HMy := hid (fun (w' : World) (hg : Grew w w') (hb : ¬ BigP v1) => rmay_c v1 x y (tru (Mt.May v1.m x y)) (tru_iff _) w' ((h1.fit hb).grew hg))
  have HSb := hid (fun (w' : World) (hg : Grew w w') (hb1 : ¬ BigP v1) (hb2 : ¬ BigP v2) => rsame_c v1 v2 (decide (v1.m = v2.m)) decide_eq_true_iff w' ((h1.fit hb1).grew hg) ((h2.fit hb2).grew hg))
  have HCk := hid (fun (u : MV) (w' : World) (hg : Grew w w') (hu : MethAt w' u) (he : u.m = v1.m) => show Calls Tryz.prog 9 #[.agg (mvCells u), .int .i64 x, .int .i64 y] w' (fun e w'' => e = .returned (ckVal (tru (Mt.May v1.m x y))) ∧ Grew w' w'') from check9_c u x y (tru (Mt.May v1.m x y)) (by rw [he]; exact tru_iff _) w' hu (hE.grew hg))
  have HSm := hid (fun (u1 u2 : MV) (w' : World) (hu1 : MethAt w' u1) (hu2 : MethAt w' u2) (e1 : u1.m = v1.m) (e2 : u2.m = v2.m) => show Calls Tryz.prog 19 #[.agg (mvCells u1), .agg (mvCells u2)] w' (fun e w'' => e = .returned (.bool (decide (v1.m = v2.m))) ∧ Grew w' w'') from by
    have h9 := same9_c u1 u2 w' hu1 hu2
    rw [e1, e2] at h9
    exact h9)
  obtain ⟨W, hW⟩ : ∃ W, W = ((w.alloc (.cells (mvCells v1) 25)).alloc (.cells (mvCells v2) 25)).alloc (.cells #[.int .i64 x, .int .i64 y, .slice A b.length c] 28) := ⟨_, rfl⟩
  obtain ⟨G, hG⟩ : ∃ G, G = w.heap.size := ⟨_, rfl⟩
  have hg : Grew w W := by rw [hW]; exact (((Grew.refl w).alloc _).alloc _).alloc _
  have b0 : Blk W G 25 (mvCells v1) := by
    rw [hW, hG]; exact (Blk.new w _ _).grew (((Grew.refl _).alloc _).alloc _)
  have b1 : Blk W (G + 1) 25 (mvCells v2) := by
    have := Blk.new (w.alloc (.cells (mvCells v1) 25)) 25 (mvCells v2)
    rw [World.size_alloc] at this
    rw [hW, hG]; exact this.grew ((Grew.refl _).alloc _)
  have b2 : Blk W (G + 1 + 1) 28 #[.int .i64 x, .int .i64 y, .slice A b.length c] := by
    have := Blk.new ((w.alloc (.cells (mvCells v1) 25)).alloc (.cells (mvCells v2) 25)) 28 #[.int .i64 x, .int .i64 y, .slice A b.length c]
    rw [World.size_alloc, World.size_alloc] at this
    rw [hW, hG]; exact this
  have HG := hid hg
  have HG0 := hid hG
  have HB0 := hid b0
  have HB1 := hid b1
  have HB2 := hid b2
  clear h1 h2 hh hE hg b0 b1 b2 hG hb hc hm
  generalize b.length = nl at *
  have hbt1 : tru (BigP v1) = true ↔ BigP v1 := tru_iff _
  have hbt2 : tru (BigP v2) = true ↔ BigP v2 := tru_iff _
  generalize tru (BigP v1) = bb1 at *
  generalize tru (BigP v2) = bb2 at *
  have HNb1 := hid (show bb1 = false → ¬ BigP v1 from fun e hc => by rw [hbt1.2 hc] at e; cases e)
  have HNb2 := hid (show bb2 = false → ¬ BigP v2 from fun e hc => by rw [hbt2.2 hc] at e; cases e)
  clear hbt1 hbt2
  unfold GivePost at HV1 HV2
  generalize BigP v1 = big1 at *
  generalize BigP v2 = big2 at *
  generalize tru (Mt.May v1.m x y) = bm at *
  generalize decide (v1.m = v2.m) = eq at *
  generalize v1.m = m1 at *
  generalize v2.m = m2 at *
  unfold mvCells at HP1 HP2 HV1 HV2 hW HB0 HB1 HRe HMy HSb ⊢
  obtain ⟨sel, lits, A1, c1, vs, A2, c2⟩ := v1
  obtain ⟨sel', lits', A1', c1', vs', A2', c2'⟩ := v2
  simp only at HP1 HP2 HV1 HV2 hW HB0 HB1 HRe HMy HSb ⊢
  generalize lits.length = n1 at *
  generalize vs.length = n2 at *
  generalize lits'.length = n1' at *
  generalize vs'.length = n2' at *
  cases bb1
  · go_enter Tryz.func3, Tryz.ntmps3
    go_wp2_with fail
    rw [← hW, ← HG0.out]
    clear hW
    refine (HP1.out _ HG.out).mono ?_
    rintro e w1 ⟨rfl, hg1⟩
    have HG1 := hid (HG.out.trans hg1)
    have HW1 := hid hg1
    obtain ⟨m0, m1, m2⟩ := mvc HB1.out hg1
    clear hg1 HP1
    go_wp2_with fail
    clear m0 m1 m2
    refine (HP2.out _ HG1.out).mono ?_
    rintro e w2 ⟨rfl, hg2⟩
    have HG2 := hid (HG1.out.trans hg2)
    have HW2 := hid (HW1.out.trans hg2)
    clear hg2 HP2 HG1 HW1
    cases bb2
    · have q2 := (HB2.out.grew HW2.out).cell 2
      simp only [List.getElem?_toArray, List.getElem?_cons_zero, List.getElem?_cons_succ] at q2
      by_cases hnl : nl ≤ 2000
      · have f1 : ¬ (2000 : Int) < (nl : Int) := by omega
        replace HDe := hid (fun (w' : World) (hg : Grew w w') => HDe.out w' hg hnl)
        replace HRd := hid (fun (w' : World) (hg : Grew w w') => HRd.out w' hg hnl)
        replace HV1 := hid (fun (w' : World) (hg : Grew w w') => HV1.out w' hg (HNb1.out (by trivial)))
        replace HV2 := hid (fun (w' : World) (hg : Grew w w') => HV2.out w' hg (HNb2.out (by trivial)))
        replace HMy := hid (fun (w' : World) (hg : Grew w w') => HMy.out w' hg (HNb1.out (by trivial)))
        replace HSb := hid (fun (w' : World) (hg : Grew w w') => HSb.out w' hg (HNb1.out (by trivial)) (HNb2.out (by trivial)))
        clear HNb1 HNb2 hnl
        go_wp2_with fail
        clear q2
        obtain ⟨TF, hTF⟩ : ∃ TF, TF = T3F (.agg #[.string sel, .slice A1 n1 c1, .slice A2 n2 c2]) m1 (G + 1 + 1) x y (ckVal bm) := ⟨_, rfl⟩
        have HTF := hid (show ∀ (j : Nat) (v : Value) (w w' : World), TF j v w → Grew w w' → TF j v w' by rw [hTF]; exact T3F.mono)
        have TF0 := hid (show ∀ v w, TF 0 v w = (v = .agg #[.string sel, .slice A1 n1 c1, .slice A2 n2 c2]) by rw [hTF]; exact fun _ _ => rfl)
        have TF1 := hid (show ∀ v w, TF 1 v w = ∃ u : MV, v = .agg (mvCells u) ∧ u.m = m1 ∧ MethAt w u by rw [hTF]; exact fun _ _ => rfl)
        have TF2 := hid (show ∀ v w, TF 2 v w = (v = .pointer (some ⟨G + 1 + 1, 0, none⟩)) by rw [hTF]; exact fun _ _ => rfl)
        have TF3 := hid (show ∀ v w, TF 3 v w = (v = .int .i64 x) by rw [hTF]; exact fun _ _ => rfl)
        have TF4 := hid (show ∀ v w, TF 4 v w = (v = .pointer (some ⟨G + 1 + 1, 1, none⟩)) by rw [hTF]; exact fun _ _ => rfl)
        have TF5 := hid (show ∀ v w, TF 5 v w = (v = .int .i64 y) by rw [hTF]; exact fun _ _ => rfl)
        have TF6 := hid (show ∀ v w, TF 6 v w = (v = ckVal bm) by rw [hTF]; exact fun _ _ => rfl)
        have TF7 := hid (show ∀ v w, TF 7 v w = (v = ckVal bm) by rw [hTF]; exact fun _ _ => rfl)
        clear hTF
        refine wp_region_facts (w0 := w2) _ 8 [29, 30, 31, 32, 33, 34, 35, 7] [] TF (by kernel_rfl) (by kernel_rfl) (Grew.refl _) HTF.out ?_ ?_
        · repeat' (first | exact trivial | apply And.intro)
          all_goals
            intro a w' hgw hs hA
            have e3 := hs.eval 3 (by decide) (v := .pointer (some ⟨G, 0, none⟩)) rfl
            have e5 := hs.eval 5 (by decide) (v := .pointer (some ⟨G + 1 + 1, 0, none⟩)) rfl
            have HGW := hid hgw
            have HCa := hid (HB0.out.grew (HW2.out.trans hgw))
            have HCb := hid (HB2.out.grew (HW2.out.trans hgw))
            clear hs hgw
            simp only [Ahead, Region.binds, slotOf, TF0.out, TF1.out, TF2.out, TF3.out, TF4.out, TF5.out, TF6.out, List.getD_cons_succ, List.getD_cons_zero, forall_const, and_true] at hA
            simp only [wantedD, if_true]
            unfold Oper.wp
            have ec : ∀ v, a.eval (.const v) = v := fun _ => rfl
            generalize hf : a.eval = f at *
            have ef : ∀ k, f (.func k) = Act.eval ⟨#[], []⟩ (.func k) := fun k => by rw [← hf]; rfl
            clear hf
          · obtain ⟨m0, m1, m2⟩ := mvc HCa.out (Grew.refl _)
            go_simp
            exact Gives.of' rfl (Grew.refl _) (by rw [TF0.out])
          · go_simp
            refine (HV1.out _ (HG2.out.trans HGW.out)).mono ?_
            rintro e w3 ⟨u, rfl, hu1, hu2, hg3⟩
            exact Gives.of' rfl hg3 (by rw [TF1.out]; exact ⟨u, rfl, hu1, hu2⟩)
          · go_simp
            exact Gives.of' rfl (Grew.refl _) (by rw [TF2.out])
          · have m0 := HCb.out.cell 0
            simp only [List.getElem?_toArray, List.getElem?_cons_zero] at m0
            go_simp
            exact Gives.of' rfl (Grew.refl _) (by rw [TF3.out])
          · go_simp
            exact Gives.of' rfl (Grew.refl _) (by rw [TF4.out])
          · have m1 := HCb.out.cell 1
            simp only [List.getElem?_toArray, List.getElem?_cons_zero, List.getElem?_cons_succ] at m1
            go_simp
            exact Gives.of' rfl (Grew.refl _) (by rw [TF5.out])
          · obtain ⟨⟨u, eu, hu1, hu2⟩, hA2⟩ := hA
            go_simp
            refine (HCk.out u _ (HG2.out.trans HGW.out) hu2 hu1).mono ?_
            rintro e w3 ⟨rfl, hg3⟩
            exact Gives.of' rfl hg3 (by rw [TF6.out])
          · go_simp
            exact Gives.of' rfl (Grew.refl _) (by rw [TF7.out])
        · intro a w3 hgw hs hf hmade hpart
          have f7 := hf 7 (by decide)
          obtain ⟨f, rfl, hft⟩ := hs.put
          rw [TF7.out] at f7
          simp only [slotOf, List.getD_cons_succ, List.getD_cons_zero, hft] at f7
          have HGW := hid hgw
          clear hmade hpart hf hft hs hgw HTF TF0 TF1 TF2 TF3 TF4 TF5 TF6 TF7
          simp only [List.drop, wpList, putAll, List.foldl_cons, List.foldl_nil, Act.put, List.setIfInBounds_toArray, List.set_cons_succ, List.set_cons_zero, f7]
          clear f7
          generalize f 29 = z29
          generalize f 30 = z30
          generalize f 31 = z31
          generalize f 32 = z32
          generalize f 33 = z33
          generalize f 34 = z34
          generalize f 35 = z35
          clear f
          have HG3 := hid (HG2.out.trans HGW.out)
          have HW3 := hid (HW2.out.trans HGW.out)
          clear HGW HG2 HW2
          obtain ⟨m0, m1, m2⟩ := mvc HB0.out HW3.out
          go_wp2_with fail
          clear m0 m1 m2
          refine (HV1.out _ HG3.out).mono ?_
          rintro e w4 ⟨u, rfl, hum, hma, hg4⟩
          have HG4 := hid (HG3.out.trans hg4)
          have HW4 := hid (HW3.out.trans hg4)
          have HEc := hid (encode9_c u w4 hma)
          rw [hum] at HEc
          clear hum hma hg4 HG3 HW3
          go_wp2_with fail
          refine HEc.out.mono ?_
          rintro e w5 ⟨Ab, cb, bs, k, rfl, hbb, _, _, hg5, hcs⟩
          have HG5 := hid (HG4.out.trans hg5)
          have HW5 := hid (HW4.out.trans hg5)
          obtain ⟨m0, m1, m2⟩ := mvc HB0.out HW5.out
          have HBb := hid (NumsAt.of_bytes hbb)
          clear hbb hg5 HG4 HW4 HEc
          go_wp2_with fail
          clear m0 m1 m2
          refine (HRe.out _ HG5.out).mono ?_
          rintro e w6 ⟨Ac, cc, cs, k2, rfl, hbc, hg6, hcs2⟩
          have HKK : Hid (cs = bs ∧ k2 = ((k : Nat) : Int)) := hid (by
            rcases hcs with ⟨a1, a2, a3⟩ | ⟨a1, a2, a3⟩
            · rcases hcs2 with ⟨b1, b2, b3⟩ | ⟨b1, _⟩
              · exact ⟨by rw [a2, b2], by rw [a3, b3]; rfl⟩
              · rw [a1] at b1; cases b1
            · rcases hcs2 with ⟨b1, _⟩ | ⟨b1, b2, b3⟩
              · rw [a1] at b1; cases b1
              · exact ⟨by rw [a2, b2], by rw [a3, b3]; rfl⟩)
          obtain ⟨rfl, rfl⟩ := HKK.out
          have HG6 := hid (HG5.out.trans hg6)
          have HW6 := hid (HW5.out.trans hg6)
          have HBc := hid hbc
          have HBb6 := hid (HBb.out.grew hg6)
          have q2 := (HB2.out.grew HW6.out).cell 2
          simp only [List.getElem?_toArray, List.getElem?_cons_zero, List.getElem?_cons_succ] at q2
          clear hg6 hbc hcs hcs2 HKK HBb HG5 HW5 HRe
          generalize hbn : List.length cs = bn at *
          have HBn := hid hbn
          clear hbn
          go_wp2_with fail
          clear q2
          refine (HDe.out _ HG6.out).mono ?_
          rintro e w7 ⟨U, k7, rfl, hU, hg7, hd7⟩
          have HG7 := hid (HG6.out.trans hg7)
          have HW7 := hid (HW6.out.trans hg7)
          have q2 := (HB2.out.grew HW7.out).cell 2
          have q0 := HG7.out
          have lK := (HB2.out.grew HW7.out).lt
          simp only [List.getElem?_toArray, List.getElem?_cons_zero, List.getElem?_cons_succ] at q2
          have HBb7 := hid (HBb6.out.grew hg7)
          have HBc7 := hid (HBc.out.grew hg7)
          have HTk := hid (fun (w' : World) (hg : Grew w7 w') => takeMethod_c U w' (hU.grew hg))
          have HBU := hid (Blk.new w7 37 (mvCells U))
          have HD7 := hid hd7
          have HUm : Hid (∃ mU, mU = U.m) := hid ⟨_, rfl⟩
          obtain ⟨mU, hmU⟩ := HUm.out
          have HMU := hid hmU
          clear hg7 hd7 hU HBb6 HBc HG6 HW6 hmU q0
          unfold TakePost at HTk
          rw [← HMU.out] at HTk
          obtain ⟨U0, hU0⟩ : ∃ U0, U0 = U := ⟨_, rfl⟩
          rw [← hU0] at HD7 HMU
          obtain ⟨us, ul, uA, uc, uv, uB, ud⟩ := U
          clear hU0
          unfold mvCells at HTk HBU ⊢
          simp only at HTk HBU ⊢
          generalize ul.length = u1 at *
          generalize uv.length = u2 at *
          go_wp2_with fail
          clear q2 lK
          generalize hw8 : w7.alloc (.cells #[.string us, .slice uA u1 uc, .slice uB u2 ud] 37) = w8 at HBU ⊢
          have HA8 : Hid (Grew w7 w8) := hid (by rw [← hw8]; exact (Grew.refl w7).alloc _)
          have HBb8 := hid (HBb7.out.grew HA8.out)
          have HBc8 := hid (HBc7.out.grew HA8.out)
          clear HBb7 HBc7
          generalize w7.heap.size = g1 at *
          clear hw8
          have HW8 := hid (HW7.out.trans HA8.out)
          have HG8 := hid (HG7.out.trans HA8.out)
          refine (HRd.out _ HG8.out).mono ?_
          rintro e w9 ⟨V, k9, rfl, hV, hg9, hd9⟩
          obtain ⟨hUV, rfl⟩ := dec_same HD7.out hd9
          have HV9 := hid hV
          have HSa := hid (fun (u : MV) (w' : World) (hu : MethAt w' u) (he : u.m = mU) (hg : Grew w9 w') => rsame_c u V true ⟨fun _ => by rw [he, HMU.out, hUV], fun _ => rfl⟩ w' hu (HV9.out.grew hg))
          have HBV := hid (Blk.new w9 25 (mvCells V))
          have HG9 := hid (HG8.out.trans hg9)
          have HA9 := hid (HA8.out.trans hg9)
          have HBU9 := hid (HBU.out.grew hg9)
          have HBb9 := hid (HBb8.out.grew hg9)
          have HBc9 := hid (HBc8.out.grew hg9)
          clear HBb8 HBc8
          clear hg9 hd9 hV hUV HD7 HMU HW8 HG8 HA8 HBU HUm
          obtain ⟨ws, wl, wA, wn, wv, wB, wd⟩ := V
          unfold mvCells at HSa HBV ⊢
          simp only at HSa HBV ⊢
          generalize wl.length = o1 at *
          generalize wv.length = o2 at *
          go_wp2_with fail
          generalize hwF : w9.alloc (.cells #[.string ws, .slice wA o1 wn, .slice wB o2 wd] 25) = wF at HBV ⊢
          have HAF : Hid (Grew w9 wF) := hid (by rw [← hwF]; exact (Grew.refl w9).alloc _)
          have HBbF := hid (HBb9.out.grew HAF.out)
          have HBcF := hid (HBc9.out.grew HAF.out)
          clear HBb9 HBc9
          generalize w9.heap.size = g2 at *
          clear hwF
          have HGF := hid (HG9.out.trans HAF.out)
          have HWF := hid (HW7.out.trans (HA9.out.trans HAF.out))
          have HNk := hid (fun (w' : World) (hg : Grew w w') => num_c k w' (HH.out.grew hg))
          have HNh := hid (fun (w' : World) (hg : Grew w w') => num_c k7 w' (HH.out.grew hg))
          have HN8 := hid (fun (w' : World) (hg : Grew w w') => num_c 8 w' (HH.out.grew hg))
          rw [show errVal 8 = .iface 66 (.int .i64 8) from rfl] at HN8
          generalize errVal k = ek at *
          generalize errVal k7 = eh at *
          have HQm := hid (fun (w' : World) (hg : Grew wF w') => HB0.out.grew (HWF.out.trans hg))
          have HQn := hid (fun (w' : World) (hg : Grew wF w') => HB1.out.grew (HWF.out.trans hg))
          have HQk := hid (fun (w' : World) (hg : Grew wF w') => HB2.out.grew (HWF.out.trans hg))
          have HQu := hid (fun (w' : World) (hg : Grew wF w') => HBU9.out.grew (HAF.out.trans hg))
          have HQv := hid (fun (w' : World) (hg : Grew wF w') => HBV.out.grew hg)
          have HC1 := hid (fun (w' : World) (hg : Grew wF w') => conv6 Ab cb cs w' (HBbF.out.grew hg))
          have HC2 := hid (fun (w' : World) (hg : Grew wF w') => conv6 Ac cc cs w' (HBcF.out.grew hg))
          rw [HBn.out] at HC1 HC2
          have HT1 := hid (fun (w' : World) (hg : Grew wF w') => HTk.out w' ((HA9.out.trans HAF.out).trans hg))
          have HT2 := hid (fun (u : MV) (w' : World) (hu : MethAt w' u) (he : u.m = mU) (hg : Grew wF w') => HSa.out u w' hu he (HAF.out.trans hg))
          have HT3 := hid (fun (w' : World) (hg : Grew wF w') => HV1.out w' (HGF.out.trans hg))
          have HT4 := hid (fun (w' : World) (hg : Grew wF w') => HV2.out w' (HGF.out.trans hg))
          have HT5 := hid (fun (w' : World) (hg : Grew wF w') => HMy.out w' (HGF.out.trans hg))
          have HT6 := hid (fun (w' : World) (hg : Grew wF w') => HSb.out w' (HGF.out.trans hg))
          have HT7 := hid (fun (w' : World) (hg : Grew wF w') => HS.out w' (HGF.out.trans hg))
          have HT8 := hid (fun (w' : World) (hg : Grew wF w') => HNk.out w' (HGF.out.trans hg))
          have HT9 := hid (fun (w' : World) (hg : Grew wF w') => HNh.out w' (HGF.out.trans hg))
          have HT0 := hid (fun (w' : World) (hg : Grew wF w') => HN8.out w' (HGF.out.trans hg))
          generalize Pk.strB cs = S at *
          clear HS HV1 HV2 HMy HSb HNk HNh HN8 HTk HSa HBbF HBcF HBn HB0 HB1 HB2 HBU9 HBV HW7 HA9 HAF HWF HG7 HG9 HDe HRd HCk
          cases bm
          · rw [show ckVal false = .iface 66 (.int .i64 8) from rfl]
            refine wp_region_facts (w0 := wF) _ 58 [59, 60, 61, 62, 63, 64, 65, 66, 67, 68, 69, 70, 71, 72, 73, 74, 75, 76, 77, 78, 79, 80, 81, 82, 83, 84, 85, 86, 87, 88, 89, 90, 91, 92, 93, 94, 95, 96, 97, 98, 99, 100, 101, 102, 103, 104, 105, 106, 107, 108, 109, 110, 111, 112, 113, 114, 115, 6] [] (TB (.agg #[.string sel, .slice A1 n1 c1, .slice A2 n2 c2]) (.agg #[.string sel', .slice A1' n1' c1', .slice A2' n2' c2']) (G + 1 + 1) x y (.iface 66 (.int .i64 8)) (.slice Ab bn cb) (.slice Ac bn cc) ek eh S k k7 (.agg #[.string us, .slice uA u1 uc, .slice uB u2 ud]) (.agg #[.string ws, .slice wA o1 wn, .slice wB o2 wd]) mU m1 m2 false eq) (by kernel_rfl) (by kernel_rfl) (Grew.refl _) TB.mono ?_ ?_
            · repeat' (first | exact trivial | apply And.intro)
              all_goals
                intro a w' hgw hs hA
                have e3 := hs.eval 3 (by decide) (v := .pointer (some ⟨G, 0, none⟩)) rfl
                have e4 := hs.eval 4 (by decide) (v := .pointer (some ⟨G + 1, 0, none⟩)) rfl
                have e5 := hs.eval 5 (by decide) (v := .pointer (some ⟨G + 1 + 1, 0, none⟩)) rfl
                have e7 := hs.eval 7 (by decide) (v := .iface 66 (.int .i64 8)) rfl
                have e8 := hs.eval 8 (by decide) (v := .slice Ab bn cb) rfl
                have e9 := hs.eval 9 (by decide) (v := ek) rfl
                have e10 := hs.eval 10 (by decide) (v := .slice Ac bn cc) rfl
                have e11 := hs.eval 11 (by decide) (v := .int .i64 ((k : Nat) : Int)) rfl
                have e12 := hs.eval 12 (by decide) (v := .pointer (some ⟨g1, 0, none⟩)) rfl
                have e13 := hs.eval 13 (by decide) (v := eh) rfl
                have e14 := hs.eval 14 (by decide) (v := .pointer (some ⟨g2, 0, none⟩)) rfl
                have e15 := hs.eval 15 (by decide) (v := .int .i64 ((k7 : Nat) : Int)) rfl
                have HGW := hid hgw
                obtain ⟨m0, m1, m2⟩ := mvc (HQm.out w' hgw) (Grew.refl _)
                obtain ⟨n0, n1, n2⟩ := mvc (HQn.out w' hgw) (Grew.refl _)
                obtain ⟨p0, p1, p2⟩ := mvc (HQu.out w' hgw) (Grew.refl _)
                obtain ⟨r0, r1, r2⟩ := mvc (HQv.out w' hgw) (Grew.refl _)
                have q0 := (HQk.out w' hgw).cell 0
                have q1 := (HQk.out w' hgw).cell 1
                have v1 := HC1.out w' hgw
                have v2 := HC2.out w' hgw
                simp only [List.getElem?_toArray, List.getElem?_cons_zero, List.getElem?_cons_succ] at q0 q1
                clear hs hgw
                simp only [Ahead, Region.binds, slotOf, TB, GB, Bool.false_eq_true, if_false, List.getD_cons_succ, List.getD_cons_zero, forall_const, and_true] at hA
                simp only [wantedD, isBool, slotOf, List.getD_cons_succ, List.getD_cons_zero, hA, if_true, beq_self_eq_true]
                first
                  | exact ⟨rfl, rfl⟩
                  | (unfold Oper.wp
                     have ec : ∀ v, a.eval (.const v) = v := fun _ => rfl
                     generalize hf : a.eval = f at *
                     have ef : ∀ k, f (.func k) = Act.eval ⟨#[], []⟩ (.func k) := fun k => by rw [← hf]; rfl
                     clear hf
                     first
                       | (obtain ⟨⟨ua, ea, ha1, ha2⟩, ⟨ub, eb, hb1, hb2⟩, _⟩ := hA
                          go_simp
                          refine (HSm.out ua ub _ ha2 hb2 ha1 hb1).mono ?_
                          rintro e w3' ⟨rfl, hg3⟩
                          exact Gives.of' rfl hg3 rfl)
                       | (obtain ⟨⟨ua, ea, ha1, ha2⟩, hA2⟩ := hA
                          go_simp
                          refine (HT2.out ua _ ha2 ha1 HGW.out).mono ?_
                          rintro e w3' ⟨rfl, hg3⟩
                          exact Gives.of' rfl hg3 rfl)
                       | (go_simp
                          first
                            | (with_reducible refine Gives.of' ?_ (Grew.refl _) ?_
                               · rfl
                               · rfl)
                            | ((with_reducible refine (HT1.out _ HGW.out).mono ?_); rintro e w3' ⟨u, rfl, hu1, hu2, hg3⟩; exact Gives.of' rfl hg3 ⟨u, rfl, hu1, hu2⟩)
                            | ((with_reducible refine (HT3.out _ HGW.out).mono ?_); rintro e w3' ⟨u, rfl, hu1, hu2, hg3⟩; exact Gives.of' rfl hg3 ⟨u, rfl, hu1, hu2⟩)
                            | ((with_reducible refine (HT4.out _ HGW.out).mono ?_); rintro e w3' ⟨u, rfl, hu1, hu2, hg3⟩; exact Gives.of' rfl hg3 ⟨u, rfl, hu1, hu2⟩)
                            | ((with_reducible refine (HT5.out _ HGW.out).mono ?_); rintro e w3' ⟨rfl, hg3⟩; exact Gives.of' rfl hg3 rfl)
                            | ((with_reducible refine (HT6.out _ HGW.out).mono ?_); rintro e w3' ⟨rfl, hg3⟩; exact Gives.of' rfl hg3 rfl)
                            | ((with_reducible refine (HT7.out _ HGW.out).mono ?_); rintro e w3' ⟨rfl, hg3⟩; exact Gives.of' rfl hg3 rfl)
                            | ((with_reducible refine (HT0.out _ HGW.out).mono ?_); rintro e w3' ⟨rfl, hg3⟩; exact Gives.of' rfl hg3 rfl)
                            | ((with_reducible refine (HT8.out _ HGW.out).mono ?_); rintro e w3' ⟨rfl, hg3⟩; exact Gives.of' rfl hg3 rfl)
                            | ((with_reducible refine (HT9.out _ HGW.out).mono ?_); rintro e w3' ⟨rfl, hg3⟩; exact Gives.of' rfl hg3 rfl)))
            · intro a w' hgw hs hf hmade hpart
              have h57 := hf 57 (by decide)
              simp only [slotOf, TB, List.getD_cons_succ, List.getD_cons_zero] at h57
              obtain ⟨f, rfl, hft⟩ := hs.put
              rw [hft] at h57
              have HGW := hid (HGF.out.trans hgw)
              clear hmade hpart hf hft hs
              simp only [List.drop, wpList, putAll, List.foldl_cons, List.foldl_nil, Act.put, List.setIfInBounds_toArray, List.set_cons_succ, List.set_cons_zero, h57]
              go_wp2_with fail
              go_ret
              exact ⟨rfl, HGW.out⟩
          · rw [show ckVal true = .nilIface from rfl]
            refine wp_region_facts (w0 := wF) _ 58 [59, 60, 61, 62, 63, 64, 65, 66, 67, 68, 69, 70, 71, 72, 73, 74, 75, 76, 77, 78, 79, 80, 81, 82, 83, 84, 85, 86, 87, 88, 89, 90, 91, 92, 93, 94, 95, 96, 97, 98, 99, 100, 101, 102, 103, 104, 105, 106, 107, 108, 109, 110, 111, 112, 113, 114, 115, 6] [] (TB (.agg #[.string sel, .slice A1 n1 c1, .slice A2 n2 c2]) (.agg #[.string sel', .slice A1' n1' c1', .slice A2' n2' c2']) (G + 1 + 1) x y (.nilIface) (.slice Ab bn cb) (.slice Ac bn cc) ek eh S k k7 (.agg #[.string us, .slice uA u1 uc, .slice uB u2 ud]) (.agg #[.string ws, .slice wA o1 wn, .slice wB o2 wd]) mU m1 m2 true eq) (by kernel_rfl) (by kernel_rfl) (Grew.refl _) TB.mono ?_ ?_
            · repeat' (first | exact trivial | apply And.intro)
              all_goals
                intro a w' hgw hs hA
                have e3 := hs.eval 3 (by decide) (v := .pointer (some ⟨G, 0, none⟩)) rfl
                have e4 := hs.eval 4 (by decide) (v := .pointer (some ⟨G + 1, 0, none⟩)) rfl
                have e5 := hs.eval 5 (by decide) (v := .pointer (some ⟨G + 1 + 1, 0, none⟩)) rfl
                have e7 := hs.eval 7 (by decide) (v := .nilIface) rfl
                have e8 := hs.eval 8 (by decide) (v := .slice Ab bn cb) rfl
                have e9 := hs.eval 9 (by decide) (v := ek) rfl
                have e10 := hs.eval 10 (by decide) (v := .slice Ac bn cc) rfl
                have e11 := hs.eval 11 (by decide) (v := .int .i64 ((k : Nat) : Int)) rfl
                have e12 := hs.eval 12 (by decide) (v := .pointer (some ⟨g1, 0, none⟩)) rfl
                have e13 := hs.eval 13 (by decide) (v := eh) rfl
                have e14 := hs.eval 14 (by decide) (v := .pointer (some ⟨g2, 0, none⟩)) rfl
                have e15 := hs.eval 15 (by decide) (v := .int .i64 ((k7 : Nat) : Int)) rfl
                have HGW := hid hgw
                obtain ⟨m0, m1, m2⟩ := mvc (HQm.out w' hgw) (Grew.refl _)
                obtain ⟨n0, n1, n2⟩ := mvc (HQn.out w' hgw) (Grew.refl _)
                obtain ⟨p0, p1, p2⟩ := mvc (HQu.out w' hgw) (Grew.refl _)
                obtain ⟨r0, r1, r2⟩ := mvc (HQv.out w' hgw) (Grew.refl _)
                have q0 := (HQk.out w' hgw).cell 0
                have q1 := (HQk.out w' hgw).cell 1
                have v1 := HC1.out w' hgw
                have v2 := HC2.out w' hgw
                simp only [List.getElem?_toArray, List.getElem?_cons_zero, List.getElem?_cons_succ] at q0 q1
                clear hs hgw
                simp only [Ahead, Region.binds, slotOf, TB, GB, if_true, List.getD_cons_succ, List.getD_cons_zero, forall_const, and_true] at hA
                simp only [wantedD, isBool, slotOf, List.getD_cons_succ, List.getD_cons_zero, hA, if_true, beq_self_eq_true]
                first
                  | exact ⟨rfl, rfl⟩
                  | (unfold Oper.wp
                     have ec : ∀ v, a.eval (.const v) = v := fun _ => rfl
                     generalize hf : a.eval = f at *
                     have ef : ∀ k, f (.func k) = Act.eval ⟨#[], []⟩ (.func k) := fun k => by rw [← hf]; rfl
                     clear hf
                     first
                       | (obtain ⟨⟨ua, ea, ha1, ha2⟩, ⟨ub, eb, hb1, hb2⟩, _⟩ := hA
                          go_simp
                          refine (HSm.out ua ub _ ha2 hb2 ha1 hb1).mono ?_
                          rintro e w3' ⟨rfl, hg3⟩
                          exact Gives.of' rfl hg3 rfl)
                       | (obtain ⟨⟨ua, ea, ha1, ha2⟩, hA2⟩ := hA
                          go_simp
                          refine (HT2.out ua _ ha2 ha1 HGW.out).mono ?_
                          rintro e w3' ⟨rfl, hg3⟩
                          exact Gives.of' rfl hg3 rfl)
                       | (go_simp
                          first
                            | (with_reducible refine Gives.of' ?_ (Grew.refl _) ?_
                               · rfl
                               · rfl)
                            | ((with_reducible refine (HT1.out _ HGW.out).mono ?_); rintro e w3' ⟨u, rfl, hu1, hu2, hg3⟩; exact Gives.of' rfl hg3 ⟨u, rfl, hu1, hu2⟩)
                            | ((with_reducible refine (HT3.out _ HGW.out).mono ?_); rintro e w3' ⟨u, rfl, hu1, hu2, hg3⟩; exact Gives.of' rfl hg3 ⟨u, rfl, hu1, hu2⟩)
                            | ((with_reducible refine (HT4.out _ HGW.out).mono ?_); rintro e w3' ⟨u, rfl, hu1, hu2, hg3⟩; exact Gives.of' rfl hg3 ⟨u, rfl, hu1, hu2⟩)
                            | ((with_reducible refine (HT5.out _ HGW.out).mono ?_); rintro e w3' ⟨rfl, hg3⟩; exact Gives.of' rfl hg3 rfl)
                            | ((with_reducible refine (HT6.out _ HGW.out).mono ?_); rintro e w3' ⟨rfl, hg3⟩; exact Gives.of' rfl hg3 rfl)
                            | ((with_reducible refine (HT7.out _ HGW.out).mono ?_); rintro e w3' ⟨rfl, hg3⟩; exact Gives.of' rfl hg3 rfl)
                            | ((with_reducible refine (HT0.out _ HGW.out).mono ?_); rintro e w3' ⟨rfl, hg3⟩; exact Gives.of' rfl hg3 rfl)
                            | ((with_reducible refine (HT8.out _ HGW.out).mono ?_); rintro e w3' ⟨rfl, hg3⟩; exact Gives.of' rfl hg3 rfl)
                            | ((with_reducible refine (HT9.out _ HGW.out).mono ?_); rintro e w3' ⟨rfl, hg3⟩; exact Gives.of' rfl hg3 rfl)))
            · intro a w' hgw hs hf hmade hpart
              have h57 := hf 57 (by decide)
              simp only [slotOf, TB, List.getD_cons_succ, List.getD_cons_zero] at h57
              obtain ⟨f, rfl, hft⟩ := hs.put
              rw [hft] at h57
              have HGW := hid (HGF.out.trans hgw)
              clear hmade hpart hf hft hs
              simp only [List.drop, wpList, putAll, List.foldl_cons, List.foldl_nil, Act.put, List.setIfInBounds_toArray, List.set_cons_succ, List.set_cons_zero, h57]
              go_wp2_with fail
              go_ret
              exact ⟨rfl, HGW.out⟩
      · have f1 : (2000 : Int) < (nl : Int) := by omega
        go_wp2_with fail
        refine (HS.out _ HG2.out).mono ?_
        rintro e ws ⟨rfl, hgs⟩
        have HGs := hid (HG2.out.trans hgs)
        clear hgs
        go_wp2_with fail
        go_ret
        exact ⟨rfl, HGs.out⟩
    · go_wp2_with fail
      refine (HS.out _ HG2.out).mono ?_
      rintro e ws ⟨rfl, hgs⟩
      have HGs := hid (HG2.out.trans hgs)
      clear hgs
      go_wp2_with fail
      go_ret
      exact ⟨rfl, HGs.out⟩
  · go_enter Tryz.func3, Tryz.ntmps3
    go_wp2_with fail
    rw [← hW]
    clear hW
    refine (HP1.out _ HG.out).mono ?_
    rintro e w1 ⟨rfl, hg1⟩
    have HG1 := hid (HG.out.trans hg1)
    clear hg1 HP1
    go_wp2_with fail
    refine (HS.out _ HG1.out).mono ?_
    rintro e ws ⟨rfl, hgs⟩
    have HGs := hid (HG1.out.trans hgs)
    clear hgs
    go_wp2_with fail
    go_ret
    exact ⟨rfl, HGs.out⟩
end Go.Proofs.YtjdgcgpidhljpaaGreatDoor

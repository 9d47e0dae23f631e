/- Stage 11: giveObjs. -/
import Derived.Test.YtcfknfiddadgbaaDoorOcD
namespace Go.Proofs.YtcfknfiddadgbaaDoor
open Go.RowKit

/-- Objects in a row of the call's own, the fields of each apart from it. -/
structure OwnO (t : TypeId) (w : World) (B : Nat) (A : Option Addr) (c : Nat) (vs : List OV) : Prop where
  row : Row w B t 4 A vs.length c (vs.flatMap ovF)
  ok : ∀ v ∈ vs, OvOk w v
  ne : ∀ v ∈ vs, 0 < v.o.f.length → ∀ ad, v.A = some ad → ¬ AtRow A ad.block
theorem OwnO.nil (t : TypeId) (w : World) (B : Nat) : OwnO t w B none 0 [] := ⟨Row.nil _ _ _ _, by simp, by simp⟩
theorem OwnO.grew {t : TypeId} {w w' : World} {B : Nat} {A : Option Addr} {c : Nat} {vs : List OV} (h : OwnO t w B A c vs) (hg : Grew w w') : OwnO t w' B A c vs :=
  ⟨h.row.grew hg, fun v hv => (h.ok v hv).grew hg, h.ne⟩
theorem OwnO.at {t : TypeId} {w : World} {B : Nat} {A : Option Addr} {c : Nat} {vs : List OV} (h : OwnO t w B A c vs) : ObjsAt w A vs := row_objs h.row rfl h.ok
theorem OwnO.low {t : TypeId} {w : World} {B B' : Nat} {A : Option Addr} {c : Nat} {vs : List OV} (h : OwnO t w B A c vs) (hB : B' ≤ B) : OwnO t w B' A c vs := ⟨h.row.low hB, h.ok, h.ne⟩
theorem OvOk.blk {w : World} {v : OV} (h : OvOk w v) (h0 : 0 < v.o.f.length) : ∀ ad, v.A = some ad → ad.block < w.heap.size := fun ad e => by
  obtain ⟨ad', h1, h2, _⟩ := h.f.2 h0
  rw [e] at h1
  cases h1
  exact h2
/-- What is changed elsewhere leaves them. -/
theorem OwnO.kept {F : Nat → Prop} {t : TypeId} {w w' : World} {B : Nat} {A : Option Addr} {c : Nat} {vs : List OV} (h : OwnO t w B A c vs) (hk : Kept F w w') (h1 : ∀ k, AtRow A k → ¬ F k) (h2 : ∀ v ∈ vs, 0 < v.o.f.length → ∀ ad, v.A = some ad → ¬ F ad.block) : OwnO t w' B A c vs :=
  ⟨h.row.kept hk (fun g hA => h1 g ⟨_, hA, rfl⟩), fun v hv => (h.ok v hv).kept hk (h2 v hv), h.ne⟩
theorem rowto_at {w : World} {A A' : Option Addr} (h : RowTo w A A') {k : Nat} (hk : AtRow A' k) : AtRow A k ∨ w.heap.size ≤ k := by
  rcases h with e | ⟨q, e1, e2⟩
  · rw [e] at hk; exact .inl hk
  · obtain ⟨ad, h1, h2⟩ := hk
    rw [e1] at h1
    cases h1
    exact .inr (by rw [← h2]; exact e2)
/-- One more behind. -/
theorem OwnO.app {t : TypeId} {w w' : World} {B : Nat} {A A' : Option Addr} {c c' : Nat} {vs : List OV} {y : OV} (h : OwnO t w B A c vs) (hr : Row w' B t 4 A' (vs.length + 1) c' (vs.flatMap ovF ++ ovF y)) (hk : Kept (AtRow A) w w') (ht : RowTo w A A') (hy : OvOk w y) (hA : 0 < y.o.f.length → ∀ ad, y.A = some ad → ¬ AtRow A ad.block) : OwnO t w' B A' c' (vs ++ [y]) := by
  have hlow : ∀ v ∈ vs ++ [y], OvOk w v ∧ (0 < v.o.f.length → ∀ ad, v.A = some ad → ¬ AtRow A ad.block) := fun v hv => by
    rcases List.mem_append.1 hv with hv | hv
    · exact ⟨h.ok v hv, h.ne v hv⟩
    · obtain rfl := List.mem_singleton.1 hv
      exact ⟨hy, hA⟩
  refine ⟨by rw [List.flatMap_append, List.length_append]; simpa using hr, fun v hv => (hlow v hv).1.kept hk (hlow v hv).2, fun v hv h0 ad e hk2 => ?_⟩
  rcases rowto_at ht hk2 with h1 | h1
  · exact (hlow v hv).2 h0 ad e h1
  · have := (hlow v hv).1.blk h0 ad e
    omega
theorem obj_info : (Tryd.prog.info? 28).map (fun i => (i.zero, i.size, i.bytes)) = some (some (.agg #[.int .i64 0, .int .i64 0, .slice none 0 0, .string ⟨#[]⟩]), 4, 56) := by kernel_rfl
/-- What each operation gives. -/
def GoF (w0 : World) (A : Option Addr) (n c : Nat) (A' : Option Addr) (i k' : Nat) (ad : Addr) (v : OV) (j : Nat) (u : Value) (w : World) : Prop := match j with
  | 0 => u = .slice A' i k'
  | 1 => u = .slice A n c
  | 2 => u = .int .i64 ((i : Nat) : Int)
  | 3 => u = .pointer (some (ad.add (i * 4)))
  | 4 => u = .pointer (some (ad.add (i * 4)))
  | 5 => u = .int .i64 v.o.cls
  | 6 => u = .slice A n c
  | 7 => u = .int .i64 ((i : Nat) : Int)
  | 8 => u = .pointer (some (ad.add (i * 4)))
  | 9 => u = .pointer (some ⟨ad.block, (ad.add (i * 4)).off + 1, none⟩)
  | 10 => u = .int .i64 v.o.lev
  | 11 => u = .slice A n c
  | 12 => u = .int .i64 ((i : Nat) : Int)
  | 13 => u = .pointer (some (ad.add (i * 4)))
  | 14 => u = .pointer (some ⟨ad.block, (ad.add (i * 4)).off + 2, none⟩)
  | 15 => u = .slice v.A v.o.f.length v.c
  | 16 => ∃ A2 c2, u = .slice A2 v.o.f.length c2 ∧ Row w w0.heap.size 39 3 A2 v.o.f.length c2 (v.o.f.flatMap valF)
  | 17 => u = .slice A n c
  | 18 => u = .int .i64 ((i : Nat) : Int)
  | 19 => u = .pointer (some (ad.add (i * 4)))
  | 20 => u = .pointer (some ⟨ad.block, (ad.add (i * 4)).off + 3, none⟩)
  | 21 => u = .string v.o.b
  | 22 => ∃ A2 c2, u = .agg #[.int .i64 v.o.cls, .int .i64 v.o.lev, .slice A2 v.o.f.length c2, .string v.o.b] ∧ Row w w0.heap.size 39 3 A2 v.o.f.length c2 (v.o.f.flatMap valF)
  | 23 => ∃ A2 c2 H, u = .slice (some ⟨H, 0, none⟩) 1 1 ∧ Row w w0.heap.size 39 3 A2 v.o.f.length c2 (v.o.f.flatMap valF) ∧ Blk w H 28 #[.int .i64 v.o.cls, .int .i64 v.o.lev, .slice A2 v.o.f.length c2, .string v.o.b] ∧ w0.heap.size ≤ H
  | _ => True
theorem GoF.grew {w0 : World} {A : Option Addr} {n c : Nat} {A' : Option Addr} {i k' : Nat} {ad : Addr} {v : OV} (j : Nat) (u : Value) (w w' : World) (h : GoF w0 A n c A' i k' ad v j u w) (hg : Grew w w') : GoF w0 A n c A' i k' ad v j u w' := by
  unfold GoF at h ⊢
  split at h
  all_goals first
    | exact h
    | (obtain ⟨A2, c2, h1, h2⟩ := h; exact ⟨A2, c2, h1, h2.grew hg⟩)
    | (obtain ⟨A2, c2, H, h1, h2, h3, h4⟩ := h; exact ⟨A2, c2, H, h1, h2.grew hg, h3.grew hg, h4⟩)
    | trivial
/-- What 'giveObjs' answers. -/
def GiveO (w : World) (l : List Ob.Obj) (e : Ending) (w' : World) : Prop := ∃ (vs : List OV) (A : Option Addr) (c : Nat), e = .returned (.slice A vs.length c) ∧ objs vs = l ∧ ObjsAt w' A vs ∧ Grew w w'
set_option maxRecDepth 100000 in
set_option maxHeartbeats 8000000 in
theorem giveObjs_c (A : Option Addr) (cap : Nat) (l : List OV) (w : World) (h : ObjsAt w A l) (hf : ∀ v ∈ l, v.o.f.length ≤ 1000) (hl : l.length ≤ 1000) :
    Calls Tryd.prog 15 #[.slice A l.length cap] w (GiveO w (objs l)) := by
  obtain ⟨n, en⟩ : ∃ n, n = l.length := ⟨_, rfl⟩
  have HA := hid h
  have HF := hid hf
  rw [← en] at hl ⊢
  have EN := hid en
  clear h en hf
  go_enter Tryd.func15, Tryd.ntmps15
  go_wp2_with fail
  go_loopw [3, 4] (fun s3 s4 wr => ∃ (i : Nat) (A' : Option Addr) (k' : Nat) (vs : List OV), s4 = .int .i64 ((i : Nat) : Int) ∧ i ≤ n ∧ s3 = .slice A' i k' ∧ Hid (OwnO 28 wr w.heap.size A' k' vs ∧ vs.length = i) ∧ Hid (objs vs = (objs l).take i) ∧ Hid (Grew w wr)) (fun _ s4 _ => n - (intOf s4).toNat)
  case atStart => exact ⟨0, none, 0, [], rfl, Nat.zero_le _, rfl, hid ⟨OwnO.nil _ _ _, rfl⟩, hid rfl, hid (Grew.refl _)⟩
  case round =>
    obtain ⟨i, A', k', vs, rfl, hi, rfl, HR, HV, HG⟩ := hrel
    by_cases hlt : i < n
    · have f1 : (i : Int) < n := by omega
      obtain ⟨ad, v, rfl, hv, p0, p1, p2, p3, hb1, hok⟩ := ov_get HA.out HG.out (i := i) (by rw [← EN.out]; exact hlt)
      have hx := objs_at hv
      have HNx := hid (show (objs l).take (i + 1) = (objs l).take i ++ [v.o] by rw [List.take_add_one, hx]; rfl)
      have hml : v.o.f.length ≤ 1000 := HF.out _ (List.mem_of_getElem? hv)
      have HOk := hid hok
      have HP := hid (And.intro p0 (And.intro p1 (And.intro p2 (And.intro p3 hb1))))
      clear hx hv hok p0 p1 p2 p3 hb1
      go_upto_region 5 with fail
      refine wp_region_facts4 (w0 := wr) wr 24 24 [11, 12, 13, 14, 15, 16, 17, 18, 19, 20, 21, 22, 23, 24, 25, 26, 27, 28, 29, 30, 31, 32, 33, 34] [] (GoF wr (some ad) n cap A' i k' ad v) (Kept (fun _ => False)) (fun _ => Kept (fun _ => False)) (fun _ _ => True) (May.kept _) (fun _ _ _ h => h) (fun _ w => Kept.refl _ w) (by kernel_rfl) (by kernel_rfl) (Kept.refl _ _).drew trivial (fun a _ v w w' _ _ _ _ h hr => GoF.grew a v w w' h (Kept.grew hr (Grew.refl _) (fun _ h => h.elim))) ?_ ?_
      · repeat' (first | exact trivial | apply And.intro)
        all_goals
          intro a w' fl hgk hJ hfi hdep hs hA
          have hgw : Grew wr w' := Kept.grew hgk (Grew.refl _) (fun _ h => h.elim)
          clear hgk hJ hfi hdep
          have e0 := hs.eval 0 (by decide) (v := .slice (some ad) n cap) rfl
          have e3 := hs.eval 3 (by decide) (v := .slice A' i k') rfl
          have e4 := hs.eval 4 (by decide) (v := .int .i64 ((i : Nat) : Int)) rfl
          have HGW := hid hgw
          have hle := hgw.below.size
          have p0 := (hgw.below.cell (p := ad.add (i * 4)) (by rw [block_add]; exact HP.out.2.2.2.2)).trans HP.out.1
          have p1 := (hgw.below.cell (p := ⟨ad.block, (ad.add (i * 4)).off + 1, none⟩) HP.out.2.2.2.2).trans HP.out.2.1
          have p2 := (hgw.below.cell (p := ⟨ad.block, (ad.add (i * 4)).off + 2, none⟩) HP.out.2.2.2.2).trans HP.out.2.2.1
          have p3 := (hgw.below.cell (p := ⟨ad.block, (ad.add (i * 4)).off + 3, none⟩) HP.out.2.2.2.2).trans HP.out.2.2.2.1
          have pl : ad.block < w'.heap.size := Nat.lt_of_lt_of_le HP.out.2.2.2.2 hle
          clear hs hgw
          simp only [Ahead, Region.binds, slotOf, GoF, List.getD_cons_succ, List.getD_cons_zero, forall_const, and_true] at hA
          simp only [wantedD, if_true]
          unfold Oper.wp
          have ec : ∀ v, a.eval (.const v) = v := fun _ => rfl
          generalize hfe : a.eval = fe at *
          have ef : ∀ k, fe (.func k) = Act.eval ⟨#[], []⟩ (.func k) := fun k => by rw [← hfe]; rfl
          clear hfe
        · go_simp
          exact Gives3.of rfl (Kept.refl _ _) rfl trivial
        · go_simp
          exact Gives3.of rfl (Kept.refl _ _) rfl trivial
        · go_simp
          exact Gives3.of rfl (Kept.refl _ _) rfl trivial
        · go_simp
          exact Gives3.of rfl (Kept.refl _ _) rfl trivial
        · go_simp
          exact Gives3.of rfl (Kept.refl _ _) rfl trivial
        · go_simp
          exact Gives3.of rfl (Kept.refl _ _) rfl trivial
        · go_simp
          exact Gives3.of rfl (Kept.refl _ _) rfl trivial
        · go_simp
          exact Gives3.of rfl (Kept.refl _ _) rfl trivial
        · go_simp
          exact Gives3.of rfl (Kept.refl _ _) rfl trivial
        · go_simp
          exact Gives3.of rfl (Kept.refl _ _) rfl trivial
        · go_simp
          exact Gives3.of rfl (Kept.refl _ _) rfl trivial
        · go_simp
          exact Gives3.of rfl (Kept.refl _ _) rfl trivial
        · go_simp
          exact Gives3.of rfl (Kept.refl _ _) rfl trivial
        · go_simp
          exact Gives3.of rfl (Kept.refl _ _) rfl trivial
        · go_simp
          exact Gives3.of rfl (Kept.refl _ _) rfl trivial
        · go_simp
          exact Gives3.of rfl (Kept.refl _ _) rfl trivial
        · go_simp
          refine (giveVals_c v.A v.c v.o.f w' (HOk.out.f.grew HGW.out) hml).mono ?_
          rintro e w6 ⟨A2, c2, rfl, hr, hg6⟩
          exact Gives3.of rfl (Kept.of_grew hg6) ⟨A2, c2, rfl, hr.low hle⟩ trivial
        · go_simp
          exact Gives3.of rfl (Kept.refl _ _) rfl trivial
        · go_simp
          exact Gives3.of rfl (Kept.refl _ _) rfl trivial
        · go_simp
          exact Gives3.of rfl (Kept.refl _ _) rfl trivial
        · go_simp
          exact Gives3.of rfl (Kept.refl _ _) rfl trivial
        · go_simp
          exact Gives3.of rfl (Kept.refl _ _) rfl trivial
        · obtain ⟨h1, h2, ⟨A2, c2, h3, h4⟩, h5⟩ := hA
          have HRw := hid h4
          clear h4
          go_simp
          exact Gives3.of rfl (Kept.refl _ _) ⟨A2, c2, rfl, HRw.out⟩ trivial
        · obtain ⟨A2, c2, h1, h4⟩ := hA
          have HRw := hid h4
          have hnew := Blk.new w' 28 #[.int .i64 v.o.cls, .int .i64 v.o.lev, .slice A2 v.o.f.length c2, .string v.o.b]
          have hgn : Grew w' (w'.alloc (.cells #[.int .i64 v.o.cls, .int .i64 v.o.lev, .slice A2 v.o.f.length c2, .string v.o.b] 28)) := (Grew.refl w').alloc _
          have HN := hid hnew
          have HGn := hid hgn
          clear hnew hgn h4
          go_simp
          exact Gives3.of rfl (Kept.of_grew HGn.out) ⟨A2, c2, w'.heap.size, rfl, HRw.out.grew HGn.out, HN.out, hle⟩ trivial
      · intro a w3 hgk hs hf _ _
        have hgw : Grew wr w3 := Kept.grew hgk (Grew.refl _) (fun _ h => h.elim)
        have h0 := hf 0 (by decide)
        have h23 := hf 23 (by decide)
        simp only [slotOf, GoF, List.getD_cons_succ, List.getD_cons_zero] at h0 h23
        obtain ⟨A2, c2, H, ev, hrow, hbn, hHn⟩ := h23
        obtain ⟨fn, rfl, hft⟩ := hs.put
        rw [hft] at ev h0
        have HBn := hid hbn
        have HR3 := hid (HR.out.1.grew hgw)
        have HG3 := hid (HG.out.trans hgw)
        have HY : Hid (OvOk w3 ⟨v.o, A2, c2⟩) := hid ⟨row_vals hrow rfl (fun x hx => HOk.out.f.1 x hx), HOk.out.cls, HOk.out.lev, by rcases hrow.cases with ⟨_, h1, _⟩; exact h1⟩
        have HAp : Hid (0 < v.o.f.length → ∀ a, A2 = some a → ¬ AtRow A' a.block) := hid (fun _ a ea hk => by
          have h1 := Row.at_base hrow a.block ⟨a, ea, rfl⟩
          have h2 := (at_row_lt HR.out.1.row _ hk).2
          omega)
        have HLn := hid HR.out.2
        clear hf hft hs hgw hgk hrow hbn hHn
        simp only [List.drop_succ_cons, List.drop_zero, putAll, List.foldl_cons, List.foldl_nil, Act.put, List.setIfInBounds_toArray, List.set_cons_succ, List.set_cons_zero, ev, h0]
        clear ev h0
        go_wp2_with (at_builtin; refine wpList_catR (.agg #[.int .i64 0, .int .i64 0, .slice none 0 0, .string ⟨#[]⟩]) 4 56 w3 rfl _ _ 47 28 rfl Tryd.underlying47 obj_info rfl (by decide) w.heap.size HG3.out.below.size A' i k' _ rfl (by have h1 := HR3.out.row; rw [HLn.out] at h1; exact h1) (some ⟨H, 0, none⟩) 1 1 (ovF ⟨v.o, A2, c2⟩) rfl rfl (ovF_one _) (by intro e; cases e) (blk_row HBn.out) (by omega) (by omega) ?_; rintro A8 k8 w8 hR8 hK8 hT8; have HR8 := hid (HR3.out.app (y := ⟨v.o, A2, c2⟩) (by rw [HLn.out]; exact hR8) hK8 hT8 HY.out HAp.out); have HG8 := hid (hK8.grew HG3.out (Row.at_base HR3.out.row)); clear hR8 hK8 hT8)
        go_round
        case rel => exact ⟨i + 1, A8, k8, vs ++ [⟨v.o, A2, c2⟩], by go_num, by omega, rfl, hid ⟨HR8.out, by rw [List.length_append, HLn.out]; rfl⟩, hid (by rw [objs_snoc, HV.out, HNx.out]), HG8⟩
        case measure => simp [intOf]; omega
    · have hin : i = n := by omega
      subst hin
      have HE := hid (show objs vs = objs l by rw [HV.out, List.take_of_length_le (by rw [objs_len, ← EN.out]; exact Nat.le_refl _)])
      go_wp2_with fail
      go_ret
      exact ⟨vs, A', k', by rw [HR.out.2]; rfl, HE.out, HR.out.1.at, HG.out⟩
end Go.Proofs.YtcfknfiddadgbaaDoor

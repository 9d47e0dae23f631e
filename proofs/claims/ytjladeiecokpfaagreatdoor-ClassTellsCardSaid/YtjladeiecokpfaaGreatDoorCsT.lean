/- Stage 10: giveClasses. -/
import Derived.Test.YtjladeiecokpfaaGreatDoorCsS
import Derived.Test.YtjladeiecokpfaaGreatDoorZFa
import Derived.Test.YtjladeiecokpfaaGreatDoorZMtT
namespace Go.Proofs.YtjladeiecokpfaaGreatDoor
open Go.RowKit

theorem StrsAt.kept {F : Nat → Prop} {w w' : World} {A : Option Addr} {l : List ByteArray} (h : StrsAt w w.heap.size A l) (hk : Kept F w w') (hF : ∀ ad, A = some ad → ¬ F ad.block) : StrsAt w' w'.heap.size A l := fun hl => by
  obtain ⟨ad, h1, h2, h3⟩ := h hl
  exact ⟨ad, h1, Nat.lt_of_lt_of_le h2 hk.size, fun i s hi => (hk.cell (p := ad.add i) (by rw [block_add]; exact h2) (by rw [block_add]; exact hF ad h1)).trans (h3 i s hi)⟩
theorem IntsAt.kept10 {F : Nat → Prop} {w w' : World} {A : Option Addr} {l : List Int} (h : IntsAt w w.heap.size A l) (hk : Kept F w w') (hF : ∀ ad, A = some ad → ¬ F ad.block) : IntsAt w' w'.heap.size A l :=
  (h.kept hk (Nat.le_refl _) (fun ad e _ => hF ad e)).wide hk.size
theorem CvOk.kept {F : Nat → Prop} {w w' : World} {v : CV} (h : CvOk w v) (hk : Kept F w w') (hF : ∀ ad, (v.A1 = some ad ∨ v.A2 = some ad) → ¬ F ad.block) : CvOk w' v :=
  ⟨h.vars.kept hk (fun ad e => hF ad (.inl e)), h.ms.kept10 hk (fun ad e => hF ad (.inr e)), h.sup, h.cap1, h.cap2⟩
/-- What lies in new blocks. -/
def NewIn (w0 w : World) (A : Option Addr) : Prop := ∀ ad, A = some ad → w0.heap.size ≤ ad.block ∧ ad.block < w.heap.size
theorem NewIn.grew {w0 w w' : World} {A : Option Addr} (h : NewIn w0 w A) (hg : Grew w w') : NewIn w0 w' A := fun ad e => ⟨(h ad e).1, Nat.lt_of_lt_of_le (h ad e).2 hg.below.size⟩
/-- A class that was copied. -/
structure Copied (w0 w : World) (v y : CV) : Prop where
  same : y.c = v.c
  ok : CvOk w y
  n1 : NewIn w0 w y.A1
  n2 : NewIn w0 w y.A2
theorem Copied.grew {w0 w w' : World} {v y : CV} (h : Copied w0 w v y) (hg : Grew w w') : Copied w0 w' v y := ⟨h.same, h.ok.grew hg, h.n1.grew hg, h.n2.grew hg⟩
/-- What each operation gives. -/
def GcF (w0 : World) (G : Nat) (A : Option Addr) (i k : Nat) (v : CV) (j : Nat) (u : Value) (w : World) : Prop := match j with
  | 0 => u = .slice A i k
  | 1 => u = .pointer (some ⟨G, 0, none⟩)
  | 2 => u = .string v.c.name
  | 3 => u = .pointer (some ⟨G, 1, none⟩)
  | 4 => u = .int .i64 v.c.sup
  | 5 => ∃ H, u = .slice (some ⟨H, 0, none⟩) 0 0 ∧ Blk w H 9 #[] ∧ w0.heap.size ≤ H
  | 6 => u = .pointer (some ⟨G, 2, none⟩)
  | 7 => u = .slice v.A1 v.c.vars.length v.c1
  | 8 => ∃ A1 c1, u = .slice A1 v.c.vars.length c1 ∧ StrsAt w w.heap.size A1 v.c.vars ∧ v.c.vars.length ≤ c1 ∧ NewIn w0 w A1
  | 9 => ∃ H, u = .slice (some ⟨H, 0, none⟩) 0 0 ∧ Blk w H 3 #[] ∧ w0.heap.size ≤ H
  | 10 => u = .pointer (some ⟨G, 3, none⟩)
  | 11 => u = .slice v.A2 v.c.ms.length v.c2
  | 12 => ∃ A2 c2, u = .slice A2 v.c.ms.length c2 ∧ IntsAt w w.heap.size A2 v.c.ms ∧ v.c.ms.length ≤ c2 ∧ NewIn w0 w A2
  | 13 => ∃ y, Copied w0 w v y ∧ u = .agg (cvCells y)
  | 14 => ∃ y H, Copied w0 w v y ∧ u = .slice (some ⟨H, 0, none⟩) 1 1 ∧ Blk w H 60 (cvCells y) ∧ w0.heap.size ≤ H
  | _ => True
theorem GcF.grew {w0 : World} {G : Nat} {A : Option Addr} {i k : Nat} {v : CV} (j : Nat) (u : Value) (w w' : World) (h : GcF w0 G A i k v j u w) (hg : Grew w w') : GcF w0 G A i k v j u w' := by
  unfold GcF at h ⊢
  split at h
  · exact h
  · exact h
  · exact h
  · exact h
  · exact h
  · obtain ⟨H, h1, h2, h3⟩ := h
    exact ⟨H, h1, h2.grew hg, h3⟩
  · exact h
  · exact h
  · obtain ⟨A1, c1, h1, h2, h3, h4⟩ := h
    exact ⟨A1, c1, h1, h2.grew hg, h3, h4.grew hg⟩
  · obtain ⟨H, h1, h2, h3⟩ := h
    exact ⟨H, h1, h2.grew hg, h3⟩
  · exact h
  · exact h
  · obtain ⟨A1, c1, h1, h2, h3, h4⟩ := h
    exact ⟨A1, c1, h1, h2.grew hg, h3, h4.grew hg⟩
  · obtain ⟨y, h1, h2⟩ := h
    exact ⟨y, h1.grew hg, h2⟩
  · obtain ⟨y, H, h1, h2, h3, h4⟩ := h
    exact ⟨y, H, h1.grew hg, h2, h3.grew hg, h4⟩
  · trivial
/-- Classes in a row of the call's own, each apart from it. -/
structure OwnC (w : World) (B : Nat) (A : Option Addr) (n c : Nat) (vs : List CV) : Prop where
  row : Row w B 60 4 A n c (vs.flatMap cvF)
  len : n = vs.length
  ok : ∀ v ∈ vs, CvOk w v
  low : ∀ v ∈ vs, ∀ ad, (v.A1 = some ad ∨ v.A2 = some ad) → ¬ AtRow A ad.block ∧ ad.block < w.heap.size
theorem OwnC.nil (w : World) (B : Nat) : OwnC w B none 0 0 [] := ⟨Row.nil _ _ _ _, rfl, by simp, by simp⟩
theorem OwnC.grew {w w' : World} {B : Nat} {A : Option Addr} {n c : Nat} {vs : List CV} (h : OwnC w B A n c vs) (hg : Grew w w') : OwnC w' B A n c vs :=
  ⟨h.row.grew hg, h.len, fun v hv => (h.ok v hv).grew hg, fun v hv ad e => ⟨(h.low v hv ad e).1, Nat.lt_of_lt_of_le (h.low v hv ad e).2 hg.below.size⟩⟩
theorem OwnC.arg {w : World} {B : Nat} {A : Option Addr} {n c : Nat} {vs : List CV} (h : OwnC w B A n c vs) : ClsArg w A vs := cls_row h.row h.len h.ok
theorem OwnC.cap {w : World} {B : Nat} {A : Option Addr} {n c : Nat} {vs : List CV} (h : OwnC w B A n c vs) : n ≤ c := h.row.cases.2.1
/-- One more behind. -/
theorem OwnC.app {w w' : World} {B : Nat} {A A' : Option Addr} {n c c' : Nat} {vs : List CV} {y : CV} (h : OwnC w B A n c vs) (hr : Row w' B 60 4 A' (n + 1) c' (vs.flatMap cvF ++ cvF y)) (hk : Kept (AtRow A) w w') (ht : RowTo w A A') (hy : CvOk w y) (hA : ∀ ad, (y.A1 = some ad ∨ y.A2 = some ad) → ¬ AtRow A ad.block ∧ ad.block < w.heap.size) : OwnC w' B A' (n + 1) c' (vs ++ [y]) := by
  have hlow : ∀ v ∈ vs ++ [y], ∀ ad, (v.A1 = some ad ∨ v.A2 = some ad) → ¬ AtRow A ad.block ∧ ad.block < w.heap.size := fun v hv ad e => by
    rcases List.mem_append.1 hv with hv | hv
    · exact h.low v hv ad e
    · obtain rfl := List.mem_singleton.1 hv
      exact hA ad e
  have hok : ∀ v ∈ vs ++ [y], CvOk w v := fun v hv => by
    rcases List.mem_append.1 hv with hv | hv
    · exact h.ok v hv
    · obtain rfl := List.mem_singleton.1 hv
      exact hy
  refine ⟨by rw [List.flatMap_append]; simpa using hr, by rw [List.length_append, ← h.len]; rfl, fun v hv => (hok v hv).kept hk (fun ad e => (hlow v hv ad e).1), fun v hv ad e => ?_⟩
  obtain ⟨h1, h2⟩ := hlow v hv ad e
  refine ⟨fun hq => ?_, Nat.lt_of_lt_of_le h2 hk.size⟩
  rcases ht with h3 | ⟨g, e1, e2⟩
  · rw [h3] at hq; exact h1 hq
  · rw [e1] at hq
    obtain ⟨ad', e3, e4⟩ := hq
    cases e3
    simp only at e4
    omega
/-- What 'giveClasses' answers. -/
def GiveC (w : World) (l : List Cs.Cls) (e : Ending) (w' : World) : Prop := ∃ (vs : List CV) (A : Option Addr) (c : Nat), e = .returned (.slice A vs.length c) ∧ cls vs = l ∧ OwnC w' w.heap.size A vs.length c vs ∧ Grew w w'
theorem cls_snoc (vs : List CV) (y : CV) : cls (vs ++ [y]) = cls vs ++ [y.c] := by simp [cls]
set_option maxRecDepth 100000 in
set_option maxHeartbeats 8000000 in
theorem giveClasses_c (A : Option Addr) (cap : Nat) (l : List CV) (w : World) (h : ClsAt w A l) :
    Calls Tryz.prog 9 #[.slice A l.length cap] w (GiveC w (cls l)) := by
  obtain ⟨n, en⟩ : ∃ n, n = l.length := ⟨_, rfl⟩
  have HA := hid h
  have hn : n ≤ 100 := by rw [en]; exact h.len
  rw [← en]
  have EN := hid en
  clear h en
  go_enter Tryz.func9, Tryz.ntmps9
  go_wp2_with fail
  go_loopw [3, 4, 5] (fun s3 s4 _ wr => ∃ (i : Nat) (A' : Option Addr) (k' : Nat) (vs : List CV), s4 = .int .i64 ((i : Nat) : Int) ∧ i ≤ n ∧ s3 = .slice A' i k' ∧ Hid (OwnC wr w.heap.size A' i k' vs) ∧ Hid (cls vs = (cls l).take i) ∧ Grew w wr) (fun _ s4 _ _ => n - (intOf s4).toNat)
  case atStart => exact ⟨0, none, 0, [], rfl, Nat.zero_le _, rfl, hid (OwnC.nil _ _), hid rfl, Grew.refl _⟩
  case round =>
    obtain ⟨i, A', k', vs, rfl, hi, rfl, HR, HV, hg⟩ := hrel
    have HG := hid hg
    clear hg
    by_cases hlt : i < n
    · have f1 : (i : Int) < n := by omega
      obtain ⟨ad, v, rfl, hv⟩ := cv_some HA.out.arg (i := i) (by rw [← EN.out]; exact hlt)
      obtain ⟨p0, p1, p2, p3, hb1, hok⟩ := cv_get HA.out.arg HG.out hv
      have hx := cls_at hv
      have HNx := hid (show (cls l).take (i + 1) = (cls l).take i ++ [v.c] by rw [List.take_add_one, hx]; rfl)
      have hml : v.c.ms.length ≤ 100 := HA.out.fit.ms _ (HA.out.mem (List.mem_of_getElem? hv))
      have hvl : v.c.vars.length ≤ 100 := HA.out.fit.vars _ (HA.out.mem (List.mem_of_getElem? hv))
      have HOk := hid hok
      clear hx hv hok
      go_upto_region 6 with fail
      have B1 := Blk.new wr 62 (cvCells v)
      have G1 := (Grew.refl wr).alloc (.cells (cvCells v) 62)
      have HB1 := hid B1
      have HG1 := hid (HG.out.trans G1)
      have HR1 := hid (HR.out.grew G1)
      have HOk1 := hid (HOk.out.grew G1)
      unfold cvCells at HB1 HG1 HR1 HOk1
      generalize wr.alloc (Obj.cells #[.string v.c.name, .int .i64 v.c.sup, .slice v.A1 v.c.vars.length v.c1, .slice v.A2 v.c.ms.length v.c2] 62) = w5 at *
      generalize wr.heap.size = gb at *
      clear p0 p1 p2 p3 hb1 B1 G1 HR HOk
      have hmx : Tryz.prog.follows .mixedOrders = true := by kernel_rfl
      refine wp_region_facts (w0 := w5) w5 15 [16, 17, 18, 19, 20, 21, 22, 23, 24, 25, 26, 27, 28, 29, 30] [] (GcF w5 gb A' i k' v) hmx (by kernel_rfl) (Grew.refl _) GcF.grew ?_ ?_
      · repeat' (first | exact trivial | apply And.intro)
        all_goals
          intro a w' hgw hs hA
          have e3 := hs.eval 3 (by decide) (v := .slice A' i k') rfl
          have e5 := hs.eval 5 (by decide) (v := .pointer (some ⟨gb, 0, none⟩)) rfl
          have HGW := hid hgw
          have HBe := hid (HB1.out.grew hgw)
          have hle := hgw.below.size
          clear hs hgw
          simp only [Ahead, Region.binds, slotOf, GcF, List.getD_cons_succ, List.getD_cons_zero, forall_const, and_true] at hA
          simp only [wantedD, if_true]
          unfold Oper.wp
          have ec : ∀ v, a.eval (.const v) = v := fun _ => rfl
          generalize hfe : a.eval = fe at *
          clear hfe
        · go_simp
          exact Gives.of' rfl (Grew.refl _) rfl
        · go_simp
          exact Gives.of' rfl (Grew.refl _) rfl
        · have q1 := HBe.out.cell 0
          have ql := HBe.out.lt
          simp only [List.getElem?_toArray, List.getElem?_cons_zero] at q1
          go_simp
          exact Gives.of' rfl (Grew.refl _) rfl
        · go_simp
          exact Gives.of' rfl (Grew.refl _) rfl
        · have q1 := HBe.out.cell 1
          have ql := HBe.out.lt
          simp only [List.getElem?_toArray, List.getElem?_cons_zero, List.getElem?_cons_succ] at q1
          go_simp
          exact Gives.of' rfl (Grew.refl _) rfl
        · have hnew := Blk.new w' 9 #[]
          have hgn : Grew w' (w'.alloc (.cells #[] 9)) := (Grew.refl w').alloc _
          have HN := hid hnew
          have HGn := hid hgn
          clear hnew hgn
          go_simp
          exact Gives.of' rfl HGn.out ⟨w'.heap.size, rfl, HN.out, hle⟩
        · go_simp
          exact Gives.of' rfl (Grew.refl _) rfl
        · have q1 := HBe.out.cell 2
          have ql := HBe.out.lt
          simp only [List.getElem?_toArray, List.getElem?_cons_zero, List.getElem?_cons_succ] at q1
          go_simp
          exact Gives.of' rfl (Grew.refl _) rfl
        · obtain ⟨⟨H, hv1, hbH, hHw⟩, hv2⟩ := hA
          have hsrc := HOk1.out.vars.grew HGW.out
          obtain ⟨A3, c3, w2', hrun, r1, r2, r3, r4⟩ := run_catG (P := Tryz.prog) 42 42 9 (.string ⟨#[]⟩) 16 Tryz.underlying42 str_info10 rfl (by decide) w' H hbH v.A1 v.c.vars.length v.c1 (strV v.c.vars) (strV_len _) (strV_one _) hsrc.cells.1 hsrc.cells.2 (by omega)
          have HG4 := hid r3
          have HF : Hid (StrsAt w2' w2'.heap.size A3 v.c.vars) := hid (by
            intro hl
            obtain ⟨ad, e, h1, h2⟩ := r1 hl
            exact ⟨ad, e, h1, fun j s hj => h2 j _ (by simp [strV, hj])⟩)
          have HF2 : Hid (NewIn w5 w2' A3) := hid (fun ad e => ⟨by have h1 := (r4 ad e).1; omega, (r4 ad e).2⟩)
          have HF3 := hid r2
          clear r1 r2 r3 r4 hbH hsrc
          simp only [execOp, resolve, invoke, builtin, Sem.run_bind, Sem.run_pure, Result.andThen_ok, List.map_toArray, List.map_cons, List.map_nil, hv1, hv2, hrun]
          exact Gives.of' rfl HG4.out ⟨A3, c3, rfl, HF.out, HF3.out, HF2.out⟩
        · have hnew := Blk.new w' 3 #[]
          have hgn : Grew w' (w'.alloc (.cells #[] 3)) := (Grew.refl w').alloc _
          have HN := hid hnew
          have HGn := hid hgn
          clear hnew hgn
          go_simp
          exact Gives.of' rfl HGn.out ⟨w'.heap.size, rfl, HN.out, hle⟩
        · go_simp
          exact Gives.of' rfl (Grew.refl _) rfl
        · have q1 := HBe.out.cell 3
          have ql := HBe.out.lt
          simp only [List.getElem?_toArray, List.getElem?_cons_zero, List.getElem?_cons_succ] at q1
          go_simp
          exact Gives.of' rfl (Grew.refl _) rfl
        · obtain ⟨⟨H, hv1, hbH, hHw⟩, hv2⟩ := hA
          have hsrc := HOk1.out.ms.grew HGW.out
          obtain ⟨A3, c3, w2', hrun, r1, r2, r3, r4⟩ := run_catG (P := Tryz.prog) 58 58 3 (.int .i64 0) 8 Tryz.underlying58 int_info10 rfl (by decide) w' H hbH v.A2 v.c.ms.length v.c2 (intV v.c.ms) (intV_len _) (intV_one _) hsrc.cells.1 hsrc.cells.2 (by omega)
          have HG4 := hid r3
          have HF : Hid (IntsAt w2' w2'.heap.size A3 v.c.ms) := hid (by
            refine ⟨HOk1.out.ms.1, fun hl => ?_⟩
            obtain ⟨ad, e, h1, h2⟩ := r1 hl
            exact ⟨ad, e, h1, fun j hj => h2 j _ (by simp [intV, List.getD_eq_getElem?_getD, hj])⟩)
          have HF2 : Hid (NewIn w5 w2' A3) := hid (fun ad e => ⟨by have h1 := (r4 ad e).1; omega, (r4 ad e).2⟩)
          have HF3 := hid r2
          clear r1 r2 r3 r4 hbH hsrc
          simp only [execOp, resolve, invoke, builtin, Sem.run_bind, Sem.run_pure, Result.andThen_ok, List.map_toArray, List.map_cons, List.map_nil, hv1, hv2, hrun]
          exact Gives.of' rfl HG4.out ⟨A3, c3, rfl, HF.out, HF3.out, HF2.out⟩
        · obtain ⟨h1, h2, ⟨A1, c1, h3, h4, h5, h6⟩, A2, c2, h7, h8, h9, h10⟩ := hA
          have HY : Hid (Copied w5 w' v ⟨v.c, A1, c1, A2, c2⟩) := hid ⟨rfl, ⟨h4, h8, HOk1.out.sup, h5, h9⟩, h6, h10⟩
          clear h4 h5 h6 h8 h9 h10
          go_simp
          exact Gives.of' rfl (Grew.refl _) ⟨⟨v.c, A1, c1, A2, c2⟩, HY.out, rfl⟩
        · obtain ⟨y, hy, hv⟩ := hA
          have HY := hid hy
          have hnew := Blk.new w' 60 (cvCells y)
          have hgn : Grew w' (w'.alloc (.cells (cvCells y) 60)) := (Grew.refl w').alloc _
          have HN := hid hnew
          have HGn := hid hgn
          unfold cvCells at hv HN HGn
          clear hnew hgn hy
          go_simp
          exact Gives.of' rfl HGn.out ⟨y, w'.heap.size, HY.out.grew HGn.out, rfl, HN.out, hle⟩
      · intro a w3' hgw hs hf _ _
        have h0 := hf 0 (by decide)
        have h14 := hf 14 (by decide)
        simp only [slotOf, GcF, List.getD_cons_succ, List.getD_cons_zero] at h0 h14
        obtain ⟨y, Hn, hy, ev, hbn, hHn⟩ := h14
        obtain ⟨fn, rfl, hft⟩ := hs.put
        rw [hft] at ev h0
        have HY := hid hy
        have HBn := hid hbn
        have HR3 := hid (HR1.out.grew hgw)
        have HG3 := hid (HG1.out.trans hgw)
        have HLow := hid (show ∀ k, AtRow A' k → k < w5.heap.size from fun k hk => Row.at_lt HR1.out.row k hk)
        clear hf hft hs hgw hy hbn hHn
        simp only [List.drop_succ_cons, List.drop_zero, putAll, List.foldl_cons, List.foldl_nil, Act.put, List.setIfInBounds_toArray, List.set_cons_succ, List.set_cons_zero, ev, h0]
        clear ev h0
        go_wp2_with (at_builtin; refine wpList_catR (.agg #[.string ⟨#[]⟩, .int .i64 0, .slice none 0 0, .slice none 0 0]) 4 72 w3' rfl _ _ 28 60 rfl Tryz.underlying28 class_info rfl (by decide) w.heap.size HG3.out.below.size A' i k' _ rfl HR3.out.row (some ⟨Hn, 0, none⟩) 1 1 (cvF y) rfl rfl (cvF_one y) (by intro e; cases e) (blk_row HBn.out) (by omega) (by omega) ?_; rintro A8 k8 w8 hR8 hK8 hT8; have HR8 := hid (HR3.out.app hR8 hK8 hT8 HY.out.ok (fun ad e => by rcases e with e | e; exact ⟨fun hk => by have h1 := HLow.out _ hk; have h2 := (HY.out.n1 ad e).1; omega, (HY.out.n1 ad e).2⟩; exact ⟨fun hk => by have h1 := HLow.out _ hk; have h2 := (HY.out.n2 ad e).1; omega, (HY.out.n2 ad e).2⟩)); have HG8 := hid (hK8.grew HG3.out (Row.at_base HR3.out.row)); clear hR8 hK8 hT8)
        go_round
        case rel => exact ⟨i + 1, A8, k8, vs ++ [y], by go_num, by omega, rfl, HR8, hid (by rw [cls_snoc, HV.out, HNx.out, HY.out.same]), HG8.out⟩
        case measure => simp [intOf]; omega
    · have hin : i = n := by omega
      subst hin
      have HE := hid (show cls vs = cls l by rw [HV.out, List.take_of_length_le (by rw [cls_len, ← EN.out]; exact Nat.le_refl _)])
      have HL := hid (HR.out.len)
      go_wp2_with fail
      go_ret
      exact ⟨vs, A', k', by rw [← HL.out]; rfl, HE.out, by rw [← HL.out]; exact HR.out, HG.out⟩
end Go.Proofs.YtjladeiecokpfaaGreatDoor

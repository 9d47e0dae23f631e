/- Stage 10: Names. -/
import Derived.Test.YtjladeiecokpfaaGreatDoorCsF
import Derived.Test.YtjladeiecokpfaaGreatDoorCsR
import Derived.StillTailTactics
namespace Go.Proofs.YtjladeiecokpfaaGreatDoor
open Go.RowKit Go.Shelf
attribute [local go_sem] Oper.semAt_some

theorem Blk.keptR10 {W W' : World} {row : Option Nat} {g : Nat} {t : TypeId} {cs : Array Value} (h : Blk W g t cs) (hg : W.grownBy W' row) (hr : ∀ r, row = some r → ∃ o : Obj, W.heap[r]? = some o ∧ o.isCells = false) : Blk W' g t cs :=
  (grownBy_keeps_cells hg hr h rfl).trans h
theorem Row.keptR10 {W W' : World} {row : Option Nat} {B : Nat} {e : TypeId} {s : Nat} {A : Option Addr} {n c : Nat} {vs : List Value} (h : Row W B e s A n c vs) (hg : W.grownBy W' row) (hr : ∀ r, row = some r → ∃ o : Obj, W.heap[r]? = some o ∧ o.isCells = false) : Row W' B e s A n c vs := by
  refine ⟨h.1, ?_⟩
  rcases h.2 with h1 | ⟨g, cap, cur, hv, hb, hh, hr2⟩
  · exact .inl h1
  · exact .inr ⟨g, cap, cur, hv, hb, (grownBy_keeps_cells hg hr hh rfl).trans hh, hr2⟩
theorem below_keptR10 {n0 B : Nat} {w0 W W' : World} {row : Option Nat} (h : Below n0 w0 W) (hn : n0 ≤ w0.heap.size) (hB : n0 ≤ B) (hg : W.grownBy W' row) (hr : ∀ r, row = some r → B ≤ r ∧ ∃ o : Obj, W.heap[r]? = some o ∧ o.isCells = false) : Below n0 w0 W' :=
  ownFrom_below (β := Unit) hn hB () W W' row h hg hr
theorem BiRd.keptR {Bs c : Nat} {A : Option Addr} {xs : List Nat} {W W' : World} {row : Option Nat} (h : BiRd Bs c A xs W) (hg : W.grownBy W' row) (hr : ∀ r, row = some r → ∃ o : Obj, W.heap[r]? = some o ∧ o.isCells = false) : BiRd Bs c A xs W' :=
  ⟨cell_kept h.1 hg hr, fun j hj => by
    obtain ⟨ad, e, hc⟩ := h.2 j hj
    exact ⟨ad, e, cell_kept hc hg hr⟩⟩
def varsOf (l : List Cs.Cls) (i : Nat) : List ByteArray := ((l[i]?).map (·.vars)).getD []
def strV (l : List ByteArray) : List Value := l.map Value.string
theorem strV_len (l : List ByteArray) : (strV l).length = l.length := by simp [strV]
theorem str_info10 : (Tryz.prog.info? 9).map (fun i => (i.zero, i.size, i.bytes)) = some (some (.string ⟨#[]⟩), 1, 16) := by kernel_rfl
theorem strV_one (l : List ByteArray) : ∀ u ∈ strV l, u.oneCell' = true := by
  intro u hu
  obtain ⟨_, _, rfl⟩ := List.mem_map.1 hu
  rfl
theorem StrsAt.cells {w : World} {A : Option Addr} {l : List ByteArray} (h : StrsAt w w.heap.size A l) : (A = none → l.length = 0) ∧ ∀ ad, A = some ad → ∀ j u, (strV l)[j]? = some u → w.cell? (ad.add j) = some u := by
  refine ⟨fun hA => ?_, fun ad hA j u hu => ?_⟩
  · rcases Nat.eq_zero_or_pos l.length with h0 | h0
    · exact h0
    · obtain ⟨ad, e, _⟩ := h h0
      rw [hA] at e; cases e
  · obtain ⟨s, hs, rfl⟩ : ∃ s, l[j]? = some s ∧ Value.string s = u := by
      unfold strV at hu
      rw [List.getElem?_map] at hu
      cases hl : l[j]? with
      | none => rw [hl] at hu; cases hu
      | some s => rw [hl] at hu; exact ⟨s, rfl, by simpa using hu⟩
    have hj := (List.getElem?_eq_some_iff.1 hs).1
    obtain ⟨ad', e, _, hc⟩ := h (by omega)
    rw [hA] at e
    obtain rfl := Option.some.inj e
    exact hc j s hs
theorem row_strs {w : World} {B : Nat} {A : Option Addr} {n c : Nat} {l : List ByteArray} (h : Row w B 9 1 A n c (strV l)) (_ : n = l.length) : StrsAt w w.heap.size A l := by
  intro hl
  rcases Row.cases h with ⟨h1, _, _, ⟨rfl, h2, _⟩ | ⟨g, rfl, hb, hlt, hc, _⟩⟩
  · omega
  · refine ⟨_, rfl, hlt, fun i s hi => ?_⟩
    rw [show (⟨g, 0, none⟩ : Addr).add i = ⟨g, i, none⟩ by unfold Addr.add; split <;> simp_all]
    exact hc i _ (by simp [strV, hi])
theorem Row.blk10 {w : World} {B : Nat} {e : TypeId} {s : Nat} {A : Option Addr} {n c : Nat} {vs : List Value} (h : Row w B e s A n c vs) (k : Nat) (hk : AtRow A k) : ∃ t cs, Blk w k t cs := by
  obtain ⟨ad, rfl, rfl⟩ := hk
  rcases h.2 with ⟨h3, _⟩ | ⟨g', cap, cur, hv, _, hh, _⟩
  · cases h3
  · simp only [Value.slice.injEq, Option.some.injEq] at hv
    obtain ⟨rfl, _⟩ := hv
    exact ⟨_, _, hh⟩
theorem BiRd.keptF {F : Nat → Prop} {Bs c : Nat} {A : Option Addr} {xs : List Nat} {W W' : World} (h : BiRd Bs c A xs W) (hk : Kept F W W') (h1 : Bs < W.heap.size) (f1 : ¬ F Bs) (h2 : ∀ ad, A = some ad → ad.block < W.heap.size ∧ ¬ F ad.block) : BiRd Bs c A xs W' :=
  ⟨(hk.cell (p := ⟨Bs, 0, none⟩) h1 f1).trans h.1, fun j hj => by
    obtain ⟨ad, e, hc⟩ := h.2 j hj
    obtain ⟨h3, h4⟩ := h2 ad e
    exact ⟨ad, e, (hk.cell (p := ad.add j) (by rw [block_add]; exact h3) (by rw [block_add]; exact h4)).trans hc⟩⟩
/-- As far as the rounds have come. -/
def NmI (w : World) (G n cap Bs kc bV : Nat) (A Ac : Option Addr) (R : List Nat) (cs : List Cs.Cls) (pre : List Nat) (W : World) : Prop :=
  ∃ (A' : Option Addr) (c' : Nat) (vals : List ByteArray), Blk W G 28 #[.slice A n cap] ∧ Blk W (G + 1) 42 #[.slice A' vals.length c'] ∧ Row W bV 9 1 A' vals.length c' (strV vals) ∧
    vals = (R.reverse.take pre.length).flatMap (varsOf cs) ∧ BiRd Bs kc Ac R W ∧ Below w.heap.size w W ∧ bV ≤ W.heap.size
/-- What 'Names' answers. -/
def NamesPost (w : World) (r : List ByteArray) (e : Ending) (w' : World) : Prop := ∃ (A : Option Addr) (c : Nat), e = .returned (.slice A r.length c) ∧ Row w' w.heap.size 9 1 A r.length c (strV r) ∧ Grew w w'
set_option maxRecDepth 100000 in
set_option maxHeartbeats 4000000 in
theorem names_c (A : Option Addr) (cap : Nat) (l : List CV) (x : Int) (w : World) (h : ClsAt w A l) :
    Calls Tryz.prog 22 #[.slice A l.length cap, .int .i64 x] w (NamesPost w (Cs.names (cls l) x)) := by
  obtain ⟨n, en⟩ : ∃ n, n = l.length := ⟨_, rfl⟩
  obtain ⟨W, hW⟩ : ∃ W, W = (w.alloc (.cells #[.slice A n cap] 28)).alloc (.cells #[.slice none 0 0] 42) := ⟨_, rfl⟩
  have hg : Grew w W := by rw [hW]; exact ((Grew.refl w).alloc _).alloc _
  obtain ⟨G, hG⟩ : ∃ G, G = w.heap.size := ⟨_, rfl⟩
  have b0 : Blk W G 28 #[.slice A n cap] := by
    rw [hW, hG]; exact (Blk.new w _ _).grew ((Grew.refl _).alloc _)
  have b1 : Blk W (G + 1) 42 #[.slice none 0 0] := by
    have := Blk.new (w.alloc (.cells #[.slice A n cap] 28)) 42 #[.slice none 0 0]
    rw [World.size_alloc] at this
    rw [hW, hG]; exact this
  have HG := hid hg
  have HA := hid h
  have HC := hid (chain_c A cap l x W (h.grew hg))
  have HL := hid (Cs.chain_le (cls l) x)
  have HM := hid (Cs.chain_mem (cls l) x)
  have hn : n ≤ 100 := by rw [en]; exact h.len
  obtain ⟨V, hV⟩ : ∃ V, V = Cs.names (cls l) x := ⟨_, rfl⟩
  rw [← en] at HC ⊢
  rw [← hV]
  unfold Cs.names at hV
  have HV := hid hV
  have EN := hid en
  have HB0 := hid b0
  have HB1 := hid b1
  clear h hg en hV
  generalize Cs.chain (cls l) x = R at *
  have c0 := b0.cell 0
  have hlt0 := b0.lt
  simp only [List.getElem?_toArray, List.getElem?_cons_zero] at c0
  clear b0 b1
  subst hG
  refine (callsIn_wide (n := 5)).1 ?_
  refine callsIn_of_wp_marks Tryz.func22 rfl trivial ?_ rfl
  simp only [Tryz.ntmps22, List.size_toArray, List.length_cons, List.length_nil, Nat.reduceAdd, Nat.reduceSub, Array.replicate_succ, Array.replicate_zero, List.push_toArray, List.append_toArray, List.nil_append, List.cons_append]
  refine wpIn_wide.2 ?_
  go_wp2_with fail
  rw [← hW]
  clear hW
  go_wp2_with fail
  refine HC.out.mono ?_
  rintro e w1 ⟨B, k, rfl, hr, hg1⟩
  have HR := hid hr
  have HG1 := hid hg1
  clear hr hg1 c0 hlt0
  go_wp2_with (go_at_call 48; refine (callsIn_wide.1 (bi_in Fence.wide 4 trivial rfl _ _ _ _)).mono ?_; rintro e w' ⟨rfl, rfl⟩)
  refine (wpIn_wide (n := 5)).1 ?_
  obtain ⟨w2, hw2⟩ : ∃ w2, w2 = w1.alloc (.cells #[.slice B R.length k] 58) := ⟨_, rfl⟩
  obtain ⟨Bs, hBs⟩ : ∃ Bs, Bs = w1.heap.size := ⟨_, rfl⟩
  have hg2 : Grew w1 w2 := by rw [hw2]; exact (Grew.refl w1).alloc _
  have hbx : Blk w2 Bs 58 #[.slice B R.length k] := by rw [hw2, hBs]; exact Blk.new w1 _ _
  have hrd : BiRd Bs k B R w2 := by
    refine ⟨hbx.cell 0, fun j hj => ?_⟩
    obtain ⟨g, d, rfl, hd, hc, _⟩ := rown_at HR.out hg2 hj
    refine ⟨_, rfl, ?_⟩
    rw [show (⟨g, 0, none⟩ : Addr).add j = ⟨g, j, none⟩ by unfold Addr.add; split <;> simp_all, hc, List.getD_eq_getElem?_getD, hd]
    rfl
  have h0 : NmI w w.heap.size n cap Bs k w2.heap.size A B R (cls l) [] w2 :=
    ⟨none, 0, [], HB0.out.grew (HG1.out.trans hg2), HB1.out.grew (HG1.out.trans hg2), Row.nil _ _ _ _, rfl, hrd, (HG.out.trans (HG1.out.trans hg2)).below, Nat.le_refl _⟩
  have hRl : R.length ≤ 100 := by have := HL.out; rw [cls_len, ← EN.out] at this; omega
  have HRl := hid hRl
  have HBa := hid (show ∀ ad, B = some ad → w.heap.size + 1 < ad.block ∧ ad.block < Bs from fun ad e => by
    have h1 := Row.at_base HR.out ad.block ⟨ad, e, rfl⟩
    have h2 := Row.at_lt HR.out ad.block ⟨ad, e, rfl⟩
    have h3 := HB1.out.lt
    rw [hBs]
    exact ⟨by omega, h2⟩)
  have HGW := hid (HG.out.trans (HG1.out.trans hg2))
  have H1s : Hid (Bs + 1 = w2.heap.size ∧ w.heap.size + 1 < Bs) := hid ⟨by rw [hw2, hBs]; simp, by rw [hBs]; have := (HB1.out.grew HG1.out).lt; omega⟩
  rw [← hw2, ← hBs]
  clear hw2 hBs hg2 hbx hrd hRl
  refine wpIn_rangeX (gf := 71) (lb := #[.pointer (some ⟨Bs, 0, none⟩)]) rfl (enters_of Tryz.func71 (by kernel_rfl) rfl) (NmI w w.heap.size n cap Bs k w2.heap.size A B R (cls l))
    (fun pre W W' row hs hg hr => by
      obtain ⟨A', c', vals, h1, h2, h3, h4, h5, h6, h7⟩ := hs
      exact ⟨A', c', vals, h1.keptR10 hg (fun r e => (hr r e).2), h2.keptR10 hg (fun r e => (hr r e).2), h3.keptR10 hg (fun r e => (hr r e).2), h4, h5.keptR hg (fun r e => (hr r e).2), below_keptR10 h6 (Nat.le_refl _) HGW.out.below.size hg hr, Nat.le_trans h7 hg.size⟩)
    h0 (fun _ => rfl) (bi_x _ Bs k B R (by omega) (by have := HRl.out; omega) _ (fun _ _ h => by obtain ⟨_, _, _, _, _, _, _, h5, _⟩ := h; exact h5)) ?a1 ?assign ?body ?done
  case assign =>
    intro l x W K hK
    unfold biEnc
    gi_wp2
    exact hK
  case body =>
    clear h0
    rintro lp pre x Wr ⟨A', c', vals, k0, k1, k3, k4, k5, k6, k7⟩ ⟨rfl, hpn⟩
    have hq : R.length - 1 - pre.length < R.length := by omega
    obtain ⟨d, hd⟩ : ∃ d, R[R.length - 1 - pre.length]? = some d := ⟨_, List.getElem?_eq_getElem hq⟩
    have hdn : d < n := by have := HM.out d (List.mem_of_getElem? hd); rwa [cls_len, ← EN.out] at this
    have hdi : (d : Int) < (n : Int) := by omega
    have hgr : Grew w Wr := .mk k6
    obtain ⟨ad, v, rfl, hv, -, -, r2, -, hb2, hok⟩ := cv_at HA.out hgr.drew (i := d) (by rw [← EN.out]; exact hdn)
    have HE := hid (show vals ++ v.c.vars = (R.reverse.take (pre.length + 1)).flatMap (varsOf (cls l)) by
      have e : R.reverse[pre.length]? = some d := by rw [List.getElem?_reverse hpn]; exact hd
      rw [List.take_add_one, e, List.flatMap_append, ← k4]
      simp [varsOf, cls_at hv])
    have eg : R[R.length - 1 - pre.length]?.getD 0 = d := by rw [hd]; rfl
    rw [eg]
    have hvl : vals.length ≤ 100 * 100 := by
      have h1 := Cs.total_le HA.out.fit.vars (R.reverse.take pre.length)
      have h2 : vals.length = Cs.total (cls l) (R.reverse.take pre.length) := by
        rw [k4, List.length_flatMap]
        rfl
      rw [List.length_take, List.length_reverse] at h1
      have := HRl.out
      omega
    have hnv : v.c.vars.length ≤ 100 := HA.out.fit.vars _ (HA.out.mem (List.mem_of_getElem? hv))
    have HSt := hid hok.vars
    have HD := hid ((Grew.refl Wr).drew)
    have HK0 := hid k0.drew
    have HK1 := hid k1.drew
    have HK3 := hid (k3.grew HD.out)
    have HK5 := hid (k5.keptF (Kept.of_grew (F := fun _ => False) HD.out) (by have h1 := H1s.out; omega) (fun h => h) (fun ad e => ⟨by have h1 := H1s.out; have := (HBa.out ad e).2; omega, fun h => h⟩))
    have hsz : w2.heap.size ≤ Wr.drew.heap.size := Nat.le_trans k7 HD.out.below.size
    have HK6 := hid (hgr.drew)
    have d0 := k0.drew.cell 0
    have d1 := k1.drew.cell 0
    have d2 := k0.drew.lt
    have d3 := k1.drew.lt
    have d4 := k1.drew.frozen 0
    simp only [List.getElem?_toArray, List.getElem?_cons_zero] at d0 d1
    clear k0 k1 k3 k4 k5 k6 k7 hgr eg hd hv hok hq
    refine wpIn_block ?_
    refine region_still_round 6 (by kernel_rfl) (by kernel_rfl) (by kernel_rfl) ?_
    simp only [List.take_succ_cons, List.take_zero, List.drop_succ_cons, List.drop_zero]
    generalize Wr.drew = Wd at *
    still_step
    still_step
    still_step
    still_step
    still_step
    still_step
    refine wpStill_nil ?_
    change wpList _ _ _ _ _ Wd
    refine wpList_catR (.string ⟨#[]⟩) 1 16 Wd rfl _ _ 42 9 rfl Tryz.underlying42 str_info10 rfl (by decide) w2.heap.size hsz A' vals.length c' (strV vals) rfl HK3.out v.A1 v.c.vars.length v.c1 (strV v.c.vars) rfl (by rw [strV_len, Nat.mul_one]) (strV_one _) HSt.out.cells.1 HSt.out.cells.2 (by omega) (by omega) ?_
    rintro A3 c3 W3 hR3 hK3 hT3
    have hnot : ∀ g, g < w2.heap.size → ¬ AtRow A' g := fun g hg ha => by
      have := Row.at_base HK3.out g ha
      omega
    have hH := H1s.out
    have e0 := HK0.out.kept hK3 (hnot _ (by omega))
    have e1 := HK1.out.kept hK3 (hnot _ (by omega))
    have x1 := e1.cell 0
    have x2 := e1.frozen 0
    have x3 := e1.lt
    simp only [List.getElem?_toArray, List.getElem?_cons_zero] at x1
    have HE0 := hid e0
    have HE1 := hid e1
    have HR3 := hid hR3
    have HKp := hid hK3
    have HNot := hid hnot
    have HSz := hid hsz
    clear e0 e1 hR3 hK3 hT3 hnot hH hsz d0 d1 d2 d3 d4 r2 hb2
    go_wp2_with fail
    have hW4 : Kept (fun k => k = w.heap.size + 1) W3 (W3.setCell ⟨w.heap.size + 1, 0, none⟩ (.slice A3 (vals.length + v.c.vars.length) c3)) := Kept.setCell (F := fun k => k = w.heap.size + 1) (Kept.refl _ W3) (p := ⟨w.heap.size + 1, 0, none⟩) (fun _ => rfl) _
    have hf : ∀ g, A3 = some ⟨g, 0, none⟩ → ¬ g = w.heap.size + 1 := fun g e => by
      have h1 := Row.at_base HR3.out g ⟨_, e, rfl⟩
      have h2 := H1s.out
      omega
    have hfar := HE0.out.far (p := ⟨w.heap.size + 1, 0, none⟩) (show w.heap.size ≠ w.heap.size + 1 by omega) (.slice A3 (vals.length + v.c.vars.length) c3)
    have hput := HE1.out.put 0 (.slice A3 (vals.length + v.c.vars.length) c3)
    have hG3 : Grew w W3 := HKp.out.grew HK6.out (fun k hk => by
      have h1 := Row.at_base HK3.out k hk
      have h2 := H1s.out
      omega)
    show _ ∧ KeepsFrom _ _ _ ∧ NmI _ _ _ _ _ _ _ _ _ _ _ _ _
    refine ⟨rfl, ((kf_grew10 HD.out).trans (kf_kept10 HKp.out (fun k hk => HK3.out.blk10 k hk))).trans ((KeepsOthers.setCell W3 ⟨w.heap.size + 1, 0, none⟩ _).from _), A3, c3, vals ++ v.c.vars, hfar, ?_, ?_, ?_, ?_, ?_, ?_⟩
    · rw [List.length_append]; exact hput
    · rw [List.length_append, show strV (vals ++ v.c.vars) = strV vals ++ strV v.c.vars by simp [strV]]
      exact HR3.out.kept hW4 hf
    · rw [HE.out, List.length_append]; rfl
    · have h1 := H1s.out
      have h2 := HSz.out
      have h3 := HKp.out.size
      refine (HK5.out.keptF HKp.out (by omega) (HNot.out _ (by omega)) fun ad e => ?_).keptF hW4 (by omega) (by omega) fun ad e => ?_
      · have h4 := HBa.out ad e
        exact ⟨by omega, HNot.out _ (by omega)⟩
      · have h4 := HBa.out ad e
        exact ⟨by omega, by omega⟩
    · exact (hG3.setCell (p := ⟨w.heap.size + 1, 0, none⟩) (Nat.le_succ _) _).below
    · have h2 := HSz.out
      have h3 := HKp.out.size
      have h4 := hW4.size
      omega
  case done =>
    clear h0
    rintro D pre W3 hD hlen ⟨A', c', vals, k0, k1, k3, k4, k5, k6, k7⟩ hK
    have hV2 := hid (show V = vals by
      rw [HV.out, k4, hlen, List.take_of_length_le (by rw [List.length_reverse]; exact Nat.le_refl _)]
      rfl)
    have e1 := k1.cell 0
    have e2 := k1.lt
    simp only [List.getElem?_toArray, List.getElem?_cons_zero] at e1
    have HK3 := hid k3
    have HK6 := hid k6
    clear k0 k1 k3 k4 k5 k6 k7
    go_wp2_with fail
    refine ⟨by simp, .inl ⟨_, _, rfl, run_takeDeferred hK, ?_⟩⟩
    have hr' : ∀ r, some D = some r → ∃ o : Obj, W3.heap[r]? = some o ∧ o.isCells = false := fun r e => by cases e; exact ⟨_, hK, rfl⟩
    refine ⟨_, results_tmp rfl _ _ _, A', c', by rw [hV2.out]; rfl, ?_, ?_⟩
    · rw [hV2.out]
      exact (HK3.out.keptR10 (grownBy_putObj' _ D (.deferred none)) hr').low HGW.out.below.size
    · exact .mk (below_keptR10 (B := D) HK6.out (Nat.le_refl _) (Nat.le_trans HGW.out.below.size hD) (grownBy_putObj' _ D (.deferred none)) (fun r e => ⟨by cases e; exact Nat.le_refl _, hr' r e⟩))
end Go.Proofs.YtjladeiecokpfaaGreatDoor

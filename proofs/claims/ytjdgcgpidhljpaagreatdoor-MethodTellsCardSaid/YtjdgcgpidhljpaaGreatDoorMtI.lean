/- Stage 9: allows: may an instruction stand in a part? Written by tools/gen_mti.py. -/
import Derived.Test.YtjdgcgpidhljpaaGreatDoorMtH
namespace Go.Proofs.YtjdgcgpidhljpaaGreatDoor
open Go.RowKit

section
variable {lits : List Mt.Lit} {vs : List PV} {A1 A2 : Option Addr} {n1 n2 c1 c2 : Nat} {vars classes : Int} {p : Nat} {oa ob : Int} {w : World} {sel : ByteArray}
/-- What 'allows' is called in. -/
structure AlIn (w : World) (lits : List Mt.Lit) (vs : List PV) (A1 A2 : Option Addr) (n1 n2 p : Nat) (oa ob : Int) : Prop where
  l : LitsAt w A1 lits
  v : PartsAt w A2 vs
  hn1 : n1 = lits.length
  hn2 : n2 = vs.length
  few : n2 ≤ 100
  heads : Mt.HeadsOk (vs.map (·.p))
  hp : p < n2
  ha : 0 ≤ oa ∧ oa ≤ 1000000
  hb : 0 ≤ ob ∧ ob ≤ 1000000
  mx : MaxAt w
/-- The boxes of the two structs. -/
def alW (w : World) (A1 : Option Addr) (n1 c1 : Nat) (A2 : Option Addr) (n2 c2 : Nat) (vars classes : Int) (cd : Nat) (oa ob : Int) : World :=
  (w.alloc (.cells #[.slice A1 n1 c1, .slice A2 n2 c2, .int .i64 vars, .int .i64 classes] 68)).alloc (.cells #[.int .u8 ((cd : Nat) : Int), .int .i64 oa, .int .i64 ob] 119)
theorem alW_grew {cd : Nat} : Grew w (alW w A1 n1 c1 A2 n2 c2 vars classes cd oa ob) := ((Grew.refl w).alloc _).alloc _
def AlPost (w : World) (b : Bool) (e : Ending) (w' : World) : Prop := e = .returned (.bool b) ∧ Grew w w'
def Al (w : World) (A1 : Option Addr) (n1 c1 : Nat) (A2 : Option Addr) (n2 c2 : Nat) (vars classes : Int) (p cd : Nat) (oa ob : Int) (b : Bool) : Prop :=
  Calls Tryz.prog 58 #[.agg #[.slice A1 n1 c1, .slice A2 n2 c2, .int .i64 vars, .int .i64 classes], .int .i64 ((p : Nat) : Int), .agg #[.int .u8 ((cd : Nat) : Int), .int .i64 oa, .int .i64 ob]] w (AlPost w b)
set_option maxRecDepth 100000 in
set_option maxHeartbeats 1000000 in
theorem al_var7 (_h : AlIn w lits vs A1 A2 n1 n2 p oa ob) : Al w A1 n1 c1 A2 n2 c2 vars classes p 7 oa ob (decide (oa < vars)) := by
  have HG := hid (alW_grew (w := w) (A1 := A1) (n1 := n1) (c1 := c1) (A2 := A2) (n2 := n2) (c2 := c2) (vars := vars) (classes := classes) (cd := 7) (oa := oa) (ob := ob))
  unfold Al
  unfold alW at HG
  rw [show (((7 : Nat) : Nat) : Int) = 7 from rfl] at HG ⊢
  go_enter Tryz.func58, Tryz.ntmps58
  go_wp2_with fail
  go_ret
  exact ⟨rfl, HG.out⟩
set_option maxRecDepth 100000 in
set_option maxHeartbeats 1000000 in
theorem al_var8 (_h : AlIn w lits vs A1 A2 n1 n2 p oa ob) : Al w A1 n1 c1 A2 n2 c2 vars classes p 8 oa ob (decide (oa < vars)) := by
  have HG := hid (alW_grew (w := w) (A1 := A1) (n1 := n1) (c1 := c1) (A2 := A2) (n2 := n2) (c2 := c2) (vars := vars) (classes := classes) (cd := 8) (oa := oa) (ob := ob))
  unfold Al
  unfold alW at HG
  rw [show (((8 : Nat) : Nat) : Int) = 8 from rfl] at HG ⊢
  go_enter Tryz.func58, Tryz.ntmps58
  go_wp2_with fail
  go_ret
  exact ⟨rfl, HG.out⟩
set_option maxRecDepth 100000 in
set_option maxHeartbeats 1000000 in
theorem al_class (_h : AlIn w lits vs A1 A2 n1 n2 p oa ob) : Al w A1 n1 c1 A2 n2 c2 vars classes p 20 oa ob (decide (oa < classes)) := by
  have HG := hid (alW_grew (w := w) (A1 := A1) (n1 := n1) (c1 := c1) (A2 := A2) (n2 := n2) (c2 := c2) (vars := vars) (classes := classes) (cd := 20) (oa := oa) (ob := ob))
  unfold Al
  unfold alW at HG
  rw [show (((20 : Nat) : Nat) : Int) = 20 from rfl] at HG ⊢
  go_enter Tryz.func58, Tryz.ntmps58
  go_wp2_with fail
  go_ret
  exact ⟨rfl, HG.out⟩
set_option maxRecDepth 100000 in
set_option maxHeartbeats 1000000 in
theorem al_home (_h : AlIn w lits vs A1 A2 n1 n2 p oa ob) : Al w A1 n1 c1 A2 n2 c2 vars classes p 19 oa ob (!(decide (p = 0))) := by
  have HG := hid (alW_grew (w := w) (A1 := A1) (n1 := n1) (c1 := c1) (A2 := A2) (n2 := n2) (c2 := c2) (vars := vars) (classes := classes) (cd := 19) (oa := oa) (ob := ob))
  unfold Al
  unfold alW at HG
  rw [show (((19 : Nat) : Nat) : Int) = 19 from rfl] at HG ⊢
  by_cases hc : p = 0
  · subst hc
    go_enter Tryz.func58, Tryz.ntmps58
    go_wp2_with fail
    go_ret
    exact ⟨rfl, HG.out⟩
  · have e1 : (((p : Nat) : Int) == 0) = false := by rw [beq_eq_false_iff_ne]; omega
    rw [decide_eq_false hc]
    have HE := hid e1
    clear hc
    go_enter Tryz.func58, Tryz.ntmps58
    go_wp2_with fail
    go_ret
    exact ⟨congrArg (fun z => Ending.returned (.bool z)) (show ((((p : Nat) : Int)) != 0) = !false by rw [bne, HE.out]), HG.out⟩
set_option maxRecDepth 100000 in
set_option maxHeartbeats 1000000 in
theorem al_me (_h : AlIn w lits vs A1 A2 n1 n2 p oa ob) : Al w A1 n1 c1 A2 n2 c2 vars classes p 18 oa ob (decide (p = 0)) := by
  have HG := hid (alW_grew (w := w) (A1 := A1) (n1 := n1) (c1 := c1) (A2 := A2) (n2 := n2) (c2 := c2) (vars := vars) (classes := classes) (cd := 18) (oa := oa) (ob := ob))
  unfold Al
  unfold alW at HG
  rw [show (((18 : Nat) : Nat) : Int) = 18 from rfl] at HG ⊢
  by_cases hc : p = 0
  · subst hc
    go_enter Tryz.func58, Tryz.ntmps58
    go_wp2_with fail
    go_ret
    exact ⟨rfl, HG.out⟩
  · have e1 : (((p : Nat) : Int) == 0) = false := by rw [beq_eq_false_iff_ne]; omega
    rw [decide_eq_false hc]
    clear hc
    go_enter Tryz.func58, Tryz.ntmps58
    go_wp2_with fail
    go_ret
    exact ⟨rfl, HG.out⟩
set_option maxRecDepth 100000 in
set_option maxHeartbeats 1000000 in
theorem al_other (_h : AlIn w lits vs A1 A2 n1 n2 p oa ob) {cd : Nat} (hc : cd ≠ 4 ∧ cd ≠ 5 ∧ cd ≠ 6 ∧ cd ≠ 7 ∧ cd ≠ 8 ∧ cd ≠ 11 ∧ cd ≠ 12 ∧ cd ≠ 16 ∧ cd ≠ 18 ∧ cd ≠ 19 ∧ cd ≠ 20) : Al w A1 n1 c1 A2 n2 c2 vars classes p cd oa ob true := by
  have HG := hid (alW_grew (w := w) (A1 := A1) (n1 := n1) (c1 := c1) (A2 := A2) (n2 := n2) (c2 := c2) (vars := vars) (classes := classes) (cd := cd) (oa := oa) (ob := ob))
  unfold Al
  unfold alW at HG
  have e4 : (((cd : Nat) : Int) == 4) = false := by rw [beq_eq_false_iff_ne]; omega
  have e5 : (((cd : Nat) : Int) == 5) = false := by rw [beq_eq_false_iff_ne]; omega
  have e6 : (((cd : Nat) : Int) == 6) = false := by rw [beq_eq_false_iff_ne]; omega
  have e7 : (((cd : Nat) : Int) == 7) = false := by rw [beq_eq_false_iff_ne]; omega
  have e8 : (((cd : Nat) : Int) == 8) = false := by rw [beq_eq_false_iff_ne]; omega
  have e11 : (((cd : Nat) : Int) == 11) = false := by rw [beq_eq_false_iff_ne]; omega
  have e12 : (((cd : Nat) : Int) == 12) = false := by rw [beq_eq_false_iff_ne]; omega
  have e16 : (((cd : Nat) : Int) == 16) = false := by rw [beq_eq_false_iff_ne]; omega
  have e18 : (((cd : Nat) : Int) == 18) = false := by rw [beq_eq_false_iff_ne]; omega
  have e19 : (((cd : Nat) : Int) == 19) = false := by rw [beq_eq_false_iff_ne]; omega
  have e20 : (((cd : Nat) : Int) == 20) = false := by rw [beq_eq_false_iff_ne]; omega
  clear hc
  go_enter Tryz.func58, Tryz.ntmps58
  go_wp2_with fail
  go_ret
  exact ⟨rfl, HG.out⟩
set_option maxRecDepth 100000 in
set_option maxHeartbeats 1000000 in
theorem al_lit (h : AlIn w lits vs A1 A2 n1 n2 p oa ob) : Al w A1 n1 c1 A2 n2 c2 vars classes p 4 oa ob ((lits[oa.toNat]?).elim false (fun x => !(decide (x.k = 2)))) := by
  have HG := hid (alW_grew (w := w) (A1 := A1) (n1 := n1) (c1 := c1) (A2 := A2) (n2 := n2) (c2 := c2) (vars := vars) (classes := classes) (cd := 4) (oa := oa) (ob := ob))
  unfold Al
  have h1 := h.hn1
  obtain ⟨k, rfl⟩ : ∃ k : Nat, oa = k := ⟨oa.toNat, by have := h.ha.1; omega⟩
  rw [Int.toNat_natCast]
  by_cases hk : k < n1
  · obtain ⟨ad, x, rfl, hx, q0, q1, _⟩ := lit_at h.l HG.out (i := k) (by omega)
    rw [hx]
    unfold alW at q0 HG
    rw [show (((4 : Nat) : Nat) : Int) = 4 from rfl] at HG q0 ⊢
    have f1 : (k : Int) < (n1 : Int) := by omega
    show Calls _ _ _ _ (AlPost w (!(decide (x.k = 2))))
    obtain ⟨kk, s⟩ := x
    simp only at q0 ⊢
    clear h hx h1 hk q1
    by_cases h2 : kk = 2
    · subst h2
      rw [show (((2 : Nat) : Nat) : Int) = 2 from rfl] at q0
      go_enter Tryz.func58, Tryz.ntmps58
      go_wp2_with fail
      go_ret
      exact ⟨rfl, HG.out⟩
    · have e2 : (((kk : Nat) : Int) == 2) = false := by rw [beq_eq_false_iff_ne]; omega
      rw [decide_eq_false h2]
      clear h2
      go_enter Tryz.func58, Tryz.ntmps58
      go_wp2_with fail
      go_ret
      refine ⟨?_, HG.out⟩
      simp [bne, e2]
  · rw [List.getElem?_eq_none (by omega)]
    have f1 : ¬ (k : Int) < (n1 : Int) := by omega
    unfold alW at HG
    rw [show (((4 : Nat) : Nat) : Int) = 4 from rfl] at HG ⊢
    clear h h1 hk
    go_enter Tryz.func58, Tryz.ntmps58
    go_wp2_with fail
    go_ret
    exact ⟨rfl, HG.out⟩
set_option maxRecDepth 100000 in
set_option maxHeartbeats 1000000 in
theorem al_send11 (h : AlIn w lits vs A1 A2 n1 n2 p oa ob) : Al w A1 n1 c1 A2 n2 c2 vars classes p 11 oa ob (takesB lits oa ob) := by
  have HG := hid (alW_grew (w := w) (A1 := A1) (n1 := n1) (c1 := c1) (A2 := A2) (n2 := n2) (c2 := c2) (vars := vars) (classes := classes) (cd := 11) (oa := oa) (ob := ob))
  unfold Al
  have HT := hid (takes_c (.slice A2 n2 c2) (.int .i64 vars) (.int .i64 classes) A1 c1 lits oa ob _ (h.l.grew HG.out) h.ha.1 h.hb.1 (h.mx.grew HG.out))
  rw [← h.hn1] at HT
  generalize takesB lits oa ob = b at *
  unfold alW at HG HT
  rw [show (((11 : Nat) : Nat) : Int) = 11 from rfl] at HG HT ⊢
  clear h
  go_enter Tryz.func58, Tryz.ntmps58
  go_wp2_with fail
  refine HT.out.mono ?_
  rintro e w1 ⟨rfl, hg⟩
  go_wp2_with fail
  go_ret
  exact ⟨rfl, HG.out.trans hg⟩
set_option maxRecDepth 100000 in
set_option maxHeartbeats 1000000 in
theorem al_send12 (h : AlIn w lits vs A1 A2 n1 n2 p oa ob) : Al w A1 n1 c1 A2 n2 c2 vars classes p 12 oa ob (takesB lits oa ob) := by
  have HG := hid (alW_grew (w := w) (A1 := A1) (n1 := n1) (c1 := c1) (A2 := A2) (n2 := n2) (c2 := c2) (vars := vars) (classes := classes) (cd := 12) (oa := oa) (ob := ob))
  unfold Al
  have HT := hid (takes_c (.slice A2 n2 c2) (.int .i64 vars) (.int .i64 classes) A1 c1 lits oa ob _ (h.l.grew HG.out) h.ha.1 h.hb.1 (h.mx.grew HG.out))
  rw [← h.hn1] at HT
  generalize takesB lits oa ob = b at *
  unfold alW at HG HT
  rw [show (((12 : Nat) : Nat) : Int) = 12 from rfl] at HG HT ⊢
  clear h
  go_enter Tryz.func58, Tryz.ntmps58
  go_wp2_with fail
  refine HT.out.mono ?_
  rintro e w1 ⟨rfl, hg⟩
  go_wp2_with fail
  go_ret
  exact ⟨rfl, HG.out.trans hg⟩
set_option maxRecDepth 100000 in
set_option maxHeartbeats 1000000 in
theorem al_temp5 (h : AlIn w lits vs A1 A2 n1 n2 p oa ob) : Al w A1 n1 c1 A2 n2 c2 vars classes p 5 oa ob (if Mt.up (vs.map (·.p)) oa.toNat p < 0 then false else ((vs.map (·.p))[(Mt.up (vs.map (·.p)) oa.toNat p).toNat]?).elim false (fun x => decide (ob < x.temps))) := by
  have HG := hid (alW_grew (w := w) (A1 := A1) (n1 := n1) (c1 := c1) (A2 := A2) (n2 := n2) (c2 := c2) (vars := vars) (classes := classes) (cd := 5) (oa := oa) (ob := ob))
  unfold Al
  have HO := hid (outward_c (.slice A1 n1 c1) (.int .i64 vars) (.int .i64 classes) A2 c2 vs p oa _ (h.v.grew HG.out) h.heads (.inr ⟨by omega, by have := h.hp; have := h.hn2; omega⟩) h.ha.1 h.ha.2)
  rw [← h.hn2] at HO
  have hpl := up_place h.heads oa.toNat p (.inr ⟨by omega, by have := h.hp; have := h.hn2; omega⟩)
  generalize Mt.up (vs.map (·.p)) oa.toNat p = q at *
  rcases hpl with rfl | ⟨hq1, hq2⟩
  · rw [if_pos (by decide)]
    unfold alW at HG HO
    rw [show (((5 : Nat) : Nat) : Int) = 5 from rfl] at HG HO ⊢
    clear h
    go_enter Tryz.func58, Tryz.ntmps58
    go_wp2_with fail
    refine HO.out.mono ?_
    rintro e w1 ⟨rfl, hg⟩
    have HG1 := hid (HG.out.trans hg)
    clear hg
    go_wp2_with fail
    go_quiet (fail)
    go_wp2_with fail
    go_ret
    exact ⟨rfl, HG1.out.trans (Grew.mk ⟨rfl, rfl, rfl, Nat.le_refl _, fun _ _ => rfl⟩)⟩
  · obtain ⟨k, rfl⟩ : ∃ k : Nat, q = k := ⟨q.toNat, by omega⟩
    rw [if_neg (by omega), Int.toNat_natCast, List.getElem?_map]
    have hk : k < vs.length := by omega
    have HV := hid h.v
    obtain ⟨v0, hv0⟩ : ∃ v0, vs[k]? = some v0 := ⟨_, List.getElem?_eq_getElem hk⟩
    rw [hv0]
    show Calls _ _ _ _ (AlPost w (decide (ob < v0.p.temps)))
    have HV0 := hid hv0
    have f1 : ((((k : Nat) : Int)) == -1) = false := by rw [beq_eq_false_iff_ne]; omega
    have f2 : ((k : Nat) : Int) < (n2 : Int) := by have := h.hn2; omega
    have HK := hid hk
    unfold alW at HG HO
    rw [show (((5 : Nat) : Nat) : Int) = 5 from rfl] at HG HO ⊢
    clear h hv0 hk hq1 hq2
    go_enter Tryz.func58, Tryz.ntmps58
    go_wp2_with fail
    refine HO.out.mono ?_
    rintro e w1 ⟨rfl, y, rfl⟩
    have HG1 := hid (HG.out.trans y.grew)
    obtain ⟨ad, v, rfl, hv, _, _, q2, _, _⟩ := pv_at HV.out HG1.out (i := k) HK.out
    rw [HV0.out] at hv
    obtain rfl := Option.some.inj hv
    clear hv
    generalize v0.p.temps = tv at *
    go_wp2_with fail
    go_quiet (fail)
    go_wp2_with fail
    go_ret
    exact ⟨rfl, HG1.out.trans (Grew.mk ⟨rfl, rfl, rfl, Nat.le_refl _, fun _ _ => rfl⟩)⟩
set_option maxRecDepth 100000 in
set_option maxHeartbeats 1000000 in
theorem al_temp6 (h : AlIn w lits vs A1 A2 n1 n2 p oa ob) : Al w A1 n1 c1 A2 n2 c2 vars classes p 6 oa ob (if Mt.up (vs.map (·.p)) oa.toNat p < 0 then false else ((vs.map (·.p))[(Mt.up (vs.map (·.p)) oa.toNat p).toNat]?).elim false (fun x => decide (ob < x.temps))) := by
  have HG := hid (alW_grew (w := w) (A1 := A1) (n1 := n1) (c1 := c1) (A2 := A2) (n2 := n2) (c2 := c2) (vars := vars) (classes := classes) (cd := 6) (oa := oa) (ob := ob))
  unfold Al
  have HO := hid (outward_c (.slice A1 n1 c1) (.int .i64 vars) (.int .i64 classes) A2 c2 vs p oa _ (h.v.grew HG.out) h.heads (.inr ⟨by omega, by have := h.hp; have := h.hn2; omega⟩) h.ha.1 h.ha.2)
  rw [← h.hn2] at HO
  have hpl := up_place h.heads oa.toNat p (.inr ⟨by omega, by have := h.hp; have := h.hn2; omega⟩)
  generalize Mt.up (vs.map (·.p)) oa.toNat p = q at *
  rcases hpl with rfl | ⟨hq1, hq2⟩
  · rw [if_pos (by decide)]
    unfold alW at HG HO
    rw [show (((6 : Nat) : Nat) : Int) = 6 from rfl] at HG HO ⊢
    clear h
    go_enter Tryz.func58, Tryz.ntmps58
    go_wp2_with fail
    refine HO.out.mono ?_
    rintro e w1 ⟨rfl, hg⟩
    have HG1 := hid (HG.out.trans hg)
    clear hg
    go_wp2_with fail
    go_quiet (fail)
    go_wp2_with fail
    go_ret
    exact ⟨rfl, HG1.out.trans (Grew.mk ⟨rfl, rfl, rfl, Nat.le_refl _, fun _ _ => rfl⟩)⟩
  · obtain ⟨k, rfl⟩ : ∃ k : Nat, q = k := ⟨q.toNat, by omega⟩
    rw [if_neg (by omega), Int.toNat_natCast, List.getElem?_map]
    have hk : k < vs.length := by omega
    have HV := hid h.v
    obtain ⟨v0, hv0⟩ : ∃ v0, vs[k]? = some v0 := ⟨_, List.getElem?_eq_getElem hk⟩
    rw [hv0]
    show Calls _ _ _ _ (AlPost w (decide (ob < v0.p.temps)))
    have HV0 := hid hv0
    have f1 : ((((k : Nat) : Int)) == -1) = false := by rw [beq_eq_false_iff_ne]; omega
    have f2 : ((k : Nat) : Int) < (n2 : Int) := by have := h.hn2; omega
    have HK := hid hk
    unfold alW at HG HO
    rw [show (((6 : Nat) : Nat) : Int) = 6 from rfl] at HG HO ⊢
    clear h hv0 hk hq1 hq2
    go_enter Tryz.func58, Tryz.ntmps58
    go_wp2_with fail
    refine HO.out.mono ?_
    rintro e w1 ⟨rfl, y, rfl⟩
    have HG1 := hid (HG.out.trans y.grew)
    obtain ⟨ad, v, rfl, hv, _, _, q2, _, _⟩ := pv_at HV.out HG1.out (i := k) HK.out
    rw [HV0.out] at hv
    obtain rfl := Option.some.inj hv
    clear hv
    generalize v0.p.temps = tv at *
    go_wp2_with fail
    go_quiet (fail)
    go_wp2_with fail
    go_ret
    exact ⟨rfl, HG1.out.trans (Grew.mk ⟨rfl, rfl, rfl, Nat.le_refl _, fun _ _ => rfl⟩)⟩
set_option maxRecDepth 100000 in
set_option maxHeartbeats 1000000 in
theorem al_block (h : AlIn w lits vs A1 A2 n1 n2 p oa ob) : Al w A1 n1 c1 A2 n2 c2 vars classes p 16 oa ob (((vs.map (·.p))[oa.toNat]?).elim false (fun x => decide (x.outer = ((p : Nat) : Int)))) := by
  have HG := hid (alW_grew (w := w) (A1 := A1) (n1 := n1) (c1 := c1) (A2 := A2) (n2 := n2) (c2 := c2) (vars := vars) (classes := classes) (cd := 16) (oa := oa) (ob := ob))
  unfold Al
  have h1 := h.hn2
  obtain ⟨k, rfl⟩ : ∃ k : Nat, oa = k := ⟨oa.toNat, by have := h.ha.1; omega⟩
  rw [Int.toNat_natCast, List.getElem?_map]
  by_cases hk : k < n2
  · obtain ⟨ad, v, rfl, hv, q0, _, _, _, _⟩ := pv_at h.v HG.out (i := k) (by omega)
    rw [hv]
    show Calls _ _ _ _ (AlPost w (decide (v.p.outer = ((p : Nat) : Int))))
    generalize v.p.outer = ou at *
    unfold alW at q0 HG
    rw [show (((16 : Nat) : Nat) : Int) = 16 from rfl] at HG q0 ⊢
    have f1 : (k : Int) < (n2 : Int) := by omega
    have hd : decide (ou = ((p : Nat) : Int)) = (ou == ((p : Nat) : Int)) := by rw [Bool.eq_iff_iff, decide_eq_true_iff, beq_iff_eq]
    rw [hd]
    clear h hv h1 hk hd
    go_enter Tryz.func58, Tryz.ntmps58
    go_wp2_with fail
    go_ret
    exact ⟨rfl, HG.out⟩
  · rw [List.getElem?_eq_none (by omega)]
    have f1 : ¬ (k : Int) < (n2 : Int) := by omega
    unfold alW at HG
    rw [show (((16 : Nat) : Nat) : Int) = 16 from rfl] at HG ⊢
    clear h h1 hk
    go_enter Tryz.func58, Tryz.ntmps58
    go_wp2_with fail
    go_ret
    exact ⟨rfl, HG.out⟩
/-- All codes. -/
theorem allows_c (h : AlIn w lits vs A1 A2 n1 n2 p oa ob) (cd : Nat) : Al w A1 n1 c1 A2 n2 c2 vars classes p cd oa ob (Mt.fits ⟨sel, lits, vs.map (·.p)⟩ p ⟨cd, oa, ob⟩ vars classes) := by
  by_cases hc : cd ≠ 4 ∧ cd ≠ 5 ∧ cd ≠ 6 ∧ cd ≠ 7 ∧ cd ≠ 8 ∧ cd ≠ 11 ∧ cd ≠ 12 ∧ cd ≠ 16 ∧ cd ≠ 18 ∧ cd ≠ 19 ∧ cd ≠ 20
  · have : Mt.fits ⟨sel, lits, vs.map (·.p)⟩ p ⟨cd, oa, ob⟩ vars classes = true := by
      unfold Mt.fits
      simp only
      rw [if_neg (by omega), if_neg (by omega), if_neg (by omega), if_neg (by omega), if_neg (by omega), if_neg (by omega), if_neg (by omega), if_neg (by omega)]
    rw [this]
    exact al_other h hc
  · rcases (by omega : cd = 4 ∨ cd = 5 ∨ cd = 6 ∨ cd = 7 ∨ cd = 8 ∨ cd = 11 ∨ cd = 12 ∨ cd = 16 ∨ cd = 18 ∨ cd = 19 ∨ cd = 20) with rfl | rfl | rfl | rfl | rfl | rfl | rfl | rfl | rfl | rfl | rfl
    · exact al_lit h
    · exact al_temp5 h
    · exact al_temp6 h
    · exact al_var7 h
    · exact al_var8 h
    · exact al_send11 h
    · exact al_send12 h
    · exact al_block h
    · exact al_me h
    · exact al_home h
    · exact al_class h
end
end Go.Proofs.YtjdgcgpidhljpaaGreatDoor

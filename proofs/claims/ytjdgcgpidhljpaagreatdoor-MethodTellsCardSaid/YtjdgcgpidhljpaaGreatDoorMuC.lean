/- Stage 9, the document's own: fits: may an instruction stand in a part? Written by tools/gen_muc.py. -/
import Derived.Test.YtjdgcgpidhljpaaGreatDoorMuB
import Derived.Test.YtjdgcgpidhljpaaGreatDoorMtK
import Derived.BigQuiet
namespace Go.Proofs.YtjdgcgpidhljpaaGreatDoor
open Go.RowKit

/-- A part of the first p + 1, or none. -/
def InTo (p : Nat) (q : Int) : Prop := q = -1 ∨ (0 ≤ q ∧ q ≤ (p : Int))
theorem into_outer {l : List PV} {p j : Nat} {v : PV} (hh : HeadsTo l (p + 1)) (hj : j ≤ p) (hv : l[j]? = some v) : InTo p v.p.outer := by
  have := hh j v (by omega) hv
  simp only [Mt.headOk, Bool.and_eq_true] at this
  have h1 := this.1.1
  unfold Mt.outerOk at h1
  split at h1
  · exact .inl (decide_eq_true_iff.1 h1)
  · simp only [Bool.and_eq_true, decide_eq_true_eq] at h1
    exact .inr ⟨h1.1, by omega⟩
theorem into_up {l : List PV} {p : Nat} (hp : p < l.length) (hh : HeadsTo l (p + 1)) : ∀ (k : Nat) (q : Int), InTo p q → InTo p (Mt.up (l.map (·.p)) k q)
  | 0, _, h => h
  | k + 1, q, h => by
    unfold Mt.up
    split
    · exact h
    · rcases h with h | ⟨h1, h2⟩
      · omega
      · have hi : q.toNat < l.length := by omega
        rw [List.getElem?_map, List.getElem?_eq_getElem hi]
        exact into_up hp hh k _ (into_outer hh (by omega) (List.getElem?_eq_getElem hi))
section
variable {lits : List Mt.Lit} {vs : List PV} {A1 A2 : Option Addr} {n1 n2 c1 c2 : Nat} {vars classes : Int} {p : Nat} {oa ob : Int} {w : World} {sel : ByteArray}
/-- What 'fits' is called in. -/
structure RfIn (w : World) (lits : List Mt.Lit) (vs : List PV) (A1 A2 : Option Addr) (n1 n2 p : Nat) (oa ob : Int) : Prop where
  l : LitsAt w A1 lits
  v : PartsAt w A2 vs
  hn1 : n1 = lits.length
  hn2 : n2 = vs.length
  ok : ∀ x ∈ lits, Mt.LitOk x
  heads : HeadsTo vs (p + 1)
  hp : p < n2
  ha : 0 ≤ oa ∧ oa ≤ 1000000
  hb : 0 ≤ ob ∧ ob ≤ 1000000
/-- The boxes of the two structs. -/
def rfW (w : World) (sel : ByteArray) (A1 : Option Addr) (n1 c1 : Nat) (A2 : Option Addr) (n2 c2 : Nat) (cd : Nat) (oa ob : Int) : World :=
  (w.alloc (.cells #[.string sel, .slice A1 n1 c1, .slice A2 n2 c2] 25)).alloc (.cells #[.int .u8 ((cd : Nat) : Int), .int .i64 oa, .int .i64 ob] 98)
theorem rfW_grew {cd : Nat} : Grew w (rfW w sel A1 n1 c1 A2 n2 c2 cd oa ob) := ((Grew.refl w).alloc _).alloc _
def Rf (w : World) (sel : ByteArray) (A1 : Option Addr) (n1 c1 : Nat) (A2 : Option Addr) (n2 c2 : Nat) (vars classes : Int) (p cd : Nat) (oa ob : Int) (b : Bool) : Prop :=
  Calls Tryz.prog 40 #[.agg #[.string sel, .slice A1 n1 c1, .slice A2 n2 c2], .int .i64 ((p : Nat) : Int), .agg #[.int .u8 ((cd : Nat) : Int), .int .i64 oa, .int .i64 ob], .int .i64 vars, .int .i64 classes] w (AlPost w b)
set_option maxRecDepth 100000 in
set_option maxHeartbeats 1000000 in
theorem rf_var7 (_h : RfIn w lits vs A1 A2 n1 n2 p oa ob) : Rf w sel A1 n1 c1 A2 n2 c2 vars classes p 7 oa ob (decide (oa < vars)) := by
  have HG := hid (rfW_grew (w := w) (sel := sel) (A1 := A1) (n1 := n1) (c1 := c1) (A2 := A2) (n2 := n2) (c2 := c2) (cd := 7) (oa := oa) (ob := ob))
  unfold Rf
  unfold rfW at HG
  rw [show (((7 : Nat) : Nat) : Int) = 7 from rfl] at HG ⊢
  go_enter Tryz.func40, Tryz.ntmps40
  go_wp2_with fail
  go_ret
  exact ⟨rfl, HG.out⟩
set_option maxRecDepth 100000 in
set_option maxHeartbeats 1000000 in
theorem rf_var8 (_h : RfIn w lits vs A1 A2 n1 n2 p oa ob) : Rf w sel A1 n1 c1 A2 n2 c2 vars classes p 8 oa ob (decide (oa < vars)) := by
  have HG := hid (rfW_grew (w := w) (sel := sel) (A1 := A1) (n1 := n1) (c1 := c1) (A2 := A2) (n2 := n2) (c2 := c2) (cd := 8) (oa := oa) (ob := ob))
  unfold Rf
  unfold rfW at HG
  rw [show (((8 : Nat) : Nat) : Int) = 8 from rfl] at HG ⊢
  go_enter Tryz.func40, Tryz.ntmps40
  go_wp2_with fail
  go_ret
  exact ⟨rfl, HG.out⟩
set_option maxRecDepth 100000 in
set_option maxHeartbeats 1000000 in
theorem rf_class (_h : RfIn w lits vs A1 A2 n1 n2 p oa ob) : Rf w sel A1 n1 c1 A2 n2 c2 vars classes p 20 oa ob (decide (oa < classes)) := by
  have HG := hid (rfW_grew (w := w) (sel := sel) (A1 := A1) (n1 := n1) (c1 := c1) (A2 := A2) (n2 := n2) (c2 := c2) (cd := 20) (oa := oa) (ob := ob))
  unfold Rf
  unfold rfW at HG
  rw [show (((20 : Nat) : Nat) : Int) = 20 from rfl] at HG ⊢
  go_enter Tryz.func40, Tryz.ntmps40
  go_wp2_with fail
  go_ret
  exact ⟨rfl, HG.out⟩
set_option maxRecDepth 100000 in
set_option maxHeartbeats 1000000 in
theorem rf_home (_h : RfIn w lits vs A1 A2 n1 n2 p oa ob) : Rf w sel A1 n1 c1 A2 n2 c2 vars classes p 19 oa ob (!(decide (p = 0))) := by
  have HG := hid (rfW_grew (w := w) (sel := sel) (A1 := A1) (n1 := n1) (c1 := c1) (A2 := A2) (n2 := n2) (c2 := c2) (cd := 19) (oa := oa) (ob := ob))
  unfold Rf
  unfold rfW at HG
  rw [show (((19 : Nat) : Nat) : Int) = 19 from rfl] at HG ⊢
  by_cases hc : p = 0
  · subst hc
    go_enter Tryz.func40, Tryz.ntmps40
    go_wp2_with fail
    go_ret
    exact ⟨rfl, HG.out⟩
  · have e1 : (((p : Nat) : Int) == 0) = false := by rw [beq_eq_false_iff_ne]; omega
    rw [decide_eq_false hc]
    have HE := hid e1
    clear hc
    go_enter Tryz.func40, Tryz.ntmps40
    go_wp2_with fail
    go_ret
    exact ⟨congrArg (fun z => Ending.returned (.bool z)) (show ((((p : Nat) : Int)) != 0) = !false by rw [bne, HE.out]), HG.out⟩
set_option maxRecDepth 100000 in
set_option maxHeartbeats 1000000 in
theorem rf_me (_h : RfIn w lits vs A1 A2 n1 n2 p oa ob) : Rf w sel A1 n1 c1 A2 n2 c2 vars classes p 18 oa ob (decide (p = 0)) := by
  have HG := hid (rfW_grew (w := w) (sel := sel) (A1 := A1) (n1 := n1) (c1 := c1) (A2 := A2) (n2 := n2) (c2 := c2) (cd := 18) (oa := oa) (ob := ob))
  unfold Rf
  unfold rfW at HG
  rw [show (((18 : Nat) : Nat) : Int) = 18 from rfl] at HG ⊢
  by_cases hc : p = 0
  · subst hc
    go_enter Tryz.func40, Tryz.ntmps40
    go_wp2_with fail
    go_ret
    exact ⟨rfl, HG.out⟩
  · have e1 : (((p : Nat) : Int) == 0) = false := by rw [beq_eq_false_iff_ne]; omega
    rw [decide_eq_false hc]
    clear hc
    go_enter Tryz.func40, Tryz.ntmps40
    go_wp2_with fail
    go_ret
    exact ⟨rfl, HG.out⟩
set_option maxRecDepth 100000 in
set_option maxHeartbeats 1000000 in
theorem rf_other (_h : RfIn w lits vs A1 A2 n1 n2 p oa ob) {cd : Nat} (hc : cd ≠ 4 ∧ cd ≠ 5 ∧ cd ≠ 6 ∧ cd ≠ 7 ∧ cd ≠ 8 ∧ cd ≠ 11 ∧ cd ≠ 12 ∧ cd ≠ 16 ∧ cd ≠ 18 ∧ cd ≠ 19 ∧ cd ≠ 20) : Rf w sel A1 n1 c1 A2 n2 c2 vars classes p cd oa ob true := by
  have HG := hid (rfW_grew (w := w) (sel := sel) (A1 := A1) (n1 := n1) (c1 := c1) (A2 := A2) (n2 := n2) (c2 := c2) (cd := cd) (oa := oa) (ob := ob))
  unfold Rf
  unfold rfW at HG
  have e4 : (((cd : Nat) : Int) == 4) = false := by rw [beq_eq_false_iff_ne]; omega
  have e5 : (((cd : Nat) : Int) == 5) = false := by rw [beq_eq_false_iff_ne]; omega
  have e6 : (((cd : Nat) : Int) == 6) = false := by rw [beq_eq_false_iff_ne]; omega
  have e7 : (((cd : Nat) : Int) == 7) = false := by rw [beq_eq_false_iff_ne]; omega
  have e8 : (((cd : Nat) : Int) == 8) = false := by rw [beq_eq_false_iff_ne]; omega
  have e11 : (((cd : Nat) : Int) == 11) = false := by rw [beq_eq_false_iff_ne]; omega
  have e12 : (((cd : Nat) : Int) == 12) = false := by rw [beq_eq_false_iff_ne]; omega
  have e16 : (((cd : Nat) : Int) == 16) = false := by rw [beq_eq_false_iff_ne]; omega
  have e18 : (((cd : Nat) : Int) == 18) = false := by rw [beq_eq_false_iff_ne]; omega
  have e19 : (((cd : Nat) : Int) == 19) = false := by rw [beq_eq_false_iff_ne]; omega
  have e20 : (((cd : Nat) : Int) == 20) = false := by rw [beq_eq_false_iff_ne]; omega
  clear hc
  go_enter Tryz.func40, Tryz.ntmps40
  go_wp2_with fail
  go_ret
  exact ⟨rfl, HG.out⟩
set_option maxRecDepth 100000 in
set_option maxHeartbeats 1000000 in
theorem rf_lit (h : RfIn w lits vs A1 A2 n1 n2 p oa ob) : Rf w sel A1 n1 c1 A2 n2 c2 vars classes p 4 oa ob ((lits[oa.toNat]?).elim false (fun x => !(decide (x.k = 2)))) := by
  have HG := hid (rfW_grew (w := w) (sel := sel) (A1 := A1) (n1 := n1) (c1 := c1) (A2 := A2) (n2 := n2) (c2 := c2) (cd := 4) (oa := oa) (ob := ob))
  unfold Rf
  have h1 := h.hn1
  obtain ⟨k, rfl⟩ : ∃ k : Nat, oa = k := ⟨oa.toNat, by have := h.ha.1; omega⟩
  rw [Int.toNat_natCast]
  by_cases hk : k < n1
  · obtain ⟨ad, x, rfl, hx, q0, q1, _⟩ := lit_at h.l HG.out (i := k) (by omega)
    rw [hx]
    unfold rfW at q0 HG
    rw [show (((4 : Nat) : Nat) : Int) = 4 from rfl] at HG q0 ⊢
    have f1 : (k : Int) < (n1 : Int) := by omega
    show Calls _ _ _ _ (AlPost w (!(decide (x.k = 2))))
    obtain ⟨kk, s⟩ := x
    simp only at q0 ⊢
    clear h hx h1 hk q1
    by_cases h2 : kk = 2
    · subst h2
      rw [show (((2 : Nat) : Nat) : Int) = 2 from rfl] at q0
      go_enter Tryz.func40, Tryz.ntmps40
      go_wp2_with fail
      go_ret
      exact ⟨rfl, HG.out⟩
    · have e2 : (((kk : Nat) : Int) == 2) = false := by rw [beq_eq_false_iff_ne]; omega
      rw [decide_eq_false h2]
      clear h2
      go_enter Tryz.func40, Tryz.ntmps40
      go_wp2_with fail
      go_ret
      refine ⟨?_, HG.out⟩
      simp [bne, e2]
  · rw [List.getElem?_eq_none (by omega)]
    have f1 : ¬ (k : Int) < (n1 : Int) := by omega
    unfold rfW at HG
    rw [show (((4 : Nat) : Nat) : Int) = 4 from rfl] at HG ⊢
    clear h h1 hk
    go_enter Tryz.func40, Tryz.ntmps40
    go_wp2_with fail
    go_ret
    exact ⟨rfl, HG.out⟩
set_option maxRecDepth 100000 in
set_option maxHeartbeats 1000000 in
theorem rf_send11 (h : RfIn w lits vs A1 A2 n1 n2 p oa ob) : Rf w sel A1 n1 c1 A2 n2 c2 vars classes p 11 oa ob (takesB lits oa ob) := by
  have HG := hid (rfW_grew (w := w) (sel := sel) (A1 := A1) (n1 := n1) (c1 := c1) (A2 := A2) (n2 := n2) (c2 := c2) (cd := 11) (oa := oa) (ob := ob))
  unfold Rf
  have h1 := h.hn1
  obtain ⟨k, rfl⟩ : ∃ k : Nat, oa = k := ⟨oa.toNat, by have := h.ha.1; omega⟩
  obtain ⟨m, rfl⟩ : ∃ m : Nat, ob = m := ⟨ob.toNat, by have := h.hb.1; omega⟩
  unfold takesB
  rw [Int.toNat_natCast, Int.toNat_natCast]
  by_cases hk : k < n1
  · obtain ⟨ad, x, rfl, hx, q0, q1, _⟩ := lit_at h.l HG.out (i := k) (by omega)
    rw [hx]
    have hok := h.ok x (List.mem_of_getElem? hx)
    unfold rfW at q0 q1 HG
    rw [show (((11 : Nat) : Nat) : Int) = 11 from rfl] at HG q0 q1 ⊢
    have f1 : (k : Int) < (n1 : Int) := by omega
    show Calls _ _ _ _ (AlPost w (decide (x.k = 2) && decide (Mt.arityS x.s = some m)))
    obtain ⟨kk, s⟩ := x
    simp only at q0 q1 hok ⊢
    clear h hx h1 hk
    by_cases h2 : kk = 2
    · subst h2
      obtain ⟨n, hn⟩ : ∃ n, Mt.arityS s = some n := by
        rcases hok with ⟨h, _⟩ | ⟨h, _⟩ | ⟨_, h⟩
        · cases h
        · cases h
        · exact Option.isSome_iff_exists.1 h
      have HA := hid (fun (W : World) => rarity_c s W)
      rw [show Mt.arity (Lg.bytes s) = some n from hn] at HA
      rw [show (((2 : Nat) : Nat) : Int) = 2 from rfl] at q0
      have hd : (decide (2 = 2) && decide (Mt.arityS s = some m)) = (((n : Nat) : Int) == ((m : Nat) : Int)) := by
        rw [hn, Bool.eq_iff_iff, Bool.and_eq_true, decide_eq_true_iff, decide_eq_true_iff, beq_iff_eq]
        exact ⟨fun h => by rw [Option.some.inj h.2], fun h => ⟨rfl, congrArg some (Int.ofNat.inj h)⟩⟩
      rw [hd]
      clear hn hd hok
      go_enter Tryz.func40, Tryz.ntmps40
      go_wp2_with fail
      refine (HA.out _).mono ?_
      rintro e w1 ⟨r, rfl, hr, rfl⟩
      rw [hr n rfl]
      clear hr
      go_wp2_with fail
      go_ret
      exact ⟨rfl, HG.out⟩
    · have e2 : (((kk : Nat) : Int) == 2) = false := by rw [beq_eq_false_iff_ne]; omega
      have e3 : (((kk : Nat) : Int) != 2) = true := by rw [bne, e2]; rfl
      rw [decide_eq_false h2]
      clear h2 hok e2
      go_enter Tryz.func40, Tryz.ntmps40
      go_wp2_with fail
      go_ret
      exact ⟨rfl, HG.out⟩
  · rw [List.getElem?_eq_none (by omega)]
    have f1 : ¬ (k : Int) < (n1 : Int) := by omega
    unfold rfW at HG
    rw [show (((11 : Nat) : Nat) : Int) = 11 from rfl] at HG ⊢
    clear h h1 hk
    go_enter Tryz.func40, Tryz.ntmps40
    go_wp2_with fail
    go_ret
    exact ⟨rfl, HG.out⟩
set_option maxRecDepth 100000 in
set_option maxHeartbeats 1000000 in
theorem rf_send12 (h : RfIn w lits vs A1 A2 n1 n2 p oa ob) : Rf w sel A1 n1 c1 A2 n2 c2 vars classes p 12 oa ob (takesB lits oa ob) := by
  have HG := hid (rfW_grew (w := w) (sel := sel) (A1 := A1) (n1 := n1) (c1 := c1) (A2 := A2) (n2 := n2) (c2 := c2) (cd := 12) (oa := oa) (ob := ob))
  unfold Rf
  have h1 := h.hn1
  obtain ⟨k, rfl⟩ : ∃ k : Nat, oa = k := ⟨oa.toNat, by have := h.ha.1; omega⟩
  obtain ⟨m, rfl⟩ : ∃ m : Nat, ob = m := ⟨ob.toNat, by have := h.hb.1; omega⟩
  unfold takesB
  rw [Int.toNat_natCast, Int.toNat_natCast]
  by_cases hk : k < n1
  · obtain ⟨ad, x, rfl, hx, q0, q1, _⟩ := lit_at h.l HG.out (i := k) (by omega)
    rw [hx]
    have hok := h.ok x (List.mem_of_getElem? hx)
    unfold rfW at q0 q1 HG
    rw [show (((12 : Nat) : Nat) : Int) = 12 from rfl] at HG q0 q1 ⊢
    have f1 : (k : Int) < (n1 : Int) := by omega
    show Calls _ _ _ _ (AlPost w (decide (x.k = 2) && decide (Mt.arityS x.s = some m)))
    obtain ⟨kk, s⟩ := x
    simp only at q0 q1 hok ⊢
    clear h hx h1 hk
    by_cases h2 : kk = 2
    · subst h2
      obtain ⟨n, hn⟩ : ∃ n, Mt.arityS s = some n := by
        rcases hok with ⟨h, _⟩ | ⟨h, _⟩ | ⟨_, h⟩
        · cases h
        · cases h
        · exact Option.isSome_iff_exists.1 h
      have HA := hid (fun (W : World) => rarity_c s W)
      rw [show Mt.arity (Lg.bytes s) = some n from hn] at HA
      rw [show (((2 : Nat) : Nat) : Int) = 2 from rfl] at q0
      have hd : (decide (2 = 2) && decide (Mt.arityS s = some m)) = (((n : Nat) : Int) == ((m : Nat) : Int)) := by
        rw [hn, Bool.eq_iff_iff, Bool.and_eq_true, decide_eq_true_iff, decide_eq_true_iff, beq_iff_eq]
        exact ⟨fun h => by rw [Option.some.inj h.2], fun h => ⟨rfl, congrArg some (Int.ofNat.inj h)⟩⟩
      rw [hd]
      clear hn hd hok
      go_enter Tryz.func40, Tryz.ntmps40
      go_wp2_with fail
      refine (HA.out _).mono ?_
      rintro e w1 ⟨r, rfl, hr, rfl⟩
      rw [hr n rfl]
      clear hr
      go_wp2_with fail
      go_ret
      exact ⟨rfl, HG.out⟩
    · have e2 : (((kk : Nat) : Int) == 2) = false := by rw [beq_eq_false_iff_ne]; omega
      have e3 : (((kk : Nat) : Int) != 2) = true := by rw [bne, e2]; rfl
      rw [decide_eq_false h2]
      clear h2 hok e2
      go_enter Tryz.func40, Tryz.ntmps40
      go_wp2_with fail
      go_ret
      exact ⟨rfl, HG.out⟩
  · rw [List.getElem?_eq_none (by omega)]
    have f1 : ¬ (k : Int) < (n1 : Int) := by omega
    unfold rfW at HG
    rw [show (((12 : Nat) : Nat) : Int) = 12 from rfl] at HG ⊢
    clear h h1 hk
    go_enter Tryz.func40, Tryz.ntmps40
    go_wp2_with fail
    go_ret
    exact ⟨rfl, HG.out⟩
set_option maxRecDepth 100000 in
set_option maxHeartbeats 1000000 in
theorem rf_temp5 (h : RfIn w lits vs A1 A2 n1 n2 p oa ob) : Rf w sel A1 n1 c1 A2 n2 c2 vars classes p 5 oa ob (if Mt.up (vs.map (·.p)) oa.toNat p < 0 then false else ((vs.map (·.p))[(Mt.up (vs.map (·.p)) oa.toNat p).toNat]?).elim false (fun x => decide (ob < x.temps))) := by
  have HG := hid (rfW_grew (w := w) (sel := sel) (A1 := A1) (n1 := n1) (c1 := c1) (A2 := A2) (n2 := n2) (c2 := c2) (cd := 5) (oa := oa) (ob := ob))
  unfold Rf
  have hpl := into_up (by have := h.hn2; have := h.hp; omega) h.heads oa.toNat p (.inr ⟨by omega, Int.le_refl _⟩)
  obtain ⟨k, rfl⟩ : ∃ k : Nat, oa = k := ⟨oa.toNat, by have := h.ha.1; omega⟩
  have hk := h.ha.2
  rw [Int.toNat_natCast] at hpl ⊢
  obtain ⟨R, hR⟩ : ∃ R, R = Mt.up (vs.map (·.p)) k p := ⟨_, rfl⟩
  rw [← hR] at hpl ⊢
  have HR := hid hR
  have HH := hid h
  have HPl := hid hpl
  obtain ⟨b, hb⟩ : ∃ b, b = if R < 0 then false else ((vs.map (·.p))[R.toNat]?).elim false (fun x => decide (ob < x.temps)) := ⟨_, rfl⟩
  rw [← hb]
  have HB := hid hb
  clear hb hpl hR h
  unfold rfW at HG
  rw [show (((5 : Nat) : Nat) : Int) = 5 from rfl] at HG ⊢
  go_enter Tryz.func40, Tryz.ntmps40
  go_wp2_with fail
  go_loopw [13, 14] (fun s13 s14 wr => ∃ (i : Nat) (q : Int), s13 = .int .i64 q ∧ s14 = .int .i64 ((i : Nat) : Int) ∧ i ≤ k ∧ InTo p q ∧ Hid (R = Mt.up (vs.map (·.p)) (k - i) q) ∧ wr = (w.alloc (.cells #[.string sel, .slice A1 n1 c1, .slice A2 n2 c2] 25)).alloc (.cells #[.int .u8 5, .int .i64 ((k : Nat) : Int), .int .i64 ob] 98)) (fun _ s14 _ => k - (intOf s14).toNat)
  case atStart => exact ⟨0, p, rfl, rfl, Nat.zero_le _, .inr ⟨by omega, Int.le_refl _⟩, by rw [Nat.sub_zero]; exact HR, rfl⟩
  case round =>
    obtain ⟨i, q, rfl, rfl, hi, hq, HU, rfl⟩ := hrel
    by_cases hqn : q = -1
    · subst hqn
      have HB2 := hid (show b = false by
        rw [HB.out, if_pos]
        rw [HU.out, up_none]
        decide)
      by_cases hlt : i < k
      · have f1 : (i : Int) < k := by omega
        clear hq
        go_wp2_with fail
        go_quiet (fail)
        go_wp2_with fail
        go_ret
        exact ⟨congrArg (fun z => Ending.returned (.bool z)) HB2.out.symm, HG.out.trans (Grew.mk ⟨rfl, rfl, rfl, Nat.le_refl _, fun _ _ => rfl⟩)⟩
      · have f1 : ¬ (i : Int) < k := by omega
        clear hq
        go_wp2_with fail
        go_quiet (fail)
        go_wp2_with fail
        go_ret
        exact ⟨congrArg (fun z => Ending.returned (.bool z)) HB2.out.symm, HG.out.trans (Grew.mk ⟨rfl, rfl, rfl, Nat.le_refl _, fun _ _ => rfl⟩)⟩
    · obtain ⟨h1, h2⟩ := hq.resolve_left hqn
      obtain ⟨j, rfl⟩ : ∃ j : Nat, q = j := ⟨q.toNat, by omega⟩
      have f3 : ((j : Nat) : Int) < (n2 : Int) := by have := HH.out.hp; omega
      obtain ⟨ad, v, rfl, hv, q0, _, q2, _, _⟩ := pv_at HH.out.v HG.out (i := j) (by have := HH.out.hp; have := HH.out.hn2; omega)
      by_cases hlt : i < k
      · have f1 : (i : Int) < k := by omega
        have HQ2 := hid (into_outer HH.out.heads (by omega) hv)
        have HU2 : Hid (R = Mt.up (vs.map (·.p)) (k - (i + 1)) v.p.outer) := hid (by
          rw [HU.out, show k - i = (k - (i + 1)) + 1 by omega]
          rw [Mt.up, if_neg (by omega), Int.toNat_natCast, List.getElem?_map, hv]
          rfl)
        clear hv hqn
        go_wp2_with fail
        go_round
        case rel => exact ⟨i + 1, v.p.outer, rfl, by go_num, by omega, HQ2.out, HU2, trivial⟩
        case measure => simp [intOf]; omega
      · have hik : i = k := by omega
        have f1 : ¬ (i : Int) < k := by omega
        have HB2 := hid (show b = decide (ob < v.p.temps) by
          rw [HB.out, HU.out, hik, Nat.sub_self]
          show (if ((j : Nat) : Int) < 0 then false else _) = _
          rw [if_neg (by omega)]
          show ((vs.map (·.p))[((j : Nat) : Int).toNat]?).elim false _ = _
          rw [Int.toNat_natCast, List.getElem?_map, hv]
          rfl)
        generalize v.p.temps = tv at *
        clear hv hqn hik
        go_wp2_with fail
        go_quiet (fail)
        go_wp2_with fail
        go_ret
        exact ⟨congrArg (fun z => Ending.returned (.bool z)) HB2.out.symm, HG.out.trans (Grew.mk ⟨rfl, rfl, rfl, Nat.le_refl _, fun _ _ => rfl⟩)⟩
set_option maxRecDepth 100000 in
set_option maxHeartbeats 1000000 in
theorem rf_temp6 (h : RfIn w lits vs A1 A2 n1 n2 p oa ob) : Rf w sel A1 n1 c1 A2 n2 c2 vars classes p 6 oa ob (if Mt.up (vs.map (·.p)) oa.toNat p < 0 then false else ((vs.map (·.p))[(Mt.up (vs.map (·.p)) oa.toNat p).toNat]?).elim false (fun x => decide (ob < x.temps))) := by
  have HG := hid (rfW_grew (w := w) (sel := sel) (A1 := A1) (n1 := n1) (c1 := c1) (A2 := A2) (n2 := n2) (c2 := c2) (cd := 6) (oa := oa) (ob := ob))
  unfold Rf
  have hpl := into_up (by have := h.hn2; have := h.hp; omega) h.heads oa.toNat p (.inr ⟨by omega, Int.le_refl _⟩)
  obtain ⟨k, rfl⟩ : ∃ k : Nat, oa = k := ⟨oa.toNat, by have := h.ha.1; omega⟩
  have hk := h.ha.2
  rw [Int.toNat_natCast] at hpl ⊢
  obtain ⟨R, hR⟩ : ∃ R, R = Mt.up (vs.map (·.p)) k p := ⟨_, rfl⟩
  rw [← hR] at hpl ⊢
  have HR := hid hR
  have HH := hid h
  have HPl := hid hpl
  obtain ⟨b, hb⟩ : ∃ b, b = if R < 0 then false else ((vs.map (·.p))[R.toNat]?).elim false (fun x => decide (ob < x.temps)) := ⟨_, rfl⟩
  rw [← hb]
  have HB := hid hb
  clear hb hpl hR h
  unfold rfW at HG
  rw [show (((6 : Nat) : Nat) : Int) = 6 from rfl] at HG ⊢
  go_enter Tryz.func40, Tryz.ntmps40
  go_wp2_with fail
  go_loopw [13, 14] (fun s13 s14 wr => ∃ (i : Nat) (q : Int), s13 = .int .i64 q ∧ s14 = .int .i64 ((i : Nat) : Int) ∧ i ≤ k ∧ InTo p q ∧ Hid (R = Mt.up (vs.map (·.p)) (k - i) q) ∧ wr = (w.alloc (.cells #[.string sel, .slice A1 n1 c1, .slice A2 n2 c2] 25)).alloc (.cells #[.int .u8 6, .int .i64 ((k : Nat) : Int), .int .i64 ob] 98)) (fun _ s14 _ => k - (intOf s14).toNat)
  case atStart => exact ⟨0, p, rfl, rfl, Nat.zero_le _, .inr ⟨by omega, Int.le_refl _⟩, by rw [Nat.sub_zero]; exact HR, rfl⟩
  case round =>
    obtain ⟨i, q, rfl, rfl, hi, hq, HU, rfl⟩ := hrel
    by_cases hqn : q = -1
    · subst hqn
      have HB2 := hid (show b = false by
        rw [HB.out, if_pos]
        rw [HU.out, up_none]
        decide)
      by_cases hlt : i < k
      · have f1 : (i : Int) < k := by omega
        clear hq
        go_wp2_with fail
        go_quiet (fail)
        go_wp2_with fail
        go_ret
        exact ⟨congrArg (fun z => Ending.returned (.bool z)) HB2.out.symm, HG.out.trans (Grew.mk ⟨rfl, rfl, rfl, Nat.le_refl _, fun _ _ => rfl⟩)⟩
      · have f1 : ¬ (i : Int) < k := by omega
        clear hq
        go_wp2_with fail
        go_quiet (fail)
        go_wp2_with fail
        go_ret
        exact ⟨congrArg (fun z => Ending.returned (.bool z)) HB2.out.symm, HG.out.trans (Grew.mk ⟨rfl, rfl, rfl, Nat.le_refl _, fun _ _ => rfl⟩)⟩
    · obtain ⟨h1, h2⟩ := hq.resolve_left hqn
      obtain ⟨j, rfl⟩ : ∃ j : Nat, q = j := ⟨q.toNat, by omega⟩
      have f3 : ((j : Nat) : Int) < (n2 : Int) := by have := HH.out.hp; omega
      obtain ⟨ad, v, rfl, hv, q0, _, q2, _, _⟩ := pv_at HH.out.v HG.out (i := j) (by have := HH.out.hp; have := HH.out.hn2; omega)
      by_cases hlt : i < k
      · have f1 : (i : Int) < k := by omega
        have HQ2 := hid (into_outer HH.out.heads (by omega) hv)
        have HU2 : Hid (R = Mt.up (vs.map (·.p)) (k - (i + 1)) v.p.outer) := hid (by
          rw [HU.out, show k - i = (k - (i + 1)) + 1 by omega]
          rw [Mt.up, if_neg (by omega), Int.toNat_natCast, List.getElem?_map, hv]
          rfl)
        clear hv hqn
        go_wp2_with fail
        go_round
        case rel => exact ⟨i + 1, v.p.outer, rfl, by go_num, by omega, HQ2.out, HU2, trivial⟩
        case measure => simp [intOf]; omega
      · have hik : i = k := by omega
        have f1 : ¬ (i : Int) < k := by omega
        have HB2 := hid (show b = decide (ob < v.p.temps) by
          rw [HB.out, HU.out, hik, Nat.sub_self]
          show (if ((j : Nat) : Int) < 0 then false else _) = _
          rw [if_neg (by omega)]
          show ((vs.map (·.p))[((j : Nat) : Int).toNat]?).elim false _ = _
          rw [Int.toNat_natCast, List.getElem?_map, hv]
          rfl)
        generalize v.p.temps = tv at *
        clear hv hqn hik
        go_wp2_with fail
        go_quiet (fail)
        go_wp2_with fail
        go_ret
        exact ⟨congrArg (fun z => Ending.returned (.bool z)) HB2.out.symm, HG.out.trans (Grew.mk ⟨rfl, rfl, rfl, Nat.le_refl _, fun _ _ => rfl⟩)⟩
set_option maxRecDepth 100000 in
set_option maxHeartbeats 1000000 in
theorem rf_block (h : RfIn w lits vs A1 A2 n1 n2 p oa ob) : Rf w sel A1 n1 c1 A2 n2 c2 vars classes p 16 oa ob (((vs.map (·.p))[oa.toNat]?).elim false (fun x => decide (x.outer = ((p : Nat) : Int)))) := by
  have HG := hid (rfW_grew (w := w) (sel := sel) (A1 := A1) (n1 := n1) (c1 := c1) (A2 := A2) (n2 := n2) (c2 := c2) (cd := 16) (oa := oa) (ob := ob))
  unfold Rf
  have h1 := h.hn2
  obtain ⟨k, rfl⟩ : ∃ k : Nat, oa = k := ⟨oa.toNat, by have := h.ha.1; omega⟩
  rw [Int.toNat_natCast, List.getElem?_map]
  by_cases h0 : k = 0
  · subst h0
    obtain ⟨v0, hv0⟩ : ∃ v0, vs[0]? = some v0 := ⟨_, List.getElem?_eq_getElem (by have := h.hp; omega)⟩
    have hout := h.heads 0 v0 (by omega) hv0
    rw [hv0]
    show Calls _ _ _ _ (AlPost w (decide (v0.p.outer = ((p : Nat) : Int))))
    have hm : v0.p.outer = -1 := by
      simp only [Mt.headOk, Bool.and_eq_true] at hout
      have h2 := hout.1.1
      unfold Mt.outerOk at h2
      rw [if_pos rfl] at h2
      exact decide_eq_true_iff.1 h2
    rw [hm, decide_eq_false (by omega)]
    unfold rfW at HG
    rw [show (((16 : Nat) : Nat) : Int) = 16 from rfl] at HG ⊢
    clear h h1 hv0 hout hm
    go_enter Tryz.func40, Tryz.ntmps40
    go_wp2_with fail
    go_ret
    exact ⟨rfl, HG.out⟩
  · have f0 : (0 : Int) < (k : Int) := by omega
    by_cases hk : k < n2
    · obtain ⟨ad, v, rfl, hv, q0, _, _, _, _⟩ := pv_at h.v HG.out (i := k) (by omega)
      rw [hv]
      show Calls _ _ _ _ (AlPost w (decide (v.p.outer = ((p : Nat) : Int))))
      generalize v.p.outer = ou at *
      unfold rfW at q0 HG
      rw [show (((16 : Nat) : Nat) : Int) = 16 from rfl] at HG q0 ⊢
      have f1 : (k : Int) < (n2 : Int) := by omega
      have hd : decide (ou = ((p : Nat) : Int)) = (ou == ((p : Nat) : Int)) := by rw [Bool.eq_iff_iff, decide_eq_true_iff, beq_iff_eq]
      rw [hd]
      clear h hv h1 hk hd h0
      go_enter Tryz.func40, Tryz.ntmps40
      go_wp2_with fail
      go_ret
      exact ⟨rfl, HG.out⟩
    · rw [List.getElem?_eq_none (by omega)]
      have f1 : ¬ (k : Int) < (n2 : Int) := by omega
      unfold rfW at HG
      rw [show (((16 : Nat) : Nat) : Int) = 16 from rfl] at HG ⊢
      clear h h1 hk h0
      go_enter Tryz.func40, Tryz.ntmps40
      go_wp2_with fail
      go_ret
      exact ⟨rfl, HG.out⟩
/-- All codes. -/
theorem rfits_c (h : RfIn w lits vs A1 A2 n1 n2 p oa ob) (cd : Nat) : Rf w sel A1 n1 c1 A2 n2 c2 vars classes p cd oa ob (Mt.fits ⟨sel, lits, vs.map (·.p)⟩ p ⟨cd, oa, ob⟩ vars classes) := by
  by_cases hc : cd ≠ 4 ∧ cd ≠ 5 ∧ cd ≠ 6 ∧ cd ≠ 7 ∧ cd ≠ 8 ∧ cd ≠ 11 ∧ cd ≠ 12 ∧ cd ≠ 16 ∧ cd ≠ 18 ∧ cd ≠ 19 ∧ cd ≠ 20
  · have : Mt.fits ⟨sel, lits, vs.map (·.p)⟩ p ⟨cd, oa, ob⟩ vars classes = true := by
      unfold Mt.fits
      simp only
      rw [if_neg (by omega), if_neg (by omega), if_neg (by omega), if_neg (by omega), if_neg (by omega), if_neg (by omega), if_neg (by omega), if_neg (by omega)]
    rw [this]
    exact rf_other h hc
  · rcases (by omega : cd = 4 ∨ cd = 5 ∨ cd = 6 ∨ cd = 7 ∨ cd = 8 ∨ cd = 11 ∨ cd = 12 ∨ cd = 16 ∨ cd = 18 ∨ cd = 19 ∨ cd = 20) with rfl | rfl | rfl | rfl | rfl | rfl | rfl | rfl | rfl | rfl | rfl
    · exact rf_lit h
    · exact rf_temp5 h
    · exact rf_temp6 h
    · exact rf_var7 h
    · exact rf_var8 h
    · exact rf_send11 h
    · exact rf_send12 h
    · exact rf_block h
    · exact rf_me h
    · exact rf_home h
    · exact rf_class h
end
end Go.Proofs.YtjdgcgpidhljpaaGreatDoor

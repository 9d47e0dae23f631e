/- Stage 9: areParts, outward, takes. -/
import Derived.Test.YtjdgcgpidhljpaaGreatDoorMtG
namespace Go.Proofs.YtjdgcgpidhljpaaGreatDoor
open Go.RowKit

theorem pv_at {w wr : World} {A : Option Addr} {l : List PV} (h : PartsAt w A l) (hg : Grew w wr) {i : Nat} (hi : i < l.length) : ∃ ad v, A = some ad ∧ l[i]? = some v ∧ wr.cell? (ad.add (i * 4)) = some (.int .i64 v.p.outer) ∧ wr.cell? ⟨ad.block, (ad.add (i * 4)).off + 1, none⟩ = some (.int .i64 v.p.args) ∧ wr.cell? ⟨ad.block, (ad.add (i * 4)).off + 2, none⟩ = some (.int .i64 v.p.temps) ∧ wr.cell? ⟨ad.block, (ad.add (i * 4)).off + 3, none⟩ = some (.slice v.A v.p.code.length v.c) ∧ ad.block < wr.heap.size := by
  obtain ⟨ad, e, hb, hc⟩ := h.2 (by omega)
  have hv := List.getElem?_eq_getElem hi
  obtain ⟨q0, q1, q2, q3⟩ := pv_cell (v := l[i]) (i := i) (ad := ad) (w := wr) (fun j u hu => by
    rw [hg.below.cell (by rw [block_add]; exact hb)]; exact hc i _ hv j u hu)
  exact ⟨ad, l[i], e, hv, q0, q1, q2, q3, Nat.lt_of_lt_of_le hb hg.below.size⟩
theorem lit_at {w wr : World} {A : Option Addr} {l : List Mt.Lit} (h : LitsAt w A l) (hg : Grew w wr) {i : Nat} (hi : i < l.length) : ∃ ad x, A = some ad ∧ l[i]? = some x ∧ wr.cell? (ad.add (i * 2)) = some (.int .u8 ((x.k : Nat) : Int)) ∧ wr.cell? ⟨ad.block, (ad.add (i * 2)).off + 1, none⟩ = some (.string x.s) ∧ ad.block < wr.heap.size := by
  obtain ⟨ad, e, hb, hc⟩ := h.2 (by omega)
  have hv := List.getElem?_eq_getElem hi
  obtain ⟨q0, q1⟩ := lit_cell (x := l[i]) (i := i) (ad := ad) (w := wr) (fun j u hu => by
    rw [hg.below.cell (by rw [block_add]; exact hb)]; exact hc i _ hv j u hu)
  exact ⟨ad, l[i], e, hv, q0, q1, Nat.lt_of_lt_of_le hb hg.below.size⟩
/-- The fields of the first parts. -/
def HeadsTo (l : List PV) (i : Nat) : Prop := ∀ j v, j < i → l[j]? = some v → Mt.headOk v.p j = true
theorem heads_all {l : List PV} (h : HeadsTo l l.length) : Mt.HeadsOk (l.map (·.p)) := by
  intro i p hp
  rw [List.getElem?_map] at hp
  obtain ⟨v, hv, rfl⟩ := Option.map_eq_some_iff.1 hp
  exact h i v (List.getElem?_eq_some_iff.1 hv).1 hv
theorem heads_no {l : List PV} {i : Nat} {v : PV} (hv : l[i]? = some v) (h : Mt.headOk v.p i = false) : ¬ Mt.HeadsOk (l.map (·.p)) := fun hh => by
  have := hh i v.p (by rw [List.getElem?_map, hv]; rfl)
  rw [h] at this
  cases this
set_option maxRecDepth 100000 in
set_option maxHeartbeats 2000000 in
theorem areParts_c (A : Option Addr) (c : Nat) (l : List PV) (b : Bool) (hb : b = true ↔ Mt.PartsOk (l.map (·.p))) (w : World) (h : PartsAt w A l) (hl : l.length ≤ 100) :
    Calls Tryz.prog 22 #[.slice A l.length c] w fun e w' => e = .returned (.bool b) ∧ Grew w w' := by
  obtain ⟨n, en⟩ : ∃ n, n = l.length := ⟨_, rfl⟩
  have HA := hid h
  rw [← en] at hl ⊢
  have EN := hid en
  have HW := hid (within_c (n : Int) 1 64 w)
  have HB : Hid (b = true ↔ (1 ≤ n ∧ n ≤ 64) ∧ Mt.HeadsOk (l.map (·.p))) := hid (by
    rw [hb, Mt.PartsOk, List.length_map, ← en]
    exact and_assoc.symm)
  have hq : (decide ((1 : Int) ≤ (n : Int)) && decide ((n : Int) ≤ 64)) = decide (1 ≤ n ∧ n ≤ 64) := by
    rw [Bool.eq_iff_iff, Bool.and_eq_true, decide_eq_true_iff, decide_eq_true_iff, decide_eq_true_iff]; omega
  rw [hq] at HW
  clear h en hb hq
  by_cases hn : 1 ≤ n ∧ n ≤ 64
  · rw [decide_eq_true hn] at HW
    have HN := hid hn
    clear hn
    go_enter Tryz.func22, Tryz.ntmps22
    go_wp2_with fail
    refine HW.out.mono ?_
    rintro e w1 ⟨rfl, rfl⟩
    go_wp2_with fail
    go_loopw [3, 4, 11] (fun _ _ s11 wr => ∃ i : Nat, s11 = .int .i64 ((i : Nat) : Int) ∧ i ≤ n ∧ Grew w1 wr ∧ Hid (HeadsTo l i)) (fun _ _ s11 _ => n - (intOf s11).toNat)
    case atStart => exact ⟨0, rfl, Nat.zero_le _, Grew.refl _, hid (fun j v hj => by omega)⟩
    case round =>
      obtain ⟨i, rfl, hi, hg, HI⟩ := hrel
      have HG := hid hg
      clear hg
      by_cases hlt : i < n
      · have f1 : (i : Int) < n := by omega
        obtain ⟨ad, v, rfl, hv, q0, q1, q2, q3, _⟩ := pv_at HA.out HG.out (i := i) (by rw [← EN.out]; exact hlt)
        have HG2 := hid ((Grew.refl wr).alloc (.cells (pvCells v) 63))
        have HO := hid (isOuter_c v.p.outer i (wr.alloc (.cells (pvCells v) 63)) (by omega))
        have HAr := hid (within_c v.p.args 0 8 (wr.alloc (.cells (pvCells v) 63)))
        have HT := hid (within_c v.p.temps v.p.args 16 (wr.alloc (.cells (pvCells v) 63)))
        have HH : Hid (Mt.headOk v.p i = (Mt.outerOk v.p.outer i && (decide (0 ≤ v.p.args) && decide (v.p.args ≤ 8)) && (decide (v.p.args ≤ v.p.temps) && decide (v.p.temps ≤ 16)))) := hid rfl
        have HX : Hid (Mt.headOk v.p i = false → b = false) := hid (fun hf => by
          cases hbb : b
          · rfl
          · exact absurd (HB.out.1 hbb).2 (heads_no hv hf))
        have HY : Hid (Mt.headOk v.p i = true → HeadsTo l (i + 1)) := hid (fun hf j v' hj hv' => by
          rcases Nat.lt_or_ge j i with h1 | h1
          · exact HI.out j v' h1 hv'
          · obtain rfl : j = i := by omega
            rw [hv] at hv'
            obtain rfl := Option.some.inj hv'
            exact hf)
        generalize Mt.headOk v.p i = hd at *
        generalize Mt.outerOk v.p.outer i = b1 at *
        generalize (decide (0 ≤ v.p.args) && decide (v.p.args ≤ 8)) = b2 at *
        generalize (decide (v.p.args ≤ v.p.temps) && decide (v.p.temps ≤ 16)) = b3 at *
        unfold pvCells at HO HAr HT HG2
        clear hv
        obtain ⟨⟨po, pa, pt, code⟩, Ac, cc⟩ := v
        simp only at q0 q1 q2 q3 HO HAr HT HG2
        generalize code.length = cl at *
        cases b1
        · have HZ := hid (HX.out (by rw [HH.out]; rfl))
          go_wp2_with fail
          refine HO.out.mono ?_
          rintro e w2 ⟨rfl, rfl⟩
          go_wp2_with fail
          go_ret
          exact ⟨by rw [HZ.out]; rfl, HG.out.trans HG2.out⟩
        · cases b2
          · have HZ := hid (HX.out (by rw [HH.out]; rfl))
            go_wp2_with fail
            refine HO.out.mono ?_
            rintro e w2 ⟨rfl, rfl⟩
            go_wp2_with fail
            refine HAr.out.mono ?_
            rintro e w2 ⟨rfl, rfl⟩
            go_wp2_with fail
            go_ret
            exact ⟨by rw [HZ.out]; rfl, HG.out.trans HG2.out⟩
          · cases b3
            · have HZ := hid (HX.out (by rw [HH.out]; rfl))
              go_wp2_with fail
              refine HO.out.mono ?_
              rintro e w2 ⟨rfl, rfl⟩
              go_wp2_with fail
              refine HAr.out.mono ?_
              rintro e w2 ⟨rfl, rfl⟩
              go_wp2_with fail
              refine HT.out.mono ?_
              rintro e w2 ⟨rfl, rfl⟩
              go_wp2_with fail
              go_ret
              exact ⟨by rw [HZ.out]; rfl, HG.out.trans HG2.out⟩
            · have HZ := hid (HY.out (by rw [HH.out]; rfl))
              go_wp2_with fail
              refine HO.out.mono ?_
              rintro e w2 ⟨rfl, rfl⟩
              go_wp2_with fail
              refine HAr.out.mono ?_
              rintro e w2 ⟨rfl, rfl⟩
              go_wp2_with fail
              refine HT.out.mono ?_
              rintro e w2 ⟨rfl, rfl⟩
              go_wp2_with fail
              go_round
              case rel => exact ⟨i + 1, by go_num, by omega, HG.out.trans HG2.out, HZ⟩
              case measure => simp [intOf]; omega
      · have hin : i = n := by omega
        subst hin
        have hbt : b = true := HB.out.2 ⟨HN.out, heads_all (by rw [← EN.out]; exact HI.out)⟩
        subst hbt
        go_wp2_with fail
        go_ret
        exact ⟨rfl, HG.out⟩
  · rw [decide_eq_false hn] at HW
    have hbf : b = false := by
      cases hbb : b
      · rfl
      · exact absurd (HB.out.1 hbb).1 hn
    subst hbf
    clear hn
    go_enter Tryz.func22, Tryz.ntmps22
    go_wp2_with fail
    refine HW.out.mono ?_
    rintro e w1 ⟨rfl, rfl⟩
    go_wp2_with fail
    go_ret
    exact ⟨rfl, Grew.refl _⟩
/-- Part p is there, or it is -1. -/
def Place (l : List PV) (p : Int) : Prop := p = -1 ∨ 0 ≤ p ∧ p < l.length
theorem place_outer {l : List PV} (hh : Mt.HeadsOk (l.map (·.p))) {i : Nat} {v : PV} (hv : l[i]? = some v) : Place l v.p.outer := by
  have hi := (List.getElem?_eq_some_iff.1 hv).1
  have := hh i v.p (by rw [List.getElem?_map, hv]; rfl)
  simp only [Mt.headOk, Bool.and_eq_true] at this
  have h1 := this.1.1
  unfold Mt.outerOk at h1
  split at h1
  · exact .inl (decide_eq_true_iff.1 h1)
  · simp only [Bool.and_eq_true, decide_eq_true_eq] at h1
    exact .inr ⟨h1.1, by omega⟩
theorem up_none (ps : List Mt.Part) : ∀ k, Mt.up ps k (-1) = -1
  | 0 => rfl
  | k + 1 => by unfold Mt.up; rw [if_pos (by decide)]
theorem up_place {l : List PV} (hh : Mt.HeadsOk (l.map (·.p))) : ∀ (k : Nat) (p : Int), Place l p → Place l (Mt.up (l.map (·.p)) k p)
  | 0, p, h => h
  | k + 1, p, h => by
    unfold Mt.up
    split
    · exact h
    · rename_i hp
      rcases h with h | ⟨h1, h2⟩
      · omega
      · have hi : p.toNat < l.length := by omega
        rw [List.getElem?_map, List.getElem?_eq_getElem hi]
        exact up_place hh k _ (place_outer hh (List.getElem?_eq_getElem hi))
set_option maxRecDepth 100000 in
set_option maxHeartbeats 2000000 in
theorem outward_c (V0 : Value) (V2 V3 : Value) (A : Option Addr) (c : Nat) (l : List PV) (p s : Int) (w : World) (h : PartsAt w A l) (hh : Mt.HeadsOk (l.map (·.p))) (hp : Place l p) (hs : 0 ≤ s) (hs2 : s ≤ 1000000) :
    Calls Tryz.prog 102 #[.agg #[V0, .slice A l.length c, V2, V3], .int .i64 p, .int .i64 s] w fun e w' => e = .returned (.int .i64 (Mt.up (l.map (·.p)) s.toNat p)) ∧ Grew w w' := by
  obtain ⟨n, en⟩ : ∃ n, n = l.length := ⟨_, rfl⟩
  obtain ⟨N, rfl⟩ : ∃ N : Nat, s = N := ⟨s.toNat, by omega⟩
  have HA := hid h
  have HH := hid hh
  have HP := hid hp
  rw [← en]
  have EN := hid en
  obtain ⟨R, hR⟩ : ∃ R, R = Mt.up (l.map (·.p)) N p := ⟨_, rfl⟩
  rw [Int.toNat_natCast, ← hR]
  have HR := hid hR
  have HG := hid ((Grew.refl w).alloc (.cells #[V0, .slice A n c, V2, V3] 68))
  have hN : N ≤ 1000000 := by omega
  clear h hh hp en hR hs hs2
  go_enter Tryz.func102, Tryz.ntmps102
  go_wp2_with fail
  have hb0 := Blk.new w 68 #[V0, .slice A n c, V2, V3]
  generalize w.alloc (.cells #[V0, .slice A n c, V2, V3] 68) = w1 at *
  have c1 := hb0.cell 1
  simp only [List.getElem?_toArray, List.getElem?_cons_zero, List.getElem?_cons_succ] at c1
  clear hb0
  go_loopg [1, 8] N (fun g s1 s8 wr => ∃ (i : Nat) (q : Int), s8 = .int .i64 ((i : Nat) : Int) ∧ s1 = .int .i64 q ∧ i ≤ N ∧ N - i ≤ g ∧ wr = w1 ∧ Hid (Place l q) ∧ Hid (R = Mt.up (l.map (·.p)) (N - i) q))
  case atStart => exact ⟨0, p, rfl, rfl, Nat.zero_le _, by omega, rfl, HP, by rw [Nat.sub_zero]; exact HR⟩
  case round =>
    obtain ⟨i, q, rfl, rfl, hi, hgk, rfl, HQ, HU⟩ := hrel
    by_cases hlt : i < N
    · have f1 : (i : Int) < N := by omega
      by_cases hq : q = -1
      · subst hq
        have hRR : R = -1 := by rw [HU.out, up_none]
        subst hRR
        go_wp2_with fail
        go_ret
        exact ⟨rfl, HG.out⟩
      · have e1 : (q == -1) = false := by rw [beq_eq_false_iff_ne]; exact hq
        obtain ⟨h1, h2⟩ := HQ.out.resolve_left hq
        obtain ⟨k, rfl⟩ : ∃ k : Nat, q = k := ⟨q.toNat, by omega⟩
        rw [← EN.out] at h2
        obtain ⟨ad, v, rfl, hv, q0, _, _, _, _⟩ := pv_at HA.out HG.out (i := k) (by rw [← EN.out]; omega)
        have HQ2 := hid (place_outer HH.out hv)
        have HU2 : Hid (R = Mt.up (l.map (·.p)) (N - (i + 1)) v.p.outer) := hid (by
          rw [HU.out, show N - i = (N - (i + 1)) + 1 by omega]
          rw [Mt.up, if_neg (by omega), Int.toNat_natCast, List.getElem?_map, hv]
          rfl)
        clear hv hq
        go_wp2_with fail
        go_roundg (N - (i + 1))
        case measure => omega
        case rel => exact ⟨i + 1, v.p.outer, by go_num, rfl, by omega, by omega, rfl, HQ2, HU2⟩
    · have hin : i = N := by omega
      subst hin
      have hRR : R = q := by rw [HU.out, Nat.sub_self]; rfl
      subst hRR
      go_wp2_with fail
      go_ret
      exact ⟨rfl, HG.out⟩
/-- Is literal a a selector with b arguments? -/
def takesB (l : List Mt.Lit) (a b : Int) : Bool := (l[a.toNat]?).elim false (fun x => decide (x.k = 2) && decide (Mt.arityS x.s = some b.toNat))
set_option maxRecDepth 100000 in
set_option maxHeartbeats 2000000 in
theorem takes_c (V1 V2 V3 : Value) (A : Option Addr) (c : Nat) (l : List Mt.Lit) (a b : Int) (w : World) (h : LitsAt w A l) (ha : 0 ≤ a) (hb : 0 ≤ b) (hM : MaxAt w) :
    Calls Tryz.prog 101 #[.agg #[.slice A l.length c, V1, V2, V3], .int .i64 a, .int .i64 b] w fun e w' => e = .returned (.bool (takesB l a b)) ∧ Grew w w' := by
  obtain ⟨n, en⟩ : ∃ n, n = l.length := ⟨_, rfl⟩
  obtain ⟨k, rfl⟩ : ∃ k : Nat, a = k := ⟨a.toNat, by omega⟩
  obtain ⟨m, rfl⟩ : ∃ m : Nat, b = m := ⟨b.toNat, by omega⟩
  have HG := hid ((Grew.refl w).alloc (.cells #[.slice A n c, V1, V2, V3] 68))
  by_cases hk : k < l.length
  · obtain ⟨ad, x, rfl, hx, q0, q1, _⟩ := lit_at h HG.out hk
    have hT : takesB l (k : Int) (m : Int) = (decide (x.k = 2) && decide (Mt.arityS x.s = some m)) := by
      unfold takesB
      rw [Int.toNat_natCast, Int.toNat_natCast, hx]
      rfl
    rw [hT]
    have HA := hid (arity_c x.s _ (hM.grew HG.out))
    have HAS : Mt.arityS x.s = Mt.arity (Lg.bytes x.s) := rfl
    rw [HAS]
    rw [← en] at hk ⊢
    have f1 : ¬ (n : Int) ≤ (k : Int) := by omega
    have f2 : (k : Int) < (n : Int) := by omega
    clear h hx en hT hM HAS
    obtain ⟨kk, s⟩ := x
    simp only at q0 q1 HA ⊢
    generalize Mt.arity (Lg.bytes s) = r at *
    by_cases h2 : kk = 2
    · subst h2
      rw [show (((2 : Nat) : Nat) : Int) = 2 from rfl] at q0
      cases r with
      | none =>
        rw [show (decide (2 = 2) && decide ((none : Option Nat) = some m)) = false from rfl]
        go_enter Tryz.func101, Tryz.ntmps101
        go_wp2_with fail
        refine HA.out.mono ?_
        rintro e w1 ⟨rfl, hg⟩
        go_wp2_with fail
        go_ret
        exact ⟨rfl, HG.out.trans hg⟩
      | some j =>
        have hd : (decide (2 = 2) && decide (some j = some m)) = ((((j : Nat) : Int)) == ((m : Nat) : Int)) := by
          rw [Bool.eq_iff_iff]
          simp
          omega
        rw [hd]
        clear hd
        go_enter Tryz.func101, Tryz.ntmps101
        go_wp2_with fail
        refine HA.out.mono ?_
        rintro e w1 ⟨rfl, hg⟩
        go_wp2_with fail
        go_ret
        exact ⟨rfl, HG.out.trans hg⟩
    · have e2 : (((kk : Nat) : Int) == 2) = false := by rw [beq_eq_false_iff_ne]; omega
      rw [decide_eq_false h2, Bool.false_and]
      clear h2
      go_enter Tryz.func101, Tryz.ntmps101
      go_wp2_with fail
      go_ret
      exact ⟨rfl, HG.out⟩
  · have hT : takesB l (k : Int) (m : Int) = false := by
      unfold takesB
      rw [Int.toNat_natCast, List.getElem?_eq_none (by omega)]
      rfl
    rw [hT, ← en]
    rw [← en] at hk
    have f1 : (n : Int) ≤ (k : Int) := by omega
    clear h hk en hT hM
    go_enter Tryz.func101, Tryz.ntmps101
    go_wp2_with fail
    go_ret
    exact ⟨rfl, HG.out⟩
end Go.Proofs.YtjdgcgpidhljpaaGreatDoor

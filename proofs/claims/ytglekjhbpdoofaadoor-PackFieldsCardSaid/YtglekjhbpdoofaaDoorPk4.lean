/- The walks of package pack, reading: Ints. -/
import Derived.Test.YtglekjhbpdoofaaDoorPk3
namespace Go.Proofs.YtglekjhbpdoofaaDoor
open Go.RowKit

theorem v6_int : (Tryd.prog.info? 3).map (fun i => (i.zero, i.size, i.bytes)) = some (some (.int .i64 0), 1, 8) := by kernel_rfl
/-- The cells of a list of ints. -/
def intCells (l : List Int) : List Value := l.map (Value.int .i64)
theorem count_len {st : Pk.St} {m : Int} {r : List Nat} (h : (Pk.count st m).2 = some r) : r.length ≤ (Pk.rest st).length := by
  rw [count_eq] at h
  split at h
  · cases h
  · unfold Pk.int at h
    split at h
    · rename_i n r2 hb
      obtain ⟨r0, h1, h2⟩ := Option.bind_eq_some_iff.1 hb
      simp only [Option.some.injEq] at h
      subst h1 h
      exact Pk.num_len h2
    · cases h
def RIntsPost (w : World) (lo g : Nat) (r : List Int × Pk.St) (e : Ending) (w' : World) : Prop :=
  ∃ A c, e = .returned (.slice A r.1.length c) ∧ Row w' w.heap.size 3 1 A r.1.length c (intCells r.1) ∧ RdAt w' lo g r.2 ∧ Kept (· = g) w w'
theorem RIntsPost.nil {w w' : World} {lo g : Nat} {st : Pk.St} (h1 : RdAt w' lo g st) (h2 : Kept (· = g) w w') : RIntsPost w lo g ([], st) (.returned (.slice none 0 0)) w' := ⟨none, 0, rfl, Row.nil _ _ _ _, h1, h2⟩

set_option maxRecDepth 100000 in
set_option maxHeartbeats 2000000 in
theorem rints_c (lo g : Nat) (st : Pk.St) (m a b : Int) (w : World) (h : RdAt w lo g st) (hlo : lo ≤ g) (hm : (Pk.rest st).length ≤ 1000000000000) :
    Calls Tryd.prog 10 #[.pointer (some ⟨g, 0, none⟩), .int .i64 m, .int .i64 a, .int .i64 b] w (RIntsPost w lo g (Pk.ints st m a b)) := by
  have HI := hid (count_c lo g st m w h)
  have HT : Hid (Pk.ints st m a b = match Pk.count st m with | (n, some r) => (match Pk.many n.toNat r a b with | some (l, r') => (l, some r') | none => ([], none)) | (_, none) => ([], none)) := hid rfl
  have HN := hid (fun (n : Int) (r : List Nat) => Pk.count_range (st := st) (m := m) (n := n) (r := r))
  have HZ := hid (show ∀ n, Pk.count st m = (n, none) → n = 0 by
    intro n hn
    rw [count_eq] at hn
    split at hn
    · simp at hn; exact hn.symm
    · unfold Pk.int at hn
      split at hn
      · simp at hn
      · simp at hn; exact hn.symm)
  have hg := h.lt
  have hlen := hid (show ∀ r, (Pk.count st m).2 = some r → r.length ≤ (Pk.rest st).length from fun r hr => count_len hr)
  generalize Pk.ints st m a b = res at *
  generalize Pk.count st m = r at *
  obtain ⟨n, s⟩ := r
  clear h
  cases s with
  | none =>
    obtain rfl := HZ.out n rfl
    have HR := hid (show res = ([], none) from HT.out)
    clear HT HN HZ
    go_enter Tryd.func10, Tryd.ntmps10
    go_wp2_with fail
    refine HI.out.mono ?_
    rintro e w1 ⟨rfl, hR, hK⟩
    have HRK := hid (And.intro hR hK)
    clear hR hK HI
    go_wp2_with fail
    refine wp_loop_rounds 1 ?_
    rw [rounds_succ]
    go_wp2_with fail
    go_ret
    rw [HR.out]
    exact RIntsPost.nil HRK.out.1 HRK.out.2
  | some r0 =>
    obtain ⟨hn0, hn1, hn2⟩ := HN.out n r0 rfl
    obtain ⟨k, rfl⟩ : ∃ k : Nat, n = (k : Int) := ⟨n.toNat, by omega⟩
    have HR := hid (show res = match Pk.many k r0 a b with | some (l, r') => (l, some r') | none => ([], none) from HT.out)
    have hkm : k ≤ 1000000000000 := by have := hlen.out r0 rfl; omega
    clear HT HN HZ hn0 hn1 hn2 hm hlen
    go_enter Tryd.func10, Tryd.ntmps10
    go_wp2_with fail
    refine HI.out.mono ?_
    rintro e w1 ⟨rfl, hR, hK⟩
    have HRd := hid hR
    have HK := hid hK
    clear hR hK HI
    go_wp2_with fail
    go_loopw [9, 15] (fun s9 s15 wr => ∃ (i : Nat) (A : Option Addr) (c : Nat) (L : List Int) (r : List Nat), s9 = .slice A i c ∧ s15 = .int .i64 ((i : Nat) : Int) ∧ i ≤ k ∧ Hid (L.length = i ∧ Row wr w.heap.size 3 1 A i c (intCells L) ∧ RdAt wr lo g (some r) ∧ Kept (· = g) w wr ∧ Pk.many k r0 a b = (Pk.many (k - i) r a b).map (fun y => (L ++ y.1, y.2)))) (fun _ s15 _ => k - (intOf s15).toNat)
    case atStart => exact ⟨0, none, 0, [], r0, rfl, rfl, Nat.zero_le _, hid ⟨rfl, Row.nil _ _ _ _, HRd.out, HK.out, by simp⟩⟩
    case round =>
      clear HRd HK
      obtain ⟨i, A, c, L, r, rfl, rfl, hi, H⟩ := hrel
      by_cases hlt : i < k
      · have f1 : (i : Int) < k := by omega
        have CI := hid (rint_c lo g (some r) a b wr H.out.2.2.1)
        obtain ⟨j, hj⟩ : ∃ j, k - i = j + 1 := ⟨k - i - 1, by omega⟩
        have hjk : k - (i + 1) = j := by omega
        cases hnum : Pk.num r a b with
        | none =>
          have HI2 := hid (show Pk.int (some r) a b = (0, none) by unfold Pk.int; rw [Option.bind_some, hnum])
          have HR2 := hid (show res = ([], none) by
            rw [HR.out, H.out.2.2.2.2, hj]
            unfold Pk.many
            rw [hnum]
            rfl)
          rw [HI2.out] at CI
          clear hj hjk hnum HI2 HR
          go_wp2_with fail
          refine CI.out.mono ?_
          rintro e w2 ⟨rfl, hR2, hK2⟩
          have hgw : w.heap.size ≤ w2.heap.size := Nat.le_trans H.out.2.2.2.1.size hK2.size
          have HRow := hid (H.out.2.1.kept hK2 (fun q hq => by
            rcases H.out.2.1.cases with ⟨_, _, _, ⟨h0, _⟩ | ⟨q', h1, h2, _⟩⟩
            · rw [h0] at hq; cases hq
            · rw [h1] at hq; cases hq; omega))
          have HK2 := hid (H.out.2.2.2.1.trans hK2)
          have HR3 := hid hR2
          clear CI hR2 hK2
          go_upto_region 7 with (at_builtin; refine wpList_pushR (.int .i64 0) 8 w2 rfl _ _ 27 3 rfl Tryd.underlying27 v6_int rfl w.heap.size hgw A i c (intCells L) rfl HRow.out _ rfl rfl _ rfl (by omega) (by omega) ?_; rintro A3 c3 w3 hR3 hK3 hT3)
          have hat : ∀ q, AtRow A q → w.heap.size ≤ q := fun q hq => by
            obtain ⟨ad, h3, h4⟩ := hq
            rcases H.out.2.1.cases with ⟨_, _, _, ⟨h0, _⟩ | ⟨q', h1, h2, _⟩⟩
            · rw [h0] at h3; cases h3
            · rw [h1] at h3; cases h3; rw [← h4]; exact h2
          have HRd3 := hid (HR3.out.kept hK3 (fun q h1 h2 hq => by have := hat q hq; omega) hlo)
          have HK3 := hid (HK2.out.next hK3 (fun q h1 hq => by have := hat q hq; omega))
          obtain ⟨A5, c5, hB5, _⟩ := HRd3.out
          have c1 := hB5.cell 1
          simp only [List.getElem?_toArray, List.getElem?_cons_zero, List.getElem?_cons_succ, Option.isNone_none] at c1
          clear hB5 hat hR3 hK3 hT3 H HK2 HR3 HRow
          go_wp2_with fail
          go_ret
          rw [HR2.out]
          exact RIntsPost.nil HRd3.out HK3.out
        | some x =>
          obtain ⟨x, r'⟩ := x
          have HI2 := hid (show Pk.int (some r) a b = (x, some r') by unfold Pk.int; rw [Option.bind_some, hnum])
          have HM2 := hid (show Pk.many k r0 a b = (Pk.many (k - (i + 1)) r' a b).map (fun y => ((L ++ [x]) ++ y.1, y.2)) by
            rw [H.out.2.2.2.2, hj, hjk]
            conv => lhs; unfold Pk.many
            rw [hnum, Option.bind_some, Option.map_map]
            congr 1
            funext y
            simp)
          rw [HI2.out] at CI
          clear hj hjk hnum HI2
          go_wp2_with fail
          refine CI.out.mono ?_
          rintro e w2 ⟨rfl, hR2, hK2⟩
          have hgw : w.heap.size ≤ w2.heap.size := Nat.le_trans H.out.2.2.2.1.size hK2.size
          have HRow := hid (H.out.2.1.kept hK2 (fun q hq => by
            rcases H.out.2.1.cases with ⟨_, _, _, ⟨h0, _⟩ | ⟨q', h1, h2, _⟩⟩
            · rw [h0] at hq; cases hq
            · rw [h1] at hq; cases hq; omega))
          have HK2 := hid (H.out.2.2.2.1.trans hK2)
          have HR3 := hid hR2
          clear CI hR2 hK2
          go_upto_region 7 with (at_builtin; refine wpList_pushR (.int .i64 0) 8 w2 rfl _ _ 27 3 rfl Tryd.underlying27 v6_int rfl w.heap.size hgw A i c (intCells L) rfl HRow.out _ rfl rfl _ rfl (by omega) (by omega) ?_; rintro A3 c3 w3 hR3 hK3 hT3)
          have hat : ∀ q, AtRow A q → w.heap.size ≤ q := fun q hq => by
            obtain ⟨ad, h3, h4⟩ := hq
            rcases H.out.2.1.cases with ⟨_, _, _, ⟨h0, _⟩ | ⟨q', h1, h2, _⟩⟩
            · rw [h0] at h3; cases h3
            · rw [h1] at h3; cases h3; rw [← h4]; exact h2
          have HRd3 := hid (HR3.out.kept hK3 (fun q h1 h2 hq => by have := hat q hq; omega) hlo)
          have HK3 := hid (HK2.out.next hK3 (fun q h1 hq => by have := hat q hq; omega))
          have HRow3 := hid hR3
          obtain ⟨A5, c5, hB5, _⟩ := HRd3.out
          have c1 := hB5.cell 1
          simp only [List.getElem?_toArray, List.getElem?_cons_zero, List.getElem?_cons_succ, Option.isNone_some] at c1
          have HLen := hid (show (L ++ [x]).length = i + 1 by rw [List.length_append, H.out.1]; rfl)
          have HIC := hid (show intCells L ++ [.int .i64 x] = intCells (L ++ [x]) by simp [intCells])
          clear hB5 hat hR3 hK3 hT3 H HK2 HR3 HRow
          go_wp2_with fail
          go_roundw
          case rel => exact ⟨i + 1, A3, c3, L ++ [x], r', rfl, by go_num, by omega, hid ⟨HLen.out, by rw [← HIC.out]; exact HRow3.out, HRd3.out, HK3.out, HM2.out⟩⟩
          case measure => simp [intOf]; omega
      · obtain rfl : i = k := by omega
        have HR2 := hid (show res = (L, some r) by
          rw [HR.out, H.out.2.2.2.2, Nat.sub_self]
          simp [Pk.many])
        clear HR
        go_wp2_with fail
        go_ret
        rw [HR2.out]
        exact ⟨A, c, by rw [show (L, some r).1.length = i from H.out.1]; rfl, by
          rw [show (L, some r).1.length = i from H.out.1]; exact H.out.2.1, H.out.2.2.1, H.out.2.2.2.1⟩
end Go.Proofs.YtglekjhbpdoofaaDoor

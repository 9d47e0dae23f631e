/- Texts of this claim in one: RkA RkB RkC RkD RkE CrA RkF RkG. -/
import Derived.Test.YtjladeiecokpfaaGreatDoorCsF
import Derived.Test.YtjladeiecokpfaaGreatDoorCsG
import Derived.Test.YtjladeiecokpfaaGreatDoorProg
import Derived.Test.YtjladeiecokpfaaGreatDoorClQ
import Derived.Test.YtjladeiecokpfaaGreatDoorZBase
import Derived.Test.YtjladeiecokpfaaGreatDoorZLgM
import Derived.BigQuiet
import Derived.Test.YtjladeiecokpfaaGreatDoorCsS
import Derived.Test.YtjladeiecokpfaaGreatDoorMg48
section
/- Stage 10: the reference's Chain, Under, Of, Owner. -/
namespace Go.Proofs.YtjladeiecokpfaaGreatDoor
open Go.RowKit

set_option maxRecDepth 100000 in
set_option maxHeartbeats 2000000 in
theorem rchain_c (A : Option Addr) (cap : Nat) (l : List CV) (x : Int) (w : World) (h : ClsAt w A l) :
    Calls Tryz.prog 37 #[.slice A l.length cap, .int .i64 x] w (ChainPost w (Cs.chain (cls l) x)) := by
  obtain ⟨n, en⟩ : ∃ n, n = l.length := ⟨_, rfl⟩
  have hn : n ≤ 100 := by rw [en]; exact h.len
  have HA := hid h
  have HL := hid (Cs.chain_le (cls l) x)
  rw [← en]
  have EN := hid en
  obtain ⟨R, hR⟩ : ∃ R, R = Cs.chain (cls l) x := ⟨_, rfl⟩
  rw [← hR] at HL ⊢
  have HR := hid hR
  clear h en hR
  go_enter Tryz.func37, Tryz.ntmps37
  go_wp2_with fail
  go_loopw [1, 5] (fun s1 s5 wr => ∃ (y : Int) (pre : List Nat) (B : Option Addr) (k : Nat), s1 = .int .i64 y ∧ s5 = .slice B pre.length k ∧ Hid (RowN wr w.heap.size B k pre) ∧ Hid (R = pre ++ Cs.chain (cls l) y) ∧ Grew w wr) (fun s1 _ _ => (intOf s1 + 1).toNat)
  case atStart => exact ⟨x, [], none, 0, rfl, rfl, hid (RowN.nil _ _), hid (by rw [HR.out]; rfl), Grew.refl _⟩
  case round =>
    obtain ⟨y, pre, B, k, rfl, rfl, HP, HE, hg⟩ := hrel
    have HG := hid hg
    clear hg
    by_cases hy0 : 0 ≤ y
    · obtain ⟨d, rfl⟩ : ∃ d : Nat, y = d := ⟨y.toNat, by omega⟩
      by_cases hd : d < n
      · have hdi : (d : Int) < (n : Int) := by omega
        have hpl : pre.length ≤ 100 := by
          have h1 := HL.out
          rw [HE.out, List.length_append, cls_len, ← EN.out] at h1
          omega
        obtain ⟨ad, v, rfl, hv⟩ := cv_some HA.out.arg (i := d) (by rw [← EN.out]; exact hd)
        have HV := hid hv
        have HV2 := hid (cls_at hv)
        clear hv
        by_cases hs : (d : Int) ≤ v.c.sup
        · have HC := hid (Cs.chain_stop HV2.out hs)
          go_wp2_with (at_builtin; refine wpList_pushN wr rfl _ _ rfl w.heap.size HG.out.below.size B k pre pre.length rfl rfl HP.out d _ rfl rfl _ rfl (by omega) ?_; rintro B3 k3 w3 hO3 hK3 hT3; have HO3 := hid hO3; have HG3 := hid (hK3.grew HG.out (Row.at_base HP.out)); clear hO3 hK3 hT3; obtain ⟨-, q1, -, -, hb, -⟩ := cv_get HA.out.arg HG3.out HV.out)
          go_ret
          exact ⟨B3, k3, by rw [HE.out, HC.out, List.length_append]; rfl, by rw [HE.out, HC.out]; exact HO3.out, HG3.out⟩
        · have HC := hid (Cs.chain_up HV2.out hs)
          go_wp2_with (at_builtin; refine wpList_pushN wr rfl _ _ rfl w.heap.size HG.out.below.size B k pre pre.length rfl rfl HP.out d _ rfl rfl _ rfl (by omega) ?_; rintro B3 k3 w3 hO3 hK3 hT3; have HO3 := hid hO3; have HG3 := hid (hK3.grew HG.out (Row.at_base HP.out)); clear hO3 hK3 hT3; obtain ⟨-, q1, -, -, hb, -⟩ := cv_get HA.out.arg HG3.out HV.out)
          go_round
          case rel => exact ⟨v.c.sup, pre ++ [d], B3, k3, rfl, by simp, HO3, hid (by rw [HE.out, HC.out, List.append_assoc]; rfl), HG3.out⟩
          case measure => simp [intOf]; omega
      · have hdi : ¬ (d : Int) < (n : Int) := by omega
        have HD := hid (Cs.chain_out (cls l) (c := (d : Int)) (.inr (by rw [cls_len, ← EN.out]; omega)))
        go_wp2_with fail
        go_ret
        exact ⟨B, k, by rw [HE.out, HD.out, List.append_nil]; rfl, by rw [HE.out, HD.out, List.append_nil]; exact HP.out, HG.out⟩
    · have HD := hid (Cs.chain_out (cls l) (c := y) (.inl (by omega)))
      go_wp2_with fail
      go_ret
      exact ⟨B, k, by rw [HE.out, HD.out, List.append_nil]; rfl, by rw [HE.out, HD.out, List.append_nil]; exact HP.out, HG.out⟩
set_option maxRecDepth 100000 in
set_option maxHeartbeats 2000000 in
theorem rof_c (A : Option Addr) (cap : Nat) (l : List CV) (s : ByteArray) (w : World) (h : ClsAt w A l) :
    Calls Tryz.prog 15 #[.slice A l.length cap, .string s] w (FindPost w (Cs.of (cls l) s)) := by
  obtain ⟨n, en⟩ : ∃ n, n = l.length := ⟨_, rfl⟩
  have hn : n ≤ 100 := by rw [en]; exact h.len
  have HA := hid h
  rw [← en]
  have EN := hid en
  clear h en
  go_enter Tryz.func15, Tryz.ntmps15
  go_wp2_with fail
  go_loop [6] (fun s6 => ∃ i : Nat, s6 = .int .i64 ((i : Nat) : Int) ∧ i ≤ n ∧ Hid (∀ j x, j < i → (cls l)[j]? = some x → x.name ≠ s)) (fun s6 => n - (intOf s6).toNat)
  case atStart => exact ⟨0, rfl, Nat.zero_le _, hid (fun j x hj _ => absurd hj (Nat.not_lt_zero _))⟩
  case round =>
    obtain ⟨i, rfl, hi, HN⟩ := hrel
    by_cases hlt : i < n
    · have f1 : (i : Int) < (n : Int) := by omega
      obtain ⟨ad, v, rfl, hv, q0, -, -, -, hb, -⟩ := cv_at HA.out (Grew.refl w) (i := i) (by rw [← EN.out]; exact hlt)
      have HV := hid (cls_at hv)
      clear hv
      by_cases hs : v.c.name = s
      · have hz : (v.c.name.toList == s.toList) = true := by rw [hs, beq_self_eq_true]
        have HO : Hid (Cs.of (cls l) s = some i) := hid (by
          unfold Cs.of
          obtain ⟨hc, hx⟩ := List.getElem?_eq_some_iff.1 HV.out
          rw [List.findIdx?_eq_some_iff_getElem]
          refine ⟨hc, by rw [hx]; exact decide_eq_true hs, fun j hj => ?_⟩
          have := HN.out j _ hj (List.getElem?_eq_getElem (by omega))
          simpa using this)
        clear hs
        go_wp2_with fail
        go_ret2
        exact ⟨by rw [HO.out]; rfl, Grew.refl _⟩
      · have hz : (v.c.name.toList == s.toList) = false := by rw [str_beq10]; exact decide_eq_false hs
        have HN2 : Hid (∀ j x, j < i + 1 → (cls l)[j]? = some x → x.name ≠ s) := hid (fun j x hj hx => by
          rcases Nat.lt_or_ge j i with h1 | h1
          · exact HN.out j x h1 hx
          · obtain rfl : j = i := by omega
            rw [HV.out] at hx
            cases hx
            exact hs)
        clear hs
        go_wp2_with fail
        go_round
        case rel => exact ⟨i + 1, by go_num, by omega, HN2⟩
        case measure => simp [intOf]; omega
    · have f1 : ¬ (i : Int) < (n : Int) := by omega
      have HO : Hid (Cs.of (cls l) s = none) := hid (by
        unfold Cs.of
        rw [List.findIdx?_eq_none_iff]
        intro x hx
        obtain ⟨j, hj, rfl⟩ := List.mem_iff_getElem.1 hx
        exact decide_eq_false (HN.out j _ (by rw [cls_len, ← EN.out] at hj; omega) (List.getElem?_eq_getElem hj)))
      go_wp2_with fail
      go_ret2
      exact ⟨by rw [HO.out]; rfl, Grew.refl _⟩
end Go.Proofs.YtjladeiecokpfaaGreatDoor
end

section
/- Stage 10: the reference's Under, Owner. -/
namespace Go.Proofs.YtjladeiecokpfaaGreatDoor
open Go.RowKit

set_option maxRecDepth 100000 in
set_option maxHeartbeats 2000000 in
theorem runder_c (A : Option Addr) (cap : Nat) (l : List CV) (x y : Int) (w : World) (h : ClsAt w A l) :
    Calls Tryz.prog 25 #[.slice A l.length cap, .int .i64 x, .int .i64 y] w fun e w' => e = .returned (.bool (Cs.under (cls l) x y)) ∧ Grew w w' := by
  have HC := hid (rchain_c A cap l x w h)
  have HL := hid (Cs.chain_le (cls l) x)
  have hn : l.length ≤ 100 := h.len
  obtain ⟨R, hR⟩ : ∃ R, R = Cs.chain (cls l) x := ⟨_, rfl⟩
  rw [← hR] at HC HL
  have HU : Hid (Cs.under (cls l) x y = R.any fun i => decide ((i : Int) = y)) := hid (by rw [hR]; rfl)
  have hRl : R.length ≤ 100 := by have := HL.out; rw [cls_len] at this; omega
  clear h hR HL
  generalize Cs.under (cls l) x y = b at *
  go_enter Tryz.func25, Tryz.ntmps25
  go_wp2_with fail
  refine HC.out.mono ?_
  rintro e w1 ⟨B, d, rfl, hrow, hg1⟩
  have HRow := hid hrow
  have HG := hid hg1
  obtain ⟨n, en⟩ : ∃ n, n = R.length := ⟨_, rfl⟩
  rw [← en] at hRl ⊢
  have EN := hid en
  clear hrow hg1 en HC
  go_wp2_with fail
  go_loop [8] (fun s8 => ∃ i : Nat, s8 = .int .i64 ((i : Nat) : Int) ∧ i ≤ n ∧ Hid (∀ j v, j < i → R[j]? = some v → (v : Int) ≠ y)) (fun s8 => n - (intOf s8).toNat)
  case atStart => exact ⟨0, rfl, Nat.zero_le _, hid (fun j x hj _ => absurd hj (Nat.not_lt_zero _))⟩
  case round =>
    obtain ⟨i, rfl, hi, HN⟩ := hrel
    by_cases hlt : i < n
    · have f1 : (i : Int) < (n : Int) := by omega
      obtain ⟨g, v, rfl, hv, q0, hb⟩ := rown_at HRow.out (Grew.refl w1) (i := i) (by rw [← EN.out]; exact hlt)
      have HV := hid hv
      clear hv
      by_cases hs : ((v : Nat) : Int) = y
      · have HO : Hid (b = true) := hid (by
          rw [HU.out, List.any_eq_true]
          exact ⟨v, List.mem_of_getElem? HV.out, decide_eq_true hs⟩)
        subst hs
        go_wp2_with fail
        go_ret
        exact ⟨by rw [HO.out]; rfl, HG.out⟩
      · have hz : (((v : Nat) : Int) == y) = false := beq_eq_false_iff_ne.2 hs
        have HN2 : Hid (∀ j v, j < i + 1 → R[j]? = some v → (v : Int) ≠ y) := hid (fun j x hj hx => by
          rcases Nat.lt_or_ge j i with h1 | h1
          · exact HN.out j x h1 hx
          · obtain rfl : j = i := by omega
            rw [HV.out] at hx
            cases hx
            exact hs)
        clear hs
        go_wp2_with fail
        go_round
        case rel => exact ⟨i + 1, by go_num, by omega, HN2⟩
        case measure => simp [intOf]; omega
    · have f1 : ¬ (i : Int) < (n : Int) := by omega
      have HO : Hid (b = false) := hid (by
        rw [HU.out, List.any_eq_false]
        intro v hv
        obtain ⟨j, hj, rfl⟩ := List.mem_iff_getElem.1 hv
        have := HN.out j _ (by rw [← EN.out] at hj; omega) (List.getElem?_eq_getElem hj)
        simpa using this)
      go_wp2_with fail
      go_ret
      exact ⟨by rw [HO.out]; rfl, HG.out⟩
end Go.Proofs.YtjladeiecokpfaaGreatDoor
end

section
/- Stage 10: the reference's Owner. -/
namespace Go.Proofs.YtjladeiecokpfaaGreatDoor
open Go.RowKit

theorem int_has {w : World} {A : Option Addr} {l : List Int} (h : IntsAt w w.heap.size A l) {i : Nat} (hi : i < l.length) : ∃ ad, A = some ad ∧ w.cell? (ad.add i) = some (.int .i64 l[i]) ∧ ad.block < w.heap.size := by
  obtain ⟨ad, e, hb, hc⟩ := h.2 (by omega)
  refine ⟨ad, e, ?_, hb⟩
  rw [hc i hi, List.getD_eq_getElem?_getD, List.getElem?_eq_getElem hi]; rfl
set_option maxRecDepth 100000 in
set_option maxHeartbeats 2000000 in
theorem rowner_c (A : Option Addr) (cap : Nat) (l : List CV) (m : Int) (w : World) (h : ClsAt w A l) :
    Calls Tryz.prog 17 #[.slice A l.length cap, .int .i64 m] w (FindPost w (Cs.owner (cls l) m)) := by
  obtain ⟨n, en⟩ : ∃ n, n = l.length := ⟨_, rfl⟩
  have hn : n ≤ 100 := by rw [en]; exact h.len
  have HA := hid h
  rw [← en]
  have EN := hid en
  clear h en
  go_enter Tryz.func17, Tryz.ntmps17
  go_wp2_with fail
  go_loop [6, 7] (fun s6 _ => ∃ i : Nat, s6 = .int .i64 ((i : Nat) : Int) ∧ i ≤ n ∧ Hid (∀ j x, j < i → (cls l)[j]? = some x → m ∉ x.ms)) (fun s6 _ => n - (intOf s6).toNat)
  case atStart => exact ⟨0, rfl, Nat.zero_le _, hid (fun j x hj _ => absurd hj (Nat.not_lt_zero _))⟩
  case round =>
    obtain ⟨i, rfl, hi, HN⟩ := hrel
    by_cases hlt : i < n
    · have f1 : (i : Int) < (n : Int) := by omega
      obtain ⟨ad, v, rfl, hv, -, -, -, q3, hb, hok⟩ := cv_at HA.out (Grew.refl w) (i := i) (by rw [← EN.out]; exact hlt)
      have HV := hid (cls_at hv)
      have HI := hid hok.ms
      have hml : v.c.ms.length ≤ 100 := HA.out.fit.ms _ (HA.out.mem (List.mem_of_getElem? hv))
      obtain ⟨k, ek⟩ : ∃ k, k = v.c.ms.length := ⟨_, rfl⟩
      rw [← ek] at q3 hml
      have EK := hid ek
      clear hv hok ek
      go_wp2_with fail
      go_loop [7] (fun s7 => ∃ j : Nat, s7 = .int .i64 ((j : Nat) : Int) ∧ j ≤ k ∧ Hid (∀ x ∈ v.c.ms.take j, x ≠ m)) (fun s7 => k - (intOf s7).toNat)
      case atStart => exact ⟨0, rfl, Nat.zero_le _, hid (by simp)⟩
      case round =>
        obtain ⟨j, rfl, hj, HJ⟩ := hrel
        by_cases hjl : j < k
        · have f2 : (j : Int) < (k : Int) := by omega
          have hj2 : j < v.c.ms.length := by rw [← EK.out]; exact hjl
          obtain ⟨a2, e2, p0, hb2⟩ := int_has HI.out hj2
          have HX : Hid (v.c.ms.take (j + 1) = v.c.ms.take j ++ [v.c.ms[j]]) := hid (by rw [List.take_add_one, List.getElem?_eq_getElem hj2]; rfl)
          have HMm := hid (List.getElem_mem hj2)
          rw [e2] at q3
          generalize v.c.ms[j] = z at *
          by_cases hs : z = m
          · subst hs
            have HO : Hid (Cs.owner (cls l) z = some i) := hid (by
              unfold Cs.owner
              obtain ⟨hc, hx⟩ := List.getElem?_eq_some_iff.1 HV.out
              rw [List.findIdx?_eq_some_iff_getElem]
              refine ⟨hc, by rw [hx]; simpa using HMm.out, fun q hq => ?_⟩
              have := HN.out q _ hq (List.getElem?_eq_getElem (by omega))
              simpa using this)
            clear e2 hj2
            go_wp2_with fail
            go_ret2
            exact ⟨by rw [HO.out]; rfl, Grew.refl _⟩
          · have hz : (z == m) = false := beq_eq_false_iff_ne.2 hs
            have HJ2 : Hid (∀ x ∈ v.c.ms.take (j + 1), x ≠ m) := hid (by
              rw [HX.out]
              intro x hx
              rcases List.mem_append.1 hx with hx | hx
              · exact HJ.out x hx
              · rw [List.mem_singleton.1 hx]; exact hs)
            clear hs e2 hj2
            go_wp2_with fail
            go_round
            case rel => exact ⟨j + 1, by go_num, by omega, HJ2⟩
            case measure => simp [intOf]; omega
        · have f2 : ¬ (j : Int) < (k : Int) := by omega
          have HN2 : Hid (∀ q x, q < i + 1 → (cls l)[q]? = some x → m ∉ x.ms) := hid (fun q x hq hx => by
            rcases Nat.lt_or_ge q i with h1 | h1
            · exact HN.out q x h1 hx
            · obtain rfl : q = i := by omega
              rw [HV.out] at hx
              cases hx
              intro hm
              exact HJ.out m (by rw [List.take_of_length_le (by rw [← EK.out]; omega)]; exact hm) rfl)
          go_wp2_with fail
          go_round
          case rel => exact ⟨i + 1, by go_num, by omega, HN2⟩
          case measure => simp [intOf]; omega
    · have f1 : ¬ (i : Int) < (n : Int) := by omega
      have HO : Hid (Cs.owner (cls l) m = none) := hid (by
        unfold Cs.owner
        rw [List.findIdx?_eq_none_iff]
        intro x hx
        obtain ⟨j, hj, rfl⟩ := List.mem_iff_getElem.1 hx
        have := HN.out j _ (by rw [cls_len, ← EN.out] at hj; omega) (List.getElem?_eq_getElem hj)
        simpa using this)
      go_wp2_with fail
      go_ret2
      exact ⟨by rw [HO.out]; rfl, Grew.refl _⟩
end Go.Proofs.YtjladeiecokpfaaGreatDoor
end

section
/- Stage 10: the reference's Names. -/
namespace Go.Proofs.YtjladeiecokpfaaGreatDoor
open Go.RowKit

set_option maxRecDepth 100000 in
set_option maxHeartbeats 2000000 in
theorem rnames_c (A : Option Addr) (cap : Nat) (l : List CV) (x : Int) (w : World) (h : ClsAt w A l) :
    Calls Tryz.prog 18 #[.slice A l.length cap, .int .i64 x] w (NamesPost w (Cs.names (cls l) x)) := by
  have HC := hid (rchain_c A cap l x w h)
  have HL := hid (Cs.chain_le (cls l) x)
  have HM := hid (Cs.chain_mem (cls l) x)
  have hn : l.length ≤ 100 := h.len
  have HA := hid h
  obtain ⟨R, hR⟩ : ∃ R, R = Cs.chain (cls l) x := ⟨_, rfl⟩
  rw [← hR] at HC HL HM
  have HU : Hid (Cs.names (cls l) x = R.reverse.flatMap (varsOf (cls l))) := hid (by rw [hR]; rfl)
  have hRl : R.length ≤ 100 := by have := HL.out; rw [cls_len] at this; omega
  clear h hR HL
  generalize Cs.names (cls l) x = b at *
  obtain ⟨nl, enl⟩ : ∃ nl, nl = l.length := ⟨_, rfl⟩
  rw [← enl] at hn HC ⊢
  have ENL := hid enl
  clear enl
  go_enter Tryz.func18, Tryz.ntmps18
  go_wp2_with fail
  refine HC.out.mono ?_
  rintro e w1 ⟨B, d, rfl, hrow, hg1⟩
  have HRow := hid hrow
  have HG := hid hg1
  obtain ⟨n, en⟩ : ∃ n, n = R.length := ⟨_, rfl⟩
  rw [← en] at hRl ⊢
  have EN := hid en
  clear hrow hg1 en HC
  go_wp2_with fail
  go_loopw [5, 7] (fun s5 s7 wr => ∃ (j : Nat) (A3 : Option Addr) (k3 m3 : Nat), s7 = .int .i64 (((j : Nat) : Int) - 1) ∧ j ≤ n ∧ s5 = .slice A3 m3 k3 ∧ m3 ≤ 100 * (n - j) ∧ Hid (m3 = ((R.drop j).reverse.flatMap (varsOf (cls l))).length) ∧ Hid (Row wr w1.heap.size 9 1 A3 m3 k3 (strV ((R.drop j).reverse.flatMap (varsOf (cls l))))) ∧ Hid (Grew w1 wr)) (fun _ s7 _ => (intOf s7 + 1).toNat)
  case atStart => exact ⟨n, none, 0, 0, by go_num, Nat.le_refl _, rfl, Nat.zero_le _, hid (by rw [EN.out, List.drop_length]; rfl), hid (by rw [EN.out, List.drop_length]; exact Row.nil _ _ _ _), hid (Grew.refl _)⟩
  case round =>
    obtain ⟨j, A3, k3, m3, rfl, hj, rfl, hm3, HMl, HR3, HG3⟩ := hrel
    by_cases h0 : 0 < j
    · obtain ⟨i, rfl⟩ : ∃ i, j = i + 1 := ⟨j - 1, by omega⟩
      obtain ⟨g, c, rfl, hv, q0, hb⟩ := rown_at HRow.out HG3.out (i := i) (by rw [← EN.out]; omega)
      have hcl : c < nl := by
        have := HM.out c (List.mem_of_getElem? hv)
        rw [cls_len, ← ENL.out] at this
        exact this
      obtain ⟨ad, v, rfl, hvc, -, -, q2, -, hb2, hok⟩ := cv_at HA.out (HG.out.trans HG3.out) (i := c) (by rw [← ENL.out]; exact hcl)
      have HD : Hid ((R.drop i).reverse.flatMap (varsOf (cls l)) = (R.drop (i + 1)).reverse.flatMap (varsOf (cls l)) ++ v.c.vars) := hid (by
        have hi := (List.getElem?_eq_some_iff.1 hv)
        obtain ⟨hi1, hi2⟩ := hi
        rw [List.drop_eq_getElem_cons hi1, List.reverse_cons, List.flatMap_append, hi2]
        congr 1
        show varsOf (cls l) c ++ [] = _
        rw [List.append_nil, varsOf, cls_at hvc]; rfl)
      have HS := hid hok.vars
      have hvl : v.c.vars.length ≤ 100 := HA.out.fit.vars _ (HA.out.mem (List.mem_of_getElem? hvc))
      have hci : (c : Int) < (nl : Int) := by omega
      have HSl := hid (show w1.heap.size ≤ wr.heap.size from HG3.out.below.size)
      obtain ⟨k, ek⟩ : ∃ k, k = v.c.vars.length := ⟨_, rfl⟩
      rw [← ek] at q2 hvl
      have EK := hid ek
      clear hv hvc hok ek
      generalize (R.drop (i + 1)).reverse.flatMap (varsOf (cls l)) = old at *
      go_wp2_with (at_builtin; refine wpList_catR (.string ⟨#[]⟩) 1 16 wr rfl _ _ 42 9 rfl Tryz.underlying42 str_info10 rfl (by decide) w1.heap.size HSl.out A3 m3 k3 _ rfl HR3.out v.A1 k v.c1 (strV v.c.vars) rfl (by rw [strV_len, ← EK.out, Nat.mul_one]) (strV_one _) (fun e => by rw [EK.out]; exact HS.out.cells.1 e) HS.out.cells.2 (by omega) (by omega) ?_; rintro A8 k8 w8 hR8 hK8 hT8; have HR8 := hid hR8; have HG8 := hid (hK8.grew HG3.out (Row.at_base HR3.out)); clear hR8 hK8 hT8)
      go_round
      case rel => exact ⟨i, A8, k8, m3 + k, by go_num, by omega, rfl, by omega, hid (by rw [HD.out, List.length_append, ← HMl.out, EK.out]), hid (by rw [HD.out, show strV (old ++ v.c.vars) = strV old ++ strV v.c.vars by simp [strV]]; exact HR8.out), HG8⟩
      case measure => simp [intOf]
    · obtain rfl : j = 0 := by omega
      have HB : Hid (b = (R.drop 0).reverse.flatMap (varsOf (cls l))) := hid (by rw [HU.out, List.drop_zero])
      go_wp2_with fail
      go_ret
      exact ⟨A3, k3, by rw [HB.out, ← HMl.out]; rfl, by rw [HB.out, ← HMl.out]; exact HR3.out.low HG.out.below.size, HG.out.trans HG3.out⟩
end Go.Proofs.YtjladeiecokpfaaGreatDoor
end

section
/- Stage 10: the reference's Find. -/
namespace Go.Proofs.YtjladeiecokpfaaGreatDoor
open Go.RowKit

theorem hasSel_neg {ss : List ByteArray} {s : ByteArray} {z : Int} (h : z < 0) : hasSel ss s z = false := decide_eq_false (by rintro ⟨h1, _⟩; omega)
theorem hasSel_far {ss : List ByteArray} {s : ByteArray} {z : Int} (h : (ss.length : Int) ≤ z) : hasSel ss s z = false := decide_eq_false (by
  rintro ⟨h1, h2⟩
  have := (List.getElem?_eq_some_iff.1 h2).1
  omega)
theorem hasSel_at {ms : List MV} {s : ByteArray} {q : Nat} {u : MV} (h : ms[q]? = some u) : hasSel (sels ms) s ((q : Nat) : Int) = decide (u.sel = s) := by
  unfold hasSel
  rw [Int.toNat_natCast, sels_at h, Bool.eq_iff_iff, decide_eq_true_iff, decide_eq_true_iff]
  exact ⟨fun h => Option.some.inj h.2, fun h => ⟨by omega, by rw [h]⟩⟩
theorem findIn_none {ss : List ByteArray} {s : ByteArray} {l : List Int} (h : ∀ x ∈ l, hasSel ss s x = false) : Cs.findIn ss s l = none := by
  rw [findIn_idx, List.findIdx?_eq_none_iff.2 (fun x hx => h x hx)]
  rfl
theorem findIn_hit {ss : List ByteArray} {s : ByteArray} {l : List Int} {j q : Nat} (h : ∀ x ∈ l.take j, hasSel ss s x = false) (hj : l[j]? = some ((q : Nat) : Int)) (hq : hasSel ss s ((q : Nat) : Int) = true) : Cs.findIn ss s l = some q := by
  have e : l.findIdx? (hasSel ss s) = some j := find_some10 (by rw [List.any_eq_false]; intro x hx; rw [h x hx]; decide) hj hq
  rw [(findIn_at e).2.2, List.getD_eq_getElem?_getD, hj]
  rfl
set_option maxRecDepth 100000 in
set_option maxHeartbeats 1000000 in
theorem rfind_c (A : Option Addr) (cap : Nat) (l : List CV) (A2 : Option Addr) (c2 : Nat) (ms : List MV) (x : Int) (s : ByteArray) (w : World) (h : ClsAt w A l) (h2 : MethsAt w A2 ms) :
    Calls Tryz.prog 13 #[.slice A l.length cap, .slice A2 ms.length c2, .int .i64 x, .string s] w (FindPost w (Cs.find (cls l) (sels ms) x s)) := by
  have HC := hid (rchain_c A cap l x w h)
  have HL := hid (Cs.chain_le (cls l) x)
  have HM := hid (Cs.chain_mem (cls l) x)
  have hn : l.length ≤ 100 := h.len
  have HA := hid h
  have HMs := hid h2
  have hmm : ms.length ≤ 100 := h2.len
  obtain ⟨K, hK⟩ : ∃ K, K = Cs.chain (cls l) x := ⟨_, rfl⟩
  rw [← hK] at HC HL HM
  obtain ⟨R, hR⟩ : ∃ R, R = Cs.find (cls l) (sels ms) x s := ⟨_, rfl⟩
  rw [← hR]
  have HR : Hid (R = Cs.findAt (cls l) (sels ms) s K) := hid (by rw [hR, hK]; rfl)
  have hKl : K.length ≤ 100 := by have := HL.out; rw [cls_len] at this; omega
  clear h h2 hK hR HL
  obtain ⟨nl, enl⟩ : ∃ nl, nl = l.length := ⟨_, rfl⟩
  rw [← enl] at hn HC ⊢
  have ENL := hid enl
  obtain ⟨nm, enm⟩ : ∃ nm, nm = ms.length := ⟨_, rfl⟩
  rw [← enm] at hmm ⊢
  have ENM := hid enm
  clear enl enm
  go_enter Tryz.func13, Tryz.ntmps13
  go_wp2_with fail
  refine HC.out.mono ?_
  rintro e w1 ⟨B, d0, rfl, hrow, hg1⟩
  have HRow := hid hrow
  have HG := hid hg1
  obtain ⟨n, en⟩ : ∃ n, n = K.length := ⟨_, rfl⟩
  rw [← en] at hKl ⊢
  have EN := hid en
  clear hrow hg1 en HC
  go_wp2_with fail
  go_loop [11, 12, 13] (fun s11 _ _ => ∃ i : Nat, s11 = .int .i64 ((i : Nat) : Int) ∧ i ≤ n ∧ Hid (R = Cs.findAt (cls l) (sels ms) s (K.drop i))) (fun s11 _ _ => n - (intOf s11).toNat)
  case atStart => exact ⟨0, rfl, Nat.zero_le _, HR⟩
  case round =>
    clear HR
    obtain ⟨i, rfl, hi, HE⟩ := hrel
    by_cases hlt : i < n
    · have f1 : (i : Int) < (n : Int) := by omega
      obtain ⟨g, d, rfl, hd, q0, hb⟩ := rown_at HRow.out (Grew.refl w1) (i := i) (by rw [← EN.out]; exact hlt)
      have hdn : d < nl := by have := HM.out d (List.mem_of_getElem? hd); rwa [cls_len, ← ENL.out] at this
      have hdi : (d : Int) < (nl : Int) := by omega
      obtain ⟨ad, v, rfl, hv, -, -, -, q3, hb2, hok⟩ := cv_at HA.out HG.out (i := d) (by rw [← ENL.out]; exact hdn)
      have HD : Hid (Cs.findAt (cls l) (sels ms) s (K.drop i) = match Cs.findIn (sels ms) s v.c.ms with | some q => some q | none => Cs.findAt (cls l) (sels ms) s (K.drop (i + 1))) := hid (by
        rw [List.drop_eq_getElem_cons (by rw [← EN.out]; exact hlt)]
        have e : K[i]'(by rw [← EN.out]; exact hlt) = d := (List.getElem?_eq_some_iff.1 hd).2
        rw [e, Cs.findAt, cls_at hv]
        rfl)
      have HI := hid hok.ms
      have hml : v.c.ms.length ≤ 100 := HA.out.fit.ms _ (HA.out.mem (List.mem_of_getElem? hv))
      obtain ⟨k, ek⟩ : ∃ k, k = v.c.ms.length := ⟨_, rfl⟩
      rw [← ek] at q3 hml
      have EK := hid ek
      clear hv hok ek hd
      go_wp2_with fail
      go_loop [12, 13] (fun s12 _ => ∃ j : Nat, s12 = .int .i64 ((j : Nat) : Int) ∧ j ≤ k ∧ Hid (∀ y ∈ v.c.ms.take j, hasSel (sels ms) s y = false)) (fun s12 _ => k - (intOf s12).toNat)
      case atStart => exact ⟨0, rfl, Nat.zero_le _, hid (by simp)⟩
      case round =>
        obtain ⟨j, rfl, hj, HJ⟩ := hrel
        by_cases hjl : j < k
        · have f2 : (j : Int) < (k : Int) := by omega
          obtain ⟨a2, z, e2, hz, p0, hb3⟩ := int_at HI.out (Grew.refl w1) (i := j) (by rw [← EK.out]; exact hjl)
          rw [e2] at q3
          have HJ2 : Hid (hasSel (sels ms) s z = false → ∀ y ∈ v.c.ms.take (j + 1), hasSel (sels ms) s y = false) := hid (fun hf y hy => by
            rw [List.take_add_one, hz] at hy
            rcases List.mem_append.1 hy with hy | hy
            · exact HJ.out y hy
            · have : y = z := by simpa using hy
              rw [this]; exact hf)
          have HH : Hid (∀ q : Nat, z = ((q : Nat) : Int) → hasSel (sels ms) s z = true → R = some q) := hid (fun q e hq => by
            subst e
            rw [HE.out, HD.out, findIn_hit HJ.out hz hq])
          clear hz e2
          by_cases hz0 : 0 ≤ z
          · obtain ⟨q, rfl⟩ : ∃ q : Nat, z = q := ⟨z.toNat, by omega⟩
            by_cases hq : q < nm
            · have hqi : (q : Int) < (nm : Int) := by omega
              obtain ⟨a3, u, rfl, hu, m0, -, -, mb, -⟩ := meth_at HMs.out HG.out (i := q) (by rw [← ENM.out]; exact hq)
              have HS := hid (hasSel_at (s := s) hu)
              clear hu
              by_cases hs : u.sel = s
              · have HRq := hid (HH.out q rfl (by rw [HS.out, hs]; exact decide_eq_true rfl))
                have hzz : (u.sel.toList == s.toList) = true := by rw [hs, beq_self_eq_true]
                clear hs HJ2 HH HS
                go_wp2_with fail
                go_ret2
                exact ⟨by rw [HRq.out]; rfl, HG.out⟩
              · have HJ3 := hid (HJ2.out (by rw [HS.out]; exact decide_eq_false hs))
                have hzz : (u.sel.toList == s.toList) = false := by rw [str_beq10]; exact decide_eq_false hs
                clear hs HJ2 HH HS
                go_wp2_with fail
                go_round
                case rel => exact ⟨j + 1, by go_num, by omega, HJ3⟩
                case measure => simp [intOf]; omega
            · have hqi : ¬ (q : Int) < (nm : Int) := by omega
              have HJ3 := hid (HJ2.out (hasSel_far (by rw [sels_len, ← ENM.out]; omega)))
              clear HJ2 HH
              go_wp2_with fail
              go_round
              case rel => exact ⟨j + 1, by go_num, by omega, HJ3⟩
              case measure => simp [intOf]; omega
          · have HJ3 := hid (HJ2.out (hasSel_neg (by omega)))
            clear HJ2 HH
            go_wp2_with fail
            go_round
            case rel => exact ⟨j + 1, by go_num, by omega, HJ3⟩
            case measure => simp [intOf]; omega
        · have f2 : ¬ (j : Int) < (k : Int) := by omega
          have HN : Hid (R = Cs.findAt (cls l) (sels ms) s (K.drop (i + 1))) := hid (by
            rw [HE.out, HD.out, findIn_none (fun y hy => HJ.out y (by rw [List.take_of_length_le (by rw [← EK.out]; omega)]; exact hy))])
          go_wp2_with fail
          go_round
          case rel => exact ⟨i + 1, by go_num, by omega, HN⟩
          case measure => simp [intOf]; omega
    · have f1 : ¬ (i : Int) < (n : Int) := by omega
      have HO : Hid (R = none) := hid (by
        rw [HE.out, List.drop_of_length_le (by rw [← EN.out]; omega)]
        rfl)
      go_wp2_with fail
      go_ret2
      exact ⟨by rw [HO.out]; rfl, HG.out⟩
end Go.Proofs.YtjladeiecokpfaaGreatDoor
end

section
/- Stage 10, the document's own: Name, Var. -/
namespace Go.Proofs.YtjladeiecokpfaaGreatDoor
open Go.RowKit

theorem nameOk_no {lo hi : Nat} {s : ByteArray} (h : s.size < 1 ∨ 32 < s.size) : Cs.nameOk lo hi s = false := by
  unfold Cs.nameOk
  have hl := Pk.natsOf_len s
  cases hn : Pk.natsOf s with
  | nil => rfl
  | cons x r =>
    rw [hn] at hl
    simp only
    have : decide ((x :: r).length ≤ 32) = false := decide_eq_false (by rw [List.length_cons] at hl ⊢; omega)
    rw [this]
    simp
theorem nameOk_yes {lo hi : Nat} {s : ByteArray} (h1 : 1 ≤ s.size) (h2 : s.size ≤ 32) : Cs.nameOk lo hi s = (decide (lo ≤ (Pk.natsOf s).getD 0 0) && decide ((Pk.natsOf s).getD 0 0 ≤ hi) && (Pk.natsOf s).all Mt.letter) := by
  unfold Cs.nameOk
  have hl := Pk.natsOf_len s
  cases hn : Pk.natsOf s with
  | nil => rw [hn, List.length_nil] at hl; omega
  | cons x r =>
    rw [hn] at hl
    simp only
    have : decide ((x :: r).length ≤ 32) = true := decide_eq_true (by omega)
    rw [this, Bool.and_true]
    rfl
set_option maxRecDepth 100000 in
set_option maxHeartbeats 2000000 in
theorem rname_c (s : ByteArray) (lo hi : Nat) (w : World) : Calls Tryz.prog 43 #[.string s, .int .u8 ((lo : Nat) : Int), .int .u8 ((hi : Nat) : Int)] w fun e w' => e = .returned (.bool (Cs.nameOk lo hi s)) ∧ w' = w := by
  by_cases h1 : s.size < 1
  · have HN := hid (nameOk_no (lo := lo) (hi := hi) (s := s) (.inl h1))
    have f1 : (s.size : Int) < 1 := by omega
    go_enter Tryz.func43, Tryz.ntmps43
    go_wp2_with fail
    go_ret
    exact ⟨congrArg (fun z => Ending.returned (.bool z)) HN.out.symm, rfl⟩
  · have f1 : ¬ (s.size : Int) < 1 := by omega
    by_cases h2 : 32 < s.size
    · have HN := hid (nameOk_no (lo := lo) (hi := hi) (s := s) (.inr h2))
      have f2 : (32 : Int) < (s.size : Int) := by omega
      go_enter Tryz.func43, Tryz.ntmps43
      go_wp2_with fail
      go_ret
      exact ⟨congrArg (fun z => Ending.returned (.bool z)) HN.out.symm, rfl⟩
    · have f2 : ¬ (32 : Int) < (s.size : Int) := by omega
      have h0 : 0 < s.size := by omega
      have f0 : (0 : Int) < (s.size : Int) := by omega
      have hb0 : (s[0]'h0).toNat = (Pk.natsOf s).getD 0 0 := Lg.bytes_at s 0 h0
      have HY := hid (nameOk_yes (lo := lo) (hi := hi) (s := s) (by omega) (by omega))
      obtain ⟨b, hb⟩ : ∃ b, b = Cs.nameOk lo hi s := ⟨_, rfl⟩
      rw [← hb] at HY ⊢
      clear hb
      generalize (Pk.natsOf s).getD 0 0 = x at hb0 HY
      by_cases g1 : x < lo
      · have HN := hid (show b = false by rw [HY.out, decide_eq_false (by omega)]; rfl)
        have f3 : ((x : Nat) : Int) < ((lo : Nat) : Int) := by omega
        go_enter Tryz.func43, Tryz.ntmps43
        go_wp2_with fail
        go_ret
        exact ⟨congrArg (fun z => Ending.returned (.bool z)) HN.out.symm, rfl⟩
      · have f3 : ¬ ((x : Nat) : Int) < ((lo : Nat) : Int) := by omega
        by_cases g2 : hi < x
        · have HN := hid (show b = false by rw [HY.out, show decide (x ≤ hi) = false from decide_eq_false (by omega), Bool.and_false]; rfl)
          have f4 : ((hi : Nat) : Int) < ((x : Nat) : Int) := by omega
          go_enter Tryz.func43, Tryz.ntmps43
          go_wp2_with fail
          go_ret
          exact ⟨congrArg (fun z => Ending.returned (.bool z)) HN.out.symm, rfl⟩
        · have f4 : ¬ ((hi : Nat) : Int) < ((x : Nat) : Int) := by omega
          have HA := hid (show b = (Pk.natsOf s).all Mt.letter by rw [HY.out, decide_eq_true (by omega), decide_eq_true (by omega)]; rfl)
          clear HY
          go_enter Tryz.func43, Tryz.ntmps43
          go_wp2_with fail
          clear hb0 f0 f3 f4
          go_loopw [7] (fun s7 wr => ∃ i : Nat, s7 = .int .i64 ((i : Nat) : Int) ∧ i ≤ s.size ∧ Hid (((Pk.natsOf s).take i).all Mt.letter = true) ∧ wr = w) (fun s7 _ => s.size - (intOf s7).toNat)
          case atStart => exact ⟨0, rfl, Nat.zero_le _, hid rfl, rfl⟩
          case round =>
            obtain ⟨i, rfl, hi', HI, rfl⟩ := hrel
            by_cases hlt : i < s.size
            · have hlt' : (i : Int) < (s.size : Int) := by omega
              have hb : (s[i]'hlt).toNat = (Pk.natsOf s).getD i 0 := Lg.bytes_at s i hlt
              have hx : (Pk.natsOf s)[i]? = some ((Pk.natsOf s).getD i 0) := by
                rw [List.getD_eq_getElem?_getD, List.getElem?_eq_getElem (by rw [Pk.natsOf_len]; exact hlt)]; rfl
              generalize (Pk.natsOf s).getD i 0 = y at hb hx
              have HT : Hid (((Pk.natsOf s).take (i + 1)).all Mt.letter = Mt.letter y) := hid (by
                rw [List.take_add_one, hx, List.all_append, HI.out]
                simp)
              have HX : Hid (Mt.letter y = false → b = false) := hid (fun hf => by
                rw [HA.out, List.all_eq_false]
                exact ⟨y, List.mem_of_getElem? hx, by rw [hf]; decide⟩)
              clear hx
              by_cases a1 : 97 ≤ y ∧ y ≤ 122
              · have HL := hid (HT.out.trans (by unfold Mt.letter Mt.small; simp; omega : Mt.letter y = true))
                have e1 : ¬ ((y : Nat) : Int) < 97 := by omega
                have e2 : ¬ (122 : Int) < ((y : Nat) : Int) := by omega
                clear a1
                go_wp2_with fail
                go_round
                case rel => exact ⟨i + 1, by go_num, by omega, HL, trivial⟩
                case measure => simp [intOf]; omega
              · by_cases a2 : 65 ≤ y ∧ y ≤ 90
                · have HL := hid (HT.out.trans (by unfold Mt.letter Mt.small Mt.capital; simp; omega : Mt.letter y = true))
                  have e1 : ((y : Nat) : Int) < 97 := by omega
                  have e3 : ¬ ((y : Nat) : Int) < 65 := by omega
                  have e4 : ¬ (90 : Int) < ((y : Nat) : Int) := by omega
                  clear a1 a2
                  go_wp2_with fail
                  go_round
                  case rel => exact ⟨i + 1, by go_num, by omega, HL, trivial⟩
                  case measure => simp [intOf]; omega
                · by_cases a3 : 48 ≤ y ∧ y ≤ 57
                  · have HL := hid (HT.out.trans (by unfold Mt.letter Mt.small Mt.capital Mt.digit; simp; omega : Mt.letter y = true))
                    have e1 : ((y : Nat) : Int) < 97 := by omega
                    have e3 : ((y : Nat) : Int) < 65 := by omega
                    have e5 : ¬ ((y : Nat) : Int) < 48 := by omega
                    have e6 : ¬ (57 : Int) < ((y : Nat) : Int) := by omega
                    clear a1 a2 a3
                    go_wp2_with fail
                    go_round
                    case rel => exact ⟨i + 1, by go_num, by omega, HL, trivial⟩
                    case measure => simp [intOf]; omega
                  · have HN := hid (HX.out (by unfold Mt.letter Mt.small Mt.capital Mt.digit; simp; omega))
                    rcases (show y < 48 ∨ (57 < y ∧ y < 65) ∨ (90 < y ∧ y < 97) ∨ 122 < y by omega) with a | ⟨a, a'⟩ | ⟨a, a'⟩ | a
                    · have e1 : ((y : Nat) : Int) < 97 := by omega
                      have e3 : ((y : Nat) : Int) < 65 := by omega
                      have e5 : ((y : Nat) : Int) < 48 := by omega
                      clear a1 a2 a3
                      go_wp2_with fail
                      go_ret
                      exact ⟨congrArg (fun z => Ending.returned (.bool z)) HN.out.symm, rfl⟩
                    · have e1 : ((y : Nat) : Int) < 97 := by omega
                      have e3 : ((y : Nat) : Int) < 65 := by omega
                      have e5 : ¬ ((y : Nat) : Int) < 48 := by omega
                      have e6 : (57 : Int) < ((y : Nat) : Int) := by omega
                      clear a1 a2 a3
                      go_wp2_with fail
                      go_ret
                      exact ⟨congrArg (fun z => Ending.returned (.bool z)) HN.out.symm, rfl⟩
                    · have e1 : ((y : Nat) : Int) < 97 := by omega
                      have e3 : ¬ ((y : Nat) : Int) < 65 := by omega
                      have e4 : (90 : Int) < ((y : Nat) : Int) := by omega
                      have e5 : ¬ ((y : Nat) : Int) < 48 := by omega
                      have e6 : (57 : Int) < ((y : Nat) : Int) := by omega
                      clear a1 a2 a3
                      go_wp2_with fail
                      go_ret
                      exact ⟨congrArg (fun z => Ending.returned (.bool z)) HN.out.symm, rfl⟩
                    · have e1 : ¬ ((y : Nat) : Int) < 97 := by omega
                      have e2 : (122 : Int) < ((y : Nat) : Int) := by omega
                      have e3 : ¬ ((y : Nat) : Int) < 65 := by omega
                      have e4 : (90 : Int) < ((y : Nat) : Int) := by omega
                      have e5 : ¬ ((y : Nat) : Int) < 48 := by omega
                      have e6 : (57 : Int) < ((y : Nat) : Int) := by omega
                      clear a1 a2 a3
                      go_wp2_with fail
                      go_ret
                      exact ⟨congrArg (fun z => Ending.returned (.bool z)) HN.out.symm, rfl⟩
            · obtain rfl : i = s.size := by omega
              have HF := hid (show b = true by
                have := HI.out
                rw [List.take_of_length_le (by rw [Pk.natsOf_len]; exact Nat.le_refl _)] at this
                rw [HA.out, this])
              go_wp2_with fail
              go_ret
              exact ⟨congrArg (fun z => Ending.returned (.bool z)) HF.out.symm, rfl⟩
end Go.Proofs.YtjladeiecokpfaaGreatDoor
end

section
/- Stage 10: the reference's First, Var, twice. -/
namespace Go.Proofs.YtjladeiecokpfaaGreatDoor
open Go.RowKit

def RFirstPost (w : World) (e : Ending) (w' : World) : Prop := ∃ g, e = .returned (.slice (some ⟨g, 0, none⟩) 11 11) ∧ Blk w' g 9 (strV firstB).toArray ∧ w.heap.size ≤ g ∧ Grew w w'
theorem strV_first : (strV firstB).toArray = #[Value.string ⟨#[79, 98, 106, 101, 99, 116]⟩, Value.string ⟨#[73, 110, 116, 101, 103, 101, 114]⟩, Value.string ⟨#[76, 97, 114, 103, 101, 73, 110, 116, 101, 103, 101, 114]⟩, Value.string ⟨#[85, 110, 100, 101, 102, 105, 110, 101, 100]⟩, Value.string ⟨#[66, 111, 111, 108, 101, 97, 110]⟩, Value.string ⟨#[83, 116, 114, 105, 110, 103]⟩, Value.string ⟨#[65, 114, 114, 97, 121]⟩, Value.string ⟨#[66, 108, 111, 99, 107]⟩, Value.string ⟨#[69, 110, 118]⟩, Value.string ⟨#[67, 108, 97, 115, 115]⟩, Value.string ⟨#[83, 101, 109, 97, 112, 104, 111, 114, 101]⟩] := rfl
set_option maxRecDepth 100000 in
set_option maxHeartbeats 1000000 in
theorem rfirst_c (w : World) : Calls Tryz.prog 42 #[] w (RFirstPost w) := by
  go_enter Tryz.func42, Tryz.ntmps42
  go_wp2_with fail
  go_ret
  exact ⟨_, rfl, by rw [strV_first]; exact Blk.new w _ _, Nat.le_refl _, (Grew.refl w).alloc _⟩
set_option maxRecDepth 100000 in
set_option maxHeartbeats 1000000 in
theorem rvar_c (s : ByteArray) (w : World) : Calls Tryz.prog 45 #[.string s] w fun e w' => e = .returned (.bool (Cs.varOk s)) ∧ w' = w := by
  have HN := hid (rname_c s 97 122 w)
  unfold Cs.varOk
  rw [reserved_or]
  generalize Cs.nameOk 97 122 s = q at *
  cases q
  · go_enter Tryz.func45, Tryz.ntmps45
    go_wp2_with fail
    refine HN.out.mono ?_
    rintro e w1 ⟨rfl, rfl⟩
    go_wp2_with fail
    go_ret
    exact ⟨rfl, rfl⟩
  · cases h1 : (s.toList == [115, 101, 108, 102])
    · cases h2 : (s.toList == [115, 117, 112, 101, 114])
      · cases h3 : (s.toList == [110, 105, 108])
        · cases h4 : (s.toList == [116, 114, 117, 101])
          · generalize h5 : (s.toList == [102, 97, 108, 115, 101]) = b5
            go_enter Tryz.func45, Tryz.ntmps45
            go_wp2_with fail
            refine HN.out.mono ?_
            rintro e w1 ⟨rfl, rfl⟩
            go_wp2_with fail
            go_ret
            exact ⟨by cases b5 <;> rfl, rfl⟩
          · go_enter Tryz.func45, Tryz.ntmps45
            go_wp2_with fail
            refine HN.out.mono ?_
            rintro e w1 ⟨rfl, rfl⟩
            go_wp2_with fail
            go_ret
            exact ⟨rfl, rfl⟩
        · go_enter Tryz.func45, Tryz.ntmps45
          go_wp2_with fail
          refine HN.out.mono ?_
          rintro e w1 ⟨rfl, rfl⟩
          go_wp2_with fail
          go_ret
          exact ⟨rfl, rfl⟩
      · go_enter Tryz.func45, Tryz.ntmps45
        go_wp2_with fail
        refine HN.out.mono ?_
        rintro e w1 ⟨rfl, rfl⟩
        go_wp2_with fail
        go_ret
        exact ⟨rfl, rfl⟩
    · go_enter Tryz.func45, Tryz.ntmps45
      go_wp2_with fail
      refine HN.out.mono ?_
      rintro e w1 ⟨rfl, rfl⟩
      go_wp2_with fail
      go_ret
      exact ⟨rfl, rfl⟩
set_option maxRecDepth 100000 in
set_option maxHeartbeats 4000000 in
theorem rtwice_c (A : Option Addr) (c : Nat) (l : List ByteArray) (b : Bool) (hb : b = true ↔ l.Nodup) (w : World) (h : StrsAt w w.heap.size A l) (hl : l.length ≤ 1000000) :
    Calls Tryz.prog 44 #[.slice A l.length c] w fun e w' => e = .returned (.bool (!b)) ∧ Grew w w' := by
  obtain ⟨n, en⟩ : ∃ n, n = l.length := ⟨_, rfl⟩
  have HA := hid h
  rw [← en]
  rw [← en] at hl
  have EN := hid en
  have HB := hid hb
  clear h en hb
  go_enter Tryz.func44, Tryz.ntmps44
  go_wp2_with fail
  go_loopw [3, 4] (fun s3 _ wr => ∃ i : Nat, s3 = .int .i64 ((i : Nat) : Int) ∧ i ≤ n ∧ Grew w wr ∧ Hid ((l.take i).Nodup)) (fun s3 _ _ => n - (intOf s3).toNat)
  case atStart => exact ⟨0, rfl, Nat.zero_le _, Grew.refl _, hid (by simp)⟩
  case round =>
    obtain ⟨i, rfl, hi, hg, HI⟩ := hrel
    have HG := hid hg
    clear hg
    by_cases hlt : i < n
    · have f1 : (i : Int) < n := by omega
      obtain ⟨a1, x, rfl, hx, q0, hb1⟩ := str_at HA.out HG.out (i := i) (by rw [← EN.out]; exact hlt)
      have HX := hid hx
      clear hx q0 hb1
      go_wp2_with fail
      go_loopw [4] (fun s4 wr' => ∃ k : Nat, s4 = .int .i64 ((k : Nat) : Int) ∧ k ≤ i ∧ Grew w wr' ∧ Hid (∀ y ∈ l.take k, y ≠ x)) (fun s4 _ => i - (intOf s4).toNat)
      case atStart => exact ⟨0, rfl, Nat.zero_le _, HG.out, hid (by simp)⟩
      case round =>
        clear HG
        obtain ⟨k, rfl, hk, hg, HK⟩ := hrel
        have HG := hid hg
        clear hg
        by_cases hlk : k < i
        · have f2 : (k : Int) < (i : Int) := by omega
          have f3 : (k : Int) < (n : Int) := by omega
          obtain ⟨a2, y, e2, hy, p0, hb2⟩ := str_at HA.out HG.out (i := k) (by rw [← EN.out]; omega)
          obtain rfl := Option.some.inj e2
          obtain ⟨a3, x', e3, hx', q0, hb3⟩ := str_at HA.out HG.out (i := i) (by rw [← EN.out]; exact hlt)
          obtain rfl := Option.some.inj e3
          rw [HX.out] at hx'
          obtain rfl := Option.some.inj hx'
          have hz := str_beq10 y x
          have HY := hid hy
          clear hy hx' e2 e3
          cases hd : decide (y = x) with
          | true =>
            rw [hd] at hz
            have HF := hid (show b = false by
              rw [← Bool.not_eq_true, HB.out]
              refine nodup_not HX.out ?_
              rw [← of_decide_eq_true hd]
              exact List.mem_of_getElem? (i := k) (by rw [List.getElem?_take, if_pos hlk]; exact HY.out))
            clear hd
            go_wp2_with fail
            refine wp_region_grew_from (Grew.refl _) (by kernel_rfl) (by kernel_rfl) ?_
            repeat (go_big_quiet_step (fail))
            refine wpQuiet_nil ?_
            rintro _ ⟨y1, rfl⟩
            have HY1 := hid (HG.out.trans y1.grew)
            go_wp2_with fail
            go_ret
            exact ⟨by rw [HF.out]; rfl, HY1.out⟩
          | false =>
            rw [hd] at hz
            have HK2 := hid (show ∀ u ∈ l.take (k + 1), u ≠ x by
              rw [List.take_add_one, HY.out]
              intro u hu
              rcases List.mem_append.1 hu with hu | hu
              · exact HK.out u hu
              · have : u = y := by simpa using hu
                rw [this]; exact of_decide_eq_false hd)
            clear hd
            go_wp2_with fail
            refine wp_region_grew_from (Grew.refl _) (by kernel_rfl) (by kernel_rfl) ?_
            repeat (go_big_quiet_step (fail))
            refine wpQuiet_nil ?_
            rintro _ ⟨y1, rfl⟩
            have HY1 := hid (HG.out.trans y1.grew)
            go_wp2_with fail
            go_round
            case rel => exact ⟨k + 1, by go_num, by omega, HY1.out, HK2⟩
            case measure => simp [intOf]; omega
        · have f2 : ¬ (k : Int) < (i : Int) := by omega
          obtain rfl : k = i := by omega
          have HI2 := hid (nodup_next HX.out (fun hm => HK.out x hm rfl) HI.out)
          go_wp2_with fail
          go_round
          case rel => exact ⟨k + 1, by go_num, by omega, HG.out, HI2⟩
          case measure => simp [intOf]; omega
    · have hin : i = n := by omega
      subst hin
      have HT := hid (show b = true from HB.out.2 (by
        have := HI.out
        rwa [List.take_of_length_le (by rw [← EN.out]; exact Nat.le_refl _)] at this))
      go_wp2_with fail
      go_ret
      exact ⟨by rw [HT.out]; rfl, HG.out⟩
end Go.Proofs.YtjladeiecokpfaaGreatDoor
end

section
/- Stage 10: the reference's May: the mathematics, and the counts in memory. -/
namespace Go.Proofs.YtjladeiecokpfaaGreatDoor
open Go.RowKit

/-- What the first classes list. -/
def doneM (l : List Cs.Cls) (c : Nat) : List Int := (l.take c).flatMap (·.ms)
theorem doneM_next {l : List Cs.Cls} {c : Nat} {x : Cs.Cls} (hx : l[c]? = some x) : doneM l (c + 1) = doneM l c ++ x.ms := by
  unfold doneM
  rw [List.take_add_one, hx, List.flatMap_append]
  simp
theorem doneM_all (l : List Cs.Cls) (n : Nat) (hn : n = l.length) : doneM l n = l.flatMap (·.ms) := by
  unfold doneM
  rw [List.take_of_length_le (by omega)]
/-- All of them are methods, none is there twice. -/
def DoneOk (D : List Int) (n : Nat) : Prop := (∀ x ∈ D, isIdx x n = true) ∧ D.Nodup
def cnts (n : Nat) (D : List Int) : List Value := (List.range n).map fun k => .int .i64 ((D.count ((k : Nat) : Int) : Nat) : Int)
theorem cnts_len (n : Nat) (D : List Int) : (cnts n D).length = n := by simp [cnts]
theorem cnts_nil (n : Nat) : cnts n [] = List.replicate n (.int .i64 0) := by
  rw [List.eq_replicate_iff]
  refine ⟨cnts_len _ _, fun b hb => ?_⟩
  obtain ⟨k, _, rfl⟩ := List.mem_map.1 hb
  simp
theorem cnts_at {n : Nat} {D : List Int} {k : Nat} (hk : k < n) : (cnts n D)[k]? = some (.int .i64 ((D.count ((k : Nat) : Int) : Nat) : Int)) := by
  unfold cnts
  rw [List.getElem?_map, List.getElem?_range hk]
  rfl
theorem cnts_put {n : Nat} {D : List Int} {k : Nat} (hk : k < n) (h0 : D.count ((k : Nat) : Int) = 0) : (cnts n D).toArray.setIfInBounds k (.int .i64 1) = (cnts n (D ++ [((k : Nat) : Int)])).toArray := by
  rw [List.setIfInBounds_toArray]
  congr 1
  apply List.ext_getElem?
  intro j
  rw [List.getElem?_set]
  by_cases hj : k = j
  · subst hj
    rw [if_pos rfl, if_pos (by rw [cnts_len]; exact hk), cnts_at hk, List.count_append, h0]
    simp
  · rw [if_neg hj]
    by_cases hjn : j < n
    · rw [cnts_at hjn, cnts_at hjn, List.count_append]
      have : List.count ((j : Nat) : Int) [((k : Nat) : Int)] = 0 := by
        rw [List.count_eq_zero]
        intro hm
        have := List.mem_singleton.1 hm
        omega
      rw [this, Nat.add_zero]
    · rw [List.getElem?_eq_none (by rw [cnts_len]; omega), List.getElem?_eq_none (by rw [cnts_len]; omega)]
theorem make_ints (n : Nat) (hn : n ≤ 1000000) (W : World) : (Instr.makeSlice 58 (.int .i64 ((n : Nat) : Int)) (.int .i64 ((n : Nat) : Int))).run Tryz.prog W = .ok (.slice (some ⟨W.heap.size, 0, none⟩) n n) (W.alloc (.cells (cnts n []).toArray 3)) := by
  obtain ⟨i, hi, hz0, hz1, hz2⟩ := info_parts int_info10
  have hr := run_make (P := Tryz.prog) W 58 3 i _ Tryz.underlying58 hi hz0 .i64 .i64 n n (by omega) (by omega) (by rw [hz2]; omega) (by omega)
  rw [hr]
  have e1 : madeCells (Value.int IntKind.i64 0).cells ((n : Int).toNat * i.size) = (cnts n []).toArray := by
    apply Array.toList_inj.1
    rw [hz1, Int.toNat_natCast, Nat.mul_one]
    show (madeCells #[Value.int IntKind.i64 0] n).toList = _
    rw [toList_madeCells_one, cnts_nil]
  rw [e1]
  simp
theorem may_twice {l : List CV} {ms : List MV} (hM : MayC l ms) {i j k : Nat} {x : Cs.Cls} (hv : (cls l)[i]? = some x) (hj : x.ms[j]? = some ((k : Nat) : Int)) (hk : k < ms.length) (hc : 0 < (doneM (cls l) i ++ x.ms.take j).count ((k : Nat) : Int)) : False := by
  have h1 := hM.once k (by rw [sels_len]; exact hk)
  obtain ⟨hi, hx⟩ := List.getElem?_eq_some_iff.1 hv
  obtain ⟨hj1, hj2⟩ := List.getElem?_eq_some_iff.1 hj
  have e1 : x.ms = x.ms.take j ++ (((k : Nat) : Int) :: x.ms.drop (j + 1)) := by
    rw [← hj2, ← List.drop_eq_getElem_cons hj1, List.take_append_drop]
  have e : (cls l).flatMap (·.ms) = doneM (cls l) i ++ (x.ms ++ ((cls l).drop (i + 1)).flatMap (·.ms)) := by
    conv => lhs; rw [← List.take_append_drop i (cls l), List.drop_eq_getElem_cons hi, hx]
    rw [List.flatMap_append, List.flatMap_cons]
    rfl
  have e2 : List.count ((k : Nat) : Int) x.ms = List.count ((k : Nat) : Int) (x.ms.take j) + (List.count ((k : Nat) : Int) (x.ms.drop (j + 1)) + 1) := by
    conv => lhs; rw [e1, List.count_append, List.count_cons_self]
  rw [e, List.count_append, List.count_append] at h1
  rw [List.count_append] at hc
  omega
/-- What the reference asks of class number c before it looks at variables and methods. -/
def HeadR (l : List Cs.Cls) (c : Nat) (x : Cs.Cls) : Prop :=
  (c < 11 → x.name = firstB.getD c ⟨#[]⟩ ∧ x.sup = (if c = 0 then -1 else 0) ∧ x.vars.length = 0) ∧
  (11 ≤ c → Cs.nameOk 65 90 x.name = true ∧ 0 ≤ x.sup ∧ x.sup < (c : Int) ∧ (x.sup = 0 ∨ 11 ≤ x.sup) ∧ (Cs.names l (c : Int)).length ≤ 16 ∧ (Cs.names l (c : Int)).Nodup)
theorem one_head {l : List Cs.Cls} {ss : List ByteArray} {may : Nat → Int → Int → Prop} {c : Nat} {x : Cs.Cls} (h : Cs.OneOk l ss may c x) : HeadR l c x :=
  ⟨fun hc => by
    obtain ⟨h1, h2, h3⟩ := h.first hc
    rw [firsts_at c hc] at h1
    exact ⟨(natsOf_inj (Option.some.inj h1)).symm, h2, by rw [h3]; rfl⟩, h.own⟩
theorem one_of {l : List Cs.Cls} {ms : List MV} {c : Nat} {x : Cs.Cls} (h1 : HeadR l c x) (hv : ∀ s ∈ x.vars, Cs.varOk s = true) (hm : ∀ m ∈ x.ms, isIdx m ms.length = true ∧ mayM ms m.toNat (((Cs.names l (c : Int)).length : Nat) : Int) ((l.length : Nat) : Int)) (hs : (x.ms.map (selOf (sels ms))).Nodup) : Cs.OneOk l (sels ms) (mayM ms) c x where
  first hc := by
    obtain ⟨a1, a2, a3⟩ := h1.1 hc
    exact ⟨by rw [firsts_at c hc, a1], a2, List.length_eq_zero_iff.1 a3⟩
  own := h1.2
  vars := hv
  ms m hmm := by
    obtain ⟨a1, a2⟩ := isIdx_iff.1 (hm m hmm).1
    exact ⟨a1, by rw [sels_len]; exact a2, (hm m hmm).2⟩
  sels := (sel_nodup (fun m hmm => (hm m hmm).1)).1 hs
theorem one_sels {l : List Cs.Cls} {ms : List MV} {c : Nat} {x : Cs.Cls} (h : Cs.OneOk l (sels ms) (mayM ms) c x) : (x.ms.map (selOf (sels ms))).Nodup :=
  (sel_nodup (fun m hm => isIdx_iff.2 ⟨(h.ms m hm).1, by have := (h.ms m hm).2.1; rwa [sels_len] at this⟩)).2 h.sels
theorem may_all {l : List CV} {ms : List MV} (hlen : 11 ≤ l.length ∧ l.length ≤ 64) (hm : ms.length ≤ 256) (hone : ∀ c x, c < l.length → (cls l)[c]? = some x → Cs.OneOk (cls l) (sels ms) (mayM ms) c x) (hn : ((cls l).map (·.name)).Nodup) (hc : ∀ k, k < ms.length → (doneM (cls l) l.length).count ((k : Nat) : Int) = 1) : MayC l ms where
  len := by rw [cls_len]; exact hlen
  few := by rw [sels_len]; exact hm
  one c x hx := hone c x (by have := (List.getElem?_eq_some_iff.1 hx).1; rwa [cls_len] at this) hx
  names := hn
  once k hk := by
    rw [← doneM_all (cls l) l.length (cls_len l).symm]
    exact hc k (by rwa [sels_len] at hk)
theorem may_count {l : List CV} {ms : List MV} (hM : MayC l ms) {k : Nat} (hk : k < ms.length) : (doneM (cls l) l.length).count ((k : Nat) : Int) = 1 := by
  rw [doneM_all (cls l) l.length (cls_len l).symm]
  exact hM.once k (by rw [sels_len]; exact hk)
end Go.Proofs.YtjladeiecokpfaaGreatDoor
end

/- The walks of package pack, reading: Int, count, Text, Done. -/
import Derived.Test.YtglekjhbpdoofaaDoorPk1
import Derived.Test.YtglekjhbpdoofaaDoorList04
namespace Go.Proofs.YtglekjhbpdoofaaDoor
open Go.RowKit

theorem BytesAt.wide {w : World} {B B' : Nat} {A : Option Addr} {xs : List Nat} (h : BytesAt w B A xs) (hB : B ≤ B') : BytesAt w B' A xs :=
  ⟨h.1, fun hn => by
    obtain ⟨ad, e, hb, hc⟩ := h.2 hn
    exact ⟨ad, e, Nat.lt_of_lt_of_le hb hB, hc⟩⟩
theorem rest_drop (st : Pk.St) (k : Nat) : Pk.rest (st.map (·.drop k)) = (Pk.rest st).drop k := by
  cases st <;> simp [Pk.rest]
/-- The Reader's slice goes on behind the first 'k' bytes. -/
theorem RdAt.step {w w1 : World} {lo g : Nat} {A : Option Addr} {c : Nat} {st : Pk.St} {xs : List Nat} {fl : Bool} (hst : xs = Pk.rest st) (hfl : fl = st.isNone) (hB : Blk w g 64 #[.slice A xs.length c, .bool fl]) (hA : BytesAt w g A xs) (hlo : ∀ ad, A = some ad → lo ≤ ad.block ∧ ad.block < g) (hc : xs.length ≤ c) (hm : c ≤ 9223372036854775807)
    (hg : Grew w w1) (k : Nat) (A' : Option Addr) (n' c' : Nat) (hn : n' = xs.length - k) (hA' : (k = c ∧ A' = A ∧ c' = 0) ∨ (A' = A.map (·.add k) ∧ c' = c - k)) (hk : k ≤ xs.length) :
    RdAt (w1.setCell ⟨g, 0, none⟩ (.slice A' n' c')) lo g (st.map (·.drop k)) ∧ Kept (· = g) w (w1.setCell ⟨g, 0, none⟩ (.slice A' n' c')) := by
  subst hst hfl
  have hK : Kept (· = g) w (w1.setCell ⟨g, 0, none⟩ (.slice A' n' c')) := Kept.setCell (F := (· = g)) (.of_grew hg) (p := ⟨g, 0, none⟩) (fun _ => rfl) _
  have hlt := hB.lt
  refine ⟨⟨A', c', ?_, ?_, ?_, ?_, ?_⟩, hK⟩
  · have := (hB.grew hg).put 0 (.slice A' n' c')
    rw [rest_drop, List.length_drop, ← hn, Option.isNone_map]
    simpa using this
  · rw [rest_drop]
    refine ⟨fun x hx => hA.1 x (List.mem_of_mem_drop hx), ?_⟩
    have h1 : NumsAt .u8 (w1.setCell ⟨g, 0, none⟩ (.slice A' n' c')) g A (Pk.rest st) := NumsAt.kept (NumsAt.of_bytes hA) hK (Nat.le_of_lt hlt) (fun ad e => Nat.ne_of_lt (hlo ad e).2)
    intro hn0
    rcases hA' with ⟨h2, _⟩ | ⟨rfl, _⟩
    · rw [List.length_drop] at hn0; omega
    · obtain ⟨ad, rfl, _⟩ := h1 (by rw [List.length_drop] at hn0; omega)
      exact (h1.drop k) hn0
  · intro ad had
    rcases hA' with ⟨_, rfl, _⟩ | ⟨rfl, _⟩
    · exact hlo ad had
    · obtain ⟨ad0, rfl, rfl⟩ := Option.map_eq_some_iff.1 had
      rw [block_add]
      exact hlo ad0 rfl
  · rw [rest_drop, List.length_drop]
    rcases hA' with ⟨_, _, rfl⟩ | ⟨_, rfl⟩ <;> omega
  · rcases hA' with ⟨_, _, rfl⟩ | ⟨_, rfl⟩ <;> omega
/-- A Reader that failed. -/
theorem RdAt.failed {w w1 w2 : World} {lo g : Nat} (hg : Grew w w1) (hB : Blk w2 g 64 #[.slice none 0 0, .bool true]) (hK : Kept (· = g) w1 w2) : RdAt w2 lo g none ∧ Kept (· = g) w w2 :=
  ⟨⟨none, 0, hB, BytesAt.nil _ _ _, (fun ad h => by cases h), by simp [Pk.rest], by decide⟩, (Kept.of_grew hg).trans hK⟩

def RIntPost (w : World) (lo g : Nat) (r : Int × Pk.St) (e : Ending) (w' : World) : Prop :=
  e = .returned (.int .i64 r.1) ∧ RdAt w' lo g r.2 ∧ Kept (· = g) w w'
theorem errVal_two {E : Nat} (h : E ≠ 0) : ∃ v, errVal E = .iface 66 v := ⟨_, if_neg h⟩

set_option maxRecDepth 100000 in
set_option maxHeartbeats 2000000 in
theorem rint_c (lo g : Nat) (st : Pk.St) (a b : Int) (w : World) (h : RdAt w lo g st) :
    Calls Tryd.prog 9 #[.pointer (some ⟨g, 0, none⟩), .int .i64 a, .int .i64 b] w (RIntPost w lo g (Pk.int st a b)) := by
  have hlt := h.lt
  obtain ⟨A, c, hB, hA, hlo, hc, hm⟩ := h
  have HP : Hid (Pk.int st a b = match Pk.num (Pk.rest st) a b with | some (n, r) => (n, some r) | none => (0, none)) := hid (by
    cases st with
    | none => rfl
    | some r => rfl)
  have HF : Hid (st.isNone = true → Vi.getE (Pk.rest st) ≠ 0) := hid (fun h => by
    cases st with
    | none => exact (by decide : Vi.getE [] ≠ 0)
    | some r => cases h)
  obtain ⟨fl, hfl⟩ : ∃ fl, fl = st.isNone := ⟨_, rfl⟩
  rw [← hfl] at hB HF
  generalize Pk.int st a b = res at *
  generalize Pk.rest st = xs at *
  clear hfl st
  have HG := hid (get_c A c xs w (hA.wide (Nat.le_of_lt hlt)) hc hm)
  have c0 := hB.cell 0
  simp only [List.getElem?_toArray, List.getElem?_cons_zero] at c0
  have f0 := hB.frozen 0
  have HB := hid hB
  have HA := hid hA
  have HLO := hid hlo
  have HM := hid (And.intro hc hm)
  have HL := hid (Pk.getL_prefix xs).length_le
  have HL0 : Hid (Vi.getE xs = 0 → 1 ≤ (Vi.getL xs).length) := hid (fun h => by
    unfold Vi.getE at h
    split at h
    · cases h
    · rename_i hne
      cases hx : Vi.getL xs with
      | nil => exact absurd hx hne
      | cons _ _ => simp)
  have HE : Hid (Vi.getE xs = 0 ∨ Vi.getE xs = 2) := hid (by unfold Vi.getE; split <;> simp)
  have HN : Hid (Pk.num xs a b = if Vi.getE xs = 0 ∧ a ≤ Vi.getN xs ∧ Vi.getN xs ≤ b then some (Vi.getN xs, xs.drop (Vi.getL xs).length) else none) := hid rfl
  unfold GetPost at HG
  obtain ⟨E, hE⟩ : ∃ E, E = Vi.getE xs := ⟨_, rfl⟩
  obtain ⟨n, hn⟩ : ∃ n, n = Vi.getN xs := ⟨_, rfl⟩
  obtain ⟨k, hk⟩ : ∃ k, k = (Vi.getL xs).length := ⟨_, rfl⟩
  rw [← hE, ← hn, ← hk] at HG HN
  rw [← hE] at HF HL0 HE
  rw [← hk] at HL HL0
  clear hB hA hlo hc hm hE hn hk
  have bad : ∀ (w1 : World), Grew w w1 → Calls Tryd.prog 27 #[.pointer (some ⟨g, 0, none⟩)] w1 (fun e w2 => e = .returned (.tuple #[]) ∧ RdAt w2 lo g none ∧ Kept (· = g) w w2) := fun w1 hg =>
    (fail_c g _ _ w1 (HB.out.grew hg)).mono fun e w2 ⟨h1, h2, h3⟩ => ⟨h1, RdAt.failed hg h2 h3⟩
  have HBad := hid bad
  clear bad
  by_cases hok : E = 0 ∧ a ≤ n ∧ n ≤ b
  · obtain ⟨h1, h2, h3⟩ := hok
    have t1 : ¬ n < a := by omega
    have t2 : ¬ b < n := by omega
    have HR := hid (show res = (n, some (xs.drop k)) by rw [HP.out, HN.out, if_pos ⟨h1, h2, h3⟩])
    have hk1 := HL0.out h1
    have hk2 := HL.out
    have HFL := hid (show fl = false by
      cases fl
      · rfl
      · exact absurd h1 (HF.out rfl))
    obtain rfl := HFL.out
    subst h1
    rw [show errVal 0 = .nilIface from if_pos rfl] at HG
    clear HP HN HF HL HL0 HE HBad HFL h2 h3
    obtain ⟨ad, rfl, hb, _⟩ := HA.out.2 (by omega)
    have hq1 : 1 ≤ (k : Int) := by omega
    have hq2 : (k : Int) ≤ xs.length := by omega
    have hq3 : (k : Int) ≤ c := by have := HM.out; omega
    by_cases hcap : k = c
    all_goals
      go_enter Tryd.func9, Tryd.ntmps9
      go_wp2_with fail
      refine HG.out.mono ?_
      rintro e w1 ⟨rfl, y, rfl⟩
      clear HG
      go_wp2_with fail
      go_ret
      have hs := RdAt.step (st := some xs) (xs := xs) rfl rfl HB.out HA.out HLO.out HM.out.1 HM.out.2 y.grew k
      rw [HR.out]
      first
        | exact ⟨rfl, hs _ _ _ rfl (.inr ⟨rfl, rfl⟩) hk2⟩
        | exact ⟨rfl, hs _ _ _ (by rw [hcap]) (.inl ⟨hcap, rfl, by omega⟩) hk2⟩
  · have HR := hid (show res = (0, none) by rw [HP.out, HN.out, if_neg hok])
    clear HP HN HF HL HL0 HB HA HLO HM
    rcases HE.out with rfl | rfl
    · rw [show errVal 0 = .nilIface from if_pos rfl] at HG
      rcases (by omega : n < a ∨ (a ≤ n ∧ b < n)) with h1 | ⟨h1, h2⟩
      all_goals
        try (have t1 : ¬ n < a := by omega)
        clear hok HE
        go_enter Tryd.func9, Tryd.ntmps9
        go_wp2_with fail
        refine HG.out.mono ?_
        rintro e w1 ⟨rfl, y, rfl⟩
        clear HG
        go_wp2_with fail
        refine (HBad.out _ y.grew).mono ?_
        rintro e w2 ⟨rfl, hR, hK⟩
        have HRK := hid (And.intro hR hK)
        clear hR hK HBad
        go_wp2_with fail
        go_ret
        rw [HR.out]
        exact ⟨rfl, HRK.out⟩
    · rw [show errVal 2 = .iface 66 (.int .i64 2) from rfl] at HG
      clear hok HE
      go_enter Tryd.func9, Tryd.ntmps9
      go_wp2_with fail
      refine HG.out.mono ?_
      rintro e w1 ⟨rfl, y, rfl⟩
      clear HG
      go_wp2_with fail
      refine (HBad.out _ y.grew).mono ?_
      rintro e w2 ⟨rfl, hR, hK⟩
      have HRK := hid (And.intro hR hK)
      clear hR hK HBad
      go_wp2_with fail
      go_ret
      rw [HR.out]
      exact ⟨rfl, HRK.out⟩

def RCountPost (w : World) (lo g : Nat) (r : Int × Pk.St) (e : Ending) (w' : World) : Prop :=
  e = .returned (.int .i64 r.1) ∧ RdAt w' lo g r.2 ∧ Kept (· = g) w w'
theorem count_eq (st : Pk.St) (m : Int) : Pk.count st m = if ((Pk.rest (Pk.int st 0 m).2).length : Int) < (Pk.int st 0 m).1 then (0, none) else Pk.int st 0 m := by
  unfold Pk.count
  generalize hi : Pk.int st 0 m = r
  obtain ⟨n, s⟩ := r
  cases s with
  | some r => rfl
  | none =>
    have : n = 0 := by
      unfold Pk.int at hi
      split at hi
      · simp at hi
      · simp at hi; exact hi.symm
    subst this
    simp [Pk.rest]
set_option maxRecDepth 100000 in
set_option maxHeartbeats 2000000 in
theorem count_c (lo g : Nat) (st : Pk.St) (m : Int) (w : World) (h : RdAt w lo g st) :
    Calls Tryd.prog 28 #[.pointer (some ⟨g, 0, none⟩), .int .i64 m] w (RCountPost w lo g (Pk.count st m)) := by
  have HI := hid (rint_c lo g st 0 m w h)
  have HC := hid (count_eq st m)
  obtain ⟨res, hr⟩ : ∃ res, res = Pk.count st m := ⟨_, rfl⟩
  rw [← hr] at HC ⊢
  generalize Pk.int st 0 m = r at *
  obtain ⟨n, s⟩ := r
  clear h hr
  by_cases hlt : ((Pk.rest s).length : Int) < n
  · have HR := hid (show res = (0, none) by rw [HC.out, if_pos hlt])
    clear HC
    go_enter Tryd.func28, Tryd.ntmps28
    go_wp2_with fail
    refine HI.out.mono ?_
    rintro e w1 ⟨rfl, hR, hK⟩
    obtain ⟨A, c, hB, _⟩ := hR
    have c0 := hB.cell 0
    simp only [List.getElem?_toArray, List.getElem?_cons_zero] at c0
    have HF := hid (fail_c g _ _ w1 hB)
    have HK := hid hK
    clear hB hK HI
    go_wp2_with fail
    refine HF.out.mono ?_
    rintro e w2 ⟨rfl, hB, hK⟩
    have HB := hid hB
    have HK2 := hid hK
    clear hB hK HF
    go_wp2_with fail
    go_ret
    rw [HR.out]
    have := RdAt.failed (lo := lo) (Grew.refl w1) HB.out HK2.out
    exact ⟨rfl, this.1, HK.out.trans this.2⟩
  · have HR := hid (show res = (n, s) by rw [HC.out, if_neg hlt])
    clear HC
    go_enter Tryd.func28, Tryd.ntmps28
    go_wp2_with fail
    refine HI.out.mono ?_
    rintro e w1 ⟨rfl, hR, hK⟩
    have HRK := hid (And.intro hR hK)
    obtain ⟨A, c, hB, _⟩ := hR
    have c0 := hB.cell 0
    simp only [List.getElem?_toArray, List.getElem?_cons_zero] at c0
    clear hB hK HI
    go_wp2_with fail
    go_ret
    rw [HR.out]
    exact ⟨rfl, HRK.out⟩
end Go.Proofs.YtglekjhbpdoofaaDoor

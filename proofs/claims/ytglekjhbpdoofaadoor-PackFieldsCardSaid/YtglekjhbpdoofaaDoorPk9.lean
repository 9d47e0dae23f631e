/- The walks of law 06: great. -/
import Derived.Test.YtglekjhbpdoofaaDoorPk8
namespace Go.Proofs.YtglekjhbpdoofaaDoor
open Go.RowKit

/-- Fields that lie one behind the other from address 'A' on. -/
def FdsAt (w : World) (B : Nat) (A : Option Addr) (vs : List FdV) : Prop :=
  (∀ v ∈ vs, FdOk w B v) ∧ (0 < vs.length → ∃ ad, A = some ad ∧ ad.block < B ∧ ∀ i v, vs[i]? = some v → ∀ j u, v.cells[j]? = some u → w.cell? (ad.add (i * 7 + j)) = some u)
theorem field_at {a : Addr} {j : Nat} (hj : j ≠ 0) : a.add j = ⟨a.block, a.off + j, none⟩ := by simp [Addr.add, hj]
theorem cell_at {w : World} {ad : Addr} {i : Nat} {v : FdV} (h : ∀ j u, v.cells[j]? = some u → w.cell? (ad.add (i * 7 + j)) = some u) (j : Nat) (u : Value) (hu : v.cells[j]? = some u) (hj : j ≠ 0) : w.cell? ⟨ad.block, (ad.add (i * 7)).off + j, none⟩ = some u := by
  have := h j u hu
  rwa [← add_add, field_at hj, block_add] at this
def bigF (v : FdV) : Bool := decide (60 < v.f.l.length) || decide (300 < v.f.s.size)
def big6 (vs : List FdV) : Bool := (vs.take 20).any bigF || decide (20 < vs.length)

set_option maxRecDepth 100000 in
set_option maxHeartbeats 1000000 in
theorem great_c (A : Option Addr) (c : Nat) (vs : List FdV) (w : World) (h : FdsAt w w.heap.size A vs) (hl : vs.length ≤ 9223372036854775807) :
    Calls Tryd.prog 14 #[.slice A vs.length c] w fun e w' => e = .returned (.bool (big6 vs)) ∧ w' = w := by
  have HA := hid h
  have HL := hid hl
  obtain ⟨n, en⟩ : ∃ n, n = vs.length := ⟨_, rfl⟩
  rw [← en]
  have EN := hid en
  clear h hl en
  go_enter Tryd.func14, Tryd.ntmps14
  go_wp2_with fail
  go_loop [3] (fun s3 => ∃ (i : Nat), s3 = .int .i64 ((i : Nat) : Int) ∧ i ≤ n ∧ i ≤ 20 ∧ Hid ((vs.take i).any bigF = false)) (fun s3 => 20 - (intOf s3).toNat)
  case atStart => exact ⟨0, rfl, Nat.zero_le _, Nat.zero_le _, hid (by simp)⟩
  case round =>
    obtain ⟨i, rfl, hi, hi2, H⟩ := hrel
    by_cases hlt : i < n ∧ i < 20
    · obtain ⟨h1, h2⟩ := hlt
      have f1 : (i : Int) < n := by omega
      have f2 : (i : Int) < 20 := by omega
      obtain ⟨ad, rfl, hb, hc⟩ := HA.out.2 (by rw [← EN.out]; omega)
      obtain ⟨v, hv⟩ : ∃ v, vs[i]? = some v := ⟨_, List.getElem?_eq_getElem (show i < vs.length by rw [← EN.out]; exact h1)⟩
      have HT := hid (show (vs.take (i + 1)).any bigF = bigF v by
        have := H.out
        rw [List.take_add_one, List.any_append, this, hv]
        simp)
      have HBig := hid (show bigF v = true → big6 vs = true from fun h => by
        unfold big6
        rw [Bool.or_eq_true]
        left
        rw [List.any_eq_true]
        refine ⟨v, ?_, h⟩
        have : (vs.take 20)[i]? = some v := by rw [List.getElem?_take_of_lt h2]; exact hv
        exact List.mem_of_getElem? this)
      have h3 := hc i v hv
      obtain ⟨⟨kind, n0, l, s, many, lo, hi0⟩, A1, c1⟩ := v
      have q2 : w.cell? ⟨ad.block, (ad.add (i * 7)).off + 2, none⟩ = some (.slice A1 l.length c1) := cell_at h3 2 _ rfl (by decide)
      have q3 : w.cell? ⟨ad.block, (ad.add (i * 7)).off + 3, none⟩ = some (.string s) := cell_at h3 3 _ rfl (by decide)
      have HB2 : Hid (bigF ⟨⟨kind, n0, l, s, many, lo, hi0⟩, A1, c1⟩ = (decide (60 < l.length) || decide (300 < s.size))) := hid rfl
      clear h3 hc hb hv
      rcases (by omega : 60 < l.length ∨ (¬ 60 < l.length ∧ 300 < s.size) ∨ (¬ 60 < l.length ∧ ¬ 300 < s.size)) with g1 | ⟨g1, g2⟩ | ⟨g1, g2⟩
      · have t1 : (60 : Int) < l.length := by omega
        have HE := hid (HBig.out (by rw [HB2.out]; simp [g1]))
        clear HB2 HBig HT
        go_wp2_with fail
        go_ret
        exact ⟨by rw [HE.out]; rfl, rfl⟩
      · have t1 : ¬ (60 : Int) < l.length := by omega
        have t2 : (300 : Int) < s.size := by omega
        have HE := hid (HBig.out (by rw [HB2.out]; simp [g2]))
        clear HB2 HBig HT
        go_wp2_with fail
        go_ret
        exact ⟨by rw [HE.out]; rfl, rfl⟩
      · have t1 : ¬ (60 : Int) < l.length := by omega
        have t2 : ¬ (300 : Int) < s.size := by omega
        have HE := hid (show (vs.take (i + 1)).any bigF = false by rw [HT.out, HB2.out]; simp [g1, g2])
        clear HB2 HBig HT
        go_wp2_with fail
        go_round
        case rel => exact ⟨i + 1, by go_num, by omega, by omega, hid HE.out⟩
        case measure => simp [intOf]; omega
    · have HE := hid (show big6 vs = decide (20 < n) by
        unfold big6
        have h1 := H.out
        rw [← EN.out]
        rcases (by omega : i = 20 ∨ i = n) with h2 | h2
        · rw [h2] at h1
          rw [h1]; rfl
        · have : (vs.take 20).any bigF = false := by
            rw [List.take_of_length_le (by rw [← EN.out]; omega)]
            rwa [List.take_of_length_le (by rw [← EN.out]; omega)] at h1
          rw [this]; rfl)
      have hn := hid (show n ≤ 9223372036854775807 by rw [EN.out]; exact HL.out)
      clear H HA
      by_cases f1 : (i : Int) < n
      all_goals
        first
          | (have f2 : ¬ (i : Int) < 20 := by omega)
          | (have f2 : True := trivial)
        by_cases f3 : 20 < n
        all_goals
          first
            | (exfalso; omega)
            | (first
                | (have f4 : (20 : Int) < n := by omega)
                | (have f4 : ¬ (20 : Int) < n := by omega)
               have HE2 := hid (show decide (20 < n) = _ from by first | exact decide_eq_true f3 | exact decide_eq_false f3)
               go_wp2_with fail
               go_ret
               exact ⟨by rw [HE.out, HE2.out]; rfl, rfl⟩)
end Go.Proofs.YtglekjhbpdoofaaDoor

/- The developers' large numbers, part 11: texts looked at, rune by rune; groups of digits. -/
import Derived.Test.YtmcfciifjgdgoaaGreatDoorPl10
import Derived.Test.YtmcfciifjgdgoaaGreatDoorLgU
import Derived.Test.YtmcfciifjgdgoaaGreatDoorShelf
namespace Go.Proofs.YtmcfciifjgdgoaaGreatDoor
open Go.RowKit

def isOther (x : Nat) : Bool := !(Lg.isDigit x)
theorem decode_big (s : ByteArray) (pos : Nat) (h : pos < s.size) (ha : ¬ (s[pos]'h).toNat < 128) : 128 ≤ (Utf8.decode s pos).1 := by
  have e : s.get! (pos + 0) = s[pos]'h := by
    show s.get! pos = _
    simp [ByteArray.get!, getElem!_pos, h]
    rfl
  unfold Utf8.decode
  simp only [e]
  rw [if_neg ha]
  split
  · split
    · rename_i h2; exact h2
    · decide
  · split
    · split
      · rename_i h2; simp only [Bool.and_eq_true, decide_eq_true_eq] at h2; omega
      · decide
    · split
      · split
        · rename_i h2; simp only [Bool.and_eq_true, decide_eq_true_eq] at h2; omega
        · decide
      · decide
theorem all_from {s : ByteArray} : ∀ (f pos : Nat), s.size ≤ pos + f → (0 ≤ Lib.idxFuncFrom isOther true s f pos ↔ ∃ j, pos ≤ j ∧ j < s.size ∧ Lg.isDigit ((Lg.bytes s).getD j 0) = false)
  | 0, pos, h => by
    constructor
    · intro h2; simp [Lib.idxFuncFrom] at h2
    · rintro ⟨j, h1, h2, _⟩; omega
  | f + 1, pos, h => by
    unfold Lib.idxFuncFrom
    by_cases hp : pos < s.size
    · rw [if_pos hp]
      have hb := Lg.bytes_at s pos hp
      by_cases ha : (s[pos]'hp).toNat < 128
      · rw [decode_ascii s pos hp ha, hb]
        cases hd : Lg.isDigit ((Lg.bytes s).getD pos 0)
        · rw [if_pos (by rw [isOther, hd]; rfl)]
          exact ⟨fun _ => ⟨pos, Nat.le_refl _, hp, hd⟩, fun _ => Int.natCast_nonneg _⟩
        · rw [if_neg (by rw [isOther, hd]; decide), all_from f (pos + 1) (by omega)]
          constructor
          · rintro ⟨j, h1, h2, h3⟩; exact ⟨j, by omega, h2, h3⟩
          · rintro ⟨j, h1, h2, h3⟩
            refine ⟨j, ?_, h2, h3⟩
            rcases Nat.eq_or_lt_of_le h1 with h4 | h4
            · subst h4; rw [hd] at h3; cases h3
            · exact h4
      · have h1 := decode_big s pos hp ha
        rw [if_pos (by simp [isOther, Lg.isDigit]; omega)]
        refine ⟨fun _ => ⟨pos, Nat.le_refl _, hp, ?_⟩, fun _ => Int.natCast_nonneg _⟩
        rw [hb] at ha
        simp [Lg.isDigit]
        simp at ha
        omega
    · rw [if_neg hp]
      constructor
      · intro h2; omega
      · rintro ⟨j, h1, h2, _⟩; omega
theorem idx_all (s : ByteArray) : decide (0 ≤ Lib.idxFunc isOther true s) = !((Lg.bytes s).all Lg.isDigit) := by
  rw [Lib.idxFunc, Bool.eq_iff_iff, decide_eq_true_iff, all_from s.size 0 (by omega), Bool.not_eq_true', List.all_eq_false]
  constructor
  · rintro ⟨j, _, h2, h3⟩
    refine ⟨_, List.getElem_mem (l := Lg.bytes s) (n := j) (by rw [Lg.bytes_len]; exact h2), ?_⟩
    rw [List.getD_eq_getElem?_getD, List.getElem?_eq_getElem (by rw [Lg.bytes_len]; exact h2)] at h3
    simpa using h3
  · rintro ⟨x, hx, h3⟩
    obtain ⟨j, hj, rfl⟩ := List.mem_iff_getElem.1 hx
    refine ⟨j, Nat.zero_le _, by rwa [Lg.bytes_len] at hj, ?_⟩
    rw [List.getD_eq_getElem?_getD, List.getElem?_eq_getElem hj]
    simpa using h3

theorem other_c (x : Nat) (W : World) : Calls Tryz.prog 65 #[.int .i32 ((x : Nat) : Int)] W fun e w' => e = .returned (.bool (isOther x)) ∧ w' = W := by
  rcases Nat.lt_or_ge x 48 with h | h
  · have E := hid (show isOther x = true by simp [isOther, Lg.isDigit]; omega)
    have t1 : ((x : Nat) : Int) < 48 := by omega
    go_enter Tryz.func65, Tryz.ntmps65
    go_wp2_with fail
    go_ret
    exact ⟨by rw [E.out]; rfl, rfl⟩
  · have t1 : ¬ ((x : Nat) : Int) < 48 := by omega
    rcases Nat.lt_or_ge 57 x with h2 | h2
    · have E := hid (show isOther x = true by simp [isOther, Lg.isDigit]; omega)
      have t2 : (57 : Int) < ((x : Nat) : Int) := by omega
      go_enter Tryz.func65, Tryz.ntmps65
      go_wp2_with fail
      go_ret
      exact ⟨by rw [E.out]; rfl, rfl⟩
    · have E := hid (show isOther x = false by simp [isOther, Lg.isDigit]; omega)
      have t2 : ¬ (57 : Int) < ((x : Nat) : Int) := by omega
      go_enter Tryz.func65, Tryz.ntmps65
      go_wp2_with fail
      go_ret
      exact ⟨by rw [E.out]; rfl, rfl⟩
theorem contains_c (s : ByteArray) (w : World) : Calls Tryz.prog 66 #[.string s, .func (.func 65) #[] #[]] w fun e w' => e = .returned (.bool (!((Lg.bytes s).all Lg.isDigit))) ∧ Grew w w' := by
  have h := Tryz.strings_ContainsFunc 65 #[] (enters_of Tryz.func65 (by kernel_rfl) rfl) isOther s w (fun W x _ => (other_c x W).mono fun e w' ⟨h1, h2⟩ => ⟨h1, 0, by rw [h2]; rfl⟩)
  rw [idx_all] at h
  exact h.mono fun e w' ⟨h1, h2⟩ => ⟨h1, Grew.mk h2⟩
def digs (s : ByteArray) : Bool := decide (1 ≤ s.size) && decide (s.size ≤ 700) && (Lg.bytes s).all Lg.isDigit

set_option maxRecDepth 100000 in
set_option maxHeartbeats 1000000 in
theorem pareDigits_c (s : ByteArray) (w : World) (hs : s.size ≤ 1000000000000) : Calls Tryz.prog 44 #[.string s] w fun e w' => e = .returned (.bool (digs s)) ∧ Grew w w' := by
  have CC := hid (contains_c s w)
  obtain ⟨r, hr⟩ : ∃ r, r = digs s := ⟨_, rfl⟩
  rw [← hr]
  unfold digs at hr
  rcases Nat.lt_or_ge s.size 1 with h | h
  · have E := hid (show r = false by rw [hr, decide_eq_false (by omega)]; rfl)
    have t1 : ¬ (1 : Int) ≤ (s.size : Int) := by omega
    clear hr CC
    go_enter Tryz.func44, Tryz.ntmps44
    go_wp2_with fail
    go_ret
    exact ⟨by rw [E.out]; rfl, Grew.refl _⟩
  · have t1 : (1 : Int) ≤ (s.size : Int) := by omega
    rcases Nat.lt_or_ge 700 s.size with h2 | h2
    · have E := hid (show r = false by rw [hr, decide_eq_true h, decide_eq_false (show ¬ s.size ≤ 700 by omega)]; rfl)
      have t2 : ¬ (s.size : Int) ≤ 700 := by omega
      clear hr CC
      go_enter Tryz.func44, Tryz.ntmps44
      go_wp2_with fail
      go_ret
      exact ⟨by rw [E.out]; rfl, Grew.refl _⟩
    · have t2 : (s.size : Int) ≤ 700 := by omega
      have E := hid (show r = (Lg.bytes s).all Lg.isDigit by rw [hr, decide_eq_true h, decide_eq_true h2]; rfl)
      clear hr
      generalize (Lg.bytes s).all Lg.isDigit = q at *
      cases q
      all_goals
        go_enter Tryz.func44, Tryz.ntmps44
        go_wp2_with fail
        refine CC.out.mono ?_
        rintro e w1 ⟨rfl, hg⟩
        go_wp2_with fail
        go_ret
        exact ⟨by rw [E.out]; rfl, hg⟩

/-- The number of digits. -/
def dvs (s : ByteArray) : Nat := Lg.dv ((Lg.bytes s).map (· - 48))
theorem dv_take {l : List Nat} {k : Nat} (h : k < l.length) : Lg.dv ((l.take (k + 1)).map (· - 48)) = 10 * Lg.dv ((l.take k).map (· - 48)) + (l.getD k 0 - 48) := by
  rw [Dg.take_succ h, List.map_append, List.map_cons, List.map_nil, Lg.dv_snoc]

set_option maxRecDepth 100000 in
set_option maxHeartbeats 1000000 in
theorem pgroup_c (t : ByteArray) (w : World) (ht : t.size ≤ 9) (hd : ∀ j, j < t.size → Lg.isDigit ((Lg.bytes t).getD j 0) = true) : Calls Tryz.prog 67 #[.string t] w fun e w' => e = .returned (.int .u32 ((dvs t : Nat) : Int)) ∧ Grew w w' := by
  have HD := hid hd
  clear hd
  go_enter Tryz.func67, Tryz.ntmps67
  go_wp2_with fail
  go_loopg [3] t.size (fun gf n wx => ∃ (pos v : Nat), wx = w.iter t pos ∧ pos + gf = t.size ∧ n = .int .u32 ((v : Nat) : Int) ∧ v < 1000000000 ∧ Hid (v = Lg.dv (((Lg.bytes t).take pos).map (· - 48)) ∧ v < 10 ^ pos))
  case atStart => exact ⟨0, 0, rfl, by omega, rfl, by decide, hid ⟨rfl, by decide⟩⟩
  case round =>
    obtain ⟨pos, v, rfl, hgf, rfl, hv, HV⟩ := hrel
    by_cases hp : pos < t.size
    · obtain ⟨g', rfl⟩ : ∃ g', gk = g' + 1 := ⟨gk - 1, by omega⟩
      have hd := HD.out pos hp
      have hb := Lg.bytes_at t pos hp
      have HS := hid (dv_take (l := Lg.bytes t) (k := pos) (by rw [Lg.bytes_len]; exact hp))
      have hd2 : 48 ≤ (Lg.bytes t).getD pos 0 ∧ (Lg.bytes t).getD pos 0 ≤ 57 := by simpa [Lg.isDigit] using hd
      have hnx := fun ty => run_next_ascii (P := Tryz.prog) w t pos ty hp (by rw [hb]; omega)
      rw [hb] at hnx
      clear hd hb
      obtain ⟨x, hx⟩ : ∃ x, x = (Lg.bytes t).getD pos 0 := ⟨_, rfl⟩
      rw [← hx] at hnx hd2 HS
      clear hx
      obtain ⟨hd3, hd4⟩ := hd2
      have hv2 : 10 * v + (x - 48) < 1000000000 ∧ 10 * v + (x - 48) < 10 ^ (pos + 1) := by
        have h1 : 10 * v + (x - 48) < 10 ^ (pos + 1) := by
          have := HV.out.2
          rw [Nat.pow_succ]
          omega
        exact ⟨Nat.lt_of_lt_of_le h1 (show (10 : Nat) ^ (pos + 1) ≤ 10 ^ 9 from Nat.pow_le_pow_right (by decide) (by omega)), h1⟩
      have HV2 := hid hv2.2
      have hv3 := hv2.1
      clear hv2
      go_wp2_with fail
      go_roundg g'
      case rel => exact ⟨pos + 1, 10 * v + (x - 48), rfl, by omega, by first | rfl | (congr 1; omega), hv3, hid ⟨by rw [HS.out, HV.out.1], HV2.out⟩⟩
      case measure => omega
    · have hnx := fun ty => run_next_end (P := Tryz.prog) w t pos ty hp
      have HE := hid (show v = dvs t by rw [HV.out.1, dvs, List.take_of_length_le (by rw [Lg.bytes_len]; omega)])
      go_wp2_with fail
      go_ret
      exact ⟨by rw [← HE.out]; rfl, Grew.mk ((Below.refl _ _).alloc (Nat.le_refl _) _)⟩

theorem bytes_extract (s : ByteArray) (a b : Nat) : Lg.bytes (s.extract a b) = ((Lg.bytes s).take b).drop a := by
  have e : (s.extract a b).data = s.data.extract a b := ByteArray.data_extract
  rw [Lg.bytes, e, Array.toList_extract, Lg.bytes, ← List.map_take, ← List.map_drop]
  congr 1
  rw [List.extract_eq_take_drop, List.drop_take]
/-- What has been read, and what is left. -/
structure MagInv (s : ByteArray) (k : Nat) (t : ByteArray) (M : List Nat) : Prop where
  rest : Lg.bytes t = (Lg.bytes s).drop k
  at' : k ≤ s.size
  low : Dg.Low 4294967296 M
  top : Dg.Top M
  val : Dg.val 4294967296 M = Lg.dv (((Lg.bytes s).take k).map (· - 48))
  nine : (k = 0 ∧ M = []) ∨ (s.size - k) % 9 = 0
theorem dv_append : ∀ (a b : List Nat), Lg.dv (a ++ b) = Lg.dv a * 10 ^ b.length + Lg.dv b
  | a, b => by
    rw [Lg.dv, Lg.dv, Lg.dv, List.reverse_append, Dg.val_append, List.length_reverse, Nat.mul_comm, Nat.add_comm]
theorem mag_size {s t : ByteArray} {k : Nat} {M : List Nat} (h : MagInv s k t M) : t.size = s.size - k := by
  rw [← Lg.bytes_len, h.rest, List.length_drop, Lg.bytes_len]
set_option exponentiation.threshold 5000 in
theorem mag_short {s t : ByteArray} {k : Nat} {M : List Nat} (h : MagInv s k t M) (hs : s.size ≤ 700) (hd : Dg.Low 10 ((Lg.bytes s).map (· - 48))) : M.length ≤ 100 := by
  have hl : Dg.Low 10 (((Lg.bytes s).take k).map (· - 48)) := by
    rw [List.map_take]
    exact hd.take k
  have h1 := Lg.dv_lt hl
  rw [← h.val, List.length_map] at h1
  have h2 : Dg.val 4294967296 M < 10 ^ 700 := Nat.lt_of_lt_of_le h1 (Nat.pow_le_pow_right (by decide) (Nat.le_trans (List.length_take_le' _ _) (by rw [Lg.bytes_len]; exact hs)))
  rcases Nat.lt_or_ge 100 M.length with h3 | h3
  · have h4 := Dg.val_ge (B := 4294967296) h.top (by rintro rfl; simp at h3)
    have h5 : (10 : Nat) ^ 700 ≤ 4294967296 ^ 100 := by decide +kernel
    have h6 : (4294967296 : Nat) ^ 100 ≤ 4294967296 ^ (M.length - 1) := Nat.pow_le_pow_right (by decide) (by omega)
    exact absurd (Nat.lt_of_lt_of_le h2 (Nat.le_trans h5 (Nat.le_trans h6 h4))) (Nat.lt_irrefl _)
  · exact h3
theorem MagInv.step {s t : ByteArray} {k n : Nat} {M M2 : List Nat} (h : MagInv s k t M) (hn : n = (t.size - 1) % 9 + 1) (h0 : 0 < t.size) (hl : Dg.Low 4294967296 M2) (ht : Dg.Top M2) (hv : Dg.val 4294967296 M2 = Dg.val 4294967296 M * 1000000000 + dvs (t.extract 0 n)) :
    MagInv s (k + n) (t.extract n t.size) M2 := by
  have hsz := mag_size h
  have hk := h.at'
  have hnt : n ≤ t.size := by omega
  refine ⟨?_, by omega, hl, ht, ?_, .inr ?_⟩
  · rw [bytes_extract t n t.size, List.take_of_length_le (by rw [Lg.bytes_len]; exact Nat.le_refl _), h.rest, List.drop_drop]
  · rw [hv, h.val, dvs, bytes_extract t 0 n, List.drop_zero, h.rest]
    rw [List.take_add, List.map_append, dv_append]
    congr 1
    rcases h.nine with ⟨h1, h2⟩ | h1
    · subst h1 h2
      simp [Lg.dv]
    · congr 1
      rw [List.length_map, List.length_take, List.length_drop, Lg.bytes_len, Nat.min_eq_left (by omega), show n = 9 by omega]
  · omega
end Go.Proofs.YtmcfciifjgdgoaaGreatDoor

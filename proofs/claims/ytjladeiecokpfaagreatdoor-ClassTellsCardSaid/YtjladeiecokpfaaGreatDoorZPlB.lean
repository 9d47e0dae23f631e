/- Parts of elder texts that this layer needs, joined: XYPlB. -/
import Derived.Test.YtjladeiecokpfaaGreatDoorZPlA
import Derived.Test.YtjladeiecokpfaaGreatDoorZLgM
import Derived.Test.YtjladeiecokpfaaGreatDoorShelf
import Derived.Test.YtjladeiecokpfaaGreatDoorZRfA
namespace Go.Proofs.YtjladeiecokpfaaGreatDoor
open Go.RowKit

def isOther (x : Nat) : Bool := !(Lg.isDigit x)
theorem decode_big (s : ByteArray) (pos : Nat) (h : pos < s.size) (ha : ¬ (s[pos]'h).toNat < 128) : 128 ≤ (Utf8.decode s pos).1 := by
  have e : s.get! (pos + 0) = s[pos]'h := by
    show s.get! pos = _
    simp [ByteArray.get!, getElem!_pos, h]
    rfl
  unfold Utf8.decode
  simp only [e]
  rw [if_neg ha]
  split
  · split
    · rename_i h2; exact h2
    · decide
  · split
    · split
      · rename_i h2; simp only [Bool.and_eq_true, decide_eq_true_eq] at h2; omega
      · decide
    · split
      · split
        · rename_i h2; simp only [Bool.and_eq_true, decide_eq_true_eq] at h2; omega
        · decide
      · decide
theorem all_from {s : ByteArray} : ∀ (f pos : Nat), s.size ≤ pos + f → (0 ≤ Lib.idxFuncFrom isOther true s f pos ↔ ∃ j, pos ≤ j ∧ j < s.size ∧ Lg.isDigit ((Lg.bytes s).getD j 0) = false)
  | 0, pos, h => by
    constructor
    · intro h2; simp [Lib.idxFuncFrom] at h2
    · rintro ⟨j, h1, h2, _⟩; omega
  | f + 1, pos, h => by
    unfold Lib.idxFuncFrom
    by_cases hp : pos < s.size
    · rw [if_pos hp]
      have hb := Lg.bytes_at s pos hp
      by_cases ha : (s[pos]'hp).toNat < 128
      · rw [decode_ascii s pos hp ha, hb]
        cases hd : Lg.isDigit ((Lg.bytes s).getD pos 0)
        · rw [if_pos (by rw [isOther, hd]; rfl)]
          exact ⟨fun _ => ⟨pos, Nat.le_refl _, hp, hd⟩, fun _ => Int.natCast_nonneg _⟩
        · rw [if_neg (by rw [isOther, hd]; decide), all_from f (pos + 1) (by omega)]
          constructor
          · rintro ⟨j, h1, h2, h3⟩; exact ⟨j, by omega, h2, h3⟩
          · rintro ⟨j, h1, h2, h3⟩
            refine ⟨j, ?_, h2, h3⟩
            rcases Nat.eq_or_lt_of_le h1 with h4 | h4
            · subst h4; rw [hd] at h3; cases h3
            · exact h4
      · have h1 := decode_big s pos hp ha
        rw [if_pos (by simp [isOther, Lg.isDigit]; omega)]
        refine ⟨fun _ => ⟨pos, Nat.le_refl _, hp, ?_⟩, fun _ => Int.natCast_nonneg _⟩
        rw [hb] at ha
        simp [Lg.isDigit]
        simp at ha
        omega
    · rw [if_neg hp]
      constructor
      · intro h2; omega
      · rintro ⟨j, h1, h2, _⟩; omega
theorem idx_all (s : ByteArray) : decide (0 ≤ Lib.idxFunc isOther true s) = !((Lg.bytes s).all Lg.isDigit) := by
  rw [Lib.idxFunc, Bool.eq_iff_iff, decide_eq_true_iff, all_from s.size 0 (by omega), Bool.not_eq_true', List.all_eq_false]
  constructor
  · rintro ⟨j, _, h2, h3⟩
    refine ⟨_, List.getElem_mem (l := Lg.bytes s) (n := j) (by rw [Lg.bytes_len]; exact h2), ?_⟩
    rw [List.getD_eq_getElem?_getD, List.getElem?_eq_getElem (by rw [Lg.bytes_len]; exact h2)] at h3
    simpa using h3
  · rintro ⟨x, hx, h3⟩
    obtain ⟨j, hj, rfl⟩ := List.mem_iff_getElem.1 hx
    refine ⟨j, Nat.zero_le _, by rwa [Lg.bytes_len] at hj, ?_⟩
    rw [List.getD_eq_getElem?_getD, List.getElem?_eq_getElem hj]
    simpa using h3

theorem other_c (x : Nat) (W : World) : Calls Tryz.prog 169 #[.int .i32 ((x : Nat) : Int)] W fun e w' => e = .returned (.bool (isOther x)) ∧ w' = W := by
  rcases Nat.lt_or_ge x 48 with h | h
  · have E := hid (show isOther x = true by simp [isOther, Lg.isDigit]; omega)
    have t1 : ((x : Nat) : Int) < 48 := by omega
    go_enter Tryz.func169, Tryz.ntmps169
    go_wp2_with fail
    go_ret
    exact ⟨by rw [E.out]; rfl, rfl⟩
  · have t1 : ¬ ((x : Nat) : Int) < 48 := by omega
    rcases Nat.lt_or_ge 57 x with h2 | h2
    · have E := hid (show isOther x = true by simp [isOther, Lg.isDigit]; omega)
      have t2 : (57 : Int) < ((x : Nat) : Int) := by omega
      go_enter Tryz.func169, Tryz.ntmps169
      go_wp2_with fail
      go_ret
      exact ⟨by rw [E.out]; rfl, rfl⟩
    · have E := hid (show isOther x = false by simp [isOther, Lg.isDigit]; omega)
      have t2 : ¬ (57 : Int) < ((x : Nat) : Int) := by omega
      go_enter Tryz.func169, Tryz.ntmps169
      go_wp2_with fail
      go_ret
      exact ⟨by rw [E.out]; rfl, rfl⟩
theorem contains_c (s : ByteArray) (w : World) : Calls Tryz.prog 123 #[.string s, .func (.func 169) #[] #[]] w fun e w' => e = .returned (.bool (!((Lg.bytes s).all Lg.isDigit))) ∧ Grew w w' := by
  have h := Tryz.strings_ContainsFunc 169 #[] (enters_of Tryz.func169 (by kernel_rfl) rfl) isOther s w (fun W x _ => (other_c x W).mono fun e w' ⟨h1, h2⟩ => ⟨h1, 0, by rw [h2]; rfl⟩)
  rw [idx_all] at h
  exact h.mono fun e w' ⟨h1, h2⟩ => ⟨h1, Grew.mk h2⟩
def digs (s : ByteArray) : Bool := decide (1 ≤ s.size) && decide (s.size ≤ 700) && (Lg.bytes s).all Lg.isDigit

set_option maxRecDepth 100000 in
set_option maxHeartbeats 1000000 in
theorem pareDigits_c (s : ByteArray) (w : World) (hs : s.size ≤ 1000000000000) : Calls Tryz.prog 148 #[.string s] w fun e w' => e = .returned (.bool (digs s)) ∧ Grew w w' := by
  have CC := hid (contains_c s w)
  obtain ⟨r, hr⟩ : ∃ r, r = digs s := ⟨_, rfl⟩
  rw [← hr]
  unfold digs at hr
  rcases Nat.lt_or_ge s.size 1 with h | h
  · have E := hid (show r = false by rw [hr, decide_eq_false (by omega)]; rfl)
    have t1 : ¬ (1 : Int) ≤ (s.size : Int) := by omega
    clear hr CC
    go_enter Tryz.func148, Tryz.ntmps148
    go_wp2_with fail
    go_ret
    exact ⟨by rw [E.out]; rfl, Grew.refl _⟩
  · have t1 : (1 : Int) ≤ (s.size : Int) := by omega
    rcases Nat.lt_or_ge 700 s.size with h2 | h2
    · have E := hid (show r = false by rw [hr, decide_eq_true h, decide_eq_false (show ¬ s.size ≤ 700 by omega)]; rfl)
      have t2 : ¬ (s.size : Int) ≤ 700 := by omega
      clear hr CC
      go_enter Tryz.func148, Tryz.ntmps148
      go_wp2_with fail
      go_ret
      exact ⟨by rw [E.out]; rfl, Grew.refl _⟩
    · have t2 : (s.size : Int) ≤ 700 := by omega
      have E := hid (show r = (Lg.bytes s).all Lg.isDigit by rw [hr, decide_eq_true h, decide_eq_true h2]; rfl)
      clear hr
      generalize (Lg.bytes s).all Lg.isDigit = q at *
      cases q
      all_goals
        go_enter Tryz.func148, Tryz.ntmps148
        go_wp2_with fail
        refine CC.out.mono ?_
        rintro e w1 ⟨rfl, hg⟩
        go_wp2_with fail
        go_ret
        exact ⟨by rw [E.out]; rfl, hg⟩

/-- The number of digits. -/
def dvs (s : ByteArray) : Nat := Lg.dv ((Lg.bytes s).map (· - 48))
theorem dv_take {l : List Nat} {k : Nat} (h : k < l.length) : Lg.dv ((l.take (k + 1)).map (· - 48)) = 10 * Lg.dv ((l.take k).map (· - 48)) + (l.getD k 0 - 48) := by
  rw [Dg.take_succ h, List.map_append, List.map_cons, List.map_nil, Lg.dv_snoc]

set_option maxRecDepth 100000 in
set_option maxHeartbeats 1000000 in
theorem pgroup_c (t : ByteArray) (w : World) (ht : t.size ≤ 9) (hd : ∀ j, j < t.size → Lg.isDigit ((Lg.bytes t).getD j 0) = true) : Calls Tryz.prog 174 #[.string t] w fun e w' => e = .returned (.int .u32 ((dvs t : Nat) : Int)) ∧ Grew w w' := by
  have HD := hid hd
  clear hd
  go_enter Tryz.func174, Tryz.ntmps174
  go_wp2_with fail
  go_loopg [3] t.size (fun gf n wx => ∃ (pos v : Nat), wx = w.iter t pos ∧ pos + gf = t.size ∧ n = .int .u32 ((v : Nat) : Int) ∧ v < 1000000000 ∧ Hid (v = Lg.dv (((Lg.bytes t).take pos).map (· - 48)) ∧ v < 10 ^ pos))
  case atStart => exact ⟨0, 0, rfl, by omega, rfl, by decide, hid ⟨rfl, by decide⟩⟩
  case round =>
    obtain ⟨pos, v, rfl, hgf, rfl, hv, HV⟩ := hrel
    by_cases hp : pos < t.size
    · obtain ⟨g', rfl⟩ : ∃ g', gk = g' + 1 := ⟨gk - 1, by omega⟩
      have hd := HD.out pos hp
      have hb := Lg.bytes_at t pos hp
      have HS := hid (dv_take (l := Lg.bytes t) (k := pos) (by rw [Lg.bytes_len]; exact hp))
      have hd2 : 48 ≤ (Lg.bytes t).getD pos 0 ∧ (Lg.bytes t).getD pos 0 ≤ 57 := by simpa [Lg.isDigit] using hd
      have hnx := fun ty => run_next_ascii (P := Tryz.prog) w t pos ty hp (by rw [hb]; omega)
      rw [hb] at hnx
      clear hd hb
      obtain ⟨x, hx⟩ : ∃ x, x = (Lg.bytes t).getD pos 0 := ⟨_, rfl⟩
      rw [← hx] at hnx hd2 HS
      clear hx
      obtain ⟨hd3, hd4⟩ := hd2
      have hv2 : 10 * v + (x - 48) < 1000000000 ∧ 10 * v + (x - 48) < 10 ^ (pos + 1) := by
        have h1 : 10 * v + (x - 48) < 10 ^ (pos + 1) := by
          have := HV.out.2
          rw [Nat.pow_succ]
          omega
        exact ⟨Nat.lt_of_lt_of_le h1 (show (10 : Nat) ^ (pos + 1) ≤ 10 ^ 9 from Nat.pow_le_pow_right (by decide) (by omega)), h1⟩
      have HV2 := hid hv2.2
      have hv3 := hv2.1
      clear hv2
      go_wp2_with fail
      go_roundg g'
      case rel => exact ⟨pos + 1, 10 * v + (x - 48), rfl, by omega, by first | rfl | (congr 1; omega), hv3, hid ⟨by rw [HS.out, HV.out.1], HV2.out⟩⟩
      case measure => omega
    · have hnx := fun ty => run_next_end (P := Tryz.prog) w t pos ty hp
      have HE := hid (show v = dvs t by rw [HV.out.1, dvs, List.take_of_length_le (by rw [Lg.bytes_len]; omega)])
      go_wp2_with fail
      go_ret
      exact ⟨by rw [← HE.out]; rfl, Grew.mk ((Below.refl _ _).alloc (Nat.le_refl _) _)⟩

theorem bytes_extract (s : ByteArray) (a b : Nat) : Lg.bytes (s.extract a b) = ((Lg.bytes s).take b).drop a := by
  have e : (s.extract a b).data = s.data.extract a b := ByteArray.data_extract
  rw [Lg.bytes, e, Array.toList_extract, Lg.bytes, ← List.map_take, ← List.map_drop]
  congr 1
  rw [List.extract_eq_take_drop, List.drop_take]
/-- What has been read, and what is left. -/
structure MagInv (s : ByteArray) (k : Nat) (t : ByteArray) (M : List Nat) : Prop where
  rest : Lg.bytes t = (Lg.bytes s).drop k
  at' : k ≤ s.size
  low : Dg.Low 4294967296 M
  top : Dg.Top M
  val : Dg.val 4294967296 M = Lg.dv (((Lg.bytes s).take k).map (· - 48))
  nine : (k = 0 ∧ M = []) ∨ (s.size - k) % 9 = 0
theorem dv_append : ∀ (a b : List Nat), Lg.dv (a ++ b) = Lg.dv a * 10 ^ b.length + Lg.dv b
  | a, b => by
    rw [Lg.dv, Lg.dv, Lg.dv, List.reverse_append, Dg.val_append, List.length_reverse, Nat.mul_comm, Nat.add_comm]
theorem mag_size {s t : ByteArray} {k : Nat} {M : List Nat} (h : MagInv s k t M) : t.size = s.size - k := by
  rw [← Lg.bytes_len, h.rest, List.length_drop, Lg.bytes_len]
set_option exponentiation.threshold 5000 in
theorem mag_short {s t : ByteArray} {k : Nat} {M : List Nat} (h : MagInv s k t M) (hs : s.size ≤ 700) (hd : Dg.Low 10 ((Lg.bytes s).map (· - 48))) : M.length ≤ 100 := by
  have hl : Dg.Low 10 (((Lg.bytes s).take k).map (· - 48)) := by
    rw [List.map_take]
    exact hd.take k
  have h1 := Lg.dv_lt hl
  rw [← h.val, List.length_map] at h1
  have h2 : Dg.val 4294967296 M < 10 ^ 700 := Nat.lt_of_lt_of_le h1 (Nat.pow_le_pow_right (by decide) (Nat.le_trans (List.length_take_le' _ _) (by rw [Lg.bytes_len]; exact hs)))
  rcases Nat.lt_or_ge 100 M.length with h3 | h3
  · have h4 := Dg.val_ge (B := 4294967296) h.top (by rintro rfl; simp at h3)
    have h5 : (10 : Nat) ^ 700 ≤ 4294967296 ^ 100 := by decide +kernel
    have h6 : (4294967296 : Nat) ^ 100 ≤ 4294967296 ^ (M.length - 1) := Nat.pow_le_pow_right (by decide) (by omega)
    exact absurd (Nat.lt_of_lt_of_le h2 (Nat.le_trans h5 (Nat.le_trans h6 h4))) (Nat.lt_irrefl _)
  · exact h3
theorem MagInv.step {s t : ByteArray} {k n : Nat} {M M2 : List Nat} (h : MagInv s k t M) (hn : n = (t.size - 1) % 9 + 1) (h0 : 0 < t.size) (hl : Dg.Low 4294967296 M2) (ht : Dg.Top M2) (hv : Dg.val 4294967296 M2 = Dg.val 4294967296 M * 1000000000 + dvs (t.extract 0 n)) :
    MagInv s (k + n) (t.extract n t.size) M2 := by
  have hsz := mag_size h
  have hk := h.at'
  have hnt : n ≤ t.size := by omega
  refine ⟨?_, by omega, hl, ht, ?_, .inr ?_⟩
  · rw [bytes_extract t n t.size, List.take_of_length_le (by rw [Lg.bytes_len]; exact Nat.le_refl _), h.rest, List.drop_drop]
  · rw [hv, h.val, dvs, bytes_extract t 0 n, List.drop_zero, h.rest]
    rw [List.take_add, List.map_append, dv_append]
    congr 1
    rcases h.nine with ⟨h1, h2⟩ | h1
    · subst h1 h2
      simp [Lg.dv]
    · congr 1
      rw [List.length_map, List.length_take, List.length_drop, Lg.bytes_len, Nat.min_eq_left (by omega), show n = 9 by omega]
  · omega
end Go.Proofs.YtjladeiecokpfaaGreatDoor
namespace Go.Proofs.YtjladeiecokpfaaGreatDoor
open Go.RowKit

def MagPost (w : World) (s : ByteArray) (e : Ending) (w' : World) : Prop := ∃ A' c' M, e = .returned (.slice A' (List.length M) c') ∧ OwnNums .u32 w w' 226 A' c' M ∧ Dg.Low 4294967296 M ∧ Dg.val 4294967296 M = dvs s ∧ M.length ≤ 100 ∧ Grew w w'
theorem one_val (x : Nat) : Dg.val 4294967296 [x] = x := by simp [Dg.val]
theorem one_low {x : Nat} (h : x < 4294967296) : Dg.Low 4294967296 [x] := Dg.Low.cons h (Dg.Low.nil _)
theorem one_cells (x : Nat) : (numCells .u32 [x]).toArray = #[.int .u32 ((x : Nat) : Int)] := rfl
/-- A row of one new word. -/
theorem one_new {w0 w : World} (hg : Grew w0 w) (x : Nat) : NumsAt .u32 (w.alloc (.cells #[.int .u32 ((x : Nat) : Int)] 226)) (w.heap.size + 1) (some ⟨w.heap.size, 0, none⟩) [x] := by
  have h := (OwnNums.new .u32 226 [x] hg (by simp)).at
  rw [one_cells] at h
  simpa using h

set_option maxRecDepth 100000 in
set_option maxHeartbeats 2000000 in
theorem parseMag_c (s : ByteArray) (w : World) (hs : s.size ≤ 700) (hd : ∀ j, j < (Lg.bytes s).length → Lg.isDigit ((Lg.bytes s).getD j 0) = true) :
    Calls Tryz.prog 150 #[.string s] w (MagPost w s) := by
  have HL := hid (digits_low hd)
  have HD := hid hd
  clear hd
  go_enter Tryz.func150, Tryz.ntmps150
  go_wp2_with fail
  go_loopg [0, 3] s.size (fun gf s0 s2 wx => ∃ (t : ByteArray) (E : Option Addr) (f : Nat) (M : List Nat) (k : Nat), s0 = .string t ∧ s2 = .slice E M.length f ∧ gf = t.size ∧ t.size ≤ 700 ∧ OwnNums .u32 w wx 226 E f M ∧ Grew w wx ∧ Hid (MagInv s k t M))
  case atStart => exact ⟨s, none, 0, [], 0, rfl, rfl, rfl, hs, OwnNums.nil _ _ _ _, Grew.refl _, hid ⟨rfl, Nat.zero_le _, Dg.Low.nil _, Dg.Top.nil, rfl, .inl ⟨rfl, rfl⟩⟩⟩
  case round =>
    obtain ⟨t, E, f, M, k, rfl, rfl, rfl, ht, hown, hg, HI⟩ := hrel
    have hMl := mag_short HI.out hs HL.out
    rcases Nat.eq_zero_or_pos t.size with h0 | h0
    · have h0' : ¬ (0 : Int) < (t.size : Int) := by omega
      go_wp2_with fail
      go_ret
      refine ⟨E, f, M, rfl, hown, HI.out.low, ?_, hMl, hg⟩
      have h1 := mag_size HI.out
      have h2 := HI.out.at'
      rw [HI.out.val, dvs, List.take_of_length_le (by rw [Lg.bytes_len]; omega)]
    · have h0' : (0 : Int) < (t.size : Int) := by omega
      obtain ⟨n, hn⟩ : ∃ n, n = (t.size - 1) % 9 + 1 := ⟨_, rfl⟩
      have hni : ((t.size : Int) - 1) % 9 + 1 = (n : Int) := by omega
      have hn1 : n ≤ t.size := by omega
      have hn9 : n ≤ 9 := by omega
      have hnp : 0 < n := by omega
      have HN := hid hn
      clear hn
      have HO := hid hown
      have HG := hid hg
      have HDt := hid (show ∀ j, j < (t.extract 0 n).size → Lg.isDigit ((Lg.bytes (t.extract 0 n)).getD j 0) = true from fun j hj => by
        have e1 : (t.extract 0 n).size = n := by rw [ByteArray.size_extract]; omega
        have e2 : (Lg.bytes (t.extract 0 n)).getD j 0 = (Lg.bytes s).getD (k + j) 0 := by
          rw [bytes_extract, List.drop_zero, HI.out.rest, List.getD_eq_getElem?_getD, List.getD_eq_getElem?_getD, List.getElem?_take_of_lt (by omega), List.getElem?_drop]
        rw [e2]
        refine HD.out _ ?_
        have h1 := mag_size HI.out
        rw [Lg.bytes_len]
        omega)
      have hts : (t.extract 0 n).size ≤ 9 := by rw [ByteArray.size_extract]; omega
      have CM := pmulMags_c E f M (some ⟨wr.heap.size, 0, none⟩) 1 [1000000000] (wr.alloc (.cells #[.int .u32 1000000000] 226)) (by have h := (hown.alloc (.cells #[.int .u32 1000000000] 226)).at; rwa [World.size_alloc] at h ⊢) (by rw [World.size_alloc]; exact one_new hg 1000000000) HI.out.low (one_low (by decide)) (by omega) (by decide)
      replace CM := hid CM
      clear hown hg
      go_wp2_with fail
      refine CM.out.mono ?_
      rintro e w1 ⟨A1, c1, M1, rfl, hO1, hl1, hv1, hm1, hg1⟩
      have HM1 := hid hm1
      have hm2 : M1.length ≤ 101 := by rw [hm1]; simp; omega
      have HV1 := hid hv1
      have HG1 := hid (show Grew w w1 from (HG.out.alloc _).trans hg1)
      have HO1 := hid (hO1.mono (HG.out.alloc _))
      have HL1 := hid hl1
      clear hO1 hl1 hv1 hm1 hg1 CM
      obtain ⟨x, hx⟩ : ∃ x, x = dvs (t.extract 0 n) := ⟨_, rfl⟩
      have hxb : x < 4294967296 := by
        have h1 := Lg.dv_lt (digits_low (l := Lg.bytes (t.extract 0 n)) (fun j hj => HDt.out j (by rwa [Lg.bytes_len] at hj)))
        rw [List.length_map, Lg.bytes_len] at h1
        have h2 : (10 : Nat) ^ (t.extract 0 n).size ≤ 10 ^ 9 := Nat.pow_le_pow_right (by decide) hts
        rw [hx, dvs]
        omega
      have CG := pgroup_c (t.extract 0 n) w1 hts HDt.out
      rw [← hx] at CG
      replace CG := hid CG
      have HX := hid hx
      clear hx HDt hts
      go_wp2_with fail
      refine CG.out.mono ?_
      rintro e w2 ⟨rfl, hg2⟩
      have HG2 := hid (HG1.out.trans hg2)
      have HO2 := hid (HO1.out.grew hg2)
      clear CG HO1 HG1 hg2
      have CA := hid (paddMags_c A1 c1 M1 (some ⟨w2.heap.size, 0, none⟩) 1 [x] (w2.alloc (.cells #[.int .u32 ((x : Nat) : Int)] 226)) (by have h := (HO2.out.alloc (.cells #[.int .u32 ((x : Nat) : Int)] 226)).at; rwa [World.size_alloc] at h ⊢) (by rw [World.size_alloc]; exact one_new HG2.out x) HL1.out (one_low hxb) (by omega) (by simp))
      go_wp2_with fail
      refine CA.out.mono ?_
      rintro e w3 ⟨A2, c2, M2, rfl, hO2, hl2, hv2, hm3, hg3⟩
      have hm4 : M2.length ≤ 102 := by rw [hm3]; simp; omega
      have HG3 := hid (show Grew w w3 from (HG2.out.alloc _).trans hg3)
      have HO3 := hid (hO2.mono (HG2.out.alloc _))
      have HL3 := hid hl2
      have HV3 := hid hv2
      clear CA HO2 HG2 hO2 hl2 hv2 hm3 hg3
      have CT := hid (ptrim_c A2 c2 M2 w3 HO3.out.at (by omega) HO3.out.cap.1 HO3.out.cap.2)
      have HM2 := hid (show MagInv s (k + n) (t.extract n t.size) (Dg.cut M2) from HI.out.step HN.out h0 (Dg.cut_low HL3.out) (Dg.cut_top _) (by rw [Dg.cut_val, HV3.out, HV1.out, one_val, one_val, HX.out]))
      have HOT := hid (show OwnNums .u32 w w3 226 A2 c2 (Dg.cut M2) by rw [Dg.cut_take]; exact HO3.out.take _)
      generalize Dg.cut M2 = M3 at *
      have hsz : (t.extract n t.size).size = t.size - n := by rw [ByteArray.size_extract]; omega
      have HSZ := hid hsz
      clear hsz HX HV1 HL1 HM1 HV3 HL3
      go_wp2_with fail
      refine CT.out.mono ?_
      rintro e w4 ⟨rfl, rfl⟩
      go_wp2_with fail
      go_roundg (t.size - n)
      case rel => exact ⟨t.extract n t.size, A2, c2, M3, k + n, rfl, rfl, HSZ.out.symm, by rw [HSZ.out]; omega, HOT.out, HG3.out, HM2⟩
      case measure => omega
end Go.Proofs.YtjladeiecokpfaaGreatDoor
namespace Go.Proofs.YtjladeiecokpfaaGreatDoor
open Go.RowKit

theorem prefix_sign (s : ByteArray) : Lib.hasPrefix s.data.toList [45] = Lg.signOf (Lg.bytes s) := by
  rw [Lg.bytes]
  generalize s.data.toList = l
  cases l with
  | nil => rfl
  | cons a r =>
    rw [Lg.signOf, Lib.hasPrefix, List.map_cons, List.isPrefixOf, List.isPrefixOf, Bool.and_true, List.getD_cons_zero, List.length_cons, decide_eq_true (by omega), Bool.true_and, Bool.eq_iff_iff, beq_iff_eq, decide_eq_true_iff]
    constructor
    · rintro rfl; rfl
    · intro h; exact UInt8.toNat_inj.1 h.symm
theorem prefix_rest (s : ByteArray) : Lg.bytes ⟨(Lib.trimPrefix s.data.toList [45]).toArray⟩ = Lg.restOf (Lg.bytes s) := by
  have h := prefix_sign s
  rw [Lib.trimPrefix, h, Lg.restOf]
  cases Lg.signOf (Lg.bytes s)
  · simp [Lg.bytes]
  · simp [Lg.bytes]
/-- What the program asks of a numeral. -/
theorem form_prog (s t : ByteArray) (h : Lg.bytes t = Lg.restOf (Lg.bytes s)) : Lg.formOk (Lg.signOf (Lg.bytes s)) (Lg.restOf (Lg.bytes s)) = (digs t && !(decide ((Lg.bytes t).getD 0 0 = 48) && !(decide (Lg.bytes s = [48])))) := by
  have hl := Lg.bytes_len t
  have h2 : Lg.bytes s = [48] ↔ Lg.signOf (Lg.bytes s) = false ∧ Lg.bytes t = [48] := by
    rw [h]
    constructor
    · intro e
      rw [e]
      exact ⟨rfl, rfl⟩
    · rintro ⟨e1, e2⟩
      rwa [Lg.restOf, e1, if_neg (by decide)] at e2
  rw [← h, Lg.formOk, digs, ← hl]
  generalize Lg.signOf (Lg.bytes s) = g at *
  rw [show decide (Lg.bytes s = [48]) = (!g && decide (Lg.bytes t = [48])) by
    rw [Bool.eq_iff_iff, decide_eq_true_iff, h2]
    cases g <;> simp]
  clear h h2 hl
  generalize Lg.bytes t = l
  rcases l with _ | ⟨a, _ | ⟨b, r⟩⟩
  · rfl
  · by_cases ha : a = 48
    · subst ha; cases g <;> rfl
    · simp [ha]
  · by_cases ha : a = 48
    · subst ha; simp
    · simp [ha]

def ReadPost (l : List Nat) (w : World) (e : Ending) (w' : World) : Prop := ∃ A' c' ng L k, e = .returned (.tuple #[.agg #[.bool ng, .slice A' (List.length L) c'], errVal k]) ∧ OwnNums .u32 w w' 226 A' c' L ∧ Lg.ParseOut l ng L k ∧ Grew w w'

theorem ReadPost.bad {l : List Nat} {w w' : World} (h : Lg.formOk (Lg.signOf l) (Lg.restOf l) = false) (hg : Grew w w') : ReadPost l w (.returned (.tuple #[.agg #[.bool false, .slice none 0 0], .iface 75 (.int .i64 2)])) w' :=
  ⟨none, 0, false, [], 2, rfl, OwnNums.nil _ _ _ _, ⟨fun _ => ⟨rfl, rfl, rfl⟩, fun h2 => by rw [h] at h2; cases h2⟩, hg⟩

set_option maxRecDepth 100000 in
set_option maxHeartbeats 2000000 in
theorem pparse_c (s : ByteArray) (w : World) (hs : s.size ≤ 1000000000000) :
    Calls Tryz.prog 128 #[.string s] w (ReadPost (Lg.bytes s) w) := by
  obtain ⟨wb, hwb⟩ : ∃ wb, wb = w.alloc (.cells #[.bool false, .slice none 0 0] 198) := ⟨_, rfl⟩
  have CC := Tryz.strings_CutPrefix s ⟨#[45]⟩ wb
  rw [show (⟨#[45]⟩ : ByteArray).data.toList = [45] from rfl, prefix_sign s] at CC
  have HR := prefix_rest s
  generalize (⟨(Lib.trimPrefix s.data.toList [45]).toArray⟩ : ByteArray) = t at *
  have HF := form_prog s t HR
  have hts : t.size ≤ 1000000000000 := by
    rw [← Lg.bytes_len, HR, Lg.restOf]
    split
    · rw [List.length_drop, Lg.bytes_len]; omega
    · rw [Lg.bytes_len]; exact hs
  obtain ⟨g, hg⟩ : ∃ g, g = Lg.signOf (Lg.bytes s) := ⟨_, rfl⟩
  rw [← hg] at CC
  have CA := pareDigits_c t wb hts
  obtain ⟨q, hq⟩ : ∃ q, q = digs t := ⟨_, rfl⟩
  rw [← hq] at CA HF
  have hzt := zero_text s
  have HG := hid hg
  have HQ := hid hq
  replace HR := hid HR
  replace HF := hid HF
  replace CC := hid CC
  replace CA := hid CA
  clear hg hq
  have k0 : Grew w wb ∧ wb.heap.size = w.heap.size + 1 ∧ wb.cell? ⟨w.heap.size, 0, none⟩ = some (.bool false) ∧ wb.cell? ⟨w.heap.size, 1, none⟩ = some (.slice none 0 0) ∧ (∀ i, wb.frozen? ⟨w.heap.size, i, none⟩ = false) := by
    subst hwb
    exact ⟨(Grew.refl _).alloc _, by simp, by simp, by simp, fun i => by simp⟩
  have HWB := hid k0
  have HWE := hid hwb
  clear k0 hwb
  go_enter Tryz.func128, Tryz.ntmps128
  go_wp2_with fail
  rw [← HWE.out]
  clear HWE
  refine CC.out.mono ?_
  rintro e w1 ⟨rfl, rfl⟩
  obtain ⟨HW, hsz, -⟩ := HWB.out
  go_wp2_with fail
  refine CA.out.mono ?_
  rintro e w2 ⟨rfl, y, rfl⟩
  have r0 := (y.cell _ (by show w.heap.size < _; omega)).trans HWB.out.2.2.1
  have r1 := (y.cell _ (by show w.heap.size < _; omega)).trans HWB.out.2.2.2.1
  have rf : ∀ i, y.w.frozen? ⟨w.heap.size, i, none⟩ = false := fun i => (y.frozen _ (by show w.heap.size < _; omega)).trans (HWB.out.2.2.2.2 i)
  clear CC CA
  cases q
  · have hf := hid (show Lg.formOk (Lg.signOf (Lg.bytes s)) (Lg.restOf (Lg.bytes s)) = false by rw [HF.out]; rfl)
    clear HF HG HQ hzt
    have HG := hid (HW.trans y.grew)
    go_wp2_with fail
    refine bodyPost_ret (v := .tuple #[.agg #[.bool false, .slice none 0 0], .iface 75 (.int .i64 2)]) (by simp [results, Tryz.results128, go_sem, *]) rfl ?_
    exact ReadPost.bad hf.out ((HG.out.setCell (Nat.le_refl _) _).setCell (Nat.le_refl _) _)
  · have hd := HQ.out.symm
    rw [digs, Bool.and_eq_true, Bool.and_eq_true, decide_eq_true_iff, decide_eq_true_iff, List.all_eq_true] at hd
    obtain ⟨⟨hd1, hd2⟩, hd3⟩ := hd
    have HA := hid (show ∀ j, j < (Lg.bytes t).length → Lg.isDigit ((Lg.bytes t).getD j 0) = true from fun j hj => by
      rw [List.getD_eq_getElem?_getD, List.getElem?_eq_getElem hj]
      exact hd3 _ (List.getElem_mem hj))
    clear hd3 HQ
    have hb0 := Lg.bytes_at t 0 hd1
    have hd1' : (0 : Int) < (t.size : Int) := by omega
    obtain ⟨x, hx⟩ : ∃ x, x = (Lg.bytes t).getD 0 0 := ⟨_, rfl⟩
    rw [← hx] at hb0 HF
    clear hx
    have CM := hid (parseMag_c t y.w hd2 HA.out)
    have HF2 := hid (show (decide (x = 48) && !(decide (Lg.bytes s = [48]))) = false → Lg.formOk (Lg.signOf (Lg.bytes s)) (Lg.restOf (Lg.bytes s)) = true from fun h => by rw [HF.out, h]; rfl)
    by_cases hx : x = 48
    · subst hx
      by_cases hz : Lg.bytes s = [48]
      · rw [decide_eq_true hz] at hzt
        have hf := hid (HF2.out (by rw [decide_eq_true hz]; rfl))
        clear HF HF2 hz
        go_wp2_with fail
        refine CM.out.mono ?_
        rintro e w3 ⟨A3, c3, M3, rfl, hO3, hl3, hv3, hm3, hg3⟩
        have CL := hid (plimited_c g A3 c3 M3 w1 w3 (hO3.mono y.grew) hl3 (by omega))
        obtain ⟨y3, rfl⟩ := y.grew.trans hg3
        have HV := hid (show Lg.sgn g (Dg.val 4294967296 M3) = Lg.numOf (Lg.bytes s) by rw [hv3, HG.out, Lg.numOf, dvs, HR.out])
        clear CM hO3 hl3 hv3 hg3 r0 r1 rf
        go_wp2_with fail
        refine CL.out.mono ?_
        rintro e w4 ⟨A4, c4, n4, L4, k4, rfl, hO4, hU4, hG4⟩
        rw [HV.out] at hU4
        obtain ⟨y4, rfl⟩ := y3.grew.trans hG4
        have q0 := (y4.cell _ (by show w.heap.size < _; omega)).trans HWB.out.2.2.1
        have q1 := (y4.cell _ (by show w.heap.size < _; omega)).trans HWB.out.2.2.2.1
        have qf : ∀ i, y4.w.frozen? ⟨w.heap.size, i, none⟩ = false := fun i => (y4.frozen _ (by show w.heap.size < _; omega)).trans (HWB.out.2.2.2.2 i)
        have HO4 := hid hO4
        have HU4 := hid hU4
        clear CL hO4 hU4 hG4
        go_wp2_with fail
        have HOO := hid HO4.out
        refine bodyPost_ret (v := .tuple #[.agg #[.bool n4, .slice A4 L4.length c4], errVal k4]) (by simp [results, Tryz.results128, go_sem, *]) rfl ?_
        obtain ⟨h1, h2⟩ := own_back2 HW HO4.out y4.grew w.heap.size (Nat.le_refl _) (by omega) (.bool n4) (.slice A4 L4.length c4)
        exact ⟨A4, c4, n4, L4, k4, rfl, h1, ⟨fun h => (by rw [hf.out] at h; cases h), fun _ => HU4.out⟩, h2⟩
      · rw [decide_eq_false hz] at hzt
        have hf := hid (show Lg.formOk (Lg.signOf (Lg.bytes s)) (Lg.restOf (Lg.bytes s)) = false by rw [HF.out, decide_eq_false hz]; rfl)
        have HG := hid (HW.trans y.grew)
        clear HF HF2 hz CM
        go_wp2_with fail
        refine bodyPost_ret (v := .tuple #[.agg #[.bool false, .slice none 0 0], .iface 75 (.int .i64 2)]) (by simp [results, Tryz.results128, go_sem, *]) rfl ?_
        exact ReadPost.bad hf.out ((HG.out.setCell (Nat.le_refl _) _).setCell (Nat.le_refl _) _)
    · have hf := hid (HF2.out (by rw [decide_eq_false hx]; rfl))
      clear HF HF2
      go_wp2_with fail
      refine CM.out.mono ?_
      rintro e w3 ⟨A3, c3, M3, rfl, hO3, hl3, hv3, hm3, hg3⟩
      have CL := hid (plimited_c g A3 c3 M3 w1 w3 (hO3.mono y.grew) hl3 (by omega))
      obtain ⟨y3, rfl⟩ := y.grew.trans hg3
      have HV := hid (show Lg.sgn g (Dg.val 4294967296 M3) = Lg.numOf (Lg.bytes s) by rw [hv3, HG.out, Lg.numOf, dvs, HR.out])
      clear CM hO3 hl3 hv3 hg3 r0 r1 rf
      go_wp2_with fail
      refine CL.out.mono ?_
      rintro e w4 ⟨A4, c4, n4, L4, k4, rfl, hO4, hU4, hG4⟩
      rw [HV.out] at hU4
      obtain ⟨y4, rfl⟩ := y3.grew.trans hG4
      have q0 := (y4.cell _ (by show w.heap.size < _; omega)).trans HWB.out.2.2.1
      have q1 := (y4.cell _ (by show w.heap.size < _; omega)).trans HWB.out.2.2.2.1
      have qf : ∀ i, y4.w.frozen? ⟨w.heap.size, i, none⟩ = false := fun i => (y4.frozen _ (by show w.heap.size < _; omega)).trans (HWB.out.2.2.2.2 i)
      have HO4 := hid hO4
      have HU4 := hid hU4
      clear CL hO4 hU4 hG4
      go_wp2_with fail
      have HOO := hid HO4.out
      refine bodyPost_ret (v := .tuple #[.agg #[.bool n4, .slice A4 L4.length c4], errVal k4]) (by simp [results, Tryz.results128, go_sem, *]) rfl ?_
      obtain ⟨h1, h2⟩ := own_back2 HW HO4.out y4.grew w.heap.size (Nat.le_refl _) (by omega) (.bool n4) (.slice A4 L4.length c4)
      exact ⟨A4, c4, n4, L4, k4, rfl, h1, ⟨fun h => (by rw [hf.out] at h; cases h), fun _ => HU4.out⟩, h2⟩
end Go.Proofs.YtjladeiecokpfaaGreatDoor

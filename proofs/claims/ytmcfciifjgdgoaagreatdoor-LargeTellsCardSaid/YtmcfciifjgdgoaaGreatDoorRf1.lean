/- The walks of the document's own large numbers, part 1: bits in lists. -/
import Derived.Test.YtmcfciifjgdgoaaGreatDoorProg
import Derived.Test.YtmcfciifjgdgoaaGreatDoorOwn
import Derived.Test.YtmcfciifjgdgoaaGreatDoorDig
namespace Go.Proofs.YtmcfciifjgdgoaaGreatDoor
open Go.RowKit

theorem Tryz.info_u8 : (Tryz.prog.info? 5).map (fun i => (i.zero, i.size, i.bytes)) = some (some (.int .u8 0), 1, 1) := by kernel_rfl
theorem Tryz.info_u32 : (Tryz.prog.info? 55).map (fun i => (i.zero, i.size, i.bytes)) = some (some (.int .u32 0), 1, 4) := by kernel_rfl

theorem at_c (A : Option Addr) (c : Nat) (bs : List Nat) (i : Nat) (w : World) (h : NumsAt .u8 w w.heap.size A bs) (hn : bs.length ≤ 1000000) (hi : i ≤ 2000000) :
    Calls Tryz.prog 50 #[.slice A bs.length c, .int .i64 i] w fun e w' => e = .returned (.int .u8 ((bs.getD i 0 : Nat) : Int)) ∧ w' = w := by
  by_cases hlt : i < bs.length
  · obtain ⟨ad, rfl, hb, hc⟩ := h (by omega)
    have hci := hc i hlt
    have hlt' : (i : Int) < (bs.length : Int) := by omega
    clear h hc
    generalize bs.getD i 0 = x at *
    go_enter Tryz.func50, Tryz.ntmps50
    go_wp2
    go_ret
    exact ⟨rfl, rfl⟩
  · rw [Dg.getD_past (xs := bs) (k := i) (by omega)]
    have hlt' : ¬ (i : Int) < (bs.length : Int) := by omega
    clear h
    go_enter Tryz.func50, Tryz.ntmps50
    go_wp2
    go_ret
    exact ⟨rfl, rfl⟩

theorem cut_step {bs : List Nat} {n : Nat} (hn : n < bs.length) (h : Dg.cut (bs.take (n + 1)) = Dg.cut bs) (hz : bs.getD n 0 = 0) : Dg.cut (bs.take n) = Dg.cut bs := by
  rw [← h, Dg.take_succ hn, hz, Dg.cut_snoc_zero]
theorem cut_stop {bs : List Nat} {n : Nat} (hn : n < bs.length) (h : Dg.cut (bs.take (n + 1)) = Dg.cut bs) (hz : bs.getD n 0 ≠ 0) : Dg.cut bs = bs.take (n + 1) := by
  rw [← h]
  refine Dg.cut_of_top ?_
  rw [Dg.take_succ hn]
  exact Dg.Top.snoc hz

set_option maxHeartbeats 1000000 in
/-- 'cut' is the same slice, shorter. -/
theorem cut_c (A : Option Addr) (c : Nat) (bs : List Nat) (w : World) (h : NumsAt .u8 w w.heap.size A bs) (hn : bs.length ≤ 1000000) (hcap : bs.length ≤ c) (hc2 : c ≤ 9223372036854775807) :
    Calls Tryz.prog 39 #[.slice A bs.length c] w fun e w' => e = .returned (.slice A (Dg.cut bs).length c) ∧ w' = w := by
  go_enter Tryz.func39, Tryz.ntmps39
  go_wp2
  go_loop [0] (fun s => ∃ n : Nat, n ≤ bs.length ∧ s = .slice A n c ∧ Hid (Dg.cut (bs.take n) = Dg.cut bs)) (fun s => match s with | .slice _ n _ => n | _ => 0)
  case atStart => exact ⟨bs.length, Nat.le_refl _, rfl, hid (by rw [List.take_length])⟩
  case round =>
    obtain ⟨n, hle, rfl, HE⟩ := hrel
    rcases Nat.eq_zero_or_pos n with h0 | h0
    · subst h0
      have E := HE.out
      have E2 : Hid ((Dg.cut bs).length = 0) := hid (by rw [← E]; rfl)
      clear E
      go_wp2
      go_ret
      exact ⟨by rw [E2.out]; rfl, rfl⟩
    · obtain ⟨m, rfl⟩ : ∃ m, n = m + 1 := ⟨n - 1, by omega⟩
      obtain ⟨ad, rfl, hb, hc⟩ := h (by omega)
      have hcm := hc m (by omega)
      clear hc
      by_cases hz : bs.getD m 0 = 0
      · have E := hid (cut_step (by omega) HE.out hz)
        have hcm' : w.cell? (ad.add m) = some (.int .u8 0) := by rw [hcm, hz]; rfl
        clear hcm hz
        go_wp2
        go_round
        case rel => exact ⟨m, by omega, rfl, E⟩
        case measure => simp
      · have E := hid (cut_stop (by omega) HE.out hz)
        have hz' : (((bs.getD m 0 : Nat) : Int) == 0) = false := by rw [beq_eq_false_iff_ne]; omega
        clear hz
        generalize bs.getD m 0 = x at *
        go_wp2
        go_ret
        refine ⟨?_, rfl⟩
        have : (Dg.cut bs).length = m + 1 := by rw [E.out, List.length_take, Nat.min_eq_left (by omega)]
        rw [this]
        rfl

/-! ### Bits of words -/
/-- The 'k' lowest bits of a number, the lowest first. -/
def low (x : Nat) : Nat → List Nat
  | 0 => []
  | k + 1 => low x k ++ [x / 2 ^ k % 2]
theorem low_len (x : Nat) : ∀ k, (low x k).length = k
  | 0 => rfl
  | k + 1 => by simp [low, low_len x k]
theorem low_low (x : Nat) : ∀ k, Dg.Low 2 (low x k)
  | 0 => Dg.Low.nil 2
  | k + 1 => (low_low x k).snoc (Nat.mod_lt _ (by decide))
theorem low_val (x : Nat) : ∀ k, Dg.val 2 (low x k) = x % 2 ^ k
  | 0 => by simp [low, Nat.mod_one]
  | k + 1 => by
    rw [low, Dg.val_snoc, low_len, low_val x k, Nat.pow_succ, Nat.mod_mul]
def flat (xs : List Nat) : List Nat := xs.flatMap (low · 32)
theorem flat_snoc (xs : List Nat) (x : Nat) : flat (xs ++ [x]) = flat xs ++ low x 32 := by simp [flat]
theorem flat_len : ∀ xs : List Nat, (flat xs).length = 32 * xs.length
  | [] => rfl
  | x :: r => by
    have := flat_len r
    simp only [flat, List.flatMap_cons, List.length_append, low_len, List.length_cons] at this ⊢
    omega
theorem flat_low : ∀ xs : List Nat, Dg.Low 2 (flat xs)
  | [] => Dg.Low.nil 2
  | x :: r => by
    have := flat_low r
    simp only [flat, List.flatMap_cons] at this ⊢
    exact (low_low x 32).append this
theorem flat_val : ∀ {xs : List Nat}, Dg.Low 4294967296 xs → Dg.val 2 (flat xs) = Dg.val 4294967296 xs
  | [], _ => rfl
  | x :: r, h => by
    have e : flat (x :: r) = low x 32 ++ flat r := by simp [flat]
    have h1 := h.head
    rw [e, Dg.val_append, low_len, low_val, flat_val h.tail, Dg.val_cons, Nat.mod_eq_of_lt h1]

theorem bit_val (x m : Nat) : Value.int .u8 (((x : Int) / 2 ^ m).tmod 2 % 256) = .int .u8 ((x / 2 ^ m % 2 : Nat) : Int) := by
  have e : ((x : Int) / 2 ^ m) = ((x / 2 ^ m : Nat) : Int) := by push_cast; rfl
  rw [e, Int.tmod_eq_emod_of_nonneg (Int.natCast_nonneg _)]
  congr 1
  omega

set_option maxHeartbeats 2000000 in
theorem bits_c (A : Option Addr) (c : Nat) (xs : List Nat) (w : World) (h : NumsAt .u32 w w.heap.size A xs) (hn : xs.length ≤ 1000) :
    Calls Tryz.prog 27 #[.slice A xs.length c] w fun e w' => ∃ A' c', e = .returned (.slice A' (Dg.cut (flat xs)).length c') ∧ OwnNums .u8 w w' 5 A' c' (Dg.cut (flat xs)) ∧ Grew w w' := by
  have hn' : (xs.length : Int) ≤ 1000 := by omega
  have H := hid h
  clear h
  go_enter Tryz.func27, Tryz.ntmps27
  go_wp2
  go_loopw [3, 4, 5] (fun s i _ wr => ∃ (k : Nat) (B : Option Addr) (d : Nat) (L : List Nat), k ≤ xs.length ∧ i = .int .i64 k ∧ s = .slice B L.length d ∧ OwnNums .u8 w wr 5 B d L ∧ Grew w wr ∧ Hid (L = flat (xs.take k))) (fun _ i _ _ => xs.length - (intOf i).toNat)
  case atStart => exact ⟨0, none, 0, [], Nat.zero_le _, rfl, rfl, OwnNums.nil _ _ _ _, Grew.refl _, hid rfl⟩
  case round =>
    obtain ⟨k, B, d, L, hk, rfl, rfl, hown, hg, HL⟩ := hrel
    by_cases hlt : k < xs.length
    · have hlt' : (k : Int) < (xs.length : Int) := by omega
      obtain ⟨ad, rfl, hb, hc⟩ := H.out (by omega)
      have hcw := hid (hc k hlt)
      have HT := hid (Dg.take_succ hlt)
      clear hc
      generalize xs.getD k 0 = x at *
      have hLl : L.length ≤ 32000 := by
        have := flat_len (xs.take k)
        have := List.length_take_le k xs
        rw [HL.out]; omega
      obtain ⟨wo, rfl⟩ : ∃ wo : World, wo = wr := ⟨_, rfl⟩
      go_wp2
      go_loopw [3, 5] (fun s i wr => ∃ (m : Nat) (B : Option Addr) (d : Nat) (M : List Nat), m ≤ 32 ∧ i = .int .i64 m ∧ s = .slice B M.length d ∧ OwnNums .u8 w wr 5 B d M ∧ Grew w wr ∧ Hid (M = L ++ low x m)) (fun _ i _ => 32 - (intOf i).toNat)
      case atStart => exact ⟨0, B, d, L, by omega, rfl, rfl, hown, hg, hid (by simp [low])⟩
      case round =>
        clear hown hg
        obtain ⟨m, B, d, M, hm, rfl, rfl, hown, hg, HM⟩ := hrel
        by_cases hmt : m < 32
        · have hmt' : (m : Int) < 32 := by omega
          have hck : wr.cell? (ad.add k) = some (.int .u32 x) := by rw [hg.below.cell (by rw [block_add]; exact hb)]; exact hcw.out
          have hMl : M.length ≤ 32100 := by rw [HM.out, List.length_append, low_len]; omega
          go_wp2_with (at_builtin; refine wpList_push .u8 1 w wr rfl _ _ 57 5 rfl Tryz.underlying57 Tryz.info_u8 hg B d M rfl hown (x / 2 ^ m % 2) _ rfl rfl _ (bit_val x m) (by omega) (by omega) ?_; rintro A' c' W1 hO hG)
          go_roundw
          case rel => exact ⟨m + 1, A', c', M ++ [x / 2 ^ m % 2], by omega, by go_num, by simp, hO, hG, hid (by rw [HM.out, low, List.append_assoc])⟩
          case measure => simp [intOf] <;> omega
        · obtain rfl : m = 32 := by omega
          go_wp2
          go_roundw
          case rel => exact ⟨k + 1, B, d, M, by omega, by go_num, rfl, hown, hg, hid (by rw [HT.out, flat_snoc, HM.out, HL.out])⟩
          case measure => simp [intOf] <;> omega
    · have hlt' : ¬ (k : Int) < (xs.length : Int) := by omega
      have HE : Hid (L = flat xs) := hid (by rw [HL.out, List.take_of_length_le (by omega)])
      have hLl : L.length ≤ 1000000 := by
        have := flat_len xs
        rw [HE.out]; omega
      go_wp2_with (go_at_call 39; refine (cut_c B d L wr hown.at hLl hown.cap.1 hown.cap.2).mono ?_; rintro e w' ⟨rfl, rfl⟩)
      go_ret
      obtain rfl := HE.out
      refine ⟨B, d, rfl, ?_, hg⟩
      rw [Dg.cut_take]
      exact hown.take _
end Go.Proofs.YtmcfciifjgdgoaaGreatDoor

/- Parts of elder texts that this layer needs, joined: XRf1 XRf2 XRf3 XRf4 XRf5 XRf6 XRf7 XRf8. -/
import Derived.Test.YtjdgcgpidhljpaaGreatDoorProg
import Derived.Test.YtjdgcgpidhljpaaGreatDoorYBase
import Derived.BigRegion
import Derived.Test.YtjdgcgpidhljpaaGreatDoorYLgM
import Derived.Deep.DeepCutAuto
import Derived.Deep.RegionHeld3
namespace Go.Proofs.YtjdgcgpidhljpaaGreatDoor
open Go.RowKit

theorem Tryz.info_u8 : (Tryz.prog.info? 5).map (fun i => (i.zero, i.size, i.bytes)) = some (some (.int .u8 0), 1, 1) := by kernel_rfl
theorem Tryz.info_u32 : (Tryz.prog.info? 217).map (fun i => (i.zero, i.size, i.bytes)) = some (some (.int .u32 0), 1, 4) := by kernel_rfl

theorem cut_step {bs : List Nat} {n : Nat} (hn : n < bs.length) (h : Dg.cut (bs.take (n + 1)) = Dg.cut bs) (hz : bs.getD n 0 = 0) : Dg.cut (bs.take n) = Dg.cut bs := by
  rw [← h, Dg.take_succ hn, hz, Dg.cut_snoc_zero]
theorem cut_stop {bs : List Nat} {n : Nat} (hn : n < bs.length) (h : Dg.cut (bs.take (n + 1)) = Dg.cut bs) (hz : bs.getD n 0 ≠ 0) : Dg.cut bs = bs.take (n + 1) := by
  rw [← h]
  refine Dg.cut_of_top ?_
  rw [Dg.take_succ hn]
  exact Dg.Top.snoc hz

set_option maxHeartbeats 1000000 in
/-- 'cut' is the same slice, shorter. -/
theorem cut_c (A : Option Addr) (c : Nat) (bs : List Nat) (w : World) (h : NumsAt .u8 w w.heap.size A bs) (hn : bs.length ≤ 1000000) (hcap : bs.length ≤ c) (hc2 : c ≤ 9223372036854775807) :
    Calls Tryz.prog 128 #[.slice A bs.length c] w fun e w' => e = .returned (.slice A (Dg.cut bs).length c) ∧ w' = w := by
  go_enter Tryz.func128, Tryz.ntmps128
  go_wp2
  go_loop [0] (fun s => ∃ n : Nat, n ≤ bs.length ∧ s = .slice A n c ∧ Hid (Dg.cut (bs.take n) = Dg.cut bs)) (fun s => match s with | .slice _ n _ => n | _ => 0)
  case atStart => exact ⟨bs.length, Nat.le_refl _, rfl, hid (by rw [List.take_length])⟩
  case round =>
    obtain ⟨n, hle, rfl, HE⟩ := hrel
    rcases Nat.eq_zero_or_pos n with h0 | h0
    · subst h0
      have E := HE.out
      have E2 : Hid ((Dg.cut bs).length = 0) := hid (by rw [← E]; rfl)
      clear E
      go_wp2
      go_ret
      exact ⟨by rw [E2.out]; rfl, rfl⟩
    · obtain ⟨m, rfl⟩ : ∃ m, n = m + 1 := ⟨n - 1, by omega⟩
      obtain ⟨ad, rfl, hb, hc⟩ := h (by omega)
      have hcm := hc m (by omega)
      clear hc
      by_cases hz : bs.getD m 0 = 0
      · have E := hid (cut_step (by omega) HE.out hz)
        have hcm' : w.cell? (ad.add m) = some (.int .u8 0) := by rw [hcm, hz]; rfl
        clear hcm hz
        go_wp2
        go_round
        case rel => exact ⟨m, by omega, rfl, E⟩
        case measure => simp
      · have E := hid (cut_stop (by omega) HE.out hz)
        have hz' : (((bs.getD m 0 : Nat) : Int) == 0) = false := by rw [beq_eq_false_iff_ne]; omega
        clear hz
        generalize bs.getD m 0 = x at *
        go_wp2
        go_ret
        refine ⟨?_, rfl⟩
        have : (Dg.cut bs).length = m + 1 := by rw [E.out, List.length_take, Nat.min_eq_left (by omega)]
        rw [this]
        rfl

/-- The 'k' lowest bits of a number, the lowest first. -/
def low (x : Nat) : Nat → List Nat
  | 0 => []
  | k + 1 => low x k ++ [x / 2 ^ k % 2]
end Go.Proofs.YtjdgcgpidhljpaaGreatDoor
namespace Go.Proofs.YtjdgcgpidhljpaaGreatDoor
open Go.RowKit

theorem pow_parts (k : Nat) : (4294967296 : Nat) ^ (k / 32) * 2 ^ (k % 32) = 2 ^ k := by
  rw [show (4294967296 : Nat) = 2 ^ 32 from rfl, ← Nat.pow_mul, ← Nat.pow_add, Nat.div_add_mod]
theorem val_set (B : Nat) : ∀ (xs : List Nat) (j x : Nat), j < xs.length → Dg.val B (xs.set j (xs.getD j 0 + x)) = Dg.val B xs + B ^ j * x
  | [], j, _, h => by simp at h
  | y :: r, 0, x, _ => by simp; omega
  | y :: r, j + 1, x, h => by
    have := val_set B r j x (by simpa using h)
    simp only [List.set_cons_succ, Dg.val_cons, List.getD_cons_succ, this, Nat.pow_succ]
    rw [Nat.mul_add, ← Nat.mul_assoc, Nat.mul_comm B (B ^ j)]
    omega
theorem val_ge_at (B : Nat) : ∀ (xs : List Nat) (j : Nat), j < xs.length → B ^ j * xs.getD j 0 ≤ Dg.val B xs
  | [], j, h => by simp at h
  | y :: r, 0, _ => by simp
  | y :: r, j + 1, h => by
    have := Nat.mul_le_mul_left B (val_ge_at B r j (by simpa using h))
    rw [← Nat.mul_assoc] at this
    simp only [Dg.val_cons, List.getD_cons_succ, Nat.pow_succ]
    rw [Nat.mul_comm (B ^ j) B]
    omega
/-- The word in which the next bit goes still has room for it. -/
theorem word_room {L bs : List Nat} {k : Nat} (hl : k / 32 < L.length) (hv : Dg.val 4294967296 L = Dg.val 2 (bs.take k)) (lb : Dg.Low 2 bs) : L.getD (k / 32) 0 < 2 ^ (k % 32) := by
  have h1 := val_ge_at 4294967296 L (k / 32) hl
  have h2 := Dg.val_lt (lb.take k)
  have h3 : (2 : Nat) ^ (bs.take k).length ≤ 2 ^ k := Nat.pow_le_pow_right (by decide) (by rw [List.length_take]; omega)
  rw [hv] at h1
  have h4 : 4294967296 ^ (k / 32) * L.getD (k / 32) 0 < 4294967296 ^ (k / 32) * 2 ^ (k % 32) := by
    rw [pow_parts]; omega
  exact Nat.lt_of_mul_lt_mul_left h4
theorem word_round {L bs : List Nat} {k : Nat} (hk : k < bs.length) (hl : k / 32 < L.length) (hv : Dg.val 4294967296 L = Dg.val 2 (bs.take k)) :
    Dg.val 4294967296 (L.set (k / 32) (L.getD (k / 32) 0 + bs.getD k 0 * 2 ^ (k % 32))) = Dg.val 2 (bs.take (k + 1)) := by
  rw [val_set _ _ _ _ hl, Dg.val_take_succ 2 hk, hv, ← pow_parts k, Nat.mul_assoc, Nat.mul_comm (bs.getD k 0)]
theorem words_top {L bs : List Nat} (ll : Dg.Low 4294967296 L) (hl : L.length = (bs.length + 31) / 32) (hv : Dg.val 4294967296 L = Dg.val 2 bs) (tb : Dg.Top bs) : Dg.Top L := by
  rcases List.eq_nil_or_concat L with rfl | ⟨r, x, rfl⟩
  · exact Dg.Top.nil
  · rw [List.concat_eq_append] at *
    refine Dg.Top.snoc ?_
    rintro rfl
    have h1 := Dg.val_lt (xs := r) (B := 4294967296) (fun y hy => ll y (List.mem_append_left _ hy))
    rw [Dg.val_snoc, Nat.mul_zero, Nat.add_zero] at hv
    simp only [List.length_append, List.length_cons, List.length_nil, Nat.zero_add] at hl
    have hne : bs ≠ [] := by rintro rfl; simp at hl
    have h2 := Dg.val_ge (B := 2) tb hne
    have h3 : (4294967296 : Nat) ^ r.length = 2 ^ (32 * r.length) := by rw [show (4294967296 : Nat) = 2 ^ 32 from rfl, ← Nat.pow_mul]
    have h4 : (2 : Nat) ^ (32 * r.length) ≤ 2 ^ (bs.length - 1) := Nat.pow_le_pow_right (by decide) (by omega)
    rw [hv, h3] at h1
    exact absurd (Nat.le_trans h4 h2) (Nat.not_le_of_lt h1)

theorem word_sum {v x k : Nat} (hv : v < 2 ^ (k % 32)) (hx : x < 2) : v + x * 2 ^ (k % 32) < 4294967296 := by
  have h1 : (2 : Nat) ^ (k % 32) ≤ 2 ^ 31 := Nat.pow_le_pow_right (by decide) (by omega)
  have h2 : x * 2 ^ (k % 32) ≤ 1 * 2 ^ (k % 32) := Nat.mul_le_mul_right _ (by omega)
  omega
theorem word_cell2 {v x k : Nat} (hv : v < 2 ^ (k % 32)) (hx : x < 2) : Value.int .u32 ((((v : Nat) : Int) + ((x : Nat) : Int) * 2 ^ (k % 32)) % 4294967296) = .int .u32 ((v + x * 2 ^ (k % 32) : Nat) : Int) := by
  have h := word_sum hv hx
  have e : ((x : Nat) : Int) * 2 ^ (k % 32) = ((x * 2 ^ (k % 32) : Nat) : Int) := by push_cast; rfl
  rw [e]
  generalize x * 2 ^ (k % 32) = z at *
  congr 1
  omega

set_option maxHeartbeats 4000000 in
theorem words_c (A : Option Addr) (c : Nat) (bs : List Nat) (w : World) (h : NumsAt .u8 w w.heap.size A bs) (lb : Dg.Low 2 bs) (hn : bs.length ≤ 1000000) :
    Calls Tryz.prog 129 #[.slice A bs.length c] w fun e w' => ∃ A' c' L, e = .returned (.slice A' L.length c') ∧ OwnNums .u32 w w' 217 A' c' L ∧ Dg.Low 4294967296 L ∧ Dg.val 4294967296 L = Dg.val 2 bs ∧ L.length = (bs.length + 31) / 32 ∧ Grew w w' := by
  have H := hid h
  have hn' : (bs.length : Int) ≤ 1000000 := by omega
  clear h
  go_enter Tryz.func129, Tryz.ntmps129
  go_wp2
  go_loopw [3, 4] (fun s i wr => ∃ (k : Nat) (E : Option Addr) (f : Nat) (L : List Nat), i = .int .i64 k ∧ s = .slice E L.length f ∧ OwnNums .u32 w wr 217 E f L ∧ Grew w wr ∧ k ≤ bs.length ∧ Hid (L.length = (k + 31) / 32 ∧ Dg.Low 4294967296 L ∧ Dg.val 4294967296 L = Dg.val 2 (bs.take k))) (fun _ i _ => bs.length - (intOf i).toNat)
  case atStart => exact ⟨0, none, 0, [], rfl, rfl, OwnNums.nil _ _ _ _, Grew.refl _, Nat.zero_le _, hid ⟨rfl, Dg.Low.nil _, by simp⟩⟩
  case round =>
    obtain ⟨k, E, f, L, rfl, rfl, hown, hg, hk, HL⟩ := hrel
    by_cases hlt : k < bs.length
    · have hlt' : (k : Int) < (bs.length : Int) := by omega
      obtain ⟨ad, ea, had, hca⟩ := H.out (by omega)
      subst ea
      have hLl : L.length ≤ 31251 := by rw [HL.out.1]; omega
      have hcw := hid (hca k hlt)
      have gx := Dg.Low.getD (by decide) lb k
      obtain ⟨x, hx⟩ : ∃ x, x = bs.getD k 0 := ⟨_, rfl⟩
      rw [← hx] at gx hcw
      have HX := hid hx
      clear hca hx
      by_cases hm : k % 32 = 0
      · have hm' : (((k : Nat) : Int) % 32 == 0) = true := by rw [beq_iff_eq]; omega
        have HMm := hid hm
        clear hm
        go_wp2_with (at_builtin; refine wpList_push .u32 4 w wr rfl _ _ 137 217 rfl Tryz.underlying137 Tryz.info_u32 hg E f L rfl hown 0 _ rfl rfl _ rfl (by omega) (by omega) ?_; rintro A' c' W1 hO hG)
        have HM : Hid ((L ++ [0]).length = k / 32 + 1 ∧ Dg.Low 4294967296 (L ++ [0]) ∧ Dg.val 4294967296 (L ++ [0]) = Dg.val 2 (bs.take k)) := hid ⟨by have := HMm.out; rw [List.length_append, HL.out.1]; simp; omega, HL.out.2.1.snoc (by decide), by rw [Dg.val_snoc, Nat.mul_zero, Nat.add_zero]; exact HL.out.2.2⟩
        rw [show L.length + 1 = (L ++ [0]).length by simp]
        clear hown hg HL hLl
        generalize L ++ [0] = M at *
        rcases hO.cases with ⟨rfl, rfl, e⟩ | ⟨g, rfl, hg0, hg1, hcell, hfro, hcap⟩
        · exfalso; have := HM.out.1; rw [e] at this; simp at this
        have hML : M.length = k / 32 + 1 := HM.out.1
        have c1 := hcell (k / 32) (by omega)
        have f1 := hfro (k / 32)
        have c2 : W1.cell? (ad.add k) = some (.int .u8 x) := by rw [hG.below.cell (by rw [block_add]; exact had)]; exact hcw.out
        have vr := word_room (k := k) (by omega) HM.out.2.2 lb
        have wd := word_round hlt (by omega) HM.out.2.2
        rw [← HX.out] at wd
        have hlt2 : (k : Int) / 32 < (M.length : Int) := by omega
        have HML := hid hML
        generalize M.getD (k / 32) 0 = v at *
        have HVR := hid vr
        have HWD := hid wd
        have HEQ := hid (word_cell2 vr gx)
        clear hcell hfro hML vr wd
        go_region
        rw [HEQ.out]
        go_wp2
        go_roundw
        case rel => exact ⟨k + 1, some ⟨g, 0, none⟩, c', M.set (k / 32) (v + x * 2 ^ (k % 32)), by go_num, by rw [List.length_set], (OwnNums.set hO (k / 32) _).drew, (hG.setCell hg0 _).drew, by omega, hid ⟨by rw [List.length_set, HML.out]; omega, HM.out.2.1.set (word_sum HVR.out gx) _, HWD.out⟩⟩
        case measure => simp [intOf] <;> omega
      · have hm' : (((k : Nat) : Int) % 32 == 0) = false := by rw [beq_eq_false_iff_ne]; omega
        have HM : Hid (L.length = k / 32 + 1 ∧ Dg.Low 4294967296 L ∧ Dg.val 4294967296 L = Dg.val 2 (bs.take k)) := hid ⟨by rw [HL.out.1]; omega, HL.out.2⟩
        have HMm := hid hm
        clear hm
        go_wp2_with fail
        have hO := hown
        have hG := hg
        clear hown hg HL hLl
        obtain ⟨W1, rfl⟩ : ∃ W, W = wr := ⟨_, rfl⟩
        obtain ⟨A', rfl⟩ : ∃ A', A' = E := ⟨_, rfl⟩
        obtain ⟨c', rfl⟩ : ∃ c', c' = f := ⟨_, rfl⟩
        generalize L = M at *
        rcases hO.cases with ⟨rfl, rfl, e⟩ | ⟨g, rfl, hg0, hg1, hcell, hfro, hcap⟩
        · exfalso; have := HM.out.1; rw [e] at this; simp at this
        have hML : M.length = k / 32 + 1 := HM.out.1
        have c1 := hcell (k / 32) (by omega)
        have f1 := hfro (k / 32)
        have c2 : W1.cell? (ad.add k) = some (.int .u8 x) := by rw [hG.below.cell (by rw [block_add]; exact had)]; exact hcw.out
        have vr := word_room (k := k) (by omega) HM.out.2.2 lb
        have wd := word_round hlt (by omega) HM.out.2.2
        rw [← HX.out] at wd
        have hlt2 : (k : Int) / 32 < (M.length : Int) := by omega
        have HML := hid hML
        generalize M.getD (k / 32) 0 = v at *
        have HVR := hid vr
        have HWD := hid wd
        have HEQ := hid (word_cell2 vr gx)
        clear hcell hfro hML vr wd
        go_region
        rw [HEQ.out]
        go_wp2
        go_roundw
        case rel => exact ⟨k + 1, some ⟨g, 0, none⟩, c', M.set (k / 32) (v + x * 2 ^ (k % 32)), by go_num, by rw [List.length_set], (OwnNums.set hO (k / 32) _).drew, (hG.setCell hg0 _).drew, by omega, hid ⟨by rw [List.length_set, HML.out]; omega, HM.out.2.1.set (word_sum HVR.out gx) _, HWD.out⟩⟩
        case measure => simp [intOf] <;> omega
    · have hlt' : ¬ (k : Int) < (bs.length : Int) := by omega
      obtain rfl : k = bs.length := by omega
      have HE := hid (show L.length = (bs.length + 31) / 32 ∧ Dg.Low 4294967296 L ∧ Dg.val 4294967296 L = Dg.val 2 bs from ⟨HL.out.1, HL.out.2.1, by rw [HL.out.2.2, List.take_length]⟩)
      go_wp2
      go_ret
      exact ⟨E, f, L, rfl, hown, HE.out.2.1, HE.out.2.2, HE.out.1, hg⟩
end Go.Proofs.YtjdgcgpidhljpaaGreatDoor
namespace Go.Proofs.YtjdgcgpidhljpaaGreatDoor
open Go.RowKit

theorem made_rep (neg : Bool) (bs L : List Nat) (ll : Dg.Low 4294967296 L) (hv : Dg.val 4294967296 L = Dg.val 2 bs) (ht : Dg.Top L) : Lg.Rep (neg && decide (0 < L.length)) L (Lg.sgn neg (Dg.val 2 bs)) := by
  refine ⟨ll, ht, by rw [Lg.sgn_abs, hv], ?_⟩
  rw [← Lg.sgn_neg]
  congr 1
  rw [decide_eq_decide, ← hv]
  constructor
  · intro h
    have := Dg.val_pos (B := 4294967296) (by decide) ht (by rintro rfl; simp at h)
    omega
  · intro h
    rcases Nat.eq_zero_or_pos L.length with h0 | h0
    · exact absurd (by rw [List.eq_nil_of_length_eq_zero h0]; rfl) h
    · exact h0

set_option maxHeartbeats 2000000 in
theorem made_c (neg : Bool) (A : Option Addr) (c : Nat) (bs : List Nat) (w : World) (h : NumsAt .u8 w w.heap.size A bs) (lb : Dg.Low 2 bs) (hn : bs.length ≤ 1000000) (hcap : bs.length ≤ c) (hc2 : c ≤ 9223372036854775807) :
    Calls Tryz.prog 108 #[.bool neg, .slice A bs.length c] w fun e w' => ∃ A' c' ng L k, e = .returned (.tuple #[.agg #[.bool ng, .slice A' L.length c'], .int .i64 ((k : Nat) : Int)]) ∧ OwnNums .u32 w w' 217 A' c' L ∧ Lg.Out (Lg.sgn neg (Dg.val 2 bs)) ng L k ∧ Grew w w' := by
  have H := hid h
  have HC := hid hcap
  have HC2 := hid hc2
  clear h hcap hc2
  go_enter Tryz.func108, Tryz.ntmps108
  go_wp2_with fail
  refine (cut_c A c bs _ (H.out.grew ((Grew.refl _).alloc _)) hn HC.out HC2.out).mono ?_
  rintro e w1 ⟨rfl, rfl⟩
  go_wp2_with fail
  have hcut : NumsAt .u8 (w.alloc (.cells #[.bool false, .slice none 0 0] 139)) (w.alloc (.cells #[.bool false, .slice none 0 0] 139)).heap.size A (Dg.cut bs) := by
    rw [Dg.cut_take]
    exact (H.out.grew ((Grew.refl _).alloc _)).take _
  refine (words_c A c (Dg.cut bs) _ hcut (Dg.cut_low lb) (Nat.le_trans (Dg.cut_len bs) hn)).mono ?_
  rintro e w2 ⟨A', c', L, rfl, hN, ll, hv, hlen, hg⟩
  have HR : Hid (Lg.Rep (neg && decide (0 < L.length)) L (Lg.sgn neg (Dg.val 2 bs))) := hid (made_rep neg bs L ll (by rw [hv, Dg.cut_val]) (words_top ll hlen hv (Dg.cut_top bs)))
  have HG := hid (((Grew.refl w).alloc (.cells #[.bool false, .slice none 0 0] 139)).trans hg)
  have HN := hid (hN.mono ((Grew.refl w).alloc (.cells #[.bool false, .slice none 0 0] 139)))
  have hL : L.length ≤ 40000 := by
    have := Dg.cut_len bs
    omega
  have e0 : w2.cell? ⟨w.heap.size, 0, none⟩ = some (.bool false) := by rw [hg.below.cell (by simp)]; simp
  have e1 : w2.cell? ⟨w.heap.size, 1, none⟩ = some (.slice none 0 0) := by rw [hg.below.cell (by simp)]; simp
  have f0 : ∀ i, w2.frozen? ⟨w.heap.size, i, none⟩ = false := fun i => by rw [hg.below.frozen (by simp)]; simp
  have HF := hid (show ∀ g, A' = some ⟨g, 0, none⟩ → g ≠ w.heap.size from fun g hA => by
    have := (World.ownsRow.lt hN) g (by rw [hA]; rfl)
    simp at this
    omega)
  clear hv hlen hg hN ll hcut
  by_cases hb : 64 < L.length
  · have hb' : (64 : Int) < (L.length : Int) := by omega
    go_wp2_with fail
    refine bodyPost_ret (v := .tuple #[.agg #[.bool false, .slice none 0 0], .int .i64 4]) (by simp [results, Tryz.results108, go_sem, *]) rfl ?_
    exact ⟨none, 0, false, [], 4, rfl, OwnNums.nil _ _ _ _, Lg.Out.of_long HR.out hb, (HG.out.setCell (Nat.le_refl _) _).setCell (Nat.le_refl _) _⟩
  · have hb' : ¬ (64 : Int) < (L.length : Int) := by omega
    cases neg
    · go_wp2_with fail
      refine bodyPost_ret (v := .tuple #[.agg #[.bool false, .slice A' L.length c'], .int .i64 0]) (by simp [results, Tryz.results108, go_sem, *]) rfl ?_
      exact ⟨A', c', false, L, 0, rfl, (HN.out.far (fun g hA => HF.out g hA) _).far (fun g hA => HF.out g hA) _, Lg.Out.of_rep HR.out (by omega), (HG.out.setCell (Nat.le_refl _) _).setCell (Nat.le_refl _) _⟩
    · go_wp2_with fail
      refine bodyPost_ret (v := .tuple #[.agg #[.bool (decide (0 < L.length)), .slice A' L.length c'], .int .i64 0]) (by simp [results, Tryz.results108, go_sem, *]) rfl ?_
      exact ⟨A', c', decide (0 < L.length), L, 0, rfl, (HN.out.far (fun g hA => HF.out g hA) _).far (fun g hA => HF.out g hA) _, Lg.Out.of_rep HR.out (by omega), (HG.out.setCell (Nat.le_refl _) _).setCell (Nat.le_refl _) _⟩

end Go.Proofs.YtjdgcgpidhljpaaGreatDoor
namespace Go.Proofs.YtjdgcgpidhljpaaGreatDoor
open Go.RowKit

theorem mul_round {P Q L : List Nat} {m : Nat} (hm : m < Q.length) (hv : Dg.val 2 L = Dg.val 2 P * Dg.val 2 (Q.drop (m + 1))) :
    (Q.getD m 0 = 0 → Dg.val 2 ([0] ++ L) = Dg.val 2 P * Dg.val 2 (Q.drop m)) ∧ (Q.getD m 0 = 1 → Dg.val 2 ([0] ++ L) + Dg.val 2 P = Dg.val 2 P * Dg.val 2 (Q.drop m)) := by
  have e : Dg.val 2 ([0] ++ L) = 2 * Dg.val 2 L := by simp
  rw [e, hv, Dg.val_drop 2 hm]
  refine ⟨fun h => ?_, fun h => ?_⟩
  · rw [h, Nat.zero_add, ← Nat.mul_assoc, ← Nat.mul_assoc, Nat.mul_comm 2]
  · rw [h, Nat.mul_add, Nat.mul_one, ← Nat.mul_assoc, ← Nat.mul_assoc, Nat.mul_comm 2]
    omega

end Go.Proofs.YtjdgcgpidhljpaaGreatDoor

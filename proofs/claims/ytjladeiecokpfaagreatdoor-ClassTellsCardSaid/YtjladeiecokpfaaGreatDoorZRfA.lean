/- Parts of elder texts that this layer needs, joined: XYRfA XYRfB. -/
import Derived.Test.YtjladeiecokpfaaGreatDoorProg
import Derived.Test.YtjladeiecokpfaaGreatDoorZBase
import Derived.BigRegion
import Derived.Test.YtjladeiecokpfaaGreatDoorZLgM
import Derived.Deep.DeepCutAuto
import Derived.Deep.RegionHeld3
import Derived.Laws.Strings
import Derived.Deep.RegionLaw
namespace Go.Proofs.YtjladeiecokpfaaGreatDoor
open Go.RowKit

theorem Tryz.info_u8 : (Tryz.prog.info? 5).map (fun i => (i.zero, i.size, i.bytes)) = some (some (.int .u8 0), 1, 1) := by kernel_rfl
theorem Tryz.info_u32 : (Tryz.prog.info? 226).map (fun i => (i.zero, i.size, i.bytes)) = some (some (.int .u32 0), 1, 4) := by kernel_rfl

theorem cut_step {bs : List Nat} {n : Nat} (hn : n < bs.length) (h : Dg.cut (bs.take (n + 1)) = Dg.cut bs) (hz : bs.getD n 0 = 0) : Dg.cut (bs.take n) = Dg.cut bs := by
  rw [← h, Dg.take_succ hn, hz, Dg.cut_snoc_zero]
theorem cut_stop {bs : List Nat} {n : Nat} (hn : n < bs.length) (h : Dg.cut (bs.take (n + 1)) = Dg.cut bs) (hz : bs.getD n 0 ≠ 0) : Dg.cut bs = bs.take (n + 1) := by
  rw [← h]
  refine Dg.cut_of_top ?_
  rw [Dg.take_succ hn]
  exact Dg.Top.snoc hz

set_option maxHeartbeats 1000000 in
/-- 'cut' is the same slice, shorter. -/
theorem cut_c (A : Option Addr) (c : Nat) (bs : List Nat) (w : World) (h : NumsAt .u8 w w.heap.size A bs) (hn : bs.length ≤ 1000000) (hcap : bs.length ≤ c) (hc2 : c ≤ 9223372036854775807) :
    Calls Tryz.prog 136 #[.slice A bs.length c] w fun e w' => e = .returned (.slice A (Dg.cut bs).length c) ∧ w' = w := by
  go_enter Tryz.func136, Tryz.ntmps136
  go_wp2
  go_loop [0] (fun s => ∃ n : Nat, n ≤ bs.length ∧ s = .slice A n c ∧ Hid (Dg.cut (bs.take n) = Dg.cut bs)) (fun s => match s with | .slice _ n _ => n | _ => 0)
  case atStart => exact ⟨bs.length, Nat.le_refl _, rfl, hid (by rw [List.take_length])⟩
  case round =>
    obtain ⟨n, hle, rfl, HE⟩ := hrel
    rcases Nat.eq_zero_or_pos n with h0 | h0
    · subst h0
      have E := HE.out
      have E2 : Hid ((Dg.cut bs).length = 0) := hid (by rw [← E]; rfl)
      clear E
      go_wp2
      go_ret
      exact ⟨by rw [E2.out]; rfl, rfl⟩
    · obtain ⟨m, rfl⟩ : ∃ m, n = m + 1 := ⟨n - 1, by omega⟩
      obtain ⟨ad, rfl, hb, hc⟩ := h (by omega)
      have hcm := hc m (by omega)
      clear hc
      by_cases hz : bs.getD m 0 = 0
      · have E := hid (cut_step (by omega) HE.out hz)
        have hcm' : w.cell? (ad.add m) = some (.int .u8 0) := by rw [hcm, hz]; rfl
        clear hcm hz
        go_wp2
        go_round
        case rel => exact ⟨m, by omega, rfl, E⟩
        case measure => simp
      · have E := hid (cut_stop (by omega) HE.out hz)
        have hz' : (((bs.getD m 0 : Nat) : Int) == 0) = false := by rw [beq_eq_false_iff_ne]; omega
        clear hz
        generalize bs.getD m 0 = x at *
        go_wp2
        go_ret
        refine ⟨?_, rfl⟩
        have : (Dg.cut bs).length = m + 1 := by rw [E.out, List.length_take, Nat.min_eq_left (by omega)]
        rw [this]
        rfl

/-- The 'k' lowest bits of a number, the lowest first. -/
def low (x : Nat) : Nat → List Nat
  | 0 => []
  | k + 1 => low x k ++ [x / 2 ^ k % 2]
end Go.Proofs.YtjladeiecokpfaaGreatDoor
namespace Go.Proofs.YtjladeiecokpfaaGreatDoor
open Go.RowKit

theorem pow_parts (k : Nat) : (4294967296 : Nat) ^ (k / 32) * 2 ^ (k % 32) = 2 ^ k := by
  rw [show (4294967296 : Nat) = 2 ^ 32 from rfl, ← Nat.pow_mul, ← Nat.pow_add, Nat.div_add_mod]
theorem val_set (B : Nat) : ∀ (xs : List Nat) (j x : Nat), j < xs.length → Dg.val B (xs.set j (xs.getD j 0 + x)) = Dg.val B xs + B ^ j * x
  | [], j, _, h => by simp at h
  | y :: r, 0, x, _ => by simp; omega
  | y :: r, j + 1, x, h => by
    have := val_set B r j x (by simpa using h)
    simp only [List.set_cons_succ, Dg.val_cons, List.getD_cons_succ, this, Nat.pow_succ]
    rw [Nat.mul_add, ← Nat.mul_assoc, Nat.mul_comm B (B ^ j)]
    omega
theorem val_ge_at (B : Nat) : ∀ (xs : List Nat) (j : Nat), j < xs.length → B ^ j * xs.getD j 0 ≤ Dg.val B xs
  | [], j, h => by simp at h
  | y :: r, 0, _ => by simp
  | y :: r, j + 1, h => by
    have := Nat.mul_le_mul_left B (val_ge_at B r j (by simpa using h))
    rw [← Nat.mul_assoc] at this
    simp only [Dg.val_cons, List.getD_cons_succ, Nat.pow_succ]
    rw [Nat.mul_comm (B ^ j) B]
    omega
/-- The word in which the next bit goes still has room for it. -/
theorem word_room {L bs : List Nat} {k : Nat} (hl : k / 32 < L.length) (hv : Dg.val 4294967296 L = Dg.val 2 (bs.take k)) (lb : Dg.Low 2 bs) : L.getD (k / 32) 0 < 2 ^ (k % 32) := by
  have h1 := val_ge_at 4294967296 L (k / 32) hl
  have h2 := Dg.val_lt (lb.take k)
  have h3 : (2 : Nat) ^ (bs.take k).length ≤ 2 ^ k := Nat.pow_le_pow_right (by decide) (by rw [List.length_take]; omega)
  rw [hv] at h1
  have h4 : 4294967296 ^ (k / 32) * L.getD (k / 32) 0 < 4294967296 ^ (k / 32) * 2 ^ (k % 32) := by
    rw [pow_parts]; omega
  exact Nat.lt_of_mul_lt_mul_left h4
theorem word_round {L bs : List Nat} {k : Nat} (hk : k < bs.length) (hl : k / 32 < L.length) (hv : Dg.val 4294967296 L = Dg.val 2 (bs.take k)) :
    Dg.val 4294967296 (L.set (k / 32) (L.getD (k / 32) 0 + bs.getD k 0 * 2 ^ (k % 32))) = Dg.val 2 (bs.take (k + 1)) := by
  rw [val_set _ _ _ _ hl, Dg.val_take_succ 2 hk, hv, ← pow_parts k, Nat.mul_assoc, Nat.mul_comm (bs.getD k 0)]
theorem words_top {L bs : List Nat} (ll : Dg.Low 4294967296 L) (hl : L.length = (bs.length + 31) / 32) (hv : Dg.val 4294967296 L = Dg.val 2 bs) (tb : Dg.Top bs) : Dg.Top L := by
  rcases List.eq_nil_or_concat L with rfl | ⟨r, x, rfl⟩
  · exact Dg.Top.nil
  · rw [List.concat_eq_append] at *
    refine Dg.Top.snoc ?_
    rintro rfl
    have h1 := Dg.val_lt (xs := r) (B := 4294967296) (fun y hy => ll y (List.mem_append_left _ hy))
    rw [Dg.val_snoc, Nat.mul_zero, Nat.add_zero] at hv
    simp only [List.length_append, List.length_cons, List.length_nil, Nat.zero_add] at hl
    have hne : bs ≠ [] := by rintro rfl; simp at hl
    have h2 := Dg.val_ge (B := 2) tb hne
    have h3 : (4294967296 : Nat) ^ r.length = 2 ^ (32 * r.length) := by rw [show (4294967296 : Nat) = 2 ^ 32 from rfl, ← Nat.pow_mul]
    have h4 : (2 : Nat) ^ (32 * r.length) ≤ 2 ^ (bs.length - 1) := Nat.pow_le_pow_right (by decide) (by omega)
    rw [hv, h3] at h1
    exact absurd (Nat.le_trans h4 h2) (Nat.not_le_of_lt h1)

theorem word_sum {v x k : Nat} (hv : v < 2 ^ (k % 32)) (hx : x < 2) : v + x * 2 ^ (k % 32) < 4294967296 := by
  have h1 : (2 : Nat) ^ (k % 32) ≤ 2 ^ 31 := Nat.pow_le_pow_right (by decide) (by omega)
  have h2 : x * 2 ^ (k % 32) ≤ 1 * 2 ^ (k % 32) := Nat.mul_le_mul_right _ (by omega)
  omega
theorem word_cell2 {v x k : Nat} (hv : v < 2 ^ (k % 32)) (hx : x < 2) : Value.int .u32 ((((v : Nat) : Int) + ((x : Nat) : Int) * 2 ^ (k % 32)) % 4294967296) = .int .u32 ((v + x * 2 ^ (k % 32) : Nat) : Int) := by
  have h := word_sum hv hx
  have e : ((x : Nat) : Int) * 2 ^ (k % 32) = ((x * 2 ^ (k % 32) : Nat) : Int) := by push_cast; rfl
  rw [e]
  generalize x * 2 ^ (k % 32) = z at *
  congr 1
  omega

set_option maxHeartbeats 4000000 in
theorem words_c (A : Option Addr) (c : Nat) (bs : List Nat) (w : World) (h : NumsAt .u8 w w.heap.size A bs) (lb : Dg.Low 2 bs) (hn : bs.length ≤ 1000000) :
    Calls Tryz.prog 137 #[.slice A bs.length c] w fun e w' => ∃ A' c' L, e = .returned (.slice A' L.length c') ∧ OwnNums .u32 w w' 226 A' c' L ∧ Dg.Low 4294967296 L ∧ Dg.val 4294967296 L = Dg.val 2 bs ∧ L.length = (bs.length + 31) / 32 ∧ Grew w w' := by
  have H := hid h
  have hn' : (bs.length : Int) ≤ 1000000 := by omega
  clear h
  go_enter Tryz.func137, Tryz.ntmps137
  go_wp2
  go_loopw [3, 4] (fun s i wr => ∃ (k : Nat) (E : Option Addr) (f : Nat) (L : List Nat), i = .int .i64 k ∧ s = .slice E L.length f ∧ OwnNums .u32 w wr 226 E f L ∧ Grew w wr ∧ k ≤ bs.length ∧ Hid (L.length = (k + 31) / 32 ∧ Dg.Low 4294967296 L ∧ Dg.val 4294967296 L = Dg.val 2 (bs.take k))) (fun _ i _ => bs.length - (intOf i).toNat)
  case atStart => exact ⟨0, none, 0, [], rfl, rfl, OwnNums.nil _ _ _ _, Grew.refl _, Nat.zero_le _, hid ⟨rfl, Dg.Low.nil _, by simp⟩⟩
  case round =>
    obtain ⟨k, E, f, L, rfl, rfl, hown, hg, hk, HL⟩ := hrel
    by_cases hlt : k < bs.length
    · have hlt' : (k : Int) < (bs.length : Int) := by omega
      obtain ⟨ad, ea, had, hca⟩ := H.out (by omega)
      subst ea
      have hLl : L.length ≤ 31251 := by rw [HL.out.1]; omega
      have hcw := hid (hca k hlt)
      have gx := Dg.Low.getD (by decide) lb k
      obtain ⟨x, hx⟩ : ∃ x, x = bs.getD k 0 := ⟨_, rfl⟩
      rw [← hx] at gx hcw
      have HX := hid hx
      clear hca hx
      by_cases hm : k % 32 = 0
      · have hm' : (((k : Nat) : Int) % 32 == 0) = true := by rw [beq_iff_eq]; omega
        have HMm := hid hm
        clear hm
        go_wp2_with (at_builtin; refine wpList_push .u32 4 w wr rfl _ _ 143 226 rfl Tryz.underlying143 Tryz.info_u32 hg E f L rfl hown 0 _ rfl rfl _ rfl (by omega) (by omega) ?_; rintro A' c' W1 hO hG)
        have HM : Hid ((L ++ [0]).length = k / 32 + 1 ∧ Dg.Low 4294967296 (L ++ [0]) ∧ Dg.val 4294967296 (L ++ [0]) = Dg.val 2 (bs.take k)) := hid ⟨by have := HMm.out; rw [List.length_append, HL.out.1]; simp; omega, HL.out.2.1.snoc (by decide), by rw [Dg.val_snoc, Nat.mul_zero, Nat.add_zero]; exact HL.out.2.2⟩
        rw [show L.length + 1 = (L ++ [0]).length by simp]
        clear hown hg HL hLl
        generalize L ++ [0] = M at *
        rcases hO.cases with ⟨rfl, rfl, e⟩ | ⟨g, rfl, hg0, hg1, hcell, hfro, hcap⟩
        · exfalso; have := HM.out.1; rw [e] at this; simp at this
        have hML : M.length = k / 32 + 1 := HM.out.1
        have c1 := hcell (k / 32) (by omega)
        have f1 := hfro (k / 32)
        have c2 : W1.cell? (ad.add k) = some (.int .u8 x) := by rw [hG.below.cell (by rw [block_add]; exact had)]; exact hcw.out
        have vr := word_room (k := k) (by omega) HM.out.2.2 lb
        have wd := word_round hlt (by omega) HM.out.2.2
        rw [← HX.out] at wd
        have hlt2 : (k : Int) / 32 < (M.length : Int) := by omega
        have HML := hid hML
        generalize M.getD (k / 32) 0 = v at *
        have HVR := hid vr
        have HWD := hid wd
        have HEQ := hid (word_cell2 vr gx)
        clear hcell hfro hML vr wd
        go_region
        rw [HEQ.out]
        go_wp2
        go_roundw
        case rel => exact ⟨k + 1, some ⟨g, 0, none⟩, c', M.set (k / 32) (v + x * 2 ^ (k % 32)), by go_num, by rw [List.length_set], (OwnNums.set hO (k / 32) _).drew, (hG.setCell hg0 _).drew, by omega, hid ⟨by rw [List.length_set, HML.out]; omega, HM.out.2.1.set (word_sum HVR.out gx) _, HWD.out⟩⟩
        case measure => simp [intOf] <;> omega
      · have hm' : (((k : Nat) : Int) % 32 == 0) = false := by rw [beq_eq_false_iff_ne]; omega
        have HM : Hid (L.length = k / 32 + 1 ∧ Dg.Low 4294967296 L ∧ Dg.val 4294967296 L = Dg.val 2 (bs.take k)) := hid ⟨by rw [HL.out.1]; omega, HL.out.2⟩
        have HMm := hid hm
        clear hm
        go_wp2_with fail
        have hO := hown
        have hG := hg
        clear hown hg HL hLl
        obtain ⟨W1, rfl⟩ : ∃ W, W = wr := ⟨_, rfl⟩
        obtain ⟨A', rfl⟩ : ∃ A', A' = E := ⟨_, rfl⟩
        obtain ⟨c', rfl⟩ : ∃ c', c' = f := ⟨_, rfl⟩
        generalize L = M at *
        rcases hO.cases with ⟨rfl, rfl, e⟩ | ⟨g, rfl, hg0, hg1, hcell, hfro, hcap⟩
        · exfalso; have := HM.out.1; rw [e] at this; simp at this
        have hML : M.length = k / 32 + 1 := HM.out.1
        have c1 := hcell (k / 32) (by omega)
        have f1 := hfro (k / 32)
        have c2 : W1.cell? (ad.add k) = some (.int .u8 x) := by rw [hG.below.cell (by rw [block_add]; exact had)]; exact hcw.out
        have vr := word_room (k := k) (by omega) HM.out.2.2 lb
        have wd := word_round hlt (by omega) HM.out.2.2
        rw [← HX.out] at wd
        have hlt2 : (k : Int) / 32 < (M.length : Int) := by omega
        have HML := hid hML
        generalize M.getD (k / 32) 0 = v at *
        have HVR := hid vr
        have HWD := hid wd
        have HEQ := hid (word_cell2 vr gx)
        clear hcell hfro hML vr wd
        go_region
        rw [HEQ.out]
        go_wp2
        go_roundw
        case rel => exact ⟨k + 1, some ⟨g, 0, none⟩, c', M.set (k / 32) (v + x * 2 ^ (k % 32)), by go_num, by rw [List.length_set], (OwnNums.set hO (k / 32) _).drew, (hG.setCell hg0 _).drew, by omega, hid ⟨by rw [List.length_set, HML.out]; omega, HM.out.2.1.set (word_sum HVR.out gx) _, HWD.out⟩⟩
        case measure => simp [intOf] <;> omega
    · have hlt' : ¬ (k : Int) < (bs.length : Int) := by omega
      obtain rfl : k = bs.length := by omega
      have HE := hid (show L.length = (bs.length + 31) / 32 ∧ Dg.Low 4294967296 L ∧ Dg.val 4294967296 L = Dg.val 2 bs from ⟨HL.out.1, HL.out.2.1, by rw [HL.out.2.2, List.take_length]⟩)
      go_wp2
      go_ret
      exact ⟨E, f, L, rfl, hown, HE.out.2.1, HE.out.2.2, HE.out.1, hg⟩
end Go.Proofs.YtjladeiecokpfaaGreatDoor
namespace Go.Proofs.YtjladeiecokpfaaGreatDoor
open Go.RowKit

theorem made_rep (neg : Bool) (bs L : List Nat) (ll : Dg.Low 4294967296 L) (hv : Dg.val 4294967296 L = Dg.val 2 bs) (ht : Dg.Top L) : Lg.Rep (neg && decide (0 < L.length)) L (Lg.sgn neg (Dg.val 2 bs)) := by
  refine ⟨ll, ht, by rw [Lg.sgn_abs, hv], ?_⟩
  rw [← Lg.sgn_neg]
  congr 1
  rw [decide_eq_decide, ← hv]
  constructor
  · intro h
    have := Dg.val_pos (B := 4294967296) (by decide) ht (by rintro rfl; simp at h)
    omega
  · intro h
    rcases Nat.eq_zero_or_pos L.length with h0 | h0
    · exact absurd (by rw [List.eq_nil_of_length_eq_zero h0]; rfl) h
    · exact h0

set_option maxHeartbeats 2000000 in
theorem made_c (neg : Bool) (A : Option Addr) (c : Nat) (bs : List Nat) (w : World) (h : NumsAt .u8 w w.heap.size A bs) (lb : Dg.Low 2 bs) (hn : bs.length ≤ 1000000) (hcap : bs.length ≤ c) (hc2 : c ≤ 9223372036854775807) :
    Calls Tryz.prog 110 #[.bool neg, .slice A bs.length c] w fun e w' => ∃ A' c' ng L k, e = .returned (.tuple #[.agg #[.bool ng, .slice A' L.length c'], .int .i64 ((k : Nat) : Int)]) ∧ OwnNums .u32 w w' 226 A' c' L ∧ Lg.Out (Lg.sgn neg (Dg.val 2 bs)) ng L k ∧ Grew w w' := by
  have H := hid h
  have HC := hid hcap
  have HC2 := hid hc2
  clear h hcap hc2
  go_enter Tryz.func110, Tryz.ntmps110
  go_wp2_with fail
  refine (cut_c A c bs _ (H.out.grew ((Grew.refl _).alloc _)) hn HC.out HC2.out).mono ?_
  rintro e w1 ⟨rfl, rfl⟩
  go_wp2_with fail
  have hcut : NumsAt .u8 (w.alloc (.cells #[.bool false, .slice none 0 0] 145)) (w.alloc (.cells #[.bool false, .slice none 0 0] 145)).heap.size A (Dg.cut bs) := by
    rw [Dg.cut_take]
    exact (H.out.grew ((Grew.refl _).alloc _)).take _
  refine (words_c A c (Dg.cut bs) _ hcut (Dg.cut_low lb) (Nat.le_trans (Dg.cut_len bs) hn)).mono ?_
  rintro e w2 ⟨A', c', L, rfl, hN, ll, hv, hlen, hg⟩
  have HR : Hid (Lg.Rep (neg && decide (0 < L.length)) L (Lg.sgn neg (Dg.val 2 bs))) := hid (made_rep neg bs L ll (by rw [hv, Dg.cut_val]) (words_top ll hlen hv (Dg.cut_top bs)))
  have HG := hid (((Grew.refl w).alloc (.cells #[.bool false, .slice none 0 0] 145)).trans hg)
  have HN := hid (hN.mono ((Grew.refl w).alloc (.cells #[.bool false, .slice none 0 0] 145)))
  have hL : L.length ≤ 40000 := by
    have := Dg.cut_len bs
    omega
  have e0 : w2.cell? ⟨w.heap.size, 0, none⟩ = some (.bool false) := by rw [hg.below.cell (by simp)]; simp
  have e1 : w2.cell? ⟨w.heap.size, 1, none⟩ = some (.slice none 0 0) := by rw [hg.below.cell (by simp)]; simp
  have f0 : ∀ i, w2.frozen? ⟨w.heap.size, i, none⟩ = false := fun i => by rw [hg.below.frozen (by simp)]; simp
  have HF := hid (show ∀ g, A' = some ⟨g, 0, none⟩ → g ≠ w.heap.size from fun g hA => by
    have := (World.ownsRow.lt hN) g (by rw [hA]; rfl)
    simp at this
    omega)
  clear hv hlen hg hN ll hcut
  by_cases hb : 64 < L.length
  · have hb' : (64 : Int) < (L.length : Int) := by omega
    go_wp2_with fail
    refine bodyPost_ret (v := .tuple #[.agg #[.bool false, .slice none 0 0], .int .i64 4]) (by simp [results, Tryz.results110, go_sem, *]) rfl ?_
    exact ⟨none, 0, false, [], 4, rfl, OwnNums.nil _ _ _ _, Lg.Out.of_long HR.out hb, (HG.out.setCell (Nat.le_refl _) _).setCell (Nat.le_refl _) _⟩
  · have hb' : ¬ (64 : Int) < (L.length : Int) := by omega
    cases neg
    · go_wp2_with fail
      refine bodyPost_ret (v := .tuple #[.agg #[.bool false, .slice A' L.length c'], .int .i64 0]) (by simp [results, Tryz.results110, go_sem, *]) rfl ?_
      exact ⟨A', c', false, L, 0, rfl, (HN.out.far (fun g hA => HF.out g hA) _).far (fun g hA => HF.out g hA) _, Lg.Out.of_rep HR.out (by omega), (HG.out.setCell (Nat.le_refl _) _).setCell (Nat.le_refl _) _⟩
    · go_wp2_with fail
      refine bodyPost_ret (v := .tuple #[.agg #[.bool (decide (0 < L.length)), .slice A' L.length c'], .int .i64 0]) (by simp [results, Tryz.results110, go_sem, *]) rfl ?_
      exact ⟨A', c', decide (0 < L.length), L, 0, rfl, (HN.out.far (fun g hA => HF.out g hA) _).far (fun g hA => HF.out g hA) _, Lg.Out.of_rep HR.out (by omega), (HG.out.setCell (Nat.le_refl _) _).setCell (Nat.le_refl _) _⟩

end Go.Proofs.YtjladeiecokpfaaGreatDoor
namespace Go.Proofs.YtjladeiecokpfaaGreatDoor
open Go.RowKit

theorem mul_round {P Q L : List Nat} {m : Nat} (hm : m < Q.length) (hv : Dg.val 2 L = Dg.val 2 P * Dg.val 2 (Q.drop (m + 1))) :
    (Q.getD m 0 = 0 → Dg.val 2 ([0] ++ L) = Dg.val 2 P * Dg.val 2 (Q.drop m)) ∧ (Q.getD m 0 = 1 → Dg.val 2 ([0] ++ L) + Dg.val 2 P = Dg.val 2 P * Dg.val 2 (Q.drop m)) := by
  have e : Dg.val 2 ([0] ++ L) = 2 * Dg.val 2 L := by simp
  rw [e, hv, Dg.val_drop 2 hm]
  refine ⟨fun h => ?_, fun h => ?_⟩
  · rw [h, Nat.zero_add, ← Nat.mul_assoc, ← Nat.mul_assoc, Nat.mul_comm 2]
  · rw [h, Nat.mul_add, Nat.mul_one, ← Nat.mul_assoc, ← Nat.mul_assoc, Nat.mul_comm 2]
    omega

end Go.Proofs.YtjladeiecokpfaaGreatDoor
namespace Go.Proofs.YtjladeiecokpfaaGreatDoor
open Go.RowKit

/-- A number and an error's number come back; of the number, and of it all, this holds. -/
def NumPost (P : Bool → List Nat → Nat → Prop) (w : World) (T : TypeId) (e : Ending) (w' : World) : Prop := ∃ A' c' ng L k, e = .returned (.tuple #[.agg #[.bool ng, .slice A' (List.length L) c'], .int .i64 ((k : Nat) : Int)]) ∧ OwnNums .u32 w w' T A' c' L ∧ P ng L k ∧ Grew w w'
/-- The test ahead of all digits. -/
def badForm (neg : Bool) (l : List Nat) : Bool := !(decide (1 ≤ l.length) && decide (l.length ≤ 700) && !(decide (1 < l.length) && decide (l.getD 0 0 = 48)) && !(neg && decide (l = [48])))
theorem formOk_bad {neg : Bool} {l : List Nat} (h : badForm neg l = true) : Lg.formOk neg l = false := by
  unfold badForm at h
  unfold Lg.formOk
  simp only [Bool.not_eq_true'] at h
  rw [h, Bool.false_and]
theorem formOk_rest {neg : Bool} {l : List Nat} (h : badForm neg l = false) : Lg.formOk neg l = l.all Lg.isDigit ∧ 1 ≤ l.length ∧ l.length ≤ 700 ∧ (1 < l.length → l.getD 0 0 ≠ 48) := by
  unfold badForm at h
  rw [Bool.not_eq_false'] at h
  refine ⟨by unfold Lg.formOk; rw [h, Bool.true_and], ?_⟩
  simp only [Bool.and_eq_true, decide_eq_true_eq, Bool.not_eq_true', Bool.and_eq_false_iff, decide_eq_false_iff_not] at h
  obtain ⟨⟨⟨h1, h2⟩, h3⟩, _⟩ := h
  exact ⟨h1, h2, fun h4 => by rcases h3 with h3 | h3; exact absurd h4 h3; exact h3⟩
theorem zero_text (t : ByteArray) : (t.toList == [48]) = decide (Lg.bytes t = [48]) := by
  rw [ByteArray.toList_eq, Lg.bytes]
  generalize t.data.toList = l
  rw [Bool.eq_iff_iff, beq_iff_eq, decide_eq_true_iff]
  constructor
  · rintro rfl; rfl
  · intro h
    cases l with
    | nil => simp at h
    | cons a r =>
      cases r with
      | nil =>
        simp only [List.map_cons, List.map_nil, List.cons.injEq, and_true] at h
        have : a = 48 := UInt8.toNat_inj.1 h
        rw [this]
      | cons b q => simp at h
theorem digits_low {l : List Nat} (h : ∀ j, j < l.length → Lg.isDigit (l.getD j 0) = true) : Dg.Low 10 (l.map (· - 48)) := by
  intro y hy
  obtain ⟨x, hx, rfl⟩ := List.mem_map.1 hy
  obtain ⟨j, hj, rfl⟩ := List.mem_iff_getElem.1 hx
  have := h j hj
  rw [List.getD_eq_getElem?_getD, List.getElem?_eq_getElem hj] at this
  simp [Lg.isDigit] at this
  omega
theorem digits_head {l : List Nat} (h1 : 1 ≤ l.length) (h : ∀ j, j < l.length → Lg.isDigit (l.getD j 0) = true) (h48 : 1 < l.length → l.getD 0 0 ≠ 48) : (l.map (· - 48)).head? ≠ some 0 ∨ l.map (· - 48) = [0] := by
  cases l with
  | nil => simp at h1
  | cons a r =>
    have ha := h 0 (by simp)
    simp [Lg.isDigit] at ha
    by_cases h0 : a = 48
    · subst h0
      cases r with
      | nil => exact .inr rfl
      | cons b q => exact absurd rfl (h48 (by simp))
    · refine .inl ?_
      simp
      omega
theorem bit_round {B : List Nat} {n q cy N : Nat} (h : Dg.val 2 B + 2 ^ B.length * n = N) (hn : 2 * q + cy = n) : Dg.val 2 (B ++ [cy]) + 2 ^ (B ++ [cy]).length * q = N := by
  rw [Dg.val_snoc, List.length_append, List.length_cons, List.length_nil, Nat.zero_add, Nat.pow_succ, Nat.mul_assoc, Nat.add_assoc, ← Nat.mul_add]
  rw [show cy + 2 * q = n by omega]
  exact h
theorem all_false {l : List Nat} {k : Nat} (hk : k < l.length) (h : Lg.isDigit (l.getD k 0) = false) : l.all Lg.isDigit = false := by
  rw [List.all_eq_false]
  refine ⟨l.getD k 0, ?_, by simpa using h⟩
  rw [List.getD_eq_getElem?_getD, List.getElem?_eq_getElem hk]
  exact List.getElem_mem hk
theorem all_true {l : List Nat} (h : ∀ j, j < l.length → Lg.isDigit (l.getD j 0) = true) : l.all Lg.isDigit = true := by
  rw [List.all_eq_true]
  intro x hx
  obtain ⟨j, hj, rfl⟩ := List.mem_iff_getElem.1 hx
  have := h j hj
  rwa [List.getD_eq_getElem?_getD, List.getElem?_eq_getElem hj] at this
theorem bytes_tail (s : ByteArray) : Lg.bytes (s.extract 1 s.size) = (Lg.bytes s).drop 1 := by
  have e : (s.extract 1 s.size).data = s.data.extract 1 s.data.size := by
    rw [ByteArray.data_extract]; rfl
  rw [Lg.bytes, e, Array.toList_extract, Lg.bytes, ← List.map_drop]
  congr 1
  rw [List.extract_eq_take_drop, List.take_of_length_le (by simp)]

set_option maxRecDepth 100000 in
set_option maxHeartbeats 8000000 in
theorem rparse_c (s : ByteArray) (w : World) (hs : s.size ≤ 1000000000000) :
    Calls Tryz.prog 82 #[.string s] w (NumPost (Lg.ParseOut (Lg.bytes s)) w 226) := by
  have hlen := Lg.bytes_len s
  have HLen := hid hlen
  clear hlen
  go_enter Tryz.func82, Tryz.ntmps82
  have hwb : Grew w (w.alloc (.cells #[.bool false, .slice none 0 0] 145)) ∧ (w.alloc (.cells #[.bool false, .slice none 0 0] 145)).heap.size = w.heap.size + 1 ∧ (w.alloc (.cells #[.bool false, .slice none 0 0] 145)).cell? ⟨w.heap.size, 0, none⟩ = some (.bool false) ∧ (w.alloc (.cells #[.bool false, .slice none 0 0] 145)).cell? ⟨w.heap.size, 1, none⟩ = some (.slice none 0 0) ∧ (∀ i, (w.alloc (.cells #[.bool false, .slice none 0 0] 145)).frozen? ⟨w.heap.size, i, none⟩ = false) :=
    ⟨(Grew.refl _).alloc _, by simp, by simp, by simp, fun i => by simp⟩
  have HWB := hid hwb
  clear hwb
  go_upto_region 1 with fail
  generalize w.alloc (.cells #[.bool false, .slice none 0 0] 145) = wb at *
  go_cut [4] (fun s4 wx => s4 = .bool (Lg.signOf (Lg.bytes s)) ∧ wx = wb)
  case first =>
    rcases Nat.eq_zero_or_pos s.size with h0 | h0
    · have E := hid (show Lg.signOf (Lg.bytes s) = false by rw [Lg.signOf, HLen.out, h0]; rfl)
      go_wp2_with fail
      go_meet
      case rel => exact ⟨by rw [E.out], rfl⟩
    · have hb0 := Lg.bytes_at s 0 h0
      have E := hid (show Lg.signOf (Lg.bytes s) = decide ((Lg.bytes s).getD 0 0 = 45) by rw [Lg.signOf, HLen.out, decide_eq_true h0, Bool.true_and])
      generalize (Lg.bytes s).getD 0 0 = x at *
      have h0' : (0 : Int) < (s.size : Int) := by omega
      go_wp2_with fail
      go_meet
      case rel =>
        refine ⟨?_, rfl⟩
        rw [E.out]
        congr 1
        rw [Bool.eq_iff_iff]
        simp
        omega
  case rest =>
    obtain ⟨rfl, rfl⟩ := hcut
    go_upto_if 21 with fail
    go_cut [4, 5] (fun s4 s5 wx => s4 = .bool (Lg.signOf (Lg.bytes s)) ∧ ∃ t : ByteArray, s5 = .string t ∧ Hid (Lg.bytes t = Lg.restOf (Lg.bytes s)) ∧ t.size ≤ 1000000000000 ∧ wx = wc)
    case first =>
      cases hsg : Lg.signOf (Lg.bytes s)
      · have E := hid (show Lg.bytes s = Lg.restOf (Lg.bytes s) by rw [Lg.restOf, hsg]; rfl)
        go_wp2_with fail
        go_meet
        case rel => exact ⟨by rw [hsg], s, rfl, E, hs, rfl⟩
      · have h0 : 0 < s.size := by
          rw [Lg.signOf, Bool.and_eq_true, HLen.out] at hsg
          simpa using hsg.1
        have E := hid (show Lg.restOf (Lg.bytes s) = (Lg.bytes s).drop 1 by rw [Lg.restOf, hsg]; rfl)
        have hsz : (s.extract 1 s.size).size ≤ 1000000000000 := by
          have h1 := Lg.bytes_len (s.extract 1 s.size)
          rw [bytes_tail, List.length_drop, HLen.out] at h1
          omega
        have HSZ := hid hsz
        clear hsz
        go_wp2_with fail
        go_meet
        case rel => exact ⟨by rw [hsg], _, rfl, hid (by rw [bytes_tail, E.out]), HSZ.out, rfl⟩
    case rest =>
      obtain ⟨rfl, t, rfl, HT, ht, rfl⟩ := hcut
      obtain ⟨hg, hsz, r0, r1, fr⟩ := HWB.out
      have HG := hid hg
      have HSZ := hid hsz
      have l0 : w.heap.size < wc.heap.size := by omega
      clear hg hsz HWB
      have hout : ∀ (ng : Bool) (L : List Nat) (k : Nat), (Lg.formOk (Lg.signOf (Lg.bytes s)) (Lg.bytes t) = false → k = 2 ∧ ng = false ∧ L = []) → (Lg.formOk (Lg.signOf (Lg.bytes s)) (Lg.bytes t) = true → Lg.Out (Lg.sgn (Lg.signOf (Lg.bytes s)) (Lg.dv ((Lg.bytes t).map (· - 48)))) ng L k) → Lg.ParseOut (Lg.bytes s) ng L k := fun ng L k h1 h2 => by
        rw [HT.out] at h1 h2
        exact Lg.ParseOut.mk h1 h2
      have HOut := hid hout
      clear hout
      have htl := Lg.bytes_len t
      generalize Lg.signOf (Lg.bytes s) = neg at *
      have HTl := hid htl
      clear htl HT
      go_upto_region 5 with fail
      go_cut [48] (fun s48 wx => s48 = .bool (badForm neg (Lg.bytes t)) ∧ wx = wc)
      case first =>
        have HZ := hid (zero_text t)
        obtain ⟨z, hz⟩ : ∃ z, (t.toList == [48]) = z := ⟨_, rfl⟩
        have HZ2 := hid (HZ.out.symm.trans hz)
        rcases Nat.eq_zero_or_pos t.size with h0 | h0
        · have hf := hid (show badForm neg (Lg.bytes t) = true by simp [badForm, HTl.out, h0])
          go_wp2_with fail
          go_meet
          case rel => exact ⟨by rw [hf.out], rfl⟩
        · have h0' : ¬ (t.size : Int) < 1 := by omega
          by_cases h7 : 700 < t.size
          · have hf := hid (show badForm neg (Lg.bytes t) = true by simp [badForm, HTl.out]; omega)
            have h7' : (700 : Int) < (t.size : Int) := by omega
            go_wp2_with fail
            go_meet
            case rel => exact ⟨by rw [hf.out], rfl⟩
          · have h7' : ¬ (700 : Int) < (t.size : Int) := by omega
            have hb0 := Lg.bytes_at t 0 h0
            obtain ⟨x, hx⟩ : ∃ x, x = (Lg.bytes t).getD 0 0 := ⟨_, rfl⟩
            rw [← hx] at hb0
            have hf := hid (show badForm neg (Lg.bytes t) = ((decide (1 < t.size) && decide (x = 48)) || (neg && z)) by
              rw [badForm, HTl.out, ← hx, HZ2.out, decide_eq_true (show 1 ≤ t.size by omega), decide_eq_true (show t.size ≤ 700 by omega)]
              cases decide (1 < t.size) <;> cases decide (x = 48) <;> cases neg <;> cases z <;> rfl)
            clear hx h7
            by_cases h1 : 1 < t.size
            · have h1' : (1 : Int) < (t.size : Int) := by omega
              by_cases h48 : x = 48
              · subst h48
                go_wp2_with fail
                go_meet
                case rel => exact ⟨by rw [hf.out, decide_eq_true h1]; rfl, rfl⟩
              · have h48' : (((x : Nat) : Int) == 48) = false := by rw [beq_eq_false_iff_ne]; omega
                rw [decide_eq_false h48, Bool.and_false, Bool.false_or] at hf
                cases neg
                · go_wp2_with fail
                  go_meet
                  case rel => exact ⟨by rw [hf.out]; rfl, rfl⟩
                · go_wp2_with fail
                  go_meet
                  case rel => exact ⟨by rw [hf.out]; rfl, rfl⟩
            · have h1' : ¬ (1 : Int) < (t.size : Int) := by omega
              rw [decide_eq_false h1, Bool.false_and, Bool.false_or] at hf
              cases neg
              · go_wp2_with fail
                go_meet
                case rel => exact ⟨by rw [hf.out]; rfl, rfl⟩
              · go_wp2_with fail
                go_meet
                case rel => exact ⟨by rw [hf.out]; rfl, rfl⟩
      case rest =>
        obtain ⟨rfl, rfl⟩ := hcut
        cases hbad : badForm neg (Lg.bytes t)
        · obtain ⟨f1, f2, f3, f4⟩ := formOk_rest hbad
          have HForm := hid f1
          have HHead := hid f4
          have ht7 : t.size ≤ 700 := by rw [← HTl.out]; exact f3
          have ht1 : 1 ≤ t.size := by rw [← HTl.out]; exact f2
          clear f1 f2 f3 f4 hbad
          go_wp2_with fail
          go_loopw [6, 7] (fun r i wr => ∃ (k : Nat) (E : Option Addr) (f : Nat) (D : List Nat) (z : After wc), i = .int .i64 ((k : Nat) : Int) ∧ r = .slice E D.length f ∧ OwnNums .u8 wc wr 5 E f D ∧ wr = z.w ∧ k ≤ t.size ∧ D.length ≤ k ∧ Hid (D = ((Lg.bytes t).take k).map (· - 48) ∧ ∀ j, j < k → Lg.isDigit ((Lg.bytes t).getD j 0) = true)) (fun _ i _ => t.size - (intOf i).toNat)
          case atStart => exact ⟨0, none, 0, [], ⟨wc, Below.refl _ _⟩, rfl, rfl, OwnNums.nil _ _ _ _, rfl, Nat.zero_le _, Nat.le_refl _, hid ⟨rfl, (fun j hj => absurd hj (Nat.not_lt_zero j))⟩⟩
          case round =>
            obtain ⟨k, E, f, D, z, rfl, rfl, hD, rfl, hk, hDk, HD⟩ := hrel
            by_cases hlt : k < t.size
            · have hlt' : (k : Int) < (t.size : Int) := by omega
              have hb := Lg.bytes_at t k hlt
              obtain ⟨x, hx⟩ : ∃ x, x = (Lg.bytes t).getD k 0 := ⟨_, rfl⟩
              rw [← hx] at hb
              have hx256 : x < 256 := by rw [hx]; exact Dg.Low.getD (by decide) (Lg.bytes_lt t) k
              have HX := hid hx
              clear hx
              by_cases hd : 48 ≤ x ∧ x ≤ 57
              · have hdx := hid (show Lg.isDigit x = true by simp [Lg.isDigit, hd.1, hd.2])
                obtain ⟨d1, d2⟩ := hd
                go_wp2_with (at_builtin; refine wpList_push .u8 1 wc z.w rfl _ _ 69 5 rfl Tryz.underlying69 Tryz.info_u8 z.grew E f D rfl hD (x - 48) _ rfl rfl _ (by first | rfl | (congr 1; omega)) (by omega) (by omega) ?_; rintro A' c' W1 hO hG)
                obtain ⟨z1, rfl⟩ := hG
                go_roundw
                case rel =>
                  refine ⟨k + 1, A', c', D ++ [x - 48], z1, by go_num, by simp, hO, rfl, by omega, by simp; omega, hid ⟨?_, fun j hj => ?_⟩⟩
                  · rw [Dg.take_succ (show k < (Lg.bytes t).length by rw [HTl.out]; exact hlt), ← HX.out, List.map_append, HD.out.1]; rfl
                  · rcases Nat.lt_or_ge j k with h | h
                    · exact HD.out.2 j h
                    · obtain rfl : j = k := by omega
                      rw [← HX.out]; exact hdx.out
                case measure => simp [intOf] <;> omega
              · have hf := hid (show Lg.formOk neg (Lg.bytes t) = false by
                  rw [HForm.out]
                  refine all_false (k := k) (by rw [HTl.out]; exact hlt) ?_
                  rw [← HX.out]
                  simp only [Lg.isDigit, Bool.and_eq_false_iff, decide_eq_false_iff_not]
                  omega)
                rcases (show x < 48 ∨ (48 ≤ x ∧ 57 < x) by omega) with h1 | ⟨h1, h2⟩
                all_goals
                  clear hd
                  go_wp2_with fail
                  refine bodyPost_ret (v := .tuple #[.agg #[.bool false, .slice none 0 0], .int .i64 2]) (by simp [results, Tryz.results82, go_sem, *]) rfl ?_
                  exact ⟨none, 0, false, [], 2, rfl, OwnNums.nil _ _ _ _, HOut.out _ _ _ (fun _ => ⟨rfl, rfl, rfl⟩) (fun h => by rw [hf.out] at h; cases h), ((HG.out.trans z.grew).setCell (Nat.le_refl _) _).setCell (Nat.le_refl _) _⟩
            · obtain rfl : k = t.size := by omega
              have hbl : (Lg.bytes t).length = t.size := HTl.out
              have hall : ∀ j, j < (Lg.bytes t).length → Lg.isDigit ((Lg.bytes t).getD j 0) = true := fun j hj => HD.out.2 j (by rw [← hbl]; exact hj)
              have hDe : D = (Lg.bytes t).map (· - 48) := by
                have := HD.out.1
                rwa [← hbl, List.take_length] at this
              have HOut2 := hid (show ∀ (ng : Bool) (L : List Nat) (k : Nat), Lg.Out (Lg.sgn neg (Lg.dv D)) ng L k → Lg.ParseOut (Lg.bytes s) ng L k from fun ng L k h => HOut.out ng L k (fun hf => by rw [HForm.out, all_true hall] at hf; cases hf) (fun _ => by rw [← hDe]; exact h))
              have HLow := hid (show Dg.Low 10 D by rw [hDe]; exact digits_low hall)
              have HHd := hid (show D.head? ≠ some 0 ∨ D = [0] by rw [hDe]; exact digits_head (by omega) hall HHead.out)
              have hDl : D.length ≤ 700 := by omega
              obtain ⟨N, hN⟩ : ∃ N, N = Lg.dv D := ⟨_, rfl⟩
              have HN := hid hN
              have HNb := hid (show N < (10 ^ 7) ^ 100 by rw [hN]; exact Lg.dv_700 HLow.out hDl)
              clear hall hDe hN HOut HForm HHead hbl HD hDk hk hlt
              go_wp2_with fail
              go_loopw [6, 8, 9, 10, 11] (fun sd sb _ _ _ wr => ∃ (E : Option Addr) (f : Nat) (D' : List Nat) (E' : Option Addr) (f' : Nat) (B : List Nat) (z : After wc), sd = .slice E D'.length f ∧ sb = .slice E' B.length f' ∧ OwnNums .u8 wc wr 5 E f D' ∧ OwnNums .u8 wc wr 5 E' f' B ∧ wr = z.w ∧ D'.length ≤ 700 ∧ B.length ≤ 2400 ∧ Hid (Dg.Low 10 D' ∧ Dg.Low 2 B ∧ Dg.val 2 B + 2 ^ B.length * Lg.dv D' = N ∧ (D'.head? ≠ some 0 ∨ D' = [0] ∧ B = []))) (fun _ sb _ _ _ _ => 2500 - (match sb with | .slice _ n _ => n | _ => 0))
              case atStart => exact ⟨E, f, D, none, 0, [], z, rfl, rfl, hD, OwnNums.nil _ _ _ _, rfl, hDl, by decide, hid ⟨HLow.out, Dg.Low.nil 2, (by rw [HN.out]; simp), (by rcases HHd.out with h | h; exact .inl h; exact .inr ⟨h, rfl⟩)⟩⟩
              case round =>
                clear hD HLow HHd hDl
                obtain ⟨E, f, D', E', f', B, z, rfl, rfl, hD, hB, rfl, hDl, hBl, HR⟩ := hrel
                rcases Nat.eq_zero_or_pos D'.length with h0 | h0
                · have e := List.eq_nil_of_length_eq_zero h0
                  subst e
                  have HV := hid (show Dg.val 2 B = N by have := HR.out.2.2.1; rwa [Lg.dv_nil, Nat.mul_zero, Nat.add_zero] at this)
                  have HLo := hid HR.out.2.1
                  clear hD HR HNb hDl h0
                  go_wp2_with ((go_at_call 110; refine (made_c _ _ _ _ _ hB.at HLo.out (by omega) hB.cap.1 hB.cap.2).mono ?_; rintro e w6 ⟨A6, c6, ng, M, k, rfl, hO6, hOut, hG6⟩; obtain ⟨y6, rfl⟩ := z.grew.trans hG6))
                  have HF := hid (show ∀ g, A6 = some ⟨g, 0, none⟩ → g ≠ w.heap.size from fun g hA => by
                    have h1 := (World.ownsRow.lt (OwnNums.mono hO6 z.grew : OwnNums _ wc _ _ _ _ _)) g (by rw [hA]; rfl)
                    omega)
                  have HO := hid (OwnNums.mono (w0 := wc) hO6 z.grew)
                  have HPo := hid (show Lg.ParseOut (Lg.bytes s) ng M k from HOut2.out ng M k (by rw [← HN.out, ← HV.out]; exact hOut))
                  refine bodyPost_ret (v := .tuple #[.agg #[.bool ng, .slice A6 M.length c6], .int .i64 ((k : Nat) : Int)]) (by simp [results, Tryz.results82, go_sem, *]) rfl ?_
                  exact ⟨A6, c6, ng, M, k, rfl, ((HO.out.mono HG.out).far (fun g hA => HF.out g hA) _).far (fun g hA => HF.out g hA) _, HPo.out, ((HG.out.trans (After.grew y6)).setCell (Nat.le_refl _) _).setCell (Nat.le_refl _) _⟩
                · have hlt9 : B.length < 2400 := by
                    rcases HR.out.2.2.2 with h | ⟨_, h⟩
                    · exact Lg.bits_bound HR.out.2.2.1 HNb.out (Lg.dv_pos h (by rintro rfl; simp at h0))
                    · rw [h]; decide
                  have hDat := hid hD.at
                  have HBo := hid hB
                  clear hD hB
                  go_wp2_with fail
                  go_loopw [9, 10, 11] (fun c h i wr => ∃ (m cy : Nat) (E2 : Option Addr) (f2 : Nat) (H : List Nat), i = .int .i64 ((m : Nat) : Int) ∧ c = .int .u8 ((cy : Nat) : Int) ∧ h = .slice E2 H.length f2 ∧ OwnNums .u8 z.w wr 5 E2 f2 H ∧ Grew z.w wr ∧ cy ≤ 1 ∧ m ≤ D'.length ∧ H.length ≤ m ∧ Hid (Dg.Low 10 H ∧ 2 * Lg.dv H + cy = Lg.dv (D'.take m) ∧ H.head? ≠ some 0)) (fun _ _ i _ => D'.length - (intOf i).toNat)
                  case atStart => exact ⟨0, 0, none, 0, [], rfl, rfl, rfl, OwnNums.nil _ _ _ _, Grew.refl _, by decide, Nat.zero_le _, Nat.le_refl _, hid ⟨Dg.Low.nil 10, (by simp [Lg.dv]), (by simp)⟩⟩
                  case round =>
                    obtain ⟨m, cy, E2, f2, H, rfl, rfl, rfl, hH, hg, hcy, hm, hHm, HH⟩ := hrel
                    by_cases hlt : m < D'.length
                    · have hlt' : (m : Int) < (D'.length : Int) := by omega
                      obtain ⟨ad, rfl, had, hca⟩ := hDat.out (by omega)
                      have hcm : wr.cell? (ad.add m) = some (.int .u8 ((D'.getD m 0 : Nat) : Int)) := (hg.below.cell (by rw [block_add]; exact had)).trans (hca m hlt)
                      have hx := Dg.Low.getD (by decide) HR.out.1 m
                      have hr := Lg.half_round (t := 10 * cy + D'.getD m 0) hlt HH.out.2.1 rfl
                      clear hca
                      generalize D'.getD m 0 = x at *
                      by_cases hz : H = [] ∧ (10 * cy + x) / 2 = 0
                      · have hr2 := hid (hr.2 hz.1 hz.2)
                        obtain ⟨rfl, hz2⟩ := hz
                        have t2 : ¬ (0 : Int) < (10 * ((cy : Nat) : Int) + ((x : Nat) : Int)) / 2 := by omega
                        clear hr
                        go_wp2_with fail
                        go_roundw
                        case rel => exact ⟨m + 1, (10 * cy + x) % 2, E2, f2, [], by go_num, by first | rfl | (congr 1; omega), rfl, hH, hg, by omega, by omega, by simp, hid ⟨Dg.Low.nil 10, hr2.out, (by simp)⟩⟩
                        case measure => simp [intOf] <;> omega
                      · have hr1 := hid hr.1
                        clear hr
                        have hhead := hid (show (H ++ [(10 * cy + x) / 2]).head? ≠ some 0 by
                          cases hHe : H with
                          | nil =>
                            have : (10 * cy + x) / 2 ≠ 0 := fun h => hz ⟨hHe, h⟩
                            simp
                            omega
                          | cons a r =>
                            have := HH.out.2.2
                            rw [hHe] at this
                            simpa using this)
                        rcases (show 0 < H.length ∨ (H.length = 0 ∧ 0 < (10 * cy + x) / 2) by
                          rcases Nat.eq_zero_or_pos H.length with h | h
                          · have := List.eq_nil_of_length_eq_zero h
                            exact .inr ⟨h, by rcases Nat.eq_zero_or_pos ((10 * cy + x) / 2) with h2 | h2; exact absurd ⟨this, h2⟩ hz; exact h2⟩
                          · exact .inl h) with h1 | ⟨h1, h2⟩
                        · have t1 : (0 : Int) < (H.length : Int) := by omega
                          clear hz
                          go_wp2_with (at_builtin; refine wpList_push .u8 1 z.w wr rfl _ _ 69 5 rfl Tryz.underlying69 Tryz.info_u8 hg E2 f2 H rfl hH ((10 * cy + x) / 2) _ rfl rfl _ (by first | rfl | (congr 1; omega)) (by omega) (by omega) ?_; rintro A' c' W1 hO hG)
                          go_roundw
                          case rel => exact ⟨m + 1, (10 * cy + x) % 2, A', c', H ++ [(10 * cy + x) / 2], by go_num, by first | rfl | (congr 1; omega), by simp, hO, hG, by omega, by omega, by simp; omega, hid ⟨HH.out.1.snoc (by omega), hr1.out, hhead.out⟩⟩
                          case measure => simp [intOf] <;> omega
                        · have e := List.eq_nil_of_length_eq_zero h1
                          subst e
                          have t2 : (0 : Int) < (10 * ((cy : Nat) : Int) + ((x : Nat) : Int)) / 2 := by omega
                          clear hz h1
                          go_wp2_with (at_builtin; refine wpList_push .u8 1 z.w wr rfl _ _ 69 5 rfl Tryz.underlying69 Tryz.info_u8 hg E2 f2 [] rfl hH ((10 * cy + x) / 2) _ rfl rfl _ (by first | rfl | (congr 1; omega)) (by decide) (by decide) ?_; rintro A' c' W1 hO hG)
                          go_roundw
                          case rel => exact ⟨m + 1, (10 * cy + x) % 2, A', c', [] ++ [(10 * cy + x) / 2], by go_num, by first | rfl | (congr 1; omega), by simp, hO, hG, by omega, by omega, by simp, hid ⟨HH.out.1.snoc (by omega), hr1.out, hhead.out⟩⟩
                          case measure => simp [intOf] <;> omega
                    · obtain rfl : m = D'.length := by omega
                      have hBg := HBo.out.grew hg
                      have hne := hid (show ∀ g, E2 = some ⟨g, 0, none⟩ → E' ≠ some ⟨g, 0, none⟩ from fun g h1 h2 => by
                        have q1 := (World.ownsRow.lt hH) g (by rw [h1]; rfl)
                        have q2 := (World.ownsRow.lt HBo.out) g (by rw [h2]; rfl)
                        omega)
                      have hBit := hid (bit_round HR.out.2.2.1 (show 2 * Lg.dv H + cy = Lg.dv D' by have := HH.out.2.1; rwa [List.take_length] at this))
                      clear hlt
                      go_wp2_with (at_builtin; refine wpList_pushK .u8 1 wc wr rfl _ _ 69 5 rfl Tryz.underlying69 Tryz.info_u8 (z.grew.trans hg) E' f' B rfl hBg cy _ rfl rfl _ (by first | rfl | (congr 1; omega)) (by omega) (by omega) ?_; rintro A' c' M W1 hM hO hG hKB)
                      have hMl : M.length = B.length + 1 := by rw [hM.out]; simp
                      have hHw := (hH.keptBut hKB hne.out).mono z.grew
                      obtain ⟨z2, rfl⟩ := hG
                      have HLowM := hid (show Dg.Low 2 M by rw [hM.out]; exact HR.out.2.1.snoc (by omega))
                      have HVM := hid (show Dg.val 2 M + 2 ^ M.length * Lg.dv H = N by rw [hM.out]; exact hBit.out)
                      go_roundw
                      case rel => exact ⟨E2, f2, H, A', c', M, z2, rfl, rfl, hHw, hO, rfl, by omega, by omega, hid ⟨HH.out.1, HLowM.out, HVM.out, .inl HH.out.2.2⟩⟩
                      case measure => first | omega | (simp; omega) | (simp [intOf] <;> omega)
        · have hf := hid (formOk_bad hbad)
          go_wp2_with fail
          refine bodyPost_ret (v := .tuple #[.agg #[.bool false, .slice none 0 0], .int .i64 2]) (by simp [results, Tryz.results82, go_sem, *]) rfl ?_
          exact ⟨none, 0, false, [], 2, rfl, OwnNums.nil _ _ _ _, HOut.out _ _ _ (fun _ => ⟨rfl, rfl, rfl⟩) (fun h => by rw [hf.out] at h; cases h), (HG.out.setCell (Nat.le_refl _) _).setCell (Nat.le_refl _) _⟩
end Go.Proofs.YtjladeiecokpfaaGreatDoor

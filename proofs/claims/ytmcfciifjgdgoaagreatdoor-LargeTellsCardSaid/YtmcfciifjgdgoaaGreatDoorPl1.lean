/- The developers' large numbers, part 1: whether one may be, words, a slice without noughts at its end, a number made of a sign and words. -/
import Derived.Test.YtmcfciifjgdgoaaGreatDoorRf1
import Derived.Test.YtmcfciifjgdgoaaGreatDoorLgP
import Derived.Test.YtmcfciifjgdgoaaGreatDoorRets
import Derived.Test.YtmcfciifjgdgoaaGreatDoorNum
import Derived.Deep.DeepCutAuto
import Derived.Laws.BitsAllLaws
namespace Go.Proofs.YtmcfciifjgdgoaaGreatDoor
open Go.RowKit

/-- A new block is a slice of the call's own. -/
theorem OwnNums.new (k : IntKind) {w0 w : World} (e : TypeId) (xs : List Nat) (hg : Grew w0 w) (h : xs.length ≤ 9223372036854775807) : OwnNums k w0 (w.alloc (.cells (numCells k xs).toArray e)) e (some ⟨w.heap.size, 0, none⟩) xs.length xs :=
  ⟨by simp [numCells], .inr ⟨w.heap.size, xs.length, (numCells k xs).toArray, rfl, hg.below.size, heap_alloc_new w _, Nat.le_refl _, by simpa [maxLen] using h, by simp [numCells], by rw [Nat.mul_one, List.take_of_length_le (by simp [numCells])]⟩⟩
theorem numCells2 (k : IntKind) (x y : Nat) : (numCells k [x, y]).toArray = #[.int k ((x : Nat) : Int), .int k ((y : Nat) : Int)] := rfl
/-- A result of two cells is stored behind what the call made. -/
theorem own_back2 {k : IntKind} {w wb w1 : World} {e : TypeId} {A : Option Addr} {c : Nat} {xs : List Nat} (hG : Grew w wb) (h : OwnNums k wb w1 e A c xs) (hg : Grew wb w1) (b : Nat) (h1 : w.heap.size ≤ b) (h2 : b < wb.heap.size) (u v : Value) :
    OwnNums k w ((w1.setCell ⟨b, 0, none⟩ u).setCell ⟨b, 1, none⟩ v) e A c xs ∧ Grew w ((w1.setCell ⟨b, 0, none⟩ u).setCell ⟨b, 1, none⟩ v) := by
  have hf : ∀ g, A = some ⟨g, 0, none⟩ → g ≠ b := fun g hA => by
    have := (World.ownsRow.lt h) g (by rw [hA]; rfl)
    omega
  exact ⟨((h.mono hG).far (fun g hA => hf g hA) u).far (fun g hA => hf g hA) v, ((hG.trans hg).setCell h1 _).setCell h1 _⟩
/-- 'make([]uint32, n)': a new block of n zeros. -/
theorem make_u32 {P : Program} {t e : TypeId} (ht : P.underlying t = some (.slice e)) (he : (P.info? e).map (fun i => (i.zero, i.size, i.bytes)) = some (some (.int .u32 0), 1, 4))
    (n : Nat) (hn : n ≤ 35184372088832) (W : World) : (Instr.makeSlice t (.int .i64 n) (.int .i64 n)).run P W = .ok (.slice (some ⟨W.heap.size, 0, none⟩) n n) (W.alloc (.cells (numCells .u32 (List.replicate n 0)).toArray e)) := by
  obtain ⟨i, hi, hz0, hz1, hz2⟩ := info_parts he
  have h := run_make (P := P) W t e i (.int .u32 0) ht hi hz0 .i64 .i64 n n (by omega) (by omega) (by rw [hz2]; omega) (by omega)
  rw [h]
  have e1 : madeCells (Value.int IntKind.u32 0).cells ((n : Int).toNat * i.size) = (numCells .u32 (List.replicate n 0)).toArray := by
    apply Array.toList_inj.1
    rw [hz1, Int.toNat_natCast, Nat.mul_one]
    show (madeCells #[Value.int IntKind.u32 0] n).toList = _
    rw [toList_madeCells_one]
    simp [numCells]
  rw [e1]
  simp

theorem last_zero {neg : Bool} {xs : List Nat} (h : xs.length = 0) : Lg.may neg xs = !neg := by
  have e := List.eq_nil_of_length_eq_zero h
  subst e
  simp [Lg.may]
theorem last_pos {neg : Bool} {xs : List Nat} (h : 0 < xs.length) (h2 : xs.length ≤ 64) : Lg.may neg xs = decide (0 < xs.getD (xs.length - 1) 0) := by
  unfold Lg.may
  rw [decide_eq_true h2, decide_eq_false (by omega : ¬ xs.length = 0), decide_eq_true h]
  simp
theorem last_long {neg : Bool} {xs : List Nat} (h2 : 64 < xs.length) : Lg.may neg xs = false := by
  unfold Lg.may
  rw [decide_eq_false (by omega)]
  simp

set_option maxHeartbeats 2000000 in
theorem pvalid_c (neg : Bool) (A : Option Addr) (c : Nat) (xs : List Nat) (w : World) (h : NumsAt .u32 w w.heap.size A xs) (hn : xs.length ≤ 1000000000000) :
    Calls Tryz.prog 25 #[.agg #[.bool neg, .slice A xs.length c]] w fun e w' => e = .returned (.bool (Lg.may neg xs)) ∧ Grew w w' := by
  have H := hid h
  clear h
  obtain ⟨r, hr⟩ : ∃ r, r = Lg.may neg xs := ⟨_, rfl⟩
  rw [← hr]
  by_cases h1 : xs.length ≤ 64
  · have h1' : (xs.length : Int) ≤ 64 := by omega
    rcases Nat.eq_zero_or_pos xs.length with h0 | h0
    · have HR : Hid (r = !neg) := hid (by rw [hr, last_zero h0])
      have e := List.eq_nil_of_length_eq_zero h0
      subst e
      clear hr
      cases neg
      all_goals
        go_enter Tryz.func25, Tryz.ntmps25
        go_wp2_with fail
        go_ret
        exact ⟨by rw [HR.out]; rfl, (Grew.refl _).alloc _⟩
    · obtain ⟨ad, rfl, had, hc⟩ := H.out h0
      have hcl := hc (xs.length - 1) (by omega)
      have HR : Hid (r = decide (0 < xs.getD (xs.length - 1) 0)) := hid (by rw [hr, last_pos h0 h1])
      clear hc hr
      generalize xs.getD (xs.length - 1) 0 = x at *
      obtain ⟨n, hl⟩ : ∃ n, xs.length = n + 1 := ⟨xs.length - 1, by omega⟩
      clear h1' h0 hn H
      rw [hl] at hcl h1 ⊢
      rw [Nat.add_sub_cancel] at hcl
      clear hl
      rcases Nat.eq_zero_or_pos x with hx | hx
      · have t : (((x : Nat) : Int) != 0) = false := by simp; omega
        have HR2 : Hid (r = false) := hid (by rw [HR.out]; simp; omega)
        clear HR
        cases neg
        all_goals
          go_enter Tryz.func25, Tryz.ntmps25
          go_wp2_with fail
          go_ret
          exact ⟨by rw [HR2.out]; rfl, (Grew.refl _).alloc _⟩
      · have t : (((x : Nat) : Int) != 0) = true := by rw [bne_iff_ne]; omega
        have HR2 : Hid (r = true) := hid (by rw [HR.out]; simp; omega)
        clear HR
        cases neg
        all_goals
          go_enter Tryz.func25, Tryz.ntmps25
          go_wp2_with fail
          go_ret
          exact ⟨by rw [HR2.out]; rfl, (Grew.refl _).alloc _⟩
  · have HR : Hid (r = false) := hid (by rw [hr, last_long (by omega)])
    have h1' : ¬ (xs.length : Int) ≤ 64 := by omega
    have h2' : (((xs.length : Nat) : Int) == 0) = false := by rw [beq_eq_false_iff_ne]; omega
    clear hr
    go_enter Tryz.func25, Tryz.ntmps25
    go_wp2_with fail
    go_ret
    exact ⟨by rw [HR.out]; rfl, (Grew.refl _).alloc _⟩

theorem pat_c (A : Option Addr) (c : Nat) (xs : List Nat) (i : Nat) (w : World) (h : NumsAt .u32 w w.heap.size A xs) (hn : xs.length ≤ 1000000) (hi : i ≤ 2000000) :
    Calls Tryz.prog 42 #[.slice A xs.length c, .int .i64 i] w fun e w' => e = .returned (.int .u32 ((xs.getD i 0 : Nat) : Int)) ∧ w' = w := by
  by_cases hlt : i < xs.length
  · obtain ⟨ad, rfl, hb, hc⟩ := h (by omega)
    have hci := hc i hlt
    have hlt' : (i : Int) < (xs.length : Int) := by omega
    clear h hc
    generalize xs.getD i 0 = x at *
    go_enter Tryz.func42, Tryz.ntmps42
    go_wp2
    go_ret
    exact ⟨rfl, rfl⟩
  · rw [Dg.getD_past (xs := xs) (k := i) (by omega)]
    have hlt' : ¬ (i : Int) < (xs.length : Int) := by omega
    clear h
    go_enter Tryz.func42, Tryz.ntmps42
    go_wp2
    go_ret
    exact ⟨rfl, rfl⟩

set_option maxHeartbeats 1000000 in
/-- 'trim' is the same slice, shorter. -/
theorem ptrim_c (A : Option Addr) (c : Nat) (bs : List Nat) (w : World) (h : NumsAt .u32 w w.heap.size A bs) (hn : bs.length ≤ 1000000) (hcap : bs.length ≤ c) (hc2 : c ≤ 9223372036854775807) :
    Calls Tryz.prog 57 #[.slice A bs.length c] w fun e w' => e = .returned (.slice A (Dg.cut bs).length c) ∧ w' = w := by
  go_enter Tryz.func57, Tryz.ntmps57
  go_wp2
  go_loop [3] (fun s => ∃ n : Nat, n ≤ bs.length ∧ s = .int .i64 n ∧ Hid (Dg.cut (bs.take n) = Dg.cut bs)) (fun s => (intOf s).toNat)
  case atStart => exact ⟨bs.length, Nat.le_refl _, rfl, hid (by rw [List.take_length])⟩
  case round =>
    obtain ⟨n, hle, rfl, HE⟩ := hrel
    rcases Nat.eq_zero_or_pos n with h0 | h0
    · subst h0
      have E := HE.out
      have E2 : Hid ((Dg.cut bs).length = 0) := hid (by rw [← E]; rfl)
      clear E
      go_wp2
      go_ret
      exact ⟨by rw [E2.out]; rfl, rfl⟩
    · obtain ⟨m, rfl⟩ : ∃ m, n = m + 1 := ⟨n - 1, by omega⟩
      obtain ⟨ad, rfl, hb, hc⟩ := h (by omega)
      have hcm := hc m (by omega)
      have hml : m < bs.length := by omega
      clear hc
      by_cases hz : bs.getD m 0 = 0
      · have E := hid (cut_step (by omega) HE.out hz)
        have hcm' : w.cell? (ad.add m) = some (.int .u32 0) := by rw [hcm, hz]; rfl
        clear hcm hz
        go_wp2
        go_round
        case rel => exact ⟨m, by omega, by go_num, E⟩
        case measure => simp [intOf]
      · have E := hid (cut_stop (by omega) HE.out hz)
        have hz' : (((bs.getD m 0 : Nat) : Int) == 0) = false := by rw [beq_eq_false_iff_ne]; omega
        clear hz
        generalize bs.getD m 0 = x at *
        go_wp2
        go_ret
        refine ⟨?_, rfl⟩
        have : (Dg.cut bs).length = m + 1 := by rw [E.out, List.length_take, Nat.min_eq_left (by omega)]
        rw [this]
        rfl

set_option maxHeartbeats 1000000 in
theorem pmagOf_c (n : Nat) (w : World) (hn : n < 18446744073709551616) :
    Calls Tryz.prog 46 #[.int .u64 ((n : Nat) : Int)] w fun e w' => e = .returned (.slice (some ⟨w.heap.size, 0, none⟩) 2 2) ∧ w' = w.alloc (.cells (numCells .u32 [n % 4294967296, n / 4294967296]).toArray 55) := by
  have E : Hid (Value.int .u32 (((n : Nat) : Int) / 4294967296) = .int .u32 (((n / 4294967296 : Nat)) : Int)) := hid (by congr 1)
  go_enter Tryz.func46, Tryz.ntmps46
  go_wp2_with fail
  go_ret
  exact ⟨rfl, rfl⟩

theorem pjoin_c (a b : Nat) (w : World) (ha : a < 4294967296) (hb : b < 4294967296) :
    Calls Tryz.prog 41 #[.int .u32 ((a : Nat) : Int), .int .u32 ((b : Nat) : Int)] w fun e w' => e = .returned (.int .u64 ((b + 4294967296 * a : Nat) : Int)) ∧ w' = w := by
  go_enter Tryz.func41, Tryz.ntmps41
  go_wp2_with fail
  go_ret
  exact ⟨ret_int (by rw [bits_join .u64 64 (by decide) (fun n h0 h1 => by simp [IntKind.wrap, IntKind.bits, IntKind.signed]; omega) 32 _ _ (by omega) (by omega) (by omega) (by omega) (by omega) (by omega)]; omega), rfl⟩

set_option maxHeartbeats 1000000 in
/-- A number made of a sign and words of the call's own: they are kept. -/
theorem psigned_c (neg : Bool) (A : Option Addr) (c : Nat) (xs : List Nat) (w0 w : World) (h : OwnNums .u32 w0 w 55 A c xs) (hn : xs.length ≤ 1000000) :
    Calls Tryz.prog 38 #[.bool neg, .slice A xs.length c] w fun e w' => e = .returned (.agg #[.bool (neg && decide (0 < (Dg.cut xs).length)), .slice A (Dg.cut xs).length c]) ∧ Grew w w' := by
  have HO := hid h
  have HL := hid (show (Dg.cut xs).length ≤ 1000000 from Nat.le_trans (Dg.cut_len xs) hn)
  have hc1 := hid h.cap
  obtain ⟨m, hm⟩ : ∃ m, m = (Dg.cut xs).length := ⟨_, rfl⟩
  have HM := hid hm
  rw [← hm] at HL ⊢
  clear h hm
  go_enter Tryz.func38, Tryz.ntmps38
  go_wp2_with fail
  refine (ptrim_c A c xs _ (HO.out.alloc _).at hn hc1.out.1 hc1.out.2).mono ?_
  rw [← HM.out]
  rintro e w1 ⟨rfl, rfl⟩
  have HL2 := HL.out
  cases neg
  · go_wp2_with fail
    refine bodyPost_ret (v := .agg #[.bool false, .slice A m c]) (by simp [results, Tryz.results38, go_sem]) rfl ⟨rfl, (Grew.refl _).alloc _⟩
  · go_wp2_with fail
    refine bodyPost_ret (v := .agg #[.bool (decide (0 < m)), .slice A m c]) (by simp [results, Tryz.results38, go_sem]) rfl ⟨rfl, (Grew.refl _).alloc _⟩
end Go.Proofs.YtmcfciifjgdgoaaGreatDoor

/- Parts of elder texts that this layer needs, joined: XYPlA. -/
import Derived.Test.YtjladeiecokpfaaGreatDoorZRfA
import Derived.Test.YtjladeiecokpfaaGreatDoorZLgM
import Derived.Test.YtjladeiecokpfaaGreatDoorZBase
import Derived.Test.YtjladeiecokpfaaGreatDoorZNum
import Derived.Deep.DeepCutAuto
import Derived.Laws.BitsAllLaws
import Derived.BigQuiet
import Derived.Deep.RegionHeld3
namespace Go.Proofs.YtjladeiecokpfaaGreatDoor
open Go.RowKit

/-- A new block is a slice of the call's own. -/
theorem OwnNums.new (k : IntKind) {w0 w : World} (e : TypeId) (xs : List Nat) (hg : Grew w0 w) (h : xs.length ≤ 9223372036854775807) : OwnNums k w0 (w.alloc (.cells (numCells k xs).toArray e)) e (some ⟨w.heap.size, 0, none⟩) xs.length xs :=
  ⟨by simp [numCells], .inr ⟨w.heap.size, xs.length, (numCells k xs).toArray, rfl, hg.below.size, heap_alloc_new w _, Nat.le_refl _, by simpa [maxLen] using h, by simp [numCells], by rw [Nat.mul_one, List.take_of_length_le (by simp [numCells])]⟩⟩
/-- A result of two cells is stored behind what the call made. -/
theorem own_back2 {k : IntKind} {w wb w1 : World} {e : TypeId} {A : Option Addr} {c : Nat} {xs : List Nat} (hG : Grew w wb) (h : OwnNums k wb w1 e A c xs) (hg : Grew wb w1) (b : Nat) (h1 : w.heap.size ≤ b) (h2 : b < wb.heap.size) (u v : Value) :
    OwnNums k w ((w1.setCell ⟨b, 0, none⟩ u).setCell ⟨b, 1, none⟩ v) e A c xs ∧ Grew w ((w1.setCell ⟨b, 0, none⟩ u).setCell ⟨b, 1, none⟩ v) := by
  have hf : ∀ g, A = some ⟨g, 0, none⟩ → g ≠ b := fun g hA => by
    have := (World.ownsRow.lt h) g (by rw [hA]; rfl)
    omega
  exact ⟨((h.mono hG).far (fun g hA => hf g hA) u).far (fun g hA => hf g hA) v, ((hG.trans hg).setCell h1 _).setCell h1 _⟩
/-- 'make([]uint32, n)': a new block of n zeros. -/
theorem make_u32 {P : Program} {t e : TypeId} (ht : P.underlying t = some (.slice e)) (he : (P.info? e).map (fun i => (i.zero, i.size, i.bytes)) = some (some (.int .u32 0), 1, 4))
    (n : Nat) (hn : n ≤ 35184372088832) (W : World) : (Instr.makeSlice t (.int .i64 n) (.int .i64 n)).run P W = .ok (.slice (some ⟨W.heap.size, 0, none⟩) n n) (W.alloc (.cells (numCells .u32 (List.replicate n 0)).toArray e)) := by
  obtain ⟨i, hi, hz0, hz1, hz2⟩ := info_parts he
  have h := run_make (P := P) W t e i (.int .u32 0) ht hi hz0 .i64 .i64 n n (by omega) (by omega) (by rw [hz2]; omega) (by omega)
  rw [h]
  have e1 : madeCells (Value.int IntKind.u32 0).cells ((n : Int).toNat * i.size) = (numCells .u32 (List.replicate n 0)).toArray := by
    apply Array.toList_inj.1
    rw [hz1, Int.toNat_natCast, Nat.mul_one]
    show (madeCells #[Value.int IntKind.u32 0] n).toList = _
    rw [toList_madeCells_one]
    simp [numCells]
  rw [e1]
  simp

theorem pat_c (A : Option Addr) (c : Nat) (xs : List Nat) (i : Nat) (w : World) (h : NumsAt .u32 w w.heap.size A xs) (hn : xs.length ≤ 1000000) (hi : i ≤ 2000000) :
    Calls Tryz.prog 183 #[.slice A xs.length c, .int .i64 i] w fun e w' => e = .returned (.int .u32 ((xs.getD i 0 : Nat) : Int)) ∧ w' = w := by
  by_cases hlt : i < xs.length
  · obtain ⟨ad, rfl, hb, hc⟩ := h (by omega)
    have hci := hc i hlt
    have hlt' : (i : Int) < (xs.length : Int) := by omega
    clear h hc
    generalize xs.getD i 0 = x at *
    go_enter Tryz.func183, Tryz.ntmps183
    go_wp2
    go_ret
    exact ⟨rfl, rfl⟩
  · rw [Dg.getD_past (xs := xs) (k := i) (by omega)]
    have hlt' : ¬ (i : Int) < (xs.length : Int) := by omega
    clear h
    go_enter Tryz.func183, Tryz.ntmps183
    go_wp2
    go_ret
    exact ⟨rfl, rfl⟩

set_option maxHeartbeats 1000000 in
/-- 'trim' is the same slice, shorter. -/
theorem ptrim_c (A : Option Addr) (c : Nat) (bs : List Nat) (w : World) (h : NumsAt .u32 w w.heap.size A bs) (hn : bs.length ≤ 1000000) (hcap : bs.length ≤ c) (hc2 : c ≤ 9223372036854775807) :
    Calls Tryz.prog 172 #[.slice A bs.length c] w fun e w' => e = .returned (.slice A (Dg.cut bs).length c) ∧ w' = w := by
  go_enter Tryz.func172, Tryz.ntmps172
  go_wp2
  go_loop [3] (fun s => ∃ n : Nat, n ≤ bs.length ∧ s = .int .i64 n ∧ Hid (Dg.cut (bs.take n) = Dg.cut bs)) (fun s => (intOf s).toNat)
  case atStart => exact ⟨bs.length, Nat.le_refl _, rfl, hid (by rw [List.take_length])⟩
  case round =>
    obtain ⟨n, hle, rfl, HE⟩ := hrel
    rcases Nat.eq_zero_or_pos n with h0 | h0
    · subst h0
      have E := HE.out
      have E2 : Hid ((Dg.cut bs).length = 0) := hid (by rw [← E]; rfl)
      clear E
      go_wp2
      go_ret
      exact ⟨by rw [E2.out]; rfl, rfl⟩
    · obtain ⟨m, rfl⟩ : ∃ m, n = m + 1 := ⟨n - 1, by omega⟩
      obtain ⟨ad, rfl, hb, hc⟩ := h (by omega)
      have hcm := hc m (by omega)
      have hml : m < bs.length := by omega
      clear hc
      by_cases hz : bs.getD m 0 = 0
      · have E := hid (cut_step (by omega) HE.out hz)
        have hcm' : w.cell? (ad.add m) = some (.int .u32 0) := by rw [hcm, hz]; rfl
        clear hcm hz
        go_wp2
        go_round
        case rel => exact ⟨m, by omega, by go_num, E⟩
        case measure => simp [intOf]
      · have E := hid (cut_stop (by omega) HE.out hz)
        have hz' : (((bs.getD m 0 : Nat) : Int) == 0) = false := by rw [beq_eq_false_iff_ne]; omega
        clear hz
        generalize bs.getD m 0 = x at *
        go_wp2
        go_ret
        refine ⟨?_, rfl⟩
        have : (Dg.cut bs).length = m + 1 := by rw [E.out, List.length_take, Nat.min_eq_left (by omega)]
        rw [this]
        rfl

set_option maxHeartbeats 1000000 in
/-- A number made of a sign and words of the call's own: they are kept. -/
theorem psigned_c (neg : Bool) (A : Option Addr) (c : Nat) (xs : List Nat) (w0 w : World) (h : OwnNums .u32 w0 w 226 A c xs) (hn : xs.length ≤ 1000000) :
    Calls Tryz.prog 170 #[.bool neg, .slice A xs.length c] w fun e w' => e = .returned (.agg #[.bool (neg && decide (0 < (Dg.cut xs).length)), .slice A (Dg.cut xs).length c]) ∧ Grew w w' := by
  have HO := hid h
  have HL := hid (show (Dg.cut xs).length ≤ 1000000 from Nat.le_trans (Dg.cut_len xs) hn)
  have hc1 := hid h.cap
  obtain ⟨m, hm⟩ : ∃ m, m = (Dg.cut xs).length := ⟨_, rfl⟩
  have HM := hid hm
  rw [← hm] at HL ⊢
  clear h hm
  go_enter Tryz.func170, Tryz.ntmps170
  go_wp2_with fail
  refine (ptrim_c A c xs _ (HO.out.alloc _).at hn hc1.out.1 hc1.out.2).mono ?_
  rw [← HM.out]
  rintro e w1 ⟨rfl, rfl⟩
  have HL2 := HL.out
  cases neg
  · go_wp2_with fail
    refine bodyPost_ret (v := .agg #[.bool false, .slice A m c]) (by simp [results, Tryz.results170, go_sem]) rfl ⟨rfl, (Grew.refl _).alloc _⟩
  · go_wp2_with fail
    refine bodyPost_ret (v := .agg #[.bool (decide (0 < m)), .slice A m c]) (by simp [results, Tryz.results170, go_sem]) rfl ⟨rfl, (Grew.refl _).alloc _⟩
end Go.Proofs.YtjladeiecokpfaaGreatDoor
namespace Go.Proofs.YtjladeiecokpfaaGreatDoor
open Go.RowKit

theorem ret_uu {k l : IntKind} {a b c d : Int} (h : a = b) (h2 : c = d) : Ending.returned (.tuple #[.int k a, .int l c]) = .returned (.tuple #[.int k b, .int l d]) := by rw [h, h2]

theorem add32_c (x y c : Nat) (w : World) (hx : x < 4294967296) (hy : y < 4294967296) (hc : c ≤ 1) :
    Calls Tryz.prog 182 #[.int .u32 ((x : Nat) : Int), .int .u32 ((y : Nat) : Int), .int .u32 ((c : Nat) : Int)] w fun e w' => e = .returned (.tuple #[.int .u32 (((x + y + c) % 4294967296 : Nat) : Int), .int .u32 (((x + y + c) / 4294967296 : Nat) : Int)]) ∧ w' = w := by
  go_enter Tryz.func182, Tryz.ntmps182
  go_wp2_with fail
  go_ret2
  exact ⟨ret_uu (by omega) (by omega), rfl⟩

end Go.Proofs.YtjladeiecokpfaaGreatDoor
namespace Go.Proofs.YtjladeiecokpfaaGreatDoor
open Go.RowKit

set_option maxRecDepth 100000 in
set_option maxHeartbeats 4000000 in
theorem paddMags_c (A : Option Addr) (c : Nat) (xs : List Nat) (B : Option Addr) (d : Nat) (ys : List Nat) (w : World) (ha : NumsAt .u32 w w.heap.size A xs) (hb : NumsAt .u32 w w.heap.size B ys) (la : Dg.Low 4294967296 xs) (lb : Dg.Low 4294967296 ys) (hn : xs.length ≤ 100000) (hm : ys.length ≤ 100000) :
    Calls Tryz.prog 173 #[.slice A xs.length c, .slice B ys.length d] w fun e w' => ∃ A' c' L, e = .returned (.slice A' L.length c') ∧ OwnNums .u32 w w' 226 A' c' L ∧ Dg.Low 4294967296 L ∧ Dg.val 4294967296 L = Dg.val 4294967296 xs + Dg.val 4294967296 ys ∧ L.length = max xs.length ys.length + 1 ∧ Grew w w' := by
  have HA := hid ha
  have HB := hid hb
  clear ha hb
  obtain ⟨n, en⟩ : ∃ n, n = xs.length := ⟨_, rfl⟩
  obtain ⟨m, em⟩ : ∃ m, m = ys.length := ⟨_, rfl⟩
  have EN := hid en
  have EM := hid em
  rw [← en] at hn ⊢
  rw [← em] at hm ⊢
  clear en em
  rcases Nat.lt_or_ge n m with hlt | hlt
  all_goals
    first
      | (obtain ⟨N, rfl⟩ : ∃ N, N = m := ⟨_, rfl⟩
         have HX := hid (show xs.length ≤ N ∧ ys.length ≤ N ∧ N + 1 = max n N + 1 by have := EN.out; have := EM.out; omega))
      | (obtain ⟨N, rfl⟩ : ∃ N, N = n := ⟨_, rfl⟩
         have HX := hid (show xs.length ≤ N ∧ ys.length ≤ N ∧ N + 1 = max N m + 1 by have := EN.out; have := EM.out; omega))
    have hNb : N ≤ 100000 := by omega
    have hmk : ∀ W, (Instr.makeSlice 143 (.int .i64 ((N : Int) + 1)) (.int .i64 ((N : Int) + 1))).run Tryz.prog W = .ok (.slice (some ⟨W.heap.size, 0, none⟩) (N + 1) (N + 1)) (W.alloc (.cells (numCells .u32 (List.replicate (N + 1) 0)).toArray 226)) := fun W => by
      have := make_u32 Tryz.underlying143 Tryz.info_u32 (N + 1) (by omega) W
      rwa [Int.natCast_add, Int.natCast_one] at this
    go_enter Tryz.func173, Tryz.ntmps173
    go_wp2_with fail
    clear hmk
    have hO := OwnNums.new .u32 226 (List.replicate (N + 1) 0) (Grew.refl w) (by simp; omega)
    rw [List.length_replicate] at hO
    have HO := hid hO
    have HG := hid ((Grew.refl w).alloc (.cells (numCells .u32 (List.replicate (N + 1) 0)).toArray 226))
    clear hO
    generalize w.alloc (.cells (numCells .u32 (List.replicate (N + 1) 0)).toArray 226) = wq at *
    go_loopw [6, 17] (fun cv kv wr => ∃ (k cy : Nat) (L : List Nat), kv = .int .i64 k ∧ cv = .int .u32 cy ∧ OwnNums .u32 w wr 226 (some ⟨w.heap.size, 0, none⟩) (N + 1) L ∧ Grew w wr ∧ cy ≤ 1 ∧ k ≤ N + 1 ∧ Hid (L.length = N + 1 ∧ Dg.Low 4294967296 L ∧ Dg.val 4294967296 (L.take k) + 4294967296 ^ k * cy = Dg.val 4294967296 (xs.take k) + Dg.val 4294967296 (ys.take k))) (fun _ kv _ => N + 1 - (intOf kv).toNat)
    case atStart => exact ⟨0, 0, List.replicate (N + 1) 0, rfl, rfl, HO.out, HG.out, by decide, by omega, hid ⟨by simp, Dg.low_zeros _ _ (by decide), by simp⟩⟩
    case round =>
      clear HO HG
      obtain ⟨k, cy, L, rfl, rfl, hown, hg, hcy, hk, HL⟩ := hrel
      by_cases hlt2 : k < N + 1
      · have hlt' : (k : Int) < (N : Int) + 1 := by omega
        have hx := Dg.Low.getD (by decide) la k
        have hy := Dg.Low.getD (by decide) lb k
        have Cx0 := pat_c A c xs k wr (HA.out.grew hg) (by have := HX.out; omega) (by omega)
        have Cy0 := pat_c B d ys k wr (HB.out.grew hg) (by have := HX.out; omega) (by omega)
        obtain ⟨x, ex⟩ : ∃ x, x = xs.getD k 0 := ⟨_, rfl⟩
        obtain ⟨y, ey⟩ : ∃ y, y = ys.getD k 0 := ⟨_, rfl⟩
        rw [← ex, ← EN.out] at Cx0
        rw [← ey, ← EM.out] at Cy0
        rw [← ex] at hx
        rw [← ey] at hy
        have Cx := hid Cx0
        have Cy := hid Cy0
        have HR := hid (Dg.add_round (B := 4294967296) (t := x + y + cy) (by have := HL.out.1; omega) HL.out.2.2 (by rw [ex, ey]))
        clear Cx0 Cy0 ex ey
        rcases hown.cases with ⟨h1, _⟩ | ⟨g, h1, hg0, hg1, hcell, hfro, hcap⟩
        · cases h1
        obtain rfl : w.heap.size = g := by simpa using h1
        have c1 := hcell k (by have := HL.out.1; omega)
        have f1 := hfro k
        clear hcell hfro h1
        generalize L.getD k 0 = old at *
        go_wp2_with (first
          | (go_at_call 183; ((with_reducible refine Cx.out.mono ?_); rintro e w' ⟨rfl, rfl⟩))
          | (go_at_call 183; ((with_reducible refine Cy.out.mono ?_); rintro e w' ⟨rfl, rfl⟩))
          | (go_at_call 182; ((with_reducible refine (add32_c x y cy _ hx hy hcy).mono ?_); rintro e w' ⟨rfl, rfl⟩)))
        go_roundw
        case rel => exact ⟨k + 1, (x + y + cy) / 4294967296, L.set k ((x + y + cy) % 4294967296), by go_num, rfl, hown.set k _, hg.setCell (Nat.le_refl _) _, by omega, by omega, hid ⟨by rw [List.length_set]; exact HL.out.1, HL.out.2.1.set (Nat.mod_lt _ (by decide)) _, HR.out⟩⟩
        case measure => simp [intOf]; omega
      · obtain rfl : k = N + 1 := by omega
        have HE := hid (Dg.add_end (by decide) la lb (by have := HX.out; omega) (by have := HX.out; omega) HL.out.1 HL.out.2.2)
        go_wp2_with fail
        go_ret
        exact ⟨some ⟨w.heap.size, 0, none⟩, N + 1, L, by rw [HL.out.1]; rfl, hown, HL.out.2.1, HE.out, by rw [HL.out.1]; exact HX.out.2.2, hg⟩

end Go.Proofs.YtjladeiecokpfaaGreatDoor
namespace Go.Proofs.YtjladeiecokpfaaGreatDoor
open Go.RowKit

set_option maxRecDepth 100000 in
set_option maxHeartbeats 4000000 in
theorem pmulMags_c (A : Option Addr) (c : Nat) (xs : List Nat) (B : Option Addr) (d : Nat) (ys : List Nat) (w : World) (ha : NumsAt .u32 w w.heap.size A xs) (hb : NumsAt .u32 w w.heap.size B ys) (la : Dg.Low 4294967296 xs) (lb : Dg.Low 4294967296 ys) (hn : xs.length ≤ 100000) (hm : ys.length ≤ 100000) :
    Calls Tryz.prog 171 #[.slice A xs.length c, .slice B ys.length d] w fun e w' => ∃ A' c' L, e = .returned (.slice A' L.length c') ∧ OwnNums .u32 w w' 226 A' c' L ∧ Dg.Low 4294967296 L ∧ Dg.val 4294967296 L = Dg.val 4294967296 xs * Dg.val 4294967296 ys ∧ L.length = xs.length + ys.length ∧ Grew w w' := by
  have HA := hid ha
  have HB := hid hb
  clear ha hb
  obtain ⟨n, en⟩ : ∃ n, n = xs.length := ⟨_, rfl⟩
  obtain ⟨m, em⟩ : ∃ m, m = ys.length := ⟨_, rfl⟩
  have EN := hid en
  have EM := hid em
  rw [← en] at hn ⊢
  rw [← em] at hm ⊢
  clear en em
  have hmk : ∀ W, (Instr.makeSlice 143 (.int .i64 ((n : Int) + (m : Int))) (.int .i64 ((n : Int) + (m : Int)))).run Tryz.prog W = .ok (.slice (some ⟨W.heap.size, 0, none⟩) (n + m) (n + m)) (W.alloc (.cells (numCells .u32 (List.replicate (n + m) 0)).toArray 226)) := fun W => by
    have := make_u32 Tryz.underlying143 Tryz.info_u32 (n + m) (by omega) W
    rwa [Int.natCast_add] at this
  go_enter Tryz.func171, Tryz.ntmps171
  go_wp2_with fail
  clear hmk
  have hO := OwnNums.new .u32 226 (List.replicate (n + m) 0) (Grew.refl w) (by simp; omega)
  rw [List.length_replicate] at hO
  have HO := hid hO
  have HG := hid ((Grew.refl w).alloc (.cells (numCells .u32 (List.replicate (n + m) 0)).toArray 226))
  clear hO
  generalize w.alloc (.cells (numCells .u32 (List.replicate (n + m) 0)).toArray 226) = wq at *
  go_loopw [19] (fun kv wr => ∃ (i : Nat) (L : List Nat), kv = .int .i64 i ∧ OwnNums .u32 w wr 226 (some ⟨w.heap.size, 0, none⟩) (n + m) L ∧ Grew w wr ∧ i ≤ n ∧ Hid (L.length = n + m ∧ Dg.Low 4294967296 L ∧ Dg.val 4294967296 (L.take (i + m)) = Dg.val 4294967296 (xs.take i) * Dg.val 4294967296 ys ∧ ∀ j, i + m ≤ j → L.getD j 0 = 0)) (fun kv _ => n - (intOf kv).toNat)
  case atStart => exact ⟨0, List.replicate (n + m) 0, rfl, HO.out, HG.out, by omega, hid ⟨by simp, Dg.low_zeros _ _ (by decide), by rw [List.take_replicate, Dg.val_zeros]; simp, fun j _ => by simp [List.getD_eq_getElem?_getD, List.getElem?_replicate]; split <;> rfl⟩⟩
  case round =>
    clear HO HG
    obtain ⟨i, L, rfl, hown, hg, hi, HL⟩ := hrel
    by_cases hlt : i < n
    · have hlt' : (i : Int) < (n : Int) := by omega
      obtain ⟨ad, rfl, had, hca⟩ := HA.out (by have := EN.out; omega)
      have hcx : wr.cell? (ad.add i) = some (.int .u32 ((xs.getD i 0 : Nat) : Int)) := by rw [hg.below.cell (by rw [block_add]; exact had)]; exact hca i (by have := EN.out; omega)
      clear hca
      have hx := Dg.Low.getD (by decide) la i
      obtain ⟨x, ex⟩ : ∃ x, x = xs.getD i 0 := ⟨_, rfl⟩
      rw [← ex] at hx hcx
      have EX := hid ex
      clear ex
      obtain ⟨wo, rfl⟩ : ∃ wo : World, wo = wr := ⟨_, rfl⟩
      go_wp2_with fail
      go_loopw [8, 26] (fun cv kv wr => ∃ (j cy : Nat) (P : List Nat), kv = .int .i64 j ∧ cv = .int .u64 cy ∧ OwnNums .u32 w wr 226 (some ⟨w.heap.size, 0, none⟩) (n + m) P ∧ Grew w wr ∧ j ≤ m ∧ cy < 4294967296 ∧ Hid (P.length = n + m ∧ Dg.Low 4294967296 P ∧ Dg.val 4294967296 (P.take (i + j)) + 4294967296 ^ (i + j) * cy = Dg.val 4294967296 (L.take (i + j)) + 4294967296 ^ i * (x * Dg.val 4294967296 (ys.take j)) ∧ ∀ k, i + j ≤ k → P.getD k 0 = L.getD k 0)) (fun _ kv _ => m - (intOf kv).toNat)
      case atStart => exact ⟨0, 0, L, rfl, rfl, hown, hg, by omega, by decide, hid ⟨HL.out.1, HL.out.2.1, by simp, fun _ _ => rfl⟩⟩
      case round =>
        clear hown hg hcx
        obtain ⟨j, cy, P, rfl, rfl, hown, hg, hj, hcy, HP⟩ := hrel
        by_cases hlt2 : j < m
        · have hlt2' : (j : Int) < (m : Int) := by omega
          obtain ⟨bd, rfl, hbd, hcb⟩ := HB.out (by have := EM.out; omega)
          have hcy2 : wr.cell? (bd.add j) = some (.int .u32 ((ys.getD j 0 : Nat) : Int)) := by rw [hg.below.cell (by rw [block_add]; exact hbd)]; exact hcb j (by have := EM.out; omega)
          clear hcb
          have hy := Dg.Low.getD (by decide) lb j
          obtain ⟨y, ey⟩ : ∃ y, y = ys.getD j 0 := ⟨_, rfl⟩
          rw [← ey] at hy hcy2
          rcases hown.cases with ⟨h1, _⟩ | ⟨g, h1, hg0, hg1, hcell, hfro, hcap⟩
          · cases h1
          obtain rfl : w.heap.size = g := by simpa using h1
          have c1 := hcell (i + j) (by have := HP.out.1; omega)
          have f1 := hfro (i + j)
          have hp := Dg.Low.getD (by decide) HP.out.2.1 (i + j)
          clear hcell hfro h1
          obtain ⟨p, ep⟩ : ∃ p, p = P.getD (i + j) 0 := ⟨_, rfl⟩
          rw [← ep] at c1 hp
          have ep2 : p = L.getD (i + j) 0 := ep.trans (HP.out.2.2.2 (i + j) (Nat.le_refl _))
          have HR := hid (Dg.mul_round (B := 4294967296) (t := cy + (x * y + p)) (by have := HP.out.1; omega) HP.out.2.2.1 ey (by rw [ep2]))
          have hb := Dg.mul_carry hx hy hcy hp
          clear ep ep2 ey
          obtain ⟨q, eq⟩ : ∃ q, q = x * y := ⟨_, rfl⟩
          have hq : (x : Int) * (y : Int) = (q : Int) := by rw [eq]; push_cast; rfl
          rw [← eq] at HR hb
          clear eq
          go_wp2_with fail
          go_roundw
          case rel => exact ⟨j + 1, (cy + (q + p)) / 4294967296, P.set (i + j) ((cy + (q + p)) % 4294967296), by go_num, rfl, hown.set (i + j) _, hg.setCell (Nat.le_refl _) _, by omega, by omega, hid ⟨by rw [List.length_set]; exact HP.out.1, HP.out.2.1.set (Nat.mod_lt _ (by decide)) _, HR.out, fun k hk => by rw [← HP.out.2.2.2 k (by omega)]; exact Dg.getD_set_ne (by omega)⟩⟩
          case measure => simp [intOf]; omega
        · obtain rfl : j = m := by omega
          rcases hown.cases with ⟨h1, _⟩ | ⟨g, h1, hg0, hg1, hcell, hfro, hcap⟩
          · cases h1
          obtain rfl : w.heap.size = g := by simpa using h1
          have c1 := hcell (i + j) (by have := HP.out.1; omega)
          have f1 := hfro (i + j)
          clear hcell hfro h1
          generalize P.getD (i + j) 0 = p at *
          have HE := hid (Dg.mul_next (B := 4294967296) (P := P) (P0 := L) (xs := xs) (ys := ys) (i := i) (w := x) (c := cy) (by have := HP.out.1; have := EM.out; omega) EX.out (by rw [← EM.out]; exact HL.out.2.2.1) (by rw [← EM.out]; exact HP.out.2.2.1))
          rw [← EM.out] at HE
          go_wp2_with fail
          go_roundw
          case rel => exact ⟨i + 1, P.set (i + j) cy, by go_num, by have := hown.set (i + j) cy; exact this, hg.setCell (Nat.le_refl _) _, by omega, hid ⟨by rw [List.length_set]; exact HP.out.1, HP.out.2.1.set hcy _, HE.out, fun k hk => by rw [Dg.getD_set_ne (by omega), HP.out.2.2.2 k (by omega)]; exact HL.out.2.2.2 k (by omega)⟩⟩
          case measure => simp [intOf]; omega
    · obtain rfl : i = n := by omega
      have HE := hid (show Dg.val 4294967296 L = Dg.val 4294967296 xs * Dg.val 4294967296 ys by
        have := HL.out.2.2.1
        rwa [List.take_of_length_le (by rw [HL.out.1]; omega), List.take_of_length_le (by rw [EN.out]; omega)] at this)
      go_wp2_with fail
      go_ret
      exact ⟨some ⟨w.heap.size, 0, none⟩, i + m, L, by rw [HL.out.1]; rfl, hown, HL.out.2.1, HE.out, HL.out.1, hg⟩
end Go.Proofs.YtjladeiecokpfaaGreatDoor
namespace Go.Proofs.YtjladeiecokpfaaGreatDoor
open Go.RowKit

theorem cut_rep (neg : Bool) {xs : List Nat} (ll : Dg.Low 4294967296 xs) : Lg.Rep (neg && decide (0 < (Dg.cut xs).length)) (Dg.cut xs) (Lg.sgn neg (Dg.val 4294967296 xs)) := by
  have ht := Dg.cut_top xs
  have hl := Dg.cut_low ll
  have hv := Dg.cut_val 4294967296 xs
  refine ⟨hl, ht, by rw [Lg.sgn_abs, hv], ?_⟩
  rw [← Lg.sgn_neg]
  congr 1
  rw [decide_eq_decide, ← hv]
  constructor
  · intro h
    have := Dg.val_pos (B := 4294967296) (by decide) ht (by intro e; rw [e] at h; simp at h)
    omega
  · intro h
    rcases Nat.eq_zero_or_pos (Dg.cut xs).length with h0 | h0
    · exact absurd (by rw [List.eq_nil_of_length_eq_zero h0]; rfl) h
    · exact h0

set_option maxHeartbeats 2000000 in
/-- The words are kept, or the error comes with nothing. -/
theorem plimited_c (neg : Bool) (A : Option Addr) (c : Nat) (xs : List Nat) (w0 w : World) (h : OwnNums .u32 w0 w 226 A c xs) (hl : Dg.Low 4294967296 xs) (hn : xs.length ≤ 1000000) :
    Calls Tryz.prog 149 #[.bool neg, .slice A xs.length c] w fun e w' => ∃ A' c' ng L k, e = .returned (.tuple #[.agg #[.bool ng, .slice A' L.length c'], errVal k]) ∧ OwnNums .u32 w0 w' 226 A' c' L ∧ Lg.Out (Lg.sgn neg (Dg.val 4294967296 xs)) ng L k ∧ Grew w w' := by
  have HO := hid h
  have HR := hid (cut_rep neg hl)
  have HC := hid (show OwnNums .u32 w0 w 226 A c (Dg.cut xs) by rw [Dg.cut_take]; exact h.take _)
  have CS := hid (psigned_c neg A c xs w0 (w.alloc (.cells #[.bool false, .slice none 0 0] 198)) (h.alloc _) hn)
  generalize (neg && decide (0 < (Dg.cut xs).length)) = ng at *
  generalize Dg.cut xs = L at *
  clear h
  go_enter Tryz.func149, Tryz.ntmps149
  go_wp2_with fail
  refine CS.out.mono ?_
  rintro e w1 ⟨rfl, y, rfl⟩
  have b0 : y.w.cell? ⟨w.heap.size, 0, none⟩ = some (.bool false) := by rw [y.cell _ (by simp)]; simp
  have b1 : y.w.cell? ⟨w.heap.size, 1, none⟩ = some (.slice none 0 0) := by rw [y.cell _ (by simp)]; simp
  have fr : ∀ i, y.w.frozen? ⟨w.heap.size, i, none⟩ = false := fun i => by rw [y.frozen _ (by simp)]; simp
  have hlt : w.heap.size < y.w.heap.size := by have := y.b.size; simp at this; omega
  have hG := hid (show Grew w y.w from ((Grew.refl w).alloc _).trans y.grew)
  have HC2 := hid (HC.out.grew hG.out)
  by_cases hb : 64 < L.length
  · have hb' : (64 : Int) < (L.length : Int) := by omega
    go_wp2_with fail
    refine bodyPost_ret (v := .tuple #[.agg #[.bool false, .slice none 0 0], .iface 75 (.int .i64 4)]) (by simp [results, Tryz.results149, go_sem, *]) rfl ?_
    exact ⟨none, 0, false, [], 4, rfl, OwnNums.nil _ _ _ _, Lg.Out.of_long HR.out hb, ((hG.out.setCell (Nat.le_refl _) _).setCell (Nat.le_refl _) _).alloc _⟩
  · have hb' : ¬ (64 : Int) < (L.length : Int) := by omega
    go_wp2_with fail
    have HF := hid (show ∀ g, A = some ⟨g, 0, none⟩ → g ≠ w.heap.size from fun g hA => by
      have := (World.ownsRow.lt HC.out) g (by rw [hA]; rfl)
      omega)
    refine bodyPost_ret (v := .tuple #[.agg #[.bool ng, .slice A L.length c], .nilIface]) (by simp [results, Tryz.results149, go_sem, *]) rfl ?_
    exact ⟨A, c, ng, L, 0, rfl, ((HC2.out.far (fun g hA => HF.out g hA) _).far (fun g hA => HF.out g hA) _).alloc _, Lg.Out.of_rep HR.out (by omega), ((hG.out.setCell (Nat.le_refl _) _).setCell (Nat.le_refl _) _).alloc _⟩

end Go.Proofs.YtjladeiecokpfaaGreatDoor

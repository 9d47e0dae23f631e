/- The developers' large numbers, part 10: what Text calls of Go's library on bytes: noughts taken off the end, a slice turned round. -/
import Derived.Test.YtmcfciifjgdgoaaGreatDoorPl4
import Derived.Test.YtmcfciifjgdgoaaGreatDoorPl8
import Derived.Deep.LoopGhost
import Derived.Test.YtmcfciifjgdgoaaGreatDoorLgT
import Derived.Test.YtmcfciifjgdgoaaGreatDoorOwn2
import Derived.RegionTactic
import Derived.BigRegion
namespace Go.Proofs.YtmcfciifjgdgoaaGreatDoor
open Go.RowKit

theorem OwnNums.ne_type {k l : IntKind} {w0 w1 w : World} {e f : TypeId} {A B : Option Addr} {c d : Nat} {xs ys : List Nat} (h : OwnNums k w0 w e A c xs) (g : OwnNums l w1 w f B d ys) {q : Nat} (hA : A = some ⟨q, 0, none⟩) (hB : B = some ⟨q, 0, none⟩) (hne : e ≠ f) : False := by
  subst hA hB
  rcases h.2 with ⟨h1, _⟩ | ⟨a, cap, cur, hv, _, hh, _⟩
  · simp at h1
  rcases g.2 with ⟨g1, _⟩ | ⟨b, cap2, cur2, gv, _, gh, _⟩
  · simp at g1
  simp only [Value.slice.injEq, Option.some.injEq, Addr.mk.injEq] at hv gv
  have e1 : q = a := hv.1.1
  have e2 : q = b := gv.1.1
  subst e1 e2
  rw [hh] at gh
  simp at gh
  exact hne gh.2
theorem map48_get (D : List Nat) (j : Nat) (h : j < D.length) : (D.map (48 + ·)).getD j 0 = 48 + D.getD j 0 := by
  rw [List.getD_eq_getElem?_getD, List.getD_eq_getElem?_getD, List.getElem?_map, List.getElem?_eq_getElem h]
  rfl

set_option maxHeartbeats 1000000 in
/-- The same slice, shorter. -/
theorem trimRB_c (A : Option Addr) (c : Nat) (L D : List Nat) (w : World) (h : NumsAt .u8 w w.heap.size A L) (hL : L = D.map (48 + ·)) (hn : L.length ≤ 1000000) (hcap : L.length ≤ c) (hc2 : c ≤ 9223372036854775807) :
    Calls Tryz.prog 80 #[.slice A L.length c, .int .u8 48] w fun e w' => e = .returned (.slice A (Dg.cut D).length c) ∧ w' = w := by
  have HL := hid hL
  have HLL := hid (show L.length = D.length by rw [hL]; simp)
  have H := hid h
  clear hL h
  go_enter Tryz.func80, Tryz.ntmps80
  go_wp2
  go_loop [0] (fun s => ∃ n : Nat, n ≤ L.length ∧ s = .slice A n c ∧ Hid (Dg.cut (D.take n) = Dg.cut D)) (fun s => match s with | .slice _ n _ => n | _ => 0)
  case atStart => exact ⟨L.length, Nat.le_refl _, rfl, hid (by rw [HLL.out, List.take_length])⟩
  case round =>
    obtain ⟨n, hle, rfl, HE⟩ := hrel
    rcases Nat.eq_zero_or_pos n with h0 | h0
    · subst h0
      have E := HE.out
      have E2 : Hid ((Dg.cut D).length = 0) := hid (by rw [← E]; rfl)
      clear E
      go_wp2
      go_ret
      exact ⟨by rw [E2.out]; rfl, rfl⟩
    · obtain ⟨m, rfl⟩ : ∃ m, n = m + 1 := ⟨n - 1, by omega⟩
      obtain ⟨ad, rfl, hb, hc⟩ := H.out (by omega)
      have hcm := hc m (by omega)
      rw [show L.getD m 0 = 48 + D.getD m 0 by rw [HL.out]; exact map48_get D m (by have := HLL.out; omega)] at hcm
      have hml : m < L.length := by omega
      have hml2 : m < D.length := by have := HLL.out; omega
      clear hc
      by_cases hz : D.getD m 0 = 0
      · have E := hid (cut_step hml2 HE.out hz)
        have hcm' : w.cell? (ad.add m) = some (.int .u8 48) := by rw [hcm, hz]; rfl
        clear hcm hz
        go_wp2
        go_round
        case rel => exact ⟨m, by omega, rfl, E⟩
        case measure => simp
      · have E := hid (cut_stop hml2 HE.out hz)
        have hz' : ((((48 + D.getD m 0 : Nat)) : Int) == 48) = false := by rw [beq_eq_false_iff_ne]; omega
        clear hz
        generalize D.getD m 0 = x at *
        obtain ⟨y, hy⟩ : ∃ y, y = 48 + x := ⟨_, rfl⟩
        rw [← hy] at hcm hz'
        clear hy
        go_wp2
        go_ret
        refine ⟨?_, rfl⟩
        have : (Dg.cut D).length = m + 1 := by rw [E.out, List.length_take, Nat.min_eq_left (by omega)]
        rw [this]
        rfl

set_option maxRecDepth 100000 in
set_option maxHeartbeats 1000000 in
theorem trimR_c (A : Option Addr) (c : Nat) (L D : List Nat) (w : World) (h : NumsAt .u8 w w.heap.size A L) (hL : L = D.map (48 + ·)) (hn : L.length ≤ 1000000) (hcap : L.length ≤ c) (hc2 : c ≤ 9223372036854775807) (h0 : 0 < L.length) :
    Calls Tryz.prog 68 #[.slice A L.length c, .string ⟨#[48]⟩] w fun e w' => e = .returned (.slice A (Dg.cut D).length c) ∧ w' = w := by
  have CT := hid (trimRB_c A c L D w h hL hn hcap hc2)
  have z0 : (((L.length : Nat) : Int) == 0) = false := by rw [beq_eq_false_iff_ne]; omega
  have hb : ∀ h, ((⟨#[48]⟩ : ByteArray)[0]'h).toNat = 48 := fun _ => rfl
  clear hL h
  go_enter Tryz.func68, Tryz.ntmps68
  go_wp2_with fail
  refine CT.out.mono ?_
  rintro e w' ⟨rfl, rfl⟩
  go_wp2_with fail
  go_ret
  exact ⟨rfl, rfl⟩

/-- Turned round as far as 'k' from both ends. -/
def RevAt (L C : List Nat) (k : Nat) : Prop := C.length = L.length ∧ ∀ j, j < L.length → C.getD j 0 = if j < k ∨ L.length ≤ j + k then L.getD (L.length - 1 - j) 0 else L.getD j 0
theorem RevAt.start (L : List Nat) : RevAt L L 0 := ⟨rfl, fun j hj => by rw [if_neg (by omega)]⟩
theorem getD_set_eq {P : List Nat} {a v : Nat} (h : a < P.length) : (P.set a v).getD a 0 = v := by
  rw [List.getD_eq_getElem?_getD, List.getElem?_set_self h]; rfl
theorem RevAt.step {L C : List Nat} {k m : Nat} (h : RevAt L C k) (hm : m + k + 1 = L.length) (hk : k < m) : RevAt L ((C.set k (C.getD m 0)).set m (C.getD k 0)) (k + 1) := by
  refine ⟨by rw [List.length_set, List.length_set]; exact h.1, fun j hj => ?_⟩
  have hl := h.1
  by_cases e1 : j = m
  · subst e1
    rw [getD_set_eq (by rw [List.length_set]; omega), h.2 k (by omega), if_neg (by omega), if_pos (by omega)]
    congr 1
    omega
  · rw [Dg.getD_set_ne (fun e => e1 e.symm)]
    by_cases e2 : j = k
    · subst e2
      rw [getD_set_eq (by omega), h.2 m (by omega), if_neg (by omega), if_pos (by omega)]
      congr 1
      omega
    · rw [Dg.getD_set_ne (fun e => e2 e.symm), h.2 j hj]
      by_cases q : j < k ∨ L.length ≤ j + k
      · rw [if_pos q, if_pos (by omega)]
      · rw [if_neg q, if_neg (by omega)]
theorem RevAt.done {L C : List Nat} {k m : Nat} (h : RevAt L C k) (hm : m + k + 1 = L.length) (hk : m ≤ k) : C = L.reverse := by
  refine List.ext_getElem (by simp [h.1]) fun j h1 h2 => ?_
  have hj : j < L.length := by simpa using h2
  have := h.2 j hj
  rw [List.getD_eq_getElem?_getD, List.getElem?_eq_getElem h1, Option.getD_some] at this
  rw [this, List.getElem_reverse]
  by_cases q : j < k ∨ L.length ≤ j + k
  · rw [if_pos q, List.getD_eq_getElem?_getD, List.getElem?_eq_getElem (by omega)]; rfl
  · rw [if_neg q, List.getD_eq_getElem?_getD, List.getElem?_eq_getElem hj]
    have : L.length - 1 - j = j := by omega
    simp only [this]; rfl
def RevPost (w0 : World) (g c : Nat) (L : List Nat) (e : Ending) (w' : World) : Prop := (∃ v, e = .returned v) ∧ OwnNums .u8 w0 w' 5 (some ⟨g, 0, none⟩) c L.reverse ∧ Grew w0 w'

set_option maxRecDepth 100000 in
set_option maxHeartbeats 2000000 in
theorem rev_c (g c : Nat) (L : List Nat) (w0 w : World) (h : OwnNums .u8 w0 w 5 (some ⟨g, 0, none⟩) c L) (hn : L.length ≤ 1000000) (h0 : 0 < L.length) (hg : Grew w0 w) :
    Calls Tryz.prog 48 #[.slice (some ⟨g, 0, none⟩) L.length c] w (RevPost w0 g c L) := by
  have HO := hid h
  have HG := hid hg
  clear h hg
  obtain ⟨n, hl⟩ : ∃ n, L.length = n + 1 := ⟨L.length - 1, by omega⟩
  have HL := hid hl
  rw [hl] at hn ⊢
  clear hl h0
  go_enter Tryz.func48, Tryz.ntmps48
  go_wp2
  go_loopw [2, 3] (fun i j wr => ∃ (k m : Nat) (C : List Nat), i = .int .i64 ((k : Nat) : Int) ∧ j = .int .i64 (((m : Nat) : Int)) ∧ OwnNums .u8 w0 wr 5 (some ⟨g, 0, none⟩) c C ∧ Grew w0 wr ∧ m + k = n ∧ k ≤ m + 1 ∧ Hid (RevAt L C k)) (fun _ j _ => (intOf j).toNat)
  case atStart => exact ⟨0, n, L, rfl, by go_num, HO.out, HG.out, by omega, by omega, hid (RevAt.start L)⟩
  case round =>
    clear HO HG
    obtain ⟨k, m, C, rfl, rfl, hown, hg, hkm, hkm2, HR⟩ := hrel
    by_cases hlt : k < m
    · have hlt' : (k : Int) < (m : Int) := by omega
      have HS := hid (HR.out.step (m := m) (by rw [HL.out]; omega) hlt)
      rcases hown.cases with ⟨h1, _⟩ | ⟨g', h1, hg0, hg1, hcell, hfro, hcap⟩
      · cases h1
      obtain rfl : g = g' := by simpa using h1
      have c1 := hcell k (by have := HR.out.1; have := HL.out; omega)
      have c2 := hcell m (by have := HR.out.1; have := HL.out; omega)
      have f1 := hfro k
      have f2 := hfro m
      have hkn : (k : Int) < (n : Int) + 1 := by omega
      have hmn : (m : Int) < (n : Int) + 1 := by omega
      clear hcell hfro h1
      generalize C.getD k 0 = x at *
      generalize C.getD m 0 = y at *
      have hne : k ≠ m := by omega
      go_wp2
      go_region
      all_goals
        go_wp2
        go_roundw
        case rel => exact ⟨k + 1, m - 1, (C.set k y).set m x, by go_num, by go_num, by first | exact ((hown.set k _).set m _).drew | exact (hown.drew.set k _).set m _ | (rw [List.set_comm _ _ hne]; first | exact ((hown.set m _).set k _).drew | exact (hown.drew.set m _).set k _), by first | exact ((hg.setCell hg0 _).setCell hg0 _).drew | exact (hg.drew.setCell hg0 _).setCell hg0 _, by omega, by omega, HS⟩
        case measure => simp [intOf]; omega
    · have HE := hid (HR.out.done (m := m) (by rw [HL.out]; omega) (by omega))
      go_wp2
      refine bodyPost_ret (results_none rfl _ _ _) rfl ?_
      exact ⟨⟨_, rfl⟩, by rw [← HE.out]; exact hown, hg⟩

theorem group_round {D : List Nat} {g : Nat} : Dg.val 10 (D ++ [g % 10]) + 10 ^ (D ++ [g % 10]).length * (g / 10) = Dg.val 10 D + 10 ^ D.length * g := by
  rw [Dg.val_snoc, List.length_append, List.length_cons, List.length_nil, Nat.zero_add, Nat.pow_succ, Nat.mul_assoc]
  have e : 10 ^ D.length * (g % 10) + 10 ^ D.length * (10 * (g / 10)) = 10 ^ D.length * g := by
    rw [← Nat.mul_add, Nat.mod_add_div]
  omega
/-- Nine digits of a group. -/
structure GroupInv (D0 D : List Nat) (g0 g j : Nat) : Prop where
  len : D.length = D0.length + j
  low : Dg.Low 10 D
  val : Dg.val 10 D + 10 ^ D.length * g = Dg.val 10 D0 + 10 ^ D0.length * g0
  lt : g < 10 ^ (9 - j)
theorem GroupInv.start {D : List Nat} {g : Nat} (h : Dg.Low 10 D) (hg : g < 1000000000) : GroupInv D D g g 0 := ⟨rfl, h, rfl, hg⟩
theorem GroupInv.step {D0 D : List Nat} {g0 g j : Nat} (h : GroupInv D0 D g0 g j) (hj : j < 9) : GroupInv D0 (D ++ [g % 10]) g0 (g / 10) (j + 1) := by
  refine ⟨by rw [List.length_append, h.len]; rfl, h.low.snoc (Nat.mod_lt _ (by decide)), group_round.trans h.val, ?_⟩
  · have h1 := h.lt
    rw [show 9 - j = 9 - (j + 1) + 1 by omega, Nat.pow_succ] at h1
    rw [Nat.div_lt_iff_lt_mul (by decide)]
    exact h1
theorem GroupInv.done {D0 D : List Nat} {g0 g : Nat} (h : GroupInv D0 D g0 g 9) {M : Nat} : Dg.val 10 D + 10 ^ D.length * M = Dg.val 10 D0 + 10 ^ D0.length * (M * 1000000000 + g0) ∧ g = 0 := by
  have h0 : g = 0 := by have := h.lt; simp at this; exact this
  have hv := h.val
  rw [h0, Nat.mul_zero, Nat.add_zero] at hv
  refine ⟨?_, h0⟩
  rw [hv, h.len, Nat.pow_add, Nat.mul_add, Nat.mul_assoc]
  have : (10 : Nat) ^ 9 = 1000000000 := by decide
  rw [this, Nat.mul_comm 1000000000 M]
  omega
/-- All digits that have been found, and what is left. -/
structure DigInv (N gf : Nat) (M D L : List Nat) : Prop where
  low : Dg.Low 4294967296 M
  top : Dg.Top M
  dig : Dg.Low 10 D
  val : Dg.val 10 D + 10 ^ D.length * Dg.val 4294967296 M = N
  lt : Dg.val 4294967296 M < 1000000000 ^ gf
  len : D.length + 9 * gf = 630
  cells : L = D.map (48 + ·)
theorem DigInv.start {xs : List Nat} (lx : Dg.Low 4294967296 xs) (tx : Dg.Top xs) (h : xs.length ≤ 64) : DigInv (Dg.val 4294967296 xs) 70 xs [] [] := by
  refine ⟨lx, tx, Dg.Low.nil _, by simp, ?_, rfl, rfl⟩
  refine Nat.lt_of_lt_of_le (Dg.val_lt lx) (Nat.le_trans (Nat.pow_le_pow_right (by decide) h) ?_)
  decide +kernel
theorem DigInv.pos {N gf : Nat} {M D L : List Nat} (h : DigInv N gf M D L) (hM : 0 < M.length) : 0 < gf := by
  have h1 := Dg.val_pos (B := 4294967296) (by decide) h.top (by rintro rfl; simp at hM)
  have h2 := h.lt
  rcases Nat.eq_zero_or_pos gf with h0 | h0
  · subst h0; simp at h2; omega
  · exact h0
theorem DigInv.step {N gf g r : Nat} {M M' D D' L' : List Nat} {L : List Nat} (h : DigInv N (gf + 1) M D L) (hl : Dg.Low 4294967296 M') (ht : Dg.Top M') (hv : Dg.val 4294967296 M' * 1000000000 + r = Dg.val 4294967296 M) (hG : GroupInv D D' r g 9) (hL : L' = D'.map (48 + ·)) : DigInv N gf M' D' L' := by
  refine ⟨hl, ht, hG.low, ?_, ?_, ?_, hL⟩
  · rw [(hG.done (M := Dg.val 4294967296 M')).1, hv]
    exact h.val
  · have := h.lt
    rw [← hv, Nat.pow_succ] at this
    exact Nat.lt_of_mul_lt_mul_right (Nat.lt_of_le_of_lt (Nat.le_add_right _ _) this)
  · have := h.len
    rw [hG.len]
    omega
def DigPost (w : World) (N : Nat) (e : Ending) (w' : World) : Prop := ∃ g c L D, e = .returned (.slice (some ⟨g, 0, none⟩) L.length c) ∧ OwnNums .u8 w w' 5 (some ⟨g, 0, none⟩) c L ∧ w.heap.size ≤ g ∧ L = D.map (48 + ·) ∧ Dg.Low 10 D ∧ Dg.Top D ∧ Dg.val 10 D = N ∧ L.length ≤ 630 ∧ Grew w w'

set_option maxRecDepth 100000 in
set_option maxHeartbeats 2000000 in
theorem pdigits_c (A : Option Addr) (c : Nat) (xs : List Nat) (w : World) (ha : NumsAt .u32 w w.heap.size A xs) (lx : Dg.Low 4294967296 xs) (tx : Dg.Top xs) (hn : xs.length ≤ 64) (h0 : 0 < xs.length) :
    Calls Tryz.prog 47 #[.slice A xs.length c] w (DigPost w (Dg.val 4294967296 xs)) := by
  have HA := hid ha
  have HS := hid (DigInv.start lx tx hn)
  have hN := Dg.val_pos (B := 4294967296) (by decide) tx (by rintro rfl; simp at h0)
  generalize Dg.val 4294967296 xs = N at *
  clear ha lx tx h0
  go_enter Tryz.func47, Tryz.ntmps47
  go_wp2_with fail
  go_loopg [0, 3] 70 (fun gf s0 s3 wx => ∃ (E : Option Addr) (f : Nat) (M : List Nat) (G : Option Addr) (h : Nat) (D L : List Nat), s0 = .slice E M.length f ∧ s3 = .slice G L.length h ∧ Hid (NumsAt .u32 wx wx.heap.size E M) ∧ OwnNums .u8 w wx 5 G h L ∧ Grew w wx ∧ M.length ≤ 64 ∧ Hid (DigInv N gf M D L))
  case atStart => exact ⟨A, c, xs, none, 0, [], [], rfl, rfl, HA, OwnNums.nil _ _ _ _, Grew.refl _, hn, HS⟩
  case round =>
    clear HA HS hn
    obtain ⟨E, f, M, G, h, D, L, rfl, rfl, HM, hown, hg, hMl, HD⟩ := hrel
    rcases Nat.eq_zero_or_pos M.length with h0 | h0
    · have HV := hid (show Dg.val 10 D = N by
        have := HD.out.val
        rw [List.eq_nil_of_length_eq_zero h0, Dg.val_nil, Nat.mul_zero, Nat.add_zero] at this
        exact this)
      have e := List.eq_nil_of_length_eq_zero h0
      subst e
      clear h0 hMl HM
      have HLl := hid (show L.length ≤ 630 by have := HD.out.len; rw [HD.out.cells, List.length_map]; omega)
      have HLp := hid (show 0 < L.length by
        rw [HD.out.cells, List.length_map]
        rcases Nat.eq_zero_or_pos D.length with h1 | h1
        · have h2 := HV.out
          rw [List.eq_nil_of_length_eq_zero h1, Dg.val_nil] at h2
          omega
        · exact h1)
      have CT := hid (trimR_c G h L D wr hown.at HD.out.cells (by have := HLl.out; omega) hown.cap.1 hown.cap.2 HLp.out)
      rcases hown.cases with ⟨_, _, e⟩ | ⟨g, rfl, hgb, _, _, _, _⟩
      · have := HLp.out; rw [e] at this; simp at this
      go_wp2_with fail
      refine CT.out.mono ?_
      rintro e w' ⟨rfl, rfl⟩
      go_wp2_with fail
      go_ret
      have hT := hown.take (Dg.cut D).length
      have hTe : L.take (Dg.cut D).length = (Dg.cut D).map (48 + ·) := by rw [HD.out.cells, ← List.map_take, ← Dg.cut_take]
      rw [hTe] at hT
      exact ⟨g, h, (Dg.cut D).map (48 + ·), Dg.cut D, by simp, hT, hgb, rfl, Dg.cut_low HD.out.dig, Dg.cut_top D, by rw [Dg.cut_val]; exact HV.out, by have h1 := HLl.out; have h2 := Dg.cut_len D; rw [HD.out.cells, List.length_map] at h1; rw [List.length_map]; omega, hg⟩
    · obtain ⟨g', rfl⟩ : ∃ g', gk = g' + 1 := ⟨gk - 1, by have := HD.out.pos h0; omega⟩
      have h0' : (0 : Int) < (M.length : Int) := by omega
      have CW := pdivWord_c E f M 1000000000 wr HM.out HD.out.low (by decide) (by decide) (by omega)
      rw [show ((1000000000 : Nat) : Int) = 1000000000 from rfl] at CW
      replace CW := hid CW
      go_wp2_with fail
      refine CW.out.mono ?_
      rintro e w1 ⟨A', c', M', r, rfl, hO', hl', ht', hv', hr', hg'⟩
      have HO' := hid (hO'.mono hg)
      have HV' := hid hv'
      have HG0 := hid (GroupInv.start HD.out.dig hr')
      have hMl' := Dg.len_le (B := 4294967296) (by decide) HD.out.low ht' (by rw [← hv']; omega)
      have hown0 := hown.grew hg'
      have hgr := hg.trans hg'
      have HLe := hid HD.out.cells
      have HDL := hid HD.out.len
      clear hown hg hO' hv' hg' CW HM h0 h0'
      go_wp2_with fail
      go_loopw [3, 4, 13] (fun s3 s4 s13 wx => ∃ (j g : Nat) (G : Option Addr) (h : Nat) (D' L' : List Nat), s13 = .int .i64 ((j : Nat) : Int) ∧ s4 = .int .u32 ((g : Nat) : Int) ∧ s3 = .slice G L'.length h ∧ OwnNums .u8 w wx 5 G h L' ∧ Hid (OwnNums .u32 w wx 55 A' c' M') ∧ Grew w wx ∧ j ≤ 9 ∧ L'.length ≤ 630 + j ∧ Hid (GroupInv D D' r g j) ∧ Hid (L' = D'.map (48 + ·))) (fun _ _ s13 _ => 9 - (intOf s13).toNat)
      case atStart => exact ⟨0, r, G, h, D, L, rfl, rfl, rfl, hown0, HO', hgr, by omega, by have := HDL.out; rw [HLe.out, List.length_map]; omega, HG0, HLe⟩
      case round =>
        clear hown0 hgr HO'
        obtain ⟨j, g, G, h, D', L', rfl, rfl, rfl, hown, HO', hg, hj, hLl, HGI, HLC⟩ := hrel
        by_cases hlt : j < 9
        · have hlt' : (j : Int) < 9 := by omega
          have HST := hid (HGI.out.step hlt)
          have hgb : g < 1000000000 := Nat.lt_of_lt_of_le HGI.out.lt (show (10 : Nat) ^ (9 - j) ≤ 10 ^ 9 from Nat.pow_le_pow_right (by decide) (by omega))
          go_wp2_with (at_builtin; refine wpList_pushK .u8 1 w wr rfl _ _ 57 5 rfl Tryz.underlying57 Tryz.info_u8 hg G h L' rfl hown (48 + g % 10) _ rfl rfl _ (by first | rfl | (congr 1; omega)) (by omega) (by omega) ?_; rintro G2 h2 L2 W1 HL2 hO hG hK)
          have HO2 := hid (OwnNums.keptBut HO'.out hK (fun g' e1 e2 => OwnNums.ne_type hown HO'.out e2 e1 (by decide)))
          go_roundw
          case rel => exact ⟨j + 1, g / 10, G2, h2, D' ++ [g % 10], L2, by go_num, by first | rfl | (congr 1; omega), rfl, hO, HO2, hG, by omega, by rw [HL2.out, List.length_append, List.length_cons, List.length_nil]; omega, HST, hid (by rw [HL2.out, HLC.out, List.map_append]; rfl)⟩
          case measure => simp [intOf]; omega
        · obtain rfl : j = 9 := by omega
          go_wp2_with fail
          go_roundg g'
          case rel => exact ⟨A', c', M', G, h, D', L', rfl, rfl, hid HO'.out.at, hown, hg, by omega, hid (DigInv.step (L := L) HD.out hl' ht' HV'.out HGI.out HLC.out)⟩
          case measure => omega

theorem numeral_rev (neg : Bool) (D : List Nat) : ((D.map (48 + ·)) ++ (if neg = true then [45] else [])).reverse = Lg.numeral neg D := by
  cases neg <;> simp [Lg.numeral]
theorem dec_of {D : List Nat} {N : Nat} (hl : Dg.Low 10 D) (ht : Dg.Top D) (hv : Dg.val 10 D = N) (h0 : 0 < N) : Lg.Dec D N := ⟨hl, hv, .inr ⟨ht, by rintro rfl; simp at hv; omega⟩⟩

set_option maxRecDepth 100000 in
set_option maxHeartbeats 2000000 in
theorem ptext_c (na : Bool) (A : Option Addr) (c : Nat) (xs : List Nat) (w : World) (ha : NumsAt .u32 w w.heap.size A xs) (lx : Dg.Low 4294967296 xs) (hn : xs.length ≤ 1000000000000) :
    Calls Tryz.prog 24 #[.agg #[.bool na, .slice A xs.length c]] w fun e w' => ∃ s k, e = .returned (.tuple #[.string s, errVal k]) ∧ Lg.TextOut (Lg.may na xs) na (Dg.val 4294967296 xs) s k ∧ Grew w w' := by
  have HA := hid ha
  have CV := hid (pvalid_c na A c xs (w.alloc (.cells #[.bool na, .slice A xs.length c] 27)) (ha.grew ((Grew.refl _).alloc _)) hn)
  clear ha
  cases hma : Lg.may na xs
  · rw [hma] at CV
    clear hma
    go_enter Tryz.func24, Tryz.ntmps24
    go_wp2_with fail
    refine CV.out.mono ?_
    rintro e w1 ⟨rfl, hg⟩
    go_wp2_with fail
    go_ret2
    exact ⟨ByteArray.empty, 1, rfl, Lg.TextOut.mk (fun _ => ⟨rfl, rfl⟩) (fun h => by cases h), ((Grew.refl _).alloc _).trans hg⟩
  · rw [hma] at CV
    obtain ⟨tx, hl64⟩ := top_of_may lx hma
    rcases Nat.eq_zero_or_pos xs.length with h0 | h0
    · have e := List.eq_nil_of_length_eq_zero h0
      subst e
      have hna : na = false := by
        have := (Lg.may_iff.1 hma).2.2
        simpa using this
      subst hna
      clear hma tx hl64 h0
      go_enter Tryz.func24, Tryz.ntmps24
      go_wp2_with fail
      refine CV.out.mono ?_
      rintro e w1 ⟨rfl, y, rfl⟩
      have b1 : y.w.cell? ⟨w.heap.size, 1, none⟩ = some (.slice A 0 c) := by rw [y.cell _ (by simp)]; simp
      go_wp2_with fail
      go_ret2
      exact ⟨_, 0, rfl, Lg.TextOut.mk (fun h => by cases h) (fun _ => ⟨rfl, [0], Lg.Dec.zero, rfl⟩), ((Grew.refl _).alloc _).trans y.grew⟩
    · have hl0 : (((xs.length : Nat) : Int) == 0) = false := by rw [beq_eq_false_iff_ne]; omega
      have CD := hid (fun W h => pdigits_c A c xs W h lx tx hl64 h0)
      have hN := Dg.val_pos (B := 4294967296) (by decide) tx (by rintro rfl; simp at h0)
      generalize Dg.val 4294967296 xs = N at *
      clear hma tx hl64 h0
      go_enter Tryz.func24, Tryz.ntmps24
      go_wp2_with fail
      refine CV.out.mono ?_
      rintro e w1 ⟨rfl, y, rfl⟩
      have b0 : y.w.cell? ⟨w.heap.size, 0, none⟩ = some (.bool na) := by rw [y.cell _ (by simp)]; simp
      have b1 : y.w.cell? ⟨w.heap.size, 1, none⟩ = some (.slice A xs.length c) := by rw [y.cell _ (by simp)]; simp
      have l0 : w.heap.size < y.w.heap.size := by have := y.b.size; simp at this; omega
      have HG := hid (show Grew w y.w from ((Grew.refl _).alloc _).trans y.grew)
      generalize y.w = wz at *
      clear CV
      go_wp2_with fail
      refine (CD.out wz (HA.out.grew HG.out)).mono ?_
      rintro e w2 ⟨g, h, L, D, rfl, hO, hgb, hL, hDl, hDt, hDv, hLl, y2, rfl⟩
      have b0' := (y2.cell _ l0).trans b0
      have HL := hid hL
      have HD := hid (dec_of hDl hDt hDv hN)
      have HO := hid hO
      clear hL hO hDl hDt hDv b0 b1 CD hl0
      cases na
      · have hLp : 0 < L.length := by
          rw [HL.out, List.length_map]
          rcases Nat.eq_zero_or_pos D.length with h1 | h1
          · exact absurd (List.eq_nil_of_length_eq_zero h1) HD.out.ne
          · exact h1
        have CR := hid (rev_c g h L wz y2.w HO.out (by omega) hLp y2.grew)
        go_wp2_with fail
        refine CR.out.mono ?_
        rintro e w3 ⟨⟨v, rfl⟩, hO3, hG3⟩
        rw [show L.length = L.reverse.length by simp]
        have HE := hid (show L.reverse = Lg.numeral false D by rw [← numeral_rev, HL.out]; simp)
        generalize L.reverse = O at *
        rcases hO3.cases with ⟨h1, _⟩ | ⟨g', h1, _, _, hcell, _, _⟩
        · cases h1
        obtain rfl : g = g' := by simpa using h1
        have hconv := run_convert_bytes_arg (P := Tryz.prog) w3 57 5 Tryz.underlying57 Tryz.underlying5 g 0 O.length h (O.map fun x : Nat => (x : Int)) (by simp) (fun j hj => by rw [Nat.zero_add, hcell j hj]; simp [List.getD_eq_getElem?_getD, List.getElem?_eq_getElem hj]) 9 Tryz.underlying9
        clear hcell h1 CR
        go_wp2_with fail
        go_ret2
        exact ⟨_, 0, rfl, Lg.TextOut.mk (fun h => by cases h) (fun _ => ⟨rfl, D, HD.out, by rw [HE.out]; rfl⟩), HG.out.trans hG3⟩
      · go_wp2_with (at_builtin; refine wpList_push .u8 1 wz y2.w rfl _ _ 57 5 rfl Tryz.underlying57 Tryz.info_u8 y2.grew (some ⟨g, 0, none⟩) h L rfl HO.out 45 _ rfl rfl _ rfl (by omega) (by omega) ?_; rintro A' c' W1 hO1 hG1)
        rcases hO1.cases with ⟨_, _, h1⟩ | ⟨g', rfl, _, _, _, _, _⟩
        · simp at h1
        have CR := rev_c g' c' (L ++ [45]) wz W1 hO1 (by simp; omega) (by simp) hG1
        rw [List.length_append, List.length_cons, List.length_nil, Nat.zero_add] at CR
        have HE := hid (show (L ++ [45]).reverse = Lg.numeral true D by rw [← numeral_rev, HL.out]; rfl)
        have hlr : L.length + 1 = (L ++ [45]).reverse.length := by simp
        have HLR := hid hlr
        replace CR := hid CR
        clear hlr
        go_wp2_with fail
        refine CR.out.mono ?_
        rintro e w3 ⟨⟨v, rfl⟩, hO3, hG3⟩
        rw [HLR.out]
        clear HLR hO1 CR
        generalize (L ++ [45]).reverse = O at *
        rcases hO3.cases with ⟨h1, _⟩ | ⟨g'', h1, _, _, hcell, _, _⟩
        · cases h1
        obtain rfl : g' = g'' := by simpa using h1
        have hconv := run_convert_bytes_arg (P := Tryz.prog) w3 57 5 Tryz.underlying57 Tryz.underlying5 g' 0 O.length c' (O.map fun x : Nat => (x : Int)) (by simp) (fun j hj => by rw [Nat.zero_add, hcell j hj]; simp [List.getD_eq_getElem?_getD, List.getElem?_eq_getElem hj]) 9 Tryz.underlying9
        clear hcell h1
        go_wp2_with fail
        go_ret2
        exact ⟨_, 0, rfl, Lg.TextOut.mk (fun h => by cases h) (fun _ => ⟨rfl, D, HD.out, by rw [HE.out]; rfl⟩), HG.out.trans hG3⟩
end Go.Proofs.YtmcfciifjgdgoaaGreatDoor

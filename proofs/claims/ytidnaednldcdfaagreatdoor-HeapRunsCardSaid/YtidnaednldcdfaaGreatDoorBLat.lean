/- Parts of elder texts that this layer needs, joined: XLat1 XLat2 XLat3 XLat4. -/
import Derived.Test.YtidnaednldcdfaaGreatDoorProg
import Derived.Test.YtidnaednldcdfaaGreatDoorZBase
import Derived.Test.YtidnaednldcdfaaGreatDoorALat
import Derived.Test.YtidnaednldcdfaaGreatDoorShelf
import Derived.Test.YtidnaednldcdfaaGreatDoorZNum
namespace Go.Proofs.YtidnaednldcdfaaGreatDoor
open Go.RowKit

theorem isLevel_c (A : Option Addr) (c : Nat) (up : List Nat) (a : Int) (w : World) (hn : up.length ≤ 20) :
    Calls Tryz.prog 91 #[.agg #[.slice A up.length c], .int .i64 a] w fun e w' => e = .returned (.bool (La.isLevel up a)) ∧ Grew w w' := by
  have hn' : (up.length : Int) ≤ 20 := by omega
  go_enter Tryz.func91, Tryz.ntmps91
  go_wp2
  all_goals
    go_ret
    refine ⟨?_, (Grew.refl _).alloc _⟩
    simp [La.isLevel]
    try omega

theorem bit_test (x b : Nat) (hx : x < 256) : (bits BinOp.and IntKind.u8 ((x : Int) / 2 ^ b) 1 == 1) = x.testBit b := by
  have e : ((x : Int) / 2 ^ b) = ((x / 2 ^ b : Nat) : Int) := by push_cast; rfl
  have hlt : x / 2 ^ b < 256 := Nat.lt_of_le_of_lt (Nat.div_le_self _ _) hx
  rw [e, show (1 : Int) = ((1 : Nat) : Int) from rfl, u8_and_nat _ _ hlt (by decide), Nat.testBit_eq_decide_div_mod_eq, Nat.and_one_is_mod]
  generalize x / 2 ^ b % 2 = y
  by_cases h : y = 1 <;> simp [h]
  omega

theorem below_c (A : Option Addr) (c : Nat) (up : List Nat) (a b : Nat) (w : World) (hn : up.length ≤ 20) (h : BytesAt w w.heap.size A up) (ha : a < up.length) (hb : b < 8) :
    Calls Tryz.prog 76 #[.agg #[.slice A up.length c], .int .i64 a, .int .i64 b] w fun e w' => e = .returned (.bool (La.low up a b)) ∧ Grew w w' := by
  have hn' : (up.length : Int) ≤ 20 := by omega
  obtain ⟨ad, rfl, hbk, hc⟩ := h.2 (by omega)
  have hx := h.lt a
  have hc1 := hc a ha
  have hbt := hid (bit_test (up.getD a 0) b hx)
  unfold La.low
  generalize up.getD a 0 = x at *
  clear h hc
  go_enter Tryz.func76, Tryz.ntmps76
  go_wp2
  go_ret
  refine ⟨?_, (Grew.refl _).alloc _⟩
  show Ending.returned (Value.bool _) = _
  rw [hbt.out]

theorem indexByte_find (up : List Nat) (hu : ∀ x ∈ up, x < 256) (v : Nat) (hv : v < 256) : ∀ k : Nat,
    (La.findFrom (fun x => x == v) up k = -1 ∧ Lib.indexByte (Lib.bytesOf (up.map (fun x : Nat => (x : Int)))) ((v : Int).toNat.toUInt8) = -1) ∨
    ∃ j : Nat, La.findFrom (fun x => x == v) up k = ((k + j : Nat) : Int) ∧ Lib.indexByte (Lib.bytesOf (up.map (fun x : Nat => (x : Int)))) ((v : Int).toNat.toUInt8) = (j : Int) := by
  induction up with
  | nil => intro k; exact .inl ⟨rfl, rfl⟩
  | cons x xs ih =>
    intro k
    have hx : x < 256 := hu x (by simp)
    have e : (UInt8.ofNat x == (v : Int).toNat.toUInt8) = (x == v) := by
      rw [Bool.eq_iff_iff]
      simp only [beq_iff_eq, Int.toNat_natCast]
      constructor
      · intro h
        have := congrArg UInt8.toNat h
        simp [Nat.toUInt8] at this
        omega
      · rintro rfl; rfl
    have hF : Lib.indexByte (Lib.bytesOf ((x :: xs).map (fun x : Nat => (x : Int)))) ((v : Int).toNat.toUInt8) =
        bif (x == v) then 0 else bif Lib.indexByte (Lib.bytesOf (xs.map (fun x : Nat => (x : Int)))) ((v : Int).toNat.toUInt8) == -1 then -1 else Lib.indexByte (Lib.bytesOf (xs.map (fun x : Nat => (x : Int)))) ((v : Int).toNat.toUInt8) + 1 := by
      rw [← e]
      simp only [Lib.bytesOf, List.map_cons, Lib.indexByte, cond_eq_ite, Int.toNat_natCast]
    have hG : La.findFrom (fun x => x == v) (x :: xs) k = bif (x == v) then (k : Int) else La.findFrom (fun x => x == v) xs (k + 1) := by
      simp only [La.findFrom, cond_eq_ite]
    rw [hF, hG]
    by_cases hxv : x = v
    · have hb : (x == v) = true := by simpa using hxv
      rw [hb]
      exact .inr ⟨0, rfl, rfl⟩
    · have hb : (x == v) = false := by simpa using hxv
      rw [hb]
      rcases ih (fun y hy => hu y (by simp [hy])) (k + 1) with ⟨h1, h2⟩ | ⟨j, h1, h2⟩
      · rw [h1, h2]; exact .inl ⟨rfl, rfl⟩
      · rw [h1, h2]
        refine .inr ⟨j + 1, by simp; omega, ?_⟩
        have : ((j : Int) == -1) = false := by simp
        rw [this]; simp

theorem indexByte_c (A : Option Addr) (c : Nat) (up : List Nat) (v : Nat) (w : World) (h : BytesAt w w.heap.size A up) (hn : 0 < up.length) (hv : v < 256) :
    Calls Tryz.prog 92 #[.slice A up.length c, .int .u8 v] w fun e w' => e = .returned (.int .i64 (La.find (fun x => x == v) up)) ∧ w' = w := by
  obtain ⟨ad, rfl, hbk, hc⟩ := h.2 hn
  refine (Tryz.bytes_IndexByte_at ad up.length c (up.map (fun x : Nat => (x : Int))) v w (by simp) (fun i hi => ?_)).mono fun e w' ⟨he, hw⟩ => ⟨?_, hw⟩
  · rw [hc i hi]
    simp [List.getD_eq_getElem?_getD, List.getElem?_eq_getElem hi]
  · rw [he]
    unfold La.find
    rcases indexByte_find up h.1 v hv 0 with ⟨h1, h2⟩ | ⟨j, h1, h2⟩
    · rw [h1, h2]
    · rw [h1, h2, Nat.zero_add]

theorem beq_cast (a b : Nat) : ((a : Int) == (b : Int)) = (a == b) := by
  rw [Bool.eq_iff_iff, beq_iff_eq, beq_iff_eq]
  omega

theorem closure_c (A : Option Addr) (c : Nat) (up : List Nat) (x b : Nat) (w : World) (hn : up.length ≤ 20) (hx : x < 256) (hp : b < w.heap.size) (hc : w.cell? ⟨b, 0, none⟩ = some (.slice A up.length c)) :
    Calls Tryz.prog 99 #[.int .u8 x, .pointer (some ⟨b, 0, none⟩)] w fun e w' => e = .returned (.bool (Lib.onesCount x == up.length)) ∧ Grew w w' := by
  have hn' : (up.length : Int) ≤ 20 := by omega
  go_enter Tryz.func99, Tryz.ntmps99
  go_wp2
  refine wp_region_grew (by kernel_rfl) (by kernel_rfl) ?_
  repeat (go_big_quiet_step ((go_at_call 100; exact Calls.grew_same (After.grew _) (Tryz.bits_OnesCount8 _ _ (by omega) (by omega)))))
  refine wpQuiet_nil ?_
  rintro _ ⟨y, rfl⟩
  go_wp2
  go_ret
  exact ⟨ret_bool (beq_cast _ _), y.grew⟩

theorem findFrom_at (p : Nat → Bool) : ∀ (up : List Nat) (k j : Nat), (∀ i, i < k → p (up.getD i 0) = false) → k < up.length → p (up.getD k 0) = true → La.findFrom p up j = ((j + k : Nat) : Int)
  | [], k, _, _, hk, _ => by simp at hk
  | x :: xs, 0, j, _, _, h => by
    have hx : p x = true := by simpa using h
    simp [La.findFrom, hx]
  | x :: xs, k + 1, j, hf, hk, h => by
    have hx : p x = false := by simpa using hf 0 (by omega)
    rw [La.findFrom, hx, if_neg (by simp), findFrom_at p xs k (j + 1) (fun i hi => by simpa using hf (i + 1) (by omega)) (by simpa using hk) (by simpa using h)]
    simp only [Nat.add_assoc, Nat.add_comm 1 k]
theorem findFrom_no (p : Nat → Bool) (up : List Nat) (j : Nat) (h : ∀ i, i < up.length → p (up.getD i 0) = false) : La.findFrom p up j = -1 :=
  La.findFrom_none (fun x hx => by
    obtain ⟨i, hi, rfl⟩ := List.mem_iff_getElem.1 hx
    simpa [List.getD_eq_getElem?_getD, List.getElem?_eq_getElem hi] using h i hi) j

set_option maxHeartbeats 1000000 in
theorem indexFunc_c (A : Option Addr) (c : Nat) (up : List Nat) (b : Nat) (w : World) (hn : up.length ≤ 20) (h : BytesAt w w.heap.size A up) (hp : b < w.heap.size) (hc : w.cell? ⟨b, 0, none⟩ = some (.slice A up.length c)) :
    Calls Tryz.prog 98 #[.slice A up.length c, .func (.func 99) #[] #[.pointer (some ⟨b, 0, none⟩)]] w fun e w' => e = .returned (.int .i64 (La.bottom up)) ∧ Grew w w' := by
  have hn' : (up.length : Int) ≤ 20 := by omega
  go_enter Tryz.func98, Tryz.ntmps98
  go_wp2_with fail
  go_loopw [8] (fun i wr => ∃ k : Nat, k ≤ up.length ∧ i = .int .i64 k ∧ Grew w wr ∧ (∀ i, i < k → (Lib.onesCount (up.getD i 0) == up.length) = false)) (fun i _ => up.length - (intOf i).toNat)
  case atStart => exact ⟨0, Nat.zero_le _, rfl, Grew.refl _, fun i hi => by omega⟩
  case round =>
    obtain ⟨k, hk, rfl, ⟨y, rfl⟩, hno⟩ := hrel
    have Hno := hid hno
    clear hno
    by_cases hlt : k < up.length
    · obtain ⟨ad, rfl, hbk, hcell⟩ := h.2 (by omega)
      have hx := h.lt k
      have hck := hcell k hlt
      obtain ⟨x, hxe⟩ : ∃ x, x = up.getD k 0 := ⟨_, rfl⟩
      rw [← hxe] at hx hck
      have Hx := hid hxe
      clear hcell h hxe
      cases hq : Lib.onesCount x == up.length
      · have Hq := hid hq
        clear hq
        go_wp2_with (go_at_call 99; refine (closure_c (some ad) c up x b _ hn hx (by exact y.lt b hp) (by rw [y.cell _ hp]; exact hc)).mono ?_; rw [Hq.out]; rintro e w' ⟨rfl, z, rfl⟩)
        go_roundw
        case rel =>
          refine ⟨k + 1, by omega, by go_num, y.grew.trans z.grew, fun i hi => ?_⟩
          by_cases hik : i = k
          · subst hik; rw [← Hx.out]; exact Hq.out
          · exact Hno.out i (by omega)
        case measure => simp [intOf]; omega
      · have Hq := hid hq
        clear hq
        go_wp2_with (go_at_call 99; refine (closure_c (some ad) c up x b _ hn hx (by exact y.lt b hp) (by rw [y.cell _ hp]; exact hc)).mono ?_; rw [Hq.out]; rintro e w' ⟨rfl, z, rfl⟩)
        go_ret
        refine ⟨ret_int ?_, y.grew.trans z.grew⟩
        unfold La.bottom La.find
        rw [findFrom_at (fun x => Lib.onesCount x == up.length) up k 0 Hno.out hlt (by rw [← Hx.out]; exact Hq.out), Nat.zero_add]
    · go_wp2_with fail
      go_ret
      refine ⟨ret_int ?_, y.grew⟩
      unfold La.bottom La.find
      rw [findFrom_no (fun x => Lib.onesCount x == up.length) up 0 (fun i hi => Hno.out i (by omega))]

theorem findBottom_c (A : Option Addr) (c : Nat) (up : List Nat) (w : World) (hn : up.length ≤ 20) (h : BytesAt w w.heap.size A up) (h0 : 0 < up.length) :
    Calls Tryz.prog 94 #[.agg #[.slice A up.length c]] w fun e w' => e = .returned (.int .i64 (La.bottom up)) ∧ Grew w w' := by
  have hn' : (up.length : Int) ≤ 20 := by omega
  go_enter Tryz.func94, Tryz.ntmps94
  go_wp2_with (go_at_call 98; refine (indexFunc_c A c up _ _ hn (h.grew ((Grew.refl _).alloc _)) (by simp) (by simp)).mono ?_; rintro e w' ⟨rfl, y, rfl⟩)
  go_ret
  exact ⟨rfl, After.grew_of ((Grew.refl _).alloc _) y⟩
end Go.Proofs.YtidnaednldcdfaaGreatDoor
namespace Go.Proofs.YtidnaednldcdfaaGreatDoor
open Go.RowKit

theorem findJoin_c (A : Option Addr) (c : Nat) (up : List Nat) (a b : Nat) (w : World) (hn : up.length ≤ 20) (h : BytesAt w w.heap.size A up) (ha : a < up.length) (hb : b < up.length) :
    Calls Tryz.prog 77 #[.agg #[.slice A up.length c], .int .i64 a, .int .i64 b] w fun e w' => e = .returned (.int .i64 (La.join up a b)) ∧ Grew w w' := by
  have hn' : (up.length : Int) ≤ 20 := by omega
  have h1 := h.grew ((Grew.refl w).alloc (.cells #[.slice A up.length c] 50))
  obtain ⟨ad, rfl, hbk, hcell⟩ := h.2 (by omega)
  have hca := hcell a ha
  have hcb := hcell b hb
  have hx := h.lt a
  have hy := h.lt b
  have ha0 : (0 : Int) ≤ (a : Int) := by omega
  have ha1 : (a : Int) < (up.length : Int) := by omega
  have hb0 : (0 : Int) ≤ (b : Int) := by omega
  have hb1 : (b : Int) < (up.length : Int) := by omega
  unfold La.join
  obtain ⟨x, hxe⟩ : ∃ x, x = up.getD a 0 := ⟨_, rfl⟩
  obtain ⟨y, hye⟩ : ∃ y, y = up.getD b 0 := ⟨_, rfl⟩
  rw [← hxe] at hx hca ⊢
  rw [← hye] at hy hcb ⊢
  have hand : x &&& y < 256 := Nat.lt_of_le_of_lt Nat.and_le_left hx
  clear hxe hye hcell h
  have H1 := hid h1
  clear h1
  go_enter Tryz.func77, Tryz.ntmps77
  go_wp2
  refine wp_region_grew (by kernel_rfl) (by kernel_rfl) ?_
  repeat (go_big_quiet_step ((go_at_call 92; rw [u8_and_nat _ _ hx hy]; exact Calls.grew_same (After.grew _) (indexByte_c (some ad) c up (x &&& y) _ (H1.out.grew (After.grew _)) (by omega) hand))))
  refine wpQuiet_nil ?_
  rintro _ ⟨z, rfl⟩
  go_wp2
  go_ret
  exact ⟨rfl, After.grew_of ((Grew.refl _).alloc _) z⟩

set_option maxHeartbeats 1000000 in
theorem hasJoins_c (A : Option Addr) (c : Nat) (up : List Nat) (w : World) (hn : up.length ≤ 20) (h : BytesAt w w.heap.size A up) :
    Calls Tryz.prog 95 #[.agg #[.slice A up.length c]] w fun e w' => e = .returned (.bool (La.hasJoins up)) ∧ Grew w w' := by
  have hn' : (up.length : Int) ≤ 20 := by omega
  have h1 := h.grew ((Grew.refl w).alloc (.cells #[.slice A up.length c] 50))
  have H1 := hid h1
  clear h1 h
  go_enter Tryz.func95, Tryz.ntmps95
  go_wp2_with fail
  go_loopw [8] (fun i wr => ∃ k : Nat, k ≤ up.length ∧ i = .int .i64 k ∧ Grew (w.alloc (.cells #[.slice A up.length c] 50)) wr ∧ (∀ a, a < k → ∀ b, b < a → 0 ≤ La.join up a b)) (fun i _ => up.length - (intOf i).toNat)
  case atStart => exact ⟨0, Nat.zero_le _, rfl, Grew.refl _, fun i hi => by omega⟩
  case round =>
    obtain ⟨k, hk, rfl, ⟨y, rfl⟩, hno⟩ := hrel
    have Hno := hid hno
    clear hno
    by_cases hlt : k < up.length
    · go_wp2_with fail
      go_loopw [12] (fun i wr => ∃ m : Nat, m ≤ k ∧ i = .int .i64 m ∧ Grew (w.alloc (.cells #[.slice A up.length c] 50)) wr ∧ (∀ b, b < m → 0 ≤ La.join up k b)) (fun i _ => k - (intOf i).toNat)
      case atStart => exact ⟨0, Nat.zero_le _, rfl, y.grew, fun i hi => by omega⟩
      case round =>
        obtain ⟨m, hm, rfl, ⟨z, rfl⟩, hno2⟩ := hrel
        have Hno2 := hid hno2
        clear hno2
        by_cases hlm : m < k
        · obtain ⟨r, hr⟩ : ∃ r, r = La.join up k m := ⟨_, rfl⟩
          have Hr := hid hr
          clear hr
          by_cases hneg : r < 0
          · go_wp2_with (go_at_call 77; refine (findJoin_c A c up k m _ hn (H1.out.grew z.grew) hlt (by omega)).mono ?_; rw [← Hr.out]; rintro e w' ⟨rfl, u, rfl⟩)
            go_ret
            exact ⟨ret_bool (La.hasJoins_no hlt hlm (by rw [← Hr.out]; exact hneg)).symm, (((Grew.refl _).alloc _).trans z.grew).trans u.grew⟩
          · go_wp2_with (go_at_call 77; refine (findJoin_c A c up k m _ hn (H1.out.grew z.grew) hlt (by omega)).mono ?_; rw [← Hr.out]; rintro e w' ⟨rfl, u, rfl⟩)
            go_roundw
            case rel =>
              refine ⟨m + 1, by omega, by go_num, z.grew.trans u.grew, fun b hb => ?_⟩
              by_cases hbm : b = m
              · subst hbm; rw [← Hr.out]; omega
              · exact Hno2.out b (by omega)
            case measure => simp [intOf]; omega
        · go_wp2_with fail
          go_roundw
          case rel =>
            refine ⟨k + 1, by omega, by go_num, z.grew, fun a ha b hb => ?_⟩
            by_cases hak : a = k
            · subst hak; exact Hno2.out b (by omega)
            · exact Hno.out a (by omega) b hb
          case measure => simp [intOf]; omega
    · go_wp2_with fail
      go_ret
      exact ⟨ret_bool (La.hasJoins_yes fun a ha b hb => Hno.out a (by omega) b hb).symm, ((Grew.refl _).alloc _).trans y.grew⟩

set_option maxHeartbeats 4000000 in
theorem isOrder_c (A : Option Addr) (c : Nat) (up : List Nat) (w : World) (hn : up.length ≤ 8) (h : BytesAt w w.heap.size A up) :
    Calls Tryz.prog 93 #[.agg #[.slice A up.length c]] w fun e w' => e = .returned (.bool (La.isOrder up)) ∧ Grew w w' := by
  have hn' : (up.length : Int) ≤ 8 := by omega
  have h1 := h.grew ((Grew.refl w).alloc (.cells #[.slice A up.length c] 50))
  have H := hid h
  have H1 := hid h1
  clear h1 h
  go_enter Tryz.func93, Tryz.ntmps93
  go_wp2_with fail
  go_loopw [10] (fun i wr => ∃ k : Nat, k ≤ up.length ∧ i = .int .i64 k ∧ Grew (w.alloc (.cells #[.slice A up.length c] 50)) wr ∧ (∀ a, a < k → La.headOk up a = true ∧ ∀ b, b < up.length → La.rowOk up a b = true)) (fun i _ => up.length - (intOf i).toNat)
  case atStart => exact ⟨0, Nat.zero_le _, rfl, Grew.refl _, fun i hi => by omega⟩
  case round =>
    obtain ⟨k, hk, rfl, ⟨y, rfl⟩, hno⟩ := hrel
    have Hno := hid hno
    clear hno
    by_cases hlt : k < up.length
    · obtain ⟨ad, rfl, hbk, hcell⟩ := H.out.2 (by omega)
      have hx := H.out.lt k
      have hck := hcell k hlt
      obtain ⟨x, hxe⟩ : ∃ x, x = up.getD k 0 := ⟨_, rfl⟩
      rw [← hxe] at hx hck
      have Hx := hid hxe
      clear hcell hxe
      have hbel := fun W hW => below_c (some ad) c up k k W (by omega) hW hlt (by omega)
      have Hbel := hid hbel
      clear hbel
      have hdiv : ((x : Int) / 2 ^ up.length) = ((x / 2 ^ up.length : Nat) : Int) := by push_cast; rfl
      have Hdiv := hid hdiv
      clear hdiv
      by_cases hd : (x : Int) / 2 ^ up.length = 0
      · cases hlow : La.low up k k
        · have Hlow := hid hlow
          clear hlow
          go_wp2_with (go_at_call 76; refine (Hbel.out _ (H1.out.grew y.grew)).mono ?_; rw [Hlow.out]; rintro e w' ⟨rfl, u, rfl⟩)
          go_ret
          exact ⟨ret_bool (La.isOrder_no_head hlt (by simp [La.headOk, Hlow.out])).symm, (((Grew.refl _).alloc _).trans y.grew).trans u.grew⟩
        · have Hlow := hid hlow
          clear hlow
          have hhead : La.headOk up k = true := by
            rw [La.headOk, Hlow.out, ← Hx.out]
            have h3 : x / 2 ^ up.length = 0 := by have := Hdiv.out; omega
            rw [h3]; rfl
          have Hhead := hid hhead
          clear hhead
          go_wp2_with (go_at_call 76; refine (Hbel.out _ (H1.out.grew y.grew)).mono ?_; rw [Hlow.out]; rintro e w' ⟨rfl, u, rfl⟩)
          go_loopw [31] (fun i wr => ∃ m : Nat, m ≤ up.length ∧ i = .int .i64 m ∧ Grew (w.alloc (.cells #[.slice (some ad) up.length c] 50)) wr ∧ (∀ b, b < m → La.rowOk up k b = true)) (fun i _ => up.length - (intOf i).toNat)
          case atStart => exact ⟨0, Nat.zero_le _, rfl, y.grew.trans u.grew, fun i hi => by omega⟩
          case round =>
            obtain ⟨m, hm, rfl, ⟨z, rfl⟩, hno2⟩ := hrel
            have Hno2 := hid hno2
            clear hno2
            by_cases hlm : m < up.length
            · obtain ⟨ad2, had2, hbk2, hcell2⟩ := H.out.2 (by omega)
              obtain rfl := Option.some.inj had2
              have hxm := H.out.lt m
              have hcm := hcell2 m hlm
              obtain ⟨x2, hxe2⟩ : ∃ x2, x2 = up.getD m 0 := ⟨_, rfl⟩
              rw [← hxe2] at hxm hcm
              have Hx2 := hid hxe2
              clear hcell2 hxe2 had2 hbk2
              have hbel1 := fun W hW => below_c (some ad) c up k m W (by omega) hW hlt (by omega)
              have Hbel1 := hid hbel1
              have hbel2 := fun W hW => below_c (some ad) c up m k W (by omega) hW hlm (by omega)
              have Hbel2 := hid hbel2
              clear hbel1 hbel2
              by_cases hkm : k = m
              · subst hkm
                go_wp2_with fail
                go_roundw
                case rel =>
                  refine ⟨k + 1, by omega, by go_num, z.grew, fun b hb => ?_⟩
                  by_cases hbm : b = k
                  · subst hbm; simp [La.rowOk]
                  · exact Hno2.out b (by omega)
                case measure => simp [intOf]; omega
              · have hkm' : ((k : Int) == (m : Int)) = false := by rw [beq_eq_false_iff_ne]; omega
                have hkm2 : (k == m) = false := by rw [beq_eq_false_iff_ne]; exact hkm
                have Hkm2 := hid hkm2
                clear hkm2
                cases hl1 : La.low up k m
                · have Hl1 := hid hl1
                  clear hl1
                  go_wp2_with (go_at_call 76; refine (Hbel1.out _ (H1.out.grew z.grew)).mono ?_; rw [Hl1.out]; rintro e w' ⟨rfl, v, rfl⟩)
                  go_roundw
                  case rel =>
                    refine ⟨m + 1, by omega, by go_num, z.grew.trans v.grew, fun b hb => ?_⟩
                    by_cases hbm : b = m
                    · subst hbm; simp [La.rowOk, Hl1.out]
                    · exact Hno2.out b (by omega)
                  case measure => simp [intOf]; omega
                · have Hl1 := hid hl1
                  clear hl1
                  cases hl2 : La.low up m k
                  · have Hl2 := hid hl2
                    clear hl2
                    have hbits := u8_andNot_nat x2 x hxm hx
                    obtain ⟨q, hq⟩ : ∃ q, q = x2 &&& (255 - x) := ⟨_, rfl⟩
                    rw [← hq] at hbits
                    have Hq := hid hq
                    clear hq
                    by_cases hq0 : q = 0
                    · subst hq0
                      go_wp2_with fail
                      refine (Hbel1.out _ (H1.out.grew z.grew)).mono ?_
                      rw [Hl1.out]
                      rintro e w' ⟨rfl, v, rfl⟩
                      go_wp2_with fail
                      refine (Hbel2.out _ (H1.out.grew (z.grew.trans v.grew))).mono ?_
                      rw [Hl2.out]
                      rintro e w' ⟨rfl, v2, rfl⟩
                      go_wp2_with fail
                      go_roundw
                      case rel =>
                        refine ⟨m + 1, by omega, by go_num, (z.grew.trans v.grew).trans v2.grew, fun b hb => ?_⟩
                        by_cases hbm : b = m
                        · subst hbm
                          have hh : (up.getD b 0 &&& (255 - up.getD k 0)) = 0 := by rw [← Hx.out, ← Hx2.out]; exact Hq.out.symm
                          rw [La.rowOk, Hl2.out, hh, Hl1.out, Hkm2.out]; rfl
                        · exact Hno2.out b (by omega)
                      case measure => simp [intOf]; omega
                    · have hq1 : ((q : Int) != 0) = true := by rw [bne_iff_ne]; omega
                      go_wp2_with fail
                      refine (Hbel1.out _ (H1.out.grew z.grew)).mono ?_
                      rw [Hl1.out]
                      rintro e w' ⟨rfl, v, rfl⟩
                      go_wp2_with fail
                      refine (Hbel2.out _ (H1.out.grew (z.grew.trans v.grew))).mono ?_
                      rw [Hl2.out]
                      rintro e w' ⟨rfl, v2, rfl⟩
                      go_wp2_with fail
                      go_ret
                      refine ⟨ret_bool (La.isOrder_no_row hlt hlm ?_).symm, ((((Grew.refl _).alloc _).trans z.grew).trans v.grew).trans v2.grew⟩
                      have hh : ((up.getD m 0 &&& (255 - up.getD k 0)) == 0) = false := by rw [← Hx.out, ← Hx2.out, beq_eq_false_iff_ne, ← Hq.out]; exact hq0
                      rw [La.rowOk, Hl2.out, hh, Hl1.out, Hkm2.out]; rfl
                  · have Hl2 := hid hl2
                    clear hl2
                    go_wp2_with fail
                    refine (Hbel1.out _ (H1.out.grew z.grew)).mono ?_
                    rw [Hl1.out]
                    rintro e w' ⟨rfl, v, rfl⟩
                    go_wp2_with fail
                    refine (Hbel2.out _ (H1.out.grew (z.grew.trans v.grew))).mono ?_
                    rw [Hl2.out]
                    rintro e w' ⟨rfl, v2, rfl⟩
                    go_wp2_with fail
                    go_ret
                    refine ⟨ret_bool (La.isOrder_no_row hlt hlm ?_).symm, ((((Grew.refl _).alloc _).trans z.grew).trans v.grew).trans v2.grew⟩
                    rw [La.rowOk, Hl2.out, Hl1.out, Hkm2.out]; rfl
            · go_wp2_with fail
              go_roundw
              case rel =>
                refine ⟨k + 1, by omega, by go_num, z.grew, fun a ha => ?_⟩
                by_cases hak : a = k
                · subst hak; exact ⟨Hhead.out, fun b hb => Hno2.out b (by omega)⟩
                · exact Hno.out a (by omega)
              case measure => simp [intOf]; omega
      · go_wp2_with fail
        go_ret
        refine ⟨ret_bool (La.isOrder_no_head hlt ?_).symm, ((Grew.refl _).alloc _).trans y.grew⟩
        rw [La.headOk, ← Hx.out]
        have h3 : ¬ x / 2 ^ up.length = 0 := by have := Hdiv.out; omega
        rw [beq_eq_false_iff_ne.2 h3]; rfl
    · go_wp2_with fail
      go_ret
      exact ⟨ret_bool (La.isOrder_yes fun a ha => Hno.out a (by omega)).symm, ((Grew.refl _).alloc _).trans y.grew⟩

theorem valid_c (A : Option Addr) (c : Nat) (up : List Nat) (w : World) (hn : up.length ≤ 20) (h : BytesAt w w.heap.size A up) :
    Calls Tryz.prog 79 #[.agg #[.slice A up.length c]] w fun e w' => e = .returned (.bool (La.valid up)) ∧ Grew w w' := by
  have hn' : (up.length : Int) ≤ 20 := by omega
  have h1 := hid (h.grew ((Grew.refl w).alloc (.cells #[.slice A up.length c] 50)))
  clear h
  unfold La.valid
  by_cases c1 : 1 ≤ up.length
  · by_cases c2 : up.length ≤ 8
    · have c1' : (1 : Int) ≤ (up.length : Int) := by omega
      have c2' : (up.length : Int) ≤ 8 := by omega
      have hO := fun W hW => isOrder_c A c up W c2 hW
      have HO := hid hO
      clear hO
      rw [decide_eq_true c1, decide_eq_true c2, Bool.true_and, Bool.true_and]
      cases ho : La.isOrder up
      · rw [ho] at HO
        clear ho
        go_enter Tryz.func79, Tryz.ntmps79
        go_wp2_with (go_at_call 93; refine (HO.out _ h1.out).mono ?_; rintro e w' ⟨rfl, u, rfl⟩)
        go_ret
        exact ⟨rfl, ((Grew.refl _).alloc _).trans u.grew⟩
      · rw [ho] at HO
        clear ho
        rw [Bool.true_and]
        have hB := fun W hW => findBottom_c A c up W hn hW (by omega)
        have HB := hid hB
        clear hB
        obtain ⟨r, hr⟩ : ∃ r, r = La.bottom up := ⟨_, rfl⟩
        rw [← hr] at HB ⊢
        clear hr
        by_cases hneg : 0 ≤ r
        · rw [decide_eq_true hneg, Bool.true_and]
          go_enter Tryz.func79, Tryz.ntmps79
          go_wp2_with fail
          refine (HO.out _ h1.out).mono ?_
          rintro e w' ⟨rfl, u, rfl⟩
          go_wp2_with fail
          refine (HB.out _ (h1.out.grew u.grew)).mono ?_
          rintro e w' ⟨rfl, u2, rfl⟩
          go_wp2_with fail
          refine (hasJoins_c A c up _ hn (h1.out.grew (u.grew.trans u2.grew))).mono ?_
          rintro e w' ⟨rfl, u3, rfl⟩
          go_wp2_with fail
          go_ret
          exact ⟨rfl, ((((Grew.refl _).alloc _).trans u.grew).trans u2.grew).trans u3.grew⟩
        · rw [decide_eq_false hneg, Bool.false_and]
          go_enter Tryz.func79, Tryz.ntmps79
          go_wp2_with fail
          refine (HO.out _ h1.out).mono ?_
          rintro e w' ⟨rfl, u, rfl⟩
          go_wp2_with fail
          refine (HB.out _ (h1.out.grew u.grew)).mono ?_
          rintro e w' ⟨rfl, u2, rfl⟩
          go_wp2_with fail
          go_ret
          exact ⟨rfl, (((Grew.refl _).alloc _).trans u.grew).trans u2.grew⟩
    · have c2' : ¬ (up.length : Int) ≤ 8 := by omega
      have c1' : (1 : Int) ≤ (up.length : Int) := by omega
      rw [decide_eq_false c2, Bool.and_false, Bool.false_and, Bool.false_and, Bool.false_and]
      go_enter Tryz.func79, Tryz.ntmps79
      go_wp2_with fail
      go_ret
      exact ⟨rfl, ((Grew.refl _).alloc _)⟩
  · have c1' : ¬ (1 : Int) ≤ (up.length : Int) := by omega
    rw [decide_eq_false c1, Bool.false_and, Bool.false_and, Bool.false_and, Bool.false_and]
    go_enter Tryz.func79, Tryz.ntmps79
    go_wp2_with fail
    go_ret
    exact ⟨rfl, ((Grew.refl _).alloc _)⟩

theorem canCompare_c (A : Option Addr) (c : Nat) (up : List Nat) (a b : Int) (w : World) (hn : up.length ≤ 20) (h : BytesAt w w.heap.size A up) :
    Calls Tryz.prog 75 #[.agg #[.slice A up.length c], .int .i64 a, .int .i64 b] w fun e w' => e = .returned (.bool (La.can up a b)) ∧ Grew w w' := by
  have h1 := hid (h.grew ((Grew.refl w).alloc (.cells #[.slice A up.length c] 50)))
  clear h
  unfold La.can
  have ia := hid (fun W => isLevel_c A c up a W hn)
  have ib := hid (fun W => isLevel_c A c up b W hn)
  generalize La.isLevel up a = p at *
  generalize La.isLevel up b = q at *
  cases p
  · go_enter Tryz.func75, Tryz.ntmps75
    go_wp2_with fail
    refine (ia.out _).mono ?_
    rintro e w' ⟨rfl, u, rfl⟩
    go_wp2_with fail
    go_ret
    exact ⟨rfl, ((Grew.refl _).alloc _).trans u.grew⟩
  · cases q
    · go_enter Tryz.func75, Tryz.ntmps75
      go_wp2_with fail
      refine (ia.out _).mono ?_
      rintro e w' ⟨rfl, u, rfl⟩
      go_wp2_with fail
      refine (ib.out _).mono ?_
      rintro e w' ⟨rfl, u2, rfl⟩
      go_wp2_with fail
      go_ret
      exact ⟨rfl, (((Grew.refl _).alloc _).trans u.grew).trans u2.grew⟩
    · go_enter Tryz.func75, Tryz.ntmps75
      go_wp2_with fail
      refine (ia.out _).mono ?_
      rintro e w' ⟨rfl, u, rfl⟩
      go_wp2_with fail
      refine (ib.out _).mono ?_
      rintro e w' ⟨rfl, u2, rfl⟩
      go_wp2_with fail
      refine (valid_c A c up _ hn (h1.out.grew (u.grew.trans u2.grew))).mono ?_
      rintro e w' ⟨rfl, u3, rfl⟩
      go_wp2_with fail
      go_ret
      exact ⟨rfl, ((((Grew.refl _).alloc _).trans u.grew).trans u2.grew).trans u3.grew⟩
end Go.Proofs.YtidnaednldcdfaaGreatDoor
namespace Go.Proofs.YtidnaednldcdfaaGreatDoor
open Go.RowKit

theorem leq_c (A : Option Addr) (c : Nat) (up : List Nat) (a b : Int) (w : World) (hn : up.length ≤ 20) (h : BytesAt w w.heap.size A up) :
    Calls Tryz.prog 42 #[.agg #[.slice A up.length c], .int .i64 a, .int .i64 b] w fun e w' => e = .returned (.bool (La.leq up a b)) ∧ Grew w w' := by
  have h1 := hid (h.grew ((Grew.refl w).alloc (.cells #[.slice A up.length c] 50)))
  clear h
  have hcan := hid (fun W hW => canCompare_c A c up a b W hn hW)
  unfold La.leq
  cases hq : La.can up a b
  · rw [hq] at hcan
    clear hq
    go_enter Tryz.func42, Tryz.ntmps42
    go_wp2_with fail
    refine (hcan.out _ h1.out).mono ?_
    rintro e w' ⟨rfl, u, rfl⟩
    go_wp2_with fail
    go_ret
    exact ⟨rfl, ((Grew.refl _).alloc _).trans u.grew⟩
  · obtain ⟨ha0, ha1, hb0, hb1, hn8⟩ := La.can_spec hq
    rw [hq] at hcan
    clear hq
    obtain ⟨a, rfl⟩ := Int.eq_ofNat_of_zero_le ha0
    obtain ⟨b, rfl⟩ := Int.eq_ofNat_of_zero_le hb0
    rw [Bool.true_and, Int.toNat_natCast, Int.toNat_natCast]
    have hbel := hid (fun W hW => below_c A c up a b W hn hW (by omega) (by omega))
    clear ha0 ha1 hb0 hb1
    go_enter Tryz.func42, Tryz.ntmps42
    go_wp2_with fail
    refine (hcan.out _ h1.out).mono ?_
    rintro e w' ⟨rfl, u, rfl⟩
    go_wp2_with fail
    refine (hbel.out _ (h1.out.grew u.grew)).mono ?_
    rintro e w' ⟨rfl, u2, rfl⟩
    go_wp2_with fail
    go_ret
    exact ⟨rfl, (((Grew.refl _).alloc _).trans u.grew).trans u2.grew⟩

theorem join_c (A : Option Addr) (c : Nat) (up : List Nat) (a b : Int) (w : World) (hn : up.length ≤ 20) (h : BytesAt w w.heap.size A up) :
    Calls Tryz.prog 43 #[.agg #[.slice A up.length c], .int .i64 a, .int .i64 b] w fun e w' => e = .returned (.int .i64 (La.joinOf up a b)) ∧ Grew w w' := by
  have h1 := hid (h.grew ((Grew.refl w).alloc (.cells #[.slice A up.length c] 50)))
  clear h
  have hcan := hid (fun W hW => canCompare_c A c up a b W hn hW)
  unfold La.joinOf
  cases hq : La.can up a b
  · rw [hq] at hcan
    clear hq
    go_enter Tryz.func43, Tryz.ntmps43
    go_wp2_with fail
    refine (hcan.out _ h1.out).mono ?_
    rintro e w' ⟨rfl, u, rfl⟩
    go_wp2_with fail
    go_ret
    exact ⟨rfl, ((Grew.refl _).alloc _).trans u.grew⟩
  · obtain ⟨ha0, ha1, hb0, hb1, hn8⟩ := La.can_spec hq
    rw [hq] at hcan
    clear hq
    obtain ⟨a, rfl⟩ := Int.eq_ofNat_of_zero_le ha0
    obtain ⟨b, rfl⟩ := Int.eq_ofNat_of_zero_le hb0
    rw [if_pos rfl, Int.toNat_natCast, Int.toNat_natCast]
    have hfj := hid (fun W hW => findJoin_c A c up a b W hn hW (by omega) (by omega))
    clear ha0 ha1 hb0 hb1
    go_enter Tryz.func43, Tryz.ntmps43
    go_wp2_with fail
    refine (hcan.out _ h1.out).mono ?_
    rintro e w' ⟨rfl, u, rfl⟩
    go_wp2_with fail
    refine (hfj.out _ (h1.out.grew u.grew)).mono ?_
    rintro e w' ⟨rfl, u2, rfl⟩
    go_wp2_with fail
    go_ret
    exact ⟨rfl, (((Grew.refl _).alloc _).trans u.grew).trans u2.grew⟩

theorem check_c (A : Option Addr) (c : Nat) (up : List Nat) (w : World) (hn : up.length ≤ 20) (h : BytesAt w w.heap.size A up) :
    Calls Tryz.prog 48 #[.agg #[.slice A up.length c]] w fun e w' => e = .returned (errVal (if La.valid up then 0 else 7)) ∧ Grew w w' := by
  have h1 := hid (h.grew ((Grew.refl w).alloc (.cells #[.slice A up.length c] 50)))
  clear h
  have hv := hid (fun W hW => valid_c A c up W hn hW)
  cases hq : La.valid up
  · rw [hq] at hv
    rw [if_neg (by simp)]
    clear hq
    go_enter Tryz.func48, Tryz.ntmps48
    go_wp2_with fail
    refine (hv.out _ h1.out).mono ?_
    rintro e w' ⟨rfl, u, rfl⟩
    go_wp2_with fail
    go_ret
    exact ⟨rfl, ((Grew.refl _).alloc _).trans u.grew⟩
  · rw [if_pos rfl]
    rw [hq] at hv
    clear hq
    go_enter Tryz.func48, Tryz.ntmps48
    go_wp2_with fail
    refine (hv.out _ h1.out).mono ?_
    rintro e w' ⟨rfl, u, rfl⟩
    go_wp2_with fail
    go_ret
    exact ⟨rfl, ((Grew.refl _).alloc _).trans u.grew⟩
end Go.Proofs.YtidnaednldcdfaaGreatDoor
namespace Go.Proofs.YtidnaednldcdfaaGreatDoor
open Go.RowKit

theorem square_c (w : World) :
    Calls Tryz.prog 47 #[] w fun e w' => ∃ g, e = .returned (.agg #[.slice (some ⟨g, 0, none⟩) 4 4]) ∧ BytesAt w' w'.heap.size (some ⟨g, 0, none⟩) [15, 10, 12, 8] ∧ Grew w w' := by
  go_enter Tryz.func47, Tryz.ntmps47
  go_wp2_with fail
  refine bodyPost_ret (v := .agg #[.slice (some ⟨w.heap.size + 1, 0, none⟩) 4 4]) ?_ rfl ⟨_, rfl, ?_, ?_⟩
  · simp [results, Tryz.results47, go_sem]
  · refine BytesAt.of_blk (t := 5) ?_ (by decide)
    have := Blk.new (w.alloc (.cells #[.slice (some ⟨w.heap.size + 1, 0, none⟩) 4 4] 50)) 5 (byteCells [15, 10, 12, 8])
    rw [World.size_alloc] at this; exact this
  · exact ((Grew.refl _).alloc _).alloc _

end Go.Proofs.YtidnaednldcdfaaGreatDoor

/- The walks of package lattice: each function by its contract. -/
import Derived.Test.YthdgjalbkeccoaaDoorProg
import Derived.Test.YthdgjalbkeccoaaDoorBase
import Derived.Test.YthdgjalbkeccoaaDoorLatP
import Derived.Test.YthdgjalbkeccoaaDoorShelf
namespace Go.Proofs.YthdgjalbkeccoaaDoor
open Go.RowKit

theorem isLevel_c (A : Option Addr) (c : Nat) (up : List Nat) (a : Int) (w : World) (hn : up.length ≤ 20) :
    Calls Tryd.prog 33 #[.agg #[.slice A up.length c], .int .i64 a] w fun e w' => e = .returned (.bool (La.isLevel up a)) ∧ Grew w w' := by
  have hn' : (up.length : Int) ≤ 20 := by omega
  go_enter Tryd.func33, Tryd.ntmps33
  go_wp2
  all_goals
    go_ret
    refine ⟨?_, (Grew.refl _).alloc _⟩
    simp [La.isLevel]
    try omega

theorem bit_test (x b : Nat) (hx : x < 256) : (bits BinOp.and IntKind.u8 ((x : Int) / 2 ^ b) 1 == 1) = x.testBit b := by
  have e : ((x : Int) / 2 ^ b) = ((x / 2 ^ b : Nat) : Int) := by push_cast; rfl
  have hlt : x / 2 ^ b < 256 := Nat.lt_of_le_of_lt (Nat.div_le_self _ _) hx
  rw [e, show (1 : Int) = ((1 : Nat) : Int) from rfl, u8_and_nat _ _ hlt (by decide), Nat.testBit_eq_decide_div_mod_eq, Nat.and_one_is_mod]
  generalize x / 2 ^ b % 2 = y
  by_cases h : y = 1 <;> simp [h]
  omega

theorem below_c (A : Option Addr) (c : Nat) (up : List Nat) (a b : Nat) (w : World) (hn : up.length ≤ 20) (h : BytesAt w w.heap.size A up) (ha : a < up.length) (hb : b < 8) :
    Calls Tryd.prog 22 #[.agg #[.slice A up.length c], .int .i64 a, .int .i64 b] w fun e w' => e = .returned (.bool (La.low up a b)) ∧ Grew w w' := by
  have hn' : (up.length : Int) ≤ 20 := by omega
  obtain ⟨ad, rfl, hbk, hc⟩ := h.2 (by omega)
  have hx := h.lt a
  have hc1 := hc a ha
  have hbt := hid (bit_test (up.getD a 0) b hx)
  unfold La.low
  generalize up.getD a 0 = x at *
  clear h hc
  go_enter Tryd.func22, Tryd.ntmps22
  go_wp2
  go_ret
  refine ⟨?_, (Grew.refl _).alloc _⟩
  show Ending.returned (Value.bool _) = _
  rw [hbt.out]

/-! ### bytes.IndexByte, the closure of findBottom, slices.IndexFunc -/
theorem indexByte_find (up : List Nat) (hu : ∀ x ∈ up, x < 256) (v : Nat) (hv : v < 256) : ∀ k : Nat,
    (La.findFrom (fun x => x == v) up k = -1 ∧ Lib.indexByte (Lib.bytesOf (up.map (fun x : Nat => (x : Int)))) ((v : Int).toNat.toUInt8) = -1) ∨
    ∃ j : Nat, La.findFrom (fun x => x == v) up k = ((k + j : Nat) : Int) ∧ Lib.indexByte (Lib.bytesOf (up.map (fun x : Nat => (x : Int)))) ((v : Int).toNat.toUInt8) = (j : Int) := by
  induction up with
  | nil => intro k; exact .inl ⟨rfl, rfl⟩
  | cons x xs ih =>
    intro k
    have hx : x < 256 := hu x (by simp)
    have e : (UInt8.ofNat x == (v : Int).toNat.toUInt8) = (x == v) := by
      rw [Bool.eq_iff_iff]
      simp only [beq_iff_eq, Int.toNat_natCast]
      constructor
      · intro h
        have := congrArg UInt8.toNat h
        simp [Nat.toUInt8] at this
        omega
      · rintro rfl; rfl
    have hF : Lib.indexByte (Lib.bytesOf ((x :: xs).map (fun x : Nat => (x : Int)))) ((v : Int).toNat.toUInt8) =
        bif (x == v) then 0 else bif Lib.indexByte (Lib.bytesOf (xs.map (fun x : Nat => (x : Int)))) ((v : Int).toNat.toUInt8) == -1 then -1 else Lib.indexByte (Lib.bytesOf (xs.map (fun x : Nat => (x : Int)))) ((v : Int).toNat.toUInt8) + 1 := by
      rw [← e]
      simp only [Lib.bytesOf, List.map_cons, Lib.indexByte, cond_eq_ite, Int.toNat_natCast]
    have hG : La.findFrom (fun x => x == v) (x :: xs) k = bif (x == v) then (k : Int) else La.findFrom (fun x => x == v) xs (k + 1) := by
      simp only [La.findFrom, cond_eq_ite]
    rw [hF, hG]
    by_cases hxv : x = v
    · have hb : (x == v) = true := by simpa using hxv
      rw [hb]
      exact .inr ⟨0, rfl, rfl⟩
    · have hb : (x == v) = false := by simpa using hxv
      rw [hb]
      rcases ih (fun y hy => hu y (by simp [hy])) (k + 1) with ⟨h1, h2⟩ | ⟨j, h1, h2⟩
      · rw [h1, h2]; exact .inl ⟨rfl, rfl⟩
      · rw [h1, h2]
        refine .inr ⟨j + 1, by simp; omega, ?_⟩
        have : ((j : Int) == -1) = false := by simp
        rw [this]; simp

theorem indexByte_c (A : Option Addr) (c : Nat) (up : List Nat) (v : Nat) (w : World) (h : BytesAt w w.heap.size A up) (hn : 0 < up.length) (hv : v < 256) :
    Calls Tryd.prog 37 #[.slice A up.length c, .int .u8 v] w fun e w' => e = .returned (.int .i64 (La.find (fun x => x == v) up)) ∧ w' = w := by
  obtain ⟨ad, rfl, hbk, hc⟩ := h.2 hn
  refine (Tryd.bytes_IndexByte_at ad up.length c (up.map (fun x : Nat => (x : Int))) v w (by simp) (fun i hi => ?_)).mono fun e w' ⟨he, hw⟩ => ⟨?_, hw⟩
  · rw [hc i hi]
    simp [List.getD_eq_getElem?_getD, List.getElem?_eq_getElem hi]
  · rw [he]
    unfold La.find
    rcases indexByte_find up h.1 v hv 0 with ⟨h1, h2⟩ | ⟨j, h1, h2⟩
    · rw [h1, h2]
    · rw [h1, h2, Nat.zero_add]

theorem beq_cast (a b : Nat) : ((a : Int) == (b : Int)) = (a == b) := by
  rw [Bool.eq_iff_iff, beq_iff_eq, beq_iff_eq]
  omega

theorem closure_c (A : Option Addr) (c : Nat) (up : List Nat) (x b : Nat) (w : World) (hn : up.length ≤ 20) (hx : x < 256) (hp : b < w.heap.size) (hc : w.cell? ⟨b, 0, none⟩ = some (.slice A up.length c)) :
    Calls Tryd.prog 35 #[.int .u8 x, .pointer (some ⟨b, 0, none⟩)] w fun e w' => e = .returned (.bool (Lib.onesCount x == up.length)) ∧ Grew w w' := by
  have hn' : (up.length : Int) ≤ 20 := by omega
  go_enter Tryd.func35, Tryd.ntmps35
  go_wp2
  refine wp_region_grew (by kernel_rfl) (by kernel_rfl) ?_
  repeat (go_big_quiet_step ((go_at_call 36; exact Calls.grew_same (After.grew _) (Tryd.bits_OnesCount8 _ _ (by omega) (by omega)))))
  refine wpQuiet_nil ?_
  rintro _ ⟨y, rfl⟩
  go_wp2
  go_ret
  exact ⟨ret_bool (beq_cast _ _), y.grew⟩

theorem findFrom_at (p : Nat → Bool) : ∀ (up : List Nat) (k j : Nat), (∀ i, i < k → p (up.getD i 0) = false) → k < up.length → p (up.getD k 0) = true → La.findFrom p up j = ((j + k : Nat) : Int)
  | [], k, _, _, hk, _ => by simp at hk
  | x :: xs, 0, j, _, _, h => by
    have hx : p x = true := by simpa using h
    simp [La.findFrom, hx]
  | x :: xs, k + 1, j, hf, hk, h => by
    have hx : p x = false := by simpa using hf 0 (by omega)
    rw [La.findFrom, hx, if_neg (by simp), findFrom_at p xs k (j + 1) (fun i hi => by simpa using hf (i + 1) (by omega)) (by simpa using hk) (by simpa using h)]
    simp only [Nat.add_assoc, Nat.add_comm 1 k]
theorem findFrom_no (p : Nat → Bool) (up : List Nat) (j : Nat) (h : ∀ i, i < up.length → p (up.getD i 0) = false) : La.findFrom p up j = -1 :=
  La.findFrom_none (fun x hx => by
    obtain ⟨i, hi, rfl⟩ := List.mem_iff_getElem.1 hx
    simpa [List.getD_eq_getElem?_getD, List.getElem?_eq_getElem hi] using h i hi) j

set_option maxHeartbeats 1000000 in
theorem indexFunc_c (A : Option Addr) (c : Nat) (up : List Nat) (b : Nat) (w : World) (hn : up.length ≤ 20) (h : BytesAt w w.heap.size A up) (hp : b < w.heap.size) (hc : w.cell? ⟨b, 0, none⟩ = some (.slice A up.length c)) :
    Calls Tryd.prog 34 #[.slice A up.length c, .func (.func 35) #[] #[.pointer (some ⟨b, 0, none⟩)]] w fun e w' => e = .returned (.int .i64 (La.bottom up)) ∧ Grew w w' := by
  have hn' : (up.length : Int) ≤ 20 := by omega
  go_enter Tryd.func34, Tryd.ntmps34
  go_wp2_with fail
  go_loopw [8] (fun i wr => ∃ k : Nat, k ≤ up.length ∧ i = .int .i64 k ∧ Grew w wr ∧ (∀ i, i < k → (Lib.onesCount (up.getD i 0) == up.length) = false)) (fun i _ => up.length - (intOf i).toNat)
  case atStart => exact ⟨0, Nat.zero_le _, rfl, Grew.refl _, fun i hi => by omega⟩
  case round =>
    obtain ⟨k, hk, rfl, ⟨y, rfl⟩, hno⟩ := hrel
    have Hno := hid hno
    clear hno
    by_cases hlt : k < up.length
    · obtain ⟨ad, rfl, hbk, hcell⟩ := h.2 (by omega)
      have hx := h.lt k
      have hck := hcell k hlt
      obtain ⟨x, hxe⟩ : ∃ x, x = up.getD k 0 := ⟨_, rfl⟩
      rw [← hxe] at hx hck
      have Hx := hid hxe
      clear hcell h hxe
      cases hq : Lib.onesCount x == up.length
      · have Hq := hid hq
        clear hq
        go_wp2_with (go_at_call 35; refine (closure_c (some ad) c up x b _ hn hx (by exact y.lt b hp) (by rw [y.cell _ hp]; exact hc)).mono ?_; rw [Hq.out]; rintro e w' ⟨rfl, z, rfl⟩)
        go_roundw
        case rel =>
          refine ⟨k + 1, by omega, by go_num, y.grew.trans z.grew, fun i hi => ?_⟩
          by_cases hik : i = k
          · subst hik; rw [← Hx.out]; exact Hq.out
          · exact Hno.out i (by omega)
        case measure => simp [intOf]; omega
      · have Hq := hid hq
        clear hq
        go_wp2_with (go_at_call 35; refine (closure_c (some ad) c up x b _ hn hx (by exact y.lt b hp) (by rw [y.cell _ hp]; exact hc)).mono ?_; rw [Hq.out]; rintro e w' ⟨rfl, z, rfl⟩)
        go_ret
        refine ⟨ret_int ?_, y.grew.trans z.grew⟩
        unfold La.bottom La.find
        rw [findFrom_at (fun x => Lib.onesCount x == up.length) up k 0 Hno.out hlt (by rw [← Hx.out]; exact Hq.out), Nat.zero_add]
    · go_wp2_with fail
      go_ret
      refine ⟨ret_int ?_, y.grew⟩
      unfold La.bottom La.find
      rw [findFrom_no (fun x => Lib.onesCount x == up.length) up 0 (fun i hi => Hno.out i (by omega))]

theorem findBottom_c (A : Option Addr) (c : Nat) (up : List Nat) (w : World) (hn : up.length ≤ 20) (h : BytesAt w w.heap.size A up) (h0 : 0 < up.length) :
    Calls Tryd.prog 23 #[.agg #[.slice A up.length c]] w fun e w' => e = .returned (.int .i64 (La.bottom up)) ∧ Grew w w' := by
  have hn' : (up.length : Int) ≤ 20 := by omega
  go_enter Tryd.func23, Tryd.ntmps23
  go_wp2_with (go_at_call 34; refine (indexFunc_c A c up _ _ hn (h.grew ((Grew.refl _).alloc _)) (by simp) (by simp)).mono ?_; rintro e w' ⟨rfl, y, rfl⟩)
  go_ret
  exact ⟨rfl, After.grew_of ((Grew.refl _).alloc _) y⟩
end Go.Proofs.YthdgjalbkeccoaaDoor

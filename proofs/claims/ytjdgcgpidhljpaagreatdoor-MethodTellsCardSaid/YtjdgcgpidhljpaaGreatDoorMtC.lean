/- Stage 9: ContainsRune at the characters of a binary selector, isBinary. -/
import Derived.Test.YtjdgcgpidhljpaaGreatDoorMtB
import Derived.Laws.Runes
import Derived.WalkMore
namespace Go.Proofs.YtjdgcgpidhljpaaGreatDoor
open Go.RowKit

/-- The characters of a binary selector, as a string. -/
def signsB : ByteArray := ⟨#[43, 45, 42, 47, 92, 60, 62, 61, 126, 44]⟩
theorem encode_far (x : Nat) (h : 128 ≤ x) : ∃ n, 2 ≤ n ∧ n ≤ 4 ∧ (Utf8.encode ((x : Nat) : Int)).size = n ∧ ∃ u, (Utf8.encode ((x : Nat) : Int))[n - 1]? = some u ∧ 128 ≤ u.toNat := by
  unfold Utf8.encode
  simp only
  obtain ⟨c, hc, h2⟩ : ∃ c, c = (if Utf8.valid ((x : Nat) : Int) then ((x : Nat) : Int).toNat else Utf8.runeError) ∧ 128 ≤ c := by
    refine ⟨_, rfl, ?_⟩
    split
    · omega
    · decide
  rw [← hc, if_neg (by omega)]
  have hu : ∀ y : Nat, 128 ≤ (UInt8.ofNat (0x80 + y % 64)).toNat := fun y => by
    rw [UInt8.toNat_ofNat']; omega
  split
  · exact ⟨2, by decide, by decide, rfl, _, rfl, hu _⟩
  · split
    · exact ⟨3, by decide, by decide, rfl, _, rfl, hu _⟩
    · exact ⟨4, by decide, by decide, rfl, _, rfl, hu _⟩
theorem indexByte_not {l : List UInt8} {c : UInt8} (h : c ∉ l) : Lib.indexByte l c = -1 := by
  induction l with
  | nil => rfl
  | cons a r ih =>
    simp only [List.mem_cons, not_or] at h
    unfold Lib.indexByte
    rw [if_neg (by simpa using fun e => h.1 (by simpa using e.symm)), ih h.2]
    rfl
theorem sign_ascii : ∀ x : Nat, x < 128 → (decide (0 ≤ Lib.indexByte signsB.data.toList (x : Nat).toUInt8)) = Mt.sign x := by decide +kernel
theorem low_mem {t : ByteArray} (hl : ∀ i (h : i < t.size), (t[i]'h).toNat < 128) {u : UInt8} (hu : 128 ≤ u.toNat) (k : Nat) : Lib.indexByte (t.extract k t.size).data.toList u = -1 := by
  refine indexByte_not (fun hm => ?_)
  rw [ByteArray.data_extract, Array.toList_extract] at hm
  have hm2 : u ∈ t.data.toList := List.mem_of_mem_drop (List.mem_of_mem_take hm)
  obtain ⟨i, hi, e⟩ := List.mem_iff_getElem.1 hm2
  have := hl i (by rw [Array.length_toList] at hi; exact hi)
  have e2 : t[i]'(by rw [Array.length_toList] at hi; exact hi) = u := by rw [← e]; rfl
  rw [e2] at this
  omega
/-- One round: the last byte of a rune's bytes is not there. -/
def Far (t : ByteArray) (x : Nat) (w : World) : Prop := Calls Tryz.prog 116 #[.string t, .int .i32 ((x : Nat) : Int)] w fun e w' => e = .returned (.int .i64 (-1)) ∧ Grew w w'
set_option maxRecDepth 100000 in
set_option maxHeartbeats 1000000 in
theorem far_two (t : ByteArray) (ht : t.size = 10) (x : Nat) (h : 128 ≤ x) (h3 : x ≠ 65533) (hv : Lib.validRune ((x : Nat) : Int) = true) (s : ByteArray) (hcv : ∀ W : World, (convert 21 9 (.int .i32 ((x : Nat) : Int))).run Tryz.prog W = .ok (.string s) W) (hes : s.size = 2) (hne : (((t[1]'(by omega)).toNat : Int) != ((s[1]'(by omega)).toNat : Int)) = true) (w : World)
    (hi : Lib.indexByte (t.extract 2 t.size).data.toList (s[1]'(by omega)) = -1) : Far t x w := by
  have HV := hid (Tryz.utf8_ValidRune ((x : Nat) : Int) w)
  rw [hv] at HV
  have HI := hid (fun W => Tryz.strings_IndexByte (t.extract 2 t.size) (((s[1]'(by omega)).toNat : Nat) : Int) W)
  rw [show (((s[1]'(by omega)).toNat : Nat) : Int).toNat.toUInt8 = s[1]'(by omega) by simp, hi, ht] at HI
  have t1 : ¬ ((x : Nat) : Int) < 128 := by omega
  have t0 : (0 : Int) ≤ ((x : Nat) : Int) := by omega
  have t3 : (((x : Nat) : Int) == 65533) = false := by rw [beq_eq_false_iff_ne]; omega
  have w2 : IntKind.i64.wrap 2 = 2 := by decide
  unfold Far
  clear hv hi h h3
  go_enter Tryz.func116, Tryz.ntmps116
  go_wp2_with fail
  refine HV.out.mono ?_
  rintro e w1 ⟨rfl, rfl⟩
  go_wp2_with fail
  go_step3
  go_wp2_with fail
  refine wp_loop_rounds 2 ?_
  rw [rounds_succ]
  go_wp2_with fail
  go_step3
  go_wp2_with fail
  go_quiet (fail)
  have HG2 : Hid (Grew w1 (w1.drewN nq)) := hid (Grew.mk ⟨rfl, rfl, rfl, Nat.le_refl _, fun _ _ => rfl⟩)
  generalize w1.drewN nq = w2 at *
  go_wp2_with fail
  go_quiet (first | (go_at_call 134; refine Calls.quiet_of_same (HI.out _)))
  go_wp2_with fail
  rw [Exit.noGoto_ret]
  go_wp2_with fail
  rw [Exit.noGoto_ret]
  go_wp2_with fail
  go_ret
  exact ⟨rfl, HG2.out.trans (Grew.mk ⟨rfl, rfl, rfl, Nat.le_refl _, fun _ _ => rfl⟩)⟩
set_option maxRecDepth 100000 in
set_option maxHeartbeats 1000000 in
theorem far_three (t : ByteArray) (ht : t.size = 10) (x : Nat) (h : 128 ≤ x) (h3 : x ≠ 65533) (hv : Lib.validRune ((x : Nat) : Int) = true) (s : ByteArray) (hcv : ∀ W : World, (convert 21 9 (.int .i32 ((x : Nat) : Int))).run Tryz.prog W = .ok (.string s) W) (hes : s.size = 3) (hne : (((t[2]'(by omega)).toNat : Int) != ((s[2]'(by omega)).toNat : Int)) = true) (w : World)
    (hi : Lib.indexByte (t.extract 3 t.size).data.toList (s[2]'(by omega)) = -1) : Far t x w := by
  have HV := hid (Tryz.utf8_ValidRune ((x : Nat) : Int) w)
  rw [hv] at HV
  have HI := hid (fun W => Tryz.strings_IndexByte (t.extract 3 t.size) (((s[2]'(by omega)).toNat : Nat) : Int) W)
  rw [show (((s[2]'(by omega)).toNat : Nat) : Int).toNat.toUInt8 = s[2]'(by omega) by simp, hi, ht] at HI
  have t1 : ¬ ((x : Nat) : Int) < 128 := by omega
  have t0 : (0 : Int) ≤ ((x : Nat) : Int) := by omega
  have t3 : (((x : Nat) : Int) == 65533) = false := by rw [beq_eq_false_iff_ne]; omega
  have w2 : IntKind.i64.wrap 3 = 3 := by decide
  unfold Far
  clear hv hi h h3
  go_enter Tryz.func116, Tryz.ntmps116
  go_wp2_with fail
  refine HV.out.mono ?_
  rintro e w1 ⟨rfl, rfl⟩
  go_wp2_with fail
  go_step3
  go_wp2_with fail
  refine wp_loop_rounds 2 ?_
  rw [rounds_succ]
  go_wp2_with fail
  go_step3
  go_wp2_with fail
  go_quiet (fail)
  have HG2 : Hid (Grew w1 (w1.drewN nq)) := hid (Grew.mk ⟨rfl, rfl, rfl, Nat.le_refl _, fun _ _ => rfl⟩)
  generalize w1.drewN nq = w2 at *
  go_wp2_with fail
  go_quiet (first | (go_at_call 134; refine Calls.quiet_of_same (HI.out _)))
  go_wp2_with fail
  rw [Exit.noGoto_ret]
  go_wp2_with fail
  rw [Exit.noGoto_ret]
  go_wp2_with fail
  go_ret
  exact ⟨rfl, HG2.out.trans (Grew.mk ⟨rfl, rfl, rfl, Nat.le_refl _, fun _ _ => rfl⟩)⟩
set_option maxRecDepth 100000 in
set_option maxHeartbeats 1000000 in
theorem far_four (t : ByteArray) (ht : t.size = 10) (x : Nat) (h : 128 ≤ x) (h3 : x ≠ 65533) (hv : Lib.validRune ((x : Nat) : Int) = true) (s : ByteArray) (hcv : ∀ W : World, (convert 21 9 (.int .i32 ((x : Nat) : Int))).run Tryz.prog W = .ok (.string s) W) (hes : s.size = 4) (hne : (((t[3]'(by omega)).toNat : Int) != ((s[3]'(by omega)).toNat : Int)) = true) (w : World)
    (hi : Lib.indexByte (t.extract 4 t.size).data.toList (s[3]'(by omega)) = -1) : Far t x w := by
  have HV := hid (Tryz.utf8_ValidRune ((x : Nat) : Int) w)
  rw [hv] at HV
  have HI := hid (fun W => Tryz.strings_IndexByte (t.extract 4 t.size) (((s[3]'(by omega)).toNat : Nat) : Int) W)
  rw [show (((s[3]'(by omega)).toNat : Nat) : Int).toNat.toUInt8 = s[3]'(by omega) by simp, hi, ht] at HI
  have t1 : ¬ ((x : Nat) : Int) < 128 := by omega
  have t0 : (0 : Int) ≤ ((x : Nat) : Int) := by omega
  have t3 : (((x : Nat) : Int) == 65533) = false := by rw [beq_eq_false_iff_ne]; omega
  have w2 : IntKind.i64.wrap 4 = 4 := by decide
  unfold Far
  clear hv hi h h3
  go_enter Tryz.func116, Tryz.ntmps116
  go_wp2_with fail
  refine HV.out.mono ?_
  rintro e w1 ⟨rfl, rfl⟩
  go_wp2_with fail
  go_step3
  go_wp2_with fail
  refine wp_loop_rounds 2 ?_
  rw [rounds_succ]
  go_wp2_with fail
  go_step3
  go_wp2_with fail
  go_quiet (fail)
  have HG2 : Hid (Grew w1 (w1.drewN nq)) := hid (Grew.mk ⟨rfl, rfl, rfl, Nat.le_refl _, fun _ _ => rfl⟩)
  generalize w1.drewN nq = w2 at *
  go_wp2_with fail
  go_quiet (first | (go_at_call 134; refine Calls.quiet_of_same (HI.out _)))
  go_wp2_with fail
  rw [Exit.noGoto_ret]
  go_wp2_with fail
  rw [Exit.noGoto_ret]
  go_wp2_with fail
  go_ret
  exact ⟨rfl, HG2.out.trans (Grew.mk ⟨rfl, rfl, rfl, Nat.le_refl _, fun _ _ => rfl⟩)⟩
end Go.Proofs.YtjdgcgpidhljpaaGreatDoor

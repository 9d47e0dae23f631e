/- Stage 9: ContainsRune at the characters of a binary selector, isBinary. -/
import Derived.Test.YtjdgcgpidhljpaaGreatDoorMtC
namespace Go.Proofs.YtjdgcgpidhljpaaGreatDoor
open Go.RowKit

set_option maxRecDepth 100000 in
set_option maxHeartbeats 2000000 in
theorem far_error (t : ByteArray) (ht : t.size = 10) (hd : ∀ pos, pos < 10 → ∃ d, Utf8.decode t pos = (d, 1) ∧ d < 128) (w : World) : Far t 65533 w := by
  unfold Far
  rw [show ((65533 : Nat) : Int) = 65533 from rfl]
  go_enter Tryz.func116, Tryz.ntmps116
  go_wp2_with fail
  go_loopg [5, 6] 10 (fun gf _ _ wx => ∃ pos : Nat, wx.heap[w.heap.size]? = some (.stringIter t pos) ∧ Below w.heap.size w wx ∧ t.size ≤ pos + gf)
  case atStart => exact ⟨0, World.iter_heap w t 0, (Below.refl _ w).alloc (Nat.le_refl _) _, by omega⟩
  case round =>
    obtain ⟨pos, hit, hbw, hfu⟩ := hrel
    by_cases hps : pos < t.size
    · obtain ⟨g', rfl⟩ : ∃ g', gk = g' + 1 := ⟨gk - 1, by omega⟩
      obtain ⟨d, hd1, hd2⟩ := hd pos (by omega)
      have hnx : ∀ ty, (Instr.next (.pointer (some ⟨w.heap.size, 0, none⟩)) true ty).run Tryz.prog wr = _ := fun ty => Lib.run_next_any_at wr w.heap.size t pos ty hit hps
      rw [hd1] at hnx
      have hit2 := Lib.iterAt_heap wr w.heap.size t pos (pos + 1) hit
      have hbw2 := Lib.below_iterAt hbw (k := w.heap.size) (Nat.le_refl _) t (pos + 1)
      obtain ⟨W, hWd⟩ : ∃ W, wr.iterAt w.heap.size t (pos + 1) = W := ⟨_, rfl⟩
      simp only at hnx
      rw [hWd] at hnx hit2 hbw2
      have hne : (((d : Nat) : Int) == 65533) = false := by rw [beq_eq_false_iff_ne]; omega
      clear hd
      go_wp2_with fail
      go_roundg g'
      case measure => omega
      case rel => exact ⟨pos + 1, hit2, hbw2, by omega⟩
    · have hnx : ∀ ty, (Instr.next (.pointer (some ⟨w.heap.size, 0, none⟩)) true ty).run Tryz.prog wr = _ := fun ty => Lib.run_next_end_at wr w.heap.size t pos ty hit hps
      go_wp2_with fail
      go_ret
      exact ⟨rfl, Grew.mk hbw⟩
set_option maxRecDepth 100000 in
set_option maxHeartbeats 1000000 in
theorem indexRune_far (x : Nat) (h : 128 ≤ x) (w : World) : Far signsB x w := by
  have hl : ∀ i (h : i < signsB.size), (signsB[i]'h).toNat < 128 := by decide
  by_cases h3 : x = 65533
  · subst h3
    refine far_error signsB rfl ?_ w
    intro pos hp
    have : ∀ p, p < 10 → (Utf8.decode signsB p).2 = 1 ∧ (Utf8.decode signsB p).1 < 128 := by decide +kernel
    exact ⟨_, Prod.ext rfl (this pos hp).1, (this pos hp).2⟩
  · cases hv : Lib.validRune ((x : Nat) : Int)
    · have HV := hid (Tryz.utf8_ValidRune ((x : Nat) : Int) w)
      rw [hv] at HV
      have t1 : ¬ ((x : Nat) : Int) < 128 := by omega
      have t0 : (0 : Int) ≤ ((x : Nat) : Int) := by omega
      have t3 : (((x : Nat) : Int) == 65533) = false := by rw [beq_eq_false_iff_ne]; omega
      unfold Far
      clear hl hv h h3
      generalize signsB = t
      go_enter Tryz.func116, Tryz.ntmps116
      go_wp2_with fail
      refine HV.out.mono ?_
      rintro e w1 ⟨rfl, rfl⟩
      go_wp2_with fail
      go_ret
      exact ⟨rfl, Grew.refl _⟩
    · obtain ⟨n, hn2, hn4, hes, u, hu, hu8⟩ := encode_far x h
      have hcv : ∀ W : World, (convert 21 9 (.int .i32 ((x : Nat) : Int))).run Tryz.prog W = .ok (.string (Utf8.encode ((x : Nat) : Int))) W := fun W => run_convert_int_string W _ _ _ _ (by rw [Tryz.underlying21]; rfl) Tryz.underlying9
      generalize Utf8.encode ((x : Nat) : Int) = s at *
      have key : ∀ k (h1 : k < signsB.size) (h2 : k < s.size), s[k]? = some u → (((signsB[k]'h1).toNat : Int) != ((s[k]'h2).toNat : Int)) = true ∧ Lib.indexByte (signsB.extract (k + 1) signsB.size).data.toList (s[k]'h2) = -1 := by
        intro k h1 h2 hk
        have e : s[k]'h2 = u := by
          have := hk
          rw [getElem?_pos s k h2] at this
          exact Option.some.inj this
        rw [e]
        refine ⟨?_, low_mem hl hu8 _⟩
        have := hl k h1
        rw [bne_iff_ne]
        omega
      rcases (by omega : n = 2 ∨ n = 3 ∨ n = 4) with rfl | rfl | rfl
      · obtain ⟨k1, k2⟩ := key 1 (by decide) (by omega) hu
        exact far_two signsB rfl x h h3 hv s hcv hes k1 w k2
      · obtain ⟨k1, k2⟩ := key 2 (by decide) (by omega) hu
        exact far_three signsB rfl x h h3 hv s hcv hes k1 w k2
      · obtain ⟨k1, k2⟩ := key 3 (by decide) (by omega) hu
        exact far_four signsB rfl x h h3 hv s hcv hes k1 w k2
theorem sign_c (x : Nat) (w : World) : Calls Tryz.prog 90 #[.string signsB, .int .i32 ((x : Nat) : Int)] w fun e w' => e = .returned (.bool (Mt.sign x)) ∧ Grew w w' := by
  rcases Nat.lt_or_ge x 128 with h | h
  · refine (Tryz.strings_ContainsRune_ascii signsB ((x : Nat) : Int) w (by omega) (by omega)).mono ?_
    rintro e w' ⟨rfl, rfl⟩
    refine ⟨?_, Grew.refl _⟩
    rw [← sign_ascii x h, Int.toNat_natCast]
  · have HI := hid (indexRune_far x h w)
    rw [sign_far x h]
    clear h
    generalize signsB = t at *
    go_enter Tryz.func90, Tryz.ntmps90
    go_wp2_with fail
    refine Calls.mono HI.out ?_
    rintro e w1 ⟨rfl, hg⟩
    go_wp2_with fail
    go_ret
    exact ⟨rfl, hg⟩
theorem binOther_c (x : Nat) (w : World) : Calls Tryz.prog 89 #[.int .i32 ((x : Nat) : Int)] w fun e w' => e = .returned (.bool (!(Mt.sign x))) ∧ Grew w w' := by
  have C := hid (sign_c x w)
  unfold signsB at C
  go_enter Tryz.func89, Tryz.ntmps89
  go_wp2_with fail
  refine C.out.mono ?_
  rintro e w1 ⟨rfl, hg⟩
  go_wp2_with fail
  go_ret
  exact ⟨rfl, hg⟩
theorem allSign_c (s : ByteArray) (w : World) : Calls Tryz.prog 91 #[.string s, .func (.func 89) #[] #[]] w fun e w' => e = .returned (.bool (!((Lg.bytes s).all Mt.sign))) ∧ Grew w w' := by
  have h := Tryz.strings_ContainsFunc_grows 89 #[] (enters_of Tryz.func89 (by kernel_rfl) rfl) (fun x => !(Mt.sign x)) s w (fun W x _ _ => (binOther_c x W).mono fun e w' ⟨h1, h2⟩ => ⟨h1, h2.below⟩)
  rw [idx_ok sign_far] at h
  exact h.mono fun e w' ⟨h1, h2⟩ => ⟨h1, Grew.mk h2⟩
set_option maxRecDepth 100000 in
set_option maxHeartbeats 1000000 in
theorem isBinary_c (s : ByteArray) (w : World) : Calls Tryz.prog 48 #[.string s] w fun e w' => e = .returned (.bool (Mt.isBin (Lg.bytes s))) ∧ Grew w w' := by
  have CC := hid (allSign_c s w)
  have CW := hid (within_c (s.size : Int) 1 2 w)
  unfold Mt.isBin
  rw [Lg.bytes_len]
  generalize (Lg.bytes s).all Mt.sign = q at *
  have e : (decide ((1 : Int) ≤ (s.size : Int)) && decide ((s.size : Int) ≤ 2)) = (decide (1 ≤ s.size) && decide (s.size ≤ 2)) := by
    congr 1 <;> rw [decide_eq_decide] <;> omega
  rw [e] at CW
  generalize (decide (1 ≤ s.size) && decide (s.size ≤ 2)) = a at *
  clear e
  cases a
  · go_enter Tryz.func48, Tryz.ntmps48
    go_wp2_with fail
    refine CW.out.mono ?_
    rintro e w1 ⟨rfl, rfl⟩
    go_wp2_with fail
    go_ret
    exact ⟨rfl, Grew.refl _⟩
  · go_enter Tryz.func48, Tryz.ntmps48
    go_wp2_with fail
    refine CW.out.mono ?_
    rintro e w1 ⟨rfl, rfl⟩
    go_wp2_with fail
    refine CC.out.mono ?_
    rintro e w1 ⟨rfl, hg⟩
    go_wp2_with fail
    go_ret
    exact ⟨by cases q <;> rfl, hg⟩
end Go.Proofs.YtjdgcgpidhljpaaGreatDoor

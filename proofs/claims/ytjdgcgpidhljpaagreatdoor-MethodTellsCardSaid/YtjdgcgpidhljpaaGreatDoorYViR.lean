/- Parts of elder texts that this layer needs, joined: XViR XViS. -/
import Derived.Test.YtjdgcgpidhljpaaGreatDoorYViA
namespace Go.Proofs.YtjdgcgpidhljpaaGreatDoor
open Go.RowKit

theorem int_congr {k : IntKind} {a b : Int} (h : a = b) : Value.int k a = .int k b := by rw [h]

theorem tmod_neg {m : Int} (h : m.tmod 128 < 0) : wrap64 (m.tmod 128 + 128) = m % 128 := by
  rw [Int.tmod_eq_emod] at h ⊢
  split at h
  · omega
  · rename_i h1
    rw [if_neg h1]
    unfold wrap64
    simp only [show ((128 : Int).natAbs : Int) = 128 from rfl] at *
    omega
theorem tmod_pos {m : Int} (h : 0 ≤ m.tmod 128) : m.tmod 128 = m % 128 := by
  rw [Int.tmod_eq_emod] at h ⊢
  split at h
  · rename_i h1
    rw [if_pos h1]; omega
  · simp only [show ((128 : Int).natAbs : Int) = 128 from rfl] at *
    omega
theorem low_tests {m : Int} (h : -64 ≤ m ∧ m < 64) : (m / 128 = 0 ∧ m % 128 < 64) ∨ (m / 128 = -1 ∧ ¬ m % 128 < 64) := by omega
theorem high_tests {m : Int} (h : ¬ (-64 ≤ m ∧ m < 64)) : (m / 128 = 0 ∧ ¬ m % 128 < 64) ∨ (m / 128 = -1 ∧ m % 128 < 64) ∨ (m / 128 ≠ 0 ∧ m / 128 ≠ -1) := by omega

set_option maxRecDepth 100000 in
set_option maxHeartbeats 2000000 in
theorem rput_c (A : Option Addr) (c : Nat) (xs : List Nat) (n : Int) (w : World) (ha : NumsAt .u8 w w.heap.size A xs) (hn : Vi.I64 n) (hl : xs.length ≤ 1000000000000) :
    Calls Tryz.prog 68 #[.slice A xs.length c, .int .i64 n] w (PutPost w xs n) := by
  have HA := hid ha
  have HF := hid (Vi.fits_nine hn)
  obtain ⟨hn1, hn2⟩ := hn
  clear ha
  go_enter Tryz.func68, Tryz.ntmps68
  go_wp2_with (at_builtin; refine wpList_catM .u8 1 w w rfl _ _ 26 5 rfl Tryz.underlying26 v_u8 (Grew.refl _) _ _ [] rfl (OwnNums.nil _ _ _ _) A c xs rfl HA.out (by simp; omega) (by simp; omega) ?_; rintro A1 c1 M W2 HM hO2 hG2)
  have HM2 := hid (show M = xs by rw [HM.out]; rfl)
  clear HM
  go_loopg [1, 5, 6] 9 (fun gf s1 s5 s6 wx => ∃ (m : Int) (G : Option Addr) (h : Nat) (L : List Nat) (i : Nat), s1 = .int .i64 m ∧ s5 = .slice G L.length h ∧ s6 = .int .i64 ((i : Nat) : Int) ∧ OwnNums .u8 w wx 5 G h L ∧ Grew w wx ∧ -9223372036854775808 ≤ m ∧ m ≤ 9223372036854775807 ∧ L.length + gf ≤ xs.length + 9 ∧ i + gf = 9 ∧ Hid (xs ++ Vi.enc n = L ++ Vi.encF gf m ∧ Vi.Fits gf m))
  case atStart => exact ⟨n, A1, c1, M, 0, rfl, rfl, rfl, hO2, hG2, hn1, hn2, by rw [HM2.out]; omega, rfl, hid ⟨by rw [HM2.out]; rfl, HF.out⟩⟩
  case round =>
    clear hO2 hG2 HM2 HF hn1 hn2 HA
    obtain ⟨m, G, h, L, i, rfl, rfl, rfl, hown, hg, hm1, hm2, hL, hi, HE⟩ := hrel
    have f1 : (i : Int) < 10 := by omega
    have HI := hid hi
    clear hi
    go_upto_if 18 with (fail)
    go_cut [7] (fun s7 wx => s7 = .int .i64 (m % 128) ∧ wx = wr)
    case first =>
      by_cases hr : m.tmod 128 < 0
      · have HC := hid (tmod_neg hr)
        go_wp2_with fail
        go_meet
        case rel => exact ⟨int_congr HC.out, rfl⟩
      · have HC := hid (tmod_pos (m := m) (by omega))
        have hr' : 0 ≤ m.tmod 128 := by omega
        go_wp2_with fail
        go_meet
        case rel => exact ⟨int_congr HC.out, rfl⟩
    case rest =>
      obtain ⟨rfl, hw⟩ := hcut
      rw [hw]
      clear hw wc
      have HQ := hid (show (m - m % 128).tdiv 128 = m / 128 by rw [show m - m % 128 = 128 * (m / 128) by omega, Int.mul_tdiv_cancel_left _ (by decide)])
      go_upto_if 26 with (fail)
      go_cut [1, 7] (fun s1 s7 wx => s1 = .int .i64 (m / 128) ∧ s7 = .int .i64 (m % 128) ∧ wx = wr)
      case first =>
        by_cases h9 : i = 9
        · have h9' : ((i : Int) == 9) = true := by rw [h9]; rfl
          go_wp2_with fail
          go_meet
          case rel => exact ⟨int_congr HQ.out, int_congr (by omega), rfl⟩
        · have h9' : ((i : Int) == 9) = false := by rw [beq_eq_false_iff_ne]; omega
          go_wp2_with fail
          go_meet
          case rel => exact ⟨int_congr HQ.out, rfl, rfl⟩
      case rest =>
        obtain ⟨rfl, rfl, hw⟩ := hcut
        rw [hw]
        clear hw HQ
        by_cases hlow : -64 ≤ m ∧ m < 64
        · have HL := hid (Vi.encF_low gk hlow)
          have HP := hid (put_u8 (m := m) (x := m % 128) rfl)
          have HK := hid (low_tests hlow)
          clear hlow hm1 hm2
          generalize hq : m / 128 = q at *
          generalize hr : m % 128 = r at *
          clear hq hr
          rcases HK.out with ⟨rfl, hk⟩ | ⟨rfl, hk⟩
          all_goals
            try (have hk2 : 64 ≤ r := by omega)
            go_wp2_with (at_builtin; refine wpList_push .u8 1 w wr rfl _ _ 26 5 rfl Tryz.underlying26 v_u8 hg G h L rfl hown r.toNat _ rfl rfl _ (by exact congrArg _ HP.out) (by omega) (by omega) ?_; rintro A2 c2 W3 hO3 hG3)
            go_ret
            exact ⟨A2, c2, L ++ [r.toNat], by simp, hO3, by rw [HE.out.1, HL.out], hG3⟩
        · obtain ⟨gf, rfl⟩ : ∃ gf, gk = gf + 1 := by
            cases gk with
            | zero => exact absurd (Vi.fits_zero.1 HE.out.2) hlow
            | succ gf => exact ⟨gf, rfl⟩
          have HE2 := hid (show xs ++ Vi.enc n = (L ++ [(m % 128 + 128).toNat]) ++ Vi.encF gf (m / 128) ∧ Vi.Fits gf (m / 128) from ⟨by rw [HE.out.1, Vi.encF_high _ hlow, List.append_assoc]; rfl, Vi.fits_succ HE.out.2⟩)
          have HK := hid (high_tests hlow)
          have hq1 : -9223372036854775808 ≤ m / 128 := by omega
          have hq2 : m / 128 ≤ 9223372036854775807 := by omega
          have hr1 : 0 ≤ m % 128 := by omega
          have hr2 : m % 128 < 128 := by omega
          clear hlow hm1 hm2
          generalize hq : m / 128 = q at *
          generalize hr : m % 128 = r at *
          clear hq hr HE
          rcases HK.out with ⟨rfl, hk⟩ | ⟨rfl, hk⟩ | ⟨hk1, hk2⟩
          all_goals
            try (have k1 : (q == 0) = false := by simpa using hk1)
            try (have k2 : (q == -1) = false := by simpa using hk2)
            clear HK
            go_wp2_with (at_builtin; refine wpList_pushK .u8 1 w wr rfl _ _ 26 5 rfl Tryz.underlying26 v_u8 hg G h L rfl hown (r + 128).toNat _ rfl rfl _ (int_congr (show r + 128 = (((r + 128).toNat : Nat) : Int) by omega)) (by omega) (by omega) ?_; rintro A2 c2 M3 W3 HM3 hO3 hG3 _)
            go_roundg gf
            case rel => exact ⟨_, A2, c2, M3, i + 1, rfl, rfl, by go_num, hO3, hG3, by omega, by omega, by rw [HM3.out, List.length_append, List.length_cons, List.length_nil]; omega, by have := HI.out; omega, hid (by rw [HM3.out]; exact HE2.out)⟩
            case measure => omega
end Go.Proofs.YtjdgcgpidhljpaaGreatDoor
namespace Go.Proofs.YtjdgcgpidhljpaaGreatDoor
open Go.RowKit

theorem conv_at {P : Program} {t e s : TypeId} (ht : P.underlying t = some (.slice e)) (he : P.underlying e = some (.int .u8)) (hs : P.underlying s = some .string) {w : World} {B : Nat} {ad : Addr} (c : Nat) {xs : List Nat} (h : NumsAt .u8 w B (some ad) xs) (hx : ∀ x ∈ xs, x < 256) :
    (convert t s (.slice (some ad) xs.length c)).run P w = .ok (.string (strOf xs)) w := by
  have h1 := run_convert_bytes_back (P := P) w t s e ad c (xs.map UInt8.ofNat) ht he hs (fun j hj => by
    rw [List.length_map] at hj
    obtain ⟨ad', e1, _, hc⟩ := h (by omega)
    obtain rfl := Option.some.inj e1
    rw [hc j hj]
    have hm := hx _ (List.getElem_mem hj)
    simp [List.getD_eq_getElem?_getD, List.getElem?_eq_getElem hj]
    omega)
  rw [List.length_map] at h1
  exact h1
theorem u64_put {a n x : Int} {k : Nat} (h : n = a % 18446744073709551616) : IntKind.u64.wrap (n + IntKind.u64.wrap (x * 2 ^ k)) = (a + x * 2 ^ k) % 18446744073709551616 := by
  rw [IntKind.wrap_u64, IntKind.wrap_u64, h]
  generalize x * 2 ^ k = z
  omega
namespace Vi
theorem uv_next {b : List Nat} {i : Nat} (hl : i < b.length) : ((uv (b.take (i + 1)) : Nat) : Int) = ((uv (b.take i) : Nat) : Int) + ((b.getD i 0 : Nat) : Int) % 128 * 2 ^ (7 * i) := by
  rw [take_snoc hl, uv_snoc, List.length_take, Nat.min_eq_left (Nat.le_of_lt hl), ← pow_seven]
  push_cast
  rw [Int.mul_comm]
theorem val_low {b : List Nat} {i : Nat} (hl : i < b.length) (hc : b.getD i 0 < 64) : wrap64 (((uv (b.take (i + 1)) : Nat) : Int) % 18446744073709551616) = val (b.take (i + 1)) := by
  have h : val (b.take (i + 1)) = wrap64 ((uv (b.take (i + 1)) : Nat) : Int) := by
    unfold val
    rw [take_snoc hl, sval_snoc, uv_snoc, top, if_pos (by omega), List.length_take, Nat.min_eq_left (Nat.le_of_lt hl)]
    push_cast
    rfl
  rw [h]
  apply wrap64_mod
  omega
theorem val_high {b : List Nat} {i : Nat} (hl : i < b.length) (hc : 64 ≤ b.getD i 0) (hc2 : b.getD i 0 < 128) : val (b.take (i + 1)) = wrap64 (((uv (b.take (i + 1)) : Nat) : Int) - 128 ^ (i + 1)) := by
  unfold val
  rw [take_snoc hl, sval_snoc, uv_snoc, top, if_neg (by omega), List.length_take, Nat.min_eq_left (Nat.le_of_lt hl)]
  congr 1
  push_cast
  rw [Int.pow_succ, Int.mul_sub]
  omega
theorem val_sub {b : List Nat} {i : Nat} (hl : i < b.length) (hc : 64 ≤ b.getD i 0) (hc2 : b.getD i 0 < 128) : wrap64 (IntKind.u64.wrap (((uv (b.take (i + 1)) : Nat) : Int) % 18446744073709551616 - IntKind.u64.wrap (128 * 2 ^ (7 * i)))) = val (b.take (i + 1)) := by
  rw [val_high hl hc hc2, IntKind.wrap_u64, IntKind.wrap_u64, Int.pow_succ, ← pow_seven, Int.mul_comm 128]
  apply wrap64_mod
  generalize (128 : Int) ^ i * 128 = z
  omega
theorem val_nine {b : List Nat} (hl : 9 < b.length) (hc : 64 ≤ b.getD 9 0) (hc2 : b.getD 9 0 < 128) : wrap64 (((uv (b.take (9 + 1)) : Nat) : Int) % 18446744073709551616) = val (b.take (9 + 1)) := by
  rw [val_high hl hc hc2]
  apply wrap64_mod
  rw [show (128 : Int) ^ (9 + 1) = 1180591620717411303424 by decide]
  omega
end Vi
def RGetPost (w : World) (xs : List Nat) (e : Ending) (w' : World) : Prop :=
  e = .returned (.tuple #[.int .i64 (Vi.getN xs), .int .i64 (((Vi.getL xs).length : Nat) : Int), .int .i64 ((Vi.getE xs : Nat) : Int)]) ∧ Grew w w'

set_option maxRecDepth 100000 in
set_option maxHeartbeats 2000000 in
theorem rget_c (A : Option Addr) (c : Nat) (xs : List Nat) (w : World) (ha : BytesAt w w.heap.size A xs) (hc : xs.length ≤ c) (hl : c ≤ 9223372036854775807) :
    Calls Tryz.prog 107 #[.slice A xs.length c] w (RGetPost w xs) := by
  have HA := hid ha
  clear ha
  obtain ⟨N, hN⟩ : ∃ N, N = min xs.length 10 := ⟨_, rfl⟩
  have HN := hid hN
  have hN1 : N ≤ xs.length := by omega
  have hN2 : N ≤ 10 := by omega
  have HNO := hid (show ∀ i : Nat, ¬ i < N → (i : Int) < xs.length → ¬ (i : Int) < 10 by omega)
  clear hN
  go_enter Tryz.func107, Tryz.ntmps107
  go_wp2_with fail
  go_loop [5, 6] (fun s5 s6 => ∃ (n : Int) (i : Nat), s5 = .int .u64 n ∧ s6 = .int .i64 ((i : Nat) : Int) ∧ i ≤ N ∧ 0 ≤ n ∧ n < 18446744073709551616 ∧ Hid ((∀ x ∈ xs.take i, 128 ≤ x) ∧ n = ((Vi.uv (xs.take i) : Nat) : Int) % 18446744073709551616)) (fun _ s6 => N - (intOf s6).toNat)
  case atStart => exact ⟨0, 0, rfl, rfl, Nat.zero_le _, by decide, by decide, hid ⟨by simp, by simp [Vi.uv]⟩⟩
  case round =>
    obtain ⟨n, i, rfl, rfl, hi, hn0, hn1, HR⟩ := hrel
    by_cases hlt : i < N
    · obtain ⟨ad, rfl, hb, hcell⟩ := HA.out.2 (by omega)
      have hx := hcell i (by omega)
      have hx256 := HA.out.lt i
      have f1 : (i : Int) < 10 := by omega
      have f2 : (i : Int) < xs.length := by omega
      clear hcell hb HNO
      obtain ⟨x, hxx⟩ : ∃ x, x = xs.getD i 0 := ⟨_, rfl⟩
      rw [← hxx] at hx hx256
      have HX := hid hxx
      clear hxx
      have f3 : 0 ≤ 7 * (i : Int) := by omega
      have HU := hid (show IntKind.u64.wrap (n + IntKind.u64.wrap ((x : Int) % 128 * 2 ^ (7 * i))) = ((Vi.uv (xs.take (i + 1)) : Nat) : Int) % 18446744073709551616 by
        rw [u64_put HR.out.2, Vi.uv_next (by omega), HX.out])
      by_cases hm : 128 ≤ x
      · go_wp2_with fail
        go_round
        case rel =>
          refine ⟨_, i + 1, rfl, by go_num, by omega, ?_, ?_, hid ⟨fun y hy => ?_, HU.out⟩⟩
          · rw [HU.out]; omega
          · rw [HU.out]; omega
          · rw [Vi.take_snoc (by omega)] at hy
            rcases List.mem_append.1 hy with hy | hy
            · exact HR.out.1 y hy
            · have := HX.out
              have : y = xs.getD i 0 := by simpa using hy
              omega
        case measure => simp [intOf]; omega
      · have HCut := hid (show Vi.cut 10 xs = some (xs.take (i + 1)) from Vi.cut_at 10 xs i HR.out.1 (by omega) (by omega) (by
          have := HX.out
          rw [List.getD_eq_getElem?_getD, List.getElem?_eq_getElem (show i < xs.length by omega)] at this
          simp at this; omega))
        have hlen : (xs.take (i + 1)).length = i + 1 := by rw [List.length_take]; omega
        have HV : Hid (Vi.I64 (Vi.val (xs.take (i + 1)))) := hid (Vi.wrap64_bounds _)
        have HXC := hid (show ∀ W, Grew w W → (convert 26 9 (.slice (some ad) (i + 1) c)).run Tryz.prog W = .ok (.string (strOf (xs.take (i + 1)))) W from fun W hg => by
          have := conv_at (P := Tryz.prog) Tryz.underlying26 Tryz.underlying5 Tryz.underlying9 c ((NumsAt.of_bytes (HA.out.grew hg)).take (i + 1)) (fun y hy => HA.out.1 y (List.mem_of_mem_take hy))
          rwa [hlen] at this)
        have HEQ := hid (show strOf (Vi.enc (Vi.val (xs.take (i + 1)))) = strOf (xs.take (i + 1)) ↔ Vi.enc (Vi.val (xs.take (i + 1))) = xs.take (i + 1) from ⟨fun h => strOf_inj (Vi.enc_byte _) (fun y hy => HA.out.1 y (List.mem_of_mem_take hy)) h, fun h => by rw [h]⟩)
        have HV1 : Hid (x < 64 → wrap64 (IntKind.u64.wrap (n + IntKind.u64.wrap ((x : Int) % 128 * 2 ^ (7 * i)))) = Vi.val (xs.take (i + 1))) := hid (fun h => by rw [HU.out, Vi.val_low (by omega) (by rw [← HX.out]; exact h)])
        have HV2 : Hid (64 ≤ x → wrap64 (IntKind.u64.wrap (IntKind.u64.wrap (n + IntKind.u64.wrap ((x : Int) % 128 * 2 ^ (7 * i))) - IntKind.u64.wrap (128 * 2 ^ (7 * i)))) = Vi.val (xs.take (i + 1))) := hid (fun h => by rw [HU.out, Vi.val_sub (by omega) (by rw [← HX.out]; exact h) (by rw [← HX.out]; omega)])
        have HV3 : Hid (64 ≤ x → i = 9 → wrap64 (IntKind.u64.wrap (n + IntKind.u64.wrap ((x : Int) % 128 * 2 ^ (7 * i)))) = Vi.val (xs.take (i + 1))) := hid (fun h h9 => by
          rw [HU.out]
          subst h9
          exact Vi.val_nine (by omega) (by rw [← HX.out]; exact h) (by rw [← HX.out]; omega))
        have HI := hid (show i + 1 ≤ c ∧ i + 1 ≤ xs.length by omega)
        clear HU
        rcases (by omega : x < 64 ∨ (64 ≤ x ∧ i < 9) ∨ (64 ≤ x ∧ i = 9)) with hs | ⟨hs, h9⟩ | ⟨hs, h9⟩
        all_goals
          try (have h9' : (i : Int) < 9 := by omega)
          try (have h9' : ¬ (i : Int) < 9 := by omega)
          try (have H9 := hid h9; clear h9)
          go_wp2_with fail
          first
            | rw [HV2.out hs]
            | rw [HV3.out hs H9.out]
            | rw [HV1.out (by omega)]
          clear HV1 HV2 HV3
          generalize hVE : Vi.val (xs.take (i + 1)) = V at *
          have HVE := hid hVE
          clear hVE
          have g1 : (i : Int) + 1 ≤ c := by omega
          have hcx1 := HXC.out w.drew (Grew.refl _).drew
          have hcx2 := HXC.out w (Grew.refl _)
          have HXY := fun y : After w => HXC.out y.w y.grew
          have g2 : IntKind.i64.wrap ((i : Int) + 1) = (i : Int) + 1 := IntWalk.i64_in _ (by omega)
          have g3 : 0 ≤ (i : Int) + 1 := by omega
          have g4 : ((i : Int) + 1).toNat = i + 1 := by omega
          have g5 : ¬ (c : Int) < (i : Int) + 1 := by omega
          have RP := hid (fun W : World => show Calls Tryz.prog 68 #[.slice none 0 0, .int .i64 V] W (PutPost W [] V) from rput_c none 0 [] V W (NumsAt.nil _ _ _ _) HV.out (by simp))
          go_region_with ((go_at_call 68; ((with_reducible refine (RP.out _).mono ?_); rintro e w3 ⟨A3, c3, L3, rfl, hO3, hL3, hG3⟩); have hc3 := conv_own (P := Tryz.prog) Tryz.underlying26 Tryz.underlying5 Tryz.underlying9 hO3 (by rw [hL3, List.nil_append]; exact (Vi.enc_len V).1); rw [show strOf L3 = strOf (Vi.enc V) by rw [hL3]; rfl] at hc3; clear hL3 hO3; obtain ⟨y3, rfl⟩ := Grew.trans (show Grew w _ by first | exact Grew.refl _ | exact (Grew.refl _).drew) hG3))
          all_goals
            clear hcx1 hcx2 HXY g2 g3 g4 g5 hc3 RP hG3 hx hlen HXC
            generalize strOf (Vi.enc V) = s3 at *
            generalize strOf (xs.take (i + 1)) = s4 at *
            generalize hz : (s3.toList == s4.toList) = z at *
            rw [str_beq] at hz
            have HZ := hid hz
            clear hz
            cases z
            · have heq : Vi.enc V ≠ xs.take (i + 1) := fun h => (of_decide_eq_false HZ.out) (HEQ.out.2 h)
              have HGL := hid (show Vi.getL xs = [] from Vi.getL_no HCut.out (by rw [HVE.out]; exact heq))
              have HG := hid (show Vi.getN xs = 0 ∧ (Vi.getL xs).length = 0 ∧ Vi.getE xs = 2 by
                unfold Vi.getN Vi.getE
                rw [HGL.out]
                exact ⟨rfl, rfl, rfl⟩)
              clear heq HGL
              go_wp2_with fail
              go_ret3
              exact ⟨by rw [HG.out.1, HG.out.2.1, HG.out.2.2]; rfl, y3.grew⟩
            · have heq : Vi.enc V = xs.take (i + 1) := HEQ.out.1 (of_decide_eq_true HZ.out)
              have HGL := hid (show Vi.getL xs = xs.take (i + 1) from Vi.getL_yes HCut.out (by rw [HVE.out]; exact heq))
              have HG := hid (show Vi.getN xs = V ∧ (Vi.getL xs).length = i + 1 ∧ Vi.getE xs = 0 by
                have hne : xs.take (i + 1) ≠ [] := by rw [← heq]; exact Vi.enc_ne V
                unfold Vi.getN Vi.getE
                rw [HGL.out, if_neg hne, if_neg hne, HVE.out, List.length_take]
                exact ⟨rfl, by have := HI.out; omega, rfl⟩)
              clear heq HGL
              go_wp2_with fail
              go_ret3
              exact ⟨by rw [HG.out.1, HG.out.2.1, HG.out.2.2]; rfl, y3.grew⟩
    · obtain rfl : i = N := by omega
      have HNI := hid (HNO.out i hlt)
      have HGL := hid (show Vi.getL xs = [] from Vi.getL_none (Vi.cut_no 10 xs (by
        rw [show xs.take 10 = xs.take i by rw [List.take_eq_take_iff]; have := HN.out; omega]
        exact HR.out.1)))
      have HG := hid (show Vi.getN xs = 0 ∧ (Vi.getL xs).length = 0 ∧ Vi.getE xs = 2 by
        unfold Vi.getN Vi.getE
        rw [HGL.out]
        exact ⟨rfl, rfl, rfl⟩)
      clear HNO HGL HR
      by_cases f1 : (i : Int) < xs.length
      all_goals
        first
          | (have f2 : ¬ (i : Int) < 10 := by have := HNI.out f1; omega)
          | (have f2 : True := trivial)
        go_wp2_with fail
        go_ret3
        exact ⟨by rw [HG.out.1, HG.out.2.1, HG.out.2.2]; rfl, Grew.refl _⟩
end Go.Proofs.YtjdgcgpidhljpaaGreatDoor

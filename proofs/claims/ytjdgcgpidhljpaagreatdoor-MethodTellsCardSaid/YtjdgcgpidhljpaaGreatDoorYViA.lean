/- Parts of elder texts that this layer needs, joined: XVi1 XVi2 XVi3 XLawNum4 XVi4 XBack04 XList04. -/
import Derived.Test.YtjdgcgpidhljpaaGreatDoorProg
import Derived.Test.YtjdgcgpidhljpaaGreatDoorYBase
import Derived.Test.YtjdgcgpidhljpaaGreatDoorYViM
import Derived.Laws.MakeOwn
import Derived.Deep.DeepCutAuto
import Derived.Test.YtjdgcgpidhljpaaGreatDoorYNum
import Derived.Test.YtjdgcgpidhljpaaGreatDoorShelf
import Derived.Laws.BytesArg
namespace Go.Proofs.YtjdgcgpidhljpaaGreatDoor
open Go.RowKit

theorem v_u8 : (Tryz.prog.info? 5).map (fun i => (i.zero, i.size, i.bytes)) = some (some (.int .u8 0), 1, 1) := by kernel_rfl

/-- 'make([]byte, 0, n)'. -/
theorem make_roomV {P : Program} {t e : TypeId} (ht : P.underlying t = some (.slice e)) (he : (P.info? e).map (fun i => (i.zero, i.size, i.bytes)) = some (some (.int .u8 0), 1, 1))
    (n : Nat) (hn : n ≤ 281474976710656) {w0 W : World} (hg : Grew w0 W) : ∃ w', (Instr.makeSlice t (.int .i64 0) (.int .i64 n)).run P W = .ok (.slice (some ⟨W.heap.size, 0, none⟩) 0 n) w' ∧ OwnNums .u8 w0 w' e (some ⟨W.heap.size, 0, none⟩) n [] ∧ Grew w0 w' := by
  obtain ⟨i, hi, hz0, hz1, hz2⟩ := info_parts he
  have hr := run_make (P := P) W t e i (.int .u8 0) ht hi hz0 .i64 .i64 0 n (Int.le_refl _) (by omega) (by rw [hz2]; omega) (by omega)
  simp only [Int.toNat_zero, Int.toNat_natCast] at hr
  refine ⟨_, hr, ?_, hg.alloc _⟩
  have := World.ownsRow_made (base := w0.heap.size) (e := e) (size := 1) W (madeCells (Value.int IntKind.u8 0).cells (n * i.size)) n hg.below.size (by simp only [maxLen]; omega) (by rw [size_madeCells, hz1])
  exact this

theorem put_u8 {m x : Int} (h : x = m % 128) : IntKind.u8.wrap x = (((m % 128).toNat : Nat) : Int) := by
  rw [IntKind.wrap_u8', h]; omega
theorem put_more {m x : Int} (h : x = m % 128 + 128) : IntKind.u8.wrap x = (((m % 128 + 128).toNat : Nat) : Int) := by
  rw [IntKind.wrap_u8', h]; omega

def PutPost (w : World) (xs : List Nat) (n : Int) (e : Ending) (w' : World) : Prop :=
  ∃ A' c' L, e = .returned (.slice A' L.length c') ∧ OwnNums .u8 w w' 5 A' c' L ∧ L = xs ++ Vi.enc n ∧ Grew w w'

set_option maxRecDepth 100000 in
set_option maxHeartbeats 1000000 in
theorem put_c (A : Option Addr) (c : Nat) (xs : List Nat) (n : Int) (w : World) (ha : NumsAt .u8 w w.heap.size A xs) (hn : Vi.I64 n) (hl : xs.length ≤ 1000000000000) :
    Calls Tryz.prog 66 #[.slice A xs.length c, .int .i64 n] w (PutPost w xs n) := by
  have HA := hid ha
  have HF := hid (Vi.fits_nine hn)
  obtain ⟨hn1, hn2⟩ := hn
  clear ha
  obtain ⟨W1, hmk, hO1, hG1⟩ := make_roomV Tryz.underlying26 v_u8 (xs.length + 10) (by omega) (Grew.refl w)
  have hM : (((xs.length + 10 : Nat) : Nat) : Int) = (xs.length : Int) + 10 := by omega
  rw [hM] at hmk
  clear hM
  go_enter Tryz.func66, Tryz.ntmps66
  go_wp2_with (at_builtin; refine wpList_catM .u8 1 w W1 rfl _ _ 26 5 rfl Tryz.underlying26 v_u8 hG1 _ _ [] rfl hO1 A c xs rfl (HA.out.grew hG1) (by simp; omega) (by simp; omega) ?_; rintro A1 c1 M W2 HM hO2 hG2)
  have HM2 := hid (show M = xs by rw [HM.out]; rfl)
  clear HM hO1 hG1 hmk
  go_loopg [1, 5] 9 (fun gf s1 s5 wx => ∃ (m : Int) (G : Option Addr) (h : Nat) (L : List Nat), s1 = .int .i64 m ∧ s5 = .slice G L.length h ∧ OwnNums .u8 w wx 5 G h L ∧ Grew w wx ∧ -9223372036854775808 ≤ m ∧ m ≤ 9223372036854775807 ∧ L.length + gf ≤ xs.length + 9 ∧ Hid (xs ++ Vi.enc n = L ++ Vi.encF gf m ∧ Vi.Fits gf m))
  case atStart => exact ⟨n, A1, c1, M, rfl, rfl, hO2, hG2, hn1, hn2, by rw [HM2.out]; omega, hid ⟨by rw [HM2.out]; rfl, HF.out⟩⟩
  case round =>
    clear hO2 hG2 HM2 HF hn1 hn2 HA
    obtain ⟨m, G, h, L, rfl, rfl, hown, hg, hm1, hm2, hL, HE⟩ := hrel
    by_cases hlow : -64 ≤ m ∧ m < 64
    · obtain ⟨hl1, hl2⟩ := hlow
      have e1 := hid (and_127 m)
      go_wp2_with (at_builtin; refine wpList_push .u8 1 w wr rfl _ _ 26 5 rfl Tryz.underlying26 v_u8 hg G h L rfl hown (m % 128).toNat _ rfl rfl _ (by exact congrArg _ (put_u8 e1.out)) (by omega) (by omega) ?_; rintro A2 c2 W3 hO3 hG3)
      go_ret
      exact ⟨A2, c2, L ++ [(m % 128).toNat], by simp, hO3, by rw [HE.out.1, Vi.encF_low _ ⟨hl1, hl2⟩], hG3⟩
    · obtain ⟨gf, rfl⟩ : ∃ gf, gk = gf + 1 := by
        cases gk with
        | zero => exact absurd (Vi.fits_zero.1 HE.out.2) hlow
        | succ gf => exact ⟨gf, rfl⟩
      have HE2 := hid (show xs ++ Vi.enc n = (L ++ [(m % 128 + 128).toNat]) ++ Vi.encF gf (m / 128) ∧ Vi.Fits gf (m / 128) from ⟨by rw [HE.out.1, Vi.encF_high _ hlow, List.append_assoc]; rfl, Vi.fits_succ HE.out.2⟩)
      have e1 := hid (and_127 m)
      have e2 := hid (show bits .or .i64 (bits .and .i64 m 127) 128 = m % 128 + 128 by rw [and_127]; exact or_128 (by omega) (by omega))
      by_cases h1 : m < -64
      all_goals
        have h2 : Hid (¬ m < -64 → 64 ≤ m) := hid (fun h => by omega)
        try (have h3 := h2.out h1)
        go_wp2_with (at_builtin; refine wpList_pushK .u8 1 w wr rfl _ _ 26 5 rfl Tryz.underlying26 v_u8 hg G h L rfl hown (m % 128 + 128).toNat _ rfl rfl _ (by exact congrArg _ (put_more e2.out)) (by omega) (by omega) ?_; rintro A2 c2 M3 W3 HM3 hO3 hG3 _)
        go_roundg gf
        case rel => exact ⟨m / 128, A2, c2, M3, rfl, rfl, hO3, hG3, by omega, by omega, by rw [HM3.out, List.length_append, List.length_cons, List.length_nil]; omega, hid (by rw [HM3.out]; exact HE2.out)⟩
        case measure => omega
end Go.Proofs.YtjdgcgpidhljpaaGreatDoor
namespace Go.Proofs.YtjdgcgpidhljpaaGreatDoor
open Go.RowKit

theorem wrap64_fit {n : Int} (h : -9223372036854775808 ≤ n ∧ n ≤ 9223372036854775807) : wrap64 n = n := IntWalk.wrap64_in n h
theorem test_128 {x : Nat} (h : x < 256) (hm : 128 ≤ x) : (bits .and .u8 (x : Int) 128 != 0) = true := by
  have e := u8_and_nat x 128 h (by decide)
  rw [show (((128 : Nat) : Nat) : Int) = 128 from rfl] at e
  rw [e, show (128 : Nat) = 2 ^ 7 from rfl, nat_bit]
  have : x / 2 ^ 7 % 2 = 1 := by omega
  rw [this]; rfl
theorem test_128n {x : Nat} (h : x < 256) (hm : ¬ 128 ≤ x) : (bits .and .u8 (x : Int) 128 != 0) = false := by
  have e := u8_and_nat x 128 h (by decide)
  rw [show (((128 : Nat) : Nat) : Int) = 128 from rfl] at e
  rw [e, show (128 : Nat) = 2 ^ 7 from rfl, nat_bit]
  have : x / 2 ^ 7 % 2 = 0 := by omega
  rw [this]; rfl
theorem test_64 {x : Nat} (h : x < 128) (hm : 64 ≤ x) : (bits .and .u8 (x : Int) 64 != 0) = true := by
  have e := u8_and_nat x 64 (by omega) (by decide)
  rw [show (((64 : Nat) : Nat) : Int) = 64 from rfl] at e
  rw [e, show (64 : Nat) = 2 ^ 6 from rfl, nat_bit]
  have : x / 2 ^ 6 % 2 = 1 := by omega
  rw [this]; rfl
theorem test_64n {x : Nat} (h : x < 128) (hm : ¬ 64 ≤ x) : (bits .and .u8 (x : Int) 64 != 0) = false := by
  have e := u8_and_nat x 64 (by omega) (by decide)
  rw [show (((64 : Nat) : Nat) : Int) = 64 from rfl] at e
  rw [e, show (64 : Nat) = 2 ^ 6 from rfl, nat_bit]
  have : x / 2 ^ 6 % 2 = 0 := by omega
  rw [this]; rfl
def ValuePost (w : World) (xs : List Nat) (e : Ending) (w' : World) : Prop :=
  ∃ v, e = .returned (.int .i64 v) ∧ Vi.I64 v ∧ (∀ l, Vi.cut 10 xs = some l → v = Vi.val l) ∧ w' = w

set_option maxRecDepth 100000 in
set_option maxHeartbeats 1000000 in
theorem value_c (A : Option Addr) (c : Nat) (xs : List Nat) (w : World) (ha : BytesAt w w.heap.size A xs) (hc : xs.length ≤ c) (hl : c ≤ 9223372036854775807) :
    Calls Tryz.prog 105 #[.slice A xs.length c] w (ValuePost w xs) := by
  have HA := hid ha
  clear ha
  obtain ⟨N, hN⟩ : ∃ N, N = min xs.length 10 := ⟨_, rfl⟩
  have HN := hid hN
  have hN1 : N ≤ xs.length := by omega
  have hN2 : N ≤ 10 := by omega
  rcases Nat.lt_or_ge 10 xs.length with h10 | h10
  all_goals
    first
      | (have h10' : ¬ (xs.length : Int) ≤ 10 := by omega
         have HB := hid (show ∀ i : Nat, ¬ i < N → ¬ (i : Int) < 10 by omega))
      | (have h10' : (xs.length : Int) ≤ 10 := by omega
         have HB := hid (show ∀ i : Nat, ¬ i < N → ¬ (i : Int) < xs.length by omega))
    clear hN
    go_enter Tryz.func105, Tryz.ntmps105
    go_wp2_with fail
    try rw [show (max (10 : Int) 0) = 10 from rfl]
    go_loop [3, 12] (fun s3 s12 => ∃ (n : Int) (i : Nat), s3 = .int .i64 n ∧ s12 = .int .i64 ((i : Nat) : Int) ∧ i ≤ N ∧ Hid (Vi.Run xs i n)) (fun _ s12 => N - (intOf s12).toNat)
    case atStart => exact ⟨0, 0, rfl, rfl, Nat.zero_le _, hid (Vi.Run.start xs)⟩
    case round =>
      obtain ⟨n, i, rfl, rfl, hi, HR⟩ := hrel
      by_cases hlt : i < N
      · obtain ⟨ad, rfl, hb, hcell⟩ := HA.out.2 (by omega)
        have hx := hcell i (by omega)
        have hx256 := HA.out.lt i
        have f1 : (i : Int) < 10 := by omega
        have f2 : (i : Int) < xs.length := by omega
        clear hcell hb HB
        have e1 : bits .and .u8 ((xs.getD i 0 : Nat) : Int) 127 = ((xs.getD i 0 % 128 : Nat) : Int) := by
          have := u8_and_nat (xs.getD i 0) 127 hx256 (by decide)
          rw [nat_mask7] at this; exact this
        have e2 := hid (show bits .or .i64 n (wrap64 (wrap64 (bits .and .u8 ((xs.getD i 0 : Nat) : Int) 127) * 2 ^ (7 * i))) = wrap64 ((Vi.uv (xs.take (i + 1)) : Nat) : Int) by
          rw [e1, wrap64_fit (n := ((xs.getD i 0 % 128 : Nat) : Int)) (by omega)]
          exact HR.out.put (by omega) (by omega))
        clear e1
        obtain ⟨x, hxx⟩ : ∃ x, x = xs.getD i 0 := ⟨_, rfl⟩
        rw [← hxx] at hx hx256 e2
        have HX := hid hxx
        clear hxx
        have f3 : 0 ≤ 7 * ((i : Int) + 1) := by omega
        by_cases hm : 128 ≤ x
        · have t1 := test_128 hx256 hm
          go_wp2_with fail
          go_round
          case rel => exact ⟨_, i + 1, rfl, by go_num, by omega, hid (by rw [e2.out]; exact HR.out.more (by omega) (by rw [← HX.out]; exact hm))⟩
          case measure => simp [intOf]; omega
        · have t1 := test_128n hx256 hm
          by_cases hn : 64 ≤ x
          · have t2 := test_64 (by omega) hn
            have HH := hid (HR.out.high (by omega) (by omega) (by rw [← HX.out]; exact hn) (by rw [← HX.out]; omega))
            go_wp2_with fail
            go_ret
            refine ⟨_, rfl, ?_, fun l hl => ?_, rfl⟩
            · rw [e2.out, HH.out.2]; exact Vi.wrap64_bounds _
            · rw [e2.out, HH.out.2]
              rw [HH.out.1] at hl
              rw [Option.some.inj hl]
          · have t2 := test_64n (by omega) hn
            have HH := hid (HR.out.low (by omega) (by omega) (by rw [← HX.out]; omega))
            go_wp2_with fail
            go_ret
            refine ⟨_, rfl, ?_, fun l hl => ?_, rfl⟩
            · rw [e2.out]; exact Vi.wrap64_bounds _
            · rw [e2.out, HH.out.2]
              rw [HH.out.1] at hl
              rw [Option.some.inj hl]
      · have hB := HB.out i hlt
        have HE := hid (show Vi.cut 10 xs = none from Vi.Run.none (n := n) (by rw [← HN.out, show N = i by omega]; exact HR.out))
        go_wp2_with fail
        go_ret
        exact ⟨n, rfl, ⟨HR.out.2.2.1, HR.out.2.2.2⟩, fun l hl => (by rw [HE.out] at hl; cases hl), rfl⟩
end Go.Proofs.YtjdgcgpidhljpaaGreatDoor
namespace Go.Proofs.YtjdgcgpidhljpaaGreatDoor
open Go.RowKit

theorem bytesIn4 (w : World) (A : Option Addr) (up : List Nat) (h : NumsAt .u8 w w.heap.size A up) : Lib.BytesIn w A up.length (up.map (fun x : Nat => (x : Int))) := by
  rcases Nat.eq_zero_or_pos up.length with h0 | h0
  · obtain rfl := List.eq_nil_of_length_eq_zero h0
    exact Lib.BytesIn.nil w A _
  · obtain ⟨ad, rfl, _, hc⟩ := h h0
    refine Lib.BytesIn.of_cells (fun i hi => ?_)
    rw [hc i hi]
    simp [List.getD_eq_getElem?_getD, List.getElem?_eq_getElem hi]
theorem hasPrefix_nats : ∀ (xs ys : List Nat), (∀ x ∈ xs, x < 256) → (∀ x ∈ ys, x < 256) →
    Lib.hasPrefix (Lib.bytesOf (xs.map (fun x : Nat => (x : Int)))) (Lib.bytesOf (ys.map (fun x : Nat => (x : Int)))) = ys.isPrefixOf xs := by
  have e : ∀ l : List Nat, Lib.bytesOf (l.map (fun x : Nat => (x : Int))) = l.map UInt8.ofNat := by
    intro l; simp [Lib.bytesOf]
  intro xs ys
  rw [e, e]
  unfold Lib.hasPrefix
  induction ys generalizing xs with
  | nil => intros; simp
  | cons y ys ih =>
    intro hx hy
    cases xs with
    | nil => simp
    | cons x xs =>
      have h1 := ih xs (fun z hz => hx z (by simp [hz])) (fun z hz => hy z (by simp [hz]))
      have hx1 := hx x (by simp)
      have hy1 := hy y (by simp)
      have h2 : (UInt8.ofNat y == UInt8.ofNat x) = (y == x) := by
        rw [Bool.eq_iff_iff, beq_iff_eq, beq_iff_eq]
        constructor
        · intro h
          have := congrArg UInt8.toNat h
          simp at this
          omega
        · rintro rfl; rfl
      simp only [List.map_cons, List.isPrefixOf, h1, h2]

def GetPost (w : World) (xs : List Nat) (e : Ending) (w' : World) : Prop :=
  e = .returned (.tuple #[.int .i64 (Vi.getN xs), .int .i64 (((Vi.getL xs).length : Nat) : Int), errVal (Vi.getE xs)]) ∧ Grew w w'

set_option maxRecDepth 100000 in
set_option maxHeartbeats 1000000 in
theorem vget_c (A : Option Addr) (c : Nat) (xs : List Nat) (w : World) (ha : BytesAt w w.heap.size A xs) (hc : xs.length ≤ c) (hl : c ≤ 9223372036854775807) :
    Calls Tryz.prog 70 #[.slice A xs.length c] w (GetPost w xs) := by
  have HA := hid ha
  have HV := hid (value_c A c xs w ha hc hl)
  have HC := hid (show ∀ (w1 : World) (B : Option Addr) (d : Nat) (ys : List Nat), Grew w w1 → NumsAt .u8 w1 w1.heap.size B ys → (∀ x ∈ ys, x < 256) → Calls Tryz.prog 106 #[.slice A xs.length c, .slice B ys.length d] w1 fun e w' => e = .returned (.bool (ys.isPrefixOf xs)) ∧ w' = w1 from fun w1 B d ys hg hb hy => by
    have := Tryz.bytes_HasPrefix_all A B xs.length c ys.length d _ _ w1 (by simp) (by simp) hc (bytesIn4 w1 A xs (NumsAt.of_bytes (ha.grew hg))) (bytesIn4 w1 B ys hb)
    rwa [hasPrefix_nats xs ys ha.1 hy] at this)
  clear ha hc hl
  go_enter Tryz.func70, Tryz.ntmps70
  go_wp2_with fail
  refine HV.out.mono ?_
  rintro e w1 ⟨v, rfl, hv, hcut, rfl⟩
  have HP := hid (put_c none 0 [] v w1 (NumsAt.nil _ _ _ _) hv (by simp))
  rw [List.length_nil] at HP
  have HI := hid hv
  have HU := hid hcut
  clear hv hcut HV
  go_wp2_with fail
  refine HP.out.mono ?_
  rintro e w2 ⟨B, d, L, rfl, hO, hL, y, rfl⟩
  have HL := hid (show L = Vi.enc v by rw [hL]; rfl)
  have HB := hid (HC.out y.w B d L y.grew hO.at (by rw [HL.out]; exact Vi.enc_byte v))
  clear hL HP HC hO
  cases hp : L.isPrefixOf xs
  · have HX := hid (show Vi.getL xs = [] from Vi.getL_lost HU.out (fun h => by rw [← HL.out, ← List.isPrefixOf_iff_prefix, hp] at h; cases h))
    rw [hp] at HB
    clear hp
    go_wp2_with fail
    refine HB.out.mono ?_
    rintro e w3 ⟨rfl, rfl⟩
    go_wp2_with fail
    go_ret3
    exact ⟨by simp [Vi.getN, Vi.getE, HX.out, errVal], y.grew⟩
  · have HX := hid (show Vi.getL xs = L by rw [HL.out]; exact Vi.getL_found HI.out (by rw [← HL.out, ← List.isPrefixOf_iff_prefix, hp]))
    rw [hp] at HB
    clear hp
    go_wp2_with fail
    refine HB.out.mono ?_
    rintro e w3 ⟨rfl, rfl⟩
    go_wp2_with fail
    go_ret3
    have hne : L ≠ [] := by rw [HL.out]; exact Vi.enc_ne v
    exact ⟨by simp only [Vi.getN, Vi.getE, HX.out, if_neg hne]; rw [HL.out, Vi.val_enc HI.out]; rfl, y.grew⟩
end Go.Proofs.YtjdgcgpidhljpaaGreatDoor
namespace Go.Proofs.YtjdgcgpidhljpaaGreatDoor
open Go.RowKit

/-- The string of bytes. -/
def strOf (l : List Nat) : ByteArray := ⟨(l.map UInt8.ofNat).toArray⟩
theorem strOf_inj {a b : List Nat} (ha : ∀ x ∈ a, x < 256) (hb : ∀ x ∈ b, x < 256) (h : strOf a = strOf b) : a = b := by
  have h1 := congrArg (fun s => s.data.toList.map UInt8.toNat) h
  simp only [strOf, List.map_map] at h1
  have e2 : ∀ l : List Nat, (∀ x ∈ l, x < 256) → l.map (UInt8.toNat ∘ UInt8.ofNat) = l := by
    intro l hl
    conv => rhs; rw [← List.map_id l]
    apply List.map_congr_left
    intro x hx
    have := hl x hx
    simp
    omega
  rwa [e2 a ha, e2 b hb] at h1
theorem conv_own {P : Program} {t e s : TypeId} (ht : P.underlying t = some (.slice e)) (he : P.underlying e = some (.int .u8)) (hs : P.underlying s = some .string) {w0 w : World} {u : TypeId} {A : Option Addr} {c : Nat} {xs : List Nat} (h : OwnNums .u8 w0 w u A c xs) (hx : 0 < xs.length) :
    (convert t s (.slice A xs.length c)).run P w = .ok (.string (strOf xs)) w := by
  rcases h.cases with ⟨_, _, rfl⟩ | ⟨g, rfl, _, _, hcell, _, _⟩
  · simp at hx
  · have := run_convert_bytes_arg (P := P) w t e ht he g 0 xs.length c (xs.map fun x : Nat => (x : Int)) (by simp) (fun j hj => by rw [Nat.zero_add, hcell j hj]; simp [List.getD_eq_getElem?_getD, List.getElem?_eq_getElem hj]) s hs
    rw [this]
    congr 2
    simp [strOfNums, strOf]

end Go.Proofs.YtjdgcgpidhljpaaGreatDoor
namespace Go.Proofs.YtjdgcgpidhljpaaGreatDoor
open Go.RowKit

theorem str_beq (s t : ByteArray) : (s.toList == t.toList) = decide (s = t) := by
  rw [Bool.eq_iff_iff, beq_iff_eq, decide_eq_true_iff, ByteArray.toList_eq, ByteArray.toList_eq]
  constructor
  · intro h
    cases s; cases t
    simp at h
    rw [h]
  · rintro rfl; rfl

end Go.Proofs.YtjdgcgpidhljpaaGreatDoor
namespace Go.Proofs.YtjdgcgpidhljpaaGreatDoor
open Go.RowKit

/-- 'l.length' ints from address 'A' on. -/
def IntsAt (w : World) (B : Nat) (A : Option Addr) (l : List Int) : Prop :=
  (∀ x ∈ l, Vi.I64 x) ∧ (0 < l.length → ∃ ad, A = some ad ∧ ad.block < B ∧ ∀ j, j < l.length → w.cell? (ad.add j) = some (.int .i64 (l.getD j 0)))
theorem IntsAt.grew {w w' : World} {A : Option Addr} {l : List Int} (h : IntsAt w w.heap.size A l) (hg : Grew w w') : IntsAt w' w'.heap.size A l := by
  refine ⟨h.1, fun hn => ?_⟩
  obtain ⟨ad, e, hb, hc⟩ := h.2 hn
  exact ⟨ad, e, Nat.lt_of_lt_of_le hb hg.below.size, fun j hj => by rw [hg.below.cell (by rw [block_add]; exact hb)]; exact hc j hj⟩
theorem IntsAt.i64 {w : World} {B : Nat} {A : Option Addr} {l : List Int} (h : IntsAt w B A l) (j : Nat) : Vi.I64 (l.getD j 0) := by
  rcases Nat.lt_or_ge j l.length with hj | hj
  · exact h.1 _ (by rw [List.getD_eq_getElem?_getD, List.getElem?_eq_getElem hj]; exact List.getElem_mem hj)
  · rw [List.getD_eq_getElem?_getD, List.getElem?_eq_none hj]; exact ⟨by decide, by decide⟩
/-- The bytes of numbers, one behind the other. -/
def encs (l : List Int) : List Nat := l.flatMap Vi.enc
theorem encs_snoc (l : List Int) (x : Int) : encs (l ++ [x]) = encs l ++ Vi.enc x := by simp [encs]
theorem encs_cons (l : List Int) (x : Int) : encs (x :: l) = Vi.enc x ++ encs l := by simp [encs]
theorem encs_len : ∀ (l : List Int), (encs l).length ≤ 10 * l.length
  | [] => by simp [encs]
  | x :: r => by
    have := encs_len r
    have := (Vi.enc_len x).2
    rw [encs_cons, List.length_append, List.length_cons]
    omega
theorem encs_byte (l : List Int) : ∀ x ∈ encs l, x < 256 := by
  intro x hx
  obtain ⟨n, _, h⟩ := List.mem_flatMap.1 hx
  exact Vi.enc_byte n x h
theorem ints_take {l : List Int} {i : Nat} (h : i < l.length) : l.take (i + 1) = l.take i ++ [l.getD i 0] := by
  rw [List.take_succ_eq_append_getElem h]
  simp [List.getD_eq_getElem?_getD, List.getElem?_eq_getElem h]
/-- What stands behind the first 'k' bytes. -/
theorem NumsAt.drop {k : IntKind} {w : World} {B : Nat} {ad : Addr} {xs : List Nat} (h : NumsAt k w B (some ad) xs) (n : Nat) : NumsAt k w B (some (ad.add n)) (xs.drop n) := by
  intro hn
  rw [List.length_drop] at hn
  obtain ⟨ad', e, hb, hc⟩ := h (by omega)
  obtain rfl := Option.some.inj e
  refine ⟨_, rfl, by rw [block_add]; exact hb, fun j hj => ?_⟩
  rw [List.length_drop] at hj
  rw [add_add, hc (n + j) (by omega)]
  simp [List.getD_eq_getElem?_getD]

end Go.Proofs.YtjdgcgpidhljpaaGreatDoor

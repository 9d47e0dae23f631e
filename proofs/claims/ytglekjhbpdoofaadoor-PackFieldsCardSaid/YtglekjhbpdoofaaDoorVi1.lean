/- The walks of package varint: Put, and the document's own. -/
import Derived.Test.YtglekjhbpdoofaaDoorProg
import Derived.Test.YtglekjhbpdoofaaDoorOwn2
import Derived.Test.YtglekjhbpdoofaaDoorViQ
import Derived.Laws.MakeOwn
import Derived.Deep.DeepCutAuto
namespace Go.Proofs.YtglekjhbpdoofaaDoor
open Go.RowKit

theorem v_u8 : (Tryd.prog.info? 5).map (fun i => (i.zero, i.size, i.bytes)) = some (some (.int .u8 0), 1, 1) := by kernel_rfl

/-- 'make([]byte, 0, n)'. -/
theorem make_room {P : Program} {t e : TypeId} (ht : P.underlying t = some (.slice e)) (he : (P.info? e).map (fun i => (i.zero, i.size, i.bytes)) = some (some (.int .u8 0), 1, 1))
    (n : Nat) (hn : n ≤ 281474976710656) {w0 W : World} (hg : Grew w0 W) : ∃ w', (Instr.makeSlice t (.int .i64 0) (.int .i64 n)).run P W = .ok (.slice (some ⟨W.heap.size, 0, none⟩) 0 n) w' ∧ OwnNums .u8 w0 w' e (some ⟨W.heap.size, 0, none⟩) n [] ∧ Grew w0 w' := by
  obtain ⟨i, hi, hz0, hz1, hz2⟩ := info_parts he
  have hr := run_make (P := P) W t e i (.int .u8 0) ht hi hz0 .i64 .i64 0 n (Int.le_refl _) (by omega) (by rw [hz2]; omega) (by omega)
  simp only [Int.toNat_zero, Int.toNat_natCast] at hr
  refine ⟨_, hr, ?_, hg.alloc _⟩
  have := World.ownsRow_made (base := w0.heap.size) (e := e) (size := 1) W (madeCells (Value.int IntKind.u8 0).cells (n * i.size)) n hg.below.size (by simp only [maxLen]; omega) (by rw [size_madeCells, hz1])
  exact this

theorem put_u8 {m x : Int} (h : x = m % 128) : IntKind.u8.wrap x = (((m % 128).toNat : Nat) : Int) := by
  rw [IntKind.wrap_u8', h]; omega
theorem put_more {m x : Int} (h : x = m % 128 + 128) : IntKind.u8.wrap x = (((m % 128 + 128).toNat : Nat) : Int) := by
  rw [IntKind.wrap_u8', h]; omega

def PutPost (w : World) (xs : List Nat) (n : Int) (e : Ending) (w' : World) : Prop :=
  ∃ A' c' L, e = .returned (.slice A' L.length c') ∧ OwnNums .u8 w w' 5 A' c' L ∧ L = xs ++ Vi.enc n ∧ Grew w w'

set_option maxRecDepth 100000 in
set_option maxHeartbeats 1000000 in
theorem put_c (A : Option Addr) (c : Nat) (xs : List Nat) (n : Int) (w : World) (ha : NumsAt .u8 w w.heap.size A xs) (hn : Vi.I64 n) (hl : xs.length ≤ 1000000000000) :
    Calls Tryd.prog 32 #[.slice A xs.length c, .int .i64 n] w (PutPost w xs n) := by
  have HA := hid ha
  have HF := hid (Vi.fits_nine hn)
  obtain ⟨hn1, hn2⟩ := hn
  clear ha
  obtain ⟨W1, hmk, hO1, hG1⟩ := make_room Tryd.underlying23 v_u8 (xs.length + 10) (by omega) (Grew.refl w)
  have hM : (((xs.length + 10 : Nat) : Nat) : Int) = (xs.length : Int) + 10 := by omega
  rw [hM] at hmk
  clear hM
  go_enter Tryd.func32, Tryd.ntmps32
  go_wp2_with (at_builtin; refine wpList_catM .u8 1 w W1 rfl _ _ 23 5 rfl Tryd.underlying23 v_u8 hG1 _ _ [] rfl hO1 A c xs rfl (HA.out.grew hG1) (by simp; omega) (by simp; omega) ?_; rintro A1 c1 M W2 HM hO2 hG2)
  have HM2 := hid (show M = xs by rw [HM.out]; rfl)
  clear HM hO1 hG1 hmk
  go_loopg [1, 5] 9 (fun gf s1 s5 wx => ∃ (m : Int) (G : Option Addr) (h : Nat) (L : List Nat), s1 = .int .i64 m ∧ s5 = .slice G L.length h ∧ OwnNums .u8 w wx 5 G h L ∧ Grew w wx ∧ -9223372036854775808 ≤ m ∧ m ≤ 9223372036854775807 ∧ L.length + gf ≤ xs.length + 9 ∧ Hid (xs ++ Vi.enc n = L ++ Vi.encF gf m ∧ Vi.Fits gf m))
  case atStart => exact ⟨n, A1, c1, M, rfl, rfl, hO2, hG2, hn1, hn2, by rw [HM2.out]; omega, hid ⟨by rw [HM2.out]; rfl, HF.out⟩⟩
  case round =>
    clear hO2 hG2 HM2 HF hn1 hn2 HA
    obtain ⟨m, G, h, L, rfl, rfl, hown, hg, hm1, hm2, hL, HE⟩ := hrel
    by_cases hlow : -64 ≤ m ∧ m < 64
    · obtain ⟨hl1, hl2⟩ := hlow
      have e1 := hid (and_127 m)
      go_wp2_with (at_builtin; refine wpList_push .u8 1 w wr rfl _ _ 23 5 rfl Tryd.underlying23 v_u8 hg G h L rfl hown (m % 128).toNat _ rfl rfl _ (by exact congrArg _ (put_u8 e1.out)) (by omega) (by omega) ?_; rintro A2 c2 W3 hO3 hG3)
      go_ret
      exact ⟨A2, c2, L ++ [(m % 128).toNat], by simp, hO3, by rw [HE.out.1, Vi.encF_low _ ⟨hl1, hl2⟩], hG3⟩
    · obtain ⟨gf, rfl⟩ : ∃ gf, gk = gf + 1 := by
        cases gk with
        | zero => exact absurd (Vi.fits_zero.1 HE.out.2) hlow
        | succ gf => exact ⟨gf, rfl⟩
      have HE2 := hid (show xs ++ Vi.enc n = (L ++ [(m % 128 + 128).toNat]) ++ Vi.encF gf (m / 128) ∧ Vi.Fits gf (m / 128) from ⟨by rw [HE.out.1, Vi.encF_high _ hlow, List.append_assoc]; rfl, Vi.fits_succ HE.out.2⟩)
      have e1 := hid (and_127 m)
      have e2 := hid (show bits .or .i64 (bits .and .i64 m 127) 128 = m % 128 + 128 by rw [and_127]; exact or_128 (by omega) (by omega))
      by_cases h1 : m < -64
      all_goals
        have h2 : Hid (¬ m < -64 → 64 ≤ m) := hid (fun h => by omega)
        try (have h3 := h2.out h1)
        go_wp2_with (at_builtin; refine wpList_pushK .u8 1 w wr rfl _ _ 23 5 rfl Tryd.underlying23 v_u8 hg G h L rfl hown (m % 128 + 128).toNat _ rfl rfl _ (by exact congrArg _ (put_more e2.out)) (by omega) (by omega) ?_; rintro A2 c2 M3 W3 HM3 hO3 hG3 _)
        go_roundg gf
        case rel => exact ⟨m / 128, A2, c2, M3, rfl, rfl, hO3, hG3, by omega, by omega, by rw [HM3.out, List.length_append, List.length_cons, List.length_nil]; omega, hid (by rw [HM3.out]; exact HE2.out)⟩
        case measure => omega
end Go.Proofs.YtglekjhbpdoofaaDoor

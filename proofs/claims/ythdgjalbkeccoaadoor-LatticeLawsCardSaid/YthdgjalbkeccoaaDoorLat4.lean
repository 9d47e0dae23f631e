/- The walks of package lattice, fourth part: Same, Square, Chain. -/
import Derived.Test.YthdgjalbkeccoaaDoorLat3
namespace Go.Proofs.YthdgjalbkeccoaaDoor
open Go.RowKit

theorem bytesIn (w : World) (A : Option Addr) (up : List Nat) (h : BytesAt w w.heap.size A up) : Lib.BytesIn w A up.length (up.map (fun x : Nat => (x : Int))) := by
  rcases Nat.eq_zero_or_pos up.length with h0 | h0
  · obtain rfl := List.eq_nil_of_length_eq_zero h0
    exact Lib.BytesIn.nil w A _
  · obtain ⟨ad, rfl, _, hc⟩ := h.2 h0
    refine Lib.BytesIn.of_cells (fun i hi => ?_)
    rw [hc i hi]
    simp [List.getD_eq_getElem?_getD, List.getElem?_eq_getElem hi]

theorem bytesOf_beq (up vp : List Nat) (hu : ∀ x ∈ up, x < 256) (hv : ∀ x ∈ vp, x < 256) :
    (Lib.bytesOf (up.map (fun x : Nat => (x : Int))) == Lib.bytesOf (vp.map (fun x : Nat => (x : Int)))) = (up == vp) := by
  have e : ∀ l : List Nat, Lib.bytesOf (l.map (fun x : Nat => (x : Int))) = l.map UInt8.ofNat := by
    intro l; simp [Lib.bytesOf]
  rw [e, e, Bool.eq_iff_iff, beq_iff_eq, beq_iff_eq]
  constructor
  · intro h
    have h2 := congrArg (List.map UInt8.toNat) h
    rw [List.map_map, List.map_map] at h2
    have e2 : ∀ l : List Nat, (∀ x ∈ l, x < 256) → l.map (UInt8.toNat ∘ UInt8.ofNat) = l := by
      intro l hl
      conv => rhs; rw [← List.map_id l]
      apply List.map_congr_left
      intro x hx
      have := hl x hx
      simp
      omega
    rwa [e2 up hu, e2 vp hv] at h2
  · rintro rfl; rfl

theorem same_c (A B : Option Addr) (c d : Nat) (up vp : List Nat) (w : World) (h : BytesAt w w.heap.size A up) (k : BytesAt w w.heap.size B vp) :
    Calls Tryd.prog 17 #[.agg #[.slice A up.length c], .agg #[.slice B vp.length d]] w fun e w' => e = .returned (.bool (up == vp)) ∧ Grew w w' := by
  have h1 := hid (h.grew (((Grew.refl w).alloc (.cells #[.slice A up.length c] 25)).alloc (.cells #[.slice B vp.length d] 25)))
  have k1 := hid (k.grew (((Grew.refl w).alloc (.cells #[.slice A up.length c] 25)).alloc (.cells #[.slice B vp.length d] 25)))
  clear h k
  go_enter Tryd.func17, Tryd.ntmps17
  go_wp2_with fail
  refine (Tryd.bytes_Equal_all A B up.length c vp.length d (up.map (fun x : Nat => (x : Int))) (vp.map (fun x : Nat => (x : Int))) _ (by simp) (by simp) (bytesIn _ _ _ h1.out) (bytesIn _ _ _ k1.out)).mono ?_
  rw [bytesOf_beq up vp h1.out.1 k1.out.1]
  rintro e w' ⟨rfl, rfl⟩
  go_wp2_with fail
  go_ret
  exact ⟨rfl, ((Grew.refl _).alloc _).alloc _⟩

theorem square_c (w : World) :
    Calls Tryd.prog 19 #[] w fun e w' => ∃ g, e = .returned (.agg #[.slice (some ⟨g, 0, none⟩) 4 4]) ∧ BytesAt w' w'.heap.size (some ⟨g, 0, none⟩) [15, 10, 12, 8] ∧ Grew w w' := by
  go_enter Tryd.func19, Tryd.ntmps19
  go_wp2_with fail
  refine bodyPost_ret (v := .agg #[.slice (some ⟨w.heap.size + 1, 0, none⟩) 4 4]) ?_ rfl ⟨_, rfl, ?_, ?_⟩
  · simp [results, Tryd.results19, go_sem]
  · refine BytesAt.of_blk (t := 5) ?_ (by decide)
    have := Blk.new (w.alloc (.cells #[.slice (some ⟨w.heap.size + 1, 0, none⟩) 4 4] 25)) 5 (byteCells [15, 10, 12, 8])
    rw [World.size_alloc] at this; exact this
  · exact ((Grew.refl _).alloc _).alloc _

theorem chain_no (n : Int) (w : World) (h : n < 1 ∨ 8 < n) :
    Calls Tryd.prog 8 #[.int .i64 n] w fun e w' => e = .returned (.tuple #[.agg #[.slice none 0 0], errVal 1]) ∧ Grew w w' := by
  rcases h with h | h
  · go_enter Tryd.func8, Tryd.ntmps8
    go_wp2_with fail
    refine bodyPost_ret (v := .tuple #[.agg #[.slice none 0 0], errVal 1]) ?_ rfl ⟨rfl, ?_⟩
    · simp [results, Tryd.results8, go_sem, errVal]
    · exact (Grew.refl _).alloc _
  · have h' : ¬ n < 1 := by omega
    go_enter Tryd.func8, Tryd.ntmps8
    go_wp2_with fail
    refine bodyPost_ret (v := .tuple #[.agg #[.slice none 0 0], errVal 1]) ?_ rfl ⟨rfl, ?_⟩
    · simp [results, Tryd.results8, go_sem, errVal]
    · exact (Grew.refl _).alloc _

set_option maxHeartbeats 4000000 in
theorem chain_yes (n : Nat) (w : World) (h0 : 1 ≤ n) (h8 : n ≤ 8) :
    Calls Tryd.prog 8 #[.int .i64 n] w fun e w' => ∃ g, e = .returned (.tuple #[.agg #[.slice (some ⟨g, 0, none⟩) n n], errVal 0]) ∧ BytesAt w' w'.heap.size (some ⟨g, 0, none⟩) (La.chain n) ∧ Grew w w' := by
  have h0' : (1 : Int) ≤ (n : Int) := by omega
  have h8' : (n : Int) ≤ 8 := by omega
  have hmk := make_bytes Tryd.underlying23 info_u8 n (by omega)
  go_enter Tryd.func8, Tryd.ntmps8
  go_wp2_with fail
  clear hmk
  have hblk0 : Blk ((w.alloc (.cells #[.slice none 0 0] 25)).alloc (.cells (byteCells (List.replicate n 0)) 5)) (w.heap.size + 1) 5 (byteCells (La.rowsAt La.chainRow n 0 0)) := by
    rw [La.rowsAt_start _ _ rfl]
    simpa using Blk.new (w.alloc (.cells #[.slice none 0 0] 25)) 5 (byteCells (List.replicate n 0))
  have Hblk0 := hid hblk0
  clear hblk0
  go_loopw [19] (fun i wr => ∃ k : Nat, k ≤ n ∧ i = .int .i64 k ∧ Grew (w.alloc (.cells #[.slice none 0 0] 25)) wr ∧ Blk wr (w.heap.size + 1) 5 (byteCells (La.rowsAt La.chainRow n k k))) (fun i _ => n - (intOf i).toNat)
  case atStart => exact ⟨0, Nat.zero_le _, rfl, (Grew.refl _).alloc _, Hblk0.out⟩
  case round =>
    obtain ⟨k, hk, rfl, ⟨y, rfl⟩, hb⟩ := hrel
    have Hb := hid hb
    clear hb
    by_cases hlt : k < n
    · go_wp2_with fail
      go_loopw [6] (fun i wr => ∃ m : Nat, k ≤ m ∧ m ≤ n ∧ i = .int .i64 m ∧ Grew (w.alloc (.cells #[.slice none 0 0] 25)) wr ∧ Blk wr (w.heap.size + 1) 5 (byteCells (La.rowsAt La.chainRow n k m))) (fun i _ => n - (intOf i).toNat)
      case atStart => exact ⟨k, Nat.le_refl _, hk, rfl, y.grew, Hb.out⟩
      case round =>
        obtain ⟨m, hkm, hm, rfl, ⟨z, rfl⟩, hb2⟩ := hrel
        by_cases hlm : m < n
        · have hcell := (hb2.cell k).trans (byteCells_at _ k (by rw [La.rowsAt_length]; exact hlt))
          rw [La.rowsAt_getD La.chainRow n k m hlt] at hcell
          have hfr := hb2.frozen k
          have Hb3 := hid hb2
          have hrl := Nat.lt_of_lt_of_le (La.chainRow_lt k m) (Nat.pow_le_pow_right (by decide) (by omega) : _ ≤ 2 ^ 8)
          have hor := or_bit (La.chainRow k m) m hrl (by omega)
          have hrow : La.chainRow k m ||| 2 ^ m = La.chainRow k (m + 1) := by rw [La.chainRow, if_pos hkm]
          rw [hrow] at hor
          have k0 : (0 : Int) ≤ (k : Int) := by omega
          have k1 : (k : Int) < (n : Int) := by omega
          have m0 : (0 : Int) ≤ (m : Int) := by omega
          have m1 : (m : Int) < 8 := by omega
          clear hb2 hrow
          go_wp2_with fail
          go_region
          go_wp2_with fail
          go_roundw
          case rel =>
            refine ⟨m + 1, by omega, by omega, by go_num, ?_, ?_⟩
            · exact .mk ((z.grew.below.setCell (by simp) _).drew)
            · rw [← La.rowsAt_set La.chainRow n k m (m + 1), ← byteCells_set]
              exact (Hb3.out.put k _).drew
          case measure => simp [intOf]; omega
        · have Hb2 := hid hb2
          clear hb2
          go_wp2_with fail
          go_roundw
          case rel =>
            refine ⟨k + 1, by omega, by go_num, z.grew, ?_⟩
            obtain rfl : m = n := by omega
            rw [← La.rowsAt_next La.chainRow m k (k + 1) (La.chainRow_self _ _ (Nat.le_refl _))]
            exact Hb2.out
          case measure => simp [intOf]; omega
    · obtain rfl : k = n := by omega
      have hcr : y.w.cell? ⟨w.heap.size, 0, none⟩ = some (.slice none 0 0) := by
        rw [y.cell _ (by simp)]; simp
      have hfr : y.w.frozen? ⟨w.heap.size, 0, none⟩ = false := by
        rw [y.frozen _ (by simp)]; simp
      go_wp2_with fail
      refine bodyPost_ret (v := .tuple #[.agg #[.slice (some ⟨w.heap.size + 1, 0, none⟩) k k], errVal 0]) ?_ rfl ⟨_, rfl, ?_, ?_⟩
      · simp [results, Tryd.results8, go_sem, hcr, errVal]
      · have hb2 := Hb.out.far (p := ⟨w.heap.size, 0, none⟩) (by simp) (.slice (some ⟨w.heap.size + 1, 0, none⟩) k k)
        rw [La.rowsAt_end] at hb2
        exact BytesAt.of_blk hb2 (La.chain_lt k h8)
      · exact (((Grew.refl _).alloc _).trans y.grew).setCell (by simp) _
end Go.Proofs.YthdgjalbkeccoaaDoor

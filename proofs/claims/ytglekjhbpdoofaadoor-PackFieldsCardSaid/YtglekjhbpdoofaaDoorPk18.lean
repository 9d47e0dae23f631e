/- The document's own answer for law 06: a field read at a place, of whatever kind; and what nil Writers and Readers do. -/
import Derived.Test.YtglekjhbpdoofaaDoorPk17
namespace Go.Proofs.YtglekjhbpdoofaaDoor
open Go.RowKit

theorem rtake_c (A : Option Addr) (c : Nat) (b : List Nat) (at_ : Int) (st : Pk.St) (v : FdV) (w : World) (hb : BytesAt w w.heap.size A b) (hc : b.length ≤ c) (hm : c ≤ 9223372036854775807) (hbl : b.length ≤ 1000000000) (ha : AtSt b at_ st) (hk : v.f.kind < 256) :
    Calls Tryd.prog 18 #[.slice A b.length c, .int .i64 at_, .agg v.cells] w (FTakePost w b (Pk.take st v.f)) := by
  obtain ⟨⟨kind, n, l, s, many, lo, hi⟩, A1, c1⟩ := v
  simp only at hk
  show Calls Tryd.prog 18 #[.slice A b.length c, .int .i64 at_, .agg #[.int .u8 ((kind : Nat) : Int), .int .i64 n, .slice A1 l.length c1, .string s, .int .i64 many, .int .i64 lo, .int .i64 hi]] w (FTakePost w b (Pk.take st ⟨kind, n, l, s, many, lo, hi⟩))
  by_cases h0 : kind = 0
  · subst h0
    exact rtake0_c A c b at_ st n l s many lo hi A1 c1 w hb hc hm ha
  · cases hcount : Pk.count st many with
    | mk m s1 =>
      cases s1 with
      | none =>
        have hz : m = 0 := by
          rw [count_eq] at hcount
          split at hcount
          · simp at hcount; exact hcount.symm
          · unfold Pk.int at hcount
            split at hcount
            · simp at hcount
            · simp at hcount; exact hcount.symm
        refine rtakeX_c A c b at_ st kind h0 hk n l s many lo hi A1 c1 w hb hc hm ha (by rw [hcount]) _ ?_
        unfold Pk.take
        rw [if_neg h0]
        by_cases h1 : kind = 1
        · subst h1
          rw [if_pos rfl]
          have : Pk.ints st many lo hi = ([], none) := by unfold Pk.ints; rw [hcount]
          simp only [this]
        · rw [if_neg h1]
          have : Pk.text st many = ([], none) := by unfold Pk.text; rw [hcount]
          simp only [this]
          rfl
      | some r =>
        have hr := (Pk.count_range hcount)
        obtain ⟨k, rfl⟩ : ∃ k : Nat, m = (k : Int) := ⟨m.toNat, by omega⟩
        by_cases h1 : kind = 1
        · subst h1
          exact rtake1_c A c b at_ st n l s many lo hi A1 c1 w hb hc hm hbl ha k r hcount
        · exact rtakeT_c A c b at_ st kind h0 h1 hk n l s many lo hi A1 c1 w hb hc hm ha k r hcount

set_option maxRecDepth 100000 in
set_option maxHeartbeats 1000000 in
theorem wtext_nil_c (s : ByteArray) (w : World) (hs : s.size ≤ 1000000000) : Calls Tryd.prog 7 #[.pointer none, .string s] w fun e w' => e = .returned (.tuple #[]) ∧ Grew w w' := by
  have C1 := hid (wint_nil_c (some ⟨w.heap.size, 0, none⟩) 1 [(s.size : Int)] (w.alloc (.cells #[.int .i64 (s.size : Int)] 3)) (ints_one w _ _ (by unfold Vi.I64; omega)) (by simp))
  rw [List.length_singleton] at C1
  have HC := hid (fun (w1 : World) => run_bytes_of_string (P := Tryd.prog) w1 9 23 5 s Tryd.underlying9 Tryd.underlying23 Tryd.underlying5)
  clear hs
  go_enter Tryd.func7, Tryd.ntmps7
  go_wp2_with fail
  refine C1.out.mono ?_
  rintro e w1 ⟨rfl, hg⟩
  have hcv := HC.out w1
  have HG := hid (((Grew.refl w).alloc _).trans hg)
  clear hg C1 HC
  go_wp2_with fail
  refine (add_nil_c _ _ _ _).mono ?_
  rintro e w2 ⟨rfl, rfl⟩
  go_wp2_with fail
  go_end0
  exact ⟨rfl, HG.out.drew.alloc _⟩
set_option maxRecDepth 100000 in
set_option maxHeartbeats 1000000 in
theorem rint_nil_c (a b : Int) (w : World) : Calls Tryd.prog 9 #[.pointer none, .int .i64 a, .int .i64 b] w fun e w' => e = .returned (.int .i64 0) ∧ w' = w := by
  go_enter Tryd.func9, Tryd.ntmps9
  go_wp2_with fail
  go_ret
  exact ⟨rfl, rfl⟩
set_option maxRecDepth 100000 in
set_option maxHeartbeats 1000000 in
theorem rints_nil_c (m a b : Int) (w : World) : Calls Tryd.prog 10 #[.pointer none, .int .i64 m, .int .i64 a, .int .i64 b] w fun e w' => e = .returned (.slice none 0 0) ∧ w' = w := by
  go_enter Tryd.func10, Tryd.ntmps10
  go_wp2_with fail
  go_ret
  exact ⟨rfl, rfl⟩
set_option maxRecDepth 100000 in
set_option maxHeartbeats 1000000 in
theorem rtext_nil_c (m : Int) (w : World) : Calls Tryd.prog 11 #[.pointer none, .int .i64 m] w fun e w' => e = .returned (.string ⟨#[]⟩) ∧ w' = w := by
  go_enter Tryd.func11, Tryd.ntmps11
  go_wp2_with fail
  go_ret
  exact ⟨rfl, rfl⟩
set_option maxRecDepth 100000 in
set_option maxHeartbeats 1000000 in
theorem rdone_nil_c (w : World) : Calls Tryd.prog 13 #[.pointer none] w fun e w' => e = .returned (errVal 2) ∧ w' = w := by
  go_enter Tryd.func13, Tryd.ntmps13
  go_wp2_with fail
  go_ret
  exact ⟨rfl, rfl⟩
set_option maxRecDepth 100000 in
set_option maxHeartbeats 1000000 in
/-- A number written to a nil Writer. -/
theorem write_nil_c (w : World) : Calls Tryd.prog 6 #[.pointer none, .agg #[.int .u8 0, .int .i64 0, .slice none 0 0, .string ⟨#[]⟩, .int .i64 0, .int .i64 0, .int .i64 0]] w fun e w' => e = .returned (.tuple #[]) ∧ Grew w w' := by
  have C1 := hid (fun (w1 : World) (H : Nat) (hH : w1.heap.size = H) => hH ▸ wint_nil_c (some ⟨w1.heap.size, 0, none⟩) 1 [0] (w1.alloc (.cells #[.int .i64 0] 3)) (ints_one w1 _ _ (by unfold Vi.I64; omega)) (by simp))
  rw [List.length_singleton] at C1
  go_enter Tryd.func6, Tryd.ntmps6
  go_wp2_with fail
  refine (C1.out _ _ (by simp only [World.size_alloc])).mono ?_
  rintro e w1 ⟨rfl, hg⟩
  have HG := hid ((((Grew.refl w).alloc _).alloc _).trans hg)
  clear hg C1
  go_wp2_with fail
  go_end0
  exact ⟨rfl, HG.out⟩
set_option maxRecDepth 100000 in
set_option maxHeartbeats 1000000 in
theorem all_nil_p (w : World) : Calls Tryd.prog 8 #[.pointer none] w fun e w' => e = .returned (.slice none 0 0) ∧ w' = w := by
  go_enter Tryd.func8, Tryd.ntmps8
  go_wp2_with fail
  go_ret
  exact ⟨rfl, rfl⟩

/-! ### A Writer, a Reader and bytes of the call's own, side by side -/
def PF (W w : World) (gx : Nat) (xs : List Nat) (lo gy : Nat) (st : Pk.St) (Aw : Option Addr) (Lw : List Nat) : Prop :=
  ∃ Y, WrAt w W.heap.size gx xs Y ∧ RdAt w lo gy st ∧ NumsAt .u8 w w.heap.size Aw Lw ∧ W.heap.size ≤ lo ∧ lo ≤ gy ∧ Grew W w ∧ (∀ k, Y k → k < lo ∨ gy < k) ∧ (∀ ad, Aw = some ad → W.heap.size ≤ ad.block ∧ ad.block < w.heap.size ∧ ¬ Y ad.block ∧ ad.block ≠ gy)
theorem NumsAt.wide {k : IntKind} {w : World} {B B' : Nat} {A : Option Addr} {xs : List Nat} (h : NumsAt k w B A xs) (hB : B ≤ B') : NumsAt k w B' A xs := by
  intro hn
  obtain ⟨ad, e, hb, hc⟩ := h hn
  exact ⟨ad, e, Nat.lt_of_lt_of_le hb hB, hc⟩
theorem PF.above {W w : World} {gx : Nat} {xs : List Nat} {lo gy : Nat} {st : Pk.St} {Aw : Option Addr} {Lw : List Nat} (h : PF W w gx xs lo gy st Aw Lw) : Grew W w := by
  obtain ⟨_, _, _, _, _, _, h, _⟩ := h; exact h
theorem PF.rd {W w : World} {gx : Nat} {xs : List Nat} {lo gy : Nat} {st : Pk.St} {Aw : Option Addr} {Lw : List Nat} (h : PF W w gx xs lo gy st Aw Lw) : RdAt w lo gy st ∧ lo ≤ gy ∧ W.heap.size ≤ lo := by
  obtain ⟨_, _, h1, _, h2, h3, _⟩ := h; exact ⟨h1, h3, h2⟩
theorem PF.nums {W w : World} {gx : Nat} {xs : List Nat} {lo gy : Nat} {st : Pk.St} {Aw : Option Addr} {Lw : List Nat} (h : PF W w gx xs lo gy st Aw Lw) : NumsAt .u8 w w.heap.size Aw Lw := by
  obtain ⟨_, _, _, h, _⟩ := h; exact h
theorem PF.grew {W w w' : World} {gx : Nat} {xs : List Nat} {lo gy : Nat} {st : Pk.St} {Aw : Option Addr} {Lw : List Nat} (h : PF W w gx xs lo gy st Aw Lw) (hg : Grew w w') : PF W w' gx xs lo gy st Aw Lw := by
  obtain ⟨Y, h1, h2, h3, h4, h5, h6, h7, h8⟩ := h
  exact ⟨Y, h1.grew hg, h2.grew hg h5, h3.grew hg, h4, h5, h6.trans hg, h7, fun ad e => ⟨(h8 ad e).1, Nat.lt_of_lt_of_le (h8 ad e).2.1 hg.below.size, (h8 ad e).2.2⟩⟩
theorem PF.want {W w w' : World} {gx : Nat} {xs : List Nat} {lo gy : Nat} {st : Pk.St} {Aw A' : Option Addr} {Lw L' : List Nat} (h : PF W w gx xs lo gy st Aw Lw) (hg : Grew w w') (hn : NumsAt .u8 w' w'.heap.size A' L') (ha : ∀ ad, A' = some ad → w.heap.size ≤ ad.block ∧ ad.block < w'.heap.size) : PF W w' gx xs lo gy st A' L' := by
  obtain ⟨Y, h1, h2, h3, h4, h5, h6, h7, h8⟩ := h
  refine ⟨Y, h1.grew hg, h2.grew hg h5, hn, h4, h5, h6.trans hg, h7, fun ad e => ⟨Nat.le_trans h6.below.size (ha ad e).1, (ha ad e).2, fun hy => ?_, fun he => ?_⟩⟩
  · have := (h1.1 _ hy).2
    have := (ha ad e).1
    omega
  · have := h2.lt
    have := (ha ad e).1
    omega
theorem PF.read {W w w' : World} {gx : Nat} {xs : List Nat} {lo gy : Nat} {st st' : Pk.St} {Aw : Option Addr} {Lw : List Nat} (h : PF W w gx xs lo gy st Aw Lw) (hr : RdAt w' lo gy st') (hk : Kept (· = gy) w w') : PF W w' gx xs lo gy st' Aw Lw := by
  obtain ⟨Y, h1, h2, h3, h4, h5, h6, h7, h8⟩ := h
  refine ⟨Y, h1.kept hk (fun k hy e => by have := h7 k hy; omega), hr, (h3.kept hk (Nat.le_refl _) (fun ad e => (h8 ad e).2.2.2)).wide hk.size, h4, h5, hk.grew h6 (fun k e => by omega), h7, fun ad e => ⟨(h8 ad e).1, Nat.lt_of_lt_of_le (h8 ad e).2.1 hk.size, (h8 ad e).2.2⟩⟩
def PFPost (W : World) (gx : Nat) (xs : List Nat) (lo gy : Nat) (st : Pk.St) (Aw : Option Addr) (Lw : List Nat) (e : Ending) (w' : World) : Prop := e = .returned (.tuple #[]) ∧ PF W w' gx xs lo gy st Aw Lw
theorem PF.write {W w : World} {gx : Nat} {xs : List Nat} {lo gy : Nat} {st : Pk.St} {Aw : Option Addr} {Lw : List Nat} (h : PF W w gx xs lo gy st Aw Lw) (v : FdV) (hv : FdOk W W.heap.size v) (hl : xs.length + 10 * v.f.l.length + v.f.s.size + 10 ≤ 1000000000000) :
    Calls Tryd.prog 6 #[.pointer (some ⟨gx, 0, none⟩), .agg v.cells] w (PFPost W gx (xs ++ Pk.put v.f) lo gy st Aw Lw) := by
  obtain ⟨Y, h1, h2, h3, h4, h5, h6, h7, h8⟩ := h
  have hgy := h2.lt
  refine (write_c W.heap.size gx xs Y v w h1 h6.below.size ((hv.kept (F := fun _ => False) (.of_grew h6) (Nat.le_refl _) (fun _ _ _ h => h)).wide h6.below.size) (fun ad e hn hy => by
    have := (h1.1 _ hy).1
    have := hv.lb ad e hn
    omega) hl).mono fun e w' hw => ?_
  obtain ⟨he, Y2, k1, k2, k3⟩ := hw
  refine ⟨he, Y2, k1, h2.kept k3 (fun k a b hy => by have := h7 k hy; omega) h5, (h3.kept k3 (Nat.le_refl _) (fun ad e => (h8 ad e).2.2.1)).wide k3.size, h4, h5, k3.grew h6 (fun k hk => (h1.1 k hk).1), fun k hy => ?_, fun ad e => ⟨(h8 ad e).1, Nat.lt_of_lt_of_le (h8 ad e).2.1 k3.size, fun hy => ?_, (h8 ad e).2.2.2⟩⟩
  · rcases k2 k hy with h | h
    · exact h7 k h
    · omega
  · rcases k2 _ hy with h | h
    · exact (h8 ad e).2.2.1 h
    · have := (h8 ad e).2.1; omega
theorem PF.all {W w : World} {gx : Nat} {xs : List Nat} {lo gy : Nat} {st : Pk.St} {Aw : Option Addr} {Lw : List Nat} (h : PF W w gx xs lo gy st Aw Lw) (hl : xs.length ≤ 1000000000000) :
    Calls Tryd.prog 8 #[.pointer (some ⟨gx, 0, none⟩)] w (AllPost w xs) := by
  obtain ⟨Y, h1, _⟩ := h
  exact all_c W.heap.size gx xs Y w h1 hl
end Go.Proofs.YtglekjhbpdoofaaDoor

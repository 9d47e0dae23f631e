/- The document's own answer for law 06: a field behind bytes. -/
import Derived.Test.YtglekjhbpdoofaaDoorPk13
namespace Go.Proofs.YtglekjhbpdoofaaDoor
open Go.RowKit

def RPutPost (w : World) (xs : List Nat) (f : Pk.Fd) (e : Ending) (w' : World) : Prop :=
  ∃ A' c' L, e = .returned (.slice A' (List.length L) c') ∧ NumsAt .u8 w' w'.heap.size A' L ∧ L = xs ++ Pk.put f ∧ (∀ ad, A' = some ad → w.heap.size ≤ ad.block ∧ ad.block < w'.heap.size) ∧ Grew w w'
theorem own_in {k : IntKind} {w w' : World} {e : TypeId} {A : Option Addr} {c : Nat} {L : List Nat} (h : OwnNums k w w' e A c L) : ∀ ad, A = some ad → w.heap.size ≤ ad.block ∧ ad.block < w'.heap.size := by
  intro ad had
  rcases h.cases with ⟨h0, _⟩ | ⟨q, h1, h2, h3, _⟩
  · rw [h0] at had; cases had
  · rw [h1] at had; cases had
    exact ⟨h2, h3⟩
theorem RPutPost.of_put {w w1 w' : World} {xs : List Nat} {n : Int} {f : Pk.Fd} {e : Ending} (hg : Grew w w1) (hf : Pk.put f = Vi.enc n) (h : PutPost w1 xs n e w') : RPutPost w xs f e w' := by
  obtain ⟨A', c', L, h1, h2, h3, h4⟩ := h
  exact ⟨A', c', L, h1, h2.at, by rw [h3, hf], fun ad e => ⟨Nat.le_trans hg.below.size (own_in h2 ad e).1, (own_in h2 ad e).2⟩, hg.trans h4⟩
/-- What the operations of the last return give. -/
def Rp6F (W : World) (H : Nat) (xs : List Nat) (s : ByteArray) (n : Nat) (vb : Value) (i : Nat) (v : Value) (w : World) : Prop := match i with
  | 0 => v = vb
  | 1 => v = .pointer (some ⟨H, 3, none⟩)
  | 2 => v = .string s
  | 3 => v = .int .i64 ((s.size : Nat) : Int)
  | 4 => ∃ A' c' L, v = .slice A' (List.length L) c' ∧ OwnNums .u8 W w 5 A' c' L ∧ L = xs ++ Vi.enc (s.size : Int)
  | 5 => v = .pointer (some ⟨H, 3, none⟩)
  | 6 => v = .string s
  | _ => ∃ G c', v = .slice (some ⟨G, 0, none⟩) n c' ∧ NumsAt .u8 w w.heap.size (some ⟨G, 0, none⟩) (Pk.natsOf s)
theorem Rp6F.mono {W : World} {H : Nat} {xs : List Nat} {s : ByteArray} {n : Nat} {vb : Value} (i : Nat) (v : Value) (w w' : World) (h : Rp6F W H xs s n vb i v w) (hg : Grew w w') : Rp6F W H xs s n vb i v w' := by
  unfold Rp6F at *
  split at h
  all_goals
    first
      | exact h
      | (obtain ⟨A', c', L, h1, h2, h3⟩ := h; exact ⟨A', c', L, h1, h2.grew hg, h3⟩)
      | (obtain ⟨G, c', h1, h2⟩ := h; exact ⟨G, c', h1, h2.grew hg⟩)

set_option maxRecDepth 100000 in
set_option maxHeartbeats 4000000 in
theorem rput6_c (A : Option Addr) (c : Nat) (xs : List Nat) (v : FdV) (w : World) (ha : NumsAt .u8 w w.heap.size A xs) (hv : FdOk w w.heap.size v) (hl : xs.length + 10 * v.f.l.length + v.f.s.size + 10 ≤ 1000000000) :
    Calls Tryd.prog 17 #[.slice A xs.length c, .agg v.cells] w (RPutPost w xs v.f) := by
  obtain ⟨f, A1, c1⟩ := v
  obtain ⟨kind, n, l, s, many, lo, hi⟩ := f
  obtain ⟨hk, hn, hil, _, _, hlb⟩ := hv
  simp only at hk hn hil hlb hl
  show Calls Tryd.prog 17 #[.slice A xs.length c, .agg #[.int .u8 ((kind : Nat) : Int), .int .i64 n, .slice A1 l.length c1, .string s, .int .i64 many, .int .i64 lo, .int .i64 hi]] w (RPutPost w xs ⟨kind, n, l, s, many, lo, hi⟩)
  have HA := hid ha
  have HN := hid hn
  have HIL := hid hil
  have HL := hid hl
  clear ha hn hil hl hlb hk
  have hbb := Blk.new w 29 #[.int .u8 ((kind : Nat) : Int), .int .i64 n, .slice A1 l.length c1, .string s, .int .i64 many, .int .i64 lo, .int .i64 hi]
  have hg0 := (Grew.refl w).alloc (.cells #[.int .u8 ((kind : Nat) : Int), .int .i64 n, .slice A1 l.length c1, .string s, .int .i64 many, .int .i64 lo, .int .i64 hi] 29)
  have HB := hid hbb
  have HG := hid hg0
  clear hbb hg0
  obtain ⟨k, ek⟩ : ∃ k, k = xs.length := ⟨_, rfl⟩
  rw [← ek]
  have EK := hid ek
  clear ek
  rcases (by omega : kind = 0 ∨ kind = 1 ∨ (kind ≠ 0 ∧ kind ≠ 1)) with rfl | rfl | ⟨h0, h1⟩
  · rw [show (((0 : Nat) : Nat) : Int) = 0 from rfl] at HB HG ⊢
    have C1 := hid (fun (w1 : World) (hg : Grew w w1) => (rput_c A c xs n w1 (HA.out.grew hg) HN.out (by have := HL.out; omega)).mono fun _ _ h => RPutPost.of_put (f := ⟨0, n, l, s, many, lo, hi⟩) hg rfl h)
    rw [← EK.out] at C1
    clear HA HN HIL HL HB
    go_enter Tryd.func17, Tryd.ntmps17
    go_wp2_with fail
    refine (C1.out _ HG.out).mono ?_
    rintro e w1 ⟨A', c', L, rfl, h1, h2, h3, h4⟩
    have HE := hid (And.intro h1 (And.intro h2 (And.intro h3 h4)))
    clear h1 h2 h3 h4 C1
    go_wp2_with fail
    go_ret
    exact ⟨A', c', L, rfl, HE.out.1, HE.out.2.1, HE.out.2.2.1, HE.out.2.2.2⟩
  · rw [show (((1 : Nat) : Nat) : Int) = 1 from rfl] at HB HG ⊢
    obtain ⟨m, em⟩ : ∃ m, m = l.length := ⟨_, rfl⟩
    have C1 := hid (fun (w1 : World) (hg : Grew w w1) => (rput_c A c xs (l.length : Int) w1 (HA.out.grew hg) (show Vi.I64 (l.length : Int) by have := HL.out; unfold Vi.I64; omega) (by have := HL.out; omega)))
    rw [← EK.out] at C1
    rw [← em] at HB HG C1 ⊢
    have EM := hid em
    have hmb : m ≤ 1000000000 := by have := HL.out; omega
    clear HN em
    go_enter Tryd.func17, Tryd.ntmps17
    go_wp2_with fail
    obtain ⟨wb, hwb⟩ : ∃ wb, wb = w.alloc (.cells #[.int .u8 1, .int .i64 n, .slice A1 m c1, .string s, .int .i64 many, .int .i64 lo, .int .i64 hi] 29) := ⟨_, rfl⟩
    rw [← hwb] at HB HG ⊢
    clear hwb
    refine (C1.out _ HG.out).mono ?_
    rintro e w1 ⟨A2, c2, L2, rfl, hO, hL, hg1⟩
    have H0 := hid (show NumsAt .u8 w1 w1.heap.size A2 L2 ∧ L2 = xs ++ (Vi.enc (m : Int) ++ Pk.encs (l.take 0)) ∧ (∀ ad, A2 = some ad → w.heap.size ≤ ad.block ∧ ad.block < w1.heap.size) ∧ Grew wb w1 from ⟨hO.at, by rw [hL]; simp [Pk.encs], fun ad e => ⟨Nat.le_trans HG.out.below.size (own_in hO ad e).1, (own_in hO ad e).2⟩, hg1⟩)
    have HL2 := hid (show L2.length ≤ k + 10 by rw [hL, List.length_append, EK.out]; have := Vi.enc_len (m : Int); omega)
    clear hO hL hg1 C1
    go_wp2_with fail
    go_loopw [0, 5] (fun s0 s5 wr => ∃ (i : Nat) (A3 : Option Addr) (c3 : Nat) (L3 : List Nat), s0 = .slice A3 (List.length L3) c3 ∧ s5 = .int .i64 ((i : Nat) : Int) ∧ i ≤ m ∧ Hid (NumsAt .u8 wr wr.heap.size A3 L3 ∧ L3 = xs ++ (Vi.enc (m : Int) ++ Pk.encs (l.take i)) ∧ (∀ ad, A3 = some ad → w.heap.size ≤ ad.block ∧ ad.block < wr.heap.size) ∧ Grew wb wr)) (fun _ s5 _ => m - (intOf s5).toNat)
    case atStart => exact ⟨0, A2, c2, L2, rfl, rfl, Nat.zero_le _, H0⟩
    case round =>
      clear H0 HL2
      obtain ⟨i, A3, c3, L3, rfl, rfl, hi2, H⟩ := hrel
      obtain ⟨y0, y1, y2, y3, y4, y5, y6, yf⟩ := (HB.out.grew H.out.2.2.2).seven
      clear y0 y1 y3 y4 y5 y6 yf
      by_cases hlt : i < m
      · have f1 : (i : Int) < m := by omega
        obtain ⟨ad, rfl, hb, hcell⟩ := (HIL.out.grew (HG.out.trans H.out.2.2.2)).2 (by rw [← EM.out]; omega)
        have hx := hcell i (by rw [← EM.out]; exact hlt)
        have hx64 := HIL.out.i64 i
        have HT := hid (show Pk.encs (l.take (i + 1)) = Pk.encs (l.take i) ++ Vi.enc (l.getD i 0) by rw [ints_take (by rw [← EM.out]; exact hlt), Pk.encs_snoc])
        have HLen := hid (show L3.length ≤ 1000000000000 by
          have h1 := (Pk.encs_len (l.take i)).2
          have h2 := Vi.enc_len (m : Int)
          have h3 := HL.out
          rw [List.length_take] at h1
          rw [H.out.2.1, List.length_append, List.length_append]
          have := EK.out
          omega)
        generalize l.getD i 0 = x at *
        have CP := hid (rput_c A3 c3 L3 x wr H.out.1 hx64 HLen.out)
        clear hcell hb
        go_wp2_with fail
        refine CP.out.mono ?_
        rintro e w2 ⟨A4, c4, L4, rfl, hO, hL4, hg⟩
        have HE := hid (show NumsAt .u8 w2 w2.heap.size A4 L4 ∧ L4 = xs ++ (Vi.enc (m : Int) ++ Pk.encs (l.take (i + 1))) ∧ (∀ ad, A4 = some ad → w.heap.size ≤ ad.block ∧ ad.block < w2.heap.size) ∧ Grew wb w2 from ⟨hO.at, by rw [hL4, H.out.2.1, HT.out]; simp, fun ad e => ⟨Nat.le_trans (HG.out.trans H.out.2.2.2).below.size (own_in hO ad e).1, (own_in hO ad e).2⟩, H.out.2.2.2.trans hg⟩)
        clear hO hL4 hg CP
        go_wp2_with fail
        go_roundw
        case rel => exact ⟨i + 1, A4, c4, L4, rfl, by go_num, by omega, HE⟩
        case measure => simp [intOf]; omega
      · obtain rfl : i = m := by omega
        go_wp2_with fail
        go_ret
        refine ⟨A3, c3, L3, rfl, H.out.1, ?_, H.out.2.2.1, HG.out.trans H.out.2.2.2⟩
        rw [H.out.2.1, List.take_of_length_le (by rw [← EM.out]; omega), EM.out]
        rfl
  · have HP := hid (show Pk.put ⟨kind, n, l, s, many, lo, hi⟩ = Vi.enc (s.size : Int) ++ Pk.natsOf s by unfold Pk.put; rw [if_neg h0, if_neg h1])
    have t0 : ((kind : Int) == 0) = false := by rw [beq_eq_false_iff_ne]; omega
    have t1 : ((kind : Int) == 1) = false := by rw [beq_eq_false_iff_ne]; omega
    clear h0 h1 HN HIL
    generalize l.length = len at *
    go_enter Tryd.func17, Tryd.ntmps17
    go_upto_region 11 with fail
    obtain ⟨wb, hwb⟩ : ∃ wb, wb = w.alloc (.cells #[.int .u8 ((kind : Nat) : Int), .int .i64 n, .slice A1 len c1, .string s, .int .i64 many, .int .i64 lo, .int .i64 hi] 29) := ⟨_, rfl⟩
    rw [← hwb] at HB HG ⊢
    clear hwb
    obtain ⟨H, hH⟩ : ∃ H, H = w.heap.size := ⟨_, rfl⟩
    rw [← hH] at HB ⊢
    have HH := hid hH
    clear hH
    have C1 := hid (fun (w1 : World) (hg : Grew wb w1) => (rput_c A c xs (s.size : Int) w1 (HA.out.grew (HG.out.trans hg)) (show Vi.I64 (s.size : Int) by have := HL.out; unfold Vi.I64; omega) (by have := HL.out; omega)))
    rw [← EK.out] at C1
    have HCV := hid (fun (w1 : World) => run_bytes_of_string (P := Tryd.prog) w1 9 23 5 s Tryd.underlying9 Tryd.underlying23 Tryd.underlying5)
    refine wp_region_facts3 (w0 := wb) _ 6 8 [36, 37, 38, 39, 40, 41, 42, 43] [] (Rp6F wb H xs s s.size (.slice A k c)) Grew (fun _ _ => True) 99 May.grew (by kernel_rfl) (by kernel_rfl) (Grew.refl _).drew trivial Rp6F.mono ?_ ?_
    · repeat' (first | exact trivial | apply And.intro)
      all_goals
        intro a w' b hgw hJ hbm hs hA
        have e0 := hs.eval 0 (by decide) (v := .slice A k c) rfl
        have e3 := hs.eval 3 (by decide) (v := .pointer (some ⟨H, 0, none⟩)) rfl
        have y3 := (HB.out.grew hgw).seven.2.2.2.1
        have hcv := HCV.out w'
        have HGW := hid hgw
        clear hs hgw hJ hbm
        simp only [Ahead, Region.binds, slotOf, Rp6F, List.getD_cons_succ, List.getD_cons_zero, forall_const, and_true] at hA
        simp only [wantedD, if_true]
        unfold Oper.wp
        have ec : ∀ v, a.eval (.const v) = v := fun _ => rfl
        generalize hf : a.eval = f at *
        have ef : ∀ k, f (.func k) = Act.eval ⟨#[], []⟩ (.func k) := fun k => by rw [← hf]; rfl
        clear hf
        first
          | (go_simp; exact Gives3.of rfl (Grew.refl _) rfl trivial)
          | (go_simp; refine (C1.out _ HGW.out).mono ?_; rintro e w3 ⟨A9, c9, L9, rfl, h1, h2, h3⟩; exact Gives3.of rfl h3 ⟨A9, c9, L9, rfl, h1.mono HGW.out, h2⟩ trivial)
          | (go_simp; exact Gives3.of rfl ((Grew.refl w').drew.alloc _) ⟨_, _, rfl, nums_conv w' s _ _ _⟩ trivial)
    · intro a w3 hgw hs hf _ _
      have h4 := hf 4 (by decide)
      have h7 := hf 7 (by decide)
      simp only [slotOf, Rp6F, List.getD_cons_succ, List.getD_cons_zero] at h4 h7
      obtain ⟨A9, c9, L9, e4, hO, hL9⟩ := h4
      obtain ⟨G, cg, e7, hG⟩ := h7
      obtain ⟨f, rfl, hft⟩ := hs.put
      rw [hft] at e4 e7
      clear hf hft hs
      simp only [List.drop_succ_cons, List.drop_zero, putAll, List.foldl_cons, List.foldl_nil, Act.put, List.setIfInBounds_toArray, List.set_cons_succ, List.set_cons_zero, e4, e7]
      clear e4 e7
      have HG9 := hid (hG.cells)
      rw [Pk.natsOf_len] at HG9
      have HGB := hid (HG.out.trans hgw)
      have hgz := hgw.below.size
      have HL9 := hid hL9
      have HO9 := hid (Row.of_own hO)
      have HLen := hid (show L9.length + s.size ≤ 1000000000000 by
        rw [hL9, List.length_append]
        have h1 := Vi.enc_len (s.size : Int)
        have h2 := HL.out
        omega)
      obtain ⟨z, hz⟩ : ∃ z, z = L9.length := ⟨_, rfl⟩
      rw [← hz] at HO9 HLen ⊢
      have HZ := hid hz
      clear hG hO hL9 hgw hz
      go_wp2_with (at_builtin; refine wpList_catR (.int .u8 0) 1 1 w3 rfl _ _ 23 5 rfl Tryd.underlying23 v6_u8 rfl (by decide) wb.heap.size hgz A9 z c9 (numCells .u8 L9) rfl HO9.out (some ⟨G, 0, none⟩) s.size cg (numCells .u8 (Pk.natsOf s)) rfl (by rw [numCells_length, Pk.natsOf_len, Nat.mul_one]) (numCells_one _ _) HG9.out.1 HG9.out.2 (by have := HLen.out; omega) (by have := HLen.out; omega) ?_; rintro A7 c7 w7 hR7 hK7 hT7)
      go_ret
      rw [← numCells_append] at hR7
      have hlen7 : (L9 ++ Pk.natsOf s).length = z + s.size := by rw [List.length_append, ← HZ.out, Pk.natsOf_len]
      have hsz := HG.out.below.size
      refine ⟨A7, c7, L9 ++ Pk.natsOf s, by rw [hlen7]; rfl, Row.nums (by rw [hlen7]; exact hR7), by rw [HL9.out, HP.out, List.append_assoc], fun ad e => ⟨Nat.le_trans hsz (hR7.in ad e).1, (hR7.in ad e).2⟩, hK7.grew HGB.out (fun q hq => ?_)⟩
      obtain ⟨ad, h1, h2⟩ := hq
      rw [← h2]
      exact Nat.le_trans hsz (HO9.out.in ad h1).1
end Go.Proofs.YtglekjhbpdoofaaDoor

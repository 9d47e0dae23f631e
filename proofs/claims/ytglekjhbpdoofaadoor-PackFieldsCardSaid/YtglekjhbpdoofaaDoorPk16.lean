/- The document's own answer for law 06: a field read at a place: a text. -/
import Derived.Test.YtglekjhbpdoofaaDoorPk15
namespace Go.Proofs.YtglekjhbpdoofaaDoor
open Go.RowKit

set_option maxRecDepth 100000 in
set_option maxHeartbeats 4000000 in
theorem rtakeT_c (A : Option Addr) (c : Nat) (b : List Nat) (at_ : Int) (st : Pk.St) (kind : Nat) (h0 : kind ≠ 0) (h1 : kind ≠ 1) (hk : kind < 256) (n : Int) (l : List Int) (s : ByteArray) (many lo hi : Int) (A1 : Option Addr) (c1 : Nat) (w : World) (hb : BytesAt w w.heap.size A b) (hc : b.length ≤ c) (hm : c ≤ 9223372036854775807) (ha : AtSt b at_ st) (m : Nat) (r : List Nat) (hgood : Pk.count st many = ((m : Int), some r)) :
    Calls Tryd.prog 18 #[.slice A b.length c, .int .i64 at_, .agg #[.int .u8 ((kind : Nat) : Int), .int .i64 n, .slice A1 l.length c1, .string s, .int .i64 many, .int .i64 lo, .int .i64 hi]] w (FTakePost w b (Pk.take st ⟨kind, n, l, s, many, lo, hi⟩)) := by
  have HT := hid (show Pk.take st ⟨kind, n, l, s, many, lo, hi⟩ = ({ kind := kind, n := 0, l := [], s := Pk.strB (r.take m), many := 0, lo := 0, hi := 0 }, some (r.drop m)) by
    unfold Pk.take
    rw [if_neg h0, if_neg h1]
    unfold Pk.text
    rw [hgood]
    rfl)
  generalize Pk.take st ⟨kind, n, l, s, many, lo, hi⟩ = res at *
  have C1 := hid (fun (w1 : World) (hg : Grew w w1) => rnum_c A c b at_ 0 many st w1 (hb.grew hg) hc hm ha)
  have hmr := (Pk.count_range hgood).2.2
  have hint : Pk.int st 0 many = ((m : Int), some r) := by
    rw [count_eq] at hgood
    split at hgood
    · cases hgood
    · exact hgood
  rw [hint] at C1
  have t0 : ((kind : Int) == 0) = false := by rw [beq_eq_false_iff_ne]; omega
  have t1 : ((kind : Int) == 1) = false := by rw [beq_eq_false_iff_ne]; omega
  generalize l.length = len1 at *
  have HCV := hid (fun (k : Nat) (hr : r = b.drop k) (hkb : k ≤ b.length) (w1 : World) (hg : Grew w w1) => show (k < c → (convert 23 9 (.slice (A.map (·.add k)) m (c - k))).run Tryd.prog w1 = .ok (.string (Pk.strB (r.take m))) w1) ∧ (k = c → (convert 23 9 (.slice A 0 0)).run Tryd.prog w1 = .ok (.string (Pk.strB (r.take m))) w1) from by
    subst hr
    rw [List.length_drop] at hmr
    have hlt : ((b.drop k).take m).length = m := by rw [List.length_take, List.length_drop]; omega
    refine ⟨fun _ => ?_, fun hkc => ?_⟩
    · have hx : NumsAt .u8 w1 w1.heap.size (A.map (·.add k)) ((b.drop k).take m) := by
        refine NumsAt.take (fun hn => ?_) m
        rw [List.length_drop] at hn
        obtain ⟨ad, rfl, _⟩ := (hb.grew hg).2 (by omega)
        exact (NumsAt.of_bytes (hb.grew hg)).drop k (by rw [List.length_drop]; exact hn)
      have := conv6 (A.map (·.add k)) (c - k) ((b.drop k).take m) w1 hx
      rwa [hlt] at this
    · have h0 : m = 0 := by omega
      have hnil : (b.drop k).take m = [] := by rw [h0]; rfl
      rw [hnil]
      exact conv6 A 0 [] w1 (NumsAt.nil _ _ _ _))
  obtain ⟨len, hlen⟩ : ∃ len, len = b.length := ⟨_, rfl⟩
  rw [← hlen] at C1 hc HCV ⊢
  have HLen := hid hlen
  have HK := hid hk
  have HMR := hid hmr
  have hcm : c ≤ 9223372036854775807 := hm
  clear hb ha hlen hgood hint h0 h1 hk hmr
  have hb3 := boxes3 w 29 #[.int .u8 ((kind : Nat) : Int), .int .i64 n, .slice A1 len1 c1, .string s, .int .i64 many, .int .i64 lo, .int .i64 hi] #[.int .u8 0, .int .i64 0, .slice none 0 0, .string ⟨#[]⟩, .int .i64 0, .int .i64 0, .int .i64 0] #[.int .u8 ((kind : Nat) : Int), .int .i64 0, .slice none 0 0, .string ⟨#[]⟩, .int .i64 0, .int .i64 0, .int .i64 0]
  have HB3 := hid hb3
  clear hb3
  go_enter Tryd.func18, Tryd.ntmps18
  go_wp2_with fail
  obtain ⟨wb, hwb⟩ : ∃ wb, wb = ((w.alloc (.cells #[.int .u8 ((kind : Nat) : Int), .int .i64 n, .slice A1 len1 c1, .string s, .int .i64 many, .int .i64 lo, .int .i64 hi] 29)).alloc (.cells #[.int .u8 0, .int .i64 0, .slice none 0 0, .string ⟨#[]⟩, .int .i64 0, .int .i64 0, .int .i64 0] 29)).alloc (.cells #[.int .u8 ((kind : Nat) : Int), .int .i64 0, .slice none 0 0, .string ⟨#[]⟩, .int .i64 0, .int .i64 0, .int .i64 0] 29) := ⟨_, rfl⟩
  rw [← hwb] at HB3 ⊢
  clear hwb
  refine (C1.out wb HB3.out.1).mono ?_
  rintro e w2 ⟨a', rfl, hat, hg⟩
  have x0 := (HB3.out.2.1.grew hg).seven.1
  have HBY := hid (HB3.out.2.2.1.grew hg)
  obtain ⟨y0, y1, y2, y3, y4, y5, y6, yf⟩ := HBY.out.seven
  obtain ⟨z0, z1, z2, z3, z4, z5, z6, zf⟩ := (HB3.out.2.2.2.grew hg).seven
  have HRK := hid (HB3.out.1.trans hg)
  clear hg C1
  obtain ⟨k, hk1, rfl, h2⟩ := hat.resolve_left (fun h => by cases h.2)
  have hr : r = b.drop k := Option.some.inj h2
  have hmk : m ≤ len - k := by have := HMR.out; rw [hr, List.length_drop, ← HLen.out] at this; omega
  rw [← HLen.out] at hk1
  have hcv := HCV.out k hr hk1 w2 HRK.out
  have HRD := hid hr
  have p1 : ¬ (k : Int) < 0 := by omega
  have p2 : ¬ (len : Int) - k < m := by omega
  have p3 : (k : Int) ≤ len := by omega
  have p4 : (k : Int) + m ≤ c := by omega
  have p5 : 0 ≤ (k : Int) + m := by omega
  have p6 : (k : Int) + m ≤ 9223372036854775807 := by omega
  have p7 : (k : Int) ≤ (k : Int) + m := by omega
  have HAT := hid (show AtSt b ((k : Int) + m) (some (r.drop m)) from .inr ⟨k + m, by rw [← HLen.out]; omega, by push_cast; rfl, by rw [hr, List.drop_drop]⟩)
  clear hr h2 hcm HCV
  rcases (by omega : k = c ∨ k < c) with hcap | hcap
  · have hcv1 := hcv.2 hcap
    clear hcv
    obtain rfl := hcap
    have hm0 : m = 0 := by omega
    obtain rfl := hm0
    go_wp2_with fail
    have HT2 := HT
    clear HT
    have HT := hid (show res = ({ kind := kind, n := 0, l := [], s := Pk.strB [], many := 0, lo := 0, hi := 0 }, some (r.drop 0)) by rw [HT2.out]; rfl)
    have HAT2 := hid (show AtSt b (k : Int) (some (r.drop 0)) by simpa using HAT.out)
    refine bodyPost_ret (v := .tuple #[.agg #[.int .u8 ((kind : Nat) : Int), .int .i64 0, .slice none 0 0, .string (Pk.strB []), .int .i64 0, .int .i64 0, .int .i64 0], .int .i64 (k : Int)]) ?_ rfl ?_
    · refine res_field2 Tryd.results18 _ (w.heap.size + 1) _ ?_ ?_ _ _ _ _ _ _ _ _ ?_
      · rfl
      · rfl
      · refine Blk.put7 (a0 := .int .u8 0) (a1 := .int .i64 0) (a2 := .slice none 0 0) (a3 := .string ⟨#[]⟩) (a4 := .int .i64 0) (a5 := .int .i64 0) (a6 := .int .i64 0) ?_ _ _ _ _ _ _ _
        exact HBY.out.far (by simp) _
    rw [HT.out]
    refine FTakePost.end (A := none) (c := 0) HK.out (by show Vi.I64 0; unfold Vi.I64; omega) (by simp) HAT2.out HRK.out (nil_row _ _ _) (fun k => k = w.heap.size + 1 ∨ k = w.heap.size + 1 + 1) (fun k hk => ⟨by omega, by simp⟩) ?_
    refine kept7 ?_ (.inl rfl) _ _ _ _ _ _ _
    exact Kept.setCell (F := fun k => k = w.heap.size + 1 ∨ k = w.heap.size + 1 + 1) (Kept.refl _ _) (fun _ => .inr rfl) _
  · have p8 : ¬ k = c := by omega
    have hcv1 := hcv.1 hcap
    clear hcv
    go_wp2_with fail
    refine bodyPost_ret (v := .tuple #[.agg #[.int .u8 ((kind : Nat) : Int), .int .i64 0, .slice none 0 0, .string (Pk.strB (r.take m)), .int .i64 0, .int .i64 0, .int .i64 0], .int .i64 ((k : Int) + m)]) ?_ rfl ?_
    · refine res_field2 Tryd.results18 _ (w.heap.size + 1) _ ?_ ?_ _ _ _ _ _ _ _ _ ?_
      · rfl
      · rfl
      · refine Blk.put7 (a0 := .int .u8 0) (a1 := .int .i64 0) (a2 := .slice none 0 0) (a3 := .string ⟨#[]⟩) (a4 := .int .i64 0) (a5 := .int .i64 0) (a6 := .int .i64 0) ?_ _ _ _ _ _ _ _
        exact HBY.out.far (by simp) _
    rw [HT.out]
    refine FTakePost.end (A := none) (c := 0) HK.out (by show Vi.I64 0; unfold Vi.I64; omega) (by simp) HAT.out HRK.out (nil_row _ _ _) (fun k => k = w.heap.size + 1 ∨ k = w.heap.size + 1 + 1) (fun k hk => ⟨by omega, by simp⟩) ?_
    refine kept7 ?_ (.inl rfl) _ _ _ _ _ _ _
    exact Kept.setCell (F := fun k => k = w.heap.size + 1 ∨ k = w.heap.size + 1 + 1) (Kept.refl _ _) (fun _ => .inr rfl) _
end Go.Proofs.YtglekjhbpdoofaaDoor

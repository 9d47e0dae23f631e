/- The document's own answer for law 06: a field read at a place: numbers. -/
import Derived.Test.YtglekjhbpdoofaaDoorPk16
namespace Go.Proofs.YtglekjhbpdoofaaDoor
open Go.RowKit

/-- What the loop of Take keeps. -/
def TkLoop (w wb : World) (b : List Nat) (m : Nat) (r0 : List Nat) (lo hi : Int) (X Z : Array Value) (i : Nat) (a : Int) (wr : World) : Prop :=
  ∃ A3 c3 L, Blk wr w.heap.size 29 X ∧ Blk wr (w.heap.size + 1) 29 Z ∧
    Blk wr (w.heap.size + 1 + 1) 29 #[.int .u8 1, .int .i64 0, .slice A3 i c3, .string ⟨#[]⟩, .int .i64 0, .int .i64 0, .int .i64 0] ∧
    Row wr wb.heap.size 3 1 A3 i c3 (intCells L) ∧ L.length = i ∧ (∀ x ∈ L, Vi.I64 x) ∧ Kept (· = w.heap.size + 1 + 1) wb wr ∧
    ((a = -1 ∧ Pk.many m r0 lo hi = none) ∨ ∃ r, AtSt b a (some r) ∧ Pk.many m r0 lo hi = (Pk.many (m - i) r lo hi).map (fun y => (L ++ y.1, y.2)))

set_option maxRecDepth 100000 in
set_option maxHeartbeats 4000000 in
theorem rtake1_c (A : Option Addr) (c : Nat) (b : List Nat) (at_ : Int) (st : Pk.St) (n : Int) (l : List Int) (s : ByteArray) (many lo hi : Int) (A1 : Option Addr) (c1 : Nat) (w : World) (hb : BytesAt w w.heap.size A b) (hc : b.length ≤ c) (hm : c ≤ 9223372036854775807) (hbl : b.length ≤ 1000000000) (ha : AtSt b at_ st) (m : Nat) (r : List Nat) (hgood : Pk.count st many = ((m : Int), some r)) :
    Calls Tryd.prog 18 #[.slice A b.length c, .int .i64 at_, .agg #[.int .u8 1, .int .i64 n, .slice A1 l.length c1, .string s, .int .i64 many, .int .i64 lo, .int .i64 hi]] w (FTakePost w b (Pk.take st ⟨1, n, l, s, many, lo, hi⟩)) := by
  have HT := hid (show Pk.take st ⟨1, n, l, s, many, lo, hi⟩ = (match Pk.many m r lo hi with | some (l', r') => ({ kind := 1, n := 0, l := l', s := ⟨#[]⟩, many := 0, lo := 0, hi := 0 }, some r') | none => ({ kind := 1, n := 0, l := [], s := ⟨#[]⟩, many := 0, lo := 0, hi := 0 }, none)) by
    have e0 : Pk.take st ⟨1, n, l, s, many, lo, hi⟩ = ({ kind := 1, n := 0, l := (Pk.ints st many lo hi).1, s := ⟨#[]⟩, many := 0, lo := 0, hi := 0 }, (Pk.ints st many lo hi).2) := rfl
    have e1 : Pk.ints st many lo hi = match Pk.many m r lo hi with | some (l, r') => (l, some r') | none => ([], none) := by
      unfold Pk.ints
      rw [hgood]
      rfl
    rw [e0, e1]
    cases Pk.many m r lo hi <;> rfl)
  generalize Pk.take st ⟨1, n, l, s, many, lo, hi⟩ = res at *
  have CN := hid (fun (a : Int) (r1 : List Nat) (h : AtSt b a (some r1)) (w1 : World) (hg : Grew w w1) => rnum_c A c b a lo hi (some r1) w1 (hb.grew hg) hc hm h)
  have C1 := hid (fun (w1 : World) (hg : Grew w w1) => rnum_c A c b at_ 0 many st w1 (hb.grew hg) hc hm ha)
  have hmr := (Pk.count_range hgood).2.2
  have hint : Pk.int st 0 many = ((m : Int), some r) := by
    rw [count_eq] at hgood
    split at hgood
    · cases hgood
    · exact hgood
  rw [hint] at C1
  generalize l.length = len1 at *
  obtain ⟨len, hlen⟩ : ∃ len, len = b.length := ⟨_, rfl⟩
  rw [← hlen] at C1 CN hc ⊢
  have hbl' : len ≤ 1000000000 := by omega
  have HLen := hid hlen
  have HMR := hid hmr
  clear hb ha hlen hgood hint hmr hbl hm hc
  have hb3 := boxes3 w 29 #[.int .u8 1, .int .i64 n, .slice A1 len1 c1, .string s, .int .i64 many, .int .i64 lo, .int .i64 hi] #[.int .u8 0, .int .i64 0, .slice none 0 0, .string ⟨#[]⟩, .int .i64 0, .int .i64 0, .int .i64 0] #[.int .u8 1, .int .i64 0, .slice none 0 0, .string ⟨#[]⟩, .int .i64 0, .int .i64 0, .int .i64 0]
  have HB3 := hid hb3
  clear hb3
  go_enter Tryd.func18, Tryd.ntmps18
  go_wp2_with fail
  obtain ⟨wb, hwb⟩ : ∃ wb, wb = ((w.alloc (.cells #[.int .u8 1, .int .i64 n, .slice A1 len1 c1, .string s, .int .i64 many, .int .i64 lo, .int .i64 hi] 29)).alloc (.cells #[.int .u8 0, .int .i64 0, .slice none 0 0, .string ⟨#[]⟩, .int .i64 0, .int .i64 0, .int .i64 0] 29)).alloc (.cells #[.int .u8 1, .int .i64 0, .slice none 0 0, .string ⟨#[]⟩, .int .i64 0, .int .i64 0, .int .i64 0] 29) := ⟨_, rfl⟩
  rw [← hwb] at HB3 ⊢
  clear hwb
  refine (C1.out wb HB3.out.1).mono ?_
  rintro e w2 ⟨a', rfl, hat, hg⟩
  obtain ⟨x0, _, _, _, x4, x5, x6, _⟩ := (HB3.out.2.1.grew hg).seven
  obtain ⟨z0, z1, z2, z3, z4, z5, z6, zf⟩ := (HB3.out.2.2.2.grew hg).seven
  have H0 := hid (show TkLoop w wb b m r lo hi #[.int .u8 1, .int .i64 n, .slice A1 len1 c1, .string s, .int .i64 many, .int .i64 lo, .int .i64 hi] #[.int .u8 0, .int .i64 0, .slice none 0 0, .string ⟨#[]⟩, .int .i64 0, .int .i64 0, .int .i64 0] 0 a' w2 from ⟨none, 0, [], HB3.out.2.1.grew hg, HB3.out.2.2.1.grew hg, HB3.out.2.2.2.grew hg, Row.nil _ _ _ _, rfl, by simp, .of_grew hg, .inr ⟨r, hat, by simp⟩⟩)
  have HRK := hid (HB3.out.1.trans hg)
  clear hg C1
  obtain ⟨k, hk1, rfl, h2⟩ := hat.resolve_left (fun h => by cases h.2)
  have hr : r = b.drop k := Option.some.inj h2
  have hmk : m ≤ len - k := by have := HMR.out; rw [hr, List.length_drop, ← HLen.out] at this; omega
  rw [← HLen.out] at hk1
  have p1 : ¬ (k : Int) < 0 := by omega
  have p2 : ¬ (len : Int) - k < m := by omega
  have p3 : (k : Int) ≤ len := by omega
  have hmb : m ≤ 1000000000 := by omega
  clear hr h2
  go_wp2_with fail
  clear x0 x4 x5 x6 z0 z1 z2 z3 z4 z5 z6 zf
  go_loopw [1, 10] (fun s1 s10 wr => ∃ (i : Nat) (a : Int), s1 = .int .i64 a ∧ s10 = .int .i64 ((i : Nat) : Int) ∧ i ≤ m ∧ -1 ≤ a ∧ a ≤ 1000000000 ∧ Hid (TkLoop w wb b m r lo hi #[.int .u8 1, .int .i64 n, .slice A1 len1 c1, .string s, .int .i64 many, .int .i64 lo, .int .i64 hi] #[.int .u8 0, .int .i64 0, .slice none 0 0, .string ⟨#[]⟩, .int .i64 0, .int .i64 0, .int .i64 0] i a wr)) (fun _ s10 _ => m - (intOf s10).toNat)
  case atStart => exact ⟨0, k, rfl, rfl, Nat.zero_le _, by omega, by omega, H0⟩
  case round =>
    clear H0 HRK p1 p2 p3
    obtain ⟨i, a, rfl, rfl, hi2, ha0, ha1, H⟩ := hrel
    obtain ⟨A3, c3, L, hX, hZ, hO, hRow, hLl, hLi, hK, hD⟩ := H.out
    have hG1 := hK.grew HB3.out.1 (fun q e => by omega)
    by_cases hlt : i < m ∧ 0 ≤ a
    · obtain ⟨h1, h2⟩ := hlt
      have f1 : (i : Int) < m := by omega
      obtain ⟨r1, hA1, hM1⟩ := hD.resolve_left (fun h => by omega)
      obtain ⟨j, hj⟩ : ∃ j, m - i = j + 1 := ⟨m - i - 1, by omega⟩
      have hj2 : m - (i + 1) = j := by omega
      have CI := hid (CN.out a r1 hA1 wr hG1)
      have HI := hid (int_i64 (some r1) lo hi)
      have HD2 := hid (show ∀ a2, AtSt b a2 (Pk.int (some r1) lo hi).2 → ((a2 = -1 ∧ Pk.many m r lo hi = none) ∨ ∃ r2, AtSt b a2 (some r2) ∧ Pk.many m r lo hi = (Pk.many (m - (i + 1)) r2 lo hi).map (fun y => ((L ++ [(Pk.int (some r1) lo hi).1]) ++ y.1, y.2))) from fun a2 h => by
        unfold Pk.int at h ⊢
        rw [Option.bind_some] at h ⊢
        rw [hM1, hj, hj2]
        cases hnum : Pk.num r1 lo hi with
        | none =>
          rw [hnum] at h
          refine .inl ⟨?_, ?_⟩
          · rcases h with ⟨h, _⟩ | ⟨_, _, _, h⟩
            · exact h
            · cases h
          · unfold Pk.many
            rw [hnum]
            rfl
        | some x =>
          rw [hnum] at h
          obtain ⟨x1, x2⟩ := x
          refine .inr ⟨x2, h, ?_⟩
          conv => lhs; unfold Pk.many
          rw [hnum, Option.bind_some, Option.map_map]
          congr 1
          funext y
          simp)
      generalize Pk.int (some r1) lo hi = q at *
      obtain ⟨x0, _, _, _, x4, x5, x6, _⟩ := hX.seven
      obtain ⟨z0, z1, z2, z3, z4, z5, z6, zf⟩ := hO.seven
      have HX := hid hX
      have HZ := hid hZ
      have HO := hid hO
      have HRow := hid hRow
      have HLL := hid (And.intro hLl hLi)
      have HK := hid hK
      have HG1 := hid hG1
      clear hX hZ hO hRow hLl hLi hK hG1 hD hM1 hj hj2 hA1 H z0 z1 z3 z4 z5 z6
      go_wp2_with fail
      refine CI.out.mono ?_
      rintro e w3 ⟨a2, rfl, hat2, hg3⟩
      have hz2 := ((HO.out.grew hg3).seven).2.2.1
      have hzf := ((HO.out.grew hg3).seven).2.2.2.2.2.2.2
      have HAT2 := hid hat2
      have hsz3 := Nat.le_trans HK.out.size hg3.below.size
      have HRow3 := hid (HRow.out.grew hg3)
      have HG3 := hid hg3
      have ha2 : -1 ≤ a2 ∧ a2 ≤ 1000000000 := by
        rcases hat2 with ⟨rfl, _⟩ | ⟨k2, hk2, rfl, _⟩
        · omega
        · rw [← HLen.out] at hk2; omega
      obtain ⟨ha2a, ha2b⟩ := ha2
      have hblk : w.heap.size + 1 + 1 < w3.heap.size := (HO.out.grew hg3).lt
      clear hat2 hg3 CI z2 zf x4 x5 x6 x0
      go_upto_region 11 with (at_builtin; refine wpList_pushR (.int .i64 0) 8 w3 rfl _ _ 27 3 rfl Tryd.underlying27 v6_int rfl wb.heap.size hsz3 A3 i c3 (intCells L) rfl HRow3.out _ rfl rfl _ rfl (by omega) (by omega) ?_; rintro A4 c4 w4 hR4 hK4 hT4; have hz4 := hz2; have hat4 : ∀ g, AtRow A3 g → wb.heap.size ≤ g := (fun g hg => by (obtain ⟨ad, h5, h6⟩ := hg; rw [← h6]; exact (HRow3.out.in ad h5).1)); have hblt : w.heap.size + 1 + 1 < wb.heap.size := HB3.out.2.2.2.lt; have hB4 := (HO.out.grew HG3.out).kept hK4 (fun h => by have := hat4 _ h; omega); have hc4 := hB4.seven.2.2.1; have hf4 := hB4.seven.2.2.2.2.2.2.2)
      have hF4 : Kept (fun g => wb.heap.size ≤ g) w3 w4 := hK4.mono (fun g _ h => hat4 g h)
      have hst : Kept (· = w.heap.size + 1 + 1) w4 (w4.setCell ⟨w.heap.size + 1 + 1, 2, none⟩ (.slice A4 (i + 1) c4)) := Kept.setCell (F := (· = w.heap.size + 1 + 1)) (Kept.refl _ _) (p := ⟨w.heap.size + 1 + 1, 2, none⟩) (fun _ => rfl) _
      have hle : ∀ g, g < wb.heap.size → ¬ wb.heap.size ≤ g := fun g h h2 => by omega
      have HEnd := hid (show TkLoop w wb b m r lo hi #[.int .u8 1, .int .i64 n, .slice A1 len1 c1, .string s, .int .i64 many, .int .i64 lo, .int .i64 hi] #[.int .u8 0, .int .i64 0, .slice none 0 0, .string ⟨#[]⟩, .int .i64 0, .int .i64 0, .int .i64 0] (i + 1) a2 (w4.setCell ⟨w.heap.size + 1 + 1, 2, none⟩ (.slice A4 (i + 1) c4)) from ⟨A4, c4, L ++ [q.1],
        ((HX.out.grew HG3.out).kept hF4 (hle _ (by omega))).kept hst (by omega),
        ((HZ.out.grew HG3.out).kept hF4 (hle _ (by omega))).kept hst (by omega),
        by have := (((HO.out.grew HG3.out).kept hF4 (hle _ (by omega))).put 2 (.slice A4 (i + 1) c4)); simpa using this,
        by
          have := hR4.kept hst (fun g hg e => by
            have := (hR4.in _ hg).1
            simp only at this
            omega)
          rwa [show intCells L ++ [.int .i64 q.1] = intCells (L ++ [q.1]) by simp [intCells]] at this,
        by rw [List.length_append, HLL.out.1]; rfl,
        (fun y hy => by
          rcases List.mem_append.1 hy with hy | hy
          · exact HLL.out.2 y hy
          · rw [List.mem_singleton.1 hy]; exact HI.out),
        ((HK.out.trans (.of_grew HG3.out)).next hF4 (fun g hg h => by omega)).trans hst,
        HD2.out a2 HAT2.out⟩)
      clear hz4 hz2 hzf hR4 hK4 hT4 hB4 hF4 hst hle hat4 HX HZ HO HRow HRow3 HLL HK HG1 HG3 HD2 HAT2
      go_wp2_with fail
      go_roundw
      case rel => exact ⟨i + 1, a2, rfl, by go_num, by omega, ha2a, ha2b, HEnd⟩
      case measure => simp [intOf]; omega
    · have HX := hid hX
      have HG1 := hid hG1
      have HRow := hid hRow
      have HLL := hid (And.intro hLl hLi)
      have HBY := hid hZ
      have HRK := hid hG1
      have hblt : w.heap.size + 1 + 1 < wb.heap.size := HB3.out.2.2.2.lt
      obtain ⟨y0, y1, y2, y3, y4, y5, y6, yf⟩ := hZ.seven
      obtain ⟨z0, z1, z2, z3, z4, z5, z6, zf⟩ := hO.seven
      rcases hD with ⟨rfl, hnone⟩ | ⟨r1, hA1, hM1⟩
      · have HT2 := hid (show res = ({ kind := 1, n := 0, l := [], s := ⟨#[]⟩, many := 0, lo := 0, hi := 0 }, none) by rw [HT.out, hnone])
        clear HT
        have HT := HT2
        clear hX hZ hO hRow hLl hLi hK hG1 hnone H HT2
        by_cases f1 : (i : Int) < m
        all_goals
          go_wp2_with fail
          refine bodyPost_ret (v := .tuple #[.agg #[.int .u8 1, .int .i64 0, .slice none 0 0, .string ⟨#[]⟩, .int .i64 0, .int .i64 0, .int .i64 0], .int .i64 (-1)]) ?_ rfl ?_
          · refine res_field2 Tryd.results18 _ (w.heap.size + 1) _ ?_ ?_ _ _ _ _ _ _ _ _ ?_
            · rfl
            · rfl
            · refine Blk.put7 (a0 := .int .u8 0) (a1 := .int .i64 0) (a2 := .slice none 0 0) (a3 := .string ⟨#[]⟩) (a4 := .int .i64 0) (a5 := .int .i64 0) (a6 := .int .i64 0) ?_ _ _ _ _ _ _ _
              exact HBY.out.far (by simp) _
          rw [HT.out]
          refine FTakePost.end (A := none) (c := 0) (by show 1 < 256; decide) (by show Vi.I64 0; unfold Vi.I64; omega) (by simp) (.inl ⟨rfl, rfl⟩) HRK.out (nil_row _ _ _) (fun k => k = w.heap.size + 1 ∨ k = w.heap.size + 1 + 1) (fun k hk => ⟨by omega, by simp⟩) ?_
          refine kept7 ?_ (.inl rfl) _ _ _ _ _ _ _
          exact Kept.setCell (F := fun k => k = w.heap.size + 1 ∨ k = w.heap.size + 1 + 1) (Kept.refl _ _) (fun _ => .inr rfl) _
      · have him : i = m := by
          have h0 : 0 ≤ a := by
            rcases hA1 with ⟨_, h⟩ | ⟨_, _, h, _⟩
            · cases h
            · omega
          omega
        subst him
        have HT2 := hid (show res = ({ kind := 1, n := 0, l := L, s := ⟨#[]⟩, many := 0, lo := 0, hi := 0 }, some r1) by
          rw [HT.out, hM1, Nat.sub_self]
          simp [Pk.many])
        clear HT
        have HT := HT2
        have HA1 := hid hA1
        have f1 : ¬ a < 0 := by
          rcases hA1 with ⟨_, h⟩ | ⟨_, _, h, _⟩
          · cases h
          · omega
        clear hX hZ hO hRow hLl hLi hK hG1 hM1 H HT2 hA1 hlt
        go_wp2_with fail
        refine bodyPost_ret (v := .tuple #[.agg #[.int .u8 1, .int .i64 0, .slice A3 i c3, .string ⟨#[]⟩, .int .i64 0, .int .i64 0, .int .i64 0], .int .i64 a]) ?_ rfl ?_
        · refine res_field2 Tryd.results18 _ (w.heap.size + 1) _ ?_ ?_ _ _ _ _ _ _ _ _ ?_
          · rfl
          · rfl
          · refine Blk.put7 (a0 := .int .u8 0) (a1 := .int .i64 0) (a2 := .slice none 0 0) (a3 := .string ⟨#[]⟩) (a4 := .int .i64 0) (a5 := .int .i64 0) (a6 := .int .i64 0) ?_ _ _ _ _ _ _ _
            exact HBY.out
        rw [HT.out]
        show FTakePost _ _ _ (.returned (.tuple #[.agg #[.int .u8 1, .int .i64 0, .slice A3 i c3, .string ⟨#[]⟩, .int .i64 0, .int .i64 0, .int .i64 0], .int .i64 a])) _
        rw [show (#[.int .u8 1, .int .i64 0, .slice A3 i c3, .string ⟨#[]⟩, .int .i64 0, .int .i64 0, .int .i64 0] : Array Value) = FdV.cells ⟨{ kind := 1, n := 0, l := L, s := ⟨#[]⟩, many := 0, lo := 0, hi := 0 }, A3, c3⟩ by unfold FdV.cells; simp only [HLL.out.1]; rfl]
        refine FTakePost.end (A := A3) (c := c3) (by show 1 < 256; decide) (by show Vi.I64 0; unfold Vi.I64; omega) HLL.out.2 HA1.out HRK.out (HLL.out.1 ▸ HRow.out.low HB3.out.1.below.size) (fun k => k = w.heap.size + 1 ∨ k = w.heap.size + 1 + 1) (fun k hk => ⟨by omega, fun e => by have := (HRow.out.in _ e).1; simp only at this; omega⟩) ?_
        refine kept7 ?_ (.inl rfl) _ _ _ _ _ _ _
        exact Kept.refl _ _
end Go.Proofs.YtglekjhbpdoofaaDoor

/- The document's own answer for law 06: a field read at a place: a number; what fails; a text. -/
import Derived.Test.YtglekjhbpdoofaaDoorPk14
namespace Go.Proofs.YtglekjhbpdoofaaDoor
open Go.RowKit

set_option maxRecDepth 100000 in
/-- Results: a struct of seven cells, and a value. -/
theorem res_field2 {fn : Func} {a t : Tmp} (hr : fn.results = #[ResultVar.cell a 29, ResultVar.tmp t]) (tmps : Array Value) (g : Nat) (u : Value) (ha : tmps.getD a undef = .pointer (some ⟨g, 0, none⟩)) (hu : tmps.getD t undef = u) (w : World) (c0 c1 c2 c3 c4 c5 c6 : Value) (hb : Blk w g 29 #[c0, c1, c2, c3, c4, c5, c6]) :
    (results fn tmps).run Tryd.prog w = .ok (.tuple #[.agg #[c0, c1, c2, c3, c4, c5, c6], u]) w := by
  obtain ⟨y0, y1, y2, y3, y4, y5, y6, _⟩ := hb.seven
  have ha' : tmps[a]?.getD undef = .pointer (some ⟨g, 0, none⟩) := by simpa using ha
  have hu' : tmps[t]?.getD undef = u := by simpa using hu
  simp [results, go_sem, *]
/-- A field taken by the document: its list lies in new memory. -/
def FTakePost (w : World) (b : List Nat) (r : Pk.Fd × Pk.St) (e : Ending) (w' : World) : Prop :=
  ∃ A c a, e = .returned (.tuple #[.agg (FdV.cells ⟨r.1, A, c⟩), .int .i64 a]) ∧ FdOk w' w'.heap.size ⟨r.1, A, c⟩ ∧ (∀ ad, A = some ad → w.heap.size ≤ ad.block) ∧ AtSt b a r.2 ∧ Grew w w'
theorem FTakePost.end {w w2 w3 : World} {b : List Nat} {r : Pk.Fd × Pk.St} {A : Option Addr} {c : Nat} {a : Int} (hk : r.1.kind < 256) (hn : Vi.I64 r.1.n) (hl : ∀ x ∈ r.1.l, Vi.I64 x)
    (ha : AtSt b a r.2) (hG : Grew w w2) (hrow : Row w2 w.heap.size 3 1 A r.1.l.length c (intCells r.1.l)) (F : Nat → Prop) (hF : ∀ k, F k → w.heap.size ≤ k ∧ A ≠ some ⟨k, 0, none⟩) (h3 : Kept F w2 w3) :
    FTakePost w b r (.returned (.tuple #[.agg (FdV.cells ⟨r.1, A, c⟩), .int .i64 a])) w3 := by
  have hr3 := hrow.kept h3 (fun q hq hf => (hF q hf).2 hq)
  exact ⟨A, c, a, rfl, ⟨hk, hn, Row.ints hr3 hl, hrow.cases.2.1, hrow.cases.2.2.1, fun ad e _ => (hr3.in ad e).2⟩, fun ad e => (hr3.in ad e).1, ha, h3.grew hG (fun k hf => (hF k hf).1)⟩
theorem nil_row (w : World) (B : Nat) (e : TypeId) : Row w B e 1 none ([] : List Int).length 0 (intCells []) := Row.nil _ _ _ _
set_option maxRecDepth 100000 in
set_option maxHeartbeats 4000000 in
theorem rtake0_c (A : Option Addr) (c : Nat) (b : List Nat) (at_ : Int) (st : Pk.St) (n : Int) (l : List Int) (s : ByteArray) (many lo hi : Int) (A1 : Option Addr) (c1 : Nat) (w : World) (hb : BytesAt w w.heap.size A b) (hc : b.length ≤ c) (hm : c ≤ 9223372036854775807) (ha : AtSt b at_ st) :
    Calls Tryd.prog 18 #[.slice A b.length c, .int .i64 at_, .agg #[.int .u8 0, .int .i64 n, .slice A1 l.length c1, .string s, .int .i64 many, .int .i64 lo, .int .i64 hi]] w (FTakePost w b (Pk.take st ⟨0, n, l, s, many, lo, hi⟩)) := by
  have HT := hid (show Pk.take st ⟨0, n, l, s, many, lo, hi⟩ = ({ kind := 0, n := (Pk.int st lo hi).1, l := [], s := ⟨#[]⟩, many := 0, lo := 0, hi := 0 }, (Pk.int st lo hi).2) from rfl)
  have C1 := hid (fun (w1 : World) (hg : Grew w w1) => rnum_c A c b at_ lo hi st w1 (hb.grew hg) hc hm ha)
  have HI := hid (int_i64 st lo hi)
  generalize Pk.int st lo hi = r at *
  generalize Pk.take st ⟨0, n, l, s, many, lo, hi⟩ = res at *
  generalize l.length = len1 at *
  generalize hlen : b.length = len at *
  clear hb hc hm ha hlen
  have hb3 := boxes3 w 29 #[.int .u8 0, .int .i64 n, .slice A1 len1 c1, .string s, .int .i64 many, .int .i64 lo, .int .i64 hi] #[.int .u8 0, .int .i64 0, .slice none 0 0, .string ⟨#[]⟩, .int .i64 0, .int .i64 0, .int .i64 0] #[.int .u8 0, .int .i64 0, .slice none 0 0, .string ⟨#[]⟩, .int .i64 0, .int .i64 0, .int .i64 0]
  have HB3 := hid hb3
  clear hb3
  go_enter Tryd.func18, Tryd.ntmps18
  go_wp2_with fail
  obtain ⟨wb, hwb⟩ : ∃ wb, wb = ((w.alloc (.cells #[.int .u8 0, .int .i64 n, .slice A1 len1 c1, .string s, .int .i64 many, .int .i64 lo, .int .i64 hi] 29)).alloc (.cells #[.int .u8 0, .int .i64 0, .slice none 0 0, .string ⟨#[]⟩, .int .i64 0, .int .i64 0, .int .i64 0] 29)).alloc (.cells #[.int .u8 0, .int .i64 0, .slice none 0 0, .string ⟨#[]⟩, .int .i64 0, .int .i64 0, .int .i64 0] 29) := ⟨_, rfl⟩
  rw [← hwb] at HB3 ⊢
  clear hwb
  refine (C1.out wb HB3.out.1).mono ?_
  rintro e w2 ⟨a', rfl, hat, hg⟩
  have HBY := hid (HB3.out.2.2.1.grew hg)
  obtain ⟨y0, y1, y2, y3, y4, y5, y6, yf⟩ := HBY.out.seven
  obtain ⟨z0, z1, z2, z3, z4, z5, z6, zf⟩ := (HB3.out.2.2.2.grew hg).seven
  have HRK := hid (HB3.out.1.trans hg)
  have HAT := hid hat
  clear hg hat C1
  go_wp2_with fail
  refine bodyPost_ret (v := .tuple #[.agg #[.int .u8 0, .int .i64 r.1, .slice none 0 0, .string ⟨#[]⟩, .int .i64 0, .int .i64 0, .int .i64 0], .int .i64 a']) ?_ rfl ?_
  · refine res_field2 Tryd.results18 _ (w.heap.size + 1) _ ?_ ?_ _ _ _ _ _ _ _ _ ?_
    · rfl
    · rfl
    · refine Blk.put7 (a0 := .int .u8 0) (a1 := .int .i64 0) (a2 := .slice none 0 0) (a3 := .string ⟨#[]⟩) (a4 := .int .i64 0) (a5 := .int .i64 0) (a6 := .int .i64 0) ?_ _ _ _ _ _ _ _
      exact HBY.out.far (by simp) _
  rw [HT.out]
  refine FTakePost.end (A := none) (c := 0) (by show 0 < 256; decide) HI.out (by simp) HAT.out HRK.out (nil_row _ _ _) (fun k => k = w.heap.size + 1 ∨ k = w.heap.size + 1 + 1) (fun k hk => ⟨by omega, by simp⟩) ?_
  refine kept7 ?_ (.inl rfl) _ _ _ _ _ _ _
  exact Kept.setCell (F := fun k => k = w.heap.size + 1 ∨ k = w.heap.size + 1 + 1) (Kept.refl _ _) (fun _ => .inr rfl) _
set_option maxRecDepth 100000 in
set_option maxHeartbeats 4000000 in
theorem rtakeX_c (A : Option Addr) (c : Nat) (b : List Nat) (at_ : Int) (st : Pk.St) (kind : Nat) (h0 : kind ≠ 0) (hk : kind < 256) (n : Int) (l : List Int) (s : ByteArray) (many lo hi : Int) (A1 : Option Addr) (c1 : Nat) (w : World) (hb : BytesAt w w.heap.size A b) (hc : b.length ≤ c) (hm : c ≤ 9223372036854775807) (ha : AtSt b at_ st) (hbad : (Pk.count st many).2 = none) (res : Pk.Fd × Pk.St) (hres : res = ({ kind := kind, n := 0, l := [], s := ⟨#[]⟩, many := 0, lo := 0, hi := 0 }, none)) :
    Calls Tryd.prog 18 #[.slice A b.length c, .int .i64 at_, .agg #[.int .u8 ((kind : Nat) : Int), .int .i64 n, .slice A1 l.length c1, .string s, .int .i64 many, .int .i64 lo, .int .i64 hi]] w (FTakePost w b res) := by
  have HT := hid hres
  have C1 := hid (fun (w1 : World) (hg : Grew w w1) => rnum_c A c b at_ 0 many st w1 (hb.grew hg) hc hm ha)
  have HX := hid (show (Pk.int st 0 many).2 = none ∨ ((Pk.rest (Pk.int st 0 many).2).length : Int) < (Pk.int st 0 many).1 by
    rw [count_eq] at hbad
    split at hbad
    · rename_i h; exact .inr h
    · exact .inl hbad)
  have HI := hid (int_i64 st 0 many)
  have t0 : ((kind : Int) == 0) = false := by rw [beq_eq_false_iff_ne]; omega
  generalize Pk.int st 0 many = r at *
  obtain ⟨m, s1⟩ := r
  generalize l.length = len1 at *
  obtain ⟨len, hlen⟩ : ∃ len, len = b.length := ⟨_, rfl⟩
  rw [← hlen] at C1 hc ⊢
  have HLen := hid hlen
  have HK := hid hk
  clear hb ha hlen hres hbad h0 hk
  have hb3 := boxes3 w 29 #[.int .u8 ((kind : Nat) : Int), .int .i64 n, .slice A1 len1 c1, .string s, .int .i64 many, .int .i64 lo, .int .i64 hi] #[.int .u8 0, .int .i64 0, .slice none 0 0, .string ⟨#[]⟩, .int .i64 0, .int .i64 0, .int .i64 0] #[.int .u8 ((kind : Nat) : Int), .int .i64 0, .slice none 0 0, .string ⟨#[]⟩, .int .i64 0, .int .i64 0, .int .i64 0]
  have HB3 := hid hb3
  clear hb3
  go_enter Tryd.func18, Tryd.ntmps18
  go_wp2_with fail
  obtain ⟨wb, hwb⟩ : ∃ wb, wb = ((w.alloc (.cells #[.int .u8 ((kind : Nat) : Int), .int .i64 n, .slice A1 len1 c1, .string s, .int .i64 many, .int .i64 lo, .int .i64 hi] 29)).alloc (.cells #[.int .u8 0, .int .i64 0, .slice none 0 0, .string ⟨#[]⟩, .int .i64 0, .int .i64 0, .int .i64 0] 29)).alloc (.cells #[.int .u8 ((kind : Nat) : Int), .int .i64 0, .slice none 0 0, .string ⟨#[]⟩, .int .i64 0, .int .i64 0, .int .i64 0] 29) := ⟨_, rfl⟩
  rw [← hwb] at HB3 ⊢
  clear hwb
  refine (C1.out wb HB3.out.1).mono ?_
  rintro e w2 ⟨a', rfl, hat, hg⟩
  have HBY := hid (HB3.out.2.2.1.grew hg)
  obtain ⟨y0, y1, y2, y3, y4, y5, y6, yf⟩ := HBY.out.seven
  obtain ⟨z0, z1, z2, z3, z4, z5, z6, zf⟩ := (HB3.out.2.2.2.grew hg).seven
  have HRK := hid (HB3.out.1.trans hg)
  clear hg C1
  rcases hat with ⟨rfl, h2⟩ | ⟨k, hk1, rfl, h2⟩
  · clear h2 HX
    go_wp2_with fail
    refine bodyPost_ret (v := .tuple #[.agg #[.int .u8 ((kind : Nat) : Int), .int .i64 0, .slice none 0 0, .string ⟨#[]⟩, .int .i64 0, .int .i64 0, .int .i64 0], .int .i64 (-1)]) ?_ rfl ?_
    · refine res_field2 Tryd.results18 _ (w.heap.size + 1) _ ?_ ?_ _ _ _ _ _ _ _ _ ?_
      · rfl
      · rfl
      · refine Blk.put7 (a0 := .int .u8 0) (a1 := .int .i64 0) (a2 := .slice none 0 0) (a3 := .string ⟨#[]⟩) (a4 := .int .i64 0) (a5 := .int .i64 0) (a6 := .int .i64 0) ?_ _ _ _ _ _ _ _
        exact HBY.out
    rw [HT.out]
    refine FTakePost.end (A := none) (c := 0) HK.out (by show Vi.I64 0; unfold Vi.I64; omega) (by simp) (.inl ⟨rfl, rfl⟩) HRK.out (nil_row _ _ _) (fun k => k = w.heap.size + 1 ∨ k = w.heap.size + 1 + 1) (fun k hk => ⟨by omega, by simp⟩) ?_
    refine kept7 ?_ (.inl rfl) _ _ _ _ _ _ _
    exact Kept.refl _ _
  · have t1 : ¬ (k : Int) < 0 := by omega
    have hx := HX.out
    simp only at h2 hx
    rw [h2] at hx
    have hx2 := hx.resolve_left (by simp)
    simp only [Pk.rest, Option.getD_some, List.length_drop] at hx2
    have t2 : (len : Int) - k < m := by have := HLen.out; omega
    have t3 : (k : Int) ≤ len := by have := HLen.out; omega
    clear hx hx2 h2 HX hk1
    go_wp2_with fail
    refine bodyPost_ret (v := .tuple #[.agg #[.int .u8 ((kind : Nat) : Int), .int .i64 0, .slice none 0 0, .string ⟨#[]⟩, .int .i64 0, .int .i64 0, .int .i64 0], .int .i64 (-1)]) ?_ rfl ?_
    · refine res_field2 Tryd.results18 _ (w.heap.size + 1) _ ?_ ?_ _ _ _ _ _ _ _ _ ?_
      · rfl
      · rfl
      · refine Blk.put7 (a0 := .int .u8 0) (a1 := .int .i64 0) (a2 := .slice none 0 0) (a3 := .string ⟨#[]⟩) (a4 := .int .i64 0) (a5 := .int .i64 0) (a6 := .int .i64 0) ?_ _ _ _ _ _ _ _
        exact HBY.out
    rw [HT.out]
    refine FTakePost.end (A := none) (c := 0) HK.out (by show Vi.I64 0; unfold Vi.I64; omega) (by simp) (.inl ⟨rfl, rfl⟩) HRK.out (nil_row _ _ _) (fun k => k = w.heap.size + 1 ∨ k = w.heap.size + 1 + 1) (fun k hk => ⟨by omega, by simp⟩) ?_
    refine kept7 ?_ (.inl rfl) _ _ _ _ _ _ _
    exact Kept.refl _ _
end Go.Proofs.YtglekjhbpdoofaaDoor

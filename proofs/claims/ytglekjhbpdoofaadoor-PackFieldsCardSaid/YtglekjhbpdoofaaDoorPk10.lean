/- The walks of law 06: read. -/
import Derived.Test.YtglekjhbpdoofaaDoorPk4
import Derived.Test.YtglekjhbpdoofaaDoorPk9
namespace Go.Proofs.YtglekjhbpdoofaaDoor
open Go.RowKit

theorem wrap64_i64 (x : Int) : Vi.I64 (wrap64 x) := by unfold Vi.I64 wrap64; omega
theorem getN_i64 (r : List Nat) : Vi.I64 (Vi.getN r) := by
  unfold Vi.getN
  split
  · unfold Vi.I64; omega
  · exact wrap64_i64 _
theorem int_i64 (st : Pk.St) (a b : Int) : Vi.I64 (Pk.int st a b).1 := by
  unfold Pk.int
  split
  · rename_i n r hb
    obtain ⟨r0, _, h⟩ := Option.bind_eq_some_iff.1 hb
    unfold Pk.num at h
    split at h
    · simp only [Option.some.injEq, Prod.mk.injEq] at h
      rw [← h.1]; exact getN_i64 _
    · cases h
  · unfold Vi.I64; simp
theorem many_i64 : ∀ (k : Nat) {r r' : List Nat} {a b : Int} {l : List Int}, Pk.many k r a b = some (l, r') → ∀ x ∈ l, Vi.I64 x
  | 0, r, r', a, b, l, h => by
    simp only [Pk.many, Option.some.injEq, Prod.mk.injEq] at h
    obtain ⟨rfl, rfl⟩ := h
    simp
  | k + 1, r, r', a, b, l, h => by
    unfold Pk.many at h
    obtain ⟨x, h1, h2⟩ := Option.bind_eq_some_iff.1 h
    obtain ⟨y, h3, h4⟩ := Option.map_eq_some_iff.1 h2
    simp only [Prod.mk.injEq] at h4
    obtain ⟨rfl, rfl⟩ := h4
    intro z hz
    rcases List.mem_cons.1 hz with rfl | hz
    · unfold Pk.num at h1
      split at h1
      · simp only [Option.some.injEq] at h1
        rw [← h1]; exact getN_i64 _
      · cases h1
    · exact many_i64 k h3 z hz
theorem ints_i64 (st : Pk.St) (m a b : Int) : ∀ x ∈ (Pk.ints st m a b).1, Vi.I64 x := by
  unfold Pk.ints
  split
  · split
    · rename_i l r' h
      exact many_i64 _ h
    · simp
  · simp
theorem Row.ints {w : World} {B : Nat} {e : TypeId} {A : Option Addr} {c : Nat} {l : List Int} (h : Row w B e 1 A l.length c (intCells l)) (hl : ∀ x ∈ l, Vi.I64 x) : IntsAt w w.heap.size A l := by
  refine ⟨hl, fun hn => ?_⟩
  rcases h.cases with ⟨_, _, _, ⟨_, h0, _⟩ | ⟨g, rfl, _, hlt, hc, _⟩⟩
  · omega
  · refine ⟨_, rfl, hlt, fun j hj => ?_⟩
    rw [show (⟨g, 0, none⟩ : Addr).add j = ⟨g, j, none⟩ by simp [Addr.add]; omega]
    refine hc j _ ?_
    simp [intCells, List.getD_eq_getElem?_getD, List.getElem?_eq_getElem hj]
theorem Row.in {w : World} {B : Nat} {e : TypeId} {s : Nat} {A : Option Addr} {n c : Nat} {vs : List Value} (h : Row w B e s A n c vs) : ∀ ad, A = some ad → B ≤ ad.block ∧ ad.block < w.heap.size := by
  intro ad had
  rcases h.cases with ⟨_, _, _, ⟨h0, _⟩ | ⟨g, h1, h2, h3, _⟩⟩
  · rw [h0] at had; cases had
  · rw [h1] at had; cases had; exact ⟨h2, h3⟩

/-- A field read: its list lies in new memory. -/
def FReadPost (w : World) (lo g : Nat) (r : Pk.Fd × Pk.St) (e : Ending) (w' : World) : Prop :=
  ∃ A c, e = .returned (.agg (FdV.cells ⟨r.1, A, c⟩)) ∧ FdOk w' w'.heap.size ⟨r.1, A, c⟩ ∧ (∀ ad, A = some ad → w.heap.size ≤ ad.block) ∧ RdAt w' lo g r.2 ∧ Kept (· = g) w w'

theorem boxes3 (w : World) (t : TypeId) (X Y Z : Array Value) : Grew w (((w.alloc (.cells X t)).alloc (.cells Y t)).alloc (.cells Z t)) ∧ Blk (((w.alloc (.cells X t)).alloc (.cells Y t)).alloc (.cells Z t)) w.heap.size t X ∧ Blk (((w.alloc (.cells X t)).alloc (.cells Y t)).alloc (.cells Z t)) (w.heap.size + 1) t Y ∧ Blk (((w.alloc (.cells X t)).alloc (.cells Y t)).alloc (.cells Z t)) (w.heap.size + 1 + 1) t Z := by
  have b1 := Blk.new w t X
  have g1 := (Grew.refl w).alloc (.cells X t)
  have s1 : (w.alloc (.cells X t)).heap.size = w.heap.size + 1 := by simp
  generalize w.alloc (.cells X t) = w1 at *
  have b2 := Blk.new w1 t Y
  have g2 := (Grew.refl w1).alloc (.cells Y t)
  have s2 : (w1.alloc (.cells Y t)).heap.size = w1.heap.size + 1 := by simp
  generalize w1.alloc (.cells Y t) = w2 at *
  have b3 := Blk.new w2 t Z
  have g3 := (Grew.refl w2).alloc (.cells Z t)
  rw [s1] at b2 s2
  rw [s2] at b3
  exact ⟨(g1.trans g2).trans g3, b1.grew (g2.trans g3), b2.grew g3, b3⟩
/-- What a block of seven cells reads as. -/
theorem Blk.seven {w : World} {g : Nat} {t : TypeId} {a b c d e f h : Value} (k : Blk w g t #[a, b, c, d, e, f, h]) :
    w.cell? ⟨g, 0, none⟩ = some a ∧ w.cell? ⟨g, 1, none⟩ = some b ∧ w.cell? ⟨g, 2, none⟩ = some c ∧ w.cell? ⟨g, 3, none⟩ = some d ∧ w.cell? ⟨g, 4, none⟩ = some e ∧ w.cell? ⟨g, 5, none⟩ = some f ∧ w.cell? ⟨g, 6, none⟩ = some h ∧ ∀ i, w.frozen? ⟨g, i, none⟩ = false :=
  ⟨k.cell 0, k.cell 1, k.cell 2, k.cell 3, k.cell 4, k.cell 5, k.cell 6, fun i => k.frozen i⟩
/-- The end of a read, whatever was stored into new blocks. -/
theorem FReadPost.end {w w2 w3 : World} {lo g : Nat} {r : Pk.Fd × Pk.St} {A : Option Addr} {c : Nat} (hk : r.1.kind < 256) (hn : Vi.I64 r.1.n) (hl : ∀ x ∈ r.1.l, Vi.I64 x) (hg : g < w.heap.size) (hlo : lo ≤ g)
    (hR : RdAt w2 lo g r.2) (hK : Kept (· = g) w w2) (hrow : Row w2 w.heap.size 3 1 A r.1.l.length c (intCells r.1.l)) (F : Nat → Prop) (hF : ∀ k, F k → w.heap.size ≤ k ∧ A ≠ some ⟨k, 0, none⟩) (h3 : Kept F w2 w3) :
    FReadPost w lo g r (.returned (.agg (FdV.cells ⟨r.1, A, c⟩))) w3 := by
  have hr3 := hrow.kept h3 (fun q hq hf => (hF q hf).2 hq)
  refine ⟨A, c, rfl, ⟨hk, hn, Row.ints hr3 hl, hrow.cases.2.1, hrow.cases.2.2.1, fun ad e _ => (hr3.in ad e).2⟩, fun ad e => (hr3.in ad e).1, hR.kept h3 (fun k _ h2 hf => by have := (hF k hf).1; omega) hlo, hK.next h3 (fun i hi hf => by have := (hF i hf).1; omega)⟩

set_option maxRecDepth 100000 in
/-- A result that is a struct of seven cells. -/
theorem res_field {fn : Func} {a : Tmp} (hr : fn.results = #[ResultVar.cell a 29]) (tmps : Array Value) (g : Nat) (ha : tmps.getD a undef = .pointer (some ⟨g, 0, none⟩)) (w : World) (c0 c1 c2 c3 c4 c5 c6 : Value) (hb : Blk w g 29 #[c0, c1, c2, c3, c4, c5, c6]) :
    (results fn tmps).run Tryd.prog w = .ok (.agg #[c0, c1, c2, c3, c4, c5, c6]) w := by
  obtain ⟨y0, y1, y2, y3, y4, y5, y6, _⟩ := hb.seven
  have ha' : tmps[a]?.getD undef = .pointer (some ⟨g, 0, none⟩) := by simpa using ha
  simp [results, go_sem, *]
theorem kept7 {F : Nat → Prop} {w w2 : World} {g : Nat} (h : Kept F w w2) (hg : F g) (c0 c1 c2 c3 c4 c5 c6 : Value) :
    Kept F w (((((((w2.setCell ⟨g, 0, none⟩ c0).setCell ⟨g, 1, none⟩ c1).setCell ⟨g, 2, none⟩ c2).setCell ⟨g, 3, none⟩ c3).setCell ⟨g, 4, none⟩ c4).setCell ⟨g, 5, none⟩ c5).setCell ⟨g, 6, none⟩ c6) :=
  ((((((h.setCell (p := ⟨g, 0, none⟩) (fun _ => hg) c0).setCell (p := ⟨g, 1, none⟩) (fun _ => hg) c1).setCell (p := ⟨g, 2, none⟩) (fun _ => hg) c2).setCell (p := ⟨g, 3, none⟩) (fun _ => hg) c3).setCell (p := ⟨g, 4, none⟩) (fun _ => hg) c4).setCell (p := ⟨g, 5, none⟩) (fun _ => hg) c5).setCell (p := ⟨g, 6, none⟩) (fun _ => hg) c6
theorem Blk.put7 {w : World} {g : Nat} {t : TypeId} {a0 a1 a2 a3 a4 a5 a6 : Value} (h : Blk w g t #[a0, a1, a2, a3, a4, a5, a6]) (c0 c1 c2 c3 c4 c5 c6 : Value) :
    Blk (((((((w.setCell ⟨g, 0, none⟩ c0).setCell ⟨g, 1, none⟩ c1).setCell ⟨g, 2, none⟩ c2).setCell ⟨g, 3, none⟩ c3).setCell ⟨g, 4, none⟩ c4).setCell ⟨g, 5, none⟩ c5).setCell ⟨g, 6, none⟩ c6) g t #[c0, c1, c2, c3, c4, c5, c6] := by
  have := ((((((h.put 0 c0).put 1 c1).put 2 c2).put 3 c3).put 4 c4).put 5 c5).put 6 c6
  simpa using this
set_option maxRecDepth 100000 in
set_option maxHeartbeats 4000000 in
theorem fread_c (lo g : Nat) (st : Pk.St) (v : FdV) (w : World) (h : RdAt w lo g st) (hlo : lo ≤ g) (hk : v.f.kind < 256) (hm : (Pk.rest st).length ≤ 1000000000000) :
    Calls Tryd.prog 20 #[.pointer (some ⟨g, 0, none⟩), .agg v.cells] w (FReadPost w lo g (Pk.take st v.f)) := by
  obtain ⟨f, A, c⟩ := v
  obtain ⟨kind, n, l, s, many, lo', hi⟩ := f
  simp only at hk ⊢
  have hg := h.lt
  have HR := hid h
  show Calls Tryd.prog 20 #[.pointer (some ⟨g, 0, none⟩), .agg #[.int .u8 ((kind : Nat) : Int), .int .i64 n, .slice A l.length c, .string s, .int .i64 many, .int .i64 lo', .int .i64 hi]] w _
  have HT0 := hid (show kind = 0 → Pk.take st ⟨kind, n, l, s, many, lo', hi⟩ = ({ kind := 0, n := (Pk.int st lo' hi).1, l := [], s := ⟨#[]⟩, many := 0, lo := 0, hi := 0 }, (Pk.int st lo' hi).2) from fun h => by subst h; rfl)
  have HT1 := hid (show kind = 1 → Pk.take st ⟨kind, n, l, s, many, lo', hi⟩ = ({ kind := 1, n := 0, l := (Pk.ints st many lo' hi).1, s := ⟨#[]⟩, many := 0, lo := 0, hi := 0 }, (Pk.ints st many lo' hi).2) from fun h => by subst h; rfl)
  have HT2 := hid (show kind ≠ 0 → kind ≠ 1 → Pk.take st ⟨kind, n, l, s, many, lo', hi⟩ = ({ kind := kind, n := 0, l := [], s := Pk.strB (Pk.text st many).1, many := 0, lo := 0, hi := 0 }, (Pk.text st many).2) from fun h1 h2 => by unfold Pk.take; rw [if_neg h1, if_neg h2])
  generalize Pk.take st ⟨kind, n, l, s, many, lo', hi⟩ = res at *
  generalize l.length = len at *
  have hb3 := boxes3 w 29 #[.int .u8 ((kind : Nat) : Int), .int .i64 n, .slice A len c, .string s, .int .i64 many, .int .i64 lo', .int .i64 hi] #[.int .u8 0, .int .i64 0, .slice none 0 0, .string ⟨#[]⟩, .int .i64 0, .int .i64 0, .int .i64 0] #[.int .u8 ((kind : Nat) : Int), .int .i64 0, .slice none 0 0, .string ⟨#[]⟩, .int .i64 0, .int .i64 0, .int .i64 0]
  rcases (by omega : kind = 0 ∨ kind = 1 ∨ (kind ≠ 0 ∧ kind ≠ 1)) with rfl | rfl | ⟨h0, h1⟩
  · have HT := hid (HT0.out rfl)
    have C1 := hid (fun (w1 : World) (hg1 : Grew w w1) => rint_c lo g st lo' hi w1 (HR.out.grew hg1 hlo))
    have HI := hid (int_i64 st lo' hi)
    generalize Pk.int st lo' hi = r at *
    rw [show (((0 : Nat) : Nat) : Int) = 0 from rfl] at hb3 ⊢
    have HB3 := hid hb3
    clear h hk hm HT0 HT1 HT2 hb3
    go_enter Tryd.func20, Tryd.ntmps20
    go_wp2_with fail
    obtain ⟨wb, hwb⟩ : ∃ wb, wb = ((w.alloc (.cells #[.int .u8 0, .int .i64 n, .slice A len c, .string s, .int .i64 many, .int .i64 lo', .int .i64 hi] 29)).alloc (.cells #[.int .u8 0, .int .i64 0, .slice none 0 0, .string ⟨#[]⟩, .int .i64 0, .int .i64 0, .int .i64 0] 29)).alloc (.cells #[.int .u8 0, .int .i64 0, .slice none 0 0, .string ⟨#[]⟩, .int .i64 0, .int .i64 0, .int .i64 0] 29) := ⟨_, rfl⟩
    rw [← hwb] at HB3 ⊢
    clear hwb
    refine (C1.out wb HB3.out.1).mono ?_
    rintro e w2 ⟨rfl, hR, hK⟩
    have HBY := hid (HB3.out.2.2.1.kept hK (by omega))
    obtain ⟨y0, y1, y2, y3, y4, y5, y6, yf⟩ := HBY.out.seven
    obtain ⟨z0, z1, z2, z3, z4, z5, z6, zf⟩ := (HB3.out.2.2.2.kept hK (by omega)).seven
    have HRK := hid (And.intro hR ((Kept.of_grew HB3.out.1).trans hK))
    clear hR hK C1
    go_wp2_with fail
    refine bodyPost_ret (v := .agg #[.int .u8 0, .int .i64 r.1, .slice none 0 0, .string ⟨#[]⟩, .int .i64 0, .int .i64 0, .int .i64 0]) ?_ rfl ?_
    · refine res_field Tryd.results20 _ (w.heap.size + 1) ?_ _ _ _ _ _ _ _ _ ?_
      · rfl
      · refine Blk.put7 (a0 := .int .u8 0) (a1 := .int .i64 0) (a2 := .slice none 0 0) (a3 := .string ⟨#[]⟩) (a4 := .int .i64 0) (a5 := .int .i64 0) (a6 := .int .i64 0) ?_ _ _ _ _ _ _ _
        exact HBY.out.far (by simp) _
    rw [HT.out]
    refine FReadPost.end (A := none) (c := 0) (by show 0 < 256; decide) HI.out (by simp) hg hlo HRK.out.1 HRK.out.2 (Row.nil _ _ _ _) (fun k => k = w.heap.size + 1 ∨ k = w.heap.size + 1 + 1) (fun k hk => ⟨by omega, by simp⟩) ?_
    refine kept7 ?_ (.inl rfl) _ _ _ _ _ _ _
    exact Kept.setCell (F := fun k => k = w.heap.size + 1 ∨ k = w.heap.size + 1 + 1) (Kept.refl _ _) (fun _ => .inr rfl) _
  · have HT := hid (HT1.out rfl)
    have C1 := hid (fun (w1 : World) (hg1 : Grew w w1) => rints_c lo g st many lo' hi w1 (HR.out.grew hg1 hlo) hlo hm)
    have HI := hid (ints_i64 st many lo' hi)
    generalize Pk.ints st many lo' hi = r at *
    rw [show (((1 : Nat) : Nat) : Int) = 1 from rfl] at hb3 ⊢
    have HB3 := hid hb3
    clear h hk hm HT0 HT1 HT2 hb3
    go_enter Tryd.func20, Tryd.ntmps20
    go_wp2_with fail
    obtain ⟨wb, hwb⟩ : ∃ wb, wb = ((w.alloc (.cells #[.int .u8 1, .int .i64 n, .slice A len c, .string s, .int .i64 many, .int .i64 lo', .int .i64 hi] 29)).alloc (.cells #[.int .u8 0, .int .i64 0, .slice none 0 0, .string ⟨#[]⟩, .int .i64 0, .int .i64 0, .int .i64 0] 29)).alloc (.cells #[.int .u8 1, .int .i64 0, .slice none 0 0, .string ⟨#[]⟩, .int .i64 0, .int .i64 0, .int .i64 0] 29) := ⟨_, rfl⟩
    rw [← hwb] at HB3 ⊢
    clear hwb
    refine (C1.out wb HB3.out.1).mono ?_
    rintro e w2 ⟨A2, c2, rfl, hrow, hR, hK⟩
    have HBY := hid (HB3.out.2.2.1.kept hK (by omega))
    obtain ⟨y0, y1, y2, y3, y4, y5, y6, yf⟩ := HBY.out.seven
    obtain ⟨z0, z1, z2, z3, z4, z5, z6, zf⟩ := (HB3.out.2.2.2.kept hK (by omega)).seven
    have HRK := hid (And.intro hR ((Kept.of_grew HB3.out.1).trans hK))
    have HRow := hid hrow
    have hsb := hid (show w.heap.size + 1 + 1 < wb.heap.size from HB3.out.2.2.2.lt)
    generalize hrl : r.1.length = rl at *
    have HRL := hid hrl
    clear hR hK C1 hrow hrl
    go_wp2_with fail
    refine bodyPost_ret (v := .agg #[.int .u8 1, .int .i64 0, .slice A2 rl c2, .string ⟨#[]⟩, .int .i64 0, .int .i64 0, .int .i64 0]) ?_ rfl ?_
    · refine res_field Tryd.results20 _ (w.heap.size + 1) ?_ _ _ _ _ _ _ _ _ ?_
      · rfl
      · refine Blk.put7 (a0 := .int .u8 0) (a1 := .int .i64 0) (a2 := .slice none 0 0) (a3 := .string ⟨#[]⟩) (a4 := .int .i64 0) (a5 := .int .i64 0) (a6 := .int .i64 0) ?_ _ _ _ _ _ _ _
        exact HBY.out.far (by simp) _
    rw [HT.out, ← HRL.out]
    refine FReadPost.end (A := A2) (c := c2) (by show 1 < 256; decide) (by show Vi.I64 0; unfold Vi.I64; omega) HI.out hg hlo HRK.out.1 HRK.out.2 (by show Row _ _ _ _ _ r.1.length _ _; exact (HRL.out ▸ HRow.out).low HB3.out.1.below.size) (fun k => k = w.heap.size + 1 ∨ k = w.heap.size + 1 + 1) (fun k hk => ⟨by omega, fun e => by have := (HRow.out.in _ e).1; have := hsb.out; simp only at *; omega⟩) ?_
    refine kept7 ?_ (.inl rfl) _ _ _ _ _ _ _
    exact Kept.setCell (F := fun k => k = w.heap.size + 1 ∨ k = w.heap.size + 1 + 1) (Kept.refl _ _) (fun _ => .inr rfl) _
  · have HT := hid (HT2.out h0 h1)
    have C1 := hid (fun (w1 : World) (hg1 : Grew w w1) => rtext_c lo g st many w1 (HR.out.grew hg1 hlo))
    have t0 : ((kind : Int) == 0) = false := by rw [beq_eq_false_iff_ne]; omega
    have t1 : ((kind : Int) == 1) = false := by rw [beq_eq_false_iff_ne]; omega
    have HK := hid hk
    generalize Pk.text st many = r at *
    have HB3 := hid hb3
    clear h hk hm HT0 HT1 HT2 hb3
    go_enter Tryd.func20, Tryd.ntmps20
    go_wp2_with fail
    obtain ⟨wb, hwb⟩ : ∃ wb, wb = ((w.alloc (.cells #[.int .u8 ((kind : Nat) : Int), .int .i64 n, .slice A len c, .string s, .int .i64 many, .int .i64 lo', .int .i64 hi] 29)).alloc (.cells #[.int .u8 0, .int .i64 0, .slice none 0 0, .string ⟨#[]⟩, .int .i64 0, .int .i64 0, .int .i64 0] 29)).alloc (.cells #[.int .u8 ((kind : Nat) : Int), .int .i64 0, .slice none 0 0, .string ⟨#[]⟩, .int .i64 0, .int .i64 0, .int .i64 0] 29) := ⟨_, rfl⟩
    rw [← hwb] at HB3 ⊢
    clear hwb
    refine (C1.out wb HB3.out.1).mono ?_
    rintro e w2 ⟨rfl, hR, hK⟩
    have HBY := hid (HB3.out.2.2.1.kept hK (by omega))
    obtain ⟨y0, y1, y2, y3, y4, y5, y6, yf⟩ := HBY.out.seven
    obtain ⟨z0, z1, z2, z3, z4, z5, z6, zf⟩ := (HB3.out.2.2.2.kept hK (by omega)).seven
    have HRK := hid (And.intro hR ((Kept.of_grew HB3.out.1).trans hK))
    clear hR hK C1 h0 h1
    go_wp2_with fail
    refine bodyPost_ret (v := .agg #[.int .u8 ((kind : Nat) : Int), .int .i64 0, .slice none 0 0, .string (Pk.strB r.1), .int .i64 0, .int .i64 0, .int .i64 0]) ?_ rfl ?_
    · refine res_field Tryd.results20 _ (w.heap.size + 1) ?_ _ _ _ _ _ _ _ _ ?_
      · rfl
      · refine Blk.put7 (a0 := .int .u8 0) (a1 := .int .i64 0) (a2 := .slice none 0 0) (a3 := .string ⟨#[]⟩) (a4 := .int .i64 0) (a5 := .int .i64 0) (a6 := .int .i64 0) ?_ _ _ _ _ _ _ _
        exact HBY.out.far (by simp) _
    rw [HT.out]
    refine FReadPost.end (A := none) (c := 0) HK.out (by show Vi.I64 0; unfold Vi.I64; omega) (by simp) hg hlo HRK.out.1 HRK.out.2 (Row.nil _ _ _ _) (fun k => k = w.heap.size + 1 ∨ k = w.heap.size + 1 + 1) (fun k hk => ⟨by omega, by simp⟩) ?_
    refine kept7 ?_ (.inl rfl) _ _ _ _ _ _ _
    exact Kept.setCell (F := fun k => k = w.heap.size + 1 ∨ k = w.heap.size + 1 + 1) (Kept.refl _ _) (fun _ => .inr rfl) _
end Go.Proofs.YtglekjhbpdoofaaDoor

/- The walks of package pack, writing: add. -/
import Derived.Test.YtglekjhbpdoofaaDoorPk5
import Derived.Deep.QuietTactic
namespace Go.Proofs.YtglekjhbpdoofaaDoor
open Go.RowKit

/-- A Writer with a buffer. -/
def WrIn (w : World) (B g : Nat) (xs : List Nat) (Y : Nat → Prop) (gb : Nat) (A : Option Addr) (c : Nat) : Prop :=
  (∀ k, Y k → B ≤ k ∧ k < w.heap.size) ∧ Y g ∧ (∀ x ∈ xs, x < 256) ∧ gb ≠ g ∧ Y gb ∧ (∀ q, AtRow A q → Y q ∧ q ≠ g ∧ q ≠ gb) ∧ Blk w g 43 #[.pointer (some ⟨gb, 0, none⟩), .int .i64 ((xs.length : Nat) : Int)] ∧ Blk w gb 60 #[.slice A xs.length c] ∧ Row w B 5 1 A xs.length c (numCells .u8 xs)
theorem WrIn.at {w : World} {B g : Nat} {xs : List Nat} {Y : Nat → Prop} {gb : Nat} {A : Option Addr} {c : Nat} (h : WrIn w B g xs Y gb A c) : WrAt w B g xs Y :=
  ⟨h.1, h.2.1, h.2.2.1, .inr ⟨gb, A, c, h.2.2.2.1, h.2.2.2.2.1, h.2.2.2.2.2.1, h.2.2.2.2.2.2.1, h.2.2.2.2.2.2.2.1, h.2.2.2.2.2.2.2.2⟩⟩
def AddPost (w : World) (B g : Nat) (xs bs : List Nat) (Y : Nat → Prop) (e : Ending) (w' : World) : Prop :=
  e = .returned (.tuple #[]) ∧ ∃ Y2, WrAt w' B g (xs ++ bs) Y2 ∧ (∀ k, Y2 k → Y k ∨ w.heap.size ≤ k) ∧ Kept Y w w'
/-- What the three stores leave. -/
theorem add_done {w w3 w4 : World} {B g : Nat} {xs bs : List Nat} {Y Y' : Nat → Prop} {gb : Nat} {A A' : Option Addr} {c c' n m : Nat} (h : WrIn w3 B g xs Y' gb A c) (hY : ∀ k, Y' k → Y k ∨ w.heap.size ≤ k) (hk : Kept Y w w3) (hb : ∀ x ∈ bs, x < 256) (hn : n = xs.length) (hm : m = bs.length)
    (hR : Row w4 B 5 1 A' (n + m) c' (numCells .u8 xs ++ numCells .u8 bs)) (hK : Kept (AtRow A) w3 w4) (hT : RowTo w3 A A') :
    AddPost w B g xs bs Y (.returned (.tuple #[])) ((w4.setCell ⟨gb, 0, none⟩ (.slice A' (n + m) c')).setCell ⟨g, 1, none⟩ (.int .i64 (((n + m : Nat) : Nat) : Int))) := by
  obtain ⟨h1, h2, h3, h4, h5, h6, h7, h8, h9⟩ := h
  subst hn hm
  have hg := (h1 g h2).2
  have hgb := (h1 gb h5).2
  have ha : ∀ q, AtRow A' q → (Y' q ∨ w3.heap.size ≤ q) ∧ q < w4.heap.size ∧ q ≠ g ∧ q ≠ gb ∧ B ≤ q := by
    intro q hq
    obtain ⟨ad, e1, e2⟩ := hq
    rcases hR.cases with ⟨_, _, _, ⟨e3, _⟩ | ⟨q', e3, e4, e5, _⟩⟩
    · rw [e3] at e1; cases e1
    · rw [e3] at e1
      cases e1
      simp only at e2
      subst e2
      rcases hT with e6 | ⟨q2, e6, e7⟩
      · have := h6 q' ⟨_, by rw [← e6, e3], rfl⟩
        exact ⟨.inl this.1, e5, this.2.1, this.2.2, e4⟩
      · rw [e3] at e6
        cases e6
        exact ⟨.inr e7, e5, by omega, by omega, e4⟩
  have b1 : Blk w4 g 43 #[.pointer (some ⟨gb, 0, none⟩), .int .i64 ((xs.length : Nat) : Int)] := h7.kept hK (fun hq => (h6 g hq).2.1 rfl)
  have b2 : Blk w4 gb 60 #[.slice A xs.length c] := h8.kept hK (fun hq => (h6 gb hq).2.2 rfl)
  have hlen : (xs ++ bs).length = xs.length + bs.length := List.length_append
  have ncs : numCells .u8 xs ++ numCells .u8 bs = numCells .u8 (xs ++ bs) := (numCells_append _ _ _).symm
  rw [ncs] at hR
  have k4 : Kept (fun k => k = g ∨ k = gb) w4 ((w4.setCell ⟨gb, 0, none⟩ (.slice A' (xs.length + bs.length) c')).setCell ⟨g, 1, none⟩ (.int .i64 (((xs.length + bs.length : Nat) : Nat) : Int))) :=
    Kept.setCell (F := fun k => k = g ∨ k = gb) (Kept.setCell (F := fun k => k = g ∨ k = gb) (Kept.refl _ _) (p := ⟨gb, 0, none⟩) (fun _ => .inr rfl) _) (p := ⟨g, 1, none⟩) (fun _ => .inl rfl) _
  have hsz : ((w4.setCell ⟨gb, 0, none⟩ (.slice A' (xs.length + bs.length) c')).setCell ⟨g, 1, none⟩ (.int .i64 (((xs.length + bs.length : Nat) : Nat) : Int))).heap.size = w4.heap.size := by simp [World.setCell]
  refine ⟨rfl, fun k => Y' k ∨ AtRow A' k, ⟨fun k hy => ?_, .inl h2, fun x hx => ?_, .inr ⟨gb, A', c', h4, .inl h5, fun q hq => ⟨.inr hq, (ha q hq).2.2.1, (ha q hq).2.2.2.1⟩, ?_, ?_, ?_⟩⟩, fun k hy => ?_, ?_⟩
  · rw [hsz]
    rcases hy with hy | hy
    · exact ⟨(h1 k hy).1, Nat.lt_of_lt_of_le (h1 k hy).2 hK.size⟩
    · exact ⟨(ha k hy).2.2.2.2, (ha k hy).2.1⟩
  · rcases List.mem_append.1 hx with hx | hx
    · exact h3 x hx
    · exact hb x hx
  · have := (b1.far (p := ⟨gb, 0, none⟩) (fun e => h4 e.symm) (.slice A' (xs.length + bs.length) c')).put 1 (.int .i64 (((xs.length + bs.length : Nat) : Nat) : Int))
    rw [hlen]
    simpa using this
  · have := (b2.put 0 (.slice A' (xs.length + bs.length) c')).far (p := ⟨g, 1, none⟩) h4 (.int .i64 (((xs.length + bs.length : Nat) : Nat) : Int))
    rw [hlen]
    simpa using this
  · rw [hlen]
    exact hR.kept k4 (fun q hq hf => by
      have := ha q ⟨_, hq, rfl⟩
      rcases hf with rfl | rfl
      · exact this.2.2.1 rfl
      · exact this.2.2.2.1 rfl)
  · rcases hy with hy | hy
    · exact hY k hy
    · rcases (ha k hy).1 with h | h
      · exact hY k h
      · exact .inr (Nat.le_trans hk.size h)
  · have k5 : Kept Y w w4 := hk.next hK (fun i hi hq => (hY i (h6 i hq).1).resolve_right (by omega))
    exact k5.next k4 (fun i hi hf => by
      rcases hf with rfl | rfl
      · exact (hY _ h2).resolve_right (by omega)
      · exact (hY _ h5).resolve_right (by omega))
set_option maxRecDepth 100000 in
set_option maxHeartbeats 2000000 in
theorem add_nil_c (A : Option Addr) (m c : Nat) (w : World) : Calls Tryd.prog 24 #[.pointer none, .slice A m c] w fun e w' => e = .returned (.tuple #[]) ∧ w' = w := by
  go_enter Tryd.func24, Tryd.ntmps24
  go_wp2_with fail
  refine bodyPost_ret (results_none rfl _ _ _) rfl ?_
  exact ⟨rfl, rfl⟩
theorem Kept.of_drew {F : Nat → Prop} {w w' : World} (h : Kept F w.drew w') : Kept F w w' := ⟨h.os, h.tape, h.output, h.size, h.block⟩
theorem RowTo.of_drew {w : World} {A A' : Option Addr} (h : RowTo w.drew A A') : RowTo w A A' := h
theorem WrIn.mid {w3 w4 : World} {B g : Nat} {xs : List Nat} {Y : Nat → Prop} {gb : Nat} {A : Option Addr} {c : Nat} (h : WrIn w3 B g xs Y gb A c) (hK : Kept (AtRow A) w3 w4) :
    w4.cell? ⟨g, 0, none⟩ = some (.pointer (some ⟨gb, 0, none⟩)) ∧ w4.cell? ⟨g, 1, none⟩ = some (.int .i64 ((xs.length : Nat) : Int)) ∧ w4.cell? ⟨gb, 0, none⟩ = some (.slice A xs.length c) ∧ w4.frozen? ⟨g, 1, none⟩ = false ∧ w4.frozen? ⟨gb, 0, none⟩ = false := by
  obtain ⟨h1, h2, h3, h4, h5, h6, h7, h8, h9⟩ := h
  have b1 := h7.kept hK (fun hq => (h6 g hq).2.1 rfl)
  have b2 := h8.kept hK (fun hq => (h6 gb hq).2.2 rfl)
  have c0 := b1.cell 0
  have c1 := b1.cell 1
  have b0 := b2.cell 0
  simp only [List.getElem?_toArray, List.getElem?_cons_zero, List.getElem?_cons_succ] at c0 c1 b0
  exact ⟨c0, c1, b0, b1.frozen 1, b2.frozen 0⟩
/-- The Writer that gets its buffer. -/
theorem WrIn.begin {w w2 : World} {B g : Nat} {xs : List Nat} {Y : Nat → Prop} {A : Option Addr} {c n : Nat} (h1 : ∀ k, Y k → B ≤ k ∧ k < w.heap.size) (h2 : Y g) (hx : xs = []) (hn : n = xs.length) (hB : B ≤ w.heap.size) (hb : Blk w g 43 #[.pointer none, .int .i64 0]) (hg : Grew w w2) (hR : Row w2 w.heap.size 5 1 A n c (numCells .u8 xs)) :
    ∃ Y', WrIn ((w2.setCell ⟨g, 0, none⟩ (.pointer (some ⟨w2.heap.size, 0, none⟩))).alloc (.cells #[.slice A n c] 60)) B g xs Y' w2.heap.size A c ∧ (∀ k, Y' k → Y k ∨ w.heap.size ≤ k) ∧ Kept Y w ((w2.setCell ⟨g, 0, none⟩ (.pointer (some ⟨w2.heap.size, 0, none⟩))).alloc (.cells #[.slice A n c] 60)) ∧
      Kept (· = g) w ((w2.setCell ⟨g, 0, none⟩ (.pointer (some ⟨w2.heap.size, 0, none⟩))).alloc (.cells #[.slice A n c] 60)) := by
  subst hx
  have hlt := (h1 g h2).2
  have hsz := hg.below.size
  have hk : Kept (· = g) w2 (w2.setCell ⟨g, 0, none⟩ (.pointer (some ⟨w2.heap.size, 0, none⟩))) := Kept.setCell (F := (· = g)) (Kept.refl _ _) (p := ⟨g, 0, none⟩) (fun _ => rfl) _
  have hs3 : (w2.setCell ⟨g, 0, none⟩ (.pointer (some ⟨w2.heap.size, 0, none⟩))).heap.size = w2.heap.size := by simp [World.setCell]
  have hb3 := (hb.grew hg).put 0 (.pointer (some ⟨w2.heap.size, 0, none⟩))
  have hR3 := hR.kept hk (fun q hq e => by
    rcases hR.cases with ⟨_, _, _, ⟨e3, _⟩ | ⟨q', e3, e4, e5, _⟩⟩
    · rw [e3] at hq; cases hq
    · rw [e3] at hq
      cases hq
      omega)
  generalize w2.setCell ⟨g, 0, none⟩ (.pointer (some ⟨w2.heap.size, 0, none⟩)) = w3 at *
  have hs4 : (w3.alloc (.cells #[.slice A n c] 60)).heap.size = w3.heap.size + 1 := by simp only [World.size_alloc]
  have hgap : Grew w3 (w3.alloc (.cells #[.slice A n c] 60)) := (Grew.refl w3).alloc _
  have hnew := Blk.new w3 60 #[.slice A n c]
  rw [hs3] at hnew
  generalize w3.alloc (.cells #[.slice A n c] 60) = w4 at *
  have ha : ∀ q, AtRow A q → w.heap.size ≤ q ∧ q < w2.heap.size := by
    intro q hq
    obtain ⟨ad, e1, e2⟩ := hq
    rcases hR.cases with ⟨_, _, _, ⟨e3, _⟩ | ⟨q', e3, e4, e5, _⟩⟩
    · rw [e3] at e1; cases e1
    · rw [e3] at e1
      cases e1
      rw [← e2]
      exact ⟨e4, e5⟩
  have hK : Kept (· = g) w w4 := ((Kept.of_grew hg).trans hk).trans (.of_grew hgap)
  refine ⟨fun k => Y k ∨ (w.heap.size ≤ k ∧ k < w4.heap.size), ⟨fun k hy => ?_, .inl h2, by simp, by omega, .inr ⟨hsz, by omega⟩, fun q hq => ?_, ?_, ?_, ?_⟩, fun k hy => ?_, ?_, hK⟩
  · rcases hy with hy | hy
    · have := h1 k hy
      omega
    · omega
  · have := ha q hq
    exact ⟨.inr ⟨this.1, by omega⟩, by omega, by omega⟩
  · have := hb3.grew hgap
    simpa using this
  · rw [← hn]
    exact hnew
  · rw [← hn]
    exact (hR3.low hB).grew hgap
  · rcases hy with hy | hy
    · exact .inl hy
    · exact .inr hy.1
  · exact hK.mono (fun i hi e => by rw [e]; exact h2)
set_option maxRecDepth 100000 in
set_option maxHeartbeats 4000000 in
theorem add_c (B g : Nat) (xs : List Nat) (Y : Nat → Prop) (A2 : Option Addr) (c2 : Nat) (bs : List Nat) (w : World) (h : WrAt w B g xs Y) (hB : B ≤ w.heap.size) (hb : NumsAt .u8 w w.heap.size A2 bs) (hd : ∀ ad, A2 = some ad → ad.block ≠ g) (hx : ∀ x ∈ bs, x < 256) (hl : xs.length + bs.length ≤ 1000000000000) :
    Calls Tryd.prog 24 #[.pointer (some ⟨g, 0, none⟩), .slice A2 bs.length c2] w (AddPost w B g xs bs Y) := by
  have HAll := hid (fun (w1 : World) (hg : Grew w w1) => all_c B g xs Y w1 (h.grew hg) (by omega))
  have HBs := hid hb
  have HX := hid hx
  have HL := hid hl
  have HD := hid hd
  obtain ⟨n, en⟩ : ∃ n, n = xs.length := ⟨_, rfl⟩
  obtain ⟨m, em⟩ : ∃ m, m = bs.length := ⟨_, rfl⟩
  rw [← em]
  have EN := hid (And.intro en em)
  unfold AllPost at HAll
  rw [← en] at HAll
  clear hb hx hl hd em
  obtain ⟨h1, h2, h3, h4⟩ := h
  have hlt := (h1 g h2).2
  have H123 := hid (And.intro h1 (And.intro h2 h3))
  clear h1 h2 h3
  rcases h4 with ⟨h4, hxs⟩ | ⟨gb, A, c, h5, h6, h7, h8, h9, h10⟩
  · have c0 := h4.cell 0
    have f0 := h4.frozen 0
    simp only [List.getElem?_toArray, List.getElem?_cons_zero] at c0
    have H4 := hid h4
    have HXS := hid hxs
    clear h4 hxs en
    go_enter Tryd.func24, Tryd.ntmps24
    go_wp2_with fail
    go_quiet (fail)
    have hgq : Grew w (w.drewN nq) := Grew.mk (below_drewN (Below.refl _ _) nq)
    obtain ⟨y, hy⟩ := hgq
    rw [hy]
    clear hy
    go_wp2_with fail
    refine (HAll.out _ y.grew).mono ?_
    rintro e w2 ⟨A, c, rfl, hR, hG⟩
    have HR := hid (hR.low (B' := w.heap.size) y.grew.below.size)
    obtain ⟨y2, rfl⟩ := y.grew.trans hG
    clear hR hG HAll
    go_upto_region 3 with fail
    have hbeg := WrIn.begin H123.out.1 H123.out.2.1 HXS.out EN.out.1 hB H4.out y2.grew HR.out
    have hsz := y2.grew.below.size
    obtain ⟨Y', hIn, hY2, hKy, hKg⟩ := hbeg
    have HIn2 := hid hIn
    have HY2 := hid hY2
    have HKy := hid hKy
    have HBs2 := hid (NumsAt.kept HBs.out hKg (Nat.le_refl _) HD.out).cells
    clear hIn hY2 hKy hKg c0 f0
    generalize (y2.w.setCell ⟨g, 0, none⟩ (.pointer (some ⟨y2.w.heap.size, 0, none⟩))).alloc (.cells #[.slice A n c] 60) = wx at *
    generalize y2.w.heap.size = gb at *
    have HB' := hid (Nat.le_trans hB (HKy.out.size))
    have HRow := hid (HIn2.out.2.2.2.2.2.2.2.2)
    rw [← EN.out.1] at HRow
    obtain ⟨c0, c1, b0, f1, fb⟩ := HIn2.out.mid (Kept.refl _ _)
    rw [← EN.out.1] at c1 b0
    clear HR H4 HBs H123 HXS
    go_region_law (refine step_catR (.int .u8 0) 1 1 rfl _ _ 23 5 rfl Tryd.underlying23 v6_u8 rfl (by decide) B HB'.out A n c (numCells .u8 xs) (by simp [Act.eval]) HRow.out A2 m c2 (numCells .u8 bs) (by simp [Act.eval]) (by rw [numCells_length, EN.out.2]; omega) (numCells_one _ _) (fun h => by rw [EN.out.2]; exact HBs2.out.1 h) HBs2.out.2 (by have := HL.out; have := EN.out; omega) (by have := HL.out; have := EN.out; omega) ?_; rintro A' c' w4 hR4 hK4 hT4; obtain ⟨d0, d1, d2, d3, d4⟩ := HIn2.out.mid hK4.of_drew; rw [← EN.out.1] at d1 d2)
    all_goals
      have HEnd := hid (add_done HIn2.out HY2.out HKy.out HX.out EN.out.1 EN.out.2 hR4 hK4.of_drew hT4.of_drew)
      clear hR4 hK4 hT4
      have q1 : ¬ gb = g := HIn2.out.2.2.2.1
      have q2 : ¬ g = gb := fun h => q1 h.symm
      go_wp2_with fail
      go_end0
      exact HEnd.out
  · have HIn := hid (show WrIn w B g xs Y gb A c from ⟨H123.out.1, H123.out.2.1, H123.out.2.2, h5, h6, h7, h8, h9, h10⟩)
    obtain ⟨c0, c1, b0, f1, fb⟩ := HIn.out.mid (Kept.refl _ _)
    rw [← en] at c1 b0
    clear h5 h6 h7 h8 h9 h10 en HAll
    go_enter Tryd.func24, Tryd.ntmps24
    go_wp2_with fail
    go_quiet (fail)
    have hgq : Grew w (w.drewN nq) := Grew.mk (below_drewN (Below.refl _ _) nq)
    obtain ⟨y, hy⟩ := hgq
    rw [hy]
    clear hy
    go_upto_region 3 with fail
    have HRow := hid (HIn.out.2.2.2.2.2.2.2.2.grew y.grew)
    rw [← EN.out.1] at HRow
    have HB' := hid (Nat.le_trans hB y.grew.below.size)
    have HKy := hid (show Kept Y w y.w from .of_grew y.grew)
    have HIn2 := hid (show WrIn y.w B g xs Y gb A c from by
      obtain ⟨h1, h2, h3, h4, h5, h6, h7, h8, h9⟩ := HIn.out
      exact ⟨fun k hk => ⟨(h1 k hk).1, Nat.lt_of_lt_of_le (h1 k hk).2 y.grew.below.size⟩, h2, h3, h4, h5, h6, h7.grew y.grew, h8.grew y.grew, h9.grew y.grew⟩)
    have HBs2 := hid ((HBs.out.grew y.grew).cells)
    clear HIn c0 c1 b0 f1 fb
    generalize y.w = wx at *
    obtain ⟨c0, c1, b0, f1, fb⟩ := HIn2.out.mid (Kept.refl _ _)
    rw [← EN.out.1] at c1 b0
    have HY2 := hid (show ∀ k, Y k → Y k ∨ w.heap.size ≤ k from fun k h => .inl h)
    go_region_law (refine step_catR (.int .u8 0) 1 1 rfl _ _ 23 5 rfl Tryd.underlying23 v6_u8 rfl (by decide) B HB'.out A n c (numCells .u8 xs) (by simp [Act.eval]) HRow.out A2 m c2 (numCells .u8 bs) (by simp [Act.eval]) (by rw [numCells_length, EN.out.2]; omega) (numCells_one _ _) (fun h => by rw [EN.out.2]; exact HBs2.out.1 h) HBs2.out.2 (by have := HL.out; have := EN.out; omega) (by have := HL.out; have := EN.out; omega) ?_; rintro A' c' w4 hR4 hK4 hT4; obtain ⟨d0, d1, d2, d3, d4⟩ := HIn2.out.mid hK4.of_drew; rw [← EN.out.1] at d1 d2)
    all_goals
      have HEnd := hid (add_done HIn2.out HY2.out HKy.out HX.out EN.out.1 EN.out.2 hR4 hK4.of_drew hT4.of_drew)
      clear hR4 hK4 hT4
      have q1 : ¬ gb = g := HIn2.out.2.2.2.1
      have q2 : ¬ g = gb := fun h => q1 h.symm
      go_wp2_with fail
      go_end0
      exact HEnd.out
end Go.Proofs.YtglekjhbpdoofaaDoor

/- Parts of elder texts that this layer needs, joined: XPk5 XPk6 XPk7. -/
import Derived.Test.YtjdgcgpidhljpaaGreatDoorYPkA
import Derived.StillTailTactics
import Derived.BigQuiet
import Derived.Deep.QuietTactic
import Derived.Test.YtjdgcgpidhljpaaGreatDoorYViA
import Derived.Laws.IdiomStrings
namespace Go.Proofs.YtjdgcgpidhljpaaGreatDoor
open Go.RowKit

/-- A Writer at block 'g' that holds 'xs'; 'Y': the blocks that it lies in, from block 'B' on. -/
def WrAt (w : World) (B g : Nat) (xs : List Nat) (Y : Nat → Prop) : Prop :=
  (∀ k, Y k → B ≤ k ∧ k < w.heap.size) ∧ Y g ∧ (∀ x ∈ xs, x < 256) ∧
  ((Blk w g 73 #[.pointer none, .int .i64 0] ∧ xs = []) ∨
   ∃ gb A c, gb ≠ g ∧ Y gb ∧ (∀ q, AtRow A q → Y q ∧ q ≠ g ∧ q ≠ gb) ∧ Blk w g 73 #[.pointer (some ⟨gb, 0, none⟩), .int .i64 ((xs.length : Nat) : Int)] ∧ Blk w gb 128 #[.slice A xs.length c] ∧ Row w B 5 1 A xs.length c (numCells .u8 xs))
theorem WrAt.kept {F : Nat → Prop} {w w' : World} {B g : Nat} {xs : List Nat} {Y : Nat → Prop} (h : WrAt w B g xs Y) (hk : Kept F w w') (hF : ∀ k, Y k → ¬ F k) : WrAt w' B g xs Y := by
  obtain ⟨h1, h2, h3, h4⟩ := h
  refine ⟨fun k hy => ⟨(h1 k hy).1, Nat.lt_of_lt_of_le (h1 k hy).2 hk.size⟩, h2, h3, ?_⟩
  rcases h4 with ⟨h4, h5⟩ | ⟨gb, A, c, h5, h6, h7, h8, h9, h10⟩
  · exact .inl ⟨h4.kept hk (hF g h2), h5⟩
  · exact .inr ⟨gb, A, c, h5, h6, h7, h8.kept hk (hF g h2), h9.kept hk (hF gb h6), h10.kept hk (fun q hq => hF q (h7 q ⟨_, hq, rfl⟩).1)⟩
theorem WrAt.grew {w w' : World} {B g : Nat} {xs : List Nat} {Y : Nat → Prop} (h : WrAt w B g xs Y) (hg : Grew w w') : WrAt w' B g xs Y := h.kept (F := fun _ => False) (.of_grew hg) (fun _ _ h => h)
theorem WrAt.lt {w : World} {B g : Nat} {xs : List Nat} {Y : Nat → Prop} (h : WrAt w B g xs Y) : g < w.heap.size := (h.1 g h.2.1).2

def AllPost (w : World) (xs : List Nat) (e : Ending) (w' : World) : Prop :=
  ∃ A c, e = .returned (.slice A xs.length c) ∧ Row w' w.heap.size 5 1 A xs.length c (numCells .u8 xs) ∧ Grew w w'
theorem AllPost.clone {w w1 w' : World} {xs : List Nat} {e : Ending} (hg : Grew w w1) (h : ClonePost w1 xs e w') : AllPost w xs e w' := by
  obtain ⟨A, c, h1, h2, h3⟩ := h
  exact ⟨A, c, h1, h2.low hg.below.size, hg.trans h3⟩

set_option maxRecDepth 100000 in
set_option maxHeartbeats 2000000 in
theorem all_c (B g : Nat) (xs : List Nat) (Y : Nat → Prop) (w : World) (h : WrAt w B g xs Y) (hl : xs.length ≤ 1000000000000) :
    Calls Tryz.prog 27 #[.pointer (some ⟨g, 0, none⟩)] w (AllPost w xs) := by
  obtain ⟨_, _, _, h4⟩ := h
  rcases h4 with ⟨h4, rfl⟩ | ⟨gb, A, c, h5, h6, h7, h8, h9, h10⟩
  · have c0 := h4.cell 0
    simp only [List.getElem?_toArray, List.getElem?_cons_zero] at c0
    clear h4 hl
    go_enter Tryz.func27, Tryz.ntmps27
    go_wp2_with fail
    go_ret
    exact ⟨none, 0, rfl, Row.nil _ _ _ _, Grew.refl _⟩
  · have c0 := h8.cell 0
    have c1 := h8.cell 1
    have b0 := h9.cell 0
    simp only [List.getElem?_toArray, List.getElem?_cons_zero, List.getElem?_cons_succ] at c0 c1 b0
    have hq := h10.cases.2.1
    have hn := h10.nums
    have CC := hid (fun (w1 : World) (hg : Grew w w1) => (clone_c A c xs w1 (hn.grew hg) (by omega)).mono (fun _ _ h => AllPost.clone hg h))
    have t0 : 0 ≤ (xs.length : Int) := by omega
    have t1 : (xs.length : Int) ≤ c := by omega
    clear h5 h6 h7 h8 h9 h10 hn hq hl
    go_enter Tryz.func27, Tryz.ntmps27
    go_wp2_with fail
    go_still_tail 12, (by kernel_rfl)
    change wpList _ _ _ _ _ w.drew
    go_wp2_with fail
    refine (CC.out _ (Grew.refl _).drew).mono ?_
    rintro e w2 ⟨A2, c2, rfl, hR, hG⟩
    go_wp2_with fail
    go_ret
    exact ⟨A2, c2, rfl, hR, hG⟩
end Go.Proofs.YtjdgcgpidhljpaaGreatDoor
namespace Go.Proofs.YtjdgcgpidhljpaaGreatDoor
open Go.RowKit

/-- A Writer with a buffer. -/
def WrIn (w : World) (B g : Nat) (xs : List Nat) (Y : Nat → Prop) (gb : Nat) (A : Option Addr) (c : Nat) : Prop :=
  (∀ k, Y k → B ≤ k ∧ k < w.heap.size) ∧ Y g ∧ (∀ x ∈ xs, x < 256) ∧ gb ≠ g ∧ Y gb ∧ (∀ q, AtRow A q → Y q ∧ q ≠ g ∧ q ≠ gb) ∧ Blk w g 73 #[.pointer (some ⟨gb, 0, none⟩), .int .i64 ((xs.length : Nat) : Int)] ∧ Blk w gb 128 #[.slice A xs.length c] ∧ Row w B 5 1 A xs.length c (numCells .u8 xs)
theorem WrIn.at {w : World} {B g : Nat} {xs : List Nat} {Y : Nat → Prop} {gb : Nat} {A : Option Addr} {c : Nat} (h : WrIn w B g xs Y gb A c) : WrAt w B g xs Y :=
  ⟨h.1, h.2.1, h.2.2.1, .inr ⟨gb, A, c, h.2.2.2.1, h.2.2.2.2.1, h.2.2.2.2.2.1, h.2.2.2.2.2.2.1, h.2.2.2.2.2.2.2.1, h.2.2.2.2.2.2.2.2⟩⟩
def AddPost (w : World) (B g : Nat) (xs bs : List Nat) (Y : Nat → Prop) (e : Ending) (w' : World) : Prop :=
  e = .returned (.tuple #[]) ∧ ∃ Y2, WrAt w' B g (xs ++ bs) Y2 ∧ (∀ k, Y2 k → Y k ∨ w.heap.size ≤ k) ∧ Kept Y w w'
/-- What the three stores leave. -/
theorem add_done {w w3 w4 : World} {B g : Nat} {xs bs : List Nat} {Y Y' : Nat → Prop} {gb : Nat} {A A' : Option Addr} {c c' n m : Nat} (h : WrIn w3 B g xs Y' gb A c) (hY : ∀ k, Y' k → Y k ∨ w.heap.size ≤ k) (hk : Kept Y w w3) (hb : ∀ x ∈ bs, x < 256) (hn : n = xs.length) (hm : m = bs.length)
    (hR : Row w4 B 5 1 A' (n + m) c' (numCells .u8 xs ++ numCells .u8 bs)) (hK : Kept (AtRow A) w3 w4) (hT : RowTo w3 A A') :
    AddPost w B g xs bs Y (.returned (.tuple #[])) ((w4.setCell ⟨gb, 0, none⟩ (.slice A' (n + m) c')).setCell ⟨g, 1, none⟩ (.int .i64 (((n + m : Nat) : Nat) : Int))) := by
  obtain ⟨h1, h2, h3, h4, h5, h6, h7, h8, h9⟩ := h
  subst hn hm
  have hg := (h1 g h2).2
  have hgb := (h1 gb h5).2
  have ha : ∀ q, AtRow A' q → (Y' q ∨ w3.heap.size ≤ q) ∧ q < w4.heap.size ∧ q ≠ g ∧ q ≠ gb ∧ B ≤ q := by
    intro q hq
    obtain ⟨ad, e1, e2⟩ := hq
    rcases hR.cases with ⟨_, _, _, ⟨e3, _⟩ | ⟨q', e3, e4, e5, _⟩⟩
    · rw [e3] at e1; cases e1
    · rw [e3] at e1
      cases e1
      simp only at e2
      subst e2
      rcases hT with e6 | ⟨q2, e6, e7⟩
      · have := h6 q' ⟨_, by rw [← e6, e3], rfl⟩
        exact ⟨.inl this.1, e5, this.2.1, this.2.2, e4⟩
      · rw [e3] at e6
        cases e6
        exact ⟨.inr e7, e5, by omega, by omega, e4⟩
  have b1 : Blk w4 g 73 #[.pointer (some ⟨gb, 0, none⟩), .int .i64 ((xs.length : Nat) : Int)] := h7.kept hK (fun hq => (h6 g hq).2.1 rfl)
  have b2 : Blk w4 gb 128 #[.slice A xs.length c] := h8.kept hK (fun hq => (h6 gb hq).2.2 rfl)
  have hlen : (xs ++ bs).length = xs.length + bs.length := List.length_append
  have ncs : numCells .u8 xs ++ numCells .u8 bs = numCells .u8 (xs ++ bs) := (numCells_append _ _ _).symm
  rw [ncs] at hR
  have k4 : Kept (fun k => k = g ∨ k = gb) w4 ((w4.setCell ⟨gb, 0, none⟩ (.slice A' (xs.length + bs.length) c')).setCell ⟨g, 1, none⟩ (.int .i64 (((xs.length + bs.length : Nat) : Nat) : Int))) :=
    Kept.setCell (F := fun k => k = g ∨ k = gb) (Kept.setCell (F := fun k => k = g ∨ k = gb) (Kept.refl _ _) (p := ⟨gb, 0, none⟩) (fun _ => .inr rfl) _) (p := ⟨g, 1, none⟩) (fun _ => .inl rfl) _
  have hsz : ((w4.setCell ⟨gb, 0, none⟩ (.slice A' (xs.length + bs.length) c')).setCell ⟨g, 1, none⟩ (.int .i64 (((xs.length + bs.length : Nat) : Nat) : Int))).heap.size = w4.heap.size := by simp [World.setCell]
  refine ⟨rfl, fun k => Y' k ∨ AtRow A' k, ⟨fun k hy => ?_, .inl h2, fun x hx => ?_, .inr ⟨gb, A', c', h4, .inl h5, fun q hq => ⟨.inr hq, (ha q hq).2.2.1, (ha q hq).2.2.2.1⟩, ?_, ?_, ?_⟩⟩, fun k hy => ?_, ?_⟩
  · rw [hsz]
    rcases hy with hy | hy
    · exact ⟨(h1 k hy).1, Nat.lt_of_lt_of_le (h1 k hy).2 hK.size⟩
    · exact ⟨(ha k hy).2.2.2.2, (ha k hy).2.1⟩
  · rcases List.mem_append.1 hx with hx | hx
    · exact h3 x hx
    · exact hb x hx
  · have := (b1.far (p := ⟨gb, 0, none⟩) (fun e => h4 e.symm) (.slice A' (xs.length + bs.length) c')).put 1 (.int .i64 (((xs.length + bs.length : Nat) : Nat) : Int))
    rw [hlen]
    simpa using this
  · have := (b2.put 0 (.slice A' (xs.length + bs.length) c')).far (p := ⟨g, 1, none⟩) h4 (.int .i64 (((xs.length + bs.length : Nat) : Nat) : Int))
    rw [hlen]
    simpa using this
  · rw [hlen]
    exact hR.kept k4 (fun q hq hf => by
      have := ha q ⟨_, hq, rfl⟩
      rcases hf with rfl | rfl
      · exact this.2.2.1 rfl
      · exact this.2.2.2.1 rfl)
  · rcases hy with hy | hy
    · exact hY k hy
    · rcases (ha k hy).1 with h | h
      · exact hY k h
      · exact .inr (Nat.le_trans hk.size h)
  · have k5 : Kept Y w w4 := hk.next hK (fun i hi hq => (hY i (h6 i hq).1).resolve_right (by omega))
    exact k5.next k4 (fun i hi hf => by
      rcases hf with rfl | rfl
      · exact (hY _ h2).resolve_right (by omega)
      · exact (hY _ h5).resolve_right (by omega))
theorem Kept.of_drew {F : Nat → Prop} {w w' : World} (h : Kept F w.drew w') : Kept F w w' := ⟨h.os, h.tape, h.output, h.size, h.block⟩
theorem RowTo.of_drew {w : World} {A A' : Option Addr} (h : RowTo w.drew A A') : RowTo w A A' := h
theorem WrIn.mid {w3 w4 : World} {B g : Nat} {xs : List Nat} {Y : Nat → Prop} {gb : Nat} {A : Option Addr} {c : Nat} (h : WrIn w3 B g xs Y gb A c) (hK : Kept (AtRow A) w3 w4) :
    w4.cell? ⟨g, 0, none⟩ = some (.pointer (some ⟨gb, 0, none⟩)) ∧ w4.cell? ⟨g, 1, none⟩ = some (.int .i64 ((xs.length : Nat) : Int)) ∧ w4.cell? ⟨gb, 0, none⟩ = some (.slice A xs.length c) ∧ w4.frozen? ⟨g, 1, none⟩ = false ∧ w4.frozen? ⟨gb, 0, none⟩ = false := by
  obtain ⟨h1, h2, h3, h4, h5, h6, h7, h8, h9⟩ := h
  have b1 := h7.kept hK (fun hq => (h6 g hq).2.1 rfl)
  have b2 := h8.kept hK (fun hq => (h6 gb hq).2.2 rfl)
  have c0 := b1.cell 0
  have c1 := b1.cell 1
  have b0 := b2.cell 0
  simp only [List.getElem?_toArray, List.getElem?_cons_zero, List.getElem?_cons_succ] at c0 c1 b0
  exact ⟨c0, c1, b0, b1.frozen 1, b2.frozen 0⟩
/-- The Writer that gets its buffer. -/
theorem WrIn.begin {w w2 : World} {B g : Nat} {xs : List Nat} {Y : Nat → Prop} {A : Option Addr} {c n : Nat} (h1 : ∀ k, Y k → B ≤ k ∧ k < w.heap.size) (h2 : Y g) (hx : xs = []) (hn : n = xs.length) (hB : B ≤ w.heap.size) (hb : Blk w g 73 #[.pointer none, .int .i64 0]) (hg : Grew w w2) (hR : Row w2 w.heap.size 5 1 A n c (numCells .u8 xs)) :
    ∃ Y', WrIn ((w2.setCell ⟨g, 0, none⟩ (.pointer (some ⟨w2.heap.size, 0, none⟩))).alloc (.cells #[.slice A n c] 128)) B g xs Y' w2.heap.size A c ∧ (∀ k, Y' k → Y k ∨ w.heap.size ≤ k) ∧ Kept Y w ((w2.setCell ⟨g, 0, none⟩ (.pointer (some ⟨w2.heap.size, 0, none⟩))).alloc (.cells #[.slice A n c] 128)) ∧
      Kept (· = g) w ((w2.setCell ⟨g, 0, none⟩ (.pointer (some ⟨w2.heap.size, 0, none⟩))).alloc (.cells #[.slice A n c] 128)) := by
  subst hx
  have hlt := (h1 g h2).2
  have hsz := hg.below.size
  have hk : Kept (· = g) w2 (w2.setCell ⟨g, 0, none⟩ (.pointer (some ⟨w2.heap.size, 0, none⟩))) := Kept.setCell (F := (· = g)) (Kept.refl _ _) (p := ⟨g, 0, none⟩) (fun _ => rfl) _
  have hs3 : (w2.setCell ⟨g, 0, none⟩ (.pointer (some ⟨w2.heap.size, 0, none⟩))).heap.size = w2.heap.size := by simp [World.setCell]
  have hb3 := (hb.grew hg).put 0 (.pointer (some ⟨w2.heap.size, 0, none⟩))
  have hR3 := hR.kept hk (fun q hq e => by
    rcases hR.cases with ⟨_, _, _, ⟨e3, _⟩ | ⟨q', e3, e4, e5, _⟩⟩
    · rw [e3] at hq; cases hq
    · rw [e3] at hq
      cases hq
      omega)
  generalize w2.setCell ⟨g, 0, none⟩ (.pointer (some ⟨w2.heap.size, 0, none⟩)) = w3 at *
  have hs4 : (w3.alloc (.cells #[.slice A n c] 128)).heap.size = w3.heap.size + 1 := by simp only [World.size_alloc]
  have hgap : Grew w3 (w3.alloc (.cells #[.slice A n c] 128)) := (Grew.refl w3).alloc _
  have hnew := Blk.new w3 128 #[.slice A n c]
  rw [hs3] at hnew
  generalize w3.alloc (.cells #[.slice A n c] 128) = w4 at *
  have ha : ∀ q, AtRow A q → w.heap.size ≤ q ∧ q < w2.heap.size := by
    intro q hq
    obtain ⟨ad, e1, e2⟩ := hq
    rcases hR.cases with ⟨_, _, _, ⟨e3, _⟩ | ⟨q', e3, e4, e5, _⟩⟩
    · rw [e3] at e1; cases e1
    · rw [e3] at e1
      cases e1
      rw [← e2]
      exact ⟨e4, e5⟩
  have hK : Kept (· = g) w w4 := ((Kept.of_grew hg).trans hk).trans (.of_grew hgap)
  refine ⟨fun k => Y k ∨ (w.heap.size ≤ k ∧ k < w4.heap.size), ⟨fun k hy => ?_, .inl h2, by simp, by omega, .inr ⟨hsz, by omega⟩, fun q hq => ?_, ?_, ?_, ?_⟩, fun k hy => ?_, ?_, hK⟩
  · rcases hy with hy | hy
    · have := h1 k hy
      omega
    · omega
  · have := ha q hq
    exact ⟨.inr ⟨this.1, by omega⟩, by omega, by omega⟩
  · have := hb3.grew hgap
    simpa using this
  · rw [← hn]
    exact hnew
  · rw [← hn]
    exact (hR3.low hB).grew hgap
  · rcases hy with hy | hy
    · exact .inl hy
    · exact .inr hy.1
  · exact hK.mono (fun i hi e => by rw [e]; exact h2)
set_option maxRecDepth 100000 in
set_option maxHeartbeats 4000000 in
theorem add_c (B g : Nat) (xs : List Nat) (Y : Nat → Prop) (A2 : Option Addr) (c2 : Nat) (bs : List Nat) (w : World) (h : WrAt w B g xs Y) (hB : B ≤ w.heap.size) (hb : NumsAt .u8 w w.heap.size A2 bs) (hd : ∀ ad, A2 = some ad → ad.block ≠ g) (hx : ∀ x ∈ bs, x < 256) (hl : xs.length + bs.length ≤ 1000000000000) :
    Calls Tryz.prog 65 #[.pointer (some ⟨g, 0, none⟩), .slice A2 bs.length c2] w (AddPost w B g xs bs Y) := by
  have HAll := hid (fun (w1 : World) (hg : Grew w w1) => all_c B g xs Y w1 (h.grew hg) (by omega))
  have HBs := hid hb
  have HX := hid hx
  have HL := hid hl
  have HD := hid hd
  obtain ⟨n, en⟩ : ∃ n, n = xs.length := ⟨_, rfl⟩
  obtain ⟨m, em⟩ : ∃ m, m = bs.length := ⟨_, rfl⟩
  rw [← em]
  have EN := hid (And.intro en em)
  unfold AllPost at HAll
  rw [← en] at HAll
  clear hb hx hl hd em
  obtain ⟨h1, h2, h3, h4⟩ := h
  have hlt := (h1 g h2).2
  have H123 := hid (And.intro h1 (And.intro h2 h3))
  clear h1 h2 h3
  rcases h4 with ⟨h4, hxs⟩ | ⟨gb, A, c, h5, h6, h7, h8, h9, h10⟩
  · have c0 := h4.cell 0
    have f0 := h4.frozen 0
    simp only [List.getElem?_toArray, List.getElem?_cons_zero] at c0
    have H4 := hid h4
    have HXS := hid hxs
    clear h4 hxs en
    go_enter Tryz.func65, Tryz.ntmps65
    go_wp2_with fail
    go_quiet (fail)
    have hgq : Grew w (w.drewN nq) := Grew.mk ⟨rfl, rfl, rfl, Nat.le_refl _, fun _ _ => rfl⟩
    obtain ⟨y, hy⟩ := hgq
    rw [hy]
    clear hy
    go_wp2_with fail
    refine (HAll.out _ y.grew).mono ?_
    rintro e w2 ⟨A, c, rfl, hR, hG⟩
    have HR := hid (hR.low (B' := w.heap.size) y.grew.below.size)
    obtain ⟨y2, rfl⟩ := y.grew.trans hG
    clear hR hG HAll
    go_upto_region 3 with fail
    have hbeg := WrIn.begin H123.out.1 H123.out.2.1 HXS.out EN.out.1 hB H4.out y2.grew HR.out
    have hsz := y2.grew.below.size
    obtain ⟨Y', hIn, hY2, hKy, hKg⟩ := hbeg
    have HIn2 := hid hIn
    have HY2 := hid hY2
    have HKy := hid hKy
    have HBs2 := hid (NumsAt.kept HBs.out hKg (Nat.le_refl _) HD.out).cells
    clear hIn hY2 hKy hKg c0 f0
    generalize (y2.w.setCell ⟨g, 0, none⟩ (.pointer (some ⟨y2.w.heap.size, 0, none⟩))).alloc (.cells #[.slice A n c] 128) = wx at *
    generalize y2.w.heap.size = gb at *
    have HB' := hid (Nat.le_trans hB (HKy.out.size))
    have HRow := hid (HIn2.out.2.2.2.2.2.2.2.2)
    rw [← EN.out.1] at HRow
    obtain ⟨c0, c1, b0, f1, fb⟩ := HIn2.out.mid (Kept.refl _ _)
    rw [← EN.out.1] at c1 b0
    clear HR H4 HBs H123 HXS
    go_region_law (refine step_catR (.int .u8 0) 1 1 rfl _ _ 26 5 rfl Tryz.underlying26 v6_u8 rfl (by decide) B HB'.out A n c (numCells .u8 xs) (by simp [Act.eval]) HRow.out A2 m c2 (numCells .u8 bs) (by simp [Act.eval]) (by rw [numCells_length, EN.out.2]; omega) (numCells_one _ _) (fun h => by rw [EN.out.2]; exact HBs2.out.1 h) HBs2.out.2 (by have := HL.out; have := EN.out; omega) (by have := HL.out; have := EN.out; omega) ?_; rintro A' c' w4 hR4 hK4 hT4; obtain ⟨d0, d1, d2, d3, d4⟩ := HIn2.out.mid hK4.of_drew; rw [← EN.out.1] at d1 d2)
    all_goals
      have HEnd := hid (add_done HIn2.out HY2.out HKy.out HX.out EN.out.1 EN.out.2 hR4 hK4.of_drew hT4.of_drew)
      clear hR4 hK4 hT4
      have q1 : ¬ gb = g := HIn2.out.2.2.2.1
      have q2 : ¬ g = gb := fun h => q1 h.symm
      go_wp2_with fail
      go_end0
      exact HEnd.out
  · have HIn := hid (show WrIn w B g xs Y gb A c from ⟨H123.out.1, H123.out.2.1, H123.out.2.2, h5, h6, h7, h8, h9, h10⟩)
    obtain ⟨c0, c1, b0, f1, fb⟩ := HIn.out.mid (Kept.refl _ _)
    rw [← en] at c1 b0
    clear h5 h6 h7 h8 h9 h10 en HAll
    go_enter Tryz.func65, Tryz.ntmps65
    go_wp2_with fail
    go_quiet (fail)
    have hgq : Grew w (w.drewN nq) := Grew.mk ⟨rfl, rfl, rfl, Nat.le_refl _, fun _ _ => rfl⟩
    obtain ⟨y, hy⟩ := hgq
    rw [hy]
    clear hy
    go_upto_region 3 with fail
    have HRow := hid (HIn.out.2.2.2.2.2.2.2.2.grew y.grew)
    rw [← EN.out.1] at HRow
    have HB' := hid (Nat.le_trans hB y.grew.below.size)
    have HKy := hid (show Kept Y w y.w from .of_grew y.grew)
    have HIn2 := hid (show WrIn y.w B g xs Y gb A c from by
      obtain ⟨h1, h2, h3, h4, h5, h6, h7, h8, h9⟩ := HIn.out
      exact ⟨fun k hk => ⟨(h1 k hk).1, Nat.lt_of_lt_of_le (h1 k hk).2 y.grew.below.size⟩, h2, h3, h4, h5, h6, h7.grew y.grew, h8.grew y.grew, h9.grew y.grew⟩)
    have HBs2 := hid ((HBs.out.grew y.grew).cells)
    clear HIn c0 c1 b0 f1 fb
    generalize y.w = wx at *
    obtain ⟨c0, c1, b0, f1, fb⟩ := HIn2.out.mid (Kept.refl _ _)
    rw [← EN.out.1] at c1 b0
    have HY2 := hid (show ∀ k, Y k → Y k ∨ w.heap.size ≤ k from fun k h => .inl h)
    go_region_law (refine step_catR (.int .u8 0) 1 1 rfl _ _ 26 5 rfl Tryz.underlying26 v6_u8 rfl (by decide) B HB'.out A n c (numCells .u8 xs) (by simp [Act.eval]) HRow.out A2 m c2 (numCells .u8 bs) (by simp [Act.eval]) (by rw [numCells_length, EN.out.2]; omega) (numCells_one _ _) (fun h => by rw [EN.out.2]; exact HBs2.out.1 h) HBs2.out.2 (by have := HL.out; have := EN.out; omega) (by have := HL.out; have := EN.out; omega) ?_; rintro A' c' w4 hR4 hK4 hT4; obtain ⟨d0, d1, d2, d3, d4⟩ := HIn2.out.mid hK4.of_drew; rw [← EN.out.1] at d1 d2)
    all_goals
      have HEnd := hid (add_done HIn2.out HY2.out HKy.out HX.out EN.out.1 EN.out.2 hR4 hK4.of_drew hT4.of_drew)
      clear hR4 hK4 hT4
      have q1 : ¬ gb = g := HIn2.out.2.2.2.1
      have q2 : ¬ g = gb := fun h => q1 h.symm
      go_wp2_with fail
      go_end0
      exact HEnd.out
end Go.Proofs.YtjdgcgpidhljpaaGreatDoor
namespace Go.Proofs.YtjdgcgpidhljpaaGreatDoor
open Go.RowKit

theorem IntsAt.kept {F : Nat → Prop} {w w' : World} {B : Nat} {A : Option Addr} {l : List Int} (h : IntsAt w B A l) (hk : Kept F w w') (hB : B ≤ w.heap.size) (hF : ∀ ad, A = some ad → 0 < l.length → ¬ F ad.block) : IntsAt w' B A l := by
  refine ⟨h.1, fun hn => ?_⟩
  obtain ⟨ad, e, hb, hc⟩ := h.2 hn
  refine ⟨ad, e, hb, fun j hj => ?_⟩
  rw [hk.cell (by rw [block_add]; omega) (by rw [block_add]; exact hF ad e hn)]
  exact hc j hj
theorem IntsAt.wide {w : World} {B B' : Nat} {A : Option Addr} {l : List Int} (h : IntsAt w B A l) (hB : B ≤ B') : IntsAt w B' A l := by
  refine ⟨h.1, fun hn => ?_⟩
  obtain ⟨ad, e, hb, hc⟩ := h.2 hn
  exact ⟨ad, e, Nat.lt_of_lt_of_le hb hB, hc⟩
/-- 'bs' were written behind 'xs'. -/
def Wrote (w : World) (B g : Nat) (xs bs : List Nat) (Y : Nat → Prop) (w' : World) : Prop :=
  ∃ Y2, WrAt w' B g (xs ++ bs) Y2 ∧ (∀ k, Y2 k → Y k ∨ w.heap.size ≤ k) ∧ Kept Y w w'
theorem Wrote.refl {w : World} {B g : Nat} {xs : List Nat} {Y : Nat → Prop} (h : WrAt w B g xs Y) : Wrote w B g xs [] Y w := ⟨Y, by rw [List.append_nil]; exact h, fun _ h => .inl h, Kept.refl _ _⟩
theorem Wrote.then {w w1 w2 : World} {B g : Nat} {xs bs cs ds : List Nat} {Y Y1 : Nat → Prop} (hY : ∀ k, Y1 k → Y k ∨ w.heap.size ≤ k) (hk : Kept Y w w1) (h : Wrote w1 B g (xs ++ bs) cs Y1 w2) (hd : ds = bs ++ cs) : Wrote w B g xs ds Y w2 := by
  subst hd
  obtain ⟨Y2, h1, h2, h3⟩ := h
  refine ⟨Y2, by rw [← List.append_assoc]; exact h1, fun k hk2 => ?_, hk.next h3 (fun i hi hy => (hY i hy).resolve_right (by omega))⟩
  rcases h2 k hk2 with h | h
  · exact hY k h
  · exact .inr (Nat.le_trans hk.size h)
def WroteR (w : World) (B g : Nat) (xs bs : List Nat) (Y : Nat → Prop) (e : Ending) (w' : World) : Prop := e = .returned (.tuple #[]) ∧ Wrote w B g xs bs Y w'

theorem Wrote.grew_first {w w1 w2 : World} {B g : Nat} {xs bs : List Nat} {Y : Nat → Prop} (hg : Grew w w1) (h : Wrote w1 B g xs bs Y w2) : Wrote w B g xs bs Y w2 := by
  obtain ⟨Y2, h1, h2, h3⟩ := h
  exact ⟨Y2, h1, fun k hk => (h2 k hk).imp id (fun h => Nat.le_trans hg.below.size h), (Kept.of_grew hg).trans h3⟩
/-- A number is put and added. -/
theorem own_far {w w' : World} {e : TypeId} {A : Option Addr} {c : Nat} {L : List Nat} {g : Nat} (h : OwnNums .u8 w w' e A c L) (hg : g < w.heap.size) : ∀ ad, A = some ad → ad.block ≠ g := by
  intro ad had
  rcases h.cases with ⟨h0, _⟩ | ⟨q, h1, h2, _⟩
  · rw [h0] at had; cases had
  · rw [h1] at had; cases had
    have : q ≠ g := by omega
    exact this

set_option maxRecDepth 100000 in
set_option maxHeartbeats 2000000 in
theorem wint_c (B g : Nat) (xs : List Nat) (Y : Nat → Prop) (A : Option Addr) (c : Nat) (l : List Int) (w : World) (h : WrAt w B g xs Y) (hB : B ≤ w.heap.size) (ha : IntsAt w w.heap.size A l) (hd : ∀ ad, A = some ad → 0 < l.length → ¬ Y ad.block) (hl : xs.length + 10 * l.length ≤ 1000000000000) :
    Calls Tryz.prog 26 #[.pointer (some ⟨g, 0, none⟩), .slice A l.length c] w (WroteR w B g xs (Pk.encs l) Y) := by
  have HA := hid ha
  have HD := hid hd
  have HW := hid h
  have HL := hid hl
  obtain ⟨n, en⟩ : ∃ n, n = l.length := ⟨_, rfl⟩
  have hm : n ≤ 1000000000000 := by omega
  clear ha hd h hl
  rw [← en]
  have EN := hid en
  clear en
  go_enter Tryz.func26, Tryz.ntmps26
  go_wp2_with fail
  go_loopw [5, 8] (fun s5 s8 wr => ∃ (i : Nat) (v : Value), s5 = v ∧ s8 = .int .i64 ((i : Nat) : Int) ∧ i ≤ n ∧ Hid (Wrote w B g xs (Pk.encs (l.take i)) Y wr)) (fun _ s8 _ => n - (intOf s8).toNat)
  case atStart => exact ⟨0, _, rfl, rfl, Nat.zero_le _, hid (Wrote.refl HW.out)⟩
  case round =>
    obtain ⟨i, v, rfl, rfl, hi, H⟩ := hrel
    obtain ⟨Y1, hW1, hY1, hK1⟩ := H.out
    by_cases hlt : i < n
    · have f1 : (i : Int) < n := by omega
      obtain ⟨ad, rfl, hb, hcell⟩ := (HA.out.kept hK1 (Nat.le_refl _) HD.out).2 (by rw [← EN.out]; omega)
      have hx := hcell i (by rw [← EN.out]; exact hlt)
      have hx64 := HA.out.i64 i
      have HT := hid (show Pk.encs (l.take (i + 1)) = Pk.encs (l.take i) ++ Vi.enc (l.getD i 0) by rw [ints_take (by rw [← EN.out]; exact hlt), Pk.encs_snoc])
      have HTL := hid (show (Pk.encs (l.take i)).length ≤ 10 * i by
        have := (Pk.encs_len (l.take i)).2
        rw [List.length_take] at this
        omega)
      have hxl := (Vi.enc_len (l.getD i 0)).2
      generalize l.getD i 0 = x at *
      have CP := hid (put_c none 0 [] x wr (NumsAt.nil _ _ _ _) hx64 (by simp))
      rw [List.length_nil] at CP
      have HXL := hid hxl
      have HW1 := hid hW1
      have HY1 := hid hY1
      have HK1 := hid hK1
      clear hcell hb hW1 hY1 hK1 hxl H
      go_wp2_with fail
      refine CP.out.mono ?_
      rintro e w1 ⟨G2, h2, L2, rfl, hO2, hL2, hg2⟩
      have CA := hid (add_c B g (xs ++ Pk.encs (l.take i)) Y1 G2 h2 L2 w1 (HW1.out.grew hg2) (Nat.le_trans hB (Nat.le_trans HK1.out.size hg2.below.size)) hO2.at (own_far hO2 HW1.out.lt) (by rw [hL2]; exact Vi.enc_byte x) (by
        have h1 := HL.out
        have h2 := HXL.out
        have h3 := HTL.out
        have h4 := EN.out
        rw [hL2, List.nil_append, List.length_append]
        omega))
      have HL2 := hid (show L2 = Vi.enc x by rw [hL2]; rfl)
      have HG2 := hid hg2
      clear hO2 hL2 hg2 CP
      go_wp2_with fail
      refine CA.out.mono ?_
      rintro e w2 ⟨rfl, hw2⟩
      have HEnd := hid (Wrote.then HY1.out HK1.out (Wrote.grew_first HG2.out hw2) (show Pk.encs (l.take (i + 1)) = _ by rw [HT.out, ← HL2.out]))
      clear hw2 CA
      go_wp2_with fail
      go_roundw
      case rel => exact ⟨i + 1, _, rfl, by go_num, by omega, hid HEnd.out⟩
      case measure => simp [intOf]; omega
    · obtain rfl : i = n := by omega
      clear hW1 hY1 hK1
      go_wp2_with fail
      go_end0
      refine ⟨rfl, ?_⟩
      have := H.out
      rwa [List.take_of_length_le (by rw [← EN.out]; omega)] at this
theorem ints_one (w : World) (t : TypeId) (x : Int) (hx : Vi.I64 x) : IntsAt (w.alloc (.cells #[.int .i64 x] t)) (w.alloc (.cells #[.int .i64 x] t)).heap.size (some ⟨w.heap.size, 0, none⟩) [x] := by
  refine ⟨fun y hy => by rw [List.mem_singleton.1 hy]; exact hx, fun _ => ⟨_, rfl, by simp, fun j hj => ?_⟩⟩
  obtain rfl : j = 0 := by simpa using hj
  rw [add_zero]
  simp
theorem encs_one (x : Int) : Pk.encs [x] = Vi.enc x := by simp [Pk.encs]

theorem nums_conv (w : World) (s : ByteArray) (cap : Nat) (r : Nat × Nat) (t : TypeId) : NumsAt .u8 (w.drew.alloc (.cells (bytesRow s cap) t r)) (w.drew.alloc (.cells (bytesRow s cap) t r)).heap.size (some ⟨w.heap.size, 0, none⟩) (Pk.natsOf s) := by
  intro hn
  refine ⟨_, rfl, by simp, fun j hj => ?_⟩
  have hj2 : j < s.size := by rw [← Pk.natsOf_len]; exact hj
  have e1 : (⟨w.heap.size, 0, none⟩ : Addr).add j = ⟨w.heap.size, j, none⟩ := by simp [Addr.add]; omega
  rw [e1]
  have e2 : (w.drew.alloc (.cells (bytesRow s cap) t r)).heap[w.heap.size]? = some (.cells (bytesRow s cap) t r) := heap_alloc_new w.drew _
  unfold World.cell?
  simp only [e2]
  have hsz : s.data.size = s.size := rfl
  unfold bytesRow
  rw [Array.getElem?_append_left (by rw [Array.size_map, hsz]; exact hj2), Array.getElem?_map, Array.getElem?_eq_getElem (by rw [hsz]; exact hj2)]
  simp only [Option.map_some, Pk.natsOf, List.getD_eq_getElem?_getD]
  rw [List.getElem?_map, List.getElem?_eq_getElem (by rw [Array.length_toList, hsz]; exact hj2)]
  simp

set_option maxRecDepth 100000 in
set_option maxHeartbeats 2000000 in
theorem wtext_c (B g : Nat) (xs : List Nat) (Y : Nat → Prop) (s : ByteArray) (w : World) (h : WrAt w B g xs Y) (hB : B ≤ w.heap.size) (hl : xs.length + s.size + 10 ≤ 1000000000000) :
    Calls Tryz.prog 25 #[.pointer (some ⟨g, 0, none⟩), .string s] w (WroteR w B g xs (Vi.enc (s.size : Int) ++ Pk.natsOf s) Y) := by
  have C1 := hid (wint_c B g xs Y (some ⟨w.heap.size, 0, none⟩) 1 [(s.size : Int)] (w.alloc (.cells #[.int .i64 (s.size : Int)] 3)) (h.grew ((Grew.refl w).alloc _)) (by simp only [World.size_alloc]; omega) (ints_one w _ _ (by unfold Vi.I64; omega)) (fun ad had _ hy => by
    cases had
    have := (h.1 _ hy).2
    simp at this) (by simp only [List.length_singleton]; omega))
  rw [encs_one, List.length_singleton] at C1
  have C2 := hid (fun (w1 : World) (Y1 : Nat → Prop) (h1 : WrAt w1 B g (xs ++ Vi.enc (s.size : Int)) Y1) (hw : w.heap.size ≤ w1.heap.size) (cap : Nat) (r : Nat × Nat) =>
    add_c B g (xs ++ Vi.enc (s.size : Int)) Y1 (some ⟨w1.heap.size, 0, none⟩) cap (Pk.natsOf s) (w1.drew.alloc (.cells (bytesRow s cap) 5 r)) (h1.grew ((Grew.refl w1).drew.alloc _)) (by simp only [World.size_alloc]; exact Nat.le_trans hB (Nat.le_trans hw (Nat.le_succ w1.heap.size))) (nums_conv w1 s cap r _) (fun ad had => by
      cases had
      have := h1.lt
      simp only
      omega) (Pk.natsOf_byte s) (by
      have := (Vi.enc_len (s.size : Int)).2
      rw [List.length_append, Pk.natsOf_len]
      omega))
  rw [Pk.natsOf_len] at C2
  have HC := hid (fun (w1 : World) => run_bytes_of_string (P := Tryz.prog) w1 9 26 5 s Tryz.underlying9 Tryz.underlying26 Tryz.underlying5)
  clear h hl
  go_enter Tryz.func25, Tryz.ntmps25
  go_wp2_with fail
  refine C1.out.mono ?_
  rintro e w1 ⟨rfl, hw⟩
  obtain ⟨Y1, h1, h2, h3⟩ := Wrote.grew_first ((Grew.refl w).alloc _) hw
  have C3 := hid (C2.out w1 Y1 h1 h3.size)
  have hcv := HC.out w1
  have H2 := hid h2
  have H3 := hid h3
  clear hw h1 h2 h3 C1 C2 HC
  go_wp2_with fail
  refine (C3.out _ _).mono ?_
  rintro e w2 ⟨rfl, hw⟩
  have HE := hid (Wrote.then H2.out H3.out (Wrote.grew_first ((Grew.refl w1).drew.alloc _) hw) rfl)
  clear hw C3 hcv
  go_wp2_with fail
  go_end0
  exact ⟨rfl, HE.out⟩
end Go.Proofs.YtjdgcgpidhljpaaGreatDoor

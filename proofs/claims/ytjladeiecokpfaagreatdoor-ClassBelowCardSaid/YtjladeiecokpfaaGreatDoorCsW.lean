/- Stage 10: law 10's sure: the mathematics of its classes. -/
import Derived.Test.YtjladeiecokpfaaGreatDoorCsV
import Derived.Test.YtjladeiecokpfaaGreatDoorZNum
namespace Go.Proofs.YtjladeiecokpfaaGreatDoor
open Go.RowKit

def fooS : ByteArray := ⟨#[102, 111, 111]⟩
def s10M : Mt.Meth := ⟨fooS, [], [⟨-1, 0, 0, [0, 17]⟩]⟩
theorem s10_well : Fl.Well [0, 17] [⟨0, 0, 0⟩, ⟨17, 0, 0⟩] [0, 1] [[1], []] [0, 1] := ⟨by decide +kernel, by decide +kernel, by decide +kernel⟩
theorem s10_may : Mt.May s10M 1 13 := by
  refine ⟨by decide +kernel, by decide, ?_, ⟨by decide, by decide, ?_⟩, by decide +kernel, ?_⟩
  · intro x hx
    cases hx
  · intro i p hp
    match i, hp with
    | 0, hp => cases hp; decide
    | i + 1, hp => cases hp
  · intro i p hp
    match i, hp with
    | 0, hp => cases hp; exact ⟨_, _, _, _, s10_well, by decide +kernel⟩
    | i + 1, hp => cases hp
/-- The method, and where it lies. -/
def s10V (h0 h1 : Nat) : MV := ⟨fooS, [], none, 0, [⟨⟨-1, 0, 0, [0, 17]⟩, some ⟨h0, 0, none⟩, 2⟩], some ⟨h1, 0, none⟩, 1⟩
def fooC : Cs.Cls := ⟨⟨#[70, 111, 111]⟩, 0, [⟨#[97]⟩], [0]⟩
def barC : Cs.Cls := ⟨⟨#[66, 97, 114]⟩, 11, [⟨#[98]⟩], []⟩
def s10L : List Cs.Cls := firstL ++ [fooC, barC]
def s10C (a b c : Nat) : List CV := firstV ++ [⟨fooC, some ⟨a, 0, none⟩, 1, some ⟨b, 0, none⟩, 1⟩, ⟨barC, some ⟨c, 0, none⟩, 1, none, 0⟩]
theorem s10_cls (a b c : Nat) : cls (s10C a b c) = s10L := by
  unfold s10C s10L
  rw [← firstV_cls]
  simp [cls]
instance (l : List ByteArray) : Decidable (VarsOk l) := by unfold VarsOk; infer_instance
instance (x : Cs.Cls) (c : Int) : Decidable (NewOk x c) := by unfold NewOk; infer_instance
instance (l : List Cs.Cls) (c : Nat) (x : Cs.Cls) : Decidable (RowOk l c x) := by unfold RowOk; infer_instance
def rowsB (l : List Cs.Cls) : Bool := (List.range l.length).all fun c => match l[c]? with
  | some x => decide (RowOk l c x)
  | none => true
theorem rows_of {l : List Cs.Cls} (h : rowsB l = true) : ∀ c x, l[c]? = some x → RowOk l c x := fun c x hx => by
  have := List.all_eq_true.1 h c (List.mem_range.2 (List.getElem?_eq_some_iff.1 hx).1)
  rw [hx] at this
  exact of_decide_eq_true this
theorem s10_rows : rowsB s10L = true := by decide +kernel
theorem s10_names : (s10L.map (·.name)).Nodup := by decide +kernel
theorem s10_like : allLike firstV firstV = true := by decide +kernel
theorem s10_listed : nums s10L = [0] := by decide +kernel
theorem s10_ms : ∀ c, c < 13 → ((s10L[c]?).map (·.ms)) = some (if c = 11 then [0] else []) := by decide +kernel
theorem s10_len : s10L.length = 13 := by decide +kernel
theorem s10_n11 : Cs.names s10L 11 = [⟨#[97]⟩] := by decide +kernel
theorem s10_n12 : Cs.names s10L 12 = [⟨#[97]⟩, ⟨#[98]⟩] := by decide +kernel
theorem s10_f12 : Cs.find s10L [fooS] 12 fooS = some 0 := by decide +kernel
theorem s10_f5 : Cs.find s10L [fooS] 5 fooS = none := by decide +kernel
theorem s10_of : Cs.of s10L ⟨#[66, 97, 114]⟩ = some 12 := by decide +kernel
theorem s10_own : Cs.owner s10L 0 = some 11 := by decide +kernel
theorem s10_u1 : Cs.under s10L 12 11 = true := by decide +kernel
theorem s10_u2 : Cs.under s10L 11 12 = false := by decide +kernel
theorem s10_yes (a b c h0 h1 : Nat) : MayC (s10C a b c) [s10V h0 h1] := by
  rw [may_iff, s10_cls]
  have hl : (s10C a b c).length = 13 := by rw [← cls_len, s10_cls]; exact s10_len
  refine ⟨⟨by rw [hl]; decide, by rw [show (s10C a b c).take 11 = firstV from rfl]; exact s10_like, by rw [s10_cls]; exact rows_of s10_rows, by rw [s10_cls]; exact s10_names⟩, ⟨(show 1 ≤ 256 by decide), by rw [s10_listed]; rfl, by rw [s10_listed]; exact (show ∀ i ∈ ([0] : List Int), isIdx i 1 = true by decide), by rw [s10_listed]; decide⟩, fun c x hx => ?_⟩
  have hc : c < 13 := by rw [← s10_len]; exact (List.getElem?_eq_some_iff.1 hx).1
  have hm := s10_ms c hc
  rw [hx] at hm
  replace hm : x.ms = (if c = 11 then [0] else []) := Option.some.inj hm
  by_cases h11 : c = 11
  · subst h11
    rw [if_pos rfl] at hm
    unfold MethsOk
    rw [hm]
    refine ⟨fun i hi => ?_, by simp⟩
    obtain rfl := List.mem_singleton.1 hi
    rw [s10_len, show (((11 : Nat) : Nat) : Int) = 11 from rfl, s10_n11]
    exact s10_may
  · rw [if_neg h11] at hm
    unfold MethsOk
    rw [hm]
    exact ⟨(fun i hi => by cases hi), by simp⟩
theorem s10_no (a b c : Nat) : ¬ MayC (s10C a b c) [] := by
  rw [may_iff]
  rintro ⟨_, ⟨_, h, _⟩, _⟩
  rw [s10_cls, s10_listed] at h
  cases h
theorem s10_at {w : World} {h0 h1 : Nat} (b1 : Blk w h0 5 #[.int .u8 0, .int .u8 17]) (b2 : Blk w h1 71 #[.int .i64 (-1), .int .i64 0, .int .i64 0, .slice (some ⟨h0, 0, none⟩) 2 2]) : MethAt w (s10V h0 h1) := by
  have ad0 : ∀ (h j : Nat), (⟨h, 0, none⟩ : Addr).add j = ⟨h, j, none⟩ := fun h j => by unfold Addr.add; split <;> simp_all
  refine ⟨(show fooS.size ≤ 2000 by decide), ⟨(fun x hx => by cases hx), fun h => absurd (show 0 < 0 from h) (by decide)⟩, (show 0 ≤ 100 by decide), ⟨?_, fun _ => ⟨_, rfl, b2.lt, ?_⟩⟩, (show 1 ≤ 100 by decide)⟩
  · intro v hv
    rw [show (s10V h0 h1).vs = [⟨⟨-1, 0, 0, [0, 17]⟩, some ⟨h0, 0, none⟩, 2⟩] from rfl, List.mem_singleton] at hv
    subst hv
    refine ⟨⟨(show ∀ x ∈ [0, 17], x < 256 by decide), fun _ => ⟨_, rfl, b1.lt, fun j hj => ?_⟩⟩, (show 2 ≤ 2 by decide), (show 2 ≤ 9223372036854775807 by decide), (show 2 ≤ 1000 by decide)⟩
    rw [ad0, b1.cell]
    match j, hj with
    | 0, _ => rfl
    | 1, _ => rfl
    | j + 2, hj => exact absurd hj (by simp)
  · intro i v hv j u hu
    match i, hv with
    | 0, hv =>
      cases hv
      rw [ad0, b2.cell, Nat.zero_mul, Nat.zero_add]
      exact hu
    | i + 1, hv => cases hv
theorem s10_meths {w : World} {h0 h1 h2 : Nat} (h : MethAt w (s10V h0 h1)) (b3 : Blk w h2 55 #[.string fooS, .slice none 0 0, .slice (some ⟨h1, 0, none⟩) 1 1]) : MethsAt w (some ⟨h2, 0, none⟩) [s10V h0 h1] := by
  have ad0 : ∀ (h j : Nat), (⟨h, 0, none⟩ : Addr).add j = ⟨h, j, none⟩ := fun h j => by unfold Addr.add; split <;> simp_all
  refine ⟨fun u hu => by rw [List.mem_singleton.1 hu]; exact h, (show 1 ≤ 100 by decide), fun _ => ⟨_, rfl, b3.lt, fun i v hv j u hu => ?_⟩⟩
  match i, hv with
  | 0, hv =>
    cases hv
    rw [ad0, b3.cell, Nat.zero_mul, Nat.zero_add]
    exact hu
  | i + 1, hv => cases hv
theorem s10_fit : ClsFit s10L where
  len := by rw [s10_len]; decide
  name := by decide +kernel
  vars := by decide +kernel
  var := by decide +kernel
  ms := by decide +kernel
theorem s10_cells (a b c : Nat) : (s10C a b c).flatMap cvF = firstV.flatMap cvF ++ [.string ⟨#[70, 111, 111]⟩, .int .i64 0, .slice (some ⟨a, 0, none⟩) 1 1, .slice (some ⟨b, 0, none⟩) 1 1, .string ⟨#[66, 97, 114]⟩, .int .i64 11, .slice (some ⟨c, 0, none⟩) 1 1, .slice none 0 0] := by
  unfold s10C
  rw [List.flatMap_append]
  rfl
theorem one_str {w : World} {a : Nat} {s : ByteArray} (h : Blk w a 9 #[.string s]) : StrsAt w w.heap.size (some ⟨a, 0, none⟩) [s] := fun _ => ⟨_, rfl, h.lt, fun i t ht => by
  match i, ht with
  | 0, ht =>
    cases ht
    rw [add_zero]
    exact h.cell 0
  | i + 1, ht => cases ht⟩
theorem one_int {w : World} {a : Nat} {x : Int} (h : Blk w a 3 #[.int .i64 x]) (hx : Vi.I64 x) : IntsAt w w.heap.size (some ⟨a, 0, none⟩) [x] := ⟨fun y hy => by rw [List.mem_singleton.1 hy]; exact hx, fun _ => ⟨_, rfl, h.lt, fun j hj => by
  match j, hj with
  | 0, _ =>
    rw [add_zero]
    exact h.cell 0
  | j + 1, hj => exact absurd hj (by simp)⟩⟩
theorem s10_clsat {w : World} {B a b c k : Nat} {A : Option Addr} (b1 : Blk w a 9 #[.string ⟨#[97]⟩]) (b2 : Blk w b 3 #[.int .i64 0]) (b3 : Blk w c 9 #[.string ⟨#[98]⟩]) (hr : Row w B 60 4 A 13 k ((s10C a b c).flatMap cvF)) : ClsAt w A (s10C a b c) := by
  refine ⟨cls_row hr (by rw [← cls_len, s10_cls, s10_len]) fun v hv => ?_, by rw [s10_cls]; exact s10_fit⟩
  rcases List.mem_append.1 hv with hv | hv
  · exact firstV_ok w v hv
  · simp only [List.mem_cons, List.not_mem_nil, or_false] at hv
    rcases hv with rfl | rfl
    · exact ⟨one_str b1, one_int b2 ⟨by decide, by decide⟩, (show Vi.I64 0 from ⟨by decide, by decide⟩), Nat.le_refl _, Nat.le_refl _⟩
    · exact ⟨one_str b3, ints_nil w none, (show Vi.I64 11 from ⟨by decide, by decide⟩), Nat.le_refl _, Nat.le_refl _⟩
end Go.Proofs.YtjladeiecokpfaaGreatDoor

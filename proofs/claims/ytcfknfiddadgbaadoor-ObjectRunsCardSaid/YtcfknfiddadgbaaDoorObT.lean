/- Stage 11: a Store in memory; what is read of it. -/
import Derived.Test.YtcfknfiddadgbaaDoorObS
import Derived.Test.YtcfknfiddadgbaaDoorZNum
namespace Go.Proofs.YtcfknfiddadgbaaDoor
open Go.RowKit

/-- An object of a Store: the block of its fields, and its number among those of its level. -/
structure IT where
  o : Ob.Obj
  b : Nat
  h : Nat
def itF (x : IT) : List Value := [.int .i64 x.o.cls, .int .i64 x.o.lev, .slice (some ⟨x.b, 0, none⟩) x.o.f.length x.o.f.length, .string x.o.b, .int .i64 ((x.h : Nat) : Int)]
theorem itF_len (x : IT) : (itF x).length = 5 := rfl
theorem itF_one (x : IT) : ∀ u ∈ itF x, u.oneCell' = true := by
  intro u hu
  simp only [itF, List.mem_cons, List.not_mem_nil, or_false] at hu
  rcases hu with rfl | rfl | rfl | rfl | rfl <;> rfl
def objsI (l : List IT) : List Ob.Obj := l.map (·.o)
theorem objsI_len (l : List IT) : (objsI l).length = l.length := by simp [objsI]
theorem objsI_at {l : List IT} {i : Nat} {x : IT} (h : l[i]? = some x) : (objsI l)[i]? = some x.o := by simp [objsI, h]
theorem objsI_snoc (l : List IT) (x : IT) : objsI (l ++ [x]) = objsI l ++ [x.o] := by simp [objsI]
/-- A Store: its block, its levels, its objects. -/
structure SV where
  g : Nat
  U : Option Addr
  cu : Nat
  A : Option Addr
  ca : Nat
  up : List Nat
  its : List IT
def cV (s : SV) (j : Nat) : Value := .int .i64 ((Ob.cnt (objsI s.its) (j : Int) : Nat) : Int)
def stCells (s : SV) : Array Value := #[.slice s.U s.up.length s.cu, .slice s.A s.its.length s.ca, cV s 0, cV s 1, cV s 2, cV s 3, cV s 4, cV s 5, cV s 6, cV s 7]
/-- The blocks that it writes. -/
def Owns (s : SV) (k : Nat) : Prop := k = s.g ∨ AtRow s.A k ∨ ∃ x ∈ s.its, x.b = k
structure StoreAt (w : World) (B : Nat) (s : SV) : Prop where
  blk : Blk w s.g 75 (stCells s)
  low : B ≤ s.g
  up : BytesAt w w.heap.size s.U s.up
  upNe : ∀ ad, s.U = some ad → ¬ Owns s ad.block
  valid : La.valid s.up = true
  row : Row w B 71 5 s.A s.its.length s.ca (s.its.flatMap itF)
  rowNe : ¬ AtRow s.A s.g
  fb : ∀ x ∈ s.its, B ≤ x.b ∧ Blk w x.b 39 (x.o.f.flatMap valF).toArray ∧ x.b ≠ s.g ∧ ¬ AtRow s.A x.b
  dis : ∀ (i j : Nat) (x y : IT), s.its[i]? = some x → s.its[j]? = some y → x.b = y.b → i = j
  hs : ∀ (i : Nat) (x : IT), s.its[i]? = some x → x.h = Ob.hash (objsI s.its) i
  ok : ∀ x ∈ s.its, Ob.mayB s.up.length x.o = true
  len : s.its.length ≤ 65536
theorem StoreAt.grew {w w' : World} {B : Nat} {s : SV} (h : StoreAt w B s) (hg : Grew w w') : StoreAt w' B s :=
  ⟨h.blk.grew hg, h.low, h.up.grew hg, h.upNe, h.valid, h.row.grew hg, h.rowNe, fun x hx => ⟨(h.fb x hx).1, (h.fb x hx).2.1.grew hg, (h.fb x hx).2.2⟩, h.dis, h.hs, h.ok, h.len⟩
/-- What is changed elsewhere leaves it. -/
theorem StoreAt.kept {F : Nat → Prop} {w w' : World} {B : Nat} {s : SV} (h : StoreAt w B s) (hk : Kept F w w') (hF : ∀ k, F k → ¬ Owns s k) (hU : ∀ ad, s.U = some ad → ¬ F ad.block) : StoreAt w' B s :=
  ⟨h.blk.kept hk (fun hf => hF _ hf (.inl rfl)), h.low, ⟨h.up.1, fun hl => by
    obtain ⟨ad, h1, h2, h3⟩ := h.up.2 hl
    exact ⟨ad, h1, Nat.lt_of_lt_of_le h2 hk.size, fun j hj => (hk.cell (by rw [block_add]; exact h2) (by rw [block_add]; exact hU ad h1)).trans (h3 j hj)⟩⟩, h.upNe, h.valid,
    h.row.kept hk (fun g hA hf => hF _ hf (.inr (.inl ⟨_, hA, rfl⟩))), h.rowNe, fun x hx => ⟨(h.fb x hx).1, (h.fb x hx).2.1.kept hk (fun hf => hF _ hf (.inr (.inr ⟨x, hx, rfl⟩))), (h.fb x hx).2.2⟩, h.dis, h.hs, h.ok, h.len⟩
theorem StoreAt.owns {w : World} {B : Nat} {s : SV} (h : StoreAt w B s) {k : Nat} (hk : Owns s k) : B ≤ k ∧ k < w.heap.size := by
  rcases hk with rfl | hk | ⟨x, hx, rfl⟩
  · exact ⟨h.low, h.blk.lt⟩
  · exact at_row_lt h.row k hk
  · exact ⟨(h.fb x hx).1, (h.fb x hx).2.1.lt⟩
theorem StoreAt.lens {w : World} {B : Nat} {s : SV} (h : StoreAt w B s) : s.up.length ≤ 8 := (La.valid_spec h.valid).2
theorem head_spec {n : Nat} {o : Ob.Obj} (h : Ob.mayB n o = true) : 0 ≤ o.cls ∧ o.cls < 64 ∧ 0 ≤ o.lev ∧ o.lev < n ∧ o.f.length ≤ 256 ∧ o.b.size ≤ 1024 ∧ ∀ v ∈ o.f, Ob.valueB n v = true := by
  simp only [Ob.mayB, Ob.headB, Ob.inB, Bool.and_eq_true, decide_eq_true_eq, List.all_eq_true] at h
  exact ⟨h.1.1.1, h.1.1.2, h.1.2.1.1, h.1.2.1.2, h.1.2.2.1, h.1.2.2.2.1, h.2⟩
theorem value_spec {n : Nat} {v : Ob.Val} (h : Ob.valueB n v = true) (hn : n ≤ 20) : ValOk v := by
  simp only [Ob.valueB, Ob.inB, Ob.numB, Bool.and_eq_true, decide_eq_true_eq] at h
  obtain ⟨⟨h1, h2⟩, h3⟩ := h
  have hl : N64 v.l := ⟨by omega, by omega⟩
  by_cases a : v.k ≤ 2
  · rw [if_pos a, decide_eq_true_eq] at h3
    exact ⟨by omega, ⟨by omega, by omega⟩, hl⟩
  rw [if_neg a] at h3
  by_cases b : v.k = 3
  · rw [if_pos b, Bool.and_eq_true, decide_eq_true_eq, decide_eq_true_eq] at h3
    exact ⟨by omega, ⟨by omega, by omega⟩, hl⟩
  rw [if_neg b] at h3
  by_cases c : v.k = 4
  · rw [if_pos c, Bool.and_eq_true, decide_eq_true_eq, decide_eq_true_eq] at h3
    exact ⟨by omega, ⟨by omega, by omega⟩, hl⟩
  rw [if_neg c] at h3
  by_cases d : v.k = 5
  · rw [if_pos d, Bool.and_eq_true, decide_eq_true_eq, decide_eq_true_eq] at h3
    exact ⟨by omega, ⟨by omega, by omega⟩, hl⟩
  rw [if_neg d] at h3
  cases h3
/-- One object of it. -/
theorem it_get {w wr : World} {B : Nat} {s : SV} (h : StoreAt w B s) (hg : Grew w wr) {i : Nat} {x : IT} (hx : s.its[i]? = some x) : ∃ ad, s.A = some ad ∧ wr.cell? (ad.add (i * 5)) = some (.int .i64 x.o.cls) ∧ wr.cell? ⟨ad.block, (ad.add (i * 5)).off + 1, none⟩ = some (.int .i64 x.o.lev) ∧ wr.cell? ⟨ad.block, (ad.add (i * 5)).off + 2, none⟩ = some (.slice (some ⟨x.b, 0, none⟩) x.o.f.length x.o.f.length) ∧ wr.cell? ⟨ad.block, (ad.add (i * 5)).off + 3, none⟩ = some (.string x.o.b) ∧ wr.cell? ⟨ad.block, (ad.add (i * 5)).off + 4, none⟩ = some (.int .i64 ((x.h : Nat) : Int)) ∧ ad.block < wr.heap.size := by
  have hi := (List.getElem?_eq_some_iff.1 hx).1
  have hrow := h.row.grew hg
  rcases hrow.cases with ⟨_, _, _, ⟨_, h2, _⟩ | ⟨g, h1, _, hw, _, _⟩⟩
  · omega
  · rw [h1] at hrow
    have hc := CellsAt.of_row itF_len hrow
    have hq : ∀ j u, (itF x)[j]? = some u → wr.cell? ((⟨g, 0, none⟩ : Addr).add (i * 5 + j)) = some u := fun j u hu => hc i x hx j u hu
    refine ⟨⟨g, 0, none⟩, h1, hq 0 _ rfl, ?_, ?_, ?_, ?_, hw⟩
    · have := hq 1 _ rfl
      rwa [← add_add, add_pos (by decide), block_add] at this
    · have := hq 2 _ rfl
      rwa [← add_add, add_pos (by decide), block_add] at this
    · have := hq 3 _ rfl
      rwa [← add_add, add_pos (by decide), block_add] at this
    · have := hq 4 _ rfl
      rwa [← add_add, add_pos (by decide), block_add] at this
/-- An object of it, as what 'copied' reads. -/
theorem it_ok {w : World} {B : Nat} {s : SV} (h : StoreAt w B s) {x : IT} (hx : x ∈ s.its) : OvOk w ⟨x.o, some ⟨x.b, 0, none⟩, x.o.f.length⟩ := by
  have hs := head_spec (h.ok x hx)
  have hl := h.lens
  refine ⟨⟨fun v hv => value_spec (hs.2.2.2.2.2.2 v hv) (by omega), fun _ => ⟨⟨x.b, 0, none⟩, rfl, (h.fb x hx).2.1.lt, fun i v hi j u hu => ?_⟩⟩, ⟨by simp only; omega, by simp only; omega⟩, ⟨by simp only; omega, by simp only; omega⟩, Nat.le_refl _⟩
  exact blk_row (h.fb x hx).2.1 _ rfl _ _ (flat_at valF 3 valF_len _ i v hi j u hu)
theorem st_cells {w w' : World} {B : Nat} {s : SV} (h : StoreAt w B s) (hg : Grew w w') : w'.cell? ⟨s.g, 0, none⟩ = some (.slice s.U s.up.length s.cu) ∧ w'.cell? ⟨s.g, 1, none⟩ = some (.slice s.A s.its.length s.ca) ∧ s.g < w'.heap.size :=
  ⟨(h.blk.grew hg).cell 0, (h.blk.grew hg).cell 1, (h.blk.grew hg).lt⟩
theorem levels_c (s : SV) (B : Nat) (w : World) (h : StoreAt w B s) : Calls Tryd.prog 28 #[.pointer (some ⟨s.g, 0, none⟩)] w fun e w' => e = .returned (.int .i64 ((s.up.length : Nat) : Int)) ∧ Grew w w' := by
  obtain ⟨q0, q1, ql⟩ := st_cells h (Grew.refl w)
  clear h
  generalize s.g = g at *
  generalize s.up.length = n at *
  generalize s.its.length = m at *
  go_enter Tryd.func28, Tryd.ntmps28
  go_wp2_with fail
  go_ret
  exact ⟨rfl, Grew.refl _⟩
theorem len_c (s : SV) (B : Nat) (w : World) (h : StoreAt w B s) : Calls Tryd.prog 11 #[.pointer (some ⟨s.g, 0, none⟩)] w fun e w' => e = .returned (.int .i64 ((s.its.length : Nat) : Int)) ∧ Grew w w' := by
  obtain ⟨q0, q1, ql⟩ := st_cells h (Grew.refl w)
  clear h
  generalize s.g = g at *
  generalize s.up.length = n at *
  generalize s.its.length = m at *
  go_enter Tryd.func11, Tryd.ntmps11
  go_wp2_with fail
  go_ret
  exact ⟨rfl, Grew.refl _⟩
theorem find_c (s : SV) (B : Nat) (i : Int) (w : World) (h : StoreAt w B s) (b : Bool) (hb : Ob.inB i ((s.its.length : Nat) : Int) = b) : Calls Tryd.prog 26 #[.pointer (some ⟨s.g, 0, none⟩), .int .i64 i] w fun e w' => e = .returned (if b then .nilIface else errVal 3) ∧ Grew w w' := by
  obtain ⟨q0, q1, ql⟩ := st_cells h (Grew.refl w)
  clear h
  have HI := hid (fun W => isIndex_c i ((s.its.length : Nat) : Int) W)
  rw [hb] at HI
  clear hb
  generalize s.g = g at *
  generalize s.up.length = n at *
  generalize s.its.length = m at *
  cases b
  all_goals
    go_enter Tryd.func26, Tryd.ntmps26
    go_wp2_with (go_at_call 31; refine (HI.out _).mono ?_; rintro e w2 ⟨rfl, hg2⟩)
    go_ret
    exact ⟨rfl, hg2⟩
end Go.Proofs.YtcfknfiddadgbaaDoor

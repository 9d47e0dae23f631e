/- Stage 13: a builder of bytes: WriteByte, WriteString, Len, String; what the shelf leaves out is laid over the closure of strings.Replace. -/
import Derived.Test.YtdfahmppbfjbhaaDoorWxC
import Derived.Test.YtdfahmppbfjbhaaDoorShelf
namespace Go.Proofs.YtdfahmppbfjbhaaDoor
open Go.RowKit Go.Shelf

def Tryd.laysX_ren : Go.Shelf.Ren := ⟨fun | 167 => 28 | 166 => 29 | 240 => 52 | 276 => 62 | n => n, Tryd.lays154_ren.t, Tryd.lays154_ren.g⟩
theorem Tryd.laysX : Go.Proofs.Lays.n167 Tryd.prog Tryd.laysX_ren := { Tryd.lays154 with
  f167 := Tryd.func28.trans (congrArg some (by kernel_rfl))
  f240 := Tryd.func52.trans (congrArg some (by kernel_rfl))
  f276 := Tryd.func62.trans (congrArg some (by kernel_rfl)) }
theorem Tryd.laysY : Go.Proofs.Lays.n166 Tryd.prog Tryd.laysX_ren := { Tryd.lays154 with
  f166 := Tryd.func29.trans (congrArg some (by kernel_rfl))
  f240 := Tryd.func52.trans (congrArg some (by kernel_rfl))
  f276 := Tryd.func62.trans (congrArg some (by kernel_rfl)) }
set_option maxRecDepth 100000 in
theorem Tryd.extraX : Builder.Extra Tryd.prog Tryd.laysX_ren := { Tryd.Builder_Extra_154 with }

/-- A builder in block b, from block B on, that holds bytes. -/
def Bld (w : World) (B b : Nat) (l : List UInt8) : Prop := Lib.IsBuilderF 61 5 B b (Lib.byteCells l) w
theorem ownsF_kept {w w' : World} {B : Nat} {e : TypeId} {s : Nat} {v : Value} {n : Nat} {xs : List Value} (h : w.ownsRowF B e s v n xs) (hg : Grew w w') : w'.ownsRowF B e s v n xs := by
  refine ⟨h.1, ?_⟩
  rcases h.2 with hn | ⟨g, cap, cur, fz, hv, hb, hh, hr⟩
  · exact .inl hn
  · refine .inr ⟨g, cap, cur, fz, hv, hb, ?_, hr⟩
    rw [hg.below.block g (Array.getElem?_eq_some_iff.1 hh).1]
    exact hh
theorem bldAt_grew {w w' : World} {T e : TypeId} {B b : Nat} {p : Value} {xs : List Value} (h : Lib.BuilderAtF T e B b p xs w) (hg : Grew w w') : Lib.BuilderAtF T e B b p xs w' := by
  have hlt := h.lt
  obtain ⟨hB, v, hb, hown, hne⟩ := h
  exact ⟨hB, v, (hg.below.block b hlt).trans hb, ownsF_kept hown hg, hne⟩
theorem Bld.grew {w w' : World} {B b : Nat} {l : List UInt8} (h : Bld w B b l) (hg : Grew w w') : Bld w' B b l := h.elim (fun x => .inl (bldAt_grew x hg)) (fun x => .inr (bldAt_grew x hg))
theorem Bld.lt {w : World} {B b : Nat} {l : List UInt8} (h : Bld w B b l) : B ≤ b ∧ b < w.heap.size := h.elim (fun x => ⟨x.1, Lib.BuilderAtF.lt x⟩) (fun x => ⟨x.1, Lib.BuilderAtF.lt x⟩)
/-- 'var b strings.Builder'. -/
theorem Bld.new (w : World) {B : Nat} (hB : B ≤ w.heap.size) : Bld (w.alloc (.cells #[.pointer none, .slice none 0 0] 61)) B w.heap.size [] :=
  .inl ⟨hB, _, heap_alloc_new w _, World.ownsRowF_nil _ _ _ _, by simp [Value.ownBlock]⟩
/-- What a write leaves: the builder holds l; below B nothing has changed. -/
def BldTo (w : World) (B b : Nat) (l : List UInt8) (w' : World) : Prop := Bld w' B b l ∧ Below B w w'
theorem Grew.below_next {a b c : World} {B : Nat} (h : Grew a b) (hb : Below B b c) (hB : a.heap.size ≤ B) : Grew a c := .mk (h.below.trans (hb.mono hB))
theorem Blk.below {w w' : World} {B g : Nat} {t : TypeId} {cs : Array Value} (h : Blk w g t cs) (hb : Below B w w') (hg : g < B) : Blk w' g t cs := (hb.block g hg).trans h
theorem byteCells_app (l m : List UInt8) : Lib.byteCells (l ++ m) = Lib.byteCells l ++ Lib.byteCells m := by simp [Lib.byteCells]
theorem bWriteByte_c (B b : Nat) (l : List UInt8) (c : UInt8) (w : World) (h : Bld w B b l) (hl : l.length ≤ 1000000) (hB : B ≤ w.heap.size) :
    Calls Tryd.prog 28 #[.pointer (some ⟨b, 0, none⟩), .int .u8 ((c.toNat : Nat) : Int)] w fun e w' => e = .returned .nilIface ∧ BldTo w B b (l ++ [c]) w' := by
  refine (Any.Builder_WriteByte_k Tryd.laysX Tryd.extraX B b (Lib.byteCells l) ((c.toNat : Nat) : Int) w h (by rw [Lib.byteCells_length]; omega) hB).mono ?_
  rintro e w' ⟨rfl, h1, h2, _⟩
  refine ⟨rfl, .inr ?_, h2⟩
  rw [byteCells_app]
  exact h1
theorem bWriteString_c (B b : Nat) (l : List UInt8) (s : ByteArray) (w : World) (h : Bld w B b l) (hl : l.length ≤ 1000000) (hs : s.size ≤ 1000000) (hB : B ≤ w.heap.size) :
    Calls Tryd.prog 29 #[.pointer (some ⟨b, 0, none⟩), .string s] w fun e w' => e = .returned (.tuple #[.int .i64 ((s.size : Nat) : Int), .nilIface]) ∧ BldTo w B b (l ++ bs s) w' := by
  refine (Any.Builder_WriteString_k Tryd.laysY Tryd.extraX B b (Lib.byteCells l) s w h (by rw [Lib.byteCells_length]; omega) hB).mono ?_
  rintro e w' ⟨rfl, h1, h2, _⟩
  refine ⟨rfl, .inr ?_, h2⟩
  rw [byteCells_app]
  exact h1
theorem bLen_c (B b : Nat) (l : List UInt8) (w : World) (h : Bld w B b l) : Calls Tryd.prog 31 #[.pointer (some ⟨b, 0, none⟩)] w fun e w' => e = .returned (.int .i64 ((l.length : Nat) : Int)) ∧ w' = w := by
  refine (Tryd.Builder_Len_f B b (Lib.byteCells l) w h).mono ?_
  rintro e w' ⟨rfl, rfl⟩
  rw [Lib.byteCells_length]
  exact ⟨rfl, rfl⟩
theorem bString_c (B b : Nat) (l : List UInt8) (w : World) (h : Bld w B b l) (hB : B ≤ w.heap.size) : Calls Tryd.prog 32 #[.pointer (some ⟨b, 0, none⟩)] w fun e w' => e = .returned (.string (ofL l)) ∧ BldTo w B b l w' := by
  refine (Tryd.Builder_String_any_k B b l w h hB).mono ?_
  rintro e w' ⟨rfl, h1, h2, _⟩
  exact ⟨rfl, h1, h2⟩
end Go.Proofs.YtdfahmppbfjbhaaDoor

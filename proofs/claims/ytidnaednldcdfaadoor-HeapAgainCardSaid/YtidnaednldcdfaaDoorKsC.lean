/- Parts of elder texts that this layer needs, joined: XHsC XHsD. -/
import Derived.Test.YtidnaednldcdfaaDoorKcC
import Derived.Test.YtidnaednldcdfaaDoorKdA
namespace Go.Proofs.YtidnaednldcdfaaDoor.Hp
open La Ob

/-- Objects without a memory, as a memory has them. -/
def asIts (l : List Ob.Obj) : List It := l.mapIdx (fun i o => ⟨(i : Int), (Ob.hash l i : Nat), o⟩)
theorem as_at (l : List Ob.Obj) (i : Nat) : (asIts l)[i]? = l[i]?.map (fun o => (⟨(i : Int), (Ob.hash l i : Nat), o⟩ : It)) := by
  unfold asIts
  rw [List.getElem?_mapIdx]
theorem as_len (l : List Ob.Obj) : (asIts l).length = l.length := by
  unfold asIts
  rw [List.length_mapIdx]
theorem as_mem {l : List Ob.Obj} {x : It} (h : x ∈ asIts l) : ∃ (i : Nat) (o : Ob.Obj), l[i]? = some o ∧ x = ⟨(i : Int), (Ob.hash l i : Nat), o⟩ := by
  obtain ⟨i, hi⟩ := List.mem_iff_getElem?.1 h
  rw [as_at] at hi
  cases ho : l[i]? with
  | none => rw [ho] at hi; cases hi
  | some o =>
    rw [ho] at hi
    exact ⟨i, o, ho, (Option.some.inj hi).symm⟩
theorem as_in {l : List Ob.Obj} {i : Nat} {o : Ob.Obj} (h : l[i]? = some o) : (⟨(i : Int), (Ob.hash l i : Nat), o⟩ : It) ∈ asIts l := List.mem_iff_getElem?.2 ⟨i, by rw [as_at, h]; rfl⟩
theorem as_sorted (l : List Ob.Obj) : Sorted (asIts l) := by
  unfold Sorted
  rw [List.pairwise_iff_getElem]
  intro i j hi hj hij
  have h1 := as_at l i
  have h2 := as_at l j
  rw [as_len] at hi hj
  rw [List.getElem?_eq_getElem (by rw [as_len]; exact hi), List.getElem?_eq_getElem hi] at h1
  rw [List.getElem?_eq_getElem (by rw [as_len]; exact hj), List.getElem?_eq_getElem hj] at h2
  simp only [Option.map_some, Option.some.injEq] at h1 h2
  rw [h1, h2]
  show (i : Int) < (j : Int)
  omega
theorem as_nonneg (l : List Ob.Obj) : ∀ x ∈ asIts l, 0 ≤ x.i := fun x hx => by
  obtain ⟨i, o, _, rfl⟩ := as_mem hx
  show (0 : Int) ≤ (i : Int)
  omega
theorem as_least (l : List Ob.Obj) : least (asIts l) = l.length := by
  refine least_eq (as_sorted l) (as_nonneg l) (fun k hk => ?_) (fun x hx => ?_)
  · exact ⟨_, as_in (List.getElem?_eq_getElem hk), rfl⟩
  · obtain ⟨i, o, h, rfl⟩ := as_mem hx
    have := (List.getElem?_eq_some_iff.1 h).1
    show (i : Int) ≠ _
    omega
theorem as_find_yes {l : List Ob.Obj} {i : Nat} {o : Ob.Obj} (h : l[i]? = some o) : find (asIts l) (i : Int) = some ⟨(i : Int), (Ob.hash l i : Nat), o⟩ := find_of (as_sorted l) (x := ⟨(i : Int), (Ob.hash l i : Nat), o⟩) (as_in h)
theorem as_find_no {l : List Ob.Obj} {i : Int} (h : inB i ((l.length : Nat) : Int) = false) : find (asIts l) i = none := by
  rw [find_none]
  intro x hx
  obtain ⟨k, o, hk, rfl⟩ := as_mem hx
  have := (List.getElem?_eq_some_iff.1 hk).1
  show (k : Int) ≠ i
  intro e
  rw [← e, inB, decide_eq_true (by omega), decide_eq_true (by omega)] at h
  cases h
theorem as_snoc (l : List Ob.Obj) (o : Ob.Obj) : asIts (l ++ [o]) = asIts l ++ [⟨(l.length : Int), (cnt l o.lev : Nat), o⟩] := by
  apply List.ext_getElem?
  intro i
  rcases Nat.lt_trichotomy i l.length with h | h | h
  · rw [List.getElem?_append_left (by rw [as_len]; exact h), as_at, as_at, List.getElem?_append_left h, hash_app o h]
  · subst h
    rw [as_at, List.getElem?_append_right (l₁ := asIts l) (by rw [as_len]; exact Nat.le_refl _), as_len, hash_new]
    simp
  · rw [List.getElem?_eq_none (by rw [as_len, List.length_append, List.length_singleton]; omega), List.getElem?_eq_none (by rw [List.length_append, as_len, List.length_singleton]; omega)]
theorem as_ins (l : List Ob.Obj) (o : Ob.Obj) : ins (asIts l) ⟨(l.length : Int), (cnt l o.lev : Nat), o⟩ = asIts (l ++ [o]) := by
  rw [ins_least (as_sorted l) (as_nonneg l) _ (by rw [as_least]), as_least, as_snoc]
  have e := as_len l
  rw [← e, List.take_length, List.drop_length]
theorem as_code (up : List Nat) (l : List Ob.Obj) (i k under : Int) (v : Val) : putCode up (asIts l) i k under v = Ob.putCode up l i k under v := by
  cases h : valueB up.length v && inB under up.length
  · rw [code_arg h, Ob.code_arg h]
  · cases hi : inB i ((l.length : Nat) : Int)
    · rw [code_obj h (as_find_no hi), Ob.code_obj h hi]
    · simp only [inB, Bool.and_eq_true, decide_eq_true_eq] at hi
      obtain ⟨n, rfl⟩ : ∃ n : Nat, i = (n : Int) := ⟨i.toNat, by omega⟩
      have hn : n < l.length := by omega
      have ho := List.getElem?_eq_getElem hn
      cases hk : inB k ((l[n].f.length : Nat) : Int)
      · rw [code_field h (as_find_yes ho) hk, Ob.code_field h ho hk]
      · simp only [inB, Bool.and_eq_true, decide_eq_true_eq] at hk
        obtain ⟨m, rfl⟩ : ∃ m : Nat, k = (m : Int) := ⟨k.toNat, by omega⟩
        have hm : m < l[n].f.length := by omega
        have hy := List.getElem?_eq_getElem hm
        rw [code_leq h (as_find_yes ho) hy, Ob.code_leq h ho hy]
theorem as_put (up : List Nat) (l : List Ob.Obj) (i k under : Int) (v : Val) : put up (asIts l) i k under v = asIts (Ob.put up l i k under v) := by
  by_cases hc : Ob.putCode up l i k under v = 0
  · rw [put_good (by rw [as_code]; exact hc)]
    obtain ⟨_, _, a, b, o, x, rfl, rfl, ho, _, _⟩ := Ob.code_zero hc
    have hh := Ob.put_levs up l (a : Int) (b : Int) under v
    apply List.ext_getElem?
    intro j
    rw [List.getElem?_map, as_at, as_at, Ob.hash_map hh j, Ob.put_at hc, List.getElem?_modify]
    cases hj : l[j]? with
    | none => simp
    | some y =>
      simp only [Option.map_some, putIt]
      by_cases e : a = j
      · subst e
        simp
      · have e2 : ¬ ((j : Int) = (a : Int)) := by omega
        simp [e, e2]
  · rw [put_bad (by rw [as_code]; exact hc), Ob.put_bad hc]
theorem words_le {n : Nat} {o : Ob.Obj} (h : mayB n o = true) : words o ≤ 643 := by
  have h1 := Go.Proofs.YtidnaednldcdfaaDoor.hp_head h
  unfold words
  omega
theorem sum_le (p : It → Bool) (L : List It) (h : ∀ x ∈ L, words x.o ≤ 643) : sumIf p L ≤ 643 * L.length := by
  induction L with
  | nil => simp [sumIf]
  | cons x r ih =>
    have h1 := h x (List.mem_cons_self ..)
    have h2 := ih (fun y hy => h y (List.mem_cons_of_mem _ hy))
    simp only [sumIf, List.length_cons]
    split <;> omega
/-- There is always room for sixty. -/
theorem as_addCode {n : Nat} (l : List Ob.Obj) (o : Ob.Obj) (hl : l.length < 60) (hm : ∀ x ∈ l, mayB n x = true) : addCode n (asIts l) 1048576 (qf 1048576 []) o = if mayB n o then 0 else 1 := by
  unfold addCode
  cases ho : mayB n o
  · rfl
  · have hw := words_le ho
    have hx : ∀ x ∈ asIts l, words x.o ≤ 643 := fun x hx => by
      obtain ⟨i, o', h1, rfl⟩ := as_mem hx
      exact words_le (hm _ (List.mem_of_getElem? h1))
    have hlen := as_len l
    have h1 := sum_le (lvl o.lev) (asIts l) hx
    have h2 := sum_le (fun _ => true) (asIts l) hx
    have h3 : fits (asIts l) 1048576 (qf 1048576 []) o = true := by
      unfold fits
      have h5 : qf 1048576 [] o.lev.toNat = 1048576 := rfl
      rw [Bool.and_eq_true, h5]
      refine ⟨decide_eq_true ?_, decide_eq_true ?_⟩
      · unfold all
        omega
      · unfold used
        omega
    rw [h3, if_neg (by decide)]
    have h4 : decide (65536 ≤ (asIts l).length) = false := by rw [decide_eq_false_iff_not, hlen]; omega
    rw [h4]
    rfl
end Go.Proofs.YtidnaednldcdfaaDoor.Hp
namespace Go.Proofs.YtidnaednldcdfaaDoor
open Go.RowKit

/-- What the operations of 'h.Add(x.O.Class, x.O.Level, giveVals(x.O.F), x.O.B)' give, whatever h is. -/
def GgF (w0 : World) (PA : World → Prop) (sg gx : Nat) (cls lev : Int) (oA : Option Addr) (m oc : Nat) (b : ByteArray) (cs : List Value) (r : Int) (er : Value) (j : Nat) (v : Value) (w : World) : Prop := match j with
  | 0 => v = .pointer (some ⟨sg, 0, none⟩)
  | 1 => v = .pointer (some ⟨gx, 1, none⟩)
  | 2 => v = .pointer (some ⟨gx, 1, none⟩)
  | 3 => v = .int .i64 cls
  | 4 => v = .pointer (some ⟨gx, 1, none⟩)
  | 5 => v = .pointer (some ⟨gx, 2, none⟩)
  | 6 => v = .int .i64 lev
  | 7 => v = .pointer (some ⟨gx, 1, none⟩)
  | 8 => v = .pointer (some ⟨gx, 3, none⟩)
  | 9 => v = .slice oA m oc
  | 10 => ∃ A' c', v = .slice A' m c' ∧ Row w w0.heap.size 48 3 A' m c' cs
  | 11 => v = .pointer (some ⟨gx, 1, none⟩)
  | 12 => v = .pointer (some ⟨gx, 4, none⟩)
  | 13 => v = .string b
  | 14 => v = .tuple #[.int .i64 r, er] ∧ PA w
  | 15 => v = .tuple #[.int .i64 r, er]
  | 16 => v = .int .i64 r
  | 17 => v = er
  | 18 => v = .int .i64 r
  | 19 => v = er
  | _ => True
theorem GgF.stable {w0 : World} {PA : World → Prop} {own : Nat → Prop} {sg gx : Nat} {cls lev : Int} {oA : Option Addr} {m oc : Nat} {b : ByteArray} {cs : List Value} {r : Int} {er : Value} (hO : ∀ k, own k → k < w0.heap.size) (hP : ∀ w w', PA w → Grew w w' → PA w') (i j : Nat) (v : Value) (w w' : World) (hab : i ≠ j) (h : GgF w0 PA sg gx cls lev oA m oc b cs r er i v w) (hr : GRo 14 own j w w') : GgF w0 PA sg gx cls lev oA m oc b cs r er i v w' := by
  have hz := GRo.zero j w w' hr
  unfold GgF at h ⊢
  split at h <;> first | exact h | skip
  · obtain ⟨A', c', h1, h2⟩ := h
    exact ⟨A', c', h1, h2.kept hz (fun g hg hk => by have h3 := Row.at_base h2 g ⟨_, hg, rfl⟩; have h4 := hO g hk; omega)⟩
  · exact ⟨h.1, hP _ _ h.2 (hr.off (fun e => hab e.symm))⟩
def GgJ (w0 : World) (M : World → Prop) (gx : Nat) (xc : Array Value) (f : Nat → Bool) (w : World) : Prop :=
  Blk w gx 67 xc ∧ (f 14 = false → M w ∧ Grew w0 w)
theorem GgJ.grew {w0 w w' : World} {M : World → Prop} {gx : Nat} {xc : Array Value} {f : Nat → Bool} (h : GgJ w0 M gx xc f w) (hM : ∀ w w', M w → Grew w w' → M w') (hg : Grew w w') : GgJ w0 M gx xc f w' :=
  ⟨h.1.grew hg, fun hf => ⟨hM _ _ (h.2 hf).1 hg, (h.2 hf).2.trans hg⟩⟩
theorem GgJ.pure {w0 w : World} {M : World → Prop} {gx : Nat} {xc : Array Value} {f : Nat → Bool} (h : GgJ w0 M gx xc f w) (k : Nat) (hk : 14 ≠ k) : GgJ w0 M gx xc (updF f k) w :=
  ⟨h.1, fun hf => h.2 (by unfold updF at hf; rw [if_neg hk] at hf; exact hf)⟩
theorem GgJ.add {w0 w w' : World} {M : World → Prop} {own : Nat → Prop} {gx : Nat} {xc : Array Value} {f : Nat → Bool} (h : GgJ w0 M gx xc f w) (hk : Kept own w w') (hx : ¬ own gx) : GgJ w0 M gx xc (updF f 14) w' := by
  refine ⟨h.1.kept hk hx, fun hf2 => ?_⟩
  unfold updF at hf2
  rw [if_pos rfl] at hf2
  cases hf2
/-- What Add of objects without a memory leaves. -/
def AddSV (w : World) (B : Nat) (s : SV) (o : Ob.Obj) (w' : World) : Prop := if Ob.mayB s.up.length o then AddIn w B s o w' else Grew w w'
theorem AddSV.grew {w w1 w' : World} {B : Nat} {s : SV} {o : Ob.Obj} (h : AddSV w B s o w1) (hg : Grew w1 w') : AddSV w B s o w' := by
  unfold AddSV at h ⊢
  split at h
  · rename_i hm
    rw [if_pos hm]
    exact h.then hg
  · rename_i hm
    rw [if_neg hm]
    exact h.trans hg
theorem AddSV.from {w0 w w' : World} {B : Nat} {s : SV} {o : Ob.Obj} (h : AddSV w B s o w') (hg : Grew w0 w) : AddSV w0 B s o w' := by
  unfold AddSV at h ⊢
  split at h
  · rename_i hm
    rw [if_pos hm]
    exact h.from hg
  · rename_i hm
    rw [if_neg hm]
    exact hg.trans h
theorem AddSV.kept {w w' : World} {B : Nat} {s : SV} {o : Ob.Obj} (h : AddSV w B s o w') : Kept (Owns s) w w' := by
  unfold AddSV at h
  split at h
  · obtain ⟨s', _, _, _, _, _, h6, _⟩ := h
    exact h6
  · exact Kept.of_grew h
theorem StoreAt.alien {w : World} {B : Nat} {s : SV} (h : StoreAt w B s) {k : Nat} {t : TypeId} {cs : Array Value} (hb : Blk w k t cs) (h1 : t ≠ 102) (h2 : t ≠ 112) (h3 : t ≠ 48) : ¬ Owns s k := by
  rintro (rfl | hk | ⟨x, hx, rfl⟩)
  · exact h1 (hb.ty h.blk).1
  · obtain ⟨ds, hd⟩ := h.row.blkAt hk
    exact h2 (hb.ty hd).1
  · exact h3 (hb.ty (h.fb x hx).2.1).1
theorem StoreAt.ublk {w : World} {B : Nat} {s : SV} (h : StoreAt w B s) : ∀ ad, s.U = some ad → ad.block < w.heap.size := fun ad e => by
  obtain ⟨ad', h1, h2, _⟩ := h.up.2 (La.valid_spec h.valid).1
  rw [e] at h1
  cases h1
  exact h2
def cntA (l : List Ob.Obj) (j : Nat) : Int := ((Ob.cnt l (j : Int) : Nat) : Int)
/-- A memory beside objects without one. -/
structure BothAt (w0 w : World) (B C : Nat) (v : HV) (up : List Nat) (s : SV) (lh ls : List Ob.Obj) : Prop where
  h : HAt w0 w B C v up 1048576 (qf 1048576 []) (Hp.asIts lh) (cntA lh)
  st : StoreAt w B s
  su : s.up = up
  eq : objsI s.its = ls
  dis : ∀ k, HOwns v k → ¬ Owns s k
  hu : ∀ ad, s.U = some ad → ¬ HOwns v ad.block
  vu : ∀ ad, v.U = some ad → ¬ Owns s ad.block
theorem BothAt.more {w0 w w' : World} {B C : Nat} {v : HV} {up : List Nat} {s : SV} {lh ls : List Ob.Obj} (h : BothAt w0 w B C v up s lh ls) (hg : Grew w w') : BothAt w0 w' B C v up s lh ls :=
  ⟨h.h.more hg, h.st.grew hg, h.su, h.eq, h.dis, h.hu, h.vu⟩
theorem BothAt.hstep {w0 w w' : World} {B C C' : Nat} {v v' : HV} {up : List Nat} {s : SV} {lh lh' ls : List Ob.Obj} (h : BothAt w0 w B C v up s lh ls) (hs : Step w B v v' w') (hn : HAt w0 w' B C' v' up 1048576 (qf 1048576 []) (Hp.asIts lh') (cntA lh')) : BothAt w0 w' B C' v' up s lh' ls := by
  refine ⟨hn, h.st.kept hs.kept (fun k h1 h2 => h.dis k h1 h2) (fun ad e hk => h.hu ad e hk), h.su, h.eq, fun k h1 h2 => ?_, fun ad e hk => ?_, fun ad e => h.vu ad (by rw [← hs.U]; exact e)⟩
  · rcases hs.owns k h1 with h3 | h3
    · exact h.dis k h3 h2
    · have := (h.st.owns h2).2; omega
  · rcases hs.owns _ hk with h3 | h3
    · exact h.hu ad e h3
    · have := h.st.ublk ad e; omega
theorem BothAt.sstep {w0 w w' : World} {B C : Nat} {v : HV} {up : List Nat} {s s' : SV} {lh ls ls' : List Ob.Obj} (h : BothAt w0 w B C v up s lh ls) (hs : StoreAt w' B s') (e1 : s'.up = s.up) (e2 : s'.U = s.U) (e3 : objsI s'.its = ls') (hk : Kept (Owns s) w w') (ho : ∀ k, Owns s' k → Owns s k ∨ w.heap.size ≤ k) : BothAt w0 w' B C v up s' lh ls' := by
  refine ⟨⟨h.h.mem.kept hk (fun k h1 h2 => h.dis k h2 h1) (fun ad e => h.vu ad e), h.h.ok, h.h.up, h.h.room, h.h.q, h.h.its, h.h.cn, h.h.low, hk.grew h.h.gr (fun k hk1 => Nat.le_trans h.h.low (h.st.owns hk1).1)⟩, hs, e1.trans h.su, e3, fun k h1 h2 => ?_, fun ad e => h.hu ad (by rw [← e2]; exact e), fun ad e hk1 => ?_⟩
  · rcases ho k h2 with h3 | h3
    · exact h.dis k h1 h3
    · have := (h.h.mem.owns h1).2; omega
  · rcases ho _ hk1 with h3 | h3
    · exact h.vu ad e h3
    · have := h.h.mem.upLt ad e; omega
theorem BothAt.may {w0 w : World} {B C : Nat} {v : HV} {up : List Nat} {s : SV} {lh ls : List Ob.Obj} (h : BothAt w0 w B C v up s lh ls) : ∀ x ∈ ls, Ob.mayB up.length x = true := fun x hx => by
  rw [← h.eq] at hx
  obtain ⟨y, hy, e⟩ := List.mem_map.1 hx
  rw [← e, ← h.su]
  exact h.st.ok y hy
theorem BothAt.len {w0 w : World} {B C : Nat} {v : HV} {up : List Nat} {s : SV} {lh ls : List Ob.Obj} (h : BothAt w0 w B C v up s lh ls) : s.its.length = ls.length := by
  have h1 := congrArg List.length h.eq
  rwa [objsI_len] at h1
def addO (n : Nat) (l : List Ob.Obj) (o : Ob.Obj) : List Ob.Obj := if Ob.mayB n o then l ++ [o] else l
theorem BothAt.addH {w0 w w' : World} {B C : Nat} {v : HV} {up : List Nat} {s : SV} {l : List Ob.Obj} (h : BothAt w0 w B C v up s l l) {o : Ob.Obj} {e : Ending} (hp : AddV w B v C o e w') (hl : l.length < 60) :
    ∃ v', e = .returned (.tuple #[.int .i64 (if Ob.mayB up.length o then ((l.length : Nat) : Int) else 0), errVal (if Ob.mayB up.length o then 0 else 1)]) ∧ v'.g = v.g ∧ BothAt w0 w' B (C + 1) v' up s (addO up.length l o) l := by
  obtain ⟨v', he, hg, hs, hh⟩ := h.h.add hp
  have hc : Hp.addCode up.length (Hp.asIts l) 1048576 (qf 1048576 []) o = if Ob.mayB up.length o then 0 else 1 := Hp.as_addCode l o hl h.may
  unfold addL addN at hh
  rw [hc] at he hh
  unfold addO
  cases hm : Ob.mayB up.length o
  · rw [hm] at he hh
    exact ⟨v', he, hg, h.hstep hs hh⟩
  · rw [hm] at he hh
    rw [if_pos rfl, if_pos rfl, if_pos rfl] at hh
    have h1 := hp_head hm
    have h2 : (o.lev.toNat : Int) = o.lev := Int.toNat_of_nonneg h1.2.2.1
    rw [show Hp.newIt (Hp.asIts l) (cntA l) o = ⟨((l.length : Nat) : Int), ((Ob.cnt l o.lev : Nat) : Int), o⟩ by rw [Hp.newIt, Hp.as_least, cntA, h2], Hp.as_ins,
      show upd (cntA l) o.lev.toNat (cntA l o.lev.toNat + 1) = cntA (l ++ [o]) by
        funext j
        unfold upd cntA
        rw [Ob.cnt_snoc]
        by_cases e : j = o.lev.toNat
        · subst e
          rw [if_pos rfl, h2, if_pos rfl]
          rfl
        · rw [if_neg e, if_neg (by omega)]
          rfl] at hh
    rw [show (if (true : Bool) = true then 0 else 1 : Nat) = 0 from rfl, Hp.as_least] at he
    exact ⟨v', he, hg, h.hstep hs hh⟩
theorem BothAt.addS {w0 w w' : World} {B C : Nat} {v : HV} {up : List Nat} {s : SV} {l lh : List Ob.Obj} (h : BothAt w0 w B C v up s lh l) {o : Ob.Obj} (hp : AddSV w B s o w') :
    ∃ s', s'.g = s.g ∧ BothAt w0 w' B C v up s' lh (addO up.length l o) := by
  unfold AddSV at hp
  rw [h.su] at hp
  unfold addO
  cases hm : Ob.mayB up.length o
  · rw [hm] at hp
    exact ⟨s, rfl, h.more hp⟩
  · rw [hm, if_pos rfl] at hp
    obtain ⟨s', h1, h2, h3, h4, h5, h6, h7⟩ := hp
    rw [h.eq] at h5
    exact ⟨s', h2, h.sstep h1 h3 h4 h5 h6 h7⟩
theorem BothAt.putH {w0 w w' : World} {B C : Nat} {v : HV} {up : List Nat} {s : SV} {l ls : List Ob.Obj} (h : BothAt w0 w B C v up s l ls) {i k under : Int} {u : Ob.Val} {e : Ending} (hp : PutV w B v C i k under u e w') :
    ∃ v', e = .returned (errVal (Ob.putCode up l i k under u)) ∧ v'.g = v.g ∧ BothAt w0 w' B C v' up s (Ob.put up l i k under u) ls := by
  obtain ⟨v', he, hg, hs, hh⟩ := h.h.put hp
  rw [Hp.as_code] at he
  rw [Hp.as_put, show cntA l = cntA (Ob.put up l i k under u) by funext j; unfold cntA; rw [Ob.cnt_map, Ob.cnt_map, Ob.put_levs]] at hh
  exact ⟨v', he, hg, h.hstep hs hh⟩
theorem BothAt.putS {w0 w w' : World} {B C : Nat} {v : HV} {up : List Nat} {s : SV} {lh l : List Ob.Obj} (h : BothAt w0 w B C v up s lh l) {i k under : Int} {u : Ob.Val} {e : Ending} (hp : PutPost w B s i k under u e w') :
    ∃ s', e = .returned (errVal (Ob.putCode up l i k under u)) ∧ s'.g = s.g ∧ BothAt w0 w' B C v up s' lh (Ob.put up l i k under u) := by
  obtain ⟨s', he, h1, h2, h3, h4, h5, h6, h7⟩ := hp
  rw [h.su, h.eq] at he h5
  exact ⟨s', he, h2, h.sstep h1 h3 h4 h5 h6 h7⟩
/-- What the operations of 'num(h.Put(..)) != num(s.Put(..))' give. -/
def PpF (sg ss gx : Nat) (xi xk xu : Int) (u : Ob.Val) (c : Nat) (j : Nat) (v : Value) (_ : World) : Prop := match j with
  | 0 => v = .pointer (some ⟨sg, 0, none⟩)
  | 1 => v = .pointer (some ⟨gx, 5, none⟩)
  | 2 => v = .int .i64 xi
  | 3 => v = .pointer (some ⟨gx, 6, none⟩)
  | 4 => v = .int .i64 xk
  | 5 => v = .pointer (some ⟨gx, 7, none⟩)
  | 6 => v = .int .i64 xu
  | 7 => v = .pointer (some ⟨gx, 8, none⟩)
  | 8 => v = .agg #[.int .u8 ((u.k : Nat) : Int), .int .i64 u.n, .int .i64 u.l]
  | 9 => v = errVal c
  | 10 => v = .int .i64 ((c : Nat) : Int)
  | 11 => v = .pointer (some ⟨ss, 0, none⟩)
  | 12 => v = .pointer (some ⟨gx, 5, none⟩)
  | 13 => v = .int .i64 xi
  | 14 => v = .pointer (some ⟨gx, 6, none⟩)
  | 15 => v = .int .i64 xk
  | 16 => v = .pointer (some ⟨gx, 7, none⟩)
  | 17 => v = .int .i64 xu
  | 18 => v = .pointer (some ⟨gx, 8, none⟩)
  | 19 => v = .agg #[.int .u8 ((u.k : Nat) : Int), .int .i64 u.n, .int .i64 u.l]
  | 20 => v = errVal c
  | 21 => v = .int .i64 ((c : Nat) : Int)
  | 22 => v = .bool false
  | _ => True
/-- Both Puts, in either order. -/
def PpJ (w0 : World) (B C : Nat) (up : List Nat) (l : List Ob.Obj) (i k under : Int) (u : Ob.Val) (sg ss gx : Nat) (xc : Array Value) (f : Nat → Bool) (w : World) : Prop :=
  Blk w gx 67 xc ∧ ∃ v s, v.g = sg ∧ s.g = ss ∧ BothAt w0 w B C v up s (if f 9 then Ob.put up l i k under u else l) (if f 20 then Ob.put up l i k under u else l)
theorem PpJ.grew {w0 w w' : World} {B C : Nat} {up : List Nat} {l : List Ob.Obj} {i k under : Int} {u : Ob.Val} {sg ss gx : Nat} {xc : Array Value} {f : Nat → Bool} (h : PpJ w0 B C up l i k under u sg ss gx xc f w) (hg : Grew w w') : PpJ w0 B C up l i k under u sg ss gx xc f w' := by
  obtain ⟨h1, v, s, h2, h3, h4⟩ := h
  exact ⟨h1.grew hg, v, s, h2, h3, h4.more hg⟩
theorem PpJ.pure {w0 w : World} {B C : Nat} {up : List Nat} {l : List Ob.Obj} {i k under : Int} {u : Ob.Val} {sg ss gx : Nat} {xc : Array Value} {f : Nat → Bool} (h : PpJ w0 B C up l i k under u sg ss gx xc f w) (j : Nat) (h9 : 9 ≠ j) (h20 : 20 ≠ j) : PpJ w0 B C up l i k under u sg ss gx xc (updF f j) w := by
  obtain ⟨h1, v, s, h2, h3, h4⟩ := h
  refine ⟨h1, v, s, h2, h3, ?_⟩
  unfold updF
  rw [if_neg h9, if_neg h20]
  exact h4
theorem PpJ.put9 {w0 w w' : World} {B C : Nat} {up : List Nat} {l : List Ob.Obj} {i k under : Int} {u : Ob.Val} {sg ss gx : Nat} {xc : Array Value} {f : Nat → Bool} {v : HV} {s : SV} (hb : Blk w gx 67 xc) (h2 : v.g = sg) (h3 : s.g = ss) (h4 : BothAt w0 w B C v up s (if f 9 then Ob.put up l i k under u else l) (if f 20 then Ob.put up l i k under u else l)) (hf : f 9 = false) {e : Ending} (hp : PutV w B v C i k under u e w') :
    e = .returned (errVal (Ob.putCode up l i k under u)) ∧ PpJ w0 B C up l i k under u sg ss gx xc (updF f 9) w' ∧ Kept (fun k => B ≤ k) w w' := by
  rw [hf, if_neg (by decide)] at h4
  obtain ⟨v', he, hg, hh⟩ := h4.putH hp
  obtain ⟨_, _, hst, _⟩ := hp
  refine ⟨he, ⟨hb.kept hst.kept (h4.h.mem.alien hb (by decide) (by decide) (by decide) (by decide)), v', s, hg.trans h2, h3, ?_⟩, hst.kept.mono (fun k _ hk => (h4.h.mem.owns hk).1)⟩
  unfold updF
  rw [if_pos (c := (9 = 9)) rfl, if_pos (c := true = true) rfl, if_neg (c := (20 = 9)) (by decide)]
  exact hh
theorem PpJ.put20 {w0 w w' : World} {B C : Nat} {up : List Nat} {l : List Ob.Obj} {i k under : Int} {u : Ob.Val} {sg ss gx : Nat} {xc : Array Value} {f : Nat → Bool} {v : HV} {s : SV} (hb : Blk w gx 67 xc) (h2 : v.g = sg) (h3 : s.g = ss) (h4 : BothAt w0 w B C v up s (if f 9 then Ob.put up l i k under u else l) (if f 20 then Ob.put up l i k under u else l)) (hf : f 20 = false) {e : Ending} (hp : PutPost w B s i k under u e w') :
    e = .returned (errVal (Ob.putCode up l i k under u)) ∧ PpJ w0 B C up l i k under u sg ss gx xc (updF f 20) w' ∧ Kept (fun k => B ≤ k) w w' := by
  rw [hf, if_neg (c := false = true) (by decide)] at h4
  obtain ⟨s', he, hg, hh⟩ := h4.putS hp
  obtain ⟨_, _, _, _, _, _, _, hk, _⟩ := hp
  refine ⟨he, ⟨hb.kept hk (h4.st.alien hb (by decide) (by decide) (by decide)), v, s', h2, hg.trans h3, ?_⟩, hk.mono (fun k _ hk => (h4.st.owns hk).1)⟩
  unfold updF
  rw [if_pos (c := (20 = 20)) rfl, if_pos (c := true = true) rfl, if_neg (c := (9 = 20)) (by decide)]
  exact hh
end Go.Proofs.YtidnaednldcdfaaDoor

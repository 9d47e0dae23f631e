/- Parts of elder texts that this layer needs, joined: XHmU XHmV XHmW. -/
import Derived.Test.YtidnaednldcdfaaGreatDoorGcC
namespace Go.Proofs.YtidnaednldcdfaaGreatDoor
open Go.RowKit

/-- An object with its number in a list, and where its fields lie. -/
structure IV where
  i : Int
  h : Int
  o : Ob.Obj
  A : Option Addr
  c : Nat
def ivF (x : IV) : List Value := [.int .i64 x.i, .int .i64 x.h, .int .i64 x.o.cls, .int .i64 x.o.lev, .slice x.A x.o.f.length x.c, .string x.o.b]
theorem ivF_len (x : IV) : (ivF x).length = 6 := rfl
def ivI (l : List IV) : List Hp.It := l.map (fun x => ⟨x.i, x.h, x.o⟩)
structure ItemsAt (w : World) (A : Option Addr) (l : List IV) : Prop where
  ok : ∀ x ∈ l, OvOk w ⟨x.o, x.A, x.c⟩ ∧ N64 x.i ∧ N64 x.h
  cells : 0 < l.length → ∃ ad, A = some ad ∧ ad.block < w.heap.size ∧ CellsAt 6 ivF w ad l
theorem ItemsAt.grew {w w' : World} {A : Option Addr} {l : List IV} (h : ItemsAt w A l) (hg : Grew w w') : ItemsAt w' A l := ⟨fun x hx => ⟨(h.ok x hx).1.grew hg, (h.ok x hx).2⟩, fun hl => by
  obtain ⟨ad, h1, h2, h3⟩ := h.cells hl
  exact ⟨ad, h1, Nat.lt_of_lt_of_le h2 hg.below.size, h3.kept (F := fun _ => False) (.of_grew hg) h2 (fun h => h)⟩⟩
theorem iv_at {w wr : World} {A : Option Addr} {l : List IV} (h : ItemsAt w A l) (hg : Grew w wr) {i : Nat} (hi : i < l.length) : ∃ ad x, A = some ad ∧ l[i]? = some x ∧ (∀ j u, (ivF x)[j]? = some u → wr.cell? ((ad.add (i * 6)).add j) = some u) ∧ ad.block < wr.heap.size ∧ OvOk wr ⟨x.o, x.A, x.c⟩ ∧ N64 x.i ∧ N64 x.h := by
  obtain ⟨ad, e, hb, hc⟩ := h.cells (by omega)
  have hv := List.getElem?_eq_getElem hi
  refine ⟨ad, l[i], e, hv, fun j u hu => ?_, Nat.lt_of_lt_of_le hb hg.below.size, (h.ok _ (List.getElem_mem hi)).1.grew hg, (h.ok _ (List.getElem_mem hi)).2⟩
  rw [add_add, hg.below.cell (by rw [block_add]; exact hb)]
  exact hc i _ hv j u hu
/-- Such a list in blocks of its own. -/
structure ItemsRow (w : World) (B : Nat) (A : Option Addr) (c : Nat) (l : List IV) : Prop where
  row : Row w B 89 6 A l.length c (l.flatMap ivF)
  fl : ∀ x ∈ l, Row w B 41 3 x.A x.o.f.length x.c (x.o.f.flatMap valF)
theorem ItemsRow.kept {F : Nat → Prop} {w w' : World} {B : Nat} {A : Option Addr} {c : Nat} {l : List IV} (h : ItemsRow w B A c l) (hk : Kept F w w') (hF : ∀ k, F k → k < B) : ItemsRow w' B A c l :=
  ⟨h.row.kept hk (fun g hA hf => by have h1 := Row.at_base h.row g ⟨_, hA, rfl⟩; have h2 := hF _ hf; omega), fun x hx => (h.fl x hx).kept hk (fun g hA hf => by have h1 := Row.at_base (h.fl x hx) g ⟨_, hA, rfl⟩; have h2 := hF _ hf; omega)⟩
theorem ItemsRow.grew {w w' : World} {B : Nat} {A : Option Addr} {c : Nat} {l : List IV} (h : ItemsRow w B A c l) (hg : Grew w w') : ItemsRow w' B A c l := ⟨h.row.grew hg, fun x hx => (h.fl x hx).grew hg⟩
theorem ItemsRow.at {w : World} {B n : Nat} {A : Option Addr} {c : Nat} {l : List IV} (h : ItemsRow w B A c l) (hn : n ≤ 20) (hm : ∀ x ∈ l, Ob.mayB n x.o = true ∧ N64 x.i ∧ N64 x.h) : ItemsAt w A l := by
  refine ⟨fun x hx => ?_, fun hl => ?_⟩
  · obtain ⟨h1, h2, h3⟩ := hm x hx
    have hh := hp_head h1
    have hr := h.fl x hx
    exact ⟨⟨row_vals hr rfl (fun u hu => hp_value (hh.2.2.2.2.2.2 u hu) hn), ⟨by simp only; omega, by simp only; omega⟩, ⟨by simp only; omega, by simp only; omega⟩, hr.cases.2.1⟩, h2, h3⟩
  · have hr := h.row
    rcases hr.cases with ⟨_, _, _, ⟨h1, h2, _⟩ | ⟨g, h1, hb, hw, hc, _⟩⟩
    · omega
    · exact ⟨⟨g, 0, none⟩, h1, hw, CellsAt.of_row ivF_len (by rw [h1] at hr; exact hr)⟩
theorem hitem_info : (Tryz.prog.info? 89).map (fun i => (i.zero, i.size, i.bytes)) = some (some (.agg #[.int .i64 0, .int .i64 0, .int .i64 0, .int .i64 0, .slice none 0 0, .string ⟨#[]⟩]), 6, 72) := by kernel_rfl
def cntL (n : Nat) (cn : Nat → Int) : List Int := (List.range n).map cn
/-- What All answers. -/
def AllV (w : World) (v : HV) (e : Ending) (w' : World) : Prop :=
  ∃ (A : Option Addr) (c : Nat) (l : List IV) (A2 : Option Addr) (c2 : Nat), e = .returned (.tuple #[.slice A l.length c, .slice A2 v.up.length c2]) ∧ ItemsRow w' w.heap.size A c l ∧ ivI l = its v.sl ∧ Row w' w.heap.size 3 1 A2 v.up.length c2 ((cntL v.up.length v.cn).flatMap intF) ∧ Grew w w'
def oneI (k : Nat) : Option SX → List Hp.It
  | none => []
  | some x => [⟨(k : Int), x.h, x.o⟩]
theorem itsFrom_snoc : ∀ (l : List (Option SX)) (k : Nat) (y : Option SX), itsFrom (l ++ [y]) k = itsFrom l k ++ oneI (k + l.length) y
  | [], k, none => by simp [itsFrom, oneI]
  | [], k, some x => by simp [itsFrom, oneI]
  | none :: r, k, y => by
    rw [List.cons_append, itsFrom, itsFrom, itsFrom_snoc r (k + 1) y, List.length_cons, show k + 1 + r.length = k + (r.length + 1) by omega]
  | some x :: r, k, y => by
    rw [List.cons_append, itsFrom, itsFrom, itsFrom_snoc r (k + 1) y, List.length_cons, show k + 1 + r.length = k + (r.length + 1) by omega, List.cons_append]
/-- What holds in the append's region. -/
def AlJ (w0 : World) (k p : Nat) (hh cls lev : Int) (xA : Option Addr) (m xc : Nat) (bt : ByteArray) (A : Option Addr) (n c : Nat) (ys : List Value) (f : Nat → Bool) (w : World) : Prop :=
  (f 16 = false → Row w w0.heap.size 89 6 A n c ys) ∧ Blk w p 89 #[.int .i64 (k : Int), .int .i64 hh, .int .i64 cls, .int .i64 lev, .slice xA m xc, .string bt] ∧ Grew w0 w
theorem AlJ.pure {w0 w : World} {k p : Nat} {hh cls lev : Int} {xA : Option Addr} {m xc : Nat} {bt : ByteArray} {A : Option Addr} {n c : Nat} {ys : List Value} {f : Nat → Bool} (h : AlJ w0 k p hh cls lev xA m xc bt A n c ys f w) (q : Nat) (hq : 16 ≠ q) : AlJ w0 k p hh cls lev xA m xc bt A n c ys (updF f q) w :=
  ⟨fun hf => h.1 (by unfold updF at hf; rw [if_neg hq] at hf; exact hf), h.2⟩
theorem AlJ.grew {w0 w w' : World} {k p : Nat} {hh cls lev : Int} {xA : Option Addr} {m xc : Nat} {bt : ByteArray} {A : Option Addr} {n c : Nat} {ys : List Value} {f : Nat → Bool} (h : AlJ w0 k p hh cls lev xA m xc bt A n c ys f w) (hg : Grew w w') : AlJ w0 k p hh cls lev xA m xc bt A n c ys f w' :=
  ⟨fun hf => (h.1 hf).grew hg, h.2.1.grew hg, h.2.2.trans hg⟩
theorem AlJ.app {w0 w w' : World} {k p : Nat} {hh cls lev : Int} {xA : Option Addr} {m xc : Nat} {bt : ByteArray} {A : Option Addr} {n c : Nat} {ys : List Value} {f : Nat → Bool} (h : AlJ w0 k p hh cls lev xA m xc bt A n c ys f w) (hf : f 16 = false) (hk : Kept (AtRow A) w w') (hp : ¬ AtRow A p) : AlJ w0 k p hh cls lev xA m xc bt A n c ys (updF f 16) w' := by
  refine ⟨fun hf => ?_, h.2.1.kept hk hp, hk.grew h.2.2 (fun q hq => Row.at_base (h.1 ‹f 16 = false›) q hq)⟩
  unfold updF at hf
  rw [if_pos rfl] at hf
  cases hf
/-- What the append's operations give. -/
def AlF (w0 : World) (b0 k p : Nat) (hh cls lev : Int) (xA : Option Addr) (m xc : Nat) (bt : ByteArray) (cs : List Value) (A : Option Addr) (n c : Nat) (ys : List Value) (j : Nat) (v : Value) (w : World) : Prop := match j with
  | 0 => v = .slice A n c
  | 1 => v = .pointer (some ⟨p, 0, none⟩)
  | 2 => v = .pointer (some ⟨p, 0, none⟩)
  | 3 => v = .pointer (some ⟨p, 0, none⟩)
  | 4 => v = .int .i64 (k : Int)
  | 5 => v = .pointer (some ⟨p, 0, none⟩)
  | 6 => v = .pointer (some ⟨p, 0, none⟩)
  | 7 => v = .pointer (some ⟨p, 1, none⟩)
  | 8 => v = .int .i64 hh
  | 9 => v = .pointer (some ⟨p, 0, none⟩)
  | 10 => v = .pointer (some ⟨p, 0, none⟩)
  | 11 => v = .pointer (some ⟨p, 2, none⟩)
  | 12 => v = .agg #[.int .i64 cls, .int .i64 lev, .slice xA m xc, .string bt]
  | 13 => ∃ A' c', v = .agg #[.int .i64 cls, .int .i64 lev, .slice A' m c', .string bt] ∧ Row w b0 41 3 A' m c' cs
  | 14 => ∃ A' c', v = .agg #[.int .i64 (k : Int), .int .i64 hh, .int .i64 cls, .int .i64 lev, .slice A' m c', .string bt] ∧ Row w b0 41 3 A' m c' cs
  | 15 => ∃ A' c' H, v = .slice (some ⟨H, 0, none⟩) 1 1 ∧ Row w b0 41 3 A' m c' cs ∧ Blk w H 89 #[.int .i64 (k : Int), .int .i64 hh, .int .i64 cls, .int .i64 lev, .slice A' m c', .string bt] ∧ b0 ≤ H
  | 16 => ∃ A' c' A3 c3, v = .slice A3 (n + 1) c3 ∧ Row w b0 41 3 A' m c' cs ∧ Row w w0.heap.size 89 6 A3 (n + 1) c3 (ys ++ [.int .i64 (k : Int), .int .i64 hh, .int .i64 cls, .int .i64 lev, .slice A' m c', .string bt])
  | _ => True
theorem AlF.stable {w0 : World} {b0 k p : Nat} {hh cls lev : Int} {xA : Option Addr} {m xc : Nat} {bt : ByteArray} {cs : List Value} {A : Option Addr} {n c : Nat} {ys : List Value} (hA : ∀ q, AtRow A q → q < b0) (a b : Nat) (v : Value) (w w' : World) (hab : a ≠ b) (h : AlF w0 b0 k p hh cls lev xA m xc bt cs A n c ys a v w) (hr : GRo 16 (AtRow A) b w w') : AlF w0 b0 k p hh cls lev xA m xc bt cs A n c ys a v w' := by
  have hz := GRo.zero b w w' hr
  have hrow : ∀ {A' : Option Addr} {c' : Nat}, Row w b0 41 3 A' m c' cs → Row w' b0 41 3 A' m c' cs := fun h => h.kept hz (fun g hg hk => by have h1 := Row.at_base h g ⟨_, hg, rfl⟩; have h2 := hA g hk; omega)
  unfold AlF at h ⊢
  split at h
  · exact h
  · exact h
  · exact h
  · exact h
  · exact h
  · exact h
  · exact h
  · exact h
  · exact h
  · exact h
  · exact h
  · exact h
  · exact h
  · obtain ⟨A', c', h1, h2⟩ := h
    exact ⟨A', c', h1, hrow h2⟩
  · obtain ⟨A', c', h1, h2⟩ := h
    exact ⟨A', c', h1, hrow h2⟩
  · obtain ⟨A', c', H, h1, h2, h3, h4⟩ := h
    exact ⟨A', c', H, h1, hrow h2, h3.kept hz (fun hk => by have := hA H hk; omega), h4⟩
  · obtain ⟨A', c', A3, c3, h1, h2, h3⟩ := h
    exact ⟨A', c', A3, c3, h1, hrow h2, h3.grew (hr.off (fun e => hab e.symm))⟩
  · trivial
theorem make_capS {P : Program} {t e : TypeId} {z : Value} {s b : Nat} (ht : P.underlying t = some (.slice e)) (he : (P.info? e).map (fun i => (i.zero, i.size, i.bytes)) = some (some z, s, b)) (hb : b ≤ 100)
    (n : Nat) (hn : n ≤ 1048576) (W : World) : ∃ w', (Instr.makeSlice t (.int .i64 0) (.int .i64 n)).run P W = .ok (.slice (some ⟨W.heap.size, 0, none⟩) 0 n) w' ∧ Row w' W.heap.size e s (some ⟨W.heap.size, 0, none⟩) 0 n [] ∧ Grew W w' := by
  obtain ⟨i, hi, hz0, hz1, hz2⟩ := info_parts he
  have hm : n * b ≤ n * 100 := Nat.mul_le_mul_left n hb
  have hm2 : (b : Int) * (n : Int) ≤ 100 * n := by rw [← Int.natCast_mul, Nat.mul_comm]; omega
  have hr := run_make (P := P) W t e i z ht hi hz0 .i64 .i64 0 n (by omega) (by omega) (by rw [hz2]; omega) (by omega)
  simp only [Int.toNat_natCast] at hr
  have hbk := Blk.new W e (madeCells z.cells (n * i.size))
  refine ⟨_, hr, ⟨by simp, .inr ⟨W.heap.size, n, madeCells z.cells (n * i.size), rfl, Nat.le_refl _, hbk, Nat.zero_le _, by simp only [maxLen]; omega, by simp [size_madeCells, hz1], by simp⟩⟩, (Grew.refl W).alloc _⟩
theorem cnt_at {w w' : World} {B : Nat} {v : HV} (h : MemAt w B v) (hg : Grew w w') (hl : v.up.length ≤ 8) : IntsAt w' (some ⟨v.g, 18, none⟩) (cntL v.up.length v.cn) := fun _ => by
  refine ⟨⟨v.g, 18, none⟩, rfl, (h.blk.grew hg).lt, fun i x hx j u hu => ?_⟩
  have hi : i < v.up.length := by
    have := (List.getElem?_eq_some_iff.1 hx).1
    simpa [cntL] using this
  have hxe : x = v.cn i := by
    unfold cntL at hx
    rw [List.getElem?_map, List.getElem?_range hi] at hx
    exact (Option.some.inj hx).symm
  have hj : j = 0 := by
    have := (List.getElem?_eq_some_iff.1 hu).1
    simp [intF] at this
    exact this
  subst hj
  simp only [intF, List.getElem?_cons_zero, Option.some.injEq] at hu
  subst hu
  have h1 := (hm_cell h hg (18 + i) (hv_cn v i (by omega))).1
  rw [show (⟨v.g, 18, none⟩ : Addr).add (i * 1 + 0) = ⟨v.g, 18 + i, none⟩ by unfold Addr.add; split <;> simp_all, hxe]
  exact h1
/-- What the last region's operations give. -/
def AlG (w0 : World) (sg un : Nat) (it : Value) (cs : List Value) (j : Nat) (v : Value) (w : World) : Prop := match j with
  | 0 => v = it
  | 1 => v = .pointer (some ⟨sg, 0, none⟩)
  | 2 => v = .pointer (some ⟨sg, 0, none⟩)
  | 3 => v = .pointer (some ⟨sg, 18, none⟩)
  | 4 => v = .pointer (some ⟨sg, 0, none⟩)
  | 5 => v = .int .i64 (un : Int)
  | 6 => v = .slice (some ⟨sg, 18, none⟩) un 8
  | 7 => ∃ A' c', v = .slice A' un c' ∧ Row w w0.heap.size 3 1 A' un c' cs
  | 8 => v = it
  | 9 => ∃ A' c', v = .slice A' un c' ∧ Row w w0.heap.size 3 1 A' un c' cs
  | _ => True
theorem AlG.grew {w0 : World} {sg un : Nat} {it : Value} {cs : List Value} (j : Nat) (v : Value) (w w' : World) (h : AlG w0 sg un it cs j v w) (hg : Grew w w') : AlG w0 sg un it cs j v w' := by
  unfold AlG at h ⊢
  split at h
  · exact h
  · exact h
  · exact h
  · exact h
  · exact h
  · exact h
  · exact h
  · obtain ⟨A', c', h1, h2⟩ := h
    exact ⟨A', c', h1, h2.grew hg⟩
  · exact h
  · obtain ⟨A', c', h1, h2⟩ := h
    exact ⟨A', c', h1, h2.grew hg⟩
  · trivial
set_option maxRecDepth 100000 in
set_option maxHeartbeats 8000000 in
theorem hAll_c (v : HV) (B C : Nat) (w : World) (h : MemAt w B v) (hv : HvOk v C) :
    Calls Tryz.prog 60 #[.pointer (some ⟨v.g, 0, none⟩)] w (AllV w v) := by
  have HM := hid h
  have HV1 := hid hv
  have HLv := hid (fun W (hW : Grew w W) => hLevels_c v B W (h.grew hW))
  obtain ⟨q27, q27l⟩ := hm_cell h (Grew.refl w) 27 (u := .int .i64 v.n) rfl
  have HM26 := hid (fun W (hW : Grew w W) => hm_cell h hW 26 (u := .slice v.S v.sl.length v.cs) rfl)
  have hnn := hv.n
  have hsm := hv.small
  clear h hv
  obtain ⟨N, eN⟩ : ∃ N, N = v.sl.length := ⟨_, rfl⟩
  have ENN := hid eN
  have hlen : (N : Int) ≤ 65536 := by have := HV1.out.len; omega
  rw [← eN] at HM26
  obtain ⟨sg, esg⟩ : ∃ sg, sg = v.g := ⟨_, rfl⟩
  rw [← esg] at HLv q27 q27l HM26 ⊢
  have ESG := hid esg
  obtain ⟨ln, eln⟩ : ∃ ln, ln = (its v.sl).length := ⟨_, rfl⟩
  rw [← eln] at hnn hsm
  rw [hnn] at q27
  have ELN := hid eln
  have hlnI : (ln : Int) ≤ 65536 := by omega
  clear eN esg eln hnn
  go_enter Tryz.func60, Tryz.ntmps60
  obtain ⟨w1, hrun, hrow, hg1⟩ := make_capS (P := Tryz.prog) Tryz.underlying80 hitem_info (by decide) ln (by omega) w
  have HRow1 := hid hrow
  have HG1 := hid hg1
  clear hrow hg1
  go_upto_region 4 with fail
  clear hrun q27 q27l
  obtain ⟨q26, q26l⟩ := HM26.out w1 HG1.out
  go_wp2_with fail
  clear q26 q26l
  go_loopw [4, 6, 19] (fun s4 _ s19 wr => ∃ (i : Nat) (A1 : Option Addr) (c1 : Nat) (l : List IV), s19 = .int .i64 ((i : Nat) : Int) ∧ i ≤ N ∧ s4 = .slice A1 l.length c1 ∧ Hid (ItemsRow wr w.heap.size A1 c1 l) ∧ Hid (ivI l = itsFrom (v.sl.take i) 0) ∧ Hid (Grew w wr) ∧ Hid (l.length ≤ i)) (fun _ _ s19 _ => N - (intOf s19).toNat)
  case atStart => exact ⟨0, _, _, [], rfl, Nat.zero_le _, rfl, hid ⟨by simpa using HRow1.out, by simp⟩, hid (by simp [ivI, itsFrom]), HG1, hid (Nat.le_refl _)⟩
  case round =>
    obtain ⟨i, A1, c1, l, rfl, hi, rfl, HI, HE, HG, HL⟩ := hrel
    by_cases hlt : i < N
    · have f1 : (i : Int) < (N : Int) := by omega
      have hy : v.sl[i]? = some (v.sl[i]'(by rw [← ENN.out]; exact hlt)) := List.getElem?_eq_getElem _
      generalize (v.sl[i]'(by rw [← ENN.out]; exact hlt)) = y at hy
      have HTk := hid (show itsFrom (v.sl.take (i + 1)) 0 = itsFrom (v.sl.take i) 0 ++ oneI i y by
        rw [List.take_add_one, hy, Option.toList, itsFrom_snoc, List.length_take, Nat.min_eq_left (by rw [← ENN.out]; omega), Nat.zero_add])
      have HY := hid hy
      obtain ⟨s, eS, x0, -, xl⟩ := slot_at HM.out HG.out hy
      obtain ⟨q26, q26l⟩ := HM26.out wr HG.out
      clear hy
      cases y with
      | none =>
        unfold slotV at x0
        rw [eS] at q26
        rw [eS]
        go_wp2_with fail
        go_round
        case rel => exact ⟨i + 1, A1, c1, l, by go_num, by omega, rfl, HI, hid (by rw [HTk.out, HE.out]; simp [oneI]), HG, hid (by have := HL.out; omega)⟩
        case measure => simp [intOf]; omega
      | some x =>
        unfold slotV at x0
        rw [eS] at q26
        rw [eS]
        go_upto_region 8 with fail
        have hh := hp_head (HV1.out.at HY.out).1
        have HCp := hid (fun W (hW : Grew w W) => hcopied_c ⟨x.o, x.A, x.c⟩ W (sx_ok (HM.out.grew hW) HV1.out HY.out) (by have := hh.2.2.2.2.1; simp only; omega))
        unfold CopyV at HCp
        have HIt := hid ((HM.out.it i x HY.out).2.1)
        unfold sxC at HIt
        have HPl := hid ((HM.out.it i x HY.out).2.1.lt)
        clear hh
        obtain ⟨p, hhh, ⟨cls, lev, fl, bt⟩, xA, xc⟩ := x
        simp only at HCp HIt HPl HTk
        obtain ⟨m, em⟩ : ∃ m, m = fl.length := ⟨_, rfl⟩
        obtain ⟨cs, ecs⟩ : ∃ cs, cs = fl.flatMap valF := ⟨_, rfl⟩
        rw [← em, ← ecs] at HCp
        rw [← em] at HIt
        have EM := hid em
        have ECS := hid ecs
        obtain ⟨n1, en1⟩ : ∃ n1, n1 = l.length := ⟨_, rfl⟩
        obtain ⟨ys, eys⟩ : ∃ ys, ys = l.flatMap ivF := ⟨_, rfl⟩
        have EN1 := hid en1
        have EYS := hid eys
        have hn1 : n1 ≤ 65536 := by have := HL.out; omega
        have HRo := hid (show Row wr w.heap.size 89 6 A1 n1 c1 ys by rw [en1, eys]; exact HI.out.row)
        rw [← en1]
        have HPn := hid (show p < wr.heap.size from Nat.lt_of_lt_of_le HPl.out HG.out.below.size)
        have HPw := HPl
        obtain ⟨w3, ew3⟩ : ∃ w3, w3 = wr := ⟨_, rfl⟩
        subst ew3
        clear em ecs en1 eys x0 xl q26 q26l eS HPl
        obtain ⟨k, ek⟩ : ∃ k, k = i := ⟨_, rfl⟩
        rw [← ek] at HIt HTk
        have EK := hid ek
        clear ek
        obtain ⟨hh, ehh⟩ : ∃ hh, hh = hhh := ⟨_, rfl⟩
        subst ehh
        have hAl : ∀ q, AtRow A1 q → q < w3.heap.size := fun q hq => Row.at_lt HRo.out q hq
        have hAb : ¬ AtRow A1 p := fun hq => by have h1 := Row.at_base HRo.out _ hq; have h2 := HPw.out; omega
        have HAb := hid hAb
        clear hAb
        have HJ0 := hid (show AlJ w k p hh cls lev xA m xc bt A1 n1 c1 ys (fun _ => false) w3 from ⟨fun _ => HRo.out, HIt.out.grew HG.out, HG.out⟩)
        refine wp_region_facts4 (w0 := w3) w3 17 17 [25, 26, 27, 28, 29, 30, 31, 32, 33, 34, 35, 36, 37, 38, 39, 40, 41] [] (AlF w w3.heap.size k p hh cls lev xA m xc bt cs A1 n1 c1 ys) (Kept (AtRow A1)) (GRo 16 (AtRow A1)) (AlJ w k p hh cls lev xA m xc bt A1 n1 c1 ys) (May.kept _) GRo.zero GRo.refl (by kernel_rfl) (by kernel_rfl) (Kept.refl _ _).drew (HJ0.out.grew (Grew.refl _).drew) (fun a b v w w' _ _ hab _ h hr => AlF.stable hAl a b v w w' hab h hr) ?_ ?_
        · repeat' (first | exact trivial | apply And.intro)
          all_goals
            intro a w' fl hgw hJ hfi hdep hs hA
            have t4 := hs.eval 4 (by decide) (v := .slice A1 n1 c1) rfl
            have t6 := hs.eval 6 (by decide) (v := .pointer (some ⟨p, 0, none⟩)) rfl
            have HJ1 := hid hJ
            have HFi := hid hfi
            have HGW := hid hgw
            clear hs hgw hJ hfi hdep
            simp only [Ahead, Region.binds, slotOf, AlF, List.getD_cons_succ, List.getD_cons_zero, forall_const, and_true] at hA
            simp only [wantedD, if_true]
            unfold Oper.wp
            have ec : ∀ v, a.eval (.const v) = v := fun _ => rfl
            generalize hfe : a.eval = fe at *
            have ef : ∀ k, fe (.func k) = Act.eval ⟨#[], []⟩ (.func k) := fun k => by rw [← hfe]; rfl
            clear hfe
          · go_simp
            exact Gives3.of rfl (GRo.refl 0 _) rfl (HJ1.out.pure 0 (by decide))
          · go_simp
            exact Gives3.of rfl (GRo.refl 1 _) rfl (HJ1.out.pure 1 (by decide))
          · go_simp
            exact Gives3.of rfl (GRo.refl 2 _) rfl (HJ1.out.pure 2 (by decide))
          · go_simp
            exact Gives3.of rfl (GRo.refl 3 _) rfl (HJ1.out.pure 3 (by decide))
          · have x0 := HJ1.out.2.1.cell 0
            have xl := HJ1.out.2.1.lt
            simp only [List.getElem?_toArray, List.getElem?_cons_zero] at x0
            go_simp
            exact Gives3.of rfl (GRo.refl 4 _) rfl (HJ1.out.pure 4 (by decide))
          · go_simp
            exact Gives3.of rfl (GRo.refl 5 _) rfl (HJ1.out.pure 5 (by decide))
          · go_simp
            exact Gives3.of rfl (GRo.refl 6 _) rfl (HJ1.out.pure 6 (by decide))
          · go_simp
            exact Gives3.of rfl (GRo.refl 7 _) rfl (HJ1.out.pure 7 (by decide))
          · have x1 := HJ1.out.2.1.cell 1
            have xl := HJ1.out.2.1.lt
            simp only [List.getElem?_toArray, List.getElem?_cons_zero, List.getElem?_cons_succ] at x1
            go_simp
            exact Gives3.of rfl (GRo.refl 8 _) rfl (HJ1.out.pure 8 (by decide))
          · go_simp
            exact Gives3.of rfl (GRo.refl 9 _) rfl (HJ1.out.pure 9 (by decide))
          · go_simp
            exact Gives3.of rfl (GRo.refl 10 _) rfl (HJ1.out.pure 10 (by decide))
          · go_simp
            exact Gives3.of rfl (GRo.refl 11 _) rfl (HJ1.out.pure 11 (by decide))
          · have x2 := HJ1.out.2.1.cell 2
            have x3 := HJ1.out.2.1.cell 3
            have x4 := HJ1.out.2.1.cell 4
            have x5 := HJ1.out.2.1.cell 5
            have xl := HJ1.out.2.1.lt
            simp only [List.getElem?_toArray, List.getElem?_cons_zero, List.getElem?_cons_succ] at x2 x3 x4 x5
            go_simp
            exact Gives3.of rfl (GRo.refl 12 _) rfl (HJ1.out.pure 12 (by decide))
          · go_simp
            refine (HCp.out w' HJ1.out.2.2).mono ?_
            rintro e wz ⟨A', c', rfl, hrz, hgz⟩
            exact Gives3.of rfl (GRo.grew (j := 13) hgz) ⟨A', c', rfl, hrz.low HGW.out.size⟩ ((HJ1.out.grew hgz).pure 13 (by decide))
          · obtain ⟨hv1, hv2, A', c', hv3, hrz⟩ := hA
            have HRz := hid hrz
            clear hrz
            go_simp
            exact Gives3.of rfl (GRo.refl 14 _) ⟨A', c', rfl, HRz.out⟩ (HJ1.out.pure 14 (by decide))
          · obtain ⟨A', c', hv1, hrz⟩ := hA
            have hgn : Grew w' (w'.alloc (.cells #[.int .i64 (k : Int), .int .i64 hh, .int .i64 cls, .int .i64 lev, .slice A' m c', .string bt] 89)) := (Grew.refl w').alloc _
            have hbn := Blk.new w' 89 #[.int .i64 (k : Int), .int .i64 hh, .int .i64 cls, .int .i64 lev, .slice A' m c', .string bt]
            have HGn := hid hgn
            have HBn := hid hbn
            have HRz := hid hrz
            clear hgn hbn hrz
            go_simp
            exact Gives3.of rfl (GRo.grew (j := 15) HGn.out) ⟨A', c', w'.heap.size, rfl, HRz.out.grew HGn.out, HBn.out, HGW.out.size⟩ ((HJ1.out.grew HGn.out).pure 15 (by decide))
          · obtain ⟨hv1, ⟨A', c', H, hv2, hrz, hbn, hH⟩, _⟩ := hA
            have hown := HJ1.out.1 HFi.out
            obtain ⟨A3, c3, w2', hrun, r1, r2, r3⟩ := run_catR (P := Tryz.prog) 80 80 89 (.agg #[.int .i64 0, .int .i64 0, .int .i64 0, .int .i64 0, .slice none 0 0, .string ⟨#[]⟩]) 6 72 Tryz.underlying80 hitem_info rfl (by decide) w' w.heap.size HJ1.out.2.2.below.size A1 n1 c1 ys hown (some ⟨H, 0, none⟩) 1 1 [.int .i64 (k : Int), .int .i64 hh, .int .i64 cls, .int .i64 lev, .slice A' m c', .string bt] rfl (by intro u hu; simp only [List.mem_cons, List.not_mem_nil, or_false] at hu; rcases hu with rfl | rfl | rfl | rfl | rfl | rfl <;> rfl) (by intro h; cases h) (blk_row hbn) (by omega) (by omega)
            have HR1' := hid r1
            have HR2' := hid r2
            have HRz := hid (hrz.kept r2 (fun g hg hk => by have h1 := Row.at_base hrz g ⟨_, hg, rfl⟩; have h2 := hAl g hk; omega))
            clear hown hbn r1 r2 r3 hrz
            simp only [execOp, resolve, invoke, builtin, Sem.run_bind, Sem.run_pure, Result.andThen_ok, List.map_toArray, List.map_cons, List.map_nil, hv1, hv2, hrun]
            exact Gives3.of rfl (GRo.at HR2'.out) ⟨A', c', A3, c3, rfl, HRz.out, HR1'.out⟩ (HJ1.out.app HFi.out HR2'.out HAb.out)
        · intro a2 w4 hgw hs hf hJ _
          have h16 := hf 16 (by decide)
          simp only [slotOf, AlF, List.getD_cons_succ, List.getD_cons_zero] at h16
          obtain ⟨A', c', A3, c3, hv16, hrz, hrow⟩ := h16
          obtain ⟨fn, rfl, hft⟩ := hs.put
          rw [hft] at hv16
          have HRow := hid hrow
          have HRz := hid hrz
          have HKr := hid hgw
          clear hf hft hs hJ hrow hgw hrz
          simp only [List.drop_succ_cons, List.drop_zero, putAll, List.foldl_cons, List.foldl_nil, Act.put, List.setIfInBounds_toArray, List.set_cons_succ, List.set_cons_zero, hv16]
          clear hv16
          go_wp2_with fail
          have hI4 : ItemsRow w4 w.heap.size A3 c3 (l ++ [⟨(k : Int), hh, ⟨cls, lev, fl, bt⟩, A', c'⟩]) := by
            refine ⟨?_, fun x hx => ?_⟩
            · rw [List.length_append, List.length_singleton, List.flatMap_append, ← EN1.out, ← EYS.out]
              have h1 := HRow.out
              rw [EM.out] at h1
              simpa [ivF] using h1
            · rcases List.mem_append.1 hx with hx | hx
              · refine (HI.out.fl x hx).kept HKr.out (fun g hA hk => ?_)
                obtain ⟨ds, hd⟩ := HRo.out.blkAt hk
                obtain ⟨es, he⟩ := (HI.out.fl x hx).blkAt (k := g) ⟨_, hA, rfl⟩
                exact absurd (hd.ty he).1 (by decide)
              · obtain rfl := List.mem_singleton.1 hx
                have h1 := HRz.out.low HG.out.below.size
                rw [EM.out, ECS.out] at h1
                exact h1
          have HI4 := hid hI4
          have HL4 := hid (show (l ++ [(⟨(k : Int), hh, ⟨cls, lev, fl, bt⟩, A', c'⟩ : IV)]).length = n1 + 1 by rw [EN1.out]; simp)
          have HG4 := hid (HKr.out.grew HG.out (fun q hq => Row.at_base HRo.out q hq))
          clear hI4
          go_round
          case rel => exact ⟨i + 1, A3, c3, _, by go_num, by omega, by rw [HL4.out], HI4, hid (by rw [← EK.out, HTk.out, show itsFrom (v.sl.take k) 0 = ivI l by rw [EK.out, HE.out]]; simp [ivI, oneI]), HG4, hid (by rw [HL4.out]; have := HL.out; have := EN1.out; omega)⟩
          case measure => simp [intOf]; omega
    · have f1 : ¬ (i : Int) < (N : Int) := by omega
      have HLe := hid (show ivI l = its v.sl by
        rw [HE.out, show i = v.sl.length by rw [← ENN.out]; omega, List.take_length]
        rfl)
      have hu8 := HV1.out.lens.2
      have HCn := hid (fun W (hW : Grew w W) => cloneI_c (some ⟨v.g, 18, none⟩) 8 (cntL v.up.length v.cn) W (cnt_at HM.out hW hu8) (by unfold cntL; simp; omega))
      rw [← ESG.out, show (cntL v.up.length v.cn).length = v.up.length by simp [cntL]] at HCn
      obtain ⟨un, eun⟩ : ∃ un, un = v.up.length := ⟨_, rfl⟩
      rw [← eun] at HCn hu8 HLv
      have EUN := hid eun
      have g8 : (un : Int) ≤ 8 := by omega
      obtain ⟨cs, ecs⟩ : ∃ cs, cs = (cntL un v.cn).flatMap intF := ⟨_, rfl⟩
      rw [← ecs] at HCn
      have ECS := hid ecs
      have HM0 := hid (fun W (hW : Grew w W) => (hm_cell HM.out hW 0 (u := .slice v.U v.up.length v.cu) rfl).2)
      rw [← ESG.out] at HM0
      clear eun ecs
      go_upto_region 10 with fail
      clear f1
      obtain ⟨ll, ell⟩ : ∃ ll, ll = l.length := ⟨_, rfl⟩
      rw [← ell]
      have ELL := hid ell
      clear ell
      refine wp_region_facts4 (w0 := wr) wr 10 10 [43, 44, 45, 46, 47, 48, 49, 50, 2, 3] [] (AlG wr sg un (.slice A1 ll c1) cs) (Kept (fun _ => False)) (fun _ => Kept (fun _ => False)) (fun _ _ => True) (May.kept _) (fun _ _ _ h => h) (fun _ w => Kept.refl _ w) (by kernel_rfl) (by kernel_rfl) (Kept.refl _ _).drew trivial (fun a _ v w w' _ _ _ _ h hr => AlG.grew a v w w' h (Kept.grew hr (Grew.refl _) (fun _ h => h.elim))) ?_ ?_
      · repeat' (first | exact trivial | apply And.intro)
        all_goals
          intro a w' fl hgk hJ hfi hdep hs hA
          have hgw : Grew wr w' := Kept.grew hgk (Grew.refl _) (fun _ h => h.elim)
          have t0 := hs.eval 0 (by decide) (v := .pointer (some ⟨sg, 0, none⟩)) rfl
          have t4 := hs.eval 4 (by decide) (v := .slice A1 ll c1) rfl
          have HGW := hid (HG.out.trans hgw)
          have HGz := hid hgw
          clear hs hgk hJ hfi hdep hgw
          simp only [Ahead, Region.binds, slotOf, AlG, List.getD_cons_succ, List.getD_cons_zero, forall_const, and_true] at hA
          simp only [wantedD, if_true]
          unfold Oper.wp
          have ec : ∀ v, a.eval (.const v) = v := fun _ => rfl
          generalize hfe : a.eval = fe at *
          have ef : ∀ k, fe (.func k) = Act.eval ⟨#[], []⟩ (.func k) := fun k => by rw [← hfe]; rfl
          clear hfe
        · go_simp
          exact Gives3.of rfl (Kept.refl _ _) rfl trivial
        · go_simp
          exact Gives3.of rfl (Kept.refl _ _) rfl trivial
        · go_simp
          exact Gives3.of rfl (Kept.refl _ _) rfl trivial
        · go_simp
          exact Gives3.of rfl (Kept.refl _ _) rfl trivial
        · go_simp
          exact Gives3.of rfl (Kept.refl _ _) rfl trivial
        · go_simp
          refine (HLv.out w' HGW.out).mono ?_
          rintro e wz ⟨rfl, hgz⟩
          exact Gives3.of rfl (Kept.of_grew hgz) rfl trivial
        · have xl := HM0.out w' HGW.out
          go_simp
          exact Gives3.of rfl (Kept.refl _ _) rfl trivial
        · go_simp
          refine (HCn.out w' HGW.out).mono ?_
          rintro e wz ⟨A', c', rfl, hrz, hgz⟩
          exact Gives3.of rfl (Kept.of_grew hgz) ⟨A', c', rfl, hrz.low HGz.out.below.size⟩ trivial
        · go_simp
          exact Gives3.of rfl (Kept.refl _ _) rfl trivial
        · obtain ⟨⟨A', c', hv, hrz⟩, _⟩ := hA
          have HRz := hid hrz
          clear hrz
          go_simp
          exact Gives3.of rfl (Kept.refl _ _) ⟨A', c', rfl, HRz.out⟩ trivial
      · intro a2 w4 hgk hs hf _ _
        have hgw : Grew wr w4 := Kept.grew hgk (Grew.refl _) (fun _ h => h.elim)
        have h7 := hf 9 (by decide)
        have h0 := hf 8 (by decide)
        simp only [slotOf, AlG, List.getD_cons_succ, List.getD_cons_zero] at h7 h0
        obtain ⟨A2, c2, hv7, hr7⟩ := h7
        obtain ⟨fn, rfl, hft⟩ := hs.put
        rw [hft] at hv7 h0
        have HR7 := hid hr7
        have HG7 := hid (HG.out.trans hgw)
        have HI7 := hid (HI.out.grew hgw)
        clear hf hft hs hgw hgk hr7
        simp only [List.drop_succ_cons, List.drop_zero, putAll, List.foldl_cons, List.foldl_nil, Act.put, List.setIfInBounds_toArray, List.set_cons_succ, List.set_cons_zero, hv7, h0]
        clear hv7 h0
        go_wp2_with fail
        go_ret2
        refine ⟨A1, c1, l, A2, c2, by rw [← ELL.out, ← EUN.out]; rfl, HI7.out, HLe.out, ?_, HG7.out⟩
        rw [← EUN.out, ← ECS.out]
        exact HR7.out.low HG.out.below.size
end Go.Proofs.YtidnaednldcdfaaGreatDoor
namespace Go.Proofs.YtidnaednldcdfaaGreatDoor
open Go.RowKit

def cntB (x : Int) : Bool := decide (0 ≤ x) && decide (x ≤ 2147483647)
def cntsB (n : Nat) (cs : List Int) : Bool := decide (cs.length = n) && cs.all cntB
def itemB (n : Nat) (cs : List Int) (least : Int) (x : Hp.It) : Bool := decide (least ≤ x.i) && (decide (x.i < 65536) && (Ob.mayB n x.o && Ob.inB x.h (cs.getD x.o.lev.toNat 0)))
def itemsB (n : Nat) (cs : List Int) : Int → List Hp.It → Bool
  | _, [] => true
  | least, x :: r => itemB n cs least x && itemsB n cs (x.i + 1) r
set_option maxRecDepth 100000 in
theorem cntOther_c (x : Int) (w : World) : Calls Tryz.prog 86 #[.int .i64 x] w fun e w' => e = .returned (.bool (!cntB x)) ∧ Grew w w' := by
  unfold cntB
  by_cases h1 : x < 0
  · rw [decide_eq_false (by omega : ¬ 0 ≤ x), Bool.false_and]
    go_enter Tryz.func86, Tryz.ntmps86
    go_wp2_with fail
    go_ret
    exact ⟨rfl, Grew.refl _⟩
  · rw [decide_eq_true (by omega : 0 ≤ x), Bool.true_and]
    by_cases h2 : 2147483647 < x
    · rw [decide_eq_false (by omega : ¬ x ≤ 2147483647)]
      go_enter Tryz.func86, Tryz.ntmps86
      go_wp2_with fail
      go_ret
      exact ⟨rfl, Grew.refl _⟩
    · rw [decide_eq_true (by omega : x ≤ 2147483647)]
      go_enter Tryz.func86, Tryz.ntmps86
      go_wp2_with fail
      go_ret
      exact ⟨rfl, Grew.refl _⟩
theorem cntsB_any (n : Nat) (cs : List Int) : cntsB n cs = (decide (cs.length = n) && !cs.any (fun x => !cntB x)) := by
  unfold cntsB
  congr 1
  induction cs with
  | nil => rfl
  | cons x r ih => rw [List.any_cons, List.all_cons, Bool.not_or, ih, Bool.not_not]
set_option maxRecDepth 100000 in
theorem areCounts_c (n : Nat) (A : Option Addr) (c : Nat) (cs : List Int) (w : World) (h : IntsAt w A cs) (hl : cs.length ≤ 1000) (hn : n ≤ 1000) :
    Calls Tryz.prog 62 #[.int .i64 ((n : Nat) : Int), .slice A cs.length c] w fun e w' => e = .returned (.bool (cntsB n cs)) ∧ Grew w w' := by
  rw [cntsB_any]
  have HAny := hid (fun W (hW : Grew w W) => anyInt_c 86 #[] (fun _ _ => rfl) (fun x => !cntB x) A c cs W (h.grew hW) (by omega) (fun x _ W' _ => cntOther_c x W'))
  clear h
  generalize cs.any (fun x => !cntB x) = b at *
  generalize cs.length = m at *
  by_cases hm : m = n
  · subst hm
    rw [decide_eq_true rfl, Bool.true_and]
    go_enter Tryz.func62, Tryz.ntmps62
    go_wp2_with (go_at_call 51; refine (HAny.out _ (Grew.refl w)).mono ?_; rintro e w2 ⟨rfl, hg2⟩)
    go_ret
    exact ⟨rfl, hg2⟩
  · rw [decide_eq_false hm, Bool.false_and]
    have f1 : (((m : Nat) : Int) == ((n : Nat) : Int)) = false := by rw [beq_eq_false_iff_ne]; omega
    go_enter Tryz.func62, Tryz.ntmps62
    go_wp2_with fail
    go_ret
    exact ⟨rfl, Grew.refl _⟩
theorem itemsB_snoc (n : Nat) (cs : List Int) : ∀ (l : List Hp.It) (least : Int) (x : Hp.It), itemsB n cs least (l ++ [x]) = (itemsB n cs least l && itemB n cs ((l.getLast?.map (fun y => y.i + 1)).getD least) x)
  | [], least, x => by simp [itemsB]
  | [y], least, x => by simp [itemsB]
  | y :: z :: r, least, x => by
    show (itemB n cs least y && itemsB n cs (y.i + 1) ((z :: r) ++ [x])) = ((itemB n cs least y && itemsB n cs (y.i + 1) (z :: r)) && _)
    rw [itemsB_snoc n cs (z :: r) (y.i + 1) x, Bool.and_assoc, List.getLast?_cons_cons]
    cases h : (z :: r).getLast? with
    | none => simp at h
    | some u => rfl
theorem itemsB_app (n : Nat) (cs : List Int) : ∀ (l m : List Hp.It) (least : Int), itemsB n cs least (l ++ m) = true → itemsB n cs least l = true
  | [], m, least, _ => rfl
  | y :: r, m, least, h => by
    rw [List.cons_append, itemsB, Bool.and_eq_true] at h
    rw [itemsB, Bool.and_eq_true]
    exact ⟨h.1, itemsB_app n cs r m _ h.2⟩
/-- The least number that may come next. -/
def nextI (l : List Hp.It) : Int := (l.getLast?.map (fun y => y.i + 1)).getD 0
theorem nextI_snoc (l : List Hp.It) (x : Hp.It) : nextI (l ++ [x]) = x.i + 1 := by simp [nextI]
set_option maxRecDepth 100000 in
set_option maxHeartbeats 8000000 in
theorem areItems_c (n : Nat) (A : Option Addr) (c : Nat) (l : List IV) (A2 : Option Addr) (c2 : Nat) (cs : List Int) (w : World) (h : ItemsAt w A l) (hl : l.length ≤ 65536) (h2 : IntsAt w A2 cs) (hn : cs.length = n) (hn8 : n ≤ 8) :
    Calls Tryz.prog 63 #[.int .i64 ((n : Nat) : Int), .slice A l.length c, .slice A2 cs.length c2] w fun e w' => e = .returned (.bool (itemsB n cs 0 (ivI l))) ∧ Grew w w' := by
  have HA := hid h
  have HC := hid h2
  obtain ⟨m, em⟩ : ∃ m, m = l.length := ⟨_, rfl⟩
  have EM := hid em
  have HCN := hid hn
  rw [hn, ← em]
  rw [← em] at hl
  have hlI : (m : Int) ≤ 65536 := by omega
  have hnI : (n : Int) ≤ 8 := by omega
  clear h h2 em hn
  go_enter Tryz.func63, Tryz.ntmps63
  go_wp2_with fail
  go_loopw [7, 9, 12] (fun s7 _ s12 wr => ∃ (i : Nat) (le : Int), s12 = .int .i64 ((i : Nat) : Int) ∧ i ≤ m ∧ s7 = .int .i64 le ∧ Hid (le = nextI ((ivI l).take i) ∧ 0 ≤ le ∧ le ≤ 65536) ∧ Hid (itemsB n cs 0 ((ivI l).take i) = true) ∧ Hid (Grew w wr)) (fun _ _ s12 _ => m - (intOf s12).toNat)
  case atStart => exact ⟨0, 0, rfl, Nat.zero_le _, rfl, hid ⟨rfl, by decide, by decide⟩, hid rfl, hid (Grew.refl _)⟩
  case round =>
    obtain ⟨i, le, rfl, hi, rfl, HLe, HIs, HG⟩ := hrel
    by_cases hlt : i < m
    · have f1 : (i : Int) < (m : Int) := by omega
      obtain ⟨ad, x, rfl, hx, hcl, hb, hok, hxi, hxh⟩ := iv_at HA.out HG.out (i := i) (by rw [← EM.out]; exact hlt)
      have hxI : (ivI l)[i]? = some ⟨x.i, x.h, x.o⟩ := by unfold ivI; rw [List.getElem?_map, hx]; rfl
      have HTk := hid (show (ivI l).take (i + 1) = (ivI l).take i ++ [⟨x.i, x.h, x.o⟩] by rw [List.take_add_one, hxI]; rfl)
      have HSn := hid (show itemsB n cs 0 ((ivI l).take (i + 1)) = itemB n cs le ⟨x.i, x.h, x.o⟩ by
        rw [HTk.out, itemsB_snoc, HIs.out, Bool.true_and, HLe.out.1]
        rfl)
      have HAll := hid (show itemsB n cs 0 ((ivI l).take (i + 1)) = false → itemsB n cs 0 (ivI l) = false from fun hf => by
        cases hb : itemsB n cs 0 (ivI l)
        · rfl
        · rw [← List.take_append_drop (i + 1) (ivI l)] at hb
          rw [itemsB_app n cs _ _ 0 hb] at hf
          cases hf)
      have q0 := hcl 0 _ rfl
      have q1 := hcl 1 _ rfl
      have q2 := hcl 2 _ rfl
      have q3 := hcl 3 _ rfl
      have q4 := hcl 4 _ rfl
      have q5 := hcl 5 _ rfl
      rw [add_zero] at q0
      rw [add_pos (by decide), block_add] at q1 q2 q3 q4 q5
      have HMy := hid (fun W (hW : Grew wr W) => may_c n ⟨x.o, x.A, x.c⟩ W (hok.grew hW))
      have HXi := hid hxi
      clear hx hxI hcl hok hxi hxh
      obtain ⟨xi, xh, o, xA, xc⟩ := x
      simp only at q0 q1 q2 q3 q4 q5 HMy HSn HXi HTk
      have HIt := hid (show itemB n cs le ⟨xi, xh, o⟩ = (decide (le ≤ xi) && (decide (xi < 65536) && (Ob.mayB n o && Ob.inB xh (cs.getD o.lev.toNat 0)))) from rfl)
      have HHd := hid (fun (hm : Ob.mayB n o = true) => hp_head hm)
      obtain ⟨bm, ebm⟩ : ∃ bm, bm = Ob.mayB n o := ⟨_, rfl⟩
      rw [← ebm] at HIt HMy HHd
      clear ebm
      obtain ⟨cls, lev, f, bt⟩ := o
      simp only at q2 q3 q4 q5 HMy HIt HHd
      generalize f.length = fm at *
      have B1 := Blk.new wr 89 #[.int .i64 xi, .int .i64 xh, .int .i64 cls, .int .i64 lev, .slice xA fm xc, .string bt]
      have G1 := (Grew.refl wr).alloc (.cells #[.int .i64 xi, .int .i64 xh, .int .i64 cls, .int .i64 lev, .slice xA fm xc, .string bt] 89)
      go_upto_region 5 with fail
      generalize wr.alloc (.cells #[.int .i64 xi, .int .i64 xh, .int .i64 cls, .int .i64 lev, .slice xA fm xc, .string bt] 89) = w1 at *
      obtain ⟨gx, egx⟩ : ∃ gx, gx = wr.heap.size := ⟨_, rfl⟩
      rw [← egx] at B1 ⊢
      have HB1 := hid B1
      have HG1 := hid G1
      clear B1 G1 q0 q1 q2 q3 q4 q5 hb egx
      have p0 := fun (y : After w1) => (HB1.out.grew y.grew).cell 0
      have p1 := fun (y : After w1) => (HB1.out.grew y.grew).cell 1
      have p2 := fun (y : After w1) => (HB1.out.grew y.grew).cell 2
      have p3 := fun (y : After w1) => (HB1.out.grew y.grew).cell 3
      have p4 := fun (y : After w1) => (HB1.out.grew y.grew).cell 4
      have p5 := fun (y : After w1) => (HB1.out.grew y.grew).cell 5
      have pl := fun (y : After w1) => (HB1.out.grew y.grew).lt
      simp only [List.getElem?_toArray, List.getElem?_cons_zero, List.getElem?_cons_succ] at p0 p1 p2 p3 p4 p5
      by_cases c1 : xi < le
      · have HF := hid (HAll.out (by rw [HSn.out, HIt.out, decide_eq_false (by omega : ¬ le ≤ xi), Bool.false_and]))
        refine wp_region_grew_from (w0 := w1) (Grew.refl w1) (by kernel_rfl) (by kernel_rfl) ?_
        repeat (go_big_quiet_step (fail))
        refine wpQuiet_nil ?_
        rintro _ ⟨y, rfl⟩
        clear p0 p1 p2 p3 p4 p5 pl
        go_wp2_with fail
        go_ret
        exact ⟨by rw [HF.out]; rfl, (HG.out.trans HG1.out).trans y.grew⟩
      · rw [decide_eq_true (by omega : le ≤ xi), Bool.true_and] at HIt
        by_cases c2 : (65536 : Int) ≤ xi
        · have HF := hid (HAll.out (by rw [HSn.out, HIt.out, decide_eq_false (by omega : ¬ xi < 65536), Bool.false_and]))
          refine wp_region_grew_from (w0 := w1) (Grew.refl w1) (by kernel_rfl) (by kernel_rfl) ?_
          repeat (go_big_quiet_step (fail))
          refine wpQuiet_nil ?_
          rintro _ ⟨y, rfl⟩
          clear p0 p1 p2 p3 p4 p5 pl
          go_wp2_with fail
          go_ret
          exact ⟨by rw [HF.out]; rfl, (HG.out.trans HG1.out).trans y.grew⟩
        · rw [decide_eq_true (by omega : xi < 65536), Bool.true_and] at HIt
          cases bm
          · have HF := hid (HAll.out (by rw [HSn.out, HIt.out, Bool.false_and]))
            refine wp_region_grew_from (w0 := w1) (Grew.refl w1) (by kernel_rfl) (by kernel_rfl) ?_
            repeat (go_big_quiet_step ((go_at_call 34; exact Calls.grew (After.grew _) (HMy.out _ (HG1.out.trans (After.grew _))))))
            refine wpQuiet_nil ?_
            rintro _ ⟨y, rfl⟩
            clear p0 p1 p2 p3 p4 p5 pl
            go_wp2_with fail
            go_ret
            exact ⟨by rw [HF.out]; rfl, (HG.out.trans HG1.out).trans y.grew⟩
          · rw [Bool.true_and] at HIt
            have hh := HHd.out rfl
            obtain ⟨j, rfl⟩ : ∃ j : Nat, lev = (j : Int) := ⟨lev.toNat, by omega⟩
            have hjn : j < cs.length := by rw [HCN.out]; omega
            have g3 : (j : Int) < (n : Int) := by omega
            obtain ⟨a2, cj, rfl, hcj, -, -⟩ := int_at HC.out (HG.out.trans HG1.out) hjn
            have HInt : Hid (∀ W, Grew w1 W → W.cell? (a2.add j) = some (.int .i64 cj) ∧ a2.block < W.heap.size) := hid (fun W hW => by
              obtain ⟨a3, c3, h1, h2, h3, h4⟩ := int_at HC.out ((HG.out.trans HG1.out).trans hW) hjn
              cases h1
              rw [hcj] at h2
              cases h2
              exact ⟨h3, h4⟩)
            rw [Int.toNat_natCast, List.getD_eq_getElem?_getD, hcj, Option.getD_some] at HIt
            have HIx := hid (fun W => hIndex_c xh cj W)
            clear hh hjn hcj HHd
            have q0 := fun (y : After w1) => (HInt.out y.w y.grew).1
            have q1 := fun (y : After w1) => (HInt.out y.w y.grew).2
            obtain ⟨bi, ebi⟩ : ∃ bi, bi = Ob.inB xh cj := ⟨_, rfl⟩
            rw [← ebi] at HIt HIx
            clear ebi
            cases bi
            · have HF := hid (HAll.out (by rw [HSn.out, HIt.out]))
              refine wp_region_grew_from (w0 := w1) (Grew.refl w1) (by kernel_rfl) (by kernel_rfl) ?_
              repeat (go_big_quiet_step (first | (go_at_call 34; exact Calls.grew (After.grew _) (HMy.out _ (HG1.out.trans (After.grew _)))) | (go_at_call 41; exact Calls.grew (After.grew _) (HIx.out _))))
              refine wpQuiet_nil ?_
              rintro _ ⟨y, rfl⟩
              clear p0 p1 p2 p3 p4 p5 pl q0 q1
              go_wp2_with fail
              go_ret
              exact ⟨by rw [HF.out]; rfl, (HG.out.trans HG1.out).trans y.grew⟩
            · have HF := hid (show itemsB n cs 0 ((ivI l).take (i + 1)) = true by rw [HSn.out, HIt.out])
              refine wp_region_grew_from (w0 := w1) (Grew.refl w1) (by kernel_rfl) (by kernel_rfl) ?_
              repeat (go_big_quiet_step (first | (go_at_call 34; exact Calls.grew (After.grew _) (HMy.out _ (HG1.out.trans (After.grew _)))) | (go_at_call 41; exact Calls.grew (After.grew _) (HIx.out _))))
              refine wpQuiet_nil ?_
              rintro _ ⟨y, rfl⟩
              clear p0 p1 p2 p3 p4 p5 pl q0 q1
              have z0 := (HB1.out.grew y.grew).cell 0
              have zl := (HB1.out.grew y.grew).lt
              simp only [List.getElem?_toArray, List.getElem?_cons_zero] at z0
              have HG2 := hid ((HG.out.trans HG1.out).trans y.grew)
              have hle := HLe.out.2
              have hwr := wrap64 (x := xi + 1) (by omega) (by omega)
              go_wp2_with fail
              go_round
              case rel => exact ⟨i + 1, xi + 1, by go_num, by omega, rfl, hid ⟨by rw [HTk.out, nextI_snoc], by omega, by omega⟩, HF, HG2⟩
              case measure => simp [intOf]; omega
    · have hin : i = m := by omega
      subst hin
      go_wp2_with fail
      go_ret
      have h1 := HIs.out
      rw [show (ivI l).take i = ivI l by rw [EM.out]; unfold ivI; rw [show l.length = (l.map (fun x => (⟨x.i, x.h, x.o⟩ : Hp.It))).length by simp, List.take_length]] at h1
      exact ⟨by rw [h1]; rfl, HG.out⟩
end Go.Proofs.YtidnaednldcdfaaGreatDoor
namespace Go.Proofs.YtidnaednldcdfaaGreatDoor
open Go.RowKit

/-- The numbers of a heap's block changed. -/
theorem MemAt.renum {w w' : World} {B : Nat} {v v' : HV} (h : MemAt w B v) (hb : Blk w' v.g 95 (hvC v')) (hk : Kept (fun k => k = v.g) w w') (e1 : v'.g = v.g) (e2 : v'.U = v.U) (e3 : v'.cu = v.cu) (e4 : v'.up = v.up) (e5 : v'.room = v.room) (e6 : v'.q = v.q) (e7 : v'.S = v.S) (e8 : v'.cs = v.cs) (e9 : v'.sl = v.sl) :
    Step w B v v' w' := by
  have ho : ∀ k, HOwns v' k ↔ HOwns v k := fun k => by unfold HOwns; rw [e1, e7, e9]
  refine ⟨⟨?_, by rw [e1]; exact h.low, ?_, fun ad e => ?_, fun ad e => Nat.lt_of_lt_of_le (h.upLt ad (by rw [← e2]; exact e)) hk.size, fun ad e => h.upLow ad (by rw [← e2]; exact e), ?_, fun i x hx => ?_, fun i k x y hx hy => ?_⟩, e1, e2, e3, e4, e5, e6, hk.mono (fun k _ e => .inl e), fun k hk => .inl ((ho k).1 hk)⟩
  · rw [e1]
    exact hb
  · rw [e2, e4]
    refine ⟨h.up.1, fun hl => ?_⟩
    obtain ⟨ad, h1, h2, h3⟩ := h.up.2 hl
    exact ⟨ad, h1, Nat.lt_of_lt_of_le h2 hk.size, fun j hj => (hk.cell (by rw [block_add]; exact h2) (by rw [block_add]; exact fun e => h.upNe ad h1 (.inl e))).trans (h3 j hj)⟩
  · rw [e2] at e
    exact fun hh => h.upNe ad e ((ho _).1 hh)
  · rw [e7, e8, e9]
    exact h.row.kept hk (fun g hA e => h.g_row ⟨_, hA, e⟩)
  · rw [e9] at hx
    exact ⟨(h.it i x hx).1, (h.it i x hx).2.1.kept hk (h.g_it hx).1, (h.it i x hx).2.2.kept hk (fun g hA e => (h.g_it hx).2 ⟨_, hA, e⟩)⟩
  · rw [e9] at hx hy
    exact h.dis i k x y hx hy
def cf (cs : List Int) (j : Nat) : Int := cs.getD j 0
theorem cnt_splice (v : HV) (hc : v.cn = fun _ => 0) (cs : List Int) (h : cs.length ≤ 8) : splice (hvC v).toList 18 (cs.flatMap intF) = (hvC (setCn v (cf cs))).toList := by
  obtain ⟨g, U, cu, up, room, q, us, cn, S, c, sl, n, fr⟩ := v
  simp only at hc
  subst hc
  match cs, h with
  | [], _ => rfl
  | [_], _ => rfl
  | [_, _], _ => rfl
  | [_, _, _], _ => rfl
  | [_, _, _, _], _ => rfl
  | [_, _, _, _, _], _ => rfl
  | [_, _, _, _, _, _], _ => rfl
  | [_, _, _, _, _, _, _], _ => rfl
  | [_, _, _, _, _, _, _, _], _ => rfl
  | _ :: _ :: _ :: _ :: _ :: _ :: _ :: _ :: _ :: _, h => simp at h
theorem itemsB_spec (n : Nat) (cs : List Int) : ∀ (L : List Hp.It) (least : Int), itemsB n cs least L = true → (∀ x ∈ L, least ≤ x.i ∧ x.i < 65536 ∧ Ob.mayB n x.o = true ∧ Ob.inB x.h (cs.getD x.o.lev.toNat 0) = true) ∧ Hp.Sorted L
  | [], least, _ => ⟨by simp, List.Pairwise.nil⟩
  | x :: r, least, h => by
    rw [itemsB, Bool.and_eq_true] at h
    obtain ⟨h1, h2⟩ := itemsB_spec n cs r (x.i + 1) h.2
    have h3 := h.1
    simp only [itemB, Bool.and_eq_true, decide_eq_true_eq] at h3
    refine ⟨fun y hy => ?_, List.pairwise_cons.2 ⟨fun y hy => by have := (h1 y hy).1; omega, h2⟩⟩
    rcases List.mem_cons.1 hy with rfl | hy
    · exact h3
    · have := h1 y hy
      exact ⟨by omega, this.2⟩
theorem Hp.ins_last {L : List Hp.It} {x : Hp.It} (h : ∀ y ∈ L, y.i < x.i) : Hp.ins L x = L ++ [x] := by
  unfold Hp.ins
  rw [List.filter_eq_self.2 (fun y hy => by simpa using h y hy), List.filter_eq_nil_iff.2 (fun y hy => by have := h y hy; simp; omega)]
def fitsAll (n : Nat) (L : List Hp.It) (room : Int) (q : Nat → Int) : Bool := decide ((Hp.all L : Int) ≤ room) && (List.range n).all (fun j => decide ((Hp.used L (j : Int) : Int) ≤ q j))
theorem fitsAll_spec {n : Nat} {L : List Hp.It} {room : Int} {q : Nat → Int} : fitsAll n L room q = true ↔ (Hp.all L : Int) ≤ room ∧ ∀ j : Nat, j < n → (Hp.used L (j : Int) : Int) ≤ q j := by
  unfold fitsAll
  rw [Bool.and_eq_true, decide_eq_true_eq, List.all_eq_true]
  simp
/-- One that has no room among the first has none at all. -/
theorem fits_no {n : Nat} {L M : List Hp.It} {x : Hp.It} {room : Int} {q : Nat → Int} (h : Hp.fits L room q x.o = false) (hm : Ob.mayB n x.o = true) : fitsAll n (L ++ x :: M) room q = false := by
  cases hb : fitsAll n (L ++ x :: M) room q
  · rfl
  · obtain ⟨h1, h2⟩ := fitsAll_spec.1 hb
    have hh := hp_head hm
    have e : ∀ p, Hp.sumIf p (L ++ x :: M) = Hp.sumIf p L + ((if p x then Hp.words x.o else 0) + Hp.sumIf p M) := fun p => by rw [Hp.sumIf_app]; rfl
    obtain ⟨j, hj⟩ : ∃ j : Nat, x.o.lev = (j : Int) := ⟨x.o.lev.toNat, by omega⟩
    have h3 := h2 j (by omega)
    unfold Hp.all at h1
    unfold Hp.used at h3
    rw [e] at h1 h3
    rw [if_pos rfl] at h1
    rw [if_pos (by simp [Hp.lvl, hj])] at h3
    have : Hp.fits L room q x.o = true := by
      unfold Hp.fits
      rw [Bool.and_eq_true, decide_eq_true_eq, decide_eq_true_eq, hj, Int.toNat_natCast]
      unfold Hp.all Hp.used
      omega
    rw [this] at h
    cases h
/-- What Load answers: an error's number. -/
def loadCode (up : List Nat) (room : Int) (quota : List Int) (L : List Hp.It) (cs : List Int) : Nat :=
  if newCode up room quota = 0 then (if cntsB up.length cs && itemsB up.length cs 0 L then (if fitsAll up.length L room (qf room quota) then 0 else 12) else 1) else newCode up room quota
def LoadV (w : World) (up : List Nat) (room : Int) (quota : List Int) (L : List Hp.It) (cs : List Int) (e : Ending) (w' : World) : Prop :=
  if loadCode up room quota L cs = 0 then ∃ v, e = .returned (.tuple #[.pointer (some ⟨v.g, 0, none⟩), .nilIface]) ∧ MemAt w' w.heap.size v ∧ HvOk v 2147483647 ∧ v.up = up ∧ v.room = room ∧ v.q = qf room quota ∧ v.cn = cf cs ∧ its v.sl = L ∧ Grew w w'
  else e = .returned (.tuple #[.pointer none, errVal (loadCode up room quota L cs)]) ∧ Grew w w'
theorem loadV_bad {w w' : World} {up : List Nat} {room : Int} {quota : List Int} {L : List Hp.It} {cs : List Int} (hg : Grew w w') (k : Nat) (hk : k ≠ 0) (h : loadCode up room quota L cs = k) : LoadV w up room quota L cs (.returned (.tuple #[.pointer none, errVal k])) w' := by
  unfold LoadV
  rw [h, if_neg hk]
  exact ⟨rfl, hg⟩
set_option maxRecDepth 100000 in
set_option maxHeartbeats 8000000 in
theorem hLoad_c (U0 : Option Addr) (cu : Nat) (up : List Nat) (room : Int) (A : Option Addr) (c : Nat) (quota : List Int) (Ai : Option Addr) (ci : Nat) (l : List IV) (A2 : Option Addr) (c2 : Nat) (cs : List Int) (w : World) (hn : up.length ≤ 20) (hU : BytesAt w w.heap.size U0 up) (h : IntsAt w A quota) (hl : quota.length ≤ 1000)
    (hi : ItemsAt w Ai l) (hil : l.length ≤ 65536) (h2 : IntsAt w A2 cs) (hcl : cs.length ≤ 1000) :
    Calls Tryz.prog 29 #[.agg #[.slice U0 up.length cu], .int .i64 room, .slice A quota.length c, .slice Ai l.length ci, .slice A2 cs.length c2] w (LoadV w up room quota (ivI l) cs) := by
  have HI := hid hi
  have HC := hid h2
  have HBad := hid (fun W (hW : Grew w W) k hk he => loadV_bad (up := up) (room := room) (quota := quota) (L := ivI l) (cs := cs) hW k hk he)
  have HNw := hid (fun W (hW : Grew w W) => hNew_c U0 cu up room A c quota W hn (hU.grew hW) (h.grew hW) hl)
  have HAC := hid (fun n (hn : n ≤ 1000) W (hW : Grew w W) => areCounts_c n A2 c2 cs W (h2.grew hW) hcl hn)
  have HAI := hid (fun n (hn : cs.length = n) (hn8 : n ≤ 8) W (hW : Grew w W) => areItems_c n Ai ci l A2 c2 cs W (hi.grew hW) hil (h2.grew hW) hn hn8)
  unfold NewV at HNw
  obtain ⟨un, eun⟩ : ∃ un, un = up.length := ⟨_, rfl⟩
  rw [← eun] at HNw ⊢
  have EUN := hid eun
  clear hU h hi h2 eun
  have HIL := hid hil
  generalize quota.length = qn at *
  obtain ⟨m, em⟩ : ∃ m, m = l.length := ⟨_, rfl⟩
  rw [← em] at HAI ⊢
  have EM := hid em
  obtain ⟨cn, ecn⟩ : ∃ cn, cn = cs.length := ⟨_, rfl⟩
  rw [← ecn] at HAC HAI ⊢
  have ECN := hid ecn
  have hmI : (m : Int) ≤ 65536 := by omega
  clear em ecn hn hl hcl hil
  have G1 := (Grew.refl w).alloc (.cells #[.slice U0 un cu] 50)
  have B1 := Blk.new w 50 #[.slice U0 un cu]
  go_enter Tryz.func29, Tryz.ntmps29
  go_upto_region 1 with fail
  generalize w.alloc (.cells #[.slice U0 un cu] 50) = w1 at *
  generalize w.heap.size = gl at *
  have HG1 := hid G1
  have q0 := B1.cell 0
  have ql := B1.lt
  simp only [List.getElem?_toArray, List.getElem?_cons_zero] at q0
  clear G1 B1
  by_cases hnc : newCode up room quota = 0
  · have HNC := hid hnc
    have hcall := HNw.out w1 HG1.out
    simp only [if_pos hnc] at hcall
    clear hnc HNw
    go_upto_region 4 with (go_at_call 15; refine hcall.mono ?_; rintro e w2 ⟨v, rfl, hm, hv, h1, h2, h3, h4, h5, hg2⟩)
    have HM := hid (hm.base HG1.out.below.size)
    have HV := hid hv
    have HE := hid (show v.up = up ∧ v.room = room ∧ v.q = qf room quota ∧ v.cn = (fun _ => 0) ∧ v.sl = [] from ⟨h1, h2, h3, h4, h5⟩)
    have HG2 := hid (HG1.out.trans hg2)
    have hun8 : un ≤ 8 := by rw [EUN.out, ← h1]; exact hv.lens.2
    have HUn1 := hid (show 1 ≤ un by rw [EUN.out, ← h1]; exact hv.lens.1)
    have HLv := hid (fun W (hW : Grew w2 W) => hLevels_c v w1.heap.size W (hm.grew hW))
    rw [h1, ← EUN.out] at HLv
    obtain ⟨sg, esg⟩ : ∃ sg, sg = v.g := ⟨_, rfl⟩
    rw [← esg] at HLv ⊢
    have ESG := hid esg
    clear hm hv h1 h2 h3 h4 h5 hg2 hcall q0 ql esg
    have HACu := hid (fun W (hW : Grew w W) => HAC.out un (by omega) W hW)
    have HCode := hid (show loadCode up room quota (ivI l) cs = (if cntsB un cs && itemsB un cs 0 (ivI l) then (if fitsAll un (ivI l) room (qf room quota) then 0 else 12) else 1) by unfold loadCode; rw [if_pos HNC.out, ← EUN.out])
    have HCs := hid (show cntsB un cs = true → cs.length = un by intro h; unfold cntsB at h; rw [Bool.and_eq_true, decide_eq_true_eq] at h; exact h.1)
    obtain ⟨bc, ebc⟩ : ∃ bc, bc = cntsB un cs := ⟨_, rfl⟩
    rw [← ebc] at HACu HCode HCs
    have EBC := hid ebc
    clear ebc HAC
    cases bc
    · have HC1 := hid (show loadCode up room quota (ivI l) cs = 1 from HCode.out)
      clear HCode HCs HAI
      go_wp2_with first | (go_at_call 35; refine (HLv.out _ (Grew.refl _)).mono ?_; rintro e w3 ⟨rfl, hg3⟩) | (go_at_call 62; refine (HACu.out _ (HG2.out.trans hg3)).mono ?_; rintro e w4 ⟨rfl, hg4⟩)
      go_ret2
      exact HBad.out _ ((HG2.out.trans hg3).trans hg4) 1 (by decide) HC1.out
    · have hcu : cn = un := by rw [ECN.out]; exact HCs.out rfl
      subst hcu
      have HAIu := hid (fun W (hW : Grew w W) => HAI.out cn rfl hun8 W hW)
      rw [Bool.true_and] at HCode
      obtain ⟨bi, ebi⟩ : ∃ bi, bi = itemsB cn cs 0 (ivI l) := ⟨_, rfl⟩
      rw [← ebi] at HAIu HCode
      have EBI := hid ebi
      clear ebi HAI HCs
      cases bi
      · have HC1 := hid (show loadCode up room quota (ivI l) cs = 1 from HCode.out)
        clear HCode
        go_wp2_with first | (go_at_call 63; refine (HAIu.out _ ((HG2.out.trans hg3).trans (hg4.trans hg5))).mono ?_; rintro e w6 ⟨rfl, hg6⟩) | (go_at_call 62; refine (HACu.out _ (HG2.out.trans hg3)).mono ?_; rintro e w4 ⟨rfl, hg4⟩) | (go_at_call 35; refine (HLv.out _ (hg3.trans hg4)).mono ?_; rintro e w5 ⟨rfl, hg5⟩) | (go_at_call 35; refine (HLv.out _ (Grew.refl _)).mono ?_; rintro e w3 ⟨rfl, hg3⟩)
        go_ret2
        exact HBad.out _ (((HG2.out.trans hg3).trans (hg4.trans hg5)).trans hg6) 1 (by decide) HC1.out
      · go_upto_region 6 with first | (go_at_call 63; refine (HAIu.out _ ((HG2.out.trans hg3).trans (hg4.trans hg5))).mono ?_; rintro e w6 ⟨rfl, hg6⟩) | (go_at_call 62; refine (HACu.out _ (HG2.out.trans hg3)).mono ?_; rintro e w4 ⟨rfl, hg4⟩) | (go_at_call 35; refine (HLv.out _ (hg3.trans hg4)).mono ?_; rintro e w5 ⟨rfl, hg5⟩) | (go_at_call 35; refine (HLv.out _ (Grew.refl _)).mono ?_; rintro e w3 ⟨rfl, hg3⟩)
        have hgr := (hg3.trans (hg4.trans hg5)).trans hg6
        have HM6 := hid (HM.out.grew hgr)
        have HG6 := hid (HG2.out.trans hgr)
        clear hg3 hg4 hg5 hg6 hgr HLv HACu HAIu HM HG2
        have HCI := hid (HC.out.grew HG6.out)
        obtain ⟨a2, rfl, hbq, hcq⟩ := HCI.out (by rw [← ECN.out]; have := HUn1.out; omega)
        obtain ⟨w7, hrun, hb7, hk7⟩ := run_copyS (P := Tryz.prog) 1 w6 23 23 3 3 sg 18 8 8 a2 cn c2 (hvC v).toList 95 (cs.flatMap intF) Tryz.underlying23 (by kernel_rfl) (by rw [ESG.out]; exact HM6.out.blk) (by rw [flatMap_length intF_len, ← ECN.out, show Nat.min cn 8 = cn from Nat.min_eq_left hun8]) (flat_cell (by decide) intF_len hcq) (by rw [flatMap_length intF_len, ← ECN.out]; show 18 + cn * 1 ≤ 29; omega) (fun u hu => by
          obtain ⟨x, _, h⟩ := List.mem_flatMap.1 hu
          simp only [intF, List.mem_singleton] at h
          rw [h]; rfl)
        rw [cnt_splice v HE.out.2.2.2.1 cs (by rw [← ECN.out]; exact hun8)] at hb7
        have HS7 := hid (HM6.out.renum (v' := setCn v (cf cs)) (by rw [← ESG.out]; exact hb7) (by rw [← ESG.out]; exact hk7) rfl rfl rfl rfl rfl rfl rfl rfl rfl)
        have HG7 := hid (hk7.grew HG6.out (fun k e => by subst e; rw [ESG.out]; exact HM6.out.low))
        have h0q := hid (show 0 ≤ sg from Nat.zero_le _)
        have HV7 : Hid (HvOk (setCn v (cf cs)) 2147483647) := hid (by
          have hv := HV.out
          refine ⟨hv.valid, hv.room, hv.q, fun j => ?_, hv.us, hv.n, hv.ok, hv.hs, hv.fit, hv.fitAll, hv.len, hv.fr, by decide⟩
          show 0 ≤ cf cs j ∧ cf cs j ≤ 2147483647
          unfold cf
          rw [List.getD_eq_getElem?_getD]
          cases hj : cs[j]? with
          | none => exact ⟨by decide, by decide⟩
          | some x =>
            have h1 := EBC.out
            unfold cntsB at h1
            have h2 := (Bool.and_eq_true_iff.1 h1.symm).2
            have h3 := List.all_eq_true.1 h2 x (List.mem_of_getElem? hj)
            simpa [cntB] using h3)
        have HSp := hid (itemsB_spec cn cs (ivI l) 0 EBI.out.symm)
        clear hb7 hk7 hbq hcq HCI HM6 HG6
        go_upto_region 7 with fail
        clear hrun
        have HEv := hid (show (setCn v (cf cs)).g = sg ∧ (setCn v (cf cs)).up = up ∧ (setCn v (cf cs)).room = room ∧ (setCn v (cf cs)).q = qf room quota ∧ (setCn v (cf cs)).cn = cf cs ∧ its (setCn v (cf cs)).sl = [] from ⟨ESG.out.symm, HE.out.1, HE.out.2.1, HE.out.2.2.1, rfl, by show its v.sl = []; rw [HE.out.2.2.2.2]; rfl⟩)
        have HM7 := hid HS7.out.mem
        clear HS7
        generalize setCn v (cf cs) = v7 at *
        clear HE HV
        go_wp2_with fail
        go_loopw [15, 48] (fun _ s48 wr => ∃ (i : Nat) (v1 : HV), s48 = .int .i64 ((i : Nat) : Int) ∧ i ≤ m ∧ Hid (MemAt wr w.heap.size v1) ∧ Hid (HvOk v1 2147483647) ∧ Hid (v1.g = sg ∧ v1.up = up ∧ v1.room = room ∧ v1.q = qf room quota ∧ v1.cn = cf cs) ∧ Hid (its v1.sl = (ivI l).take i) ∧ Hid (Grew w wr)) (fun _ s48 _ => m - (intOf s48).toNat)
        case atStart => exact ⟨0, v7, rfl, Nat.zero_le _, HM7, HV7, hid ⟨HEv.out.1, HEv.out.2.1, HEv.out.2.2.1, HEv.out.2.2.2.1, HEv.out.2.2.2.2.1⟩, hid (by rw [HEv.out.2.2.2.2.2, List.take_zero]), HG7⟩
        case round =>
          obtain ⟨i, v1, rfl, hi, HM1, HO, HE1, HL1, HG⟩ := hrel
          by_cases hlt : i < m
          · have f1 : (i : Int) < (m : Int) := by omega
            obtain ⟨ad, x, rfl, hx, hcl, hb, hok, hxi, hxh⟩ := iv_at HI.out HG.out (i := i) (by rw [← EM.out]; exact hlt)
            have hxI : (ivI l)[i]? = some ⟨x.i, x.h, x.o⟩ := by unfold ivI; rw [List.getElem?_map, hx]; rfl
            have HTk := hid (show (ivI l).take (i + 1) = (ivI l).take i ++ [⟨x.i, x.h, x.o⟩] by rw [List.take_add_one, hxI]; rfl)
            have HDr := hid (show ivI l = (ivI l).take i ++ ⟨x.i, x.h, x.o⟩ :: (ivI l).drop (i + 1) by
              conv => lhs; rw [← List.take_append_drop (i + 1) (ivI l), HTk.out]
              simp)
            have hsx := HSp.out.1 _ (List.mem_of_getElem? hxI)
            simp only at hsx
            have HLt := hid (show ∀ y ∈ (ivI l).take i, y.i < x.i from fun y hy => by
              have h1 := HSp.out.2
              rw [HDr.out] at h1
              exact (List.pairwise_append.1 h1).2.2 y hy _ (List.mem_cons_self ..))
            have HMay := hid (show Ob.mayB v1.up.length x.o = true by rw [HE1.out.2.1, ← EUN.out]; exact hsx.2.2.1)
            have hh := hp_head hsx.2.2.1
            obtain ⟨xn, hxn⟩ : ∃ xn : Nat, x.i = (xn : Int) := ⟨x.i.toNat, by have := hsx.1; omega⟩
            have hxn6 : xn < 65536 := by have := hsx.2.1; omega
            obtain ⟨j, ej⟩ : ∃ j : Nat, x.o.lev = (j : Int) := ⟨x.o.lev.toNat, by omega⟩
            have hj8 : j < 8 := by omega
            have HHR := hid (fun W (hW : Grew wr W) => hasRoom_c v1 w.heap.size 2147483647 x.o x.A x.c W (HM1.out.grew hW) HO.out HMay.out)
            have HPl := hid (fun W (hW : Grew wr W) => place_c v1 w.heap.size xn x.h ⟨x.o, x.A, x.c⟩ x.o rfl j W (HM1.out.grew hW) HO.out.len hxn6 (hok.grew hW) (by simp only; omega) (by simp only; omega) ej hj8 (by have := HO.out.usB j; omega) (by have h1 := HO.out.n; have h2 := HO.out.small; omega))
            have HNo := hid (show hasB v1.sl (xn : Int) = false by
              rw [hasB_find, Option.isSome_eq_false_iff, Option.isNone_iff_eq_none, Hp.find_none]
              intro y hy
              rw [HL1.out] at hy
              have := HLt.out y hy
              omega)
            have HXh := hid hxh
            have HJ := hid ej
            have HXN := hid hxn
            rw [HE1.out.1] at HHR HPl
            have q0 := hcl 0 _ rfl
            have q1 := hcl 1 _ rfl
            have q2 := hcl 2 _ rfl
            have q3 := hcl 3 _ rfl
            have q4 := hcl 4 _ rfl
            have q5 := hcl 5 _ rfl
            rw [add_zero] at q0
            rw [add_pos (by decide), block_add] at q1 q2 q3 q4 q5
            rw [hxn] at q0
            obtain ⟨bf, ebf⟩ : ∃ bf, bf = Hp.fits (its v1.sl) v1.room v1.q x.o := ⟨_, rfl⟩
            rw [← ebf] at HHR
            have EBF := hid ebf
            clear hx hxI hcl hok hxi hxh hsx hh ej hxn ebf
            obtain ⟨xi, xh, o, xA, xc⟩ := x
            simp only at q0 q1 q2 q3 q4 q5 HHR HPl EBF HTk HDr HLt HMay HXh HJ HXN
            obtain ⟨o0, eo0⟩ : ∃ o0, o0 = o := ⟨_, rfl⟩
            rw [← eo0] at EBF HTk HDr HMay HJ
            have HPl0 : Hid (∀ W, Grew wr W → Calls Tryz.prog 38 #[.pointer (some ⟨sg, 0, none⟩), .agg #[.int .i64 (xn : Int), .int .i64 xh, .int .i64 o.cls, .int .i64 o.lev, .slice xA o.f.length xc, .string o.b]] W fun e w' => e = .returned (.tuple #[]) ∧ PlaceIn W w.heap.size v1 xn xh o0 j w') := hid (fun W hW => by rw [eo0]; exact HPl.out W hW)
            clear HPl eo0
            obtain ⟨cls, lev, f, bt⟩ := o
            simp only at q2 q3 q4 q5 HHR HPl0
            generalize f.length = fm at *
            have B1 := Blk.new wr 89 #[.int .i64 (xn : Int), .int .i64 xh, .int .i64 cls, .int .i64 lev, .slice xA fm xc, .string bt]
            have G1 := (Grew.refl wr).alloc (.cells #[.int .i64 (xn : Int), .int .i64 xh, .int .i64 cls, .int .i64 lev, .slice xA fm xc, .string bt] 89)
            go_upto_region 10 with fail
            generalize wr.alloc (.cells #[.int .i64 (xn : Int), .int .i64 xh, .int .i64 cls, .int .i64 lev, .slice xA fm xc, .string bt] 89) = w8 at *
            obtain ⟨gx, egx⟩ : ∃ gx, gx = wr.heap.size := ⟨_, rfl⟩
            rw [← egx] at B1 ⊢
            have HB1 := hid B1
            have HG1 := hid G1
            clear B1 G1 q0 q1 q2 q3 q4 q5 hb egx
            have p0 := HB1.out.cell 0
            have p1 := HB1.out.cell 1
            have p2 := HB1.out.cell 2
            have p3 := HB1.out.cell 3
            have p4 := HB1.out.cell 4
            have p5 := HB1.out.cell 5
            have pl := HB1.out.lt
            simp only [List.getElem?_toArray, List.getElem?_cons_zero, List.getElem?_cons_succ] at p0 p1 p2 p3 p4 p5
            cases bf
            · have HC12 := hid (show loadCode up room quota (ivI l) cs = 12 by
                have h1 := EBF.out.symm
                rw [HL1.out, HE1.out.2.2.1, HE1.out.2.2.2.1] at h1
                have h2 := fits_no (n := cn) (M := (ivI l).drop (i + 1)) (x := ⟨xi, xh, o0⟩) h1 (by have := HMay.out; rw [HE1.out.2.1, ← EUN.out] at this; exact this)
                rw [HCode.out, HDr.out, h2]
                rfl)
              go_wp2_with (go_at_call 36; refine (HHR.out _ HG1.out).mono ?_; rintro e w9 ⟨rfl, hg9⟩)
              go_ret2
              exact HBad.out _ ((HG.out.trans HG1.out).trans hg9) 12 (by decide) HC12.out
            · go_upto_region 12 with (go_at_call 36; refine (HHR.out _ HG1.out).mono ?_; rintro e w9 ⟨rfl, hg9⟩)
              have HB9 := hid (HB1.out.grew hg9)
              have HG9 := hid (HG1.out.trans hg9)
              clear p0 p1 p2 p3 p4 p5 pl hg9 HB1 HG1 HHR
              have p0 := HB9.out.cell 0
              have p1 := HB9.out.cell 1
              have p2 := HB9.out.cell 2
              have p3 := HB9.out.cell 3
              have p4 := HB9.out.cell 4
              have p5 := HB9.out.cell 5
              have pl := HB9.out.lt
              simp only [List.getElem?_toArray, List.getElem?_cons_zero, List.getElem?_cons_succ] at p0 p1 p2 p3 p4 p5
              go_wp2_with (go_at_call 38; refine (HPl0.out _ HG9.out).mono ?_; rintro e w10 ⟨rfl, S', cs', r, x, hx1, hx2, hx3, hx4, hst⟩; have HX1 := hid hx1; have HX2 := hid hx2; have HX3 := hid hx3; have HX4 := hid hx4; have HSt := hid hst; clear hx1 hx2 hx3 hx4 hst p0 p1 p2 p3 p4 p5 pl)
              obtain ⟨v2, ev2⟩ : ∃ v2, v2 = setUN (setSl v1 S' cs' ((v1.sl ++ List.replicate r none).set xn (some x))) (upd v1.us j (v1.us j + (Hp.words o0 : Nat))) (v1.n + 1) := ⟨_, rfl⟩
              have EV2 := hid ev2
              rw [← ev2] at HSt
              clear ev2
              have HOk := hid (place_ok (v' := v2) HO.out HX3.out HNo.out (HX4.out HO.out.len) (by rw [HX2.out]; exact HMay.out) (by rw [HX2.out]; exact HJ.out) (by rw [HX1.out]; exact HXh.out) (by rw [HX2.out]; exact EBF.out.symm) (by rw [EV2.out]; rfl) (by rw [EV2.out]; rfl) (by rw [EV2.out]; rfl) (fun k => by rw [EV2.out]; exact HO.out.cn k) (by rw [EV2.out]; rfl) (by rw [EV2.out, HX2.out]; rfl) (by rw [EV2.out]; rfl) (by rw [EV2.out]; exact HO.out.fr))
              go_round
              case rel =>
                refine ⟨i + 1, v2, by go_num, by omega, hid HSt.out.mem, hid HOk.out.1, hid ?_, hid ?_, hid (HSt.out.kept.grew (HG.out.trans HG9.out) (fun k hk => (HM1.out.owns hk).1))⟩
                · rw [EV2.out]
                  exact HE1.out
                · rw [HOk.out.2, HL1.out, HX1.out, HX2.out, HTk.out, ← HXN.out]
                  exact Hp.ins_last HLt.out
              case measure => simp [intOf]; omega
          · have f1 : ¬ (i : Int) < (m : Int) := by omega
            have HLe := hid (show its v1.sl = ivI l by
              rw [HL1.out, show i = (ivI l).length by unfold ivI; rw [List.length_map, ← EM.out]; omega, List.take_length])
            have HC0 := hid (show loadCode up room quota (ivI l) cs = 0 by
              rw [HCode.out, if_pos trivial, if_pos]
              refine fitsAll_spec.2 ⟨?_, fun j hj => ?_⟩
              · rw [← HLe.out, ← HE1.out.2.2.1]
                exact HO.out.fitAll
              · rw [← HLe.out, ← HE1.out.2.2.2.1]
                exact HO.out.fit j (by rw [HE1.out.2.1, ← EUN.out]; exact hj))
            go_wp2_with fail
            go_ret2
            unfold LoadV
            rw [if_pos HC0.out]
            exact ⟨v1, by rw [HE1.out.1]; rfl, HM1.out, HO.out, HE1.out.2.1, HE1.out.2.2.1, HE1.out.2.2.2.1, HE1.out.2.2.2.2, HLe.out, HG.out⟩
  · have HNC := hid hnc
    have hcall := HNw.out w1 HG1.out
    simp only [if_neg hnc] at hcall
    simp only [show errVal (newCode up room quota) = .iface 91 (.int .i64 ((newCode up room quota : Nat) : Int)) from if_neg hnc] at hcall
    clear HNw
    have HC1 := hid (show loadCode up room quota (ivI l) cs = newCode up room quota by unfold loadCode; rw [if_neg hnc])
    clear hnc
    go_wp2_with (go_at_call 15; refine hcall.mono ?_; rintro e w2 ⟨rfl, hg2⟩)
    go_ret2
    have h1 := HBad.out _ (HG1.out.trans hg2) (newCode up room quota) HNC.out HC1.out
    rw [show errVal (newCode up room quota) = .iface 91 (.int .i64 ((newCode up room quota : Nat) : Int)) from if_neg HNC.out] at h1
    exact h1
end Go.Proofs.YtidnaednldcdfaaGreatDoor
